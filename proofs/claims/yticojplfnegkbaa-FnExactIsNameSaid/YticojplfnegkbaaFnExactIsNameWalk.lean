/- The law of IsName, walked out of the contracts. Conditions: the text's length fits an int. -/
import Derived.Test.YticojplfnegkbaaNameWord
import Derived.Below
namespace Go.Proofs.Yticojplfnegkbaa.FnExactIsNameW
open Go.RowKit Lexs
theorem core (a : ByteArray) (w : World) (b : Bool) (_ha : a.size ≤ 1048576)
    (c1 : Calls Try.prog 5 #[.string a] w fun e w' => e = .returned (.bool b) ∧ w = w')
    (c2 : Calls Try.prog 6 #[.string a] w fun e w' => e = .returned (.bool b) ∧ w = w') :
    Calls Try.prog 3 #[.string a] w fun e w' => e = .returned (.bool true) ∧ Below w.heap.size w w' := by
  have C1 := Lib.hid c1
  have C2 := Lib.hid c2
  clear c1 c2
  go_enter Try.func3, Try.ntmps3
  go_wp2_with fail
  refine C1.out.mono ?_
  rintro e w1 ⟨rfl, rfl⟩
  go_wp2_with fail
  refine C2.out.mono ?_
  rintro e w1 ⟨rfl, rfl⟩
  cases b
  all_goals
    go_wp2
    go_ret
    exact ⟨rfl, Below.refl _ _⟩
theorem walk (a : ByteArray) (w : World) (wa : a.size ≤ maxLen) :
    Calls Try.prog 3 #[.string a] w fun e w' => e = .returned (.bool true) ∧ Below w.heap.size w w' := by
  unfold maxLen at wa
  by_cases h2 : a.size ≤ 1048576
  · exact core a w _ h2 (specIsName_any a w (by omega)) (implIsName_any a w (by omega))
  · go_enter Try.func3, Try.ntmps3
    go_wp2
    go_ret
    exact ⟨rfl, Below.refl _ _⟩
end Go.Proofs.Yticojplfnegkbaa.FnExactIsNameW
