/- The law of Unhex, walked out of the two contracts. Conditions: none. -/
import Derived.Test.YtpoibodnjjbjeaaUnhexSpec
import Derived.Test.YtpoibodnjjbjeaaUnhexImpl
import Derived.Lib.Hide
namespace Go.Proofs.Ytpoibodnjjbjeaa.FnExactUnhexW
open Go.RowKit Unhexes
theorem core (a : ByteArray) (w : World) (o : Option (List UInt8)) (_h : a.size ≤ 1048576)
    (c1 : ∀ w, Calls Try.prog 9 #[.string a] w fun e w' => e = outU o ∧ Below w.heap.size w w')
    (c2 : ∀ w, Calls Try.prog 10 #[.string a] w fun e w' => e = outU o ∧ Below w.heap.size w w') :
    Calls Try.prog 4 #[.string a] w fun e w' => e = .returned (.bool true) ∧ Below w.heap.size w w' := by
  have C1 := Lib.hid c1
  have C2 := Lib.hid c2
  clear c1 c2
  cases o with
  | some l =>
    go_enter Try.func4, Try.ntmps4
    go_wp2_with (first
      | (go_at_call 9; refine (C1.out _).mono ?_; rintro e w1 ⟨rfl, hb1⟩; unfold outU)
      | (go_at_call 10; refine (C2.out _).mono ?_; rintro e w2 ⟨rfl, hb2⟩; unfold outU))
    go_ret
    exact ⟨rfl, hb1.trans (hb2.mono hb1.size)⟩
  | none =>
    go_enter Try.func4, Try.ntmps4
    go_wp2_with (first
      | (go_at_call 9; refine (C1.out _).mono ?_; rintro e w1 ⟨rfl, hb1⟩; unfold outU)
      | (go_at_call 10; refine (C2.out _).mono ?_; rintro e w2 ⟨rfl, hb2⟩; unfold outU))
    go_ret
    exact ⟨rfl, hb1.trans (hb2.mono hb1.size)⟩
theorem walk (a : ByteArray) (w : World) (wa : a.size ≤ maxLen) :
    Calls Try.prog 4 #[.string a] w fun e w' => e = .returned (.bool true) ∧ Below w.heap.size w w' := by
  unfold maxLen at wa
  by_cases h2 : a.size ≤ 1048576
  · by_cases h1 : a.size ≤ 40000 ∧ a.size % 2 = 0
    · exact core a w _ h2 (fun w => specUnhex_even a w h1.1 h1.2) (fun w => implUnhex_even a w h1.1 h1.2)
    · exact core a w none h2 (fun w => specUnhex_not a w (by omega) (by omega)) (fun w => implUnhex_not a w (by omega) (by omega))
  · go_enter Try.func4, Try.ntmps4
    go_wp2
    go_ret
    exact ⟨rfl, Below.refl _ _⟩
end Go.Proofs.Ytpoibodnjjbjeaa.FnExactUnhexW
