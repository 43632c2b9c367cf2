/- The law of Hex, walked out of the two contracts. Conditions: none. -/
import Derived.Test.YtpoibodnjjbjeaaHexSpec
import Derived.Test.YtpoibodnjjbjeaaHexImpl
namespace Go.Proofs.Ytpoibodnjjbjeaa.FnExactHexW
open Go.RowKit Hexes
theorem walk (a : ByteArray) (w : World) (wa : a.size ≤ maxLen) :
    Calls Try.prog 3 #[.string a] w fun e w' => e = .returned (.bool true) ∧ Below w.heap.size w w' := by
  unfold maxLen at wa
  by_cases h1 : a.size ≤ 20000
  · go_enter Try.func3, Try.ntmps3
    go_wp2_with (first
      | (go_at_call 7; refine (specHex_short a _ h1).mono ?_; rintro e w1 ⟨rfl, hb1⟩)
      | (go_at_call 8; refine (implHex_short a _ h1).mono ?_; rintro e w2 ⟨rfl, hb2⟩))
    go_ret
    exact ⟨rfl, hb1.trans (hb2.mono hb1.size)⟩
  · by_cases h2 : a.size ≤ 1048576
    · go_enter Try.func3, Try.ntmps3
      go_wp2_with (first
        | (go_at_call 7; refine (specHex_long a _ (by omega) (by omega)).mono ?_; rintro e w1 ⟨rfl, hb1⟩)
        | (go_at_call 8; refine (implHex_long a _ (by omega) (by omega)).mono ?_; rintro e w2 ⟨rfl, hb2⟩))
      go_ret
      exact ⟨rfl, hb1.trans (hb2.mono hb1.size)⟩
    · go_enter Try.func3, Try.ntmps3
      go_wp2
      go_ret
      exact ⟨rfl, Below.refl _ _⟩
end Go.Proofs.Ytpoibodnjjbjeaa.FnExactHexW
