/- A right term is right where more may stand within it. Without conditions. -/
import Derived.Test.YtkfeiekgdfklmaaGreatDoorTermRight
namespace Go.Proofs.YtkfeiekgdfklmaaGreatDoor.Trm
open Go.RowKit Own Lexs
mutual
theorem right_more_room : ∀ (t : Tree) {r r2 : Nat}, r ≤ r2 → rightB t r = true → rightB t r2 = true
  | .node k n s ks, r, r2, h, ht => by
    rw [rightB] at ht ⊢
    by_cases h1 : k = 1
    · rw [if_pos h1] at ht ⊢; exact ht
    · rw [if_neg h1] at ht ⊢
      by_cases h2 : k = 2
      · rw [if_pos h2] at ht ⊢; exact ht
      · rw [if_neg h2] at ht ⊢
        simp only [Bool.and_eq_true, decide_eq_true_eq] at ht ⊢
        obtain ⟨⟨hh, hr⟩, hs⟩ := ht
        exact ⟨⟨hh, by omega⟩, right_more_roomS ks (by omega) hs⟩
theorem right_more_roomS : ∀ (ks : List Tree) {r r2 : Nat}, r ≤ r2 → rightS ks r = true → rightS ks r2 = true
  | [], _, _, _, _ => by rw [rightS]
  | t :: ts, r, r2, h, ht => by
    rw [rightS, Bool.and_eq_true] at ht ⊢
    exact ⟨right_more_room t h ht.1, right_more_roomS ts h ht.2⟩
end
end Go.Proofs.YtkfeiekgdfklmaaGreatDoor.Trm
