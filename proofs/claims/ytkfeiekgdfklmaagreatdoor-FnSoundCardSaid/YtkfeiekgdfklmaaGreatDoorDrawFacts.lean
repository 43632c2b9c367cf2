/- What is true of drawn terms. Without conditions. -/
import Derived.Test.YtkfeiekgdfklmaaGreatDoorDrawTerm
import Derived.Test.YtkfeiekgdfklmaaGreatDoorTermRight
import Derived.Test.YtkfeiekgdfklmaaGreatDoorTermSize
namespace Go.Proofs.YtkfeiekgdfklmaaGreatDoor.Cur
open Go.RowKit Own Trm Lexs
/-- The term that a code draws. -/
def drawnT (bs : List UInt8) : Tree := (drawT bs 3 (newS bs)).1
/-- A drawn term is right. -/
theorem leafT_right (bs : List UInt8) (k : Nat) (s : St) (r : Nat) : rightB (leafT bs k s).1 r = true := by
  unfold leafT
  split
  · have h := pickN_lt bs 8 s (by decide)
    show rightB (.node 1 (numsL.getD (pickN bs 8 s) 0) ⟨#[]⟩ []) r = true
    generalize pickN bs 8 s = j at h
    rw [rightB, if_pos rfl]
    match j, h with
    | 0, _ => decide
    | 1, _ => decide
    | 2, _ => decide
    | 3, _ => decide
    | 4, _ => decide
    | 5, _ => decide
    | 6, _ => decide
    | 7, _ => decide
  · have h := pickN_lt bs 5 s (by decide)
    show rightB (.node 2 0 (namesL.getD (pickN bs 5 s) ByteArray.empty) []) r = true
    generalize pickN bs 5 s = j at h
    rw [rightB, if_neg (by decide), if_pos rfl]
    match j, h with
    | 0, _ => decide +kernel
    | 1, _ => decide +kernel
    | 2, _ => decide +kernel
    | 3, _ => decide +kernel
    | 4, _ => decide +kernel
theorem kinds_are (bs : List UInt8) (s : St) : 3 ≤ kindsL.getD (pickN bs 6 s) 0 ∧ kindsL.getD (pickN bs 6 s) 0 ≤ 9 ∧ kindsL.getD (pickN bs 6 s) 0 ≠ 8 := by
  have h := pickN_lt bs 6 s (by decide)
  generalize pickN bs 6 s = j at h
  match j, h with
  | 0, _ => decide
  | 1, _ => decide
  | 2, _ => decide
  | 3, _ => decide
  | 4, _ => decide
  | 5, _ => decide
theorem drawT_right (bs : List UInt8) : ∀ (d : Nat) (s : St) (r : Nat), d ≤ r → rightB (drawT bs d s).1 r = true
  | 0, s, r, _ => by
    rw [drawT]
    exact leafT_right _ _ _ _
  | d + 1, s, r, h => by
    have hr : r ≠ 0 := by omega
    have i1 := drawT_right bs d (belowS bs 12 s) (r - 1) (by omega)
    have i2 := drawT_right bs d (belowS bs 6 (belowS bs 12 s)) (r - 1) (by omega)
    have i3 := drawT_right bs d (drawT bs d (belowS bs 6 (belowS bs 12 s))).2 (r - 1) (by omega)
    rw [drawT]
    split
    · exact leafT_right _ _ _ _
    · split
      · show rightB (.node 8 0 ⟨#[]⟩ [_]) r = true
        rw [rightB, if_neg (by decide), if_neg (by decide), rightS, rightS, i1]
        simp [manyK, hr]
        rfl
      · obtain ⟨k1, k2, k3⟩ := kinds_are bs (belowS bs 12 s)
        show rightB (.node (kindsL.getD (pickN bs 6 (belowS bs 12 s)) 0) 0 ⟨#[]⟩ [_, _]) r = true
        generalize kindsL.getD (pickN bs 6 (belowS bs 12 s)) 0 = k at k1 k2 k3
        rw [rightB, if_neg (by omega), if_neg (by omega), rightS, rightS, rightS, i2, i3]
        simp [manyK, k3, k1, k2, hr]
        rfl
theorem drawn_right (bs : List UInt8) : okB (drawnT bs) = true := drawT_right bs 3 _ 6 (by decide)
/-- A drawn term is small. -/
theorem leafT_size (bs : List UInt8) (k : Nat) (s : St) : szT (leafT bs k s).1 ≤ 2 := by
  unfold leafT
  split
  · show szT (.node 1 _ ⟨#[]⟩ []) ≤ 2
    rw [szT]; simp [szS]; decide
  · have h := pickN_lt bs 5 s (by decide)
    show szT (.node 2 0 (namesL.getD (pickN bs 5 s) ByteArray.empty) []) ≤ 2
    generalize pickN bs 5 s = j at h
    rw [szT]; simp only [List.length_nil, szS]
    match j, h with
    | 0, _ => decide
    | 1, _ => decide
    | 2, _ => decide
    | 3, _ => decide
    | 4, _ => decide
theorem drawT_size (bs : List UInt8) : ∀ (d : Nat) (s : St), szT (drawT bs d s).1 + 2 ≤ 4 * 2 ^ d
  | 0, s => by
    rw [drawT]
    have := leafT_size bs (if 6 ≤ pickN bs 12 s then pickN bs 12 s - 6 else pickN bs 12 s) (belowS bs 12 s)
    simp; omega
  | d + 1, s => by
    have hp : 1 ≤ 2 ^ d := Nat.one_le_two_pow
    have i1 := drawT_size bs d (belowS bs 12 s)
    have i2 := drawT_size bs d (belowS bs 6 (belowS bs 12 s))
    have i3 := drawT_size bs d (drawT bs d (belowS bs 6 (belowS bs 12 s))).2
    rw [drawT, Nat.pow_succ]
    split
    · have := leafT_size bs (pickN bs 12 s) (belowS bs 12 s); omega
    · split
      · show szT (.node 8 0 ⟨#[]⟩ [_]) + 2 ≤ _
        rw [szT, szS, szS, show ByteArray.size ⟨#[]⟩ = 0 from rfl]
        simp only [List.length_cons, List.length_nil]
        omega
      · show szT (.node _ 0 ⟨#[]⟩ [_, _]) + 2 ≤ _
        rw [szT, szS, szS, szS, show ByteArray.size ⟨#[]⟩ = 0 from rfl]
        simp only [List.length_cons, List.length_nil]
        omega
theorem drawn_size (bs : List UInt8) : szT (drawnT bs) ≤ 30 := by
  have := drawT_size bs 3 (newS bs)
  unfold drawnT
  have e : 4 * 2 ^ 3 = 32 := by decide
  omega
theorem drawn_room (bs : List UInt8) : rightB (drawnT bs) 3 = true := drawT_right bs 3 _ 3 (by decide)
end Go.Proofs.YtkfeiekgdfklmaaGreatDoor.Cur
