/- Rows of structs of two cells that a call owns. Without conditions. -/
import Derived.Test.YtabpbmifegfmgaaRowWord
namespace Go.Proofs.Ytabpbmifegfmgaa.Trm
open Go.RowKit Own
theorem row_some2 {w : World} {lo : Nat} {e : TypeId} {g cap n j : Nat} {xs : List Value} (h : w.ownsRow lo e 2 (.slice (some ⟨g, 0, none⟩) n cap) n xs) (hj : j < n * 2) : ∃ u, w.cell? ⟨g, j, none⟩ = some u := by
  refine ⟨xs[j]'(by rw [h.1]; exact hj), ?_⟩
  rw [h.cellAt j hj]; simp
theorem set2 : ∀ (ys : List Value) (z0 z1 v0 v1 : Value) (r : List Value) (j : Nat), ys.length = j → ((ys ++ z0 :: z1 :: r).set j v0).set (j + 1) v1 = ys ++ [v0, v1] ++ r
  | [], _, _, _, _, _, _, h => by subst h; rfl
  | y :: ys, z0, z1, v0, v1, r, j, h => by
    subst h
    have e := set2 ys z0 z1 v0 v1 r ys.length rfl
    simp only [List.cons_append, List.length_cons, List.set_cons_succ] at e ⊢
    rw [e]
theorem row_put2 {w : World} {lo : Nat} {e : TypeId} {g cap n k : Nat} {ys zs : List Value} (h : w.ownsRow lo e 2 (.slice (some ⟨g, 0, none⟩) n cap) n (ys ++ zs)) (hy : ys.length = k * 2) (hk : k < n) (v0 v1 : Value) :
    ∃ zs2, ((w.setCell ⟨g, k * 2, none⟩ v0).setCell ⟨g, k * 2 + 1, none⟩ v1).ownsRow lo e 2 (.slice (some ⟨g, 0, none⟩) n cap) n (ys ++ [v0, v1] ++ zs2) ∧
      w.grownBy ((w.setCell ⟨g, k * 2, none⟩ v0).setCell ⟨g, k * 2 + 1, none⟩ v1) (some g) := by
  have hl := h.1
  rw [List.length_append, hy] at hl
  obtain ⟨z0, z1, r, rfl⟩ : ∃ z0 z1 r, zs = z0 :: z1 :: r := by
    match zs, hl with
    | z0 :: z1 :: r, _ => exact ⟨z0, z1, r, rfl⟩
    | [], hl => exact absurd hl (by simp; omega)
    | [_], hl => exact absurd hl (by simp; omega)
  have a0 := h.stored (k * 2) v0
  have a1 := a0.1.stored (k * 2 + 1) v1
  refine ⟨r, ?_, a0.2.trans a1.2⟩
  have := a1.1
  rw [set2 ys z0 z1 v0 v1 r (k * 2) hy] at this
  exact this
end Go.Proofs.Ytabpbmifegfmgaa.Trm
