/- The model's table of ways: rows of truth values, how they lie in memory. Without conditions. -/
import Derived.Test.YtabpbmifegfmgaaCompM
import Derived.Test.YtabpbmifegfmgaaRowList
import Derived.Test.YtabpbmifegfmgaaBoolRow
namespace Go.Proofs.Ytabpbmifegfmgaa.Trm
open Go.RowKit Own
def rowB (M : Mat) (n i : Nat) : List Bool := (List.range n).map (M i)
theorem rowB_len (M : Mat) (n i : Nat) : (rowB M n i).length = n := by simp [rowB]
theorem rowB_at (M : Mat) (n i j : Nat) (h : j < (rowB M n i).length) : (rowB M n i)[j] = M i j := by simp [rowB]
def matC (M : Mat) (n : Nat) : List (List Value) := (List.range n).map fun i => boolV (rowB M n i)
theorem matC_len (M : Mat) (n : Nat) : (matC M n).length = n := by simp [matC]
theorem matC_at (M : Mat) (n i : Nat) (h : i < (matC M n).length) : (matC M n)[i] = boolV (rowB M n i) := by simp [matC]
theorem boolV_length (bs : List Bool) : (boolV bs).length = bs.length := by simp [boolV]
theorem matC_none (n : Nat) : matC (fun _ _ => false) n = List.replicate n (boolV (List.replicate n false)) := by
  unfold matC rowB
  apply List.ext_getElem
  · simp
  · intro i h1 h2
    simp only [List.getElem_map, List.getElem_replicate]
    congr 1
    apply List.ext_getElem <;> simp
theorem rowB_put (M : Mat) (n i j : Nat) : rowB (updM M i j) n i = (rowB M n i).set j true := by
  apply List.ext_getElem
  · simp [rowB]
  · intro k h1 h2
    by_cases e : k = j
    · subst e
      rw [List.getElem_set_self]
      simp [rowB, updM]
    · rw [List.getElem_set_ne (fun h => e h.symm)]
      simp [rowB, updM, e]
theorem matC_put (M : Mat) (n i j : Nat) (hi : i < n) : matC (updM M i j) n = (matC M n).set i (boolV ((rowB M n i).set j true)) := by
  apply List.ext_getElem
  · simp [matC]
  · intro k h1 h2
    by_cases e : k = i
    · subst e
      rw [List.getElem_set_self, matC_at, rowB_put]
    · rw [List.getElem_set_ne (fun h => e h.symm), matC_at, matC_at]
      have : rowB (updM M i j) n k = rowB M n k := by unfold rowB updM; simp [e]
      rw [this]
/-- The table, in rows of the call's own. -/
def MatAt (w : World) (base hi n : Nat) (v : Value) (M : Mat) : Prop := ∃ cs, RowsOwn w base hi 61 4 v cs (matC M n)
theorem MatAt.below {w w' : World} {base hi n : Nat} {v : Value} {M : Mat} (h : MatAt w base hi n v M) (hb : Below w.heap.size w w') : MatAt w' base hi n v M := by
  obtain ⟨cs, h⟩ := h
  exact ⟨cs, h.below hb⟩
theorem MatAt.same {w w' : World} {base hi n : Nat} {v : Value} {M : Mat} (h : MatAt w base hi n v M) (hs : Same base hi w w') (hw : hi ≤ w'.heap.size) : MatAt w' base hi n v M := by
  obtain ⟨cs, h⟩ := h
  exact ⟨cs, h.same hs hw⟩
theorem MatAt.size {w : World} {base hi n : Nat} {v : Value} {M : Mat} (h : MatAt w base hi n v M) : base ≤ hi ∧ hi ≤ w.heap.size := by
  obtain ⟨cs, h⟩ := h
  exact ⟨h.2.2.1, h.2.1⟩
theorem MatAt.shape {w : World} {base hi n : Nat} {v : Value} {M : Mat} (h : MatAt w base hi n v M) : ∃ a c, v = .slice a n c ∧ (0 < n → ∃ g, a = some ⟨g, 0, none⟩) := by
  obtain ⟨cs, h⟩ := h
  have := h.shape
  rwa [matC_len] at this
/-- What the walk asks of a cell: the row's slice, and the cell within. -/
theorem MatAt.cell {w : World} {base hi n : Nat} {g c : Nat} {M : Mat} (h : MatAt w base hi n (.slice (some ⟨g, 0, none⟩) n c) M) (i j : Nat) (hi2 : i < n) (hj : j < n) : ∃ r rc, w.cell? ⟨g, i, none⟩ = some (.slice (some ⟨r, 0, none⟩) n rc) ∧ w.cell? ⟨r, j, none⟩ = some (.bool (M i j)) := by
  obtain ⟨cs, h⟩ := h
  have hl := matC_len M n
  obtain ⟨og, oc, e, h1⟩ := h.outer (i := i) (by omega)
  obtain ⟨a, rc, h2, h3, h4⟩ := h.inner (i := i) (by omega)
  rw [matC_at, boolV_length, rowB_len] at h2 h3 h4
  obtain ⟨r, rfl⟩ := h4 (by omega)
  have e2 : og = g := by
    have e3 : (Value.slice (some ⟨g, 0, none⟩) n c).ownBlock = (Value.slice (some ⟨og, 0, none⟩) (matC M n).length oc).ownBlock := by rw [e]
    simpa [Value.ownBlock] using e3.symm
  subst e2
  refine ⟨r, rc, h1.trans h2, ?_⟩
  have h5 := boolV_cell h3 j (by rw [rowB_len]; exact hj)
  rw [rowB_at] at h5
  exact h5
/-- The rows of one place, and of the cell within, where the cell is to be written. -/
theorem MatAt.put {w : World} {base hi n : Nat} {g c : Nat} {M : Mat} (h : MatAt w base hi n (.slice (some ⟨g, 0, none⟩) n c) M) (i j : Nat) (hi2 : i < n) (hj : j < n) : ∃ r rc, w.cell? ⟨g, i, none⟩ = some (.slice (some ⟨r, 0, none⟩) n rc) ∧ w.cell? ⟨r, j, none⟩ = some (.bool (M i j)) ∧ w.frozen? ⟨r, j, none⟩ = false ∧ base ≤ r ∧ r < w.heap.size ∧
    MatAt (w.setCell ⟨r, j, none⟩ (.bool true)) base hi n (.slice (some ⟨g, 0, none⟩) n c) (updM M i j) := by
  obtain ⟨r, rc, h8, h9⟩ := h.cell i j hi2 hj
  obtain ⟨cs, h⟩ := h
  have hl := matC_len M n
  obtain ⟨og, oc, e, h1⟩ := h.outer (i := i) (by omega)
  obtain ⟨a, rc2, h2, h3, h4⟩ := h.inner (i := i) (by omega)
  rw [matC_at, boolV_length, rowB_len] at h2 h3 h4
  have e2 : og = g := by
    have e3 : (Value.slice (some ⟨g, 0, none⟩) n c).ownBlock = (Value.slice (some ⟨og, 0, none⟩) (matC M n).length oc).ownBlock := by rw [e]
    simpa [Value.ownBlock] using e3.symm
  subst e2
  have e5 : some (Value.slice (some ⟨r, 0, none⟩) n rc) = some (.slice a n rc2) := h8.symm.trans (h1.trans h2)
  injection e5 with e5
  have e6 := e5
  simp at e6
  obtain ⟨rfl, rfl⟩ := e6
  have h5 := h3.lt r rfl
  obtain ⟨h6, h7⟩ := boolV_set h3 j true
  refine ⟨r, rc, h8, h9, h3.frozenAt j, h5.1, h5.2, cs, ?_⟩
  rw [matC_put M n i j hi2]
  refine h.turn (by omega) h2 ?_ ?_ ?_
  · rw [matC_at]; simp [boolV]
  · rw [boolV_length, List.length_set, rowB_len]; exact h6
  · exact h7
end Go.Proofs.Ytabpbmifegfmgaa.Trm
