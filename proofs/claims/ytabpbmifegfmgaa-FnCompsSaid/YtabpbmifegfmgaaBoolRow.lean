/- Rows of truth values that a call owns. Without conditions. -/
import Derived.Test.YtabpbmifegfmgaaRowWord
import Derived.Laws.OwnMore
namespace Go.Proofs.Ytabpbmifegfmgaa.Trm
open Go.RowKit Own
theorem infoBoolL : (Try.prog.info? 4).map (fun i => (i.zero, i.size, i.bytes)) = some (some (.bool false), 1, 1) := by kernel_rfl
def boolV (bs : List Bool) : List Value := bs.map Value.bool
theorem boolV_len {w : World} {base : Nat} {e : TypeId} {v : Value} {n : Nat} {bs : List Bool} (h : w.ownsRow base e 1 v n (boolV bs)) : bs.length = n := by have := h.1; simpa [boolV] using this
theorem boolV_cell {w : World} {base : Nat} {e : TypeId} {g n c : Nat} {bs : List Bool} (h : w.ownsRow base e 1 (.slice (some ⟨g, 0, none⟩) n c) n (boolV bs)) (i : Nat) (hi : i < bs.length) : w.cell? ⟨g, i, none⟩ = some (.bool bs[i]) := by
  have hl := boolV_len h
  rw [h.cellAt i (by omega)]
  simp [boolV, hi]
theorem boolV_set {w : World} {base : Nat} {e : TypeId} {g n c : Nat} {bs : List Bool} (h : w.ownsRow base e 1 (.slice (some ⟨g, 0, none⟩) n c) n (boolV bs)) (i : Nat) (b : Bool) :
    (w.setCell ⟨g, i, none⟩ (.bool b)).ownsRow base e 1 (.slice (some ⟨g, 0, none⟩) n c) n (boolV (bs.set i b)) ∧ w.grownBy (w.setCell ⟨g, i, none⟩ (.bool b)) (some g) := by
  have := h.stored i (.bool b)
  simpa [boolV, List.map_set] using this
/-- What a call that answers a row of truth values leaves. -/
def ListB (bs : List Bool) (w : World) (e : Ending) (w' : World) : Prop := ∃ ov, e = .returned ov ∧ w'.ownsRow w.heap.size 4 1 ov bs.length (boolV bs) ∧ Below w.heap.size w w'
theorem boolV_made (n : Nat) : (madeCells #[Value.bool false] n).toList = boolV (List.replicate n false) := by
  rw [toList_madeCells_one]
  simp [boolV]
end Go.Proofs.Ytabpbmifegfmgaa.Trm
