/- Rows of numbers from 0 on that a call owns. Without conditions. -/
import Derived.Test.YtabpbmifegfmgaaRowWord
namespace Go.Proofs.Ytabpbmifegfmgaa.Trm
open Go.RowKit Own
def upI (ns : List Nat) : List Int := ns.map fun n : Nat => (n : Int)
theorem upI_length (ns : List Nat) : (upI ns).length = ns.length := by unfold upI; rw [List.length_map]
theorem upI_append (a b : List Nat) : upI (a ++ b) = upI a ++ upI b := by simp [upI]
/-- The numbers of a list that are in a row of numbers. -/
theorem natCell {w : World} {base : Nat} {e : TypeId} {g n c : Nat} {ls : List Nat} (h : w.ownsRow base e 1 (.slice (some ⟨g, 0, none⟩) n c) n (intV (upI ls))) (i : Nat) (hi : i < ls.length) : w.cell? ⟨g, i, none⟩ = some (.int .i64 (ls[i] : Int)) := by
  have hl : ls.length = n := by have := h.1; simpa [intV, upI] using this
  rw [h.cellAt i (by omega)]
  simp [intV, upI, hi]
theorem natLen {w : World} {base : Nat} {e : TypeId} {v : Value} {n : Nat} {ls : List Nat} (h : w.ownsRow base e 1 v n (intV (upI ls))) : ls.length = n := by have := h.1; simpa [intV, upI] using this
end Go.Proofs.Ytabpbmifegfmgaa.Trm
