/- A list of names that grows by one that it lacks; a list of texts as a row of the program. -/
import Derived.Test.YtofmccihehalcaaChecked
import Derived.Test.YtofmccihehalcaaMovesD
namespace Go.Proofs.Ytofmccihehalcaa.Trm
open Go.RowKit Own
open Classical in
noncomputable def addN (acc : List ByteArray) (s : ByteArray) : List ByteArray := if s ∈ acc then acc else acc ++ [s]
theorem addN_in {acc : List ByteArray} {s : ByteArray} (h : s ∈ acc) : addN acc s = acc := by unfold addN; rw [if_pos h]
theorem addN_out {acc : List ByteArray} {s : ByteArray} (h : ¬ s ∈ acc) : addN acc s = acc ++ [s] := by unfold addN; rw [if_neg h]
theorem addN_le (acc : List ByteArray) (s : ByteArray) : (addN acc s).length ≤ acc.length + 1 := by unfold addN; split <;> simp
theorem infoStrR : (Try.prog.info? 9).map (fun i => (i.zero, i.size, i.bytes)) = some (some (.string ⟨#[]⟩), 1, 16) := by kernel_rfl
theorem one_textR (p : ByteArray) : ∀ u ∈ [Value.string p], u.oneCell' = true := by
  intro u hu
  simp at hu
  subst hu
  rfl
end Go.Proofs.Ytofmccihehalcaa.Trm
