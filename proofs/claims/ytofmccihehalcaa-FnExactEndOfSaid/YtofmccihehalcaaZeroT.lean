/- The term that is none. Without conditions: no Go text is spoken of here. -/
import Derived.Test.YtofmccihehalcaaTrees
namespace Go.Proofs.Ytofmccihehalcaa.Trm
open Go.RowKit Own
def zT : Tree := .node 0 0 ⟨#[]⟩ []
theorem zT_lies (w : World) : Lies w zT (.agg #[.int .i64 0, .int .i64 0, .string ⟨#[]⟩, .slice none 0 0]) := by
  unfold zT
  rw [Lies]
  exact ⟨by unfold InI; omega, by unfold InI; omega, by decide, by simp, none, 0, rfl, fun h => by simp at h⟩
end Go.Proofs.Ytofmccihehalcaa.Trm
