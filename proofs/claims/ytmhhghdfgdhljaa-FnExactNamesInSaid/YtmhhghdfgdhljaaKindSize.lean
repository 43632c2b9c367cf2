/- How great statements are, those within them counted, for walks that go down. Without conditions. -/
import Derived.Test.YtmhhghdfgdhljaaSCnt
namespace Go.Proofs.Ytmhhghdfgdhljaa.Trm
open Go.RowKit Own
mutual
def kdX : STree → Nat | .node _ _ _ b e => 2 + kdXL b + kdXL e
def kdXL : List STree → Nat | [] => 0 | x :: xs => kdX x + kdXL xs
end
mutual
theorem kdX_le : ∀ x : STree, kdX x ≤ 2 * cntX x
  | .node k s t b e => by rw [kdX, cntX]; have := kdXL_le b; have := kdXL_le e; omega
theorem kdXL_le : ∀ xs : List STree, kdXL xs ≤ 2 * cntXS xs
  | [] => by simp [kdXL]
  | x :: xs => by rw [kdXL, cntXS]; have := kdX_le x; have := kdXL_le xs; omega
end
end Go.Proofs.Ytmhhghdfgdhljaa.Trm
