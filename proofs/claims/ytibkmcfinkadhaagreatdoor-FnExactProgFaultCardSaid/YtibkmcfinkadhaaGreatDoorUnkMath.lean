/- Names that are not there, names that are used, names told twice: what the lists come to. Without conditions. -/
import Derived.Test.YtibkmcfinkadhaaGreatDoorTermReads
import Derived.Test.YtibkmcfinkadhaaGreatDoorPTrees
namespace Go.Proofs.YtibkmcfinkadhaaGreatDoor.Trm
open Go.RowKit Own
open Classical in
/-- A name, where it is neither known nor told before. -/
noncomputable def addU (known acc : List ByteArray) (s : ByteArray) : List ByteArray := if s ∈ known ∨ s ∈ acc then acc else acc ++ [s]
def procNs (ps : List PrT) : List ByteArray := ps.map (·.name)
/-- The name that a statement has, and what it reads. -/
noncomputable def headU (x : PTree) (k : Int) (s : ByteArray) (acc : List ByteArray) : List ByteArray :=
  if k = 1 then addU x.globals acc s else if k = 6 ∨ k = 7 then addU x.locks acc s else if k = 4 ∨ k = 5 then addU (procNs x.procs) acc s else acc
noncomputable def readsU (x : PTree) (k : Int) (t : Tree) (acc : List ByteArray) : List ByteArray :=
  if k = 1 ∨ k = 2 ∨ k = 3 then (readsOfT t).foldl (addU x.globals) acc else acc
mutual
noncomputable def unkX (x : PTree) : STree → List ByteArray → List ByteArray
  | .node k s t b e, acc => unkXS x e (unkXS x b (readsU x k t (headU x k s acc)))
noncomputable def unkXS (x : PTree) : List STree → List ByteArray → List ByteArray
  | [], acc => acc
  | y :: r, acc => unkXS x r (unkX x y acc)
end
theorem unkX_eq (x : PTree) (y : STree) (acc : List ByteArray) : unkX x y acc = unkXS x y.els (unkXS x y.body (readsU x y.kind y.term (headU x y.kind y.name acc))) := by cases y; rw [unkX]; rfl
theorem unkXS_drop (x : PTree) {xs : List STree} {i : Nat} (h : i < xs.length) (acc : List ByteArray) : unkXS x (xs.drop i) acc = unkXS x (xs.drop (i + 1)) (unkX x xs[i] acc) := by rw [List.drop_eq_getElem_cons h, unkXS]
theorem unkXS_end (x : PTree) {xs : List STree} {i : Nat} (h : xs.length ≤ i) (acc : List ByteArray) : unkXS x (xs.drop i) acc = acc := by rw [List.drop_of_length_le h, unkXS]
noncomputable def unkPs (x : PTree) (ps : List PrT) (acc : List ByteArray) : List ByteArray := ps.foldl (fun a p => unkXS x p.body a) acc
mutual
/-- The names that statements have of numbers and locks. -/
noncomputable def useX : STree → List ByteArray → List ByteArray
  | .node k s t b e, acc => useXS e (useXS b ((if k = 1 ∨ k = 6 ∨ k = 7 then acc ++ [s] else acc) ++ readsOfT t))
noncomputable def useXS : List STree → List ByteArray → List ByteArray
  | [], acc => acc
  | y :: r, acc => useXS r (useX y acc)
end
noncomputable def usePs (ps : List PrT) (acc : List ByteArray) : List ByteArray := ps.foldl (fun a p => useXS p.body a) acc
/-- Whether a name is told twice. -/
noncomputable def twiceB : List ByteArray → Bool
  | [] => false
  | s :: r => @decide (s ∈ r) (Classical.propDecidable _) || twiceB r
end Go.Proofs.YtibkmcfinkadhaaGreatDoor.Trm
