/- Names that are not there, names that are used, names told twice: what the lists come to. Without conditions. -/
import Derived.Test.YtofmccihehalcaaTermReads
import Derived.Test.YtofmccihehalcaaPTrees
namespace Go.Proofs.Ytofmccihehalcaa.Trm
open Go.RowKit Own
open Classical in
/-- A name, where it is neither known nor told before. -/
noncomputable def addU (known acc : List ByteArray) (s : ByteArray) : List ByteArray := if s ∈ known ∨ s ∈ acc then acc else acc ++ [s]
def procNs (ps : List PrT) : List ByteArray := ps.map (·.name)
/-- The name that a statement has, and what it reads. -/
noncomputable def headU (x : PTree) (k : Int) (s : ByteArray) (acc : List ByteArray) : List ByteArray :=
  if k = 1 then addU x.globals acc s else if k = 6 ∨ k = 7 then addU x.locks acc s else if k = 4 ∨ k = 5 then addU (procNs x.procs) acc s else acc
noncomputable def readsU (x : PTree) (k : Int) (t : Tree) (acc : List ByteArray) : List ByteArray :=
  if k = 1 ∨ k = 2 ∨ k = 3 then (readsOfT t).foldl (addU x.globals) acc else acc
mutual
noncomputable def unkX (x : PTree) : STree → List ByteArray → List ByteArray
  | .node k s t b e, acc => unkXS x e (unkXS x b (readsU x k t (headU x k s acc)))
noncomputable def unkXS (x : PTree) : List STree → List ByteArray → List ByteArray
  | [], acc => acc
  | y :: r, acc => unkXS x r (unkX x y acc)
end
theorem unkX_eq (x : PTree) (y : STree) (acc : List ByteArray) : unkX x y acc = unkXS x y.els (unkXS x y.body (readsU x y.kind y.term (headU x y.kind y.name acc))) := by cases y; rw [unkX]; rfl
theorem unkXS_drop (x : PTree) {xs : List STree} {i : Nat} (h : i < xs.length) (acc : List ByteArray) : unkXS x (xs.drop i) acc = unkXS x (xs.drop (i + 1)) (unkX x xs[i] acc) := by rw [List.drop_eq_getElem_cons h, unkXS]
theorem unkXS_end (x : PTree) {xs : List STree} {i : Nat} (h : xs.length ≤ i) (acc : List ByteArray) : unkXS x (xs.drop i) acc = acc := by rw [List.drop_of_length_le h, unkXS]
noncomputable def unkPs (x : PTree) (ps : List PrT) (acc : List ByteArray) : List ByteArray := ps.foldl (fun a p => unkXS x p.body a) acc
mutual
/-- The names that statements have of numbers and locks. -/
noncomputable def useX : STree → List ByteArray → List ByteArray
  | .node k s t b e, acc => useXS e (useXS b ((if k = 1 ∨ k = 6 ∨ k = 7 then acc ++ [s] else acc) ++ readsOfT t))
noncomputable def useXS : List STree → List ByteArray → List ByteArray
  | [], acc => acc
  | y :: r, acc => useXS r (useX y acc)
end
noncomputable def usePs (ps : List PrT) (acc : List ByteArray) : List ByteArray := ps.foldl (fun a p => useXS p.body a) acc
/-- Whether a name is told twice. -/
noncomputable def twiceB : List ByteArray → Bool
  | [] => false
  | s :: r => @decide (s ∈ r) (Classical.propDecidable _) || twiceB r
def mainB : ByteArray := ⟨#[109, 97, 105, 110]⟩
theorem twiceB_eq (ns : List ByteArray) : twiceB ns = true ↔ ∃ i, ∃ h : i < ns.length, ns[i] ∈ ns.take i := by
  induction ns with
  | nil => simp [twiceB]
  | cons s r ih =>
    rw [twiceB]
    simp only [Bool.or_eq_true, decide_eq_true_eq, ih]
    constructor
    · rintro (h | ⟨i, hi, h⟩)
      · obtain ⟨i, hi, e⟩ := List.getElem_of_mem h
        exact ⟨i + 1, by simpa using hi, by simp [e]⟩
      · exact ⟨i + 1, by simpa using hi, by simp [h]⟩
    · rintro ⟨i, hi, h⟩
      cases i with
      | zero => simp at h
      | succ i =>
        simp at h hi
        rcases h with h | h
        · exact .inl (by rw [← h]; exact List.getElem_mem hi)
        · exact .inr ⟨i, hi, h⟩
theorem twiceB_no {ns : List ByteArray} (h : ∀ i (hi : i < ns.length), ¬ ns[i] ∈ ns.take i) : twiceB ns = false := by
  rw [Bool.eq_false_iff]
  intro e
  obtain ⟨i, hi, h2⟩ := (twiceB_eq ns).1 e
  exact h i hi h2
theorem twiceB_yes {ns : List ByteArray} {i : Nat} {hi : i < ns.length} (h : ns[i] ∈ ns.take i) : twiceB ns = true := (twiceB_eq ns).2 ⟨i, hi, h⟩
end Go.Proofs.Ytofmccihehalcaa.Trm
