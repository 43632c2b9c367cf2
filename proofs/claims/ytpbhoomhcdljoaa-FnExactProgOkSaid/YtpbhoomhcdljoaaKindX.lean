/- Statements as things that stand in lists: what makes two of them the same. Without conditions. -/
import Derived.Test.YtpbhoomhcdljoaaListLogic
import Derived.Test.YtpbhoomhcdljoaaSSame
import Derived.Test.YtpbhoomhcdljoaaSCnt
namespace Go.Proofs.Ytpbhoomhcdljoaa.Trm
open Go.RowKit Own
/-- The same, but for the statements within them. -/
def shalX (x y : STree) : Bool := decide (x.kind = y.kind) && decide (x.name = y.name) && sameT x.term y.term
mutual
def kdX : STree → Nat | .node _ _ _ b e => 2 + kdXL b + kdXL e
def kdXL : List STree → Nat | [] => 0 | x :: xs => kdX x + kdXL xs
end
def KX : Lg.Kd STree where
  sh := shalX
  wi x := [x.body, x.els]
  dp := sameX
  nd := kdX
  many := 2
theorem sameX_parts (x y : STree) : sameX x y = (shalX x y && sameXL x.body y.body && sameXL x.els y.els) := by
  cases x with
  | node k s t b e => rw [sameX]; rfl
theorem sameXL_iff : ∀ {xs ys : List STree}, sameXL xs ys = true ↔ (xs.length = ys.length ∧ ∀ i (h : i < xs.length) (h2 : i < ys.length), sameX xs[i] ys[i] = true)
  | [], [] => by simp [sameXL]
  | x :: xs, y :: ys => by
    rw [sameXL, Bool.and_eq_true, sameXL_iff (xs := xs) (ys := ys)]
    constructor
    · intro ⟨h1, h0, h2⟩
      refine ⟨by simp [h0], fun i hi hi2 => ?_⟩
      cases i with
      | zero => exact h1
      | succ i => exact h2 i (by simpa using hi) (by simpa using hi2)
    · intro ⟨h0, h⟩
      exact ⟨h 0 (by simp) (by simp), by simpa using h0, fun i hi hi2 => h (i + 1) (by simpa using hi) (by simpa using hi2)⟩
  | [], _ :: _ => by simp [sameXL]
  | _ :: _, [] => by simp [sameXL]
theorem ndL_kx : ∀ l : List STree, Lg.ndL KX l = kdXL l
  | [] => rfl
  | x :: xs => by rw [Lg.ndL, kdXL, ndL_kx xs]; rfl
theorem deepX (p : List STree × List STree) : Lg.DeepP KX p ↔ sameXL p.1 p.2 = true := sameXL_iff.symm
theorem KX_ok : KX.Ok where
  len _ := rfl
  nd x := by
    show kdX x = Lg.wtS KX [x.body, x.els]
    rw [Lg.wtS, Lg.wtS, Lg.wtS, ndL_kx, ndL_kx]
    cases x with
    | node k s t b e => rw [kdX]; simp only [STree.body, STree.els]; omega
  dp x y := by
    show sameX x y = true ↔ shalX x y = true ∧ _
    rw [sameX_parts, Bool.and_eq_true, Bool.and_eq_true]
    constructor
    · intro ⟨⟨h1, h2⟩, h3⟩
      refine ⟨h1, fun j hj hj2 => ?_⟩
      have hj : j < 2 := hj
      match j, hj with
      | 0, _ => exact (deepX _).2 h2
      | 1, _ => exact (deepX _).2 h3
    · intro ⟨h1, h2⟩
      exact ⟨⟨h1, (deepX _).1 (h2 0 (by show 0 < 2; omega) (by show 0 < 2; omega))⟩, (deepX _).1 (h2 1 (by show 1 < 2; omega) (by show 1 < 2; omega))⟩
  ind P h := streeInd fun k s t b e ihb ihe => h _ fun l hl y hy => by
    have hl : l = b ∨ l = e := by simpa [KX, STree.body, STree.els] using hl
    rcases hl with rfl | rfl
    · exact ihb y hy
    · exact ihe y hy
mutual
theorem kdX_le : ∀ x : STree, kdX x ≤ 2 * cntX x
  | .node k s t b e => by rw [kdX, cntX]; have := kdXL_le b; have := kdXL_le e; omega
theorem kdXL_le : ∀ xs : List STree, kdXL xs ≤ 2 * cntXS xs
  | [] => by simp [kdXL]
  | x :: xs => by rw [kdXL, cntXS]; have := kdX_le x; have := kdXL_le xs; omega
end
end Go.Proofs.Ytpbhoomhcdljoaa.Trm
