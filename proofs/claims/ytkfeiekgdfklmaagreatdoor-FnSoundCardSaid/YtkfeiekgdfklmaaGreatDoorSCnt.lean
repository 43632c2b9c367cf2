/- How many statements there are. Without conditions. -/
import Derived.Test.YtkfeiekgdfklmaaGreatDoorChecked
import Derived.Test.YtkfeiekgdfklmaaGreatDoorSTrees
import Derived.Deep.RegionHeld3
import Derived.WalkSmall
import Derived.Outline
namespace Go.Proofs.YtkfeiekgdfklmaaGreatDoor.Trm
open Go.RowKit Own
mutual
def cntX : STree → Nat | .node _ _ _ b e => 1 + cntXS b + cntXS e
def cntXS : List STree → Nat | [] => 0 | x :: xs => cntX x + cntXS xs
end
theorem cntX_eq (x : STree) : cntX x = 1 + cntXS x.body + cntXS x.els := by cases x; rfl
theorem cntXS_drop {xs : List STree} {i : Nat} (h : i < xs.length) : cntXS (xs.drop i) = 1 + cntXS xs[i].body + cntXS xs[i].els + cntXS (xs.drop (i + 1)) := by rw [List.drop_eq_getElem_cons h, cntXS, cntX_eq]
theorem cntXS_end {xs : List STree} {i : Nat} (h : xs.length ≤ i) : cntXS (xs.drop i) = 0 := by rw [List.drop_of_length_le h, cntXS]
mutual
theorem cntX_le : ∀ x : STree, cntX x ≤ 1 + szX x
  | .node k s t b e => by rw [cntX, szX]; have := cntXS_le b; have := cntXS_le e; omega
theorem cntXS_le : ∀ xs : List STree, cntXS xs ≤ xs.length + szXS xs
  | [] => by simp [cntXS]
  | x :: xs => by rw [cntXS, szXS]; have := cntX_le x; have := cntXS_le xs; simp; omega
end
theorem ret_n {a b : Nat} (h : a = b) : Ending.returned (.int .i64 (a : Int)) = .returned (.int .i64 (b : Int)) := by rw [h]
theorem wrap3 {m a b : Nat} (h : m + 1 + a + b ≤ 2000000) : IntKind.i64.wrap (IntKind.i64.wrap (IntKind.i64.wrap ((m : Int) + 1) + (a : Int)) + (b : Int)) = ((m + 1 + a + b : Nat) : Int) := by
  rw [IntWalk.i64_in ((m : Int) + 1) (by omega), IntWalk.i64_in ((m : Int) + 1 + (a : Int)) (by omega), IntWalk.i64_in ((m : Int) + 1 + (a : Int) + (b : Int)) (by omega)]
  omega
end Go.Proofs.YtkfeiekgdfklmaaGreatDoor.Trm
