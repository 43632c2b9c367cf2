/- What a term comes to, as plain arithmetic. Without conditions: no Go text is spoken of here. -/
import Derived.Test.YtegcebjfcmcgmaaLists
namespace Go.Proofs.Ytegcebjfcmcgmaa.Trm
open Go.RowKit Own
def mod3 (n : Int) : Int := n % 1000
def yesI (b : Bool) : Int := if b then 1 else 0
theorem mod3_range (n : Int) : 0 ≤ mod3 n ∧ mod3 n ≤ 999 := by unfold mod3; omega
theorem yesI_range (b : Bool) : 0 ≤ yesI b ∧ yesI b ≤ 999 := by unfold yesI; split <;> omega
/-- The value at the first place at which the names have it. -/
def lookV : List ByteArray → List Int → ByteArray → Int
  | [], _, _ => 0
  | x :: xs, vs, s => if x = s then (vs.head?.map mod3).getD 0 else lookV xs vs.tail s
theorem lookV_range : ∀ (ns : List ByteArray) (vs : List Int) (s : ByteArray), 0 ≤ lookV ns vs s ∧ lookV ns vs s ≤ 999
  | [], _, _ => by simp [lookV]
  | x :: xs, vs, s => by
    rw [lookV]
    split
    · cases vs with
      | nil => simp
      | cons v r => exact mod3_range v
    · exact lookV_range xs vs.tail s
def opW (k a b : Int) : Int :=
  if k = 3 then mod3 (a + b) else if k = 4 then mod3 (a - b) else if k = 5 then mod3 (a * b) else if k = 6 then yesI (decide (a < b)) else if k = 7 then yesI (decide (a = b)) else yesI (decide (a ≠ 0) && decide (b ≠ 0))
theorem opW_range (k a b : Int) : 0 ≤ opW k a b ∧ opW k a b ≤ 999 := by
  unfold opW
  repeat' split
  all_goals first | exact mod3_range _ | exact yesI_range _
mutual
def workT (ns : List ByteArray) (vs : List Int) : Tree → Int
  | .node k n s ks => if k = 1 then mod3 n else if k = 2 then lookV ns vs s else if k = 8 then yesI (decide ((workL ns vs ks).getD 0 0 = 0)) else opW k ((workL ns vs ks).getD 0 0) ((workL ns vs ks).getD 1 0)
def workL (ns : List ByteArray) (vs : List Int) : List Tree → List Int
  | [] => []
  | t :: ts => workT ns vs t :: workL ns vs ts
end
theorem workT_range (ns : List ByteArray) (vs : List Int) (t : Tree) : 0 ≤ workT ns vs t ∧ workT ns vs t ≤ 999 := by
  cases t with
  | node k n s ks =>
    rw [workT]
    split
    · exact mod3_range _
    · split
      · exact lookV_range _ _ _
      · split
        · exact yesI_range _
        · exact opW_range _ _ _
theorem workL_at {ns : List ByteArray} {vs : List Int} : ∀ {ks : List Tree} (i : Nat) (h : i < ks.length), (workL ns vs ks).getD i 0 = workT ns vs ks[i]
  | [], i, h => absurd h (by simp)
  | t :: ts, 0, _ => rfl
  | t :: ts, i + 1, h => by
    rw [workL]
    simpa using workL_at i (by simpa using h)
theorem lookV_drop {ns : List ByteArray} {vs : List Int} {s : ByteArray} {i : Nat} (h : i < ns.length) (hn : ns[i] ≠ s) : lookV (ns.drop i) (vs.drop i) s = lookV (ns.drop (i + 1)) (vs.drop (i + 1)) s := by
  rw [List.drop_eq_getElem_cons h, lookV, if_neg hn, List.tail_drop]
theorem lookV_hit {ns : List ByteArray} {vs : List Int} {s : ByteArray} {i : Nat} (h : i < ns.length) (hn : ns[i] = s) (hv : i < vs.length) : lookV (ns.drop i) (vs.drop i) s = mod3 vs[i] := by
  rw [List.drop_eq_getElem_cons h, lookV, if_pos hn, List.drop_eq_getElem_cons hv]; rfl
theorem lookV_bare {ns : List ByteArray} {vs : List Int} {s : ByteArray} {i : Nat} (h : i < ns.length) (hn : ns[i] = s) (hv : vs.length ≤ i) : lookV (ns.drop i) (vs.drop i) s = 0 := by
  rw [List.drop_eq_getElem_cons h, lookV, if_pos hn, List.drop_of_length_le hv]; rfl
theorem lookV_end {ns : List ByteArray} {vs : List Int} {s : ByteArray} {i : Nat} (h : ns.length ≤ i) : lookV (ns.drop i) (vs.drop i) s = 0 := by
  rw [List.drop_of_length_le h, lookV]
/-- The remainder as the machine reckons it. -/
theorem tmod_neg {n : Int} (h : n < 0) : n.tmod 1000 = -((-n) % 1000) := by
  have e : n = -(-n) := by omega
  rw [e, Int.neg_tmod, Int.tmod_eq_emod_of_nonneg (by omega), Int.neg_neg]
end Go.Proofs.Ytegcebjfcmcgmaa.Trm
