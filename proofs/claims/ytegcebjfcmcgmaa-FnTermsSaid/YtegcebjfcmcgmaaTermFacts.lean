/- What a term comes to hangs on what it reads alone; what is asked of it is 1 or 0. Without conditions: no Go text is spoken of here. -/
import Derived.Test.YtegcebjfcmcgmaaTermReads
import Derived.Test.YtegcebjfcmcgmaaTermWork
namespace Go.Proofs.Ytegcebjfcmcgmaa.Trm
open Go.RowKit Own
mutual
def varsT : Tree → List ByteArray
  | .node k _ s ks => if k = 2 then [s] else varsL ks
def varsL : List Tree → List ByteArray
  | [] => []
  | t :: ts => varsT t ++ varsL ts
end
theorem mem_addN {acc : List ByteArray} {s x : ByteArray} : x ∈ addN acc s ↔ x ∈ acc ∨ x = s := by
  unfold addN
  split
  · rename_i h
    exact ⟨.inl, fun h' => h'.elim id (fun e => e ▸ h)⟩
  · simp
mutual
theorem mem_readsT {x : ByteArray} : ∀ (t : Tree) (acc : List ByteArray), x ∈ readsT t acc ↔ x ∈ acc ∨ x ∈ varsT t
  | .node k n s ks, acc => by
    rw [readsT, varsT]
    split
    · rw [mem_addN]; simp
    · exact mem_readsL ks acc
theorem mem_readsL {x : ByteArray} : ∀ (ks : List Tree) (acc : List ByteArray), x ∈ readsL ks acc ↔ x ∈ acc ∨ x ∈ varsL ks
  | [], acc => by rw [readsL, varsL]; simp
  | t :: ts, acc => by
    rw [readsL, varsL, mem_readsL ts, mem_readsT t, List.mem_append, or_assoc]
end
mutual
theorem work_same {ns : List ByteArray} {vs vs2 : List Int} : ∀ (t : Tree), (∀ s, s ∈ varsT t → lookV ns vs s = lookV ns vs2 s) → workT ns vs t = workT ns vs2 t
  | .node k n s ks, h => by
    rw [workT, workT]
    rw [varsT] at h
    split
    · rfl
    · split
      · rename_i h2
        rw [if_pos h2] at h
        exact h s (by simp)
      · rename_i h2
        rw [if_neg h2] at h
        rw [work_sameL ks h]
theorem work_sameL {ns : List ByteArray} {vs vs2 : List Int} : ∀ (ks : List Tree), (∀ s, s ∈ varsL ks → lookV ns vs s = lookV ns vs2 s) → workL ns vs ks = workL ns vs2 ks
  | [], _ => by rw [workL, workL]
  | t :: ts, h => by
    rw [varsL] at h
    rw [workL, workL, work_same t (fun s hs => h s (List.mem_append_left _ hs)), work_sameL ts (fun s hs => h s (List.mem_append_right _ hs))]
end
theorem lookV_set {s : ByteArray} {a : Int} : ∀ {ns : List ByteArray} {vs : List Int} {i : Nat}, (∀ x, ns[i]? = some x → x ≠ s) → lookV ns (vs.set i a) s = lookV ns vs s
  | [], _, _, _ => by simp [lookV]
  | x :: ns, vs, i, h => by
    rw [lookV, lookV]
    by_cases hx : x = s
    · rw [if_pos hx, if_pos hx]
      cases i with
      | zero => exact absurd hx (h x rfl)
      | succ i =>
        cases vs with
        | nil => rfl
        | cons v r => rfl
    · rw [if_neg hx, if_neg hx]
      cases vs with
      | nil => simp
      | cons v r =>
        cases i with
        | zero => rfl
        | succ i =>
          rw [List.set_cons_succ, List.tail_cons, List.tail_cons]
          exact lookV_set (fun x hx2 => h x (by simpa using hx2))
/-- A number that no name of the term's stands for does not count. -/
theorem worked_other {ns : List ByteArray} {vs : List Int} {t : Tree} {i : Nat} {a : Int} (hi : i < ns.length) (h : ¬ ns[i] ∈ readsOfT t) : workedT ns (vs.set i a) t = workedT ns vs t := by
  unfold workedT
  by_cases hk : okB t = true
  · rw [if_pos hk, if_pos hk]
    unfold readsOfT at h
    rw [if_pos hk, mem_readsT] at h
    refine work_same t (fun s hs => lookV_set (fun x hx => ?_))
    rw [List.getElem?_eq_getElem hi] at hx
    injection hx with hx
    subst hx
    intro e
    exact h (.inr (e ▸ hs))
  · rw [if_neg hk, if_neg hk]
mutual
theorem same_self : ∀ t : Tree, sameT t t = true
  | .node k n s ks => by rw [sameT]; simp [Tree.kind, Tree.num, Tree.name, Tree.kids, same_selfL ks]
theorem same_selfL : ∀ ks : List Tree, sameL ks ks = true
  | [] => by rw [sameL]; simp
  | t :: ts => by rw [sameL, same_self t, same_selfL ts]; rfl
end
def notT (t : Tree) : Tree := .node 8 0 ByteArray.empty [t]
def subT (t u : Tree) : Tree := .node 4 0 ByteArray.empty [t, u]
theorem not_work (ns : List ByteArray) (vs : List Int) (t : Tree) : workT ns vs (notT t) = yesI (decide (workT ns vs t = 0)) := by
  unfold notT
  rw [workT, if_neg (by decide), if_neg (by decide), if_pos rfl, workL, workL]
  rfl
theorem sub_work (ns : List ByteArray) (vs : List Int) (t : Tree) : workT ns vs (subT t t) = 0 := by
  unfold subT
  rw [workT, if_neg (by decide), if_neg (by decide), if_neg (by decide), workL, workL, workL]
  simp [opW, mod3]
theorem not_right {t : Tree} {r : Nat} (h : rightB t r = true) : rightB (notT t) (r + 1) = true := by
  unfold notT
  rw [rightB, if_neg (by decide), if_neg (by decide), rightS, rightS, Nat.add_sub_cancel, h]
  simp [manyK]
theorem sub_right {t u : Tree} {r : Nat} (h : rightB t r = true) (h2 : rightB u r = true) : rightB (subT t u) (r + 1) = true := by
  unfold subT
  rw [rightB, if_neg (by decide), if_neg (by decide), rightS, rightS, rightS, Nat.add_sub_cancel, h, h2]
  simp [manyK]
mutual
theorem right_more_room : ∀ (t : Tree) {r r2 : Nat}, r ≤ r2 → rightB t r = true → rightB t r2 = true
  | .node k n s ks, r, r2, h, ht => by
    rw [rightB] at ht ⊢
    by_cases h1 : k = 1
    · rw [if_pos h1] at ht ⊢; exact ht
    · rw [if_neg h1] at ht ⊢
      by_cases h2 : k = 2
      · rw [if_pos h2] at ht ⊢; exact ht
      · rw [if_neg h2] at ht ⊢
        simp only [Bool.and_eq_true, decide_eq_true_eq] at ht ⊢
        obtain ⟨⟨hh, hr⟩, hs⟩ := ht
        exact ⟨⟨hh, by omega⟩, right_more_roomS ks (by omega) hs⟩
theorem right_more_roomS : ∀ (ks : List Tree) {r r2 : Nat}, r ≤ r2 → rightS ks r = true → rightS ks r2 = true
  | [], _, _, _, _ => by rw [rightS]
  | t :: ts, r, r2, h, ht => by
    rw [rightS, Bool.and_eq_true] at ht ⊢
    exact ⟨right_more_room t h ht.1, right_more_roomS ts h ht.2⟩
end
end Go.Proofs.Ytegcebjfcmcgmaa.Trm
