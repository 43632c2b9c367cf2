/- A region that draws its order, walked once in the order of its text, under one condition on the world: what is not wanted is passed over, a call is met where it alone may come up. Cases may be parted between two operations. -/
import Derived.Test.YtofmccihehalcaaChecked
import Derived.Deep.RegionHeld3
namespace Go.Proofs.Ytofmccihehalcaa.RegSeq
open Go
section
variable {P : Program} {ops : Array Oper} {Q : Exit → Act → World → Prop} {S : World → Prop}
/-- The first k have come up. -/
def ls (n k : Nat) : Array Bool := (List.replicate k true ++ List.replicate (n - k) false).toArray
theorem ls_set {n k : Nat} (h : k < n) : (ls n k).setIfInBounds k true = ls n (k + 1) := by
  unfold ls
  rw [List.setIfInBounds_toArray]
  congr 1
  apply List.ext_getElem
  · simp; omega
  · intro i h1 h2
    simp only [List.getElem_set, List.getElem_append, List.length_replicate, List.getElem_replicate]
    split <;> split <;> (try split) <;> first | rfl | omega
theorem ls_zero (n : Nat) : ls n 0 = Array.replicate n false := by
  unfold ls
  simp
def okAt (ops : Array Oper) (k : Nat) : Bool := (Region.ready .any ops (ls ops.size k)).contains k && Region.free .any ops (ls ops.size k) k
def okAll (ops : Array Oper) : Bool := Region.noSelect ops && (List.range ops.size).all (okAt ops) && (Region.ready .any ops (ls ops.size ops.size)).isEmpty
/-- What is left of the region from number k on. -/
def Seq (P : Program) (ops : Array Oper) (Q : Exit → Act → World → Prop) (S : World → Prop) (k : Nat) (a : Act) (w : World) : Prop :=
  okAll ops = true → wpAnyH P .any ops (NoPanic Q) S (ops.size - k) (ls ops.size k) a w
theorem seq_start {id : Nat} {a : Act} {w : World} (hm : P.follows .mixedOrders = true) (hok : okAll ops = true) (hS : S w.drew)
    (h : S w.drew → Seq P ops Q S 0 a w.drew) : (Code.region id ops true).wp P Q a w :=
  wp_region_noPanic (wp_region_held_drew hm hS fun hs => by rw [← ls_zero]; exact h hs hok)
theorem ok_parts (hok : okAll ops = true) {k : Nat} (hk : k < ops.size) : Region.noSelect ops = true ∧ (Region.ready .any ops (ls ops.size k)).contains k = true ∧ Region.free .any ops (ls ops.size k) k = true := by
  unfold okAll at hok
  simp only [Bool.and_eq_true] at hok
  have h2 := List.all_eq_true.1 hok.1.2 k (List.mem_range.2 hk)
  unfold okAt at h2
  simp only [Bool.and_eq_true] at h2
  exact ⟨hok.1.1, h2.1, h2.2⟩
theorem lt_of_op {k : Nat} {o : Oper} (hk : ops[k]? = some o) : k < ops.size := (Array.getElem?_eq_some_iff.1 hk).1
theorem Seq.yields {k : Nat} {o : Oper} {v : Value} {a : Act} {w : World} (hk : ops[k]? = some o) (hy : YieldsIf P ops S o v a) (hS : S w)
    (h : Seq P ops Q S (k + 1) (a.put o.dst v) w) : Seq P ops Q S k a w := fun hok => by
  have hlt := lt_of_op hk
  obtain ⟨h1, h2, h3⟩ := ok_parts hok hlt
  have e : ops.size - k = (ops.size - (k + 1)) + 1 := by omega
  rw [e]
  refine wpAnyH_take hk h1 h3 h2 (fun c _ _ h => (h : False).elim) hy hS ?_
  rw [ls_set hlt]
  exact h hok
/-- It is wanted, and yields v in every world that meets S. -/
theorem Seq.take {k : Nat} {o : Oper} {v : Value} {a : Act} {w : World} (hk : ops[k]? = some o) (hw : Region.wanted o (yielded ops a.tmps) = true)
    (hv : ∀ w, S w → (execOp a.eval o).run P w = .ok (.value v) w) (hS : S w)
    (h : Seq P ops Q S (k + 1) (a.put o.dst v) w) : Seq P ops Q S k a w := Seq.yields hk (.inl ⟨hw, hv⟩) hS h
theorem Seq.skip {k : Nat} {o : Oper} {a : Act} {w : World} (hk : ops[k]? = some o) (hw : Region.wanted o (yielded ops a.tmps) = false) (hS : S w)
    (h : Seq P ops Q S (k + 1) (a.put o.dst undef) w) : Seq P ops Q S k a w := Seq.yields hk (.inr ⟨hw, rfl⟩) hS h
/-- It alone may come up. -/
theorem Seq.step {k : Nat} {o : Oper} {a : Act} {w : World} (hk : ops[k]? = some o) (hr : Region.ready .any ops (ls ops.size k) = [k])
    (h : ∀ K' : Act → World → Prop, Shut (∀ a w, S w → (S w → Seq P ops Q S (k + 1) a w) → K' a w) → if Region.wanted o (yielded ops a.tmps) = true then Oper.wp P o a w K' (NoPanic Q) else K' (a.put o.dst undef) w) :
    Seq P ops Q S k a w := fun hok => by
  have hlt := lt_of_op hk
  have e : ops.size - k = (ops.size - (k + 1)) + 1 := by omega
  rw [e]
  refine wpAnyH_ready hr (by simp) (AllReadyH.cons hk (fun K' hK => h K' fun a w hS hW => hK.out a w hS fun hs => ?_) AllReadyH.nil)
  rw [ls_set hlt]
  exact hW hs hok
theorem Seq.done {k : Nat} {a : Act} {w : World} (hk : ops.size = k) (h : Q .normal a w) : Seq P ops Q S k a w := fun hok => by
  unfold okAll at hok
  simp only [Bool.and_eq_true] at hok
  subst hk
  exact wpAnyH_done (List.isEmpty_iff.1 hok.2) (NoPanic.normal h) _
theorem ls_get {n k : Nat} (hk : k ≤ n) (i : Nat) (d : Bool) : (ls n k).getD i d = if i < k then true else if i < n then false else d := by
  unfold ls
  rw [Array.getD_eq_getD_getElem?, List.getElem?_toArray, List.getElem?_append, List.getElem?_replicate, List.getElem?_replicate, List.length_replicate]
  by_cases h : i < k
  · simp [h]
  · by_cases h2 : i < n
    · have : i - k < n - k := by omega
      simp [h, h2, this]
    · have : ¬ i - k < n - k := by omega
      simp [h, h2, this]
/-- What the order of the text asks, read once over the list. -/
def okFrom (ops : Array Oper) : Nat → List Oper → Bool
  | _, [] => true
  | k, o :: rest => o.after.all (fun e => !Region.binds .any e || Nat.blt e.on k) && rest.all (fun oj => oj.after.any (fun e => Region.binds .any e && e.on == k) || o.apart ops oj) && okFrom ops (k + 1) rest
theorem okFrom_at (n : Nat) : ∀ (k : Nat), ops.size - k = n → okFrom ops k (ops.toList.drop k) = true → ∀ j, k ≤ j → j < ops.size → okAt ops j = true := by
  induction n with
  | zero => intro k hn _ j hkj hj; omega
  | succ n ih =>
    intro k hn h j hkj hj
    have hk : k < ops.size := by omega
    have hd : ops.toList.drop k = ops[k] :: ops.toList.drop (k + 1) := by
      rw [List.drop_eq_getElem_cons (by simpa using hk)]; simp
    rw [hd, okFrom] at h
    simp only [Bool.and_eq_true] at h
    obtain ⟨⟨h1, h2⟩, h3⟩ := h
    by_cases hjk : k = j
    · subst hjk
      unfold okAt
      rw [Bool.and_eq_true]
      constructor
      · rw [List.contains_iff_mem]
        unfold Region.ready
        refine List.mem_filter.2 ⟨List.mem_range.2 hk, ?_⟩
        rw [ls_get (by omega), Array.getElem?_eq_getElem hk]
        simp only [Nat.lt_irrefl, if_false, hk, if_true, Bool.not_false, Bool.true_and, Option.map_some, Option.getD_some]
        rw [Array.all_eq_true_iff_forall_mem] at h1 ⊢
        intro e he
        have := h1 e he
        simp only [Bool.or_eq_true] at this ⊢
        refine this.imp id fun hb => ?_
        rw [ls_get (by omega)]
        have : e.on < k := by rw [Nat.blt_eq] at hb; exact hb
        simp [this]
      · unfold Region.free
        rw [Array.getElem?_eq_getElem hk]
        show List.all _ _ = true
        rw [List.all_eq_true]
        intro i hi
        have hi := List.mem_range.1 hi
        rw [ls_get (by omega)]
        by_cases hik : i < k
        · simp [hik]
        · by_cases hie : i = k
          · simp [hie]
          · have hmem : ops[i] ∈ ops.toList.drop (k + 1) := by
              rw [List.mem_iff_getElem]
              exact ⟨i - (k + 1), by simp; omega, by simp [show k + 1 + (i - (k + 1)) = i by omega]⟩
            have := List.all_eq_true.1 h2 _ hmem
            rw [Array.getElem?_eq_getElem hi]
            simp only [hie, hik, hi, if_true, if_false, Bool.or_false, beq_iff_eq, Bool.or_eq_true]
            exact .inr (by simpa using this)
    · exact ih (k + 1) (by omega) h3 j (by omega) hj
theorem okAll_of (hs : Region.noSelect ops = true) (h : okFrom ops 0 ops.toList = true) : okAll ops = true := by
  unfold okAll
  simp only [Bool.and_eq_true]
  refine ⟨⟨hs, List.all_eq_true.2 fun k hk => okFrom_at _ 0 rfl (by simpa using h) k (Nat.zero_le _) (List.mem_range.1 hk)⟩, ?_⟩
  rw [List.isEmpty_iff]
  unfold Region.ready
  rw [List.filter_eq_nil_iff]
  intro i hi
  have hi := List.mem_range.1 hi
  rw [ls_get (Nat.le_refl _)]
  simp [hi]
theorem seq_begin {id : Nat} {a : Act} {w : World} (hm : P.follows .mixedOrders = true) (hns : Region.noSelect ops = true) (hok : okFrom ops 0 ops.toList = true) (hS : S w.drew)
    (h : S w.drew → Seq P ops Q S 0 a w.drew) : (Code.region id ops true).wp P Q a w := seq_start hm (okAll_of hns hok) hS h
theorem op_at {k : Nat} {o : Oper} {rest : List Oper} (h : ops.toList.drop k = o :: rest) : ops[k]? = some o := by
  have := congrArg List.head? h
  rw [List.head?_drop] at this
  simpa using this
/-- It is wanted, and yields v in every world that meets S. -/
theorem Seq.take' {k : Nat} {o : Oper} {rest : List Oper} {v : Value} {a : Act} {w : World} (hk : ops.toList.drop k = o :: rest) (hw : Region.wanted o (yielded ops a.tmps) = true)
    (hv : ∀ w, S w → (execOp a.eval o).run P w = .ok (.value v) w) (hS : S w)
    (h : Seq P ops Q S (k + 1) (a.put o.dst v) w) : Seq P ops Q S k a w := Seq.take (op_at hk) hw hv hS h
/-- It alone may come up, and is wanted. -/
theorem Seq.step' {k : Nat} {o : Oper} {rest : List Oper} {a : Act} {w : World} (hk : ops.toList.drop k = o :: rest) (hr : Region.ready .any ops (ls ops.size k) = [k]) (hw : Region.wanted o (yielded ops a.tmps) = true)
    (h : ∀ K' : Act → World → Prop, Shut (∀ a w, S w → (S w → Seq P ops Q S (k + 1) a w) → K' a w) → Oper.wp P o a w K' (NoPanic Q)) :
    Seq P ops Q S k a w := Seq.step (op_at hk) hr fun K' hK => by rw [if_pos hw]; exact h K' hK
/-- The next ones, which write the temporaries ds, are not wanted. -/
def skips (ops : Array Oper) : Nat → List Nat → Act → Bool
  | _, [], _ => true
  | k, d :: ds, a => match ops[k]? with
    | none => false
    | some o => o.dst == some d && !Region.wanted o (yielded ops a.tmps) && skips ops (k + 1) ds (a.put (some d) undef)
def skipped : List Nat → Act → Act
  | [], a => a
  | d :: ds, a => skipped ds (a.put (some d) undef)
theorem Seq.skips {w : World} (hS : S w) : ∀ (ds : List Nat) (k : Nat) (a : Act), RegSeq.skips ops k ds a = true → Seq P ops Q S (k + ds.length) (skipped ds a) w → Seq P ops Q S k a w
  | [], _, _, _, h => h
  | d :: ds, k, a, hs, h => by
    unfold RegSeq.skips at hs
    cases ho : ops[k]? with
    | none => rw [ho] at hs; simp at hs
    | some o =>
      rw [ho] at hs
      simp only [Bool.and_eq_true, Bool.not_eq_true', beq_iff_eq] at hs
      have h' : Seq P ops Q S (k + 1 + ds.length) (skipped ds (a.put (some d) undef)) w := by
        rw [show k + 1 + ds.length = k + (d :: ds).length by simp; omega]; exact h
      exact Seq.skip ho hs.1.2 hS (by rw [hs.1.1]; exact Seq.skips hS ds (k + 1) _ hs.2 h')
end
end Go.Proofs.Ytofmccihehalcaa.RegSeq
