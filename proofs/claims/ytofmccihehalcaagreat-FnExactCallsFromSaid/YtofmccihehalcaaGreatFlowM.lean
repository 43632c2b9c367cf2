/- What comes next in a code, as values: the places behind a place, those that one comes to, and how a search comes to all of them. Without conditions: no Go text is walked here. -/
import Derived.Test.YtofmccihehalcaaGreatKAnsM
namespace Go.Proofs.YtofmccihehalcaaGreat.Trm
open Go.RowKit Own
/-- The places that may come next. -/
noncomputable def nextN (i : Nat) (a : InsT) : List Nat := if a.op = 2 then (if a.to = (i : Int) + 1 then [i + 1] else [i + 1, a.to.toNat]) else if a.op = 3 then [a.to.toNat] else if a.op = 9 then [] else [i + 1]
def upI (ns : List Nat) : List Int := ns.map fun n : Nat => (n : Int)
theorem upI_length (ns : List Nat) : (upI ns).length = ns.length := by unfold upI; rw [List.length_map]
theorem upI_append (a b : List Nat) : upI (a ++ b) = upI a ++ upI b := by simp [upI]
theorem nextN_le (i : Nat) (a : InsT) : (nextN i a).length ≤ 2 := by
  unfold nextN
  split
  · split <;> simp
  · split
    · simp
    · split <;> simp
theorem okK_in {x : KTree} (hk : okK x = true) {i : Nat} (hi : i < x.ins.length) : okIn x i x.ins[i] = true := by
  unfold okK at hk
  rw [Bool.and_eq_true] at hk
  have := okIns_at hk.2 i hi
  rw [Nat.zero_add] at this
  exact this
theorem okK_to {x : KTree} (hk : okK x = true) {i : Nat} (hi : i < x.ins.length) (h : x.ins[i].op = 2 ∨ x.ins[i].op = 3) : 0 ≤ x.ins[i].to ∧ x.ins[i].to < (x.ins.length : Int) := by
  have h1 := okK_in hk hi
  unfold okIn at h1
  simp only [Bool.and_eq_true] at h1
  obtain ⟨_, _, _, h4⟩ := h1
  rw [if_pos h] at h4
  unfold toB at h4
  simp only [decide_eq_true_eq] at h4
  obtain ⟨h5, p, _, hp, h6, _⟩ := h4
  have := (okK_ris hk).nonneg hp
  exact ⟨by omega, h5⟩
theorem okK_end {x : KTree} (hk : okK x = true) {i : Nat} (hi : i < x.ins.length) (h : x.ins[i].op ≠ 9) : i + 1 < x.ins.length := by
  unfold okK at hk
  rw [Bool.and_eq_true] at hk
  have h1 := ((kHeads_ent hk.1).1.2 i hi)
  rcases Nat.lt_or_ge (i + 1) x.ins.length with h2 | h2
  · exact h2
  · exact absurd (h1.2 (.inr (by omega))) h
theorem nextN_lt {x : KTree} (hk : okK x = true) {i : Nat} (hi : i < x.ins.length) : ∀ y, y ∈ nextN i x.ins[i] → y < x.ins.length := by
  intro y hy
  unfold nextN at hy
  split at hy
  · rename_i h2
    have h3 := okK_to hk hi (.inl h2)
    have h4 := okK_end hk hi (by omega)
    split at hy
    · rw [List.mem_singleton] at hy; omega
    · simp only [List.mem_cons, List.not_mem_nil, or_false] at hy
      rcases hy with rfl | rfl
      · exact h4
      · omega
  · split at hy
    · rename_i h2
      have h3 := okK_to hk hi (.inr h2)
      rw [List.mem_singleton] at hy; omega
    · split at hy
      · simp at hy
      · rename_i h9
        rw [List.mem_singleton] at hy
        have := okK_end hk hi h9
        omega
/-- One comes from a place to another. -/
inductive Rch (E : Nat → Nat → Prop) (s : Nat) : Nat → Prop
  | one {y : Nat} : E s y → Rch E s y
  | more {y z : Nat} : Rch E s y → E y z → Rch E s z
/-- A search under way: what is marked, what is open, what is still to be looked at. -/
structure Srch (E : Nat → Nat → Prop) (s n : Nat) (met : List Bool) (op : List Nat) (c : Nat) (zs : List Nat) : Prop where
  len : met.length = n
  start : s < n
  right : ∀ y, met[y]? = some true → Rch E s y
  opn : ∀ z, z ∈ op → z = s ∨ met[z]? = some true
  small : ∀ z, z ∈ op → z < n
  cur : zs ≠ [] → c = s ∨ met[c]? = some true
  edge : ∀ z, z ∈ zs → E c z ∧ z < n
  all : ∀ y, (y = s ∨ met[y]? = some true) → y ∈ op ∨ ∀ z, E y z → met[z]? = some true ∨ (y = c ∧ z ∈ zs)
theorem Srch.begin {E : Nat → Nat → Prop} {s n : Nat} (h : s < n) : Srch E s n (List.replicate n false) [s] 0 [] := by
  refine ⟨by simp, h, fun y hy => ?_, fun z hz => .inl (by simpa using hz), fun z hz => by rw [List.mem_singleton] at hz; omega, fun h => absurd rfl h, fun z hz => by simp at hz, fun y hy => ?_⟩
  · simp [List.getElem?_replicate] at hy
  · rcases hy with rfl | hy
    · exact .inl (by simp)
    · simp [List.getElem?_replicate] at hy
/-- A place is taken up. -/
theorem Srch.take {E : Nat → Nat → Prop} {s n c c' : Nat} {met : List Bool} {op op' zs : List Nat} (h : Srch E s n met op c' []) (hc : c ∈ op) (h1 : ∀ z, z ∈ op → z = c ∨ z ∈ op') (h2 : ∀ z, z ∈ op' → z ∈ op) (hz : ∀ z, E c z ↔ z ∈ zs) (hn : ∀ z, z ∈ zs → z < n) : Srch E s n met op' c zs := by
  refine ⟨h.len, h.start, h.right, fun z hz => h.opn z (h2 z hz), fun z hz => h.small z (h2 z hz), fun _ => h.opn c hc, fun z hz2 => ⟨(hz z).2 hz2, hn z hz2⟩, fun y hy => ?_⟩
  rcases h.all y hy with h3 | h3
  · rcases h1 y h3 with rfl | h4
    · exact .inr fun z hz2 => .inr ⟨rfl, (hz z).1 hz2⟩
    · exact .inl h4
  · refine .inr fun z hz2 => ?_
    rcases h3 z hz2 with h4 | ⟨_, h4⟩
    · exact .inl h4
    · simp at h4
/-- What is marked is passed by. -/
theorem Srch.skip {E : Nat → Nat → Prop} {s n c z : Nat} {met : List Bool} {op zs : List Nat} (h : Srch E s n met op c (z :: zs)) (hz : met[z]? = some true) : Srch E s n met op c zs := by
  refine ⟨h.len, h.start, h.right, h.opn, h.small, fun _ => h.cur (by simp), fun z hz => h.edge z (List.mem_cons_of_mem _ hz), fun y hy => ?_⟩
  rcases h.all y hy with h3 | h3
  · exact .inl h3
  · refine .inr fun z2 hz2 => ?_
    rcases h3 z2 hz2 with h4 | ⟨h5, h4⟩
    · exact .inl h4
    · rcases List.mem_cons.1 h4 with rfl | h4
      · exact .inl hz
      · exact .inr ⟨h5, h4⟩
/-- What is not marked is marked, and open. -/
theorem Srch.hit {E : Nat → Nat → Prop} {s n c z : Nat} {met : List Bool} {op zs : List Nat} (h : Srch E s n met op c (z :: zs)) : Srch E s n (met.set z true) (op ++ [z]) c zs := by
  have hz := h.edge z List.mem_cons_self
  have hlt : z < met.length := by rw [h.len]; exact hz.2
  have hset : ∀ y, (met.set z true)[y]? = some true ↔ y = z ∨ met[y]? = some true := fun y => by
    by_cases e : y = z
    · subst e
      simp [hlt]
    · rw [List.getElem?_set_ne (fun e2 => e e2.symm)]
      simp [e]
  have hr : Rch E s z := by
    rcases h.cur (by simp) with rfl | h2
    · exact .one hz.1
    · exact .more (h.right _ h2) hz.1
  refine ⟨by rw [List.length_set]; exact h.len, h.start, fun y hy => ?_, fun y hy => ?_, fun y hy => ?_, fun _ => ?_, fun z hz => h.edge z (List.mem_cons_of_mem _ hz), fun y hy => ?_⟩
  · rcases (hset y).1 hy with rfl | hy
    · exact hr
    · exact h.right y hy
  · rcases List.mem_append.1 hy with hy | hy
    · rcases h.opn y hy with h2 | h2
      · exact .inl h2
      · exact .inr ((hset y).2 (.inr h2))
    · rw [List.mem_singleton] at hy
      exact .inr ((hset y).2 (.inl hy))
  · rcases List.mem_append.1 hy with hy | hy
    · exact h.small y hy
    · rw [List.mem_singleton] at hy; rw [hy]; exact hz.2
  · rcases h.cur (by simp) with h2 | h2
    · exact .inl h2
    · exact .inr ((hset _).2 (.inr h2))
  · by_cases e : y = z
    · exact .inl (by rw [e]; simp)
    · have hy2 : y = s ∨ met[y]? = some true := by
        rcases hy with hy | hy
        · exact .inl hy
        · rcases (hset y).1 hy with h2 | h2
          · exact absurd h2 e
          · exact .inr h2
      rcases h.all y hy2 with h3 | h3
      · exact .inl (List.mem_append_left _ h3)
      · refine .inr fun z2 hz2 => ?_
        rcases h3 z2 hz2 with h4 | ⟨h5, h4⟩
        · exact .inl ((hset z2).2 (.inr h4))
        · rcases List.mem_cons.1 h4 with rfl | h4
          · exact .inl ((hset _).2 (.inl rfl))
          · exact .inr ⟨h5, h4⟩
/-- The order of what is open does not matter. -/
theorem Srch.perm {E : Nat → Nat → Prop} {s n c : Nat} {met : List Bool} {op op' zs : List Nat} (h : Srch E s n met op c zs) (h1 : ∀ z, z ∈ op ↔ z ∈ op') : Srch E s n met op' c zs :=
  ⟨h.len, h.start, h.right, fun z hz => h.opn z ((h1 z).2 hz), fun z hz => h.small z ((h1 z).2 hz), h.cur, h.edge, fun y hy => by
    rcases h.all y hy with h2 | h2
    · exact .inl ((h1 y).1 h2)
    · exact .inr h2⟩
theorem Srch.done {E : Nat → Nat → Prop} {s n c : Nat} {met : List Bool} (h : Srch E s n met [] c []) (y : Nat) : met[y]? = some true ↔ Rch E s y := by
  constructor
  · exact h.right y
  · have step : ∀ y, (y = s ∨ met[y]? = some true) → ∀ z, E y z → met[z]? = some true := fun y hy z hz => by
      rcases h.all y hy with h2 | h2
      · simp at h2
      · rcases h2 z hz with h3 | ⟨_, h3⟩
        · exact h3
        · simp at h3
    intro hr
    induction hr with
    | one h1 => exact step s (.inl rfl) _ h1
    | more _ h1 ih => exact step _ (.inr ih) _ h1
/-- How many are not marked. -/
def unm : List Bool → Nat
  | [] => 0
  | b :: r => (if b then 0 else 1) + unm r
theorem unm_le : ∀ l : List Bool, unm l ≤ l.length
  | [] => Nat.le_refl _
  | b :: r => by
    rw [unm, List.length_cons]
    have := unm_le r
    split <;> omega
theorem unm_set : ∀ {l : List Bool} {z : Nat}, z < l.length → l[z]? ≠ some true → unm (l.set z true) + 1 = unm l
  | [], z, h, _ => absurd h (by simp)
  | b :: r, 0, _, h => by
    cases b with
    | true => simp at h
    | false => simp [unm]; omega
  | b :: r, z + 1, h, h2 => by
    rw [List.set_cons_succ, unm, unm]
    have := unm_set (l := r) (z := z) (by simpa using h) (by simpa using h2)
    omega
def nxE (x : KTree) (i j : Nat) : Prop := ∃ h : i < x.ins.length, j ∈ nextN i x.ins[i]
open Classical in
/-- Which places one comes to. -/
noncomputable def reachB (x : KTree) (s : Nat) : List Bool := (List.range x.ins.length).map fun y => decide (Rch (nxE x) s y)
theorem reachB_length (x : KTree) (s : Nat) : (reachB x s).length = x.ins.length := by unfold reachB; simp
theorem reachB_at (x : KTree) (s y : Nat) : (reachB x s)[y]? = some true ↔ y < x.ins.length ∧ Rch (nxE x) s y := by
  unfold reachB
  rw [List.getElem?_map]
  by_cases h : y < x.ins.length
  · rw [List.getElem?_range h]
    simp [h]
  · rw [List.getElem?_eq_none (by simpa using h)]
    simp [h]
theorem bools_ext {a b : List Bool} (hl : a.length = b.length) (h : ∀ y : Nat, a[y]? = some true ↔ b[y]? = some true) : a = b := by
  apply List.ext_getElem hl
  intro i h1 h2
  have := h i
  rw [List.getElem?_eq_getElem h1, List.getElem?_eq_getElem h2] at this
  simp only [Option.some.injEq] at this
  cases ha : a[i] <;> cases hb : b[i] <;> simp_all
theorem Srch.reach {x : KTree} {s c : Nat} {met : List Bool} (h : Srch (nxE x) s x.ins.length met [] c []) : met = reachB x s := by
  refine bools_ext (by rw [h.len, reachB_length]) fun y => ?_
  rw [h.done, reachB_at]
  constructor
  · intro hr
    have h1 := (h.done y).2 hr
    have := (List.getElem?_eq_some_iff.1 h1).1
    rw [h.len] at this
    exact ⟨this, hr⟩
  · exact fun hr => hr.2
/-- The places that are marked, rising. -/
def markedN : Nat → List Bool → List Nat
  | _, [] => []
  | k, b :: r => if b then k :: markedN (k + 1) r else markedN (k + 1) r
theorem markedN_le : ∀ (k : Nat) (l : List Bool), (markedN k l).length ≤ l.length
  | _, [] => Nat.le_refl _
  | k, b :: r => by
    rw [markedN, List.length_cons]
    have := markedN_le (k + 1) r
    split
    · rw [List.length_cons]; omega
    · omega
theorem markedN_snoc : ∀ (k : Nat) (l : List Bool) (b : Bool), markedN k (l ++ [b]) = markedN k l ++ (if b then [k + l.length] else [])
  | k, [], b => by cases b <;> simp [markedN]
  | k, a :: l, b => by
    rw [List.cons_append, markedN, markedN, markedN_snoc (k + 1) l b]
    have : k + 1 + l.length = k + (a :: l).length := by rw [List.length_cons]; omega
    rw [this]
    split <;> simp
theorem markedN_take {l : List Bool} {j : Nat} (h : j < l.length) : markedN 0 (l.take (j + 1)) = markedN 0 (l.take j) ++ (if l[j] then [j] else []) := by
  rw [List.take_succ_eq_append_getElem h, markedN_snoc, List.length_take, Nat.zero_add, Nat.min_eq_left (Nat.le_of_lt h)]
/-- The places that have a place next, rising. -/
noncomputable def aheadN (s : Nat) : Nat → List InsT → List Nat
  | _, [] => []
  | k, a :: r => if (nextN k a).contains s then k :: aheadN s (k + 1) r else aheadN s (k + 1) r
theorem aheadN_le (s : Nat) : ∀ (k : Nat) (l : List InsT), (aheadN s k l).length ≤ l.length
  | _, [] => Nat.le_refl _
  | k, a :: r => by
    rw [aheadN, List.length_cons]
    have := aheadN_le s (k + 1) r
    split
    · rw [List.length_cons]; omega
    · omega
theorem aheadN_snoc (s : Nat) : ∀ (k : Nat) (l : List InsT) (a : InsT), aheadN s k (l ++ [a]) = aheadN s k l ++ (if (nextN (k + l.length) a).contains s then [k + l.length] else [])
  | k, [], a => by simp [aheadN]
  | k, b :: l, a => by
    rw [List.cons_append, aheadN, aheadN, aheadN_snoc s (k + 1) l a]
    have : k + 1 + l.length = k + (b :: l).length := by rw [List.length_cons]; omega
    rw [this]
    split <;> simp
theorem aheadN_take {s : Nat} {l : List InsT} {j : Nat} (h : j < l.length) : aheadN s 0 (l.take (j + 1)) = aheadN s 0 (l.take j) ++ (if (nextN j l[j]).contains s then [j] else []) := by
  rw [List.take_succ_eq_append_getElem h, aheadN_snoc, List.length_take, Nat.zero_add, Nat.min_eq_left (Nat.le_of_lt h)]
/-- Whether there is such a place in code that is right. -/
noncomputable def atB (x : KTree) (a : Int) : Bool := okK x && decide (0 ≤ a ∧ a < (x.ins.length : Int))
noncomputable def nextAns (x : KTree) (a : Int) : List Nat := if h : atB x a = true ∧ a.toNat < x.ins.length then nextN a.toNat x.ins[a.toNat] else []
noncomputable def aheadAns (x : KTree) (a : Int) : List Nat := if atB x a = true then aheadN a.toNat 0 x.ins else []
noncomputable def reachAns (x : KTree) (a : Int) : List Nat := if atB x a = true then markedN 0 (reachB x a.toNat) else []
noncomputable def liveAns (x : KTree) (p : Int) : List Nat := if h : okK x = true ∧ 0 ≤ p ∧ p.toNat < x.entry.length then markedN 0 ((reachB x (x.entry[p.toNat]'h.2.2).toNat).set (x.entry[p.toNat]'h.2.2).toNat true) else []
noncomputable def loopAns (x : KTree) (a : Int) : Bool := atB x a && decide ((reachB x a.toNat)[a.toNat]? = some true)
theorem atB_iff {x : KTree} {a : Int} : atB x a = true ↔ okK x = true ∧ 0 ≤ a ∧ a < (x.ins.length : Int) := by
  unfold atB
  rw [Bool.and_eq_true, decide_eq_true_eq]
theorem procAns_neg {x : KTree} {a z : Int} (h : ProcAns x a z) : (z < 0) ↔ atB x a = false := by
  rw [← Bool.not_eq_true, atB_iff]
  rcases h with ⟨hk, h | h⟩ | ⟨hk, rfl⟩
  · obtain ⟨h1, h2, p, rfl, _⟩ := h
    constructor
    · intro h3; omega
    · intro h3; exact absurd ⟨hk, h1, h2⟩ h3
  · constructor
    · intro _ h3; exact h.1 h3.2
    · intro _; have := h.2; omega
  · constructor
    · intro _ h3; rw [hk] at h3; exact absurd h3.1 (by simp)
    · intro _; omega
theorem okK_len {x : KTree} (h : okK x = true) : x.ins.length ≤ 1500 := by
  unfold okK at h
  rw [Bool.and_eq_true] at h
  exact (kHeads_ent h.1).2.2.2
theorem markedN_lt : ∀ (k : Nat) (l : List Bool) (y : Nat), y ∈ markedN k l → y < k + l.length
  | _, [], y, h => by simp [markedN] at h
  | k, b :: r, y, h => by
    rw [List.length_cons]
    rw [markedN] at h
    have key : y ∈ markedN (k + 1) r → y < k + (r.length + 1) := fun h2 => by have := markedN_lt (k + 1) r y h2; omega
    split at h
    · rcases List.mem_cons.1 h with rfl | h
      · omega
      · exact key h
    · exact key h
theorem aheadN_lt (s : Nat) : ∀ (k : Nat) (l : List InsT) (y : Nat), y ∈ aheadN s k l → y < k + l.length
  | _, [], y, h => by simp [aheadN] at h
  | k, b :: r, y, h => by
    rw [List.length_cons]
    rw [aheadN] at h
    have key : y ∈ aheadN s (k + 1) r → y < k + (r.length + 1) := fun h2 => by have := aheadN_lt s (k + 1) r y h2; omega
    split at h
    · rcases List.mem_cons.1 h with rfl | h
      · omega
      · exact key h
    · exact key h
/-- What an answer may hold: few numbers, all of them small. -/
def SmallN (l : List Nat) : Prop := l.length ≤ 1500 ∧ ∀ y, y ∈ l → y < 1500
theorem SmallN.int {l : List Nat} (h : SmallN l) : ∀ z, z ∈ upI l → InI z := by
  intro z hz
  unfold upI at hz
  obtain ⟨y, hy, rfl⟩ := List.mem_map.1 hz
  have := h.2 y hy
  unfold InI
  omega
theorem smallN_nil : SmallN [] := ⟨by simp, fun y h => by simp at h⟩
theorem nextAns_small (x : KTree) (a : Int) : SmallN (nextAns x a) := by
  unfold nextAns
  split
  · rename_i h
    have hk := (atB_iff.1 h.1).1
    have hl := okK_len hk
    refine ⟨?_, fun y hy => ?_⟩
    · have := nextN_le a.toNat x.ins[a.toNat]; omega
    · have := nextN_lt hk h.2 y hy; omega
  · exact smallN_nil
theorem aheadAns_small (x : KTree) (a : Int) : SmallN (aheadAns x a) := by
  unfold aheadAns
  split
  · rename_i h
    have hl := okK_len (atB_iff.1 h).1
    exact ⟨Nat.le_trans (aheadN_le _ _ _) hl, fun y hy => by have := aheadN_lt _ _ _ y hy; omega⟩
  · exact smallN_nil
theorem reachAns_small (x : KTree) (a : Int) : SmallN (reachAns x a) := by
  unfold reachAns
  split
  · rename_i h
    have hl := okK_len (atB_iff.1 h).1
    have hr := reachB_length x a.toNat
    exact ⟨by have := markedN_le 0 (reachB x a.toNat); omega, fun y hy => by have := markedN_lt _ _ y hy; omega⟩
  · exact smallN_nil
theorem liveAns_small (x : KTree) (p : Int) : SmallN (liveAns x p) := by
  unfold liveAns
  split
  · rename_i h
    have hl := okK_len h.1
    have hr : ((reachB x (x.entry[p.toNat]'h.2.2).toNat).set (x.entry[p.toNat]'h.2.2).toNat true).length = x.ins.length := by rw [List.length_set, reachB_length]
    exact ⟨by have := markedN_le 0 ((reachB x (x.entry[p.toNat]'h.2.2).toNat).set (x.entry[p.toNat]'h.2.2).toNat true); omega, fun y hy => by have := markedN_lt _ _ y hy; omega⟩
  · exact smallN_nil
end Go.Proofs.YtofmccihehalcaaGreat.Trm
