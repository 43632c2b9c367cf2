/- What belongs together, as values: a table of ways, the parts of a graph and their order. Without conditions: no Go text is walked here. -/
import Derived.Test.YtabpbmifegfmgaaChecked
namespace Go.Proofs.Ytabpbmifegfmgaa.Trm
abbrev Mat := Nat → Nat → Bool
def updM (M : Mat) (a b : Nat) : Mat := fun x y => M x y || (decide (x = a) && decide (y = b))
def arcM (es : List (Int × Int)) : Mat := fun a b => es.any fun e => decide (e.1 = (a : Int)) && decide (e.2 = (b : Int))
theorem arcM_nil : arcM [] = fun _ _ => false := rfl
theorem arcM_snoc (es : List (Int × Int)) (a b : Nat) : arcM (es ++ [((a : Int), (b : Int))]) = updM (arcM es) a b := by
  funext x y
  simp only [arcM, updM, List.any_append, List.any_cons, List.any_nil, Bool.or_false]
  congr 2
  · simp only [decide_eq_decide]; omega
  · simp only [decide_eq_decide]; omega
def Sup (n : Nat) (M : Mat) : Prop := ∀ a b, M a b = true → a < n ∧ b < n
def warK (M : Mat) : Nat → Mat
  | 0 => M
  | k + 1 => fun a b => warK M k a b || (warK M k a k && warK M k k b)
theorem Sup.war {n : Nat} {M : Mat} (h : Sup n M) : ∀ k, Sup n (warK M k)
  | 0 => h
  | k + 1 => fun a b hab => by
    have ih := h.war k
    simp only [warK, Bool.or_eq_true, Bool.and_eq_true] at hab
    rcases hab with h1 | ⟨h1, h2⟩
    · exact ih _ _ h1
    · exact ⟨(ih _ _ h1).1, (ih _ _ h2).2⟩
/-- The table in the midst of a turn: node k's turn, rows up to i are done, and of row i the cells up to j. -/
def progM (P : Mat) (k i j : Nat) : Mat := fun a b => P a b || ((decide (a < i) || (decide (a = i) && decide (b < j))) && (P a k && P k b))
theorem progM_start (P : Mat) (k : Nat) : progM P k 0 0 = P := by
  funext a b
  simp [progM]
theorem progM_in (P : Mat) (k i j : Nat) : progM P k i j i k = P i k := by
  unfold progM
  cases h : P i k <;> simp
theorem progM_from (P : Mat) (k i j : Nat) : progM P k i j k j = P k j := by
  unfold progM
  cases h : P k j <;> simp
theorem progM_put (P : Mat) (k i j : Nat) (h1 : P i k = true) (h2 : P k j = true) : updM (progM P k i j) i j = progM P k i (j + 1) := by
  funext a b
  unfold updM progM
  by_cases ha : a = i
  · subst ha
    by_cases hb : b = j
    · subst hb
      simp [h1, h2]
    · have e : decide (b < j + 1) = decide (b < j) := by simp only [decide_eq_decide]; omega
      simp [hb, e]
  · simp [ha]
theorem progM_pass (P : Mat) (k i j : Nat) (h2 : P k j = false) : progM P k i j = progM P k i (j + 1) := by
  funext a b
  unfold progM
  by_cases hb : b = j
  · subst hb
    simp [h2]
  · have e : decide (b < j + 1) = decide (b < j) := by simp only [decide_eq_decide]; omega
    rw [e]
theorem progM_row {n : Nat} {P : Mat} (hs : Sup n P) (k i : Nat) : progM P k i n = progM P k (i + 1) 0 := by
  funext a b
  unfold progM
  by_cases hb : b < n
  · have e : (decide (a < i) || decide (a = i) && decide (b < n)) = (decide (a < i + 1) || decide (a = i + 1) && decide (b < 0)) := by
      have h3 : decide (a < i + 1) = (decide (a < i) || decide (a = i)) := by
        by_cases h : a < i
        · simp [h]; omega
        · by_cases h4 : a = i
          · simp [h4]
          · have : ¬ a < i + 1 := by omega
            simp [h, h4, this]
      simp [hb, h3]
    rw [e]
  · have h0 : P k b = false := by
      cases h : P k b with
      | false => rfl
      | true => exact absurd (hs _ _ h).2 hb
    simp [h0]
theorem progM_skip (P : Mat) (k i : Nat) (h1 : P i k = false) : progM P k i 0 = progM P k (i + 1) 0 := by
  funext a b
  unfold progM
  by_cases ha : a = i
  · subst ha
    simp [h1]
  · have e : decide (a < i + 1) = decide (a < i) := by simp only [decide_eq_decide]; omega
    simp [e]
theorem progM_turn {n : Nat} {M : Mat} (hs : Sup n M) (k : Nat) : progM (warK M k) k n 0 = warK M (k + 1) := by
  funext a b
  show _ = (warK M k a b || (warK M k a k && warK M k k b))
  unfold progM
  by_cases ha : a < n
  · simp [ha]
  · have h0 : warK M k a k = false := by
      cases h : warK M k a k with
      | false => rfl
      | true => exact absurd (hs.war k _ _ h).1 ha
    simp [h0]
theorem war_tr (M : Mat) : ∀ k m a b, m < k → warK M k a m = true → warK M k m b = true → warK M k a b = true
  | 0, _, _, _, h, _, _ => absurd h (Nat.not_lt_zero _)
  | k + 1, m, a, b, hm, h1, h2 => by
    have ih := war_tr M k
    simp only [warK, Bool.or_eq_true, Bool.and_eq_true] at h1 h2 ⊢
    by_cases e : m = k
    · subst e
      refine .inr ⟨?_, ?_⟩
      · rcases h1 with h1 | ⟨h1, _⟩ <;> exact h1
      · rcases h2 with h2 | ⟨_, h2⟩ <;> exact h2
    · have hlt : m < k := by omega
      rcases h1 with h1 | ⟨h1, h3⟩
      · rcases h2 with h2 | ⟨h2, h4⟩
        · exact .inl (ih m a b hlt h1 h2)
        · exact .inr ⟨ih m a k hlt h1 h2, h4⟩
      · rcases h2 with h2 | ⟨h2, h4⟩
        · exact .inr ⟨h1, ih m k b hlt h3 h2⟩
        · exact .inr ⟨h1, h4⟩
/-- A table of ways: of nodes below n, and what a way leads to is led to. -/
def Ways (n : Nat) (W : Mat) : Prop := Sup n W ∧ ∀ a m b, W a m = true → W m b = true → W a b = true
theorem war_ways {n : Nat} {M : Mat} (hs : Sup n M) : Ways n (warK M n) :=
  ⟨hs.war n, fun a m b h1 h2 => war_tr M n m a b ((hs.war n _ _ h1).2) h1 h2⟩
def partL (W : Mat) (n i : Nat) : List Nat := (List.range n).filter fun j => decide (j = i) || (W i j && W j i)
theorem mem_partL {W : Mat} {n i j : Nat} : j ∈ partL W n i ↔ j < n ∧ (j = i ∨ (W i j = true ∧ W j i = true)) := by
  simp [partL]
def freeB (W : Mat) (n : Nat) (told : Nat → Bool) (i : Nat) : Bool := !told i && (List.range n).all fun j => !W i j || W j i || told j
def nextF (W : Mat) (n : Nat) (told : Nat → Bool) : Option Nat := (List.range n).find? (freeB W n told)
def tellP (told : Nat → Bool) (p : List Nat) : Nat → Bool := fun x => told x || decide (x ∈ p)
def compsF (W : Mat) (n : Nat) : Nat → (Nat → Bool) → List (List Nat)
  | 0, _ => []
  | f + 1, told => match nextF W n told with
    | none => []
    | some i => partL W n i :: compsF W n f (tellP told (partL W n i))
def compsN (W : Mat) (n : Nat) : List (List Nat) := compsF W n n fun _ => false
def Cl (W : Mat) (told : Nat → Bool) : Prop := ∀ i j, told i = true → W i j = true → W j i = true → told j = true
def untold (n : Nat) (told : Nat → Bool) : Nat := (List.range n).countP fun j => !told j
theorem free_iff {W : Mat} {n : Nat} {told : Nat → Bool} {i : Nat} : freeB W n told i = true ↔ told i = false ∧ ∀ j, j < n → W i j = true → W j i = true ∨ told j = true := by
  unfold freeB
  simp only [Bool.and_eq_true, Bool.not_eq_true', List.all_eq_true, List.mem_range, Bool.or_eq_true]
  constructor
  · rintro ⟨h1, h2⟩
    refine ⟨h1, fun j hj h3 => ?_⟩
    rcases h2 j hj with (h4 | h4) | h4
    · rw [h3] at h4; cases h4
    · exact .inl h4
    · exact .inr h4
  · rintro ⟨h1, h2⟩
    refine ⟨h1, fun j hj => ?_⟩
    cases h3 : W i j with
    | false => exact .inl (.inl rfl)
    | true =>
      rcases h2 j hj h3 with h4 | h4
      · exact .inl (.inr h4)
      · exact .inr h4
theorem next_some {W : Mat} {n : Nat} {told : Nat → Bool} {i : Nat} (hi : i < n) (hf : freeB W n told i = true) (hb : ∀ j, j < i → freeB W n told j = false) : nextF W n told = some i := by
  unfold nextF
  rw [List.find?_range_eq_some]
  exact ⟨hf, by simpa using hi, fun j hj => by simp [hb j hj]⟩
theorem next_of {W : Mat} {n : Nat} {told : Nat → Bool} {i : Nat} (h : nextF W n told = some i) : i < n ∧ freeB W n told i = true := by
  unfold nextF at h
  exact ⟨by simpa using List.mem_of_find?_eq_some h, List.find?_some h⟩
theorem next_none {W : Mat} {n : Nat} {told : Nat → Bool} (hb : ∀ j, j < n → freeB W n told j = false) : nextF W n told = none := by
  unfold nextF
  rw [List.find?_eq_none]
  intro j hj
  simp [hb j (by simpa using hj)]
theorem part_untold {W : Mat} {n : Nat} {told : Nat → Bool} {i : Nat} (hc : Cl W told) (hi : told i = false) {j : Nat} (hj : j ∈ partL W n i) : told j = false := by
  rcases (mem_partL.1 hj).2 with rfl | ⟨h1, h2⟩
  · exact hi
  · cases h : told j with
    | false => rfl
    | true => rw [hc j i h h2 h1] at hi; cases hi
theorem Cl.tell {W : Mat} {n : Nat} {told : Nat → Bool} {i : Nat} (hw : Ways n W) (hc : Cl W told) (_hi : i < n) : Cl W (tellP told (partL W n i)) := by
  intro a b ha h1 h2
  simp only [tellP, Bool.or_eq_true, decide_eq_true_eq] at ha ⊢
  rcases ha with ha | ha
  · exact .inl (hc a b ha h1 h2)
  · refine .inr (mem_partL.2 ⟨(hw.1 _ _ h1).2, ?_⟩)
    rcases (mem_partL.1 ha).2 with rfl | ⟨h3, h4⟩
    · exact .inr ⟨h1, h2⟩
    · exact .inr ⟨hw.2 _ _ _ h3 h1, hw.2 _ _ _ h2 h4⟩
theorem countP_drop {α : Type} (p q : α → Bool) (hqp : ∀ x, q x = true → p x = true) : ∀ l : List α, l.countP (fun x => p x && !q x) + (l.filter q).length = l.countP p
  | [] => rfl
  | x :: l => by
    have ih := countP_drop p q hqp l
    rw [List.countP_cons, List.countP_cons, List.filter_cons]
    cases hq : q x with
    | true => rw [hqp x hq]; simp; omega
    | false => cases hp : p x <;> simp <;> omega
theorem untold_tell {W : Mat} {n : Nat} {told : Nat → Bool} {i : Nat} (hc : Cl W told) (hi : told i = false) : untold n (tellP told (partL W n i)) + (partL W n i).length = untold n told := by
  have key : ∀ x ∈ List.range n, (!(tellP told (partL W n i) x)) = ((!told x) && !(decide (x = i) || (W i x && W x i))) := by
    intro x hx
    have hx2 : x < n := by simpa using hx
    have e : decide (x ∈ partL W n i) = (decide (x = i) || (W i x && W x i)) := by
      rw [Bool.eq_iff_iff]
      simp [mem_partL, hx2]
    simp [tellP, e]
  unfold untold
  rw [List.countP_congr (q := fun x => (!told x) && !(decide (x = i) || (W i x && W x i))) (fun x hx => by rw [key x hx])]
  have h2 : ∀ x, (decide (x = i) || (W i x && W x i)) = true → x < n → (!told x) = true := fun x hx hn => by
    have : x ∈ partL W n i := mem_partL.2 ⟨hn, by simpa using hx⟩
    rw [part_untold hc hi this]; rfl
  have h3 : (List.range n).countP (fun x => (!told x) && !(decide (x = i) || (W i x && W x i))) + ((List.range n).filter (fun x => decide (x = i) || (W i x && W x i))).length = (List.range n).countP (fun x => !told x) := by
    have h4 : ∀ q : Nat → Bool, (∀ x, q x = true → x < n → (!told x) = true) → ∀ l : List Nat, (∀ x ∈ l, x < n) → l.countP (fun x => (!told x) && !q x) + (l.filter q).length = l.countP (fun x => !told x) := by
      intro q h2 l
      induction l with
      | nil => intro _; rfl
      | cons x l ih =>
        intro hl
        have ih := ih fun y hy => hl y (List.mem_cons_of_mem _ hy)
        rw [List.countP_cons, List.countP_cons, List.filter_cons]
        cases hq : q x with
        | true => rw [h2 x hq (hl x List.mem_cons_self)]; simp at ih ⊢; omega
        | false => cases hp : told x <;> simp at ih ⊢ <;> omega
    exact h4 _ h2 _ (by simp)
  exact h3
theorem part_pos {W : Mat} {n i : Nat} (hi : i < n) : 0 < (partL W n i).length := List.length_pos_of_mem (mem_partL.2 ⟨hi, .inl rfl⟩)
theorem untold_pos {n : Nat} {told : Nat → Bool} {i : Nat} (hi : i < n) (h : told i = false) : 0 < untold n told := by
  unfold untold
  rw [List.countP_pos_iff]
  exact ⟨i, by simpa using hi, by simp [h]⟩
theorem untold_zero {n : Nat} {told : Nat → Bool} (h : untold n told = 0) (i : Nat) (hi : i < n) : told i = true := by
  cases h2 : told i with
  | true => rfl
  | false => have := untold_pos hi h2; omega
/-- How many nodes are below one, and not together with it. -/
def under (W : Mat) (n i : Nat) : Nat := (List.range n).countP fun k => W i k && !W k i
theorem countP_lt {α : Type} (p q : α → Bool) (hqp : ∀ x, q x = true → p x = true) (l : List α) (x : α) (hx : x ∈ l) (h1 : p x = true) (h2 : q x = false) : l.countP q < l.countP p := by
  have h := countP_drop p q hqp l
  have h3 : (l.filter q).length = l.countP q := List.countP_eq_length_filter.symm
  have h4 : 0 < l.countP (fun x => p x && !q x) := List.countP_pos_iff.2 ⟨x, hx, by simp [h1, h2]⟩
  omega
theorem exists_free {W : Mat} {n : Nat} {told : Nat → Bool} (hw : Ways n W) : ∀ m i, under W n i ≤ m → i < n → told i = false → ∃ j, j < n ∧ freeB W n told j = true := by
  intro m
  induction m with
  | zero =>
    intro i hm hi ht
    refine ⟨i, hi, free_iff.2 ⟨ht, fun j hj h1 => ?_⟩⟩
    cases h2 : W j i with
    | true => exact .inl rfl
    | false =>
      have : 0 < under W n i := List.countP_pos_iff.2 ⟨j, by simpa using hj, by simp [h1, h2]⟩
      omega
  | succ m ih =>
    intro i hm hi ht
    by_cases hf : ∀ j, j < n → W i j = true → W j i = true ∨ told j = true
    · exact ⟨i, hi, free_iff.2 ⟨ht, hf⟩⟩
    · have hf2 : ∃ j, j < n ∧ W i j = true ∧ W j i = false ∧ told j = false := by
        apply Classical.byContradiction
        intro h
        refine hf fun j hj h1 => ?_
        cases h2 : W j i with
        | true => exact .inl rfl
        | false =>
          cases h3 : told j with
          | true => exact .inr rfl
          | false => exact absurd ⟨j, hj, h1, h2, h3⟩ h
      obtain ⟨j, hj, h1, h2, h3⟩ := hf2
      refine ih j ?_ hj h3
      have : under W n j < under W n i := by
        refine countP_lt _ _ (fun k hk => ?_) _ j (by simpa using hj) (by simp [h1, h2]) (by cases h : W j j <;> simp)
        simp only [Bool.and_eq_true, Bool.not_eq_true'] at hk ⊢
        refine ⟨hw.2 _ _ _ h1 hk.1, ?_⟩
        cases h4 : W k i with
        | false => rfl
        | true => rw [hw.2 _ _ _ h4 h1] at hk; exact absurd hk.2 (by simp)
      omega
theorem next_left {W : Mat} {n : Nat} {told : Nat → Bool} (hw : Ways n W) (h : 0 < untold n told) : ∃ i, nextF W n told = some i := by
  obtain ⟨i, hi, h2⟩ := List.countP_pos_iff.1 h
  obtain ⟨j, hj, hf⟩ := exists_free hw _ i (Nat.le_refl _) (by simpa using hi) (by simpa using h2)
  cases h3 : nextF W n told with
  | some i => exact ⟨i, rfl⟩
  | none =>
    unfold nextF at h3
    rw [List.find?_eq_none] at h3
    exact absurd hf (h3 j (by simpa using hj))
/-- Where one is in the telling: what is told, and that the rest is still to be told. -/
def CSt (W : Mat) (n : Nat) (done : List (List Nat)) (told : Nat → Bool) : Prop := Cl W told ∧ (∀ x, told x = true ↔ ∃ p ∈ done, x ∈ p) ∧ ∃ f, untold n told ≤ f ∧ done ++ compsF W n f told = compsN W n
theorem CSt.start (W : Mat) (n : Nat) : CSt W n [] fun _ => false := by
  refine ⟨?_, ?_, n, ?_, rfl⟩
  · intro i j h
    exact absurd h (by simp)
  · intro x
    simp
  · have : untold n (fun _ => false) ≤ (List.range n).length := List.countP_le_length
    simpa using this
theorem CSt.step {W : Mat} {n i : Nat} {done : List (List Nat)} {told : Nat → Bool} (hw : Ways n W) (h : CSt W n done told) (hn : nextF W n told = some i) : CSt W n (done ++ [partL W n i]) (tellP told (partL W n i)) ∧ untold n (tellP told (partL W n i)) + (partL W n i).length = untold n told := by
  obtain ⟨h1, h2, f, h3, h4⟩ := h
  obtain ⟨hi, hf⟩ := next_of hn
  have ht := (free_iff.1 hf).1
  have hu := untold_tell (n := n) h1 ht
  have hp := untold_pos hi ht
  have hpp := part_pos (W := W) hi
  refine ⟨⟨h1.tell hw hi, fun x => ?_, ?_⟩, hu⟩
  · simp only [tellP, Bool.or_eq_true, decide_eq_true_eq, List.mem_append, List.mem_singleton]
    rw [h2]
    constructor
    · rintro (⟨p, hp, hx⟩ | hx)
      · exact ⟨p, .inl hp, hx⟩
      · exact ⟨_, .inr rfl, hx⟩
    · rintro ⟨p, hp | rfl, hx⟩
      · exact .inl ⟨p, hp, hx⟩
      · exact .inr hx
  · cases f with
    | zero => omega
    | succ f =>
      refine ⟨f, by omega, ?_⟩
      rw [← h4, compsF, hn, List.append_assoc]
      rfl
theorem CSt.done {W : Mat} {n : Nat} {done : List (List Nat)} {told : Nat → Bool} (h : CSt W n done told) (hn : nextF W n told = none) : done = compsN W n := by
  obtain ⟨_, _, f, _, h4⟩ := h
  rw [← h4]
  cases f with
  | zero => simp [compsF]
  | succ f => simp [compsF, hn]
theorem CSt.zero {W : Mat} {n : Nat} {done : List (List Nat)} {told : Nat → Bool} (h : CSt W n done told) (hz : untold n told = 0) : done = compsN W n := by
  refine h.done (next_none fun j hj => ?_)
  have := untold_zero hz j hj
  simp [freeB, this]
/-- What is true of the parts of a graph: what each is, where each node is, and which stands behind which. -/
def Told (W : Mat) (n : Nat) (told : Nat → Bool) (cs : List (List Nat)) : Prop :=
  (∀ p, p ∈ cs → ∃ i, i < n ∧ told i = false ∧ p = partL W n i) ∧ (∀ a, a < n → told a = false → ∃ p, p ∈ cs ∧ a ∈ p) ∧
  (∀ x y (hx : x < cs.length) (hy : y < cs.length) a b, a ∈ cs[x] → b ∈ cs[y] → (a = b ∨ (W a b = true ∧ W b a = true)) → x = y) ∧
  (∀ x (hx : x < cs.length) a b, a ∈ cs[x] → W a b = true → W b a = false → told b = true ∨ ∃ y, ∃ hy : y < cs.length, y < x ∧ b ∈ cs[y])
theorem told_comps {W : Mat} {n : Nat} (hw : Ways n W) : ∀ f told, Cl W told → untold n told ≤ f → Told W n told (compsF W n f told) := by
  intro f
  induction f with
  | zero =>
    intro told _ hu
    refine ⟨fun p hp => by simp [compsF] at hp, fun a ha h => ?_, fun x y hx => by simp [compsF] at hx, fun x hx => by simp [compsF] at hx⟩
    have := untold_pos ha h
    omega
  | succ f ih =>
    intro told hc hu
    cases hn : nextF W n told with
    | none =>
      have e : compsF W n (f + 1) told = [] := by simp [compsF, hn]
      rw [e]
      refine ⟨fun p hp => by simp at hp, fun a ha h => ?_, fun x y hx => by simp at hx, fun x hx => by simp at hx⟩
      obtain ⟨i, hi⟩ := next_left hw (untold_pos ha h)
      rw [hi] at hn
      cases hn
    | some i =>
      obtain ⟨hi, hf⟩ := next_of hn
      obtain ⟨ht, hfr⟩ := free_iff.1 hf
      have hpp := part_pos (W := W) hi
      have hut := untold_tell (n := n) hc ht
      have e : compsF W n (f + 1) told = partL W n i :: compsF W n f (tellP told (partL W n i)) := by simp [compsF, hn]
      rw [e]
      obtain ⟨g1, g2, g3, g4⟩ := ih _ (hc.tell hw hi) (by omega)
      have tl : ∀ x, tellP told (partL W n i) x = true ↔ told x = true ∨ x ∈ partL W n i := fun x => by simp [tellP]
      have tf : ∀ x, tellP told (partL W n i) x = false ↔ told x = false ∧ ¬ x ∈ partL W n i := fun x => by simp [tellP]
      have tog : ∀ a b, a ∈ partL W n i → (a = b ∨ (W a b = true ∧ W b a = true)) → b ∈ partL W n i := fun a b ha hab => by
        rcases hab with rfl | ⟨h1, h2⟩
        · exact ha
        · refine mem_partL.2 ⟨(hw.1 _ _ h1).2, ?_⟩
          rcases (mem_partL.1 ha).2 with rfl | ⟨h3, h4⟩
          · exact .inr ⟨h1, h2⟩
          · exact .inr ⟨hw.2 _ _ _ h3 h1, hw.2 _ _ _ h2 h4⟩
      have later : ∀ y (hy : y < (compsF W n f (tellP told (partL W n i))).length) b, b ∈ (compsF W n f (tellP told (partL W n i)))[y] → ¬ b ∈ partL W n i := fun y hy b hb => by
        obtain ⟨q, _, hq2, hq3⟩ := g1 _ (List.getElem_mem hy)
        rw [hq3] at hb
        exact ((tf b).1 (part_untold (hc.tell hw hi) hq2 hb)).2
      have swap : ∀ {a b : Nat}, (a = b ∨ (W a b = true ∧ W b a = true)) → (b = a ∨ (W b a = true ∧ W a b = true)) := fun h => by
        rcases h with rfl | ⟨h1, h2⟩
        · exact .inl rfl
        · exact .inr ⟨h2, h1⟩
      refine ⟨fun p hp => ?_, fun a ha h => ?_, fun x y hx hy a b hxa hyb hab => ?_, fun x hx a b hxa h1 h2 => ?_⟩
      · rcases List.mem_cons.1 hp with rfl | hp
        · exact ⟨i, hi, ht, rfl⟩
        · obtain ⟨q, q1, q2, q3⟩ := g1 p hp
          exact ⟨q, q1, ((tf q).1 q2).1, q3⟩
      · by_cases hm : a ∈ partL W n i
        · exact ⟨_, List.mem_cons_self, hm⟩
        · obtain ⟨p, hp, hap⟩ := g2 a ha ((tf a).2 ⟨h, hm⟩)
          exact ⟨p, List.mem_cons_of_mem _ hp, hap⟩
      · match x, y, hx, hy with
        | 0, 0, _, _ => rfl
        | 0, y + 1, _, hy => exact absurd (tog a b hxa hab) (later y (by simpa using hy) b hyb)
        | x + 1, 0, hx, _ => exact absurd (tog b a hyb (swap hab)) (later x (by simpa using hx) a hxa)
        | x + 1, y + 1, hx, hy => rw [g3 x y (by simpa using hx) (by simpa using hy) a b hxa hyb hab]
      · match x, hx with
        | 0, _ =>
          have hxa2 : a ∈ partL W n i := hxa
          have hib : W i b = true := by
            rcases (mem_partL.1 hxa2).2 with rfl | ⟨h3, _⟩
            · exact h1
            · exact hw.2 _ _ _ h3 h1
          rcases hfr b (hw.1 _ _ h1).2 hib with h3 | h3
          · have : W b a = true := by
              rcases (mem_partL.1 hxa2).2 with rfl | ⟨h4, _⟩
              · exact h3
              · exact hw.2 _ _ _ h3 h4
            rw [this] at h2
            cases h2
          · exact .inl h3
        | x + 1, hx =>
          rcases g4 x (by simpa using hx) a b hxa h1 h2 with h3 | ⟨y, hy, h4, h5⟩
          · rcases (tl b).1 h3 with h3 | h3
            · exact .inl h3
            · exact .inr ⟨0, by simp, by omega, h3⟩
          · exact .inr ⟨y + 1, by simpa using hy, by omega, h5⟩
theorem told_all {W : Mat} {n : Nat} (hw : Ways n W) : Told W n (fun _ => false) (compsN W n) :=
  told_comps hw n _ (fun _ _ h => absurd h (by simp)) (by
    have : untold n (fun _ => false) ≤ (List.range n).length := List.countP_le_length
    simpa using this)
/-- Of one part all nodes lead to themselves, or none. -/
theorem part_same {W : Mat} {n i a b : Nat} (hw : Ways n W) (ha : a ∈ partL W n i) (hb : b ∈ partL W n i) : W a a = W b b := by
  have key : ∀ c, c ∈ partL W n i → W c c = W i i := fun c hc => by
    rcases (mem_partL.1 hc).2 with rfl | ⟨h1, h2⟩
    · rfl
    · rw [hw.2 _ _ _ h2 h1, hw.2 _ _ _ h1 h2]
  rw [key a ha, key b hb]
end Go.Proofs.Ytabpbmifegfmgaa.Trm
