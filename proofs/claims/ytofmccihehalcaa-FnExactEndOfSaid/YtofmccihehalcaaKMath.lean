/- When code is right, as a value: where a procedure begins and ends, what an instruction may have. Without conditions: no Go text is walked here. -/
import Derived.Test.YtofmccihehalcaaKTrees
import Derived.Test.YtofmccihehalcaaUnkMath
import Derived.Test.YtofmccihehalcaaPNames
import Derived.Test.YtofmccihehalcaaZeroT
namespace Go.Proofs.Ytofmccihehalcaa.Trm
open Go.RowKit Own
/-- Entries that rise from 0 on, all of them below n. -/
def Ris (es : List Int) (n : Nat) : Prop := ∃ h0 : 0 < es.length, es[0] = 0 ∧ (∀ i (h : i + 1 < es.length), es[i] < es[i + 1]) ∧ ∀ i (h : i < es.length), es[i] < (n : Int)
/-- The procedure with a place. -/
def IsP (es : List Int) (a : Int) (p : Nat) : Prop := ∃ h : p < es.length, es[p] ≤ a ∧ ∀ h2 : p + 1 < es.length, a < es[p + 1]
theorem Ris.mono {es : List Int} {n : Nat} (h : Ris es n) : ∀ (d i : Nat) (h2 : i + d < es.length), es[i]'(by omega) + d ≤ es[i + d]
  | 0, i, _ => by simp
  | d + 1, i, h2 => by
    obtain ⟨_, _, hr, _⟩ := id h
    have h1 := Ris.mono h d i (by omega)
    have h3 := hr (i + d) (by omega)
    have h4 : es[i + (d + 1)] = es[i + d + 1] := rfl
    rw [h4]
    omega
theorem Ris.lt {es : List Int} {n : Nat} (h : Ris es n) {i j : Nat} (hi : i < j) (hj : j < es.length) : es[i]'(by omega) < es[j] := by
  have := h.mono (j - i) i (by omega)
  have e : es[i + (j - i)]'(by omega) = es[j] := by congr 1; omega
  rw [e] at this
  omega
theorem Ris.nonneg {es : List Int} {n : Nat} (h : Ris es n) {i : Nat} (hi : i < es.length) : 0 ≤ es[i] := by
  obtain ⟨h0, e0, _, _⟩ := id h
  rcases Nat.eq_zero_or_pos i with rfl | hp
  · omega
  · have := h.lt hp hi; omega
theorem Ris.below {es : List Int} {n : Nat} (h : Ris es n) {i : Nat} (hi : i < es.length) : es[i] < (n : Int) := by
  obtain ⟨_, _, _, hn⟩ := h
  exact hn i hi
theorem IsP.uni {es : List Int} {n : Nat} {a : Int} {p q : Nat} (h : Ris es n) (hp : IsP es a p) (hq : IsP es a q) : p = q := by
  obtain ⟨h1, h2, h3⟩ := hp
  obtain ⟨g1, g2, g3⟩ := hq
  rcases Nat.lt_trichotomy p q with hl | hl | hl
  · have h4 := h3 (by omega)
    rcases Nat.lt_or_ge (p + 1) q with h5 | h5
    · have := h.lt h5 g1; omega
    · obtain rfl : q = p + 1 := by omega
      omega
  · exact hl
  · have h4 := g3 (by omega)
    rcases Nat.lt_or_ge (q + 1) p with h5 | h5
    · have := h.lt h5 h1; omega
    · obtain rfl : p = q + 1 := by omega
      omega
/-- The end of a procedure. -/
def endI (es : List Int) (n p : Nat) : Int := if h : p + 1 < es.length then es[p + 1] - 1 else (n : Int) - 1
theorem endI_eq {es : List Int} {n : Nat} {i p : Nat} (hr : Ris es n) (_ : i < n) (hp : IsP es i p) : endI es n p = i ↔ ((∃ (j : Nat) (h : j < es.length), es[j] = (i : Int) + 1) ∨ i + 1 = n) := by
  obtain ⟨h1, h2, h3⟩ := hp
  unfold endI
  constructor
  · intro h
    split at h
    · rename_i h4
      exact .inl ⟨p + 1, h4, by omega⟩
    · exact .inr (by omega)
  · intro h
    split
    · rename_i h4
      have h5 := h3 h4
      rcases h with ⟨j, hj, e⟩ | e
      · have hpj : p < j := by
          rcases Nat.lt_or_ge p j with hl | hl
          · exact hl
          · rcases Nat.lt_or_ge j p with hl2 | hl2
            · have := hr.lt hl2 h1; omega
            · obtain rfl : j = p := by omega
              omega
        rcases Nat.lt_or_ge (p + 1) j with hl | hl
        · have := hr.lt hl hj; omega
        · obtain rfl : j = p + 1 := by omega
          omega
      · have := hr.below h4; omega
    · rename_i h4
      rcases h with ⟨j, hj, e⟩ | e
      · have hpj : p < j := by
          rcases Nat.lt_or_ge p j with hl | hl
          · exact hl
          · rcases Nat.lt_or_ge j p with hl2 | hl2
            · have := hr.lt hl2 h1; omega
            · obtain rfl : j = p := by omega
              omega
        omega
      · omega
/-- Entries and ends as they should be. -/
def EntOk (es : List Int) (ins : List InsT) : Prop := Ris es ins.length ∧ ∀ (i : Nat) (hi : i < ins.length), ins[i].op = 9 ↔ ((∃ (j : Nat) (h : j < es.length), es[j] = (i : Int) + 1) ∨ i + 1 = ins.length)
/-- What lies behind an end, from a place on. -/
def endsI (k : Nat) : List InsT → List Int
  | [] => []
  | a :: r => if a.op = 9 then ((k + 1 : Nat) : Int) :: endsI (k + 1) r else endsI (k + 1) r
theorem endsI_mem : ∀ (ins : List InsT) (k : Nat) (x : Int), x ∈ endsI k ins ↔ ∃ (i : Nat) (h : i < ins.length), ins[i].op = 9 ∧ x = ((k + i + 1 : Nat) : Int)
  | [], k, x => by simp [endsI]
  | a :: r, k, x => by
    have ih := endsI_mem r (k + 1) x
    rw [endsI]
    constructor
    · intro h
      have h2 : (a.op = 9 ∧ x = ((k + 1 : Nat) : Int)) ∨ x ∈ endsI (k + 1) r := by
        split at h
        · rename_i h9
          rcases List.mem_cons.1 h with h | h
          · exact .inl ⟨h9, h⟩
          · exact .inr h
        · exact .inr h
      rcases h2 with ⟨h9, rfl⟩ | h
      · exact ⟨0, by simp, h9, by simp⟩
      · obtain ⟨i, hi, h9, rfl⟩ := ih.1 h
        exact ⟨i + 1, by simpa using hi, by simpa using h9, by congr 1; omega⟩
    · rintro ⟨i, hi, h9, rfl⟩
      match i with
      | 0 =>
        have h9 : a.op = 9 := h9
        rw [if_pos h9]
        exact List.mem_cons_self
      | i + 1 =>
        have h2 : ((k + (i + 1) + 1 : Nat) : Int) ∈ endsI (k + 1) r := ih.2 ⟨i, by simpa using hi, by simpa using h9, by congr 1; omega⟩
        split
        · exact List.mem_cons_of_mem _ h2
        · exact h2
theorem endsI_sorted : ∀ (ins : List InsT) (k : Nat), (endsI k ins).Pairwise (· < ·) ∧ ∀ x, x ∈ endsI k ins → (k : Int) < x
  | [], k => by simp [endsI]
  | a :: r, k => by
    obtain ⟨h1, h2⟩ := endsI_sorted r (k + 1)
    rw [endsI]
    split
    · refine ⟨List.pairwise_cons.2 ⟨fun y hy => ?_, h1⟩, fun x hx => ?_⟩
      · exact h2 y hy
      · rcases List.mem_cons.1 hx with rfl | hx
        · omega
        · have := h2 x hx; omega
    · exact ⟨h1, fun x hx => by have := h2 x hx; omega⟩
theorem sorted_ext : ∀ {l m : List Int}, l.Pairwise (· < ·) → m.Pairwise (· < ·) → (∀ x, x ∈ l ↔ x ∈ m) → l = m
  | [], [], _, _, _ => rfl
  | [], b :: m, _, _, h => absurd ((h b).2 List.mem_cons_self) (by simp)
  | a :: l, [], _, _, h => absurd ((h a).1 List.mem_cons_self) (by simp)
  | a :: l, b :: m, hl, hm, h => by
    obtain ⟨l1, l2⟩ := List.pairwise_cons.1 hl
    obtain ⟨m1, m2⟩ := List.pairwise_cons.1 hm
    have e : a = b := by
      rcases List.mem_cons.1 ((h a).1 List.mem_cons_self) with e | e
      · exact e
      · rcases List.mem_cons.1 ((h b).2 List.mem_cons_self) with e2 | e2
        · exact e2.symm
        · have := m1 a e; have := l1 b e2; omega
    subst e
    rw [sorted_ext l2 m2 (fun x => ?_)]
    constructor
    · intro hx
      rcases List.mem_cons.1 ((h x).1 (List.mem_cons_of_mem _ hx)) with e | e
      · have := l1 x hx; omega
      · exact e
    · intro hx
      rcases List.mem_cons.1 ((h x).2 (List.mem_cons_of_mem _ hx)) with e | e
      · have := m1 x hx; omega
      · exact e
theorem Ris.pairwise {es : List Int} {n : Nat} (h : Ris es n) : (es ++ [(n : Int)]).Pairwise (· < ·) := by
  rw [List.pairwise_append]
  refine ⟨List.pairwise_iff_getElem.2 fun i j hi hj hij => h.lt hij hj, List.pairwise_singleton _ _, fun a ha b hb => ?_⟩
  obtain ⟨i, hi, rfl⟩ := List.mem_iff_getElem.1 ha
  rw [List.mem_singleton.1 hb]
  exact h.below hi
/-- The program's way of asking it: what lies behind the ends is where the procedures begin, and the end. -/
theorem entOk_iff {es : List Int} {ins : List InsT} (h0 : 0 < es.length) : EntOk es ins ↔ 0 :: endsI 0 ins = es ++ [(ins.length : Int)] := by
  obtain ⟨hs1, hs2⟩ := endsI_sorted ins 0
  have hB : (0 :: endsI 0 ins).Pairwise (· < ·) := List.pairwise_cons.2 ⟨fun y hy => hs2 y hy, hs1⟩
  have hBm : ∀ x, x ∈ (0 :: endsI 0 ins) ↔ x = 0 ∨ ∃ (i : Nat) (h : i < ins.length), ins[i].op = 9 ∧ x = (i : Int) + 1 := fun x => by
    rw [List.mem_cons, endsI_mem]
    simp
  constructor
  · rintro ⟨hr, hi⟩
    refine sorted_ext hB hr.pairwise fun x => ?_
    rw [hBm, List.mem_append, List.mem_singleton]
    obtain ⟨_, e0, _, _⟩ := id hr
    constructor
    · rintro (rfl | ⟨i, h, h9, rfl⟩)
      · exact .inl (List.mem_iff_getElem.2 ⟨0, h0, e0⟩)
      · rcases (hi i h).1 h9 with ⟨j, hj, e⟩ | e
        · exact .inl (List.mem_iff_getElem.2 ⟨j, hj, e⟩)
        · exact .inr (by omega)
    · rintro (hx | rfl)
      · obtain ⟨j, hj, rfl⟩ := List.mem_iff_getElem.1 hx
        rcases Nat.eq_zero_or_pos j with rfl | hp
        · exact .inl e0
        · have h1 := hr.lt hp hj
          have h2 := hr.below hj
          obtain ⟨i, hie⟩ : ∃ i : Nat, es[j] = (i : Int) + 1 := ⟨(es[j] - 1).toNat, by omega⟩
          exact .inr ⟨i, by omega, (hi i (by omega)).2 (.inl ⟨j, hj, hie⟩), hie⟩
      · have h2 := hr.below h0
        exact .inr ⟨ins.length - 1, by omega, (hi (ins.length - 1) (by omega)).2 (.inr (by omega)), by omega⟩
  · intro e
    rw [e] at hB hBm
    obtain ⟨p1, _, p3⟩ := List.pairwise_append.1 hB
    have p1' := List.pairwise_iff_getElem.1 p1
    have hr : Ris es ins.length := by
      refine ⟨h0, ?_, fun i h => p1' i (i + 1) (by omega) h (by omega), fun i h => p3 _ (List.getElem_mem h) _ (List.mem_singleton.2 rfl)⟩
      cases es with
      | nil => simp at h0
      | cons a r =>
        rw [List.cons_append] at e
        injection e with e1 _
        exact e1.symm
    refine ⟨hr, fun i hi => ?_⟩
    have h1 := hBm ((i : Int) + 1)
    rw [List.mem_append, List.mem_singleton] at h1
    constructor
    · intro h9
      rcases h1.2 (.inr ⟨i, hi, h9, rfl⟩) with h | h
      · obtain ⟨j, hj, e2⟩ := List.mem_iff_getElem.1 h
        exact .inl ⟨j, hj, e2⟩
      · exact .inr (by omega)
    · intro h
      have h2 : (i : Int) + 1 ∈ es ∨ (i : Int) + 1 = (ins.length : Int) := by
        rcases h with ⟨j, hj, e2⟩ | e2
        · exact .inl (List.mem_iff_getElem.2 ⟨j, hj, e2⟩)
        · exact .inr (by omega)
      rcases h1.1 h2 with h3 | ⟨i2, hi2, h9, e3⟩
      · omega
      · obtain rfl : i2 = i := by omega
        exact h9
open Classical in
noncomputable def readsIn (gs : List ByteArray) (ss : List ByteArray) : Bool := ss.all fun s => decide (s ∈ gs)
def mostI (x : KTree) (op : Int) : Int := if op = 1 then (x.globals.length : Int) - 1 else if op = 6 ∨ op = 7 then (x.locks.length : Int) - 1 else if op = 4 ∨ op = 5 then (x.procs.length : Int) - 1 else 0
noncomputable def termB (x : KTree) (a : InsT) : Bool := if a.op = 1 ∨ a.op = 2 then okB a.term && readsIn x.globals (readsOfT a.term) else sameT a.term zT
open Classical in
/-- Whether both places are of one procedure, and there. -/
noncomputable def toB (es : List Int) (n at' : Nat) (to : Int) : Bool := decide (to < (n : Int) ∧ ∃ p, IsP es at' p ∧ IsP es to p)
noncomputable def okIn (x : KTree) (i : Nat) (a : InsT) : Bool := decide (1 ≤ a.op ∧ a.op ≤ 9) && (decide (0 ≤ a.arg ∧ a.arg ≤ mostI x a.op) && (termB x a && (if a.op = 2 ∨ a.op = 3 then toB x.entry x.ins.length i a.to else decide (a.to = 0))))
noncomputable def okIns (x : KTree) : Nat → List InsT → Bool
  | _, [] => true
  | i, a :: r => okIn x i a && okIns x (i + 1) r
theorem okIns_drop {x : KTree} {ins : List InsT} {i : Nat} (h : i < ins.length) : okIns x i (ins.drop i) = (okIn x i ins[i] && okIns x (i + 1) (ins.drop (i + 1))) := by rw [List.drop_eq_getElem_cons h, okIns]
theorem okIns_end {x : KTree} {ins : List InsT} {i : Nat} (h : ins.length ≤ i) : okIns x i (ins.drop i) = true := by rw [List.drop_of_length_le h, okIns]
theorem okIns_at {x : KTree} : ∀ {ins : List InsT} {k : Nat}, okIns x k ins = true → ∀ (i : Nat) (h : i < ins.length), okIn x (k + i) ins[i] = true
  | [], _, _, i, h => absurd h (by simp)
  | a :: r, k, h, 0, _ => by
    rw [okIns, Bool.and_eq_true] at h
    exact h.1
  | a :: r, k, h, i + 1, hi => by
    rw [okIns, Bool.and_eq_true] at h
    have := okIns_at h.2 i (by simpa using hi)
    rw [show k + 1 + i = k + (i + 1) from by omega] at this
    exact this
open Classical in
noncomputable def kHeads (x : KTree) : Bool := okNs x.globals 6 && (okNs x.locks 6 && (okNs x.procs 8 && (!twiceB x.globals && (!twiceB x.locks && (!twiceB x.procs && (decide (x.entry.length = x.procs.length) && (decide (x.ins.length ≤ 1500) && (decide (mainB ∈ x.procs) && decide (EntOk x.entry x.ins)))))))))
noncomputable def okK (x : KTree) : Bool := kHeads x && okIns x 0 x.ins
theorem kHeads_ent {x : KTree} (h : kHeads x = true) : EntOk x.entry x.ins ∧ x.entry.length = x.procs.length ∧ mainB ∈ x.procs ∧ x.ins.length ≤ 1500 := by
  unfold kHeads at h
  simp only [Bool.and_eq_true, decide_eq_true_eq] at h
  obtain ⟨_, _, _, _, _, _, h1, h2, h3, h4⟩ := h
  exact ⟨h4, h1, h3, h2⟩
end Go.Proofs.Ytofmccihehalcaa.Trm
