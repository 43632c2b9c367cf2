/- Lists of rows that a call owns: one row of slices, each slice's row a block of its own, all apart. Without conditions. -/
import Derived.Test.YtabpbmifegfmgaaRowWord
import Derived.Deep.AppendLies
import Derived.Deep.Onto
namespace Go.Proofs.Ytabpbmifegfmgaa.Trm
open Go.RowKit Own
def RowsOwn (w : World) (base hi : Nat) (eo ei : TypeId) (v : Value) (cs : List Value) (C : List (List Value)) : Prop :=
  cs.length = C.length ∧ hi ≤ w.heap.size ∧ base ≤ hi ∧ w.ownsRow base eo 1 v C.length cs ∧ (∀ b, v.ownBlock = some b → b < hi) ∧
  (∀ i (h : i < C.length), ∃ u, cs[i]? = some u ∧ w.ownsRow base ei 1 u C[i].length C[i] ∧ ∀ b, u.ownBlock = some b → b < hi ∧ v.ownBlock ≠ some b) ∧
  (∀ (i j : Nat) (u u' : Value), i ≠ j → cs[i]? = some u → cs[j]? = some u' → ∀ b, u.ownBlock = some b → u'.ownBlock ≠ some b)
theorem litE0 (w : World) (e : TypeId) : (w.alloc (.cells #[] e)).ownsRow w.heap.size e 1 (.slice (some ⟨w.heap.size, 0, none⟩) 0 0) 0 [] := by
  refine ⟨rfl, .inr ⟨w.heap.size, 0, _, rfl, Nat.le_refl _, heap_alloc_new w _, Nat.le_refl _, by unfold maxLen; omega, ?_, ?_⟩⟩ <;> simp
theorem RowsOwn.nil {w : World} {base : Nat} {eo ei : TypeId} {v : Value} (h : w.ownsRow base eo 1 v 0 []) (hb : base ≤ w.heap.size) : RowsOwn w base w.heap.size eo ei v [] [] :=
  ⟨rfl, Nat.le_refl _, hb, h, fun b hb => (h.lt b hb).2, fun i hi => absurd hi (by simp), fun i j u u' _ hu => by simp at hu⟩
theorem RowsOwn.same {w w' : World} {base hi : Nat} {eo ei : TypeId} {v : Value} {cs : List Value} {C : List (List Value)} (h : RowsOwn w base hi eo ei v cs C) (hs : Same base hi w w') (hw : hi ≤ w'.heap.size) : RowsOwn w' base hi eo ei v cs C := by
  obtain ⟨h1, h2, h3, h4, h5, h6, h7⟩ := h
  refine ⟨h1, hw, h3, row_same h4 (fun b hb => hs b (h4.lt b hb).1 (h5 b hb)), h5, fun i hi => ?_, h7⟩
  obtain ⟨u, g1, g2, g3⟩ := h6 i hi
  exact ⟨u, g1, row_same g2 (fun b hb => hs b (g2.lt b hb).1 (g3 b hb).1), g3⟩
theorem RowsOwn.below {w w' : World} {base hi : Nat} {eo ei : TypeId} {v : Value} {cs : List Value} {C : List (List Value)} (h : RowsOwn w base hi eo ei v cs C) (hb : Below w.heap.size w w') : RowsOwn w' base hi eo ei v cs C :=
  h.same (fun b _ h2 => hb.block b (Nat.lt_of_lt_of_le h2 h.2.1)) (Nat.le_trans h.2.1 hb.size)
theorem RowsOwn.lower {w : World} {base base' hi : Nat} {eo ei : TypeId} {v : Value} {cs : List Value} {C : List (List Value)} (h : RowsOwn w base hi eo ei v cs C) (hb : base' ≤ base) : RowsOwn w base' hi eo ei v cs C := by
  obtain ⟨h1, h2, h3, h4, h5, h6, h7⟩ := h
  refine ⟨h1, h2, Nat.le_trans hb h3, h4.mono hb, h5, fun i hi => ?_, h7⟩
  obtain ⟨u, g1, g2, g3⟩ := h6 i hi
  exact ⟨u, g1, g2.mono hb, g3⟩
theorem RowsOwn.snoc {W w' : World} {base hi : Nat} {eo ei : TypeId} {v v' u : Value} {cs : List Value} {C : List (List Value)} {D : List Value} (h : RowsOwn W base hi eo ei v cs C) (hu : W.ownsRow hi ei 1 u D.length D)
    (hr : w'.ownsRow base eo 1 v' (C.length + 1) (cs ++ [u])) (hg : W.grownBy w' v.ownBlock) (hat : v'.ownBlock = v.ownBlock ∨ ∀ b, v'.ownBlock = some b → W.heap.size ≤ b) : RowsOwn w' base w'.heap.size eo ei v' (cs ++ [u]) (C ++ [D]) := by
  obtain ⟨h1, h2, h3, h4, h5, h6, h7⟩ := h
  have hsz := hg.size
  refine ⟨by simp [h1], Nat.le_refl _, by omega, by simpa using hr, fun b hb => (hr.lt b hb).2, fun i hi => ?_, fun i j a a' hij ha ha' b hb hb' => ?_⟩
  · by_cases hlt : i < C.length
    · obtain ⟨x, g1, g2, g3⟩ := h6 i hlt
      refine ⟨x, by rw [List.getElem?_append_left (by omega)]; exact g1, ?_, fun b hb => ?_⟩
      · have e : (C ++ [D])[i] = C[i] := List.getElem_append_left hlt
        rw [e]
        exact row_same g2 (fun b hb => hg.block b (by have := (g3 b hb).1; omega) (fun e => (g3 b hb).2 e.symm))
      · obtain ⟨g4, g5⟩ := g3 b hb
        refine ⟨by omega, fun e => ?_⟩
        rcases hat with h8 | h8
        · rw [h8] at e; exact g5 e
        · have := h8 b e; omega
    · have hi2 : i = C.length := by simp at hi; omega
      subst hi2
      refine ⟨u, by rw [List.getElem?_append_right (by omega), h1]; simp, ?_, fun b hb => ?_⟩
      · have e : (C ++ [D])[C.length] = D := by simp
        rw [e]
        refine (row_same hu (fun b hb => hg.block b (hu.lt b hb).2 (fun e => ?_))).mono h3
        have h8 := h5 b e.symm
        have h9 := (hu.lt b hb).1
        omega
      · have h9 := hu.lt b hb
        refine ⟨by omega, fun e => ?_⟩
        rcases hat with h8 | h8
        · rw [h8] at e
          have := h5 b e
          omega
        · have := h8 b e; omega
  · have pick : ∀ {i : Nat} {a : Value}, (cs ++ [u])[i]? = some a → (i < cs.length ∧ cs[i]? = some a) ∨ (i = cs.length ∧ a = u) := fun {i a} h => by
      rcases Nat.lt_or_ge i cs.length with h8 | h8
      · rw [List.getElem?_append_left h8] at h; exact .inl ⟨h8, h⟩
      · rw [List.getElem?_append_right h8] at h
        by_cases h9 : i = cs.length
        · subst h9; simp at h; exact .inr ⟨rfl, h.symm⟩
        · rw [List.getElem?_eq_none (by simp; omega)] at h; cases h
    have old : ∀ {i : Nat} {a : Value}, i < cs.length → cs[i]? = some a → ∀ b, a.ownBlock = some b → b < hi := fun {i a} h8 h9 b hb => by
      obtain ⟨x, g1, _, g3⟩ := h6 i (by omega)
      rw [h9] at g1
      injection g1 with g1
      subst g1
      exact (g3 b hb).1
    rcases pick ha with ⟨p1, p2⟩ | ⟨p1, rfl⟩
    · rcases pick ha' with ⟨q1, q2⟩ | ⟨q1, rfl⟩
      · exact h7 i j a a' hij p2 q2 b hb hb'
      · have := old p1 p2 b hb
        have := (hu.lt b hb').1
        omega
    · rcases pick ha' with ⟨q1, q2⟩ | ⟨q1, rfl⟩
      · have := old q1 q2 b hb'
        have := (hu.lt b hb).1
        omega
      · omega
theorem RowsOwn.turn {w w' : World} {base hi i : Nat} {eo ei : TypeId} {v u : Value} {cs : List Value} {C : List (List Value)} {D : List Value} (h : RowsOwn w base hi eo ei v cs C) (hi2 : i < C.length) (hu : cs[i]? = some u) (hD : D.length = C[i].length)
    (hr : w'.ownsRow base ei 1 u D.length D) (hg : w.grownBy w' u.ownBlock) : RowsOwn w' base hi eo ei v cs (C.set i D) := by
  obtain ⟨h1, h2, h3, h4, h5, h6, h7⟩ := h
  have hsz := hg.size
  have hui : ∀ b, u.ownBlock = some b → b < hi ∧ v.ownBlock ≠ some b := by
    obtain ⟨x, g1, _, g3⟩ := h6 i hi2
    rw [hu] at g1
    injection g1 with g1
    subst g1
    exact g3
  refine ⟨by simp [h1], by omega, h3, ?_, h5, fun j hj => ?_, h7⟩
  · rw [List.length_set]
    exact row_same h4 (fun b hb => hg.block b (h4.lt b hb).2 (fun e => (hui b e.symm).2 hb))
  · have hj2 : j < C.length := by simpa using hj
    by_cases e : j = i
    · subst e
      refine ⟨u, hu, ?_, hui⟩
      rw [List.getElem_set_self]
      exact hr
    · obtain ⟨x, g1, g2, g3⟩ := h6 j hj2
      refine ⟨x, g1, ?_, g3⟩
      rw [List.getElem_set_ne (fun h => e h.symm)]
      exact row_same g2 (fun b hb => hg.block b (g2.lt b hb).2 (fun e2 => h7 j i x u e g1 hu b hb e2.symm))
/-- A cell of the row of slices. -/
theorem RowsOwn.outer {w : World} {base hi : Nat} {eo ei : TypeId} {v : Value} {cs : List Value} {C : List (List Value)} (h : RowsOwn w base hi eo ei v cs C) {i : Nat} (hi2 : i < C.length) : ∃ og oc, v = .slice (some ⟨og, 0, none⟩) C.length oc ∧ w.cell? ⟨og, i, none⟩ = cs[i]? := by
  obtain ⟨a, c, rfl, ha⟩ := row_shape h.2.2.2.1
  obtain ⟨g, rfl⟩ := ha (by omega)
  exact ⟨g, c, rfl, h.2.2.2.1.cellAt i (by omega)⟩
theorem RowsOwn.shape {w : World} {base hi : Nat} {eo ei : TypeId} {v : Value} {cs : List Value} {C : List (List Value)} (h : RowsOwn w base hi eo ei v cs C) : ∃ a c, v = .slice a C.length c ∧ (0 < C.length → ∃ g, a = some ⟨g, 0, none⟩) := row_shape h.2.2.2.1
/-- A row within. -/
theorem RowsOwn.inner {w : World} {base hi : Nat} {eo ei : TypeId} {v : Value} {cs : List Value} {C : List (List Value)} (h : RowsOwn w base hi eo ei v cs C) {i : Nat} (hi2 : i < C.length) : ∃ a c, cs[i]? = some (.slice a C[i].length c) ∧ w.ownsRow base ei 1 (.slice a C[i].length c) C[i].length C[i] ∧ (0 < C[i].length → ∃ g, a = some ⟨g, 0, none⟩) := by
  obtain ⟨u, g1, g2, _⟩ := h.2.2.2.2.2.1 i hi2
  obtain ⟨a, c, rfl, ha⟩ := row_shape g2
  exact ⟨a, c, g1, g2, ha⟩
theorem RowsOwn.one {w : World} {hi : Nat} {ei : TypeId} {u : Value} {D : List Value} (h : w.ownsRow hi ei 1 u D.length D) : ∀ x ∈ [u], x.oneCell' = true := by
  intro x hx
  rw [List.mem_singleton] at hx
  subst hx
  obtain ⟨a, c, rfl, _⟩ := row_shape h
  rfl
/-- A block that is none of the rows'. -/
def RNot (q : Nat) (v : Value) (cs : List Value) : Prop := (∀ c, v.ownBlock = some c → c ≠ q) ∧ ∀ u, u ∈ cs → ∀ c, u.ownBlock = some c → c ≠ q
theorem RowsOwn.other {w w' : World} {base hi q : Nat} {eo ei : TypeId} {v : Value} {cs : List Value} {C : List (List Value)} (h : RowsOwn w base hi eo ei v cs C) (hn : RNot q v cs) (hg : w.grownBy w' (some q)) : RowsOwn w' base hi eo ei v cs C := by
  obtain ⟨h1, h2, h3, h4, h5, h6, h7⟩ := h
  have hsz := hg.size
  refine ⟨h1, by omega, h3, row_same h4 (fun b hb => hg.block b (h4.lt b hb).2 (fun e => hn.1 b hb (by injection e))), h5, fun i hi => ?_, h7⟩
  obtain ⟨u, g1, g2, g3⟩ := h6 i hi
  exact ⟨u, g1, row_same g2 (fun b hb => hg.block b (g2.lt b hb).2 (fun e => hn.2 u (List.mem_of_getElem? g1) b hb (by injection e))), g3⟩
theorem RNot.snoc {W : World} {q hi n : Nat} {ei : TypeId} {v v' u : Value} {cs D : List Value} (h : RNot q v cs) (hq : q < hi) (hu : W.ownsRow hi ei 1 u n D) (hat : v'.ownBlock = v.ownBlock ∨ ∀ b, v'.ownBlock = some b → W.heap.size ≤ b) (hqs : q < W.heap.size) : RNot q v' (cs ++ [u]) := by
  refine ⟨fun c hc => ?_, fun x hx c hc => ?_⟩
  · rcases hat with h1 | h1
    · rw [h1] at hc; exact h.1 c hc
    · have := h1 c hc; omega
  · rcases List.mem_append.1 hx with hx | hx
    · exact h.2 x hx c hc
    · rw [List.mem_singleton] at hx
      subst hx
      have := (hu.lt c hc).1
      omega
end Go.Proofs.Ytabpbmifegfmgaa.Trm
