/- Terms that lie in rows that are not frozen. Without conditions. -/
import Derived.Test.YtkfeiekgdfklmaaGreatDoorTermTo
import Derived.WalkSmall
import Derived.Outline
namespace Go.Proofs.YtkfeiekgdfklmaaGreatDoor.Trm
open Go.RowKit Own
def FreeB (w : World) (g : Nat) : Prop := ∃ cs T, w.heap[g]? = some (.cells cs T (0, 0))
mutual
def LiesF (w : World) : Tree → Value → Prop
  | .node k n s ks, v => ks.length ≤ 9223372036854775807 ∧ ∃ a cap, v = .agg #[.int .i64 k, .int .i64 n, .string s, .slice a ks.length cap] ∧ (0 < ks.length → ∃ g o, a = some ⟨g, o, none⟩ ∧ FreeB w g ∧ LiesLF w g o ks)
def LiesLF (w : World) (g o : Nat) : List Tree → Prop
  | [] => True
  | t :: ts => (∃ a cap, w.cell? ⟨g, o, none⟩ = some (.int .i64 t.kind) ∧ w.cell? ⟨g, o + 1, none⟩ = some (.int .i64 t.num) ∧ w.cell? ⟨g, o + 2, none⟩ = some (.string t.name) ∧ w.cell? ⟨g, o + 3, none⟩ = some (.slice a t.kids.length cap) ∧
      LiesF w t (.agg #[.int .i64 t.kind, .int .i64 t.num, .string t.name, .slice a t.kids.length cap])) ∧ LiesLF w g (o + 4) ts
end
def KeepF (w w' : World) : Prop := ∀ (b : Nat) (cs : Array Value) (T : TypeId) (z : Nat × Nat), w.heap[b]? = some (Obj.cells cs T z) → w'.heap[b]? = some (Obj.cells cs T z)
theorem KeepF.refl (w : World) : KeepF w w := fun _ _ _ _ h => h
theorem KeepF.trans {a b c : World} (h : KeepF a b) (k : KeepF b c) : KeepF a c := fun p _ _ _ e => k p _ _ _ (h p _ _ _ e)
theorem heap_lt {w : World} {b : Nat} {o : Obj} (h : w.heap[b]? = some o) : b < w.heap.size := by
  rcases Nat.lt_or_ge b w.heap.size with h' | h'
  · exact h'
  · rw [Array.getElem?_eq_none h'] at h; cases h
theorem keepF_below {w w' : World} (h : Below w.heap.size w w') : KeepF w w' := fun b _ _ _ e => by rw [h.block b (heap_lt e)]; exact e
theorem FreeB.keep {w w' : World} {g : Nat} (hk : KeepF w w') (h : FreeB w g) : FreeB w' g := by
  obtain ⟨cs, T, h⟩ := h
  exact ⟨cs, T, hk _ _ _ _ h⟩
theorem FreeB.cell {w w' : World} {g i : Nat} (hk : KeepF w w') (h : FreeB w g) : w'.cell? ⟨g, i, none⟩ = w.cell? ⟨g, i, none⟩ := by
  obtain ⟨cs, T, h⟩ := h
  exact World.cell?_of_block ((hk _ _ _ _ h).trans h.symm)
mutual
theorem LiesF.keep {w w' : World} (hk : KeepF w w') : ∀ {t : Tree} {v : Value}, LiesF w t v → LiesF w' t v
  | .node k n s ks, v, h => by
    obtain ⟨h4, a, cap, rfl, h5⟩ := h
    refine ⟨h4, a, cap, rfl, fun hp => ?_⟩
    obtain ⟨g, o, rfl, hf, h6⟩ := h5 hp
    exact ⟨g, o, rfl, hf.keep hk, LiesLF.keep hk hf h6⟩
theorem LiesLF.keep {w w' : World} (hk : KeepF w w') : ∀ {ts : List Tree} {g o : Nat}, FreeB w g → LiesLF w g o ts → LiesLF w' g o ts
  | [], _, _, _, _ => trivial
  | t :: ts, g, o, hf, h => by
    obtain ⟨⟨a, cap, c0, c1, c2, c3, hl⟩, hr⟩ := h
    exact ⟨⟨a, cap, (hf.cell hk).trans c0, (hf.cell hk).trans c1, (hf.cell hk).trans c2, (hf.cell hk).trans c3, LiesF.keep hk hl⟩, LiesLF.keep hk hf hr⟩
end
theorem LiesLF.at {w : World} : ∀ {ts : List Tree} {g o : Nat}, LiesLF w g o ts → ∀ (i : Nat) (hi : i < ts.length), ∃ a cap, w.cell? ⟨g, o + i * 4, none⟩ = some (.int .i64 ts[i].kind) ∧ w.cell? ⟨g, o + i * 4 + 1, none⟩ = some (.int .i64 ts[i].num) ∧ w.cell? ⟨g, o + i * 4 + 2, none⟩ = some (.string ts[i].name) ∧ w.cell? ⟨g, o + i * 4 + 3, none⟩ = some (.slice a ts[i].kids.length cap) ∧
      LiesF w ts[i] (.agg #[.int .i64 ts[i].kind, .int .i64 ts[i].num, .string ts[i].name, .slice a ts[i].kids.length cap])
  | [], _, _, _, i, hi => absurd hi (by simp)
  | t :: ts, g, o, h, 0, _ => by
    obtain ⟨hh, _⟩ := h
    simpa using hh
  | t :: ts, g, o, h, i + 1, hi => by
    obtain ⟨_, hr⟩ := h
    have := LiesLF.at hr i (by simpa using hi)
    rw [show o + 4 + i * 4 = o + (i + 1) * 4 from by omega] at this
    exact this
/-- A list of terms as a slice. -/
def ListF (w : World) (v : Value) (ts : List Tree) : Prop := ts.length ≤ 9223372036854775807 ∧ ∃ a cap, v = .slice a ts.length cap ∧ (0 < ts.length → ∃ g o, a = some ⟨g, o, none⟩ ∧ FreeB w g ∧ LiesLF w g o ts)
theorem ListF.keep {w w' : World} {v : Value} {ts : List Tree} (hk : KeepF w w') (h : ListF w v ts) : ListF w' v ts := by
  obtain ⟨h1, a, cap, rfl, h2⟩ := h
  refine ⟨h1, a, cap, rfl, fun hp => ?_⟩
  obtain ⟨g, o, rfl, hf, h3⟩ := h2 hp
  exact ⟨g, o, rfl, hf.keep hk, h3.keep hk hf⟩
theorem LiesF.kids {w : World} {t : Tree} {x y z : Value} {a : Option Addr} {cap : Nat} (h : LiesF w t (.agg #[x, y, z, .slice a t.kids.length cap])) : ListF w (.slice a t.kids.length cap) t.kids := by
  cases t with
  | node k n s ks =>
    obtain ⟨h4, a', cap', e, h5⟩ := h
    simp [Tree.kids] at e
    obtain ⟨_, _, _, rfl, rfl⟩ := e
    exact ⟨h4, a, cap, rfl, h5⟩
mutual
theorem LiesF.det {w : World} : ∀ {t u : Tree} {v : Value}, LiesF w t v → LiesF w u v → t = u
  | .node k n s ks, .node k' n' s' ks', v, h, h' => by
    obtain ⟨_, a, cap, rfl, h5⟩ := h
    obtain ⟨_, a', cap', e, h5'⟩ := h'
    simp at e
    obtain ⟨rfl, rfl, rfl, rfl, hl, rfl⟩ := e
    have : ks = ks' := by
      rcases Nat.eq_zero_or_pos ks.length with h0 | h0
      · rw [List.length_eq_zero_iff.1 h0, List.length_eq_zero_iff.1 (by omega : ks'.length = 0)]
      · obtain ⟨g, o, rfl, _, h6⟩ := h5 h0
        obtain ⟨g', o', e, _, h6'⟩ := h5' (by omega)
        simp at e
        obtain ⟨rfl, rfl⟩ := e
        exact LiesLF.det h6 h6' hl
    rw [this]
theorem LiesLF.det {w : World} : ∀ {ts us : List Tree} {g o : Nat}, LiesLF w g o ts → LiesLF w g o us → ts.length = us.length → ts = us
  | [], us, _, _, _, _, hl => (List.length_eq_zero_iff.1 hl.symm).symm
  | t :: ts, [], _, _, _, _, hl => by simp at hl
  | t :: ts, u :: us, g, o, h, h', hl => by
    obtain ⟨⟨a, cap, c0, c1, c2, c3, hh⟩, hr⟩ := h
    obtain ⟨⟨a', cap', d0, d1, d2, d3, hh'⟩, hr'⟩ := h'
    rw [c0] at d0
    rw [c1] at d1
    rw [c2] at d2
    rw [c3] at d3
    simp at d0 d1 d2 d3
    obtain ⟨rfl, d4, rfl⟩ := d3
    rw [← d0, ← d1, ← d2, ← d4] at hh'
    rw [LiesF.det hh hh', LiesLF.det hr hr' (by simpa using hl)]
end
mutual
theorem Owns.liesF {w : World} : ∀ {t : Tree} {lo hi : Nat} {v : Value}, Owns w lo hi t v → LiesF w t v
  | .node k n s ks, lo, hi, v, h => by
    obtain ⟨h1, h2, h3, kv, xs, m, rfl, h4, h5, h6, h7⟩ := h
    obtain ⟨a, cap, rfl, hn, hc⟩ := lies_of_row h4
    refine ⟨hn, a, cap, rfl, fun hp => ?_⟩
    obtain ⟨g, rfl, hcell⟩ := hc hp
    refine ⟨g, 0, rfl, ?_, OwnsL.liesF h7 (fun j hj => ?_)⟩
    · rcases h4.2 with ⟨e, _⟩ | ⟨g', cap', cur, e, _, hb, _⟩
      · simp at e
      · simp at e
        obtain ⟨rfl, _⟩ := e
        exact ⟨cur, _, hb⟩
    · rw [Nat.zero_add]
      exact hcell j (by have := h4.1; omega)
theorem OwnsL.liesF {w : World} : ∀ {ts : List Tree} {lo hi g o : Nat} {xs : List Value}, OwnsL w lo hi ts xs → (∀ j, j < xs.length → w.cell? ⟨g, o + j, none⟩ = xs[j]?) → LiesLF w g o ts
  | [], _, _, _, _, _, _, _ => trivial
  | t :: ts, lo, hi, g, o, xs, h, hc => by
    obtain ⟨kv, rest, mid, rfl, h1, h2, h3⟩ := h
    have hl := h2.liesF
    obtain ⟨a, cap, e⟩ := h2.lies.shape
    have e2 : kv = .slice a t.kids.length cap := by
      have := e
      unfold aggT at this
      simp at this
      exact this
    subst e2
    refine ⟨⟨a, cap, ?_, ?_, ?_, ?_, hl⟩, OwnsL.liesF h3 (fun j hj => ?_)⟩
    · exact hc 0 (by simp [cellsT])
    · exact hc 1 (by simp [cellsT])
    · exact hc 2 (by simp [cellsT])
    · exact hc 3 (by simp [cellsT])
    · have := hc (4 + j) (by simp [cellsT]; omega)
      rw [show o + 4 + j = o + (4 + j) from by omega, this, List.getElem?_append_right (by simp [cellsT])]
      congr 1
      simp [cellsT]
end
end Go.Proofs.YtkfeiekgdfklmaaGreatDoor.Trm
