/- Drawn statements: each list in a row of its own, what is within each apart from all else. Without conditions. -/
import Derived.Test.YtkfeiekgdfklmaaGreatDoorDrawTerm
import Derived.Test.YtkfeiekgdfklmaaGreatDoorFreeX
namespace Go.Proofs.YtkfeiekgdfklmaaGreatDoor.Cur
open Go.RowKit Own Trm
/-- A world with the blocks of a range alone. -/
def cut (w : World) (lo hi : Nat) : World := { w with heap := w.heap.mapIdx fun i o => if lo ≤ i ∧ i < hi then o else .map #[] 0 }
theorem cut_at {w : World} {lo hi k : Nat} (h : lo ≤ k) (h2 : k < hi) : (cut w lo hi).heap[k]? = w.heap[k]? := by
  unfold cut
  rw [Array.getElem?_mapIdx]
  cases w.heap[k]? with
  | none => rfl
  | some o => simp; omega
theorem cut_no {w : World} {lo hi : Nat} {p : Addr} {u : Value} (h : (cut w lo hi).cell? p = some u) : lo ≤ p.block ∧ p.block < hi := by
  rcases Classical.em (lo ≤ p.block ∧ p.block < hi) with hb | hb
  · exact hb
  · exfalso
    unfold World.cell? cut at h
    rw [Array.getElem?_mapIdx] at h
    cases e : w.heap[p.block]? with
    | none => rw [e] at h; simp at h
    | some o => rw [e] at h; simp [hb] at h
theorem cut_blk {w : World} {lo hi b : Nat} {cs : Array Value} {T : TypeId} {z : Nat × Nat} (h : (cut w lo hi).heap[b]? = some (.cells cs T z)) : lo ≤ b ∧ b < hi ∧ w.heap[b]? = some (.cells cs T z) := by
  rcases Classical.em (lo ≤ b ∧ b < hi) with hb | hb
  · exact ⟨hb.1, hb.2, (cut_at hb.1 hb.2).symm.trans h⟩
  · exfalso
    unfold cut at h
    rw [Array.getElem?_mapIdx] at h
    cases e : w.heap[b]? with
    | none => rw [e] at h; simp at h
    | some o => rw [e] at h; simp [hb] at h
theorem cut_keeps (w : World) (lo hi : Nat) : KeepD (cut w lo hi) w := by
  refine ⟨?_, fun b cs T z h => (cut_blk h).2.2⟩
  intro p u h
  have hb := cut_no h
  rw [← h]
  exact (World.cell?_of_block (cut_at hb.1 hb.2)).symm
theorem cut_same {w w' : World} {lo hi lo' hi' : Nat} (hl : lo' ≤ lo) (hh : hi ≤ hi') (h : Same lo hi w w') : KeepD (cut w lo hi) (cut w' lo' hi') := by
  refine ⟨?_, fun b cs T z e => ?_⟩
  · intro p u e
    have hb := cut_no e
    rw [← e]
    exact World.cell?_of_block ((cut_at (Nat.le_trans hl hb.1) (Nat.lt_of_lt_of_le hb.2 hh)).trans ((h p.block hb.1 hb.2).trans (cut_at hb.1 hb.2).symm))
  · obtain ⟨hb, hb2, e2⟩ := cut_blk e
    exact (cut_at (Nat.le_trans hl hb) (Nat.lt_of_lt_of_le hb2 hh)).trans ((h b hb hb2).trans e2)
theorem cut_young {w : World} {lo : Nat} : KeepD (young w lo) (cut w lo w.heap.size) := by
  refine ⟨?_, fun b cs T z e => ?_⟩
  · intro p u e
    have hb := young_no e
    have hlt := cell_lt ((young_keeps w lo).1 p u e)
    rw [← e]
    exact World.cell?_of_block ((cut_at hb hlt).trans (young_at hb).symm)
  · obtain ⟨hb, e2⟩ := young_blk e
    exact (cut_at hb (heap_lt e2)).trans e2
mutual
/-- The struct's value v is the statement; what is within it lies in the blocks from lo to hi. -/
def DX (w : World) (lo hi : Nat) : STree → Value → Prop
  | .node k s t b e, v => InI k ∧ s.size ≤ 9223372036854775807 ∧ ∃ (kv bv ev : Value) (bx ex : List Value) (m1 m2 : Nat), v = .agg #[.int .i64 k, .string s, .int .i64 t.kind, .int .i64 t.num, .string t.name, kv, bv, ev] ∧ lo ≤ m1 ∧ LiesD (cut w lo m1) t (aggT t kv) ∧
      (w.ownsRow m1 36 8 bv b.length bx ∧ (∀ q, bv.ownBlock = some q → q < m2) ∧ DL w bv.ownBlock m1 m2 b bx) ∧
      (w.ownsRow m2 36 8 ev e.length ex ∧ (∀ q, ev.ownBlock = some q → q < hi) ∧ DL w ev.ownBlock m2 hi e ex)
/-- Statements one behind the other, each in a range of its own in which the row is not. -/
def DL (w : World) (g : Option Nat) (lo hi : Nat) : List STree → List Value → Prop
  | [], cs => cs = [] ∧ lo ≤ hi
  | x :: r, cs => ∃ (kv bv ev : Value) (rest : List Value) (a b : Nat), cs = cellsX x kv bv ev ++ rest ∧ lo ≤ a ∧ (∀ q, g = some q → q < a ∨ b ≤ q) ∧ DX w a b x (aggX x kv bv ev) ∧ DL w g b hi r rest
end
/-- A list of statements in a row of the call's own. -/
def DK (w : World) (lo hi : Nat) (xs : List STree) (v : Value) : Prop :=
  ∃ cs : List Value, w.ownsRow lo 36 8 v xs.length cs ∧ (∀ q, v.ownBlock = some q → q < hi) ∧ DL w v.ownBlock lo hi xs cs
theorem DX.parts {w : World} {lo hi : Nat} {x : STree} {v : Value} (h : DX w lo hi x v) : InI x.kind ∧ x.name.size ≤ 9223372036854775807 ∧ ∃ (kv bv ev : Value) (m1 m2 : Nat), v = aggX x kv bv ev ∧ lo ≤ m1 ∧ LiesD (cut w lo m1) x.term (aggT x.term kv) ∧ DK w m1 m2 x.body bv ∧ DK w m2 hi x.els ev := by
  cases x with
  | node k s t b e =>
    obtain ⟨h1, h2, kv, bv, ev, bx, ex, m1, m2, rfl, h3, h4, h5, h6⟩ := h
    exact ⟨h1, h2, kv, bv, ev, m1, m2, rfl, h3, h4, ⟨bx, h5⟩, ⟨ex, h6⟩⟩
theorem DX.mk {w : World} {lo m1 m2 hi : Nat} {x : STree} {kv bv ev : Value} (h1 : InI x.kind) (h2 : x.name.size ≤ 9223372036854775807) (hl : lo ≤ m1) (h3 : LiesD (cut w lo m1) x.term (aggT x.term kv)) (h4 : DK w m1 m2 x.body bv) (h5 : DK w m2 hi x.els ev) : DX w lo hi x (aggX x kv bv ev) := by
  cases x with
  | node k s t b e =>
    obtain ⟨bx, h4⟩ := h4
    obtain ⟨ex, h5⟩ := h5
    exact ⟨h1, h2, kv, bv, ev, bx, ex, m1, m2, rfl, hl, h3, h4, h5⟩
mutual
theorem DX.le {w : World} : ∀ {x : STree} {lo hi : Nat} {v : Value}, DX w lo hi x v → lo ≤ hi
  | .node k s t b e, lo, hi, v, h => by
    obtain ⟨_, _, kv, bv, ev, bx, ex, m1, m2, _, h3, _, ⟨_, _, h6⟩, ⟨_, _, h8⟩⟩ := h
    have := DL.le h6
    have := DL.le h8
    omega
theorem DL.le {w : World} : ∀ {xs : List STree} {g : Option Nat} {lo hi : Nat} {cs : List Value}, DL w g lo hi xs cs → lo ≤ hi
  | [], _, _, _, _, h => h.2
  | x :: r, g, lo, hi, cs, h => by
    obtain ⟨_, _, _, _, a, b, _, h1, _, h2, h3⟩ := h
    have := DX.le h2
    have := DL.le h3
    omega
end
theorem DK.le {w : World} {lo hi : Nat} {xs : List STree} {v : Value} (h : DK w lo hi xs v) : lo ≤ hi := by
  obtain ⟨_, _, _, h2⟩ := h
  exact h2.le
mutual
theorem DX.same {w w' : World} : ∀ {x : STree} {lo hi : Nat} {v : Value}, Same lo hi w w' → DX w lo hi x v → DX w' lo hi x v
  | .node k s t b e, lo, hi, v, hs, h => by
    obtain ⟨h1, h2, kv, bv, ev, bx, ex, m1, m2, rfl, h3, h4, ⟨r1, q1, h6⟩, ⟨r2, q2, h8⟩⟩ := h
    have l2 := DL.le h6
    have l3 := DL.le h8
    refine ⟨h1, h2, kv, bv, ev, bx, ex, m1, m2, rfl, h3, h4.keep (cut_same (Nat.le_refl _) (Nat.le_refl _) (fun q a b => hs q (by omega) (by omega))), ⟨row_same r1 (fun q hq => hs q (by have := (r1.lt q hq).1; omega) (by have := q1 q hq; omega)), q1, DL.same (fun q a b _ => hs q (by omega) (by omega)) h6⟩, ⟨row_same r2 (fun q hq => hs q (by have := (r2.lt q hq).1; omega) (by have := q2 q hq; omega)), q2, DL.same (fun q a b _ => hs q (by omega) (by omega)) h8⟩⟩
theorem DL.same {w w' : World} : ∀ {xs : List STree} {g : Option Nat} {lo hi : Nat} {cs : List Value}, (∀ b, lo ≤ b → b < hi → g ≠ some b → w'.heap[b]? = w.heap[b]?) → DL w g lo hi xs cs → DL w' g lo hi xs cs
  | [], _, _, _, _, _, h => h
  | x :: r, g, lo, hi, cs, hs, h => by
    obtain ⟨kv, bv, ev, rest, a, b, e, h1, hg, h2, h3⟩ := h
    have hm := DL.le h3
    have hm2 := DX.le h2
    exact ⟨kv, bv, ev, rest, a, b, e, h1, hg, DX.same (fun q a b => hs q (by omega) (by omega) (fun e => by rcases hg q e with h | h <;> omega)) h2, DL.same (fun q a b => hs q (by omega) b) h3⟩
end
theorem DK.same {w w' : World} {lo hi : Nat} {xs : List STree} {v : Value} (hs : Same lo hi w w') (h : DK w lo hi xs v) : DK w' lo hi xs v := by
  obtain ⟨cs, h4, h5, h6⟩ := h
  exact ⟨cs, row_same h4 (fun b hb => hs b (h4.lt b hb).1 (h5 b hb)), h5, h6.same (fun b hb hb2 _ => hs b hb hb2)⟩
theorem DL.wideR {w : World} : ∀ {xs : List STree} {g : Option Nat} {lo hi hi' : Nat} {cs : List Value}, hi ≤ hi' → DL w g lo hi xs cs → DL w g lo hi' xs cs
  | [], _, _, _, _, _, hh, h => ⟨h.1, Nat.le_trans h.2 hh⟩
  | x :: r, g, lo, hi, hi', cs, hh, h => by
    obtain ⟨kv, bv, ev, rest, a, b, e, h1, h2, h3, h4⟩ := h
    exact ⟨kv, bv, ev, rest, a, b, e, h1, h2, h3, DL.wideR hh h4⟩
theorem DL.wideL {w : World} : ∀ {xs : List STree} {g : Option Nat} {lo lo' hi : Nat} {cs : List Value}, lo' ≤ lo → DL w g lo hi xs cs → DL w g lo' hi xs cs
  | [], _, _, _, _, _, hh, h => ⟨h.1, Nat.le_trans hh h.2⟩
  | x :: r, g, lo, lo', hi, cs, hh, h => by
    obtain ⟨kv, bv, ev, rest, a, b, e, h1, h2⟩ := h
    exact ⟨kv, bv, ev, rest, a, b, e, Nat.le_trans hh h1, h2⟩
theorem DK.wide {w : World} {lo lo' hi hi' : Nat} {xs : List STree} {v : Value} (hl : lo' ≤ lo) (hh : hi ≤ hi') (h : DK w lo hi xs v) : DK w lo' hi' xs v := by
  obtain ⟨cs, h4, h5, h6⟩ := h
  exact ⟨cs, h4.mono hl, fun q hq => Nat.lt_of_lt_of_le (h5 q hq) hh, (h6.wideR hh).wideL hl⟩
theorem DX.wide {w : World} {lo lo' hi hi' : Nat} {x : STree} {v : Value} (hl : lo' ≤ lo) (hh : hi ≤ hi') (h : DX w lo hi x v) : DX w lo' hi' x v := by
  obtain ⟨h1, h2, kv, bv, ev, m1, m2, rfl, h3, h4, h5, h6⟩ := h.parts
  exact DX.mk h1 h2 (Nat.le_trans hl h3) (h4.keep (cut_same hl (Nat.le_refl _) (fun _ _ _ => rfl))) h5 (h6.wide (Nat.le_refl _) hh)
/-- Another row, in none of the ranges. -/
theorem DL.change {w : World} {g g' : Option Nat} : ∀ {xs : List STree} {lo hi : Nat} {cs : List Value}, (∀ q, g' = some q → q < lo ∨ hi ≤ q) → DL w g lo hi xs cs → DL w g' lo hi xs cs
  | [], _, _, _, _, h => h
  | x :: r, lo, hi, cs, hq, h => by
    obtain ⟨kv, bv, ev, rest, a, b, e, h1, h2, h3, h4⟩ := h
    have := h3.le
    have := h4.le
    exact ⟨kv, bv, ev, rest, a, b, e, h1, fun q hg => by rcases hq q hg with h | h <;> omega, h3, DL.change (fun q hg => by rcases hq q hg with h | h <;> omega) h4⟩
theorem DL.append {w : World} {g : Option Nat} : ∀ {xs ys : List STree} {lo mid hi : Nat} {cs ds : List Value}, DL w g lo mid xs cs → DL w g mid hi ys ds → DL w g lo hi (xs ++ ys) (cs ++ ds)
  | [], ys, lo, mid, hi, cs, ds, h, h2 => by
    obtain ⟨rfl, hl⟩ := h
    exact h2.wideL hl
  | x :: r, ys, lo, mid, hi, cs, ds, h, h2 => by
    obtain ⟨kv, bv, ev, rest, a, b, rfl, h1, hg, h3, h4⟩ := h
    exact ⟨kv, bv, ev, rest ++ ds, a, b, by simp, h1, hg, h3, DL.append h4 h2⟩
theorem DL.one {w : World} {g : Option Nat} {lo hi : Nat} {x : STree} {kv bv ev : Value} (hg : ∀ q, g = some q → q < lo ∨ hi ≤ q) (h : DX w lo hi x (aggX x kv bv ev)) : DL w g lo hi [x] (cellsX x kv bv ev) :=
  ⟨kv, bv, ev, [], lo, hi, by simp, Nat.le_refl _, hg, h, rfl, Nat.le_refl _⟩
mutual
/-- What is drawn lies there, and is not frozen. -/
theorem DX.lies {w : World} : ∀ {x : STree} {lo hi : Nat} {v : Value}, DX w lo hi x v → SLies w x v ∧ SLiesF w x v
  | .node k s t b e, lo, hi, v, h => by
    obtain ⟨h1, h2, kv, bv, ev, bx, ex, m1, m2, rfl, h3, h4, ⟨r1, _, h6⟩, ⟨r2, _, h8⟩⟩ := h
    have hl := h4.keep (cut_keeps _ _ _)
    obtain ⟨ta, tc, e1⟩ := hl.shape
    have e2 : kv = .slice ta t.kids.length tc := by
      have := e1
      unfold aggT at this
      simp at this
      exact this
    subst e2
    obtain ⟨ba, bc, rfl, hn1, hc1⟩ := slies_of_row r1
    obtain ⟨ea, ec, rfl, hn2, hc2⟩ := slies_of_row r2
    have A1 : 0 < b.length → ∃ g, ba = some ⟨g, 0, none⟩ ∧ FreeB w g ∧ SLiesL w g 0 b ∧ SLiesLF w g 0 b := fun hp => by
      obtain ⟨g, rfl, hcell⟩ := hc1 hp
      exact ⟨g, rfl, row_free r1, DL.lies h6 (fun j hj => by rw [Nat.zero_add]; exact hcell j (by have := r1.1; omega))⟩
    have A2 : 0 < e.length → ∃ g, ea = some ⟨g, 0, none⟩ ∧ FreeB w g ∧ SLiesL w g 0 e ∧ SLiesLF w g 0 e := fun hp => by
      obtain ⟨g, rfl, hcell⟩ := hc2 hp
      exact ⟨g, rfl, row_free r2, DL.lies h8 (fun j hj => by rw [Nat.zero_add]; exact hcell j (by have := r2.1; omega))⟩
    refine ⟨⟨h1, h2, hn1, hn2, ta, tc, ba, bc, ea, ec, rfl, hl.1, fun hp => ?_, fun hp => ?_⟩, ⟨hn1, hn2, ta, tc, ba, bc, ea, ec, rfl, hl.2, fun hp => ?_, fun hp => ?_⟩⟩
    · obtain ⟨g, e, _, h, _⟩ := A1 hp; exact ⟨g, 0, e, h⟩
    · obtain ⟨g, e, _, h, _⟩ := A2 hp; exact ⟨g, 0, e, h⟩
    · obtain ⟨g, e, f, _, h⟩ := A1 hp; exact ⟨g, 0, e, f, h⟩
    · obtain ⟨g, e, f, _, h⟩ := A2 hp; exact ⟨g, 0, e, f, h⟩
theorem DL.lies {w : World} : ∀ {xs : List STree} {d : Option Nat} {lo hi g o : Nat} {cs : List Value}, DL w d lo hi xs cs → (∀ j, j < cs.length → w.cell? ⟨g, o + j, none⟩ = cs[j]?) → SLiesL w g o xs ∧ SLiesLF w g o xs
  | [], _, _, _, _, _, _, _, _ => ⟨trivial, trivial⟩
  | x :: r, d, lo, hi, g, o, cs, h, hc => by
    obtain ⟨kv, bv, ev, rest, a, b, rfl, _, _, h2, h3⟩ := h
    have hl := h2.lies
    obtain ⟨ta, tc, ba, bc, ea, ec, e⟩ := hl.1.shape
    have e2 : kv = .slice ta x.term.kids.length tc ∧ bv = .slice ba x.body.length bc ∧ ev = .slice ea x.els.length ec := by
      have := e
      unfold aggX at this
      simp at this
      exact this
    obtain ⟨rfl, rfl, rfl⟩ := e2
    have hr := DL.lies h3 (g := g) (o := o + 8) (fun j hj => by
      have := hc (8 + j) (by simp [cellsX]; omega)
      rw [show o + 8 + j = o + (8 + j) from by omega, this, List.getElem?_append_right (by simp [cellsX])]
      congr 1
      simp [cellsX])
    exact ⟨⟨⟨ta, tc, ba, bc, ea, ec, hc 0 (by simp [cellsX]), hc 1 (by simp [cellsX]), hc 2 (by simp [cellsX]), hc 3 (by simp [cellsX]), hc 4 (by simp [cellsX]), hc 5 (by simp [cellsX]), hc 6 (by simp [cellsX]), hc 7 (by simp [cellsX]), hl.1⟩, hr.1⟩,
      ⟨⟨ta, tc, ba, bc, ea, ec, hc 0 (by simp [cellsX]), hc 1 (by simp [cellsX]), hc 2 (by simp [cellsX]), hc 3 (by simp [cellsX]), hc 4 (by simp [cellsX]), hc 5 (by simp [cellsX]), hc 6 (by simp [cellsX]), hc 7 (by simp [cellsX]), hl.2⟩, hr.2⟩⟩
end
theorem DK.lies {w : World} {lo hi : Nat} {xs : List STree} {v : Value} (h : DK w lo hi xs v) : SListAt w v xs ∧ SListF w v xs := by
  obtain ⟨cs, h4, _, h7⟩ := h
  obtain ⟨a, cap, rfl, hn, hc⟩ := slies_of_row h4
  have A : 0 < xs.length → ∃ g, a = some ⟨g, 0, none⟩ ∧ FreeB w g ∧ SLiesL w g 0 xs ∧ SLiesLF w g 0 xs := fun hp => by
    obtain ⟨g, rfl, hcell⟩ := hc hp
    exact ⟨g, rfl, row_free h4, DL.lies h7 (fun j hj => by rw [Nat.zero_add]; exact hcell j (by have := h4.1; omega))⟩
  refine ⟨⟨hn, a, cap, rfl, fun hp => ?_⟩, ⟨hn, a, cap, rfl, fun hp => ?_⟩⟩
  · obtain ⟨g, e, _, h, _⟩ := A hp; exact ⟨g, 0, e, h⟩
  · obtain ⟨g, e, f, _, h⟩ := A hp; exact ⟨g, 0, e, f, h⟩
end Go.Proofs.YtkfeiekgdfklmaaGreatDoor.Cur
