/- Statements that lie in rows that are not frozen. Without conditions. -/
import Derived.Test.YtkfeiekgdfklmaaGreatDoorFreeT
import Derived.Test.YtkfeiekgdfklmaaGreatDoorSOwn
namespace Go.Proofs.YtkfeiekgdfklmaaGreatDoor.Trm
open Go.RowKit Own
mutual
def SLiesF (w : World) : STree → Value → Prop
  | .node k s t b e, v => b.length ≤ 9223372036854775807 ∧ e.length ≤ 9223372036854775807 ∧ ∃ ta tc ba bc ea ec, v = .agg #[.int .i64 k, .string s, .int .i64 t.kind, .int .i64 t.num, .string t.name, .slice ta t.kids.length tc, .slice ba b.length bc, .slice ea e.length ec] ∧
      LiesF w t (.agg #[.int .i64 t.kind, .int .i64 t.num, .string t.name, .slice ta t.kids.length tc]) ∧ (0 < b.length → ∃ g o, ba = some ⟨g, o, none⟩ ∧ FreeB w g ∧ SLiesLF w g o b) ∧ (0 < e.length → ∃ g o, ea = some ⟨g, o, none⟩ ∧ FreeB w g ∧ SLiesLF w g o e)
def SLiesLF (w : World) (g o : Nat) : List STree → Prop
  | [] => True
  | x :: xs => (∃ ta tc ba bc ea ec, w.cell? ⟨g, o, none⟩ = some (.int .i64 x.kind) ∧ w.cell? ⟨g, o + 1, none⟩ = some (.string x.name) ∧ w.cell? ⟨g, o + 2, none⟩ = some (.int .i64 x.term.kind) ∧ w.cell? ⟨g, o + 3, none⟩ = some (.int .i64 x.term.num) ∧ w.cell? ⟨g, o + 4, none⟩ = some (.string x.term.name) ∧ w.cell? ⟨g, o + 5, none⟩ = some (.slice ta x.term.kids.length tc) ∧ w.cell? ⟨g, o + 6, none⟩ = some (.slice ba x.body.length bc) ∧ w.cell? ⟨g, o + 7, none⟩ = some (.slice ea x.els.length ec) ∧ SLiesF w x (.agg #[.int .i64 x.kind, .string x.name, .int .i64 x.term.kind, .int .i64 x.term.num, .string x.term.name, .slice ta x.term.kids.length tc, .slice ba x.body.length bc, .slice ea x.els.length ec])) ∧ SLiesLF w g (o + 8) xs
end
mutual
theorem SLiesF.keep {w w' : World} (hk : KeepF w w') : ∀ {x : STree} {v : Value}, SLiesF w x v → SLiesF w' x v
  | .node k s t b e, v, h => by
    obtain ⟨h3, h4, ta, tc, ba, bc, ea, ec, rfl, h5, h6, h7⟩ := h
    refine ⟨h3, h4, ta, tc, ba, bc, ea, ec, rfl, h5.keep hk, fun hp => ?_, fun hp => ?_⟩
    · obtain ⟨g, o, rfl, hf, h8⟩ := h6 hp
      exact ⟨g, o, rfl, hf.keep hk, SLiesLF.keep hk hf h8⟩
    · obtain ⟨g, o, rfl, hf, h8⟩ := h7 hp
      exact ⟨g, o, rfl, hf.keep hk, SLiesLF.keep hk hf h8⟩
theorem SLiesLF.keep {w w' : World} (hk : KeepF w w') : ∀ {xs : List STree} {g o : Nat}, FreeB w g → SLiesLF w g o xs → SLiesLF w' g o xs
  | [], _, _, _, _ => trivial
  | x :: xs, g, o, hf, h => by
    obtain ⟨⟨ta, tc, ba, bc, ea, ec, c0, c1, c2, c3, c4, c5, c6, c7, hl⟩, hr⟩ := h
    exact ⟨⟨ta, tc, ba, bc, ea, ec, (hf.cell hk).trans c0, (hf.cell hk).trans c1, (hf.cell hk).trans c2, (hf.cell hk).trans c3, (hf.cell hk).trans c4, (hf.cell hk).trans c5, (hf.cell hk).trans c6, (hf.cell hk).trans c7, SLiesF.keep hk hl⟩, SLiesLF.keep hk hf hr⟩
end
theorem SLiesLF.at {w : World} : ∀ {xs : List STree} {g o : Nat}, SLiesLF w g o xs → ∀ (i : Nat) (hi : i < xs.length), ∃ ta tc ba bc ea ec, w.cell? ⟨g, o + i * 8, none⟩ = some (.int .i64 xs[i].kind) ∧ w.cell? ⟨g, o + i * 8 + 1, none⟩ = some (.string xs[i].name) ∧ w.cell? ⟨g, o + i * 8 + 2, none⟩ = some (.int .i64 xs[i].term.kind) ∧ w.cell? ⟨g, o + i * 8 + 3, none⟩ = some (.int .i64 xs[i].term.num) ∧ w.cell? ⟨g, o + i * 8 + 4, none⟩ = some (.string xs[i].term.name) ∧ w.cell? ⟨g, o + i * 8 + 5, none⟩ = some (.slice ta xs[i].term.kids.length tc) ∧ w.cell? ⟨g, o + i * 8 + 6, none⟩ = some (.slice ba xs[i].body.length bc) ∧ w.cell? ⟨g, o + i * 8 + 7, none⟩ = some (.slice ea xs[i].els.length ec) ∧ SLiesF w xs[i] (.agg #[.int .i64 xs[i].kind, .string xs[i].name, .int .i64 xs[i].term.kind, .int .i64 xs[i].term.num, .string xs[i].term.name, .slice ta xs[i].term.kids.length tc, .slice ba xs[i].body.length bc, .slice ea xs[i].els.length ec])
  | [], _, _, _, i, hi => absurd hi (by simp)
  | x :: xs, g, o, h, 0, _ => by
    obtain ⟨hh, _⟩ := h
    simpa using hh
  | x :: xs, g, o, h, i + 1, hi => by
    obtain ⟨_, hr⟩ := h
    have := SLiesLF.at hr i (by simpa using hi)
    rw [show o + 8 + i * 8 = o + (i + 1) * 8 from by omega] at this
    exact this
/-- A list of statements as a slice. -/
def SListF (w : World) (v : Value) (xs : List STree) : Prop := xs.length ≤ 9223372036854775807 ∧ ∃ a cap, v = .slice a xs.length cap ∧ (0 < xs.length → ∃ g o, a = some ⟨g, o, none⟩ ∧ FreeB w g ∧ SLiesLF w g o xs)
theorem SListF.keep {w w' : World} {v : Value} {xs : List STree} (hk : KeepF w w') (h : SListF w v xs) : SListF w' v xs := by
  obtain ⟨h1, a, cap, rfl, h2⟩ := h
  refine ⟨h1, a, cap, rfl, fun hp => ?_⟩
  obtain ⟨g, o, rfl, hf, h3⟩ := h2 hp
  exact ⟨g, o, rfl, hf.keep hk, h3.keep hk hf⟩
theorem SLiesF.lists {w : World} {x : STree} {ta ba ea : Option Addr} {tc bc ec : Nat} (h : SLiesF w x (.agg #[.int .i64 x.kind, .string x.name, .int .i64 x.term.kind, .int .i64 x.term.num, .string x.term.name, .slice ta x.term.kids.length tc, .slice ba x.body.length bc, .slice ea x.els.length ec])) : LiesF w x.term (.agg #[.int .i64 x.term.kind, .int .i64 x.term.num, .string x.term.name, .slice ta x.term.kids.length tc]) ∧ SListF w (.slice ba x.body.length bc) x.body ∧ SListF w (.slice ea x.els.length ec) x.els := by
  cases x with
  | node k s t b e =>
    obtain ⟨h3, h4, ta', tc', ba', bc', ea', ec', e, h5, h6, h7⟩ := h
    simp [STree.kind, STree.name, STree.term, STree.body, STree.els] at e
    obtain ⟨⟨rfl, rfl⟩, ⟨rfl, rfl⟩, ⟨rfl, rfl⟩⟩ := e
    exact ⟨h5, ⟨h3, _, _, rfl, h6⟩, ⟨h4, _, _, rfl, h7⟩⟩
mutual
theorem SLiesF.det {w : World} : ∀ {x y : STree} {v : Value}, SLiesF w x v → SLiesF w y v → x = y
  | .node k s t b e, .node k' s' t' b' e', v, h, h' => by
    obtain ⟨_, _, ta, tc, ba, bc, ea, ec, rfl, h5, h6, h7⟩ := h
    obtain ⟨_, _, ta', tc', ba', bc', ea', ec', q, h5', h6', h7'⟩ := h'
    simp at q
    obtain ⟨rfl, rfl, q3, q4, q5, ⟨rfl, q7, rfl⟩, ⟨rfl, hb, rfl⟩, ⟨rfl, he, rfl⟩⟩ := q
    rw [← q3, ← q4, ← q5, ← q7] at h5'
    have e1 := LiesF.det h5 h5'
    have e2 : b = b' := by
      rcases Nat.eq_zero_or_pos b.length with h0 | h0
      · rw [List.length_eq_zero_iff.1 h0, List.length_eq_zero_iff.1 (by omega : b'.length = 0)]
      · obtain ⟨g, o, rfl, _, h8⟩ := h6 h0
        obtain ⟨g', o', q, _, h8'⟩ := h6' (by omega)
        simp at q
        obtain ⟨rfl, rfl⟩ := q
        exact SLiesLF.det h8 h8' hb
    have e3 : e = e' := by
      rcases Nat.eq_zero_or_pos e.length with h0 | h0
      · rw [List.length_eq_zero_iff.1 h0, List.length_eq_zero_iff.1 (by omega : e'.length = 0)]
      · obtain ⟨g, o, rfl, _, h8⟩ := h7 h0
        obtain ⟨g', o', q, _, h8'⟩ := h7' (by omega)
        simp at q
        obtain ⟨rfl, rfl⟩ := q
        exact SLiesLF.det h8 h8' he
    rw [e1, e2, e3]
theorem SLiesLF.det {w : World} : ∀ {xs ys : List STree} {g o : Nat}, SLiesLF w g o xs → SLiesLF w g o ys → xs.length = ys.length → xs = ys
  | [], ys, _, _, _, _, hl => (List.length_eq_zero_iff.1 hl.symm).symm
  | x :: xs, [], _, _, _, _, hl => by simp at hl
  | x :: xs, y :: ys, g, o, h, h', hl => by
    obtain ⟨⟨ta, tc, ba, bc, ea, ec, c0, c1, c2, c3, c4, c5, c6, c7, hh⟩, hr⟩ := h
    obtain ⟨⟨ta', tc', ba', bc', ea', ec', d0, d1, d2, d3, d4, d5, d6, d7, hh'⟩, hr'⟩ := h'
    rw [c0] at d0
    rw [c1] at d1
    rw [c2] at d2
    rw [c3] at d3
    rw [c4] at d4
    rw [c5] at d5
    rw [c6] at d6
    rw [c7] at d7
    simp at d0 d1 d2 d3 d4 d5 d6 d7
    obtain ⟨rfl, k5, rfl⟩ := d5
    obtain ⟨rfl, k6, rfl⟩ := d6
    obtain ⟨rfl, k7, rfl⟩ := d7
    rw [← d0, ← d1, ← d2, ← d3, ← d4, ← k5, ← k6, ← k7] at hh'
    rw [SLiesF.det hh hh', SLiesLF.det hr hr' (by simpa using hl)]
end
/-- What the call owns is not frozen. -/
theorem row_free {w : World} {base : Nat} {e : TypeId} {size n cap : Nat} {g : Nat} {xs : List Value} (h : w.ownsRow base e size (.slice (some ⟨g, 0, none⟩) n cap) n xs) : FreeB w g := by
  rcases h.2 with ⟨e, _⟩ | ⟨g', cap', cur, e, _, hb, _⟩
  · simp at e
  · simp at e
    obtain ⟨rfl, _⟩ := e
    exact ⟨cur, _, hb⟩
mutual
theorem SOwns.liesF {w : World} : ∀ {x : STree} {lo hi : Nat} {v : Value}, SOwns w lo hi x v → SLiesF w x v
  | .node k s t b e, lo, hi, v, h => by
    obtain ⟨h1, h2, kv, bv, ev, bx, ex, m1, m2, mb, me, rfl, h4, ⟨r1, _, _, h6⟩, ⟨r2, _, _, h8⟩⟩ := h
    obtain ⟨ta, tc, e4⟩ := h4.lies.shape
    have e5 : kv = .slice ta t.kids.length tc := by
      unfold aggT at e4
      simp at e4
      exact e4
    subst e5
    obtain ⟨ba, bc, rfl, hn, hc⟩ := slies_of_row r1
    obtain ⟨ea, ec, rfl, hn2, hc2⟩ := slies_of_row r2
    refine ⟨hn, hn2, ta, tc, ba, bc, ea, ec, rfl, h4.liesF, fun hp => ?_, fun hp => ?_⟩
    · obtain ⟨g, rfl, hcell⟩ := hc hp
      refine ⟨g, 0, rfl, row_free r1, SOwnsL.liesF h6 (fun j hj => ?_)⟩
      rw [Nat.zero_add]
      exact hcell j (by have := r1.1; omega)
    · obtain ⟨g, rfl, hcell⟩ := hc2 hp
      refine ⟨g, 0, rfl, row_free r2, SOwnsL.liesF h8 (fun j hj => ?_)⟩
      rw [Nat.zero_add]
      exact hcell j (by have := r2.1; omega)
theorem SOwnsL.liesF {w : World} : ∀ {xs : List STree} {lo hi g o : Nat} {cs : List Value}, SOwnsL w lo hi xs cs → (∀ j, j < cs.length → w.cell? ⟨g, o + j, none⟩ = cs[j]?) → SLiesLF w g o xs
  | [], _, _, _, _, _, _, _ => trivial
  | x :: xs, lo, hi, g, o, cs, h, hc => by
    obtain ⟨kv, bv, ev, rest, mid, rfl, h1, h2, h3⟩ := h
    have hl := h2.liesF
    obtain ⟨ta, tc, ba, bc, ea, ec, e⟩ := h2.lies.shape
    have e2 : kv = .slice ta x.term.kids.length tc ∧ bv = .slice ba x.body.length bc ∧ ev = .slice ea x.els.length ec := by
      have := e
      unfold aggX at this
      simp at this
      exact this
    obtain ⟨rfl, rfl, rfl⟩ := e2
    refine ⟨⟨ta, tc, ba, bc, ea, ec, ?_, ?_, ?_, ?_, ?_, ?_, ?_, ?_, hl⟩, SOwnsL.liesF h3 (fun j hj => ?_)⟩
    · exact hc 0 (by simp [cellsX])
    · exact hc 1 (by simp [cellsX])
    · exact hc 2 (by simp [cellsX])
    · exact hc 3 (by simp [cellsX])
    · exact hc 4 (by simp [cellsX])
    · exact hc 5 (by simp [cellsX])
    · exact hc 6 (by simp [cellsX])
    · exact hc 7 (by simp [cellsX])
    · have := hc (8 + j) (by simp [cellsX]; omega)
      rw [show o + 8 + j = o + (8 + j) from by omega, this, List.getElem?_append_right (by simp [cellsX])]
      congr 1
      simp [cellsX]
end
theorem SOwnsK.listF {w : World} {lo hi : Nat} {xs : List STree} {v : Value} (h : SOwnsK w lo hi xs v) : SListF w v xs := by
  obtain ⟨cs, m, h4, _, _, h7⟩ := h
  obtain ⟨a, cap, rfl, hn, hc⟩ := slies_of_row h4
  refine ⟨hn, a, cap, rfl, fun hp => ?_⟩
  obtain ⟨g, rfl, hcell⟩ := hc hp
  refine ⟨g, 0, rfl, row_free h4, SOwnsL.liesF h7 (fun j hj => ?_)⟩
  rw [Nat.zero_add]
  exact hcell j (by have := h4.1; omega)
theorem SListF.list {w : World} {v : Value} {xs : List STree} (h : SListF w v xs) : xs.length ≤ 9223372036854775807 ∧ ∃ a cap, v = .slice a xs.length cap := ⟨h.1, by obtain ⟨_, a, c, e, _⟩ := h; exact ⟨a, c, e⟩⟩
end Go.Proofs.YtkfeiekgdfklmaaGreatDoor.Trm
