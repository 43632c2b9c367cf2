/- Statements that lie in memory of the call's own: each list in a row of its own, the rows apart. Without conditions. -/
import Derived.Test.YtkfeiekgdfklmaaGreatDoorChecked
import Derived.Test.YtkfeiekgdfklmaaGreatDoorSTrees
import Derived.Test.YtkfeiekgdfklmaaGreatDoorTermOwn
import Derived.Test.YtkfeiekgdfklmaaGreatDoorTermTo
namespace Go.Proofs.YtkfeiekgdfklmaaGreatDoor.Trm
open Go.RowKit Own
/-- The cells of an element. -/
def cellsX (x : STree) (kv bv ev : Value) : List Value := [.int .i64 x.kind, .string x.name, .int .i64 x.term.kind, .int .i64 x.term.num, .string x.term.name, kv, bv, ev]
def aggX (x : STree) (kv bv ev : Value) : Value := .agg #[.int .i64 x.kind, .string x.name, .int .i64 x.term.kind, .int .i64 x.term.num, .string x.term.name, kv, bv, ev]
mutual
def SOwns (w : World) (lo hi : Nat) : STree → Value → Prop
  | .node k s t b e, v => InI k ∧ s.size ≤ 9223372036854775807 ∧ ∃ (kv bv ev : Value) (bx ex : List Value) (m1 m2 mb me : Nat), v = .agg #[.int .i64 k, .string s, .int .i64 t.kind, .int .i64 t.num, .string t.name, kv, bv, ev] ∧ Owns w lo m1 t (aggT t kv) ∧
      (w.ownsRow m1 36 8 bv b.length bx ∧ m1 ≤ mb ∧ (∀ q, bv.ownBlock = some q → q < mb) ∧ SOwnsL w mb m2 b bx) ∧
      (w.ownsRow m2 36 8 ev e.length ex ∧ m2 ≤ me ∧ (∀ q, ev.ownBlock = some q → q < me) ∧ SOwnsL w me hi e ex)
def SOwnsL (w : World) (lo hi : Nat) : List STree → List Value → Prop
  | [], xs => xs = [] ∧ lo ≤ hi
  | x :: r, xs => ∃ (kv bv ev : Value) (rest : List Value) (mid : Nat), xs = cellsX x kv bv ev ++ rest ∧ lo ≤ mid ∧ SOwns w lo mid x (aggX x kv bv ev) ∧ SOwnsL w mid hi r rest
end
def SOwnsK (w : World) (lo hi : Nat) (xs : List STree) (v : Value) : Prop :=
  ∃ (cs : List Value) (m : Nat), w.ownsRow lo 36 8 v xs.length cs ∧ lo ≤ m ∧ (∀ q, v.ownBlock = some q → q < m) ∧ SOwnsL w m hi xs cs
theorem SOwns.parts {w : World} {lo hi : Nat} {x : STree} {v : Value} (h : SOwns w lo hi x v) : InI x.kind ∧ x.name.size ≤ 9223372036854775807 ∧ ∃ (kv bv ev : Value) (m1 m2 : Nat), v = aggX x kv bv ev ∧ Owns w lo m1 x.term (aggT x.term kv) ∧ SOwnsK w m1 m2 x.body bv ∧ SOwnsK w m2 hi x.els ev := by
  cases x with
  | node k s t b e =>
    obtain ⟨h1, h2, kv, bv, ev, bx, ex, m1, m2, mb, me, rfl, h4, h5, h6⟩ := h
    exact ⟨h1, h2, kv, bv, ev, m1, m2, rfl, h4, ⟨bx, mb, h5⟩, ⟨ex, me, h6⟩⟩
theorem SOwns.mk {w : World} {lo m1 m2 hi : Nat} {x : STree} {kv bv ev : Value} (h1 : InI x.kind) (h2 : x.name.size ≤ 9223372036854775807) (h3 : Owns w lo m1 x.term (aggT x.term kv)) (h4 : SOwnsK w m1 m2 x.body bv) (h5 : SOwnsK w m2 hi x.els ev) : SOwns w lo hi x (aggX x kv bv ev) := by
  cases x with
  | node k s t b e =>
    obtain ⟨bx, mb, h4⟩ := h4
    obtain ⟨ex, me, h5⟩ := h5
    exact ⟨h1, h2, kv, bv, ev, bx, ex, m1, m2, mb, me, rfl, h3, h4, h5⟩
mutual
theorem SOwns.le {w : World} : ∀ {x : STree} {lo hi : Nat} {v : Value}, SOwns w lo hi x v → lo ≤ hi
  | .node k s t b e, lo, hi, v, h => by
    obtain ⟨_, _, kv, bv, ev, bx, ex, m1, m2, mb, me, _, h4, ⟨_, h5, _, h6⟩, ⟨_, h7, _, h8⟩⟩ := h
    have := h4.le
    have := SOwnsL.le h6
    have := SOwnsL.le h8
    omega
theorem SOwnsL.le {w : World} : ∀ {xs : List STree} {lo hi : Nat} {cs : List Value}, SOwnsL w lo hi xs cs → lo ≤ hi
  | [], _, _, _, h => h.2
  | x :: r, lo, hi, cs, h => by
    obtain ⟨_, _, _, _, mid, _, h1, _, h3⟩ := h
    exact Nat.le_trans h1 (SOwnsL.le h3)
end
theorem SOwnsK.le {w : World} {lo hi : Nat} {xs : List STree} {v : Value} (h : SOwnsK w lo hi xs v) : lo ≤ hi := by
  obtain ⟨_, m, _, h1, _, h2⟩ := h
  exact Nat.le_trans h1 h2.le
mutual
theorem SOwns.same {w w' : World} : ∀ {x : STree} {lo hi : Nat} {v : Value}, Same lo hi w w' → SOwns w lo hi x v → SOwns w' lo hi x v
  | .node k s t b e, lo, hi, v, hs, h => by
    obtain ⟨h1, h2, kv, bv, ev, bx, ex, m1, m2, mb, me, rfl, h4, ⟨r1, h5, q1, h6⟩, ⟨r2, h7, q2, h8⟩⟩ := h
    have l1 := h4.le
    have l2 := SOwnsL.le h6
    have l3 := SOwnsL.le h8
    refine ⟨h1, h2, kv, bv, ev, bx, ex, m1, m2, mb, me, rfl, Owns.same (fun q a b => hs q a (by omega)) h4, ⟨row_same r1 (fun q hq => hs q (by have := (r1.lt q hq).1; omega) (by have := q1 q hq; omega)), h5, q1, SOwnsL.same (fun q a b => hs q (by omega) (by omega)) h6⟩, ⟨row_same r2 (fun q hq => hs q (by have := (r2.lt q hq).1; omega) (by have := q2 q hq; omega)), h7, q2, SOwnsL.same (fun q a b => hs q (by omega) b) h8⟩⟩
theorem SOwnsL.same {w w' : World} : ∀ {xs : List STree} {lo hi : Nat} {cs : List Value}, Same lo hi w w' → SOwnsL w lo hi xs cs → SOwnsL w' lo hi xs cs
  | [], _, _, _, _, h => h
  | x :: r, lo, hi, cs, hs, h => by
    obtain ⟨kv, bv, ev, rest, mid, e, h1, h2, h3⟩ := h
    have hm := SOwnsL.le h3
    exact ⟨kv, bv, ev, rest, mid, e, h1, SOwns.same (fun q a b => hs q a (by omega)) h2, SOwnsL.same (fun q a b => hs q (by omega) b) h3⟩
end
theorem SOwnsK.same {w w' : World} {lo hi : Nat} {xs : List STree} {v : Value} (hs : Same lo hi w w') (h : SOwnsK w lo hi xs v) : SOwnsK w' lo hi xs v := by
  obtain ⟨cs, m, h4, h5, h6, h7⟩ := h
  have hm := h7.le
  exact ⟨cs, m, row_same h4 (fun b hb => hs b (h4.lt b hb).1 (Nat.lt_of_lt_of_le (h6 b hb) hm)), h5, h6, SOwnsL.same (fun b hb hb2 => hs b (by omega) hb2) h7⟩
mutual
theorem SOwns.wideR {w : World} : ∀ {x : STree} {lo hi hi' : Nat} {v : Value}, hi ≤ hi' → SOwns w lo hi x v → SOwns w lo hi' x v
  | .node k s t b e, lo, hi, hi', v, hh, h => by
    obtain ⟨h1, h2, kv, bv, ev, bx, ex, m1, m2, mb, me, rfl, h4, h5, ⟨r2, h7, q2, h8⟩⟩ := h
    exact ⟨h1, h2, kv, bv, ev, bx, ex, m1, m2, mb, me, rfl, h4, h5, ⟨r2, h7, q2, SOwnsL.wideR hh h8⟩⟩
theorem SOwnsL.wideR {w : World} : ∀ {xs : List STree} {lo hi hi' : Nat} {cs : List Value}, hi ≤ hi' → SOwnsL w lo hi xs cs → SOwnsL w lo hi' xs cs
  | [], _, _, _, _, hh, h => ⟨h.1, Nat.le_trans h.2 hh⟩
  | x :: r, lo, hi, hi', cs, hh, h => by
    obtain ⟨kv, bv, ev, rest, mid, e, h1, h2, h3⟩ := h
    exact ⟨kv, bv, ev, rest, mid, e, h1, h2, SOwnsL.wideR hh h3⟩
end
theorem SOwns.wide {w : World} {x : STree} {lo lo' hi hi' : Nat} {v : Value} (hl : lo' ≤ lo) (hh : hi ≤ hi') (h : SOwns w lo hi x v) : SOwns w lo' hi' x v := by
  obtain ⟨h1, h2, kv, bv, ev, m1, m2, rfl, h4, h5, h6⟩ := (SOwns.wideR hh h).parts
  exact SOwns.mk h1 h2 (h4.wide hl (Nat.le_refl _)) h5 h6
theorem SOwnsK.wide {w : World} {lo lo' hi hi' : Nat} {xs : List STree} {v : Value} (hl : lo' ≤ lo) (hh : hi ≤ hi') (h : SOwnsK w lo hi xs v) : SOwnsK w lo' hi' xs v := by
  obtain ⟨cs, m, h4, h5, h6, h7⟩ := h
  exact ⟨cs, m, h4.mono hl, by omega, h6, h7.wideR hh⟩
theorem SOwnsL.snoc {w : World} : ∀ {xs : List STree} {lo mid hi : Nat} {cs : List Value} {x : STree} {kv bv ev : Value}, SOwnsL w lo mid xs cs → SOwns w mid hi x (aggX x kv bv ev) → SOwnsL w lo hi (xs ++ [x]) (cs ++ cellsX x kv bv ev)
  | [], lo, mid, hi, cs, x, kv, bv, ev, h, hx => by
    obtain ⟨rfl, h2⟩ := h
    exact ⟨kv, bv, ev, [], hi, by simp, Nat.le_trans h2 hx.le, hx.wide h2 (Nat.le_refl _), rfl, Nat.le_refl _⟩
  | a :: xs, lo, mid, hi, cs, x, kv, bv, ev, h, hx => by
    obtain ⟨kv', bv', ev', rest, m, rfl, h1, h2, h3⟩ := h
    exact ⟨kv', bv', ev', rest ++ cellsX x kv bv ev, m, by simp, h1, h2, SOwnsL.snoc h3 hx⟩
/-- What is owned lies there. -/
theorem slies_of_row {w : World} {lo : Nat} {n : Nat} {v : Value} {cs : List Value} (h : w.ownsRow lo 36 8 v n cs) : ∃ a cap, v = .slice a n cap ∧ n ≤ 9223372036854775807 ∧ (0 < n → ∃ g, a = some ⟨g, 0, none⟩ ∧ ∀ j, j < n * 8 → w.cell? ⟨g, j, none⟩ = cs[j]?) := by
  rcases h.2 with ⟨rfl, rfl⟩ | ⟨g, cap, cur, rfl, h1, h2, h3, h4, h5⟩
  · exact ⟨none, 0, rfl, by omega, fun h => by omega⟩
  · exact ⟨_, cap, rfl, by unfold maxLen at h4; omega, fun hn => ⟨g, rfl, fun j hj => h.cellAt j hj⟩⟩
mutual
theorem SOwns.lies {w : World} : ∀ {x : STree} {lo hi : Nat} {v : Value}, SOwns w lo hi x v → SLies w x v
  | .node k s t b e, lo, hi, v, h => by
    obtain ⟨h1, h2, kv, bv, ev, bx, ex, m1, m2, mb, me, rfl, h4, ⟨r1, _, _, h6⟩, ⟨r2, _, _, h8⟩⟩ := h
    have hl := h4.lies
    obtain ⟨_, _, _, _, ta, tc, e1, _⟩ := hl.parts
    have e2 : kv = .slice ta t.kids.length tc := by
      have := e1
      unfold aggT at this
      simp at this
      exact this
    subst e2
    obtain ⟨ba, bc, rfl, hn1, hc1⟩ := slies_of_row r1
    obtain ⟨ea, ec, rfl, hn2, hc2⟩ := slies_of_row r2
    refine ⟨h1, h2, hn1, hn2, ta, tc, ba, bc, ea, ec, rfl, hl, fun hp => ?_, fun hp => ?_⟩
    · obtain ⟨g, rfl, hcell⟩ := hc1 hp
      exact ⟨g, 0, rfl, SOwnsL.lies h6 (fun j hj => by rw [Nat.zero_add]; exact hcell j (by have := r1.1; omega))⟩
    · obtain ⟨g, rfl, hcell⟩ := hc2 hp
      exact ⟨g, 0, rfl, SOwnsL.lies h8 (fun j hj => by rw [Nat.zero_add]; exact hcell j (by have := r2.1; omega))⟩
theorem SOwnsL.lies {w : World} : ∀ {xs : List STree} {lo hi g o : Nat} {cs : List Value}, SOwnsL w lo hi xs cs → (∀ j, j < cs.length → w.cell? ⟨g, o + j, none⟩ = cs[j]?) → SLiesL w g o xs
  | [], _, _, _, _, _, _, _ => trivial
  | x :: r, lo, hi, g, o, cs, h, hc => by
    obtain ⟨kv, bv, ev, rest, mid, rfl, h1, h2, h3⟩ := h
    have hl := h2.lies
    obtain ⟨_, _, _, _, ta, tc, ba, bc, ea, ec, e, _⟩ := hl.parts
    have e2 : kv = .slice ta x.term.kids.length tc ∧ bv = .slice ba x.body.length bc ∧ ev = .slice ea x.els.length ec := by
      have := e
      unfold aggX at this
      simp at this
      exact this
    obtain ⟨rfl, rfl, rfl⟩ := e2
    refine ⟨⟨ta, tc, ba, bc, ea, ec, hc 0 (by simp [cellsX]), hc 1 (by simp [cellsX]), hc 2 (by simp [cellsX]), hc 3 (by simp [cellsX]), hc 4 (by simp [cellsX]), hc 5 (by simp [cellsX]), hc 6 (by simp [cellsX]), hc 7 (by simp [cellsX]), hl⟩, SOwnsL.lies h3 (fun j hj => ?_)⟩
    have := hc (8 + j) (by simp [cellsX]; omega)
    rw [show o + 8 + j = o + (8 + j) from by omega, this, List.getElem?_append_right (by simp [cellsX])]
    congr 1
    simp [cellsX]
end
theorem SOwnsK.list {w : World} {lo hi : Nat} {xs : List STree} {v : Value} (h : SOwnsK w lo hi xs v) : SListAt w v xs := by
  obtain ⟨cs, m, h4, h5, h6, h7⟩ := h
  obtain ⟨a, cap, rfl, hn, hc⟩ := slies_of_row h4
  refine ⟨hn, a, cap, rfl, fun hp => ?_⟩
  obtain ⟨g, rfl, hcell⟩ := hc hp
  exact ⟨g, 0, rfl, SOwnsL.lies h7 (fun j hj => by rw [Nat.zero_add]; exact hcell j (by have := h4.1; omega))⟩
end Go.Proofs.YtkfeiekgdfklmaaGreatDoor.Trm
