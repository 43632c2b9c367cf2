/- Right statements as the program keeps them; what it asks of one statement aside from those within it. Conditions: the statements lie in rows that are not frozen. -/
import Derived.Test.YtmhhghdfgdhljaaRightAny
import Derived.Test.YtmhhghdfgdhljaaSRight
import Derived.Test.YtmhhghdfgdhljaaNoTerm
import Derived.Test.YtmhhghdfgdhljaaFreeX
namespace Go.Proofs.Ytmhhghdfgdhljaa.Trm
open Go.RowKit Own Lexs
/-- What stands ahead of a name. -/
def wordB (k : Int) : ByteArray := if k = 4 then ⟨#[99, 97, 108, 108]⟩ else if k = 5 then ⟨#[115, 112, 97, 119, 110]⟩ else if k = 6 then ⟨#[108, 111, 99, 107]⟩ else if k = 7 then ⟨#[117, 110, 108, 111, 99, 107]⟩ else ⟨#[]⟩
mutual
/-- A right statement's value, what is within it in blocks from a number on. -/
def RV (lo : Nat) (w : World) : STree → Value → Prop
  | .node k s t b e, v =>
    if k = 1 then v = .iface 174 (.agg #[.string s, rtV t])
    else if k = 2 then ∃ a c, v = .iface 180 (.agg #[rtV t, .slice a b.length b.length, .slice c e.length e.length]) ∧ (0 < b.length → ∃ g, lo ≤ g ∧ a = some ⟨g, 0, none⟩ ∧ RVL lo w g 0 b) ∧ (0 < e.length → ∃ g, lo ≤ g ∧ c = some ⟨g, 0, none⟩ ∧ RVL lo w g 0 e)
    else if k = 3 then ∃ a, v = .iface 182 (.agg #[rtV t, .slice a b.length b.length]) ∧ (0 < b.length → ∃ g, lo ≤ g ∧ a = some ⟨g, 0, none⟩ ∧ RVL lo w g 0 b)
    else if k = 8 then v = .iface 184 (.agg #[])
    else v = .iface 186 (.agg #[.string s, .string (wordB k)])
def RVL (lo : Nat) (w : World) (g o : Nat) : List STree → Prop
  | [] => True
  | x :: xs => (∃ u, w.cell? ⟨g, o, none⟩ = some u ∧ RV lo w x u) ∧ RVL lo w g (o + 1) xs
end
/-- What lies in blocks from a number on is kept. -/
def KeepsF (lo : Nat) (w w' : World) : Prop := ∀ p u, lo ≤ p.block → w.cell? p = some u → w'.cell? p = some u
theorem Keeps.from {w w' : World} (h : Keeps w w') (lo : Nat) : KeepsF lo w w' := fun p u _ e => h p u e
mutual
theorem RV.keep {lo lo' : Nat} {w w' : World} (hl : lo' ≤ lo) (hk : KeepsF lo w w') : ∀ {x : STree} {v : Value}, RV lo w x v → RV lo' w' x v
  | .node k s t b e, v, h => by
    unfold RV at h ⊢
    by_cases h1 : k = 1
    · rw [if_pos h1] at h ⊢; exact h
    · rw [if_neg h1] at h ⊢
      by_cases h2 : k = 2
      · rw [if_pos h2] at h ⊢
        obtain ⟨a, c, e1, hb, he⟩ := h
        refine ⟨a, c, e1, fun hp => ?_, fun hp => ?_⟩
        · obtain ⟨g, h0, e2, h3⟩ := hb hp; exact ⟨g, Nat.le_trans hl h0, e2, RVL.keep hl hk h0 h3⟩
        · obtain ⟨g, h0, e2, h3⟩ := he hp; exact ⟨g, Nat.le_trans hl h0, e2, RVL.keep hl hk h0 h3⟩
      · rw [if_neg h2] at h ⊢
        by_cases h3 : k = 3
        · rw [if_pos h3] at h ⊢
          obtain ⟨a, e1, hb⟩ := h
          refine ⟨a, e1, fun hp => ?_⟩
          obtain ⟨g, h0, e2, h3⟩ := hb hp; exact ⟨g, Nat.le_trans hl h0, e2, RVL.keep hl hk h0 h3⟩
        · rw [if_neg h3] at h ⊢; exact h
theorem RVL.keep {lo lo' : Nat} {w w' : World} (hl : lo' ≤ lo) (hk : KeepsF lo w w') : ∀ {xs : List STree} {g o : Nat}, lo ≤ g → RVL lo w g o xs → RVL lo' w' g o xs
  | [], _, _, _, _ => trivial
  | x :: xs, g, o, hg, h => by
    obtain ⟨⟨u, hc, hv⟩, hr⟩ := h
    exact ⟨⟨u, hk _ _ hg hc, RV.keep hl hk hv⟩, RVL.keep hl hk hg hr⟩
end
theorem RVL.at {lo : Nat} {w : World} : ∀ {xs : List STree} {g o : Nat}, RVL lo w g o xs → ∀ i (h : i < xs.length), ∃ u, w.cell? ⟨g, o + i, none⟩ = some u ∧ RV lo w xs[i] u
  | [], _, _, _, i, h => absurd h (by simp)
  | x :: xs, g, o, h, 0, _ => h.1
  | x :: xs, g, o, h, i + 1, hi => by
    have := RVL.at h.2 i (by simpa using hi)
    rw [show o + 1 + i = o + (i + 1) from by omega] at this
    exact this
theorem RVL.of {lo : Nat} {w : World} : ∀ {xs : List STree} {g o : Nat}, (∀ i (h : i < xs.length), ∃ u, w.cell? ⟨g, o + i, none⟩ = some u ∧ RV lo w xs[i] u) → RVL lo w g o xs
  | [], _, _, _ => trivial
  | x :: xs, g, o, h => ⟨h 0 (by simp), RVL.of fun i hi => by
    have := h (i + 1) (by simpa using hi)
    rw [show o + (i + 1) = o + 1 + i from by omega] at this
    exact this⟩
/-- A list of right statements. -/
def LV (lo : Nat) (w : World) (xs : List STree) (v : Value) : Prop := ∃ a, v = .slice a xs.length xs.length ∧ (0 < xs.length → ∃ g, lo ≤ g ∧ a = some ⟨g, 0, none⟩ ∧ RVL lo w g 0 xs)
theorem LV.keep {lo lo' : Nat} {w w' : World} (hl : lo' ≤ lo) (hk : KeepsF lo w w') {xs : List STree} {v : Value} (h : LV lo w xs v) : LV lo' w' xs v := by
  obtain ⟨a, e, h⟩ := h
  refine ⟨a, e, fun hp => ?_⟩
  obtain ⟨g, h0, e2, h3⟩ := h hp
  exact ⟨g, Nat.le_trans hl h0, e2, h3.keep hl hk h0⟩
theorem RV.iface {lo : Nat} {w : World} {x : STree} {v : Value} (h : RV lo w x v) : ∃ ty pv, v = .iface ty pv := by
  cases x with
  | node k s t b e =>
    unfold RV at h
    split at h
    · exact ⟨_, _, h⟩
    · split at h
      · obtain ⟨_, _, h, _⟩ := h; exact ⟨_, _, h⟩
      · split at h
        · obtain ⟨_, h, _⟩ := h; exact ⟨_, _, h⟩
        · split at h
          · exact ⟨_, _, h⟩
          · exact ⟨_, _, h⟩
theorem implWord_any (k : Int) (w : World) : Calls Try.prog 137 #[.int .i64 k] w fun e w' => e = .returned (.string (wordB k)) ∧ w = w' := by
  by_cases h : k = 4 ∨ k = 5 ∨ k = 6 ∨ k = 7
  · rcases h with rfl | rfl | rfl | rfl
    all_goals
      go_enter Try.func137, Try.ntmps137
      go_wp2
      go_ret
      exact ⟨rfl, rfl⟩
  · have e4 := ne_true (k := k) (x := 4) (by omega)
    have e5 := ne_true (k := k) (x := 5) (by omega)
    have e6 := ne_true (k := k) (x := 6) (by omega)
    have e7 := ne_true (k := k) (x := 7) (by omega)
    have HS : Hid (wordB k = ⟨#[]⟩) := by
      show _ = _
      unfold wordB
      rw [if_neg (by omega), if_neg (by omega), if_neg (by omega), if_neg (by omega)]
    clear h
    go_enter Try.func137, Try.ntmps137
    go_wp2
    go_ret
    exact ⟨by rw [HS.out]; rfl, rfl⟩
theorem wordB_none {k : Int} (h : ¬ (k = 4 ∨ k = 5 ∨ k = 6 ∨ k = 7)) : wordB k = ⟨#[]⟩ := by
  unfold wordB
  rw [if_neg (by omega), if_neg (by omega), if_neg (by omega), if_neg (by omega)]
def noLists (b e : List STree) : Bool := decide (b.length = 0) && decide (e.length = 0)
theorem implNoLists_any (x : STree) (ta ba ea : Option Addr) (tc bc ec : Nat) (w : World) :
    Calls Try.prog 135 #[.agg #[.int .i64 x.kind, .string x.name, .int .i64 x.term.kind, .int .i64 x.term.num, .string x.term.name, .slice ta x.term.kids.length tc, .slice ba x.body.length bc, .slice ea x.els.length ec]] w fun e w' => e = .returned (.bool (noLists x.body x.els)) ∧ Below w.heap.size w w' := by
  have HR : Hid (noLists x.body x.els = (decide (x.body.length = 0) && decide (x.els.length = 0))) := rfl
  by_cases h1 : x.body.length = 0
  · have hq : ((x.body.length : Int) == 0) = true := by rw [h1]; rfl
    by_cases h2 : x.els.length = 0
    · have hq2 : ((x.els.length : Int) == 0) = true := by rw [h2]; rfl
      have HF : Hid (noLists x.body x.els = true) := by show _ = _; rw [HR.out]; simp [h1, h2]
      clear h1 h2
      go_enter Try.func135, Try.ntmps135
      go_wp2
      go_ret
      exact ⟨ret_b (by rw [HF.out]), (Below.refl _ _).alloc (Nat.le_refl _) _⟩
    · have hq2 : ((x.els.length : Int) == 0) = false := ne_true (by omega)
      have HF : Hid (noLists x.body x.els = false) := by show _ = _; rw [HR.out]; simp [h2]
      clear h1 h2
      go_enter Try.func135, Try.ntmps135
      go_wp2
      go_ret
      exact ⟨ret_b (by rw [HF.out]), (Below.refl _ _).alloc (Nat.le_refl _) _⟩
  · have hq : ((x.body.length : Int) == 0) = false := ne_true (by omega)
    have HF : Hid (noLists x.body x.els = false) := by show _ = _; rw [HR.out]; simp [h1]
    clear h1
    go_enter Try.func135, Try.ntmps135
    go_wp2
    go_ret
    exact ⟨ret_b (by rw [HF.out]), (Below.refl _ _).alloc (Nat.le_refl _) _⟩
/-- A statement that lies both ways. -/
structure SB (w : World) (x : STree) (v : Value) : Prop where
  l : SLies w x v
  f : SLiesF w x v
theorem SB.below {w w' : World} {x : STree} {v : Value} (h : SB w x v) (hb : Below w.heap.size w w') : SB w' x v := ⟨h.l.keep (keeps_below hb), h.f.keep (keepF_below hb)⟩
structure SBL (w : World) (xs : List STree) (v : Value) : Prop where
  l : SListAt w v xs
  f : SListF w v xs
theorem SBL.below {w w' : World} {xs : List STree} {v : Value} (h : SBL w xs v) (hb : Below w.heap.size w w') : SBL w' xs v := ⟨h.l.keep (keeps_below hb), h.f.keep (keepF_below hb)⟩
theorem SB.parts {w : World} {x : STree} {v : Value} (h : SB w x v) : InI x.kind ∧ x.name.size ≤ 9223372036854775807 ∧ ∃ ta tc ba bc ea ec, v = .agg #[.int .i64 x.kind, .string x.name, .int .i64 x.term.kind, .int .i64 x.term.num, .string x.term.name, .slice ta x.term.kids.length tc, .slice ba x.body.length bc, .slice ea x.els.length ec] ∧ Lies w x.term (.agg #[.int .i64 x.term.kind, .int .i64 x.term.num, .string x.term.name, .slice ta x.term.kids.length tc]) ∧ LiesF w x.term (.agg #[.int .i64 x.term.kind, .int .i64 x.term.num, .string x.term.name, .slice ta x.term.kids.length tc]) ∧ SBL w x.body (.slice ba x.body.length bc) ∧ SBL w x.els (.slice ea x.els.length ec) := by
  obtain ⟨h1, h2, _, _, ta, tc, ba, bc, ea, ec, rfl, h5, _, _⟩ := h.l.parts
  have hl := h.l.lists
  have hf := h.f.lists
  exact ⟨h1, h2, ta, tc, ba, bc, ea, ec, rfl, h5, hf.1, ⟨hl.2.1, hf.2.1⟩, ⟨hl.2.2, hf.2.2⟩⟩
theorem SBL.at {w : World} {xs : List STree} {a : Option Addr} {n c : Nat} (h : SBL w xs (.slice a n c)) (i : Nat) (hi : i < xs.length) : ∃ g o ta tc ba bc ea ec, a = some ⟨g, o, none⟩ ∧ w.cell? ⟨g, o + i * 8, none⟩ = some (.int .i64 xs[i].kind) ∧ w.cell? ⟨g, o + i * 8 + 1, none⟩ = some (.string xs[i].name) ∧ w.cell? ⟨g, o + i * 8 + 2, none⟩ = some (.int .i64 xs[i].term.kind) ∧ w.cell? ⟨g, o + i * 8 + 3, none⟩ = some (.int .i64 xs[i].term.num) ∧ w.cell? ⟨g, o + i * 8 + 4, none⟩ = some (.string xs[i].term.name) ∧ w.cell? ⟨g, o + i * 8 + 5, none⟩ = some (.slice ta xs[i].term.kids.length tc) ∧ w.cell? ⟨g, o + i * 8 + 6, none⟩ = some (.slice ba xs[i].body.length bc) ∧ w.cell? ⟨g, o + i * 8 + 7, none⟩ = some (.slice ea xs[i].els.length ec) ∧ SB w xs[i] (.agg #[.int .i64 xs[i].kind, .string xs[i].name, .int .i64 xs[i].term.kind, .int .i64 xs[i].term.num, .string xs[i].term.name, .slice ta xs[i].term.kids.length tc, .slice ba xs[i].body.length bc, .slice ea xs[i].els.length ec]) := by
  obtain ⟨_, a1, c1, e1, hl⟩ := h.l
  obtain ⟨_, a2, c2, e2, hf⟩ := h.f
  simp at e1 e2
  obtain ⟨rfl, _, rfl⟩ := e1
  obtain ⟨rfl, _, rfl⟩ := e2
  obtain ⟨g, o, e3, l1⟩ := hl (by omega)
  obtain ⟨g', o', e4, _, l2⟩ := hf (by omega)
  rw [e3] at e4
  simp at e4
  obtain ⟨rfl, rfl⟩ := e4
  obtain ⟨ta, tc, ba, bc, ea, ec, c0, c1, c2, c3, c4, c5, c6, c7, hx⟩ := l1.at i hi
  obtain ⟨ua, uc, da, dc, fa, fc, d0, d1, d2, d3, d4, d5, d6, d7, hy⟩ := l2.at i hi
  rw [c5] at d5
  rw [c6] at d6
  rw [c7] at d7
  simp at d5 d6 d7
  obtain ⟨rfl, rfl⟩ := d5
  obtain ⟨rfl, rfl⟩ := d6
  obtain ⟨rfl, rfl⟩ := d7
  exact ⟨g, o, ta, tc, ba, bc, ea, ec, e3, c0, c1, c2, c3, c4, c5, c6, c7, hx, hy⟩
end Go.Proofs.Ytmhhghdfgdhljaa.Trm
