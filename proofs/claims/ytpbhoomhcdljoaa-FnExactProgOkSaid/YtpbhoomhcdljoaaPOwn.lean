/- Procedures and programs that the call owns: their rows, and the bodies in rows of their own. Without conditions. -/
import Derived.Test.YtpbhoomhcdljoaaChecked
import Derived.Test.YtpbhoomhcdljoaaPTrees
import Derived.Test.YtpbhoomhcdljoaaSOwn
namespace Go.Proofs.Ytpbhoomhcdljoaa.Trm
open Go.RowKit Own
/-- A procedure whose body lies in rows of the call's own, from lo on. -/
def PrOwn (w : World) (lo : Nat) (p : PrT) (v : Value) : Prop := p.name.size ≤ 9223372036854775807 ∧ ∃ a c l h, v = .agg #[.string p.name, .slice a p.body.length c] ∧ lo ≤ l ∧ h ≤ w.heap.size ∧ SOwnsK w l h p.body (.slice a p.body.length c)
def PrOwnL (w : World) (lo : Nat) : List PrT → List Value → Prop
  | [], cs => cs = []
  | p :: ps, cs => ∃ a c rest, cs = .string p.name :: .slice a p.body.length c :: rest ∧ PrOwn w lo p (.agg #[.string p.name, .slice a p.body.length c]) ∧ PrOwnL w lo ps rest
/-- What lies from lo on stays. -/
def Stays (lo : Nat) (w w' : World) : Prop := w.heap.size ≤ w'.heap.size ∧ ∀ b, lo ≤ b → b < w.heap.size → w'.heap[b]? = w.heap[b]?
theorem Stays.of {lo : Nat} {w w' : World} (h : Below w.heap.size w w') : Stays lo w w' := ⟨h.size, fun b _ hb => h.block b hb⟩
theorem Stays.trans {lo : Nat} {w w' w'' : World} (h : Stays lo w w') (h2 : Stays lo w' w'') : Stays lo w w'' := ⟨Nat.le_trans h.1 h2.1, fun b h3 h4 => (h2.2 b h3 (Nat.lt_of_lt_of_le h4 h.1)).trans (h.2 b h3 h4)⟩
theorem Stays.set {lo : Nat} {w : World} {q i : Nat} {v : Value} (h : q < lo) : Stays lo w (w.setCell ⟨q, i, none⟩ v) := ⟨by simp, fun b h1 _ => heap_setCell_other w _ b v (by show b ≠ q; omega)⟩
theorem Stays.mono {lo lo' : Nat} {w w' : World} (h : Stays lo w w') (hl : lo ≤ lo') : Stays lo' w w' := ⟨h.1, fun b h1 h2 => h.2 b (Nat.le_trans hl h1) h2⟩
theorem PrOwn.keep {w w' : World} {lo : Nat} {p : PrT} {v : Value} (h : PrOwn w lo p v) (hs : Stays lo w w') : PrOwn w' lo p v := by
  obtain ⟨h0, a, c, l, hh, rfl, h1, h2, h3⟩ := h
  exact ⟨h0, a, c, l, hh, rfl, h1, Nat.le_trans h2 hs.1, h3.same (fun b g1 g2 => hs.2 b (Nat.le_trans h1 g1) (Nat.lt_of_lt_of_le g2 h2))⟩
theorem PrOwn.wide {w : World} {lo lo' : Nat} {p : PrT} {v : Value} (h : PrOwn w lo p v) (hl : lo' ≤ lo) : PrOwn w lo' p v := by
  obtain ⟨h0, a, c, l, hh, rfl, h1, h2, h3⟩ := h
  exact ⟨h0, a, c, l, hh, rfl, Nat.le_trans hl h1, h2, h3⟩
theorem PrOwnL.keep {w w' : World} {lo : Nat} (hs : Stays lo w w') : ∀ {ps : List PrT} {cs : List Value}, PrOwnL w lo ps cs → PrOwnL w' lo ps cs
  | [], _, h => h
  | _ :: _, _, h => by
    obtain ⟨a, c, rest, e, h1, h2⟩ := h
    exact ⟨a, c, rest, e, h1.keep hs, PrOwnL.keep hs h2⟩
theorem PrOwnL.wide {w : World} {lo lo' : Nat} (hl : lo' ≤ lo) : ∀ {ps : List PrT} {cs : List Value}, PrOwnL w lo ps cs → PrOwnL w lo' ps cs
  | [], _, h => h
  | _ :: _, _, h => by
    obtain ⟨a, c, rest, e, h1, h2⟩ := h
    exact ⟨a, c, rest, e, h1.wide hl, PrOwnL.wide hl h2⟩
theorem PrOwnL.snoc {w : World} {lo : Nat} {p : PrT} {a : Option Addr} {c : Nat} (hp : PrOwn w lo p (.agg #[.string p.name, .slice a p.body.length c])) : ∀ {ps : List PrT} {cs : List Value}, PrOwnL w lo ps cs → PrOwnL w lo (ps ++ [p]) (cs ++ [.string p.name, .slice a p.body.length c])
  | [], cs, h => by
    have h : cs = [] := h
    subst h
    exact ⟨a, c, [], rfl, hp, rfl⟩
  | q :: ps, cs, h => by
    obtain ⟨a2, c2, rest, rfl, h1, h2⟩ := h
    exact ⟨a2, c2, rest ++ [.string p.name, .slice a p.body.length c], rfl, h1, PrOwnL.snoc hp h2⟩
theorem PrOwnL.at {w : World} {lo : Nat} : ∀ {ps : List PrT} {cs : List Value}, PrOwnL w lo ps cs → ∀ i (h : i < ps.length), ∃ a c, cs[i * 2]? = some (.string ps[i].name) ∧ cs[i * 2 + 1]? = some (.slice a ps[i].body.length c) ∧ PrOwn w lo ps[i] (.agg #[.string ps[i].name, .slice a ps[i].body.length c])
  | [], _, _, i, h => absurd h (by simp)
  | p :: ps, cs, h, 0, _ => by
    obtain ⟨a, c, rest, rfl, h1, _⟩ := h
    exact ⟨a, c, rfl, rfl, h1⟩
  | p :: ps, cs, h, i + 1, hi => by
    obtain ⟨a, c, rest, rfl, _, h2⟩ := h
    have := PrOwnL.at h2 i (by simpa using hi)
    rw [show (i + 1) * 2 = i * 2 + 2 from by omega]
    simpa using this
/-- A list of procedures in a row of the call's own. -/
def PrsOwn (w : World) (base : Nat) (ps : List PrT) (v : Value) : Prop := ∃ cs, w.ownsRow base 47 2 v ps.length cs ∧ PrOwnL w base ps cs
theorem PrsOwn.keep {w w' : World} {base : Nat} {ps : List PrT} {v : Value} (h : PrsOwn w base ps v) (hs : Stays base w w') : PrsOwn w' base ps v := by
  obtain ⟨cs, h1, h2⟩ := h
  exact ⟨cs, row_same h1 (fun b hb => hs.2 b (h1.lt b hb).1 (h1.lt b hb).2), h2.keep hs⟩
/-- A procedure's cells in a row, its body of the call's own. -/
def PrEl (w : World) (g o : Nat) (p : PrT) : Prop := ∃ a c l h, p.name.size ≤ 9223372036854775807 ∧ w.cell? ⟨g, o, none⟩ = some (.string p.name) ∧ w.cell? ⟨g, o + 1, none⟩ = some (.slice a p.body.length c) ∧ h ≤ w.heap.size ∧ SOwnsK w l h p.body (.slice a p.body.length c)
theorem PrEl.below {w w' : World} {g o : Nat} {p : PrT} (h : PrEl w g o p) (hb : Below w.heap.size w w') : PrEl w' g o p := by
  obtain ⟨a, c, l, hh, h0, h1, h2, h3, h4⟩ := h
  exact ⟨a, c, l, hh, h0, keeps_below hb _ _ h1, keeps_below hb _ _ h2, Nat.le_trans h3 hb.size, h4.same (fun b _ g2 => hb.block b (Nat.lt_of_lt_of_le g2 h3))⟩
theorem PrEl.elem {w : World} {g o : Nat} {p : PrT} (h : PrEl w g o p) : PrElem w g o p := by
  obtain ⟨a, c, l, hh, h0, h1, h2, _, h4⟩ := h
  exact ⟨h0, a, c, h1, h2, h4.list⟩
def PrsFree (w : World) (v : Value) (ps : List PrT) : Prop := ps.length ≤ 9223372036854775807 ∧ ∃ a cap, v = .slice a ps.length cap ∧ (0 < ps.length → ∃ g, a = some ⟨g, 0, none⟩ ∧ ∀ i (h : i < ps.length), PrEl w g (i * 2) ps[i])
theorem PrsFree.below {w w' : World} {v : Value} {ps : List PrT} (h : PrsFree w v ps) (hb : Below w.heap.size w w') : PrsFree w' v ps := by
  obtain ⟨h1, a, cap, rfl, h2⟩ := h
  refine ⟨h1, a, cap, rfl, fun hp => ?_⟩
  obtain ⟨g, rfl, h3⟩ := h2 hp
  exact ⟨g, rfl, fun i hi => (h3 i hi).below hb⟩
theorem PrsFree.at {w : World} {v : Value} {ps : List PrT} (h : PrsFree w v ps) : PrsAt w v ps := by
  obtain ⟨h1, a, cap, rfl, h2⟩ := h
  refine ⟨h1, a, cap, rfl, fun hp => ?_⟩
  obtain ⟨g, rfl, h3⟩ := h2 hp
  exact ⟨g, 0, rfl, fun i hi => by rw [Nat.zero_add]; exact (h3 i hi).elem⟩
theorem PrsOwn.free {w : World} {base : Nat} {ps : List PrT} {v : Value} (h : PrsOwn w base ps v) : PrsFree w v ps := by
  obtain ⟨cs, h1, h2⟩ := h
  have hm := row_small h1
  unfold maxLen at hm
  obtain ⟨a, c, rfl, ha⟩ := row_shape h1
  refine ⟨by omega, a, c, rfl, fun hp => ?_⟩
  obtain ⟨g, rfl⟩ := ha hp
  refine ⟨g, rfl, fun i hi => ?_⟩
  obtain ⟨ba, bc, e0, e1, hn, a2, c2, l, hh, e, _, h3, h4⟩ := h2.at i hi
  simp at e
  obtain ⟨rfl, rfl⟩ := e
  exact ⟨ba, bc, l, hh, hn, (h1.cellAt (i * 2) (by omega)).trans e0, (h1.cellAt (i * 2 + 1) (by omega)).trans e1, h3, h4⟩
/-- A program whose procedures are of the call's own. -/
def POwn (w : World) (x : PTree) (v : Value) : Prop := ∃ ga gc la lc pa pc, v = .agg #[.slice ga x.globals.length gc, .slice la x.locks.length lc, .slice pa x.procs.length pc] ∧ NamesAt w x.globals (.slice ga x.globals.length gc) ∧ NamesAt w x.locks (.slice la x.locks.length lc) ∧ PrsFree w (.slice pa x.procs.length pc) x.procs
theorem POwn.below {w w' : World} {x : PTree} {v : Value} (h : POwn w x v) (hb : Below w.heap.size w w') : POwn w' x v := by
  obtain ⟨ga, gc, la, lc, pa, pc, rfl, h1, h2, h3⟩ := h
  exact ⟨ga, gc, la, lc, pa, pc, rfl, h1.keep (keeps_below hb), h2.keep (keeps_below hb), h3.below hb⟩
theorem POwn.lies {w : World} {x : PTree} {v : Value} (h : POwn w x v) : PLies w x v := by
  obtain ⟨ga, gc, la, lc, pa, pc, rfl, h1, h2, h3⟩ := h
  exact ⟨ga, gc, la, lc, pa, pc, rfl, h1, h2, h3.at⟩
theorem PLies.shape {w : World} {x : PTree} {v : Value} (h : PLies w x v) : ∃ ga gc la lc pa pc, v = .agg #[.slice ga x.globals.length gc, .slice la x.locks.length lc, .slice pa x.procs.length pc] := by
  obtain ⟨ga, gc, la, lc, pa, pc, e, _⟩ := h
  exact ⟨ga, gc, la, lc, pa, pc, e⟩
end Go.Proofs.Ytpbhoomhcdljoaa.Trm
