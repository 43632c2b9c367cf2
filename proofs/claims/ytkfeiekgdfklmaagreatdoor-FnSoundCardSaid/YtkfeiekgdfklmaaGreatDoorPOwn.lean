/- Procedures and programs that the call owns: their rows, and the bodies in rows of their own. Without conditions. -/
import Derived.Test.YtkfeiekgdfklmaaGreatDoorChecked
import Derived.Test.YtkfeiekgdfklmaaGreatDoorPTrees
import Derived.Test.YtkfeiekgdfklmaaGreatDoorSOwn
import Derived.Test.YtkfeiekgdfklmaaGreatDoorFreeX
import Derived.Test.YtkfeiekgdfklmaaGreatDoorStrCells
namespace Go.Proofs.YtkfeiekgdfklmaaGreatDoor.Trm
open Go.RowKit Own
/-- A procedure whose body lies in rows of the call's own, from lo on. -/
def PrOwn (w : World) (lo : Nat) (p : PrT) (v : Value) : Prop := p.name.size ≤ 9223372036854775807 ∧ ∃ a c l h, v = .agg #[.string p.name, .slice a p.body.length c] ∧ lo ≤ l ∧ h ≤ w.heap.size ∧ SOwnsK w l h p.body (.slice a p.body.length c)
def PrOwnL (w : World) (lo : Nat) : List PrT → List Value → Prop
  | [], cs => cs = []
  | p :: ps, cs => ∃ a c rest, cs = .string p.name :: .slice a p.body.length c :: rest ∧ PrOwn w lo p (.agg #[.string p.name, .slice a p.body.length c]) ∧ PrOwnL w lo ps rest
/-- What lies from lo on stays. -/
def Stays (lo : Nat) (w w' : World) : Prop := w.heap.size ≤ w'.heap.size ∧ ∀ b, lo ≤ b → b < w.heap.size → w'.heap[b]? = w.heap[b]?
theorem Stays.of {lo : Nat} {w w' : World} (h : Below w.heap.size w w') : Stays lo w w' := ⟨h.size, fun b _ hb => h.block b hb⟩
theorem Stays.trans {lo : Nat} {w w' w'' : World} (h : Stays lo w w') (h2 : Stays lo w' w'') : Stays lo w w'' := ⟨Nat.le_trans h.1 h2.1, fun b h3 h4 => (h2.2 b h3 (Nat.lt_of_lt_of_le h4 h.1)).trans (h.2 b h3 h4)⟩
theorem Stays.set {lo : Nat} {w : World} {q i : Nat} {v : Value} (h : q < lo) : Stays lo w (w.setCell ⟨q, i, none⟩ v) := ⟨by simp, fun b h1 _ => heap_setCell_other w _ b v (by show b ≠ q; omega)⟩
theorem Stays.mono {lo lo' : Nat} {w w' : World} (h : Stays lo w w') (hl : lo ≤ lo') : Stays lo' w w' := ⟨h.1, fun b h1 h2 => h.2 b (Nat.le_trans hl h1) h2⟩
theorem PrOwn.keep {w w' : World} {lo : Nat} {p : PrT} {v : Value} (h : PrOwn w lo p v) (hs : Stays lo w w') : PrOwn w' lo p v := by
  obtain ⟨h0, a, c, l, hh, rfl, h1, h2, h3⟩ := h
  exact ⟨h0, a, c, l, hh, rfl, h1, Nat.le_trans h2 hs.1, h3.same (fun b g1 g2 => hs.2 b (Nat.le_trans h1 g1) (Nat.lt_of_lt_of_le g2 h2))⟩
theorem PrOwn.wide {w : World} {lo lo' : Nat} {p : PrT} {v : Value} (h : PrOwn w lo p v) (hl : lo' ≤ lo) : PrOwn w lo' p v := by
  obtain ⟨h0, a, c, l, hh, rfl, h1, h2, h3⟩ := h
  exact ⟨h0, a, c, l, hh, rfl, Nat.le_trans hl h1, h2, h3⟩
theorem PrOwnL.keep {w w' : World} {lo : Nat} (hs : Stays lo w w') : ∀ {ps : List PrT} {cs : List Value}, PrOwnL w lo ps cs → PrOwnL w' lo ps cs
  | [], _, h => h
  | _ :: _, _, h => by
    obtain ⟨a, c, rest, e, h1, h2⟩ := h
    exact ⟨a, c, rest, e, h1.keep hs, PrOwnL.keep hs h2⟩
theorem PrOwnL.wide {w : World} {lo lo' : Nat} (hl : lo' ≤ lo) : ∀ {ps : List PrT} {cs : List Value}, PrOwnL w lo ps cs → PrOwnL w lo' ps cs
  | [], _, h => h
  | _ :: _, _, h => by
    obtain ⟨a, c, rest, e, h1, h2⟩ := h
    exact ⟨a, c, rest, e, h1.wide hl, PrOwnL.wide hl h2⟩
theorem PrOwnL.snoc {w : World} {lo : Nat} {p : PrT} {a : Option Addr} {c : Nat} (hp : PrOwn w lo p (.agg #[.string p.name, .slice a p.body.length c])) : ∀ {ps : List PrT} {cs : List Value}, PrOwnL w lo ps cs → PrOwnL w lo (ps ++ [p]) (cs ++ [.string p.name, .slice a p.body.length c])
  | [], cs, h => by
    have h : cs = [] := h
    subst h
    exact ⟨a, c, [], rfl, hp, rfl⟩
  | q :: ps, cs, h => by
    obtain ⟨a2, c2, rest, rfl, h1, h2⟩ := h
    exact ⟨a2, c2, rest ++ [.string p.name, .slice a p.body.length c], rfl, h1, PrOwnL.snoc hp h2⟩
theorem PrOwnL.at {w : World} {lo : Nat} : ∀ {ps : List PrT} {cs : List Value}, PrOwnL w lo ps cs → ∀ i (h : i < ps.length), ∃ a c, cs[i * 2]? = some (.string ps[i].name) ∧ cs[i * 2 + 1]? = some (.slice a ps[i].body.length c) ∧ PrOwn w lo ps[i] (.agg #[.string ps[i].name, .slice a ps[i].body.length c])
  | [], _, _, i, h => absurd h (by simp)
  | p :: ps, cs, h, 0, _ => by
    obtain ⟨a, c, rest, rfl, h1, _⟩ := h
    exact ⟨a, c, rfl, rfl, h1⟩
  | p :: ps, cs, h, i + 1, hi => by
    obtain ⟨a, c, rest, rfl, _, h2⟩ := h
    have := PrOwnL.at h2 i (by simpa using hi)
    rw [show (i + 1) * 2 = i * 2 + 2 from by omega]
    simpa using this
/-- Procedures one behind the other, each body in a range of blocks of its own. -/
def PrI (w : World) (lo hi : Nat) : List PrT → List Value → Prop
  | [], cs => cs = [] ∧ lo ≤ hi
  | p :: ps, cs => ∃ a c rest mid, cs = .string p.name :: .slice a p.body.length c :: rest ∧ p.name.size ≤ 9223372036854775807 ∧ SOwnsK w lo mid p.body (.slice a p.body.length c) ∧ PrI w mid hi ps rest
theorem PrI.le {w : World} : ∀ {ps : List PrT} {lo hi : Nat} {cs : List Value}, PrI w lo hi ps cs → lo ≤ hi
  | [], _, _, _, h => h.2
  | _ :: _, _, _, _, h => by
    obtain ⟨_, _, _, _, _, _, h1, h2⟩ := h
    exact Nat.le_trans h1.le (PrI.le h2)
theorem PrI.same {w w' : World} : ∀ {ps : List PrT} {lo hi : Nat} {cs : List Value}, Same lo hi w w' → PrI w lo hi ps cs → PrI w' lo hi ps cs
  | [], _, _, _, _, h => h
  | _ :: _, lo, hi, _, hs, h => by
    obtain ⟨a, c, rest, mid, e, hn, h1, h2⟩ := h
    have l1 := h1.le
    have l2 := h2.le
    exact ⟨a, c, rest, mid, e, hn, h1.same (fun b g1 g2 => hs b g1 (by omega)), PrI.same (fun b g1 g2 => hs b (by omega) g2) h2⟩
theorem PrI.wideR {w : World} : ∀ {ps : List PrT} {lo hi hi' : Nat} {cs : List Value}, hi ≤ hi' → PrI w lo hi ps cs → PrI w lo hi' ps cs
  | [], _, _, _, _, hh, h => ⟨h.1, Nat.le_trans h.2 hh⟩
  | _ :: _, _, _, _, _, hh, h => by
    obtain ⟨a, c, rest, mid, e, hn, h1, h2⟩ := h
    exact ⟨a, c, rest, mid, e, hn, h1, PrI.wideR hh h2⟩
theorem PrI.snoc {w : World} : ∀ {ps : List PrT} {lo mid hi : Nat} {cs : List Value} {p : PrT} {a : Option Addr} {c : Nat}, PrI w lo mid ps cs → p.name.size ≤ 9223372036854775807 → SOwnsK w mid hi p.body (.slice a p.body.length c) → PrI w lo hi (ps ++ [p]) (cs ++ [.string p.name, .slice a p.body.length c])
  | [], lo, mid, hi, cs, p, a, c, h, hn, hp => by
    obtain ⟨rfl, hl⟩ := h
    exact ⟨a, c, [], hi, rfl, hn, hp.wide hl (Nat.le_refl _), rfl, Nat.le_refl _⟩
  | q :: ps, lo, mid, hi, cs, p, a, c, h, hn, hp => by
    obtain ⟨a2, c2, rest, m, rfl, hn2, h1, h2⟩ := h
    exact ⟨a2, c2, rest ++ [.string p.name, .slice a p.body.length c], m, rfl, hn2, h1, PrI.snoc h2 hn hp⟩
theorem PrI.at {w : World} : ∀ {ps : List PrT} {lo hi : Nat} {cs : List Value}, PrI w lo hi ps cs → ∀ i (h : i < ps.length), ∃ a c l m, cs[i * 2]? = some (.string ps[i].name) ∧ cs[i * 2 + 1]? = some (.slice a ps[i].body.length c) ∧ ps[i].name.size ≤ 9223372036854775807 ∧ lo ≤ l ∧ m ≤ hi ∧ SOwnsK w l m ps[i].body (.slice a ps[i].body.length c)
  | [], _, _, _, _, i, h => absurd h (by simp)
  | p :: ps, lo, hi, cs, h, 0, _ => by
    obtain ⟨a, c, rest, mid, rfl, hn, h1, h2⟩ := h
    exact ⟨a, c, lo, mid, rfl, rfl, hn, Nat.le_refl _, h2.le, h1⟩
  | p :: ps, lo, hi, cs, h, i + 1, hi' => by
    obtain ⟨a, c, rest, mid, rfl, hn, h1, h2⟩ := h
    obtain ⟨a2, c2, l, m, e0, e1, e2, e3, e4, e5⟩ := PrI.at h2 i (by simpa using hi')
    have := h1.le
    refine ⟨a2, c2, l, m, ?_, ?_, by simpa using e2, by omega, e4, by simpa using e5⟩
    · rw [show (i + 1) * 2 = i * 2 + 2 from by omega]; simpa using e0
    · rw [show (i + 1) * 2 = i * 2 + 2 from by omega]; simpa using e1
/-- A list of procedures in a row of the call's own, the bodies behind it. -/
def PrsOwn (w : World) (base : Nat) (ps : List PrT) (v : Value) : Prop := ∃ cs m hi, w.ownsRow base 31 2 v ps.length cs ∧ base ≤ m ∧ (∀ b, v.ownBlock = some b → b < m) ∧ hi ≤ w.heap.size ∧ PrI w m hi ps cs
theorem PrsOwn.keep {w w' : World} {base : Nat} {ps : List PrT} {v : Value} (h : PrsOwn w base ps v) (hs : Stays base w w') : PrsOwn w' base ps v := by
  obtain ⟨cs, m, hi, h1, h2, h3, h4, h5⟩ := h
  exact ⟨cs, m, hi, row_same h1 (fun b hb => hs.2 b (h1.lt b hb).1 (h1.lt b hb).2), h2, h3, Nat.le_trans h4 hs.1, h5.same (fun b g1 g2 => hs.2 b (by omega) (by omega))⟩
/-- A procedure's cells in a row, its body in rows that are not frozen. -/
def PrEl (w : World) (g o : Nat) (p : PrT) : Prop := ∃ a c, p.name.size ≤ 9223372036854775807 ∧ w.cell? ⟨g, o, none⟩ = some (.string p.name) ∧ w.cell? ⟨g, o + 1, none⟩ = some (.slice a p.body.length c) ∧ SListAt w (.slice a p.body.length c) p.body ∧ SListF w (.slice a p.body.length c) p.body
theorem PrEl.below {w w' : World} {g o : Nat} {p : PrT} (h : PrEl w g o p) (hb : Below w.heap.size w w') : PrEl w' g o p := by
  obtain ⟨a, c, h0, h1, h2, h3, h4⟩ := h
  exact ⟨a, c, h0, keeps_below hb _ _ h1, keeps_below hb _ _ h2, h3.keep (keeps_below hb), h4.keep (keepF_below hb)⟩
theorem PrEl.elem {w : World} {g o : Nat} {p : PrT} (h : PrEl w g o p) : PrElem w g o p := by
  obtain ⟨a, c, h0, h1, h2, h3, _⟩ := h
  exact ⟨h0, a, c, h1, h2, h3⟩
def PrsFree (w : World) (v : Value) (ps : List PrT) : Prop := ps.length ≤ 9223372036854775807 ∧ ∃ a cap, v = .slice a ps.length cap ∧ (0 < ps.length → ∃ g, a = some ⟨g, 0, none⟩ ∧ ∀ i (h : i < ps.length), PrEl w g (i * 2) ps[i])
theorem PrsFree.below {w w' : World} {v : Value} {ps : List PrT} (h : PrsFree w v ps) (hb : Below w.heap.size w w') : PrsFree w' v ps := by
  obtain ⟨h1, a, cap, rfl, h2⟩ := h
  refine ⟨h1, a, cap, rfl, fun hp => ?_⟩
  obtain ⟨g, rfl, h3⟩ := h2 hp
  exact ⟨g, rfl, fun i hi => (h3 i hi).below hb⟩
theorem PrsFree.at {w : World} {v : Value} {ps : List PrT} (h : PrsFree w v ps) : PrsAt w v ps := by
  obtain ⟨h1, a, cap, rfl, h2⟩ := h
  refine ⟨h1, a, cap, rfl, fun hp => ?_⟩
  obtain ⟨g, rfl, h3⟩ := h2 hp
  exact ⟨g, 0, rfl, fun i hi => by rw [Nat.zero_add]; exact (h3 i hi).elem⟩
theorem PrsOwn.free {w : World} {base : Nat} {ps : List PrT} {v : Value} (h : PrsOwn w base ps v) : PrsFree w v ps := by
  obtain ⟨cs, m, hi, h1, _, _, _, h2⟩ := h
  have hm := row_small h1
  unfold maxLen at hm
  obtain ⟨a, c, rfl, ha⟩ := row_shape h1
  refine ⟨by omega, a, c, rfl, fun hp => ?_⟩
  obtain ⟨g, rfl⟩ := ha hp
  refine ⟨g, rfl, fun i hi => ?_⟩
  obtain ⟨ba, bc, l, m2, e0, e1, hn, _, _, h4⟩ := h2.at i hi
  exact ⟨ba, bc, hn, (h1.cellAt (i * 2) (by omega)).trans e0, (h1.cellAt (i * 2 + 1) (by omega)).trans e1, h4.list, h4.listF⟩
/-- A list's room: no less than it holds; none without memory. -/
def Room (a : Option Addr) (n c : Nat) : Prop := n ≤ c ∧ (a = none → c = 0)
theorem room_row {w : World} {base : Nat} {e : TypeId} {size n c : Nat} {a : Option Addr} {xs : List Value} (h : w.ownsRow base e size (.slice a n c) n xs) : Room a n c := by
  rcases h.2 with ⟨e, h0⟩ | ⟨g, cap, cur, e, _, _, hc, _⟩
  · simp at e
    obtain ⟨rfl, _, rfl⟩ := e
    exact ⟨by omega, fun _ => rfl⟩
  · simp at e
    obtain ⟨rfl, rfl⟩ := e
    exact ⟨hc, fun h => by cases h⟩
/-- A program whose procedures are of the call's own. -/
def POwn (w : World) (x : PTree) (v : Value) : Prop := ∃ ga gc la lc pa pc, v = .agg #[.slice ga x.globals.length gc, .slice la x.locks.length lc, .slice pa x.procs.length pc] ∧ NamesAt w x.globals (.slice ga x.globals.length gc) ∧ NamesAt w x.locks (.slice la x.locks.length lc) ∧ PrsFree w (.slice pa x.procs.length pc) x.procs ∧ Room ga x.globals.length gc ∧ Room la x.locks.length lc
theorem POwn.below {w w' : World} {x : PTree} {v : Value} (h : POwn w x v) (hb : Below w.heap.size w w') : POwn w' x v := by
  obtain ⟨ga, gc, la, lc, pa, pc, rfl, h1, h2, h3, h4⟩ := h
  exact ⟨ga, gc, la, lc, pa, pc, rfl, h1.keep (keeps_below hb), h2.keep (keeps_below hb), h3.below hb, h4⟩
theorem POwn.lies {w : World} {x : PTree} {v : Value} (h : POwn w x v) : PLies w x v := by
  obtain ⟨ga, gc, la, lc, pa, pc, rfl, h1, h2, h3, _⟩ := h
  exact ⟨ga, gc, la, lc, pa, pc, rfl, h1, h2, h3.at⟩
/-- Names in a row of the call's own. -/
def NRow (w : World) (base : Nat) (ss : List ByteArray) (v : Value) : Prop := w.ownsRow base 9 1 v ss.length (strV ss)
theorem NRow.keep {w w' : World} {base : Nat} {ss : List ByteArray} {v : Value} (h : NRow w base ss v) (hs : Stays base w w') : NRow w' base ss v := row_same h (fun b hb => hs.2 b (h.lt b hb).1 (h.lt b hb).2)
theorem NRow.shape {w : World} {base : Nat} {ss : List ByteArray} {v : Value} (h : NRow w base ss v) : ∃ a c, v = .slice a ss.length c := by
  obtain ⟨a, c, e, _⟩ := row_shape h
  exact ⟨a, c, e⟩
/-- A program whose rows are all of the call's own, from lo on, each behind the one ahead of it. -/
def PFull (w : World) (lo : Nat) (x : PTree) (v : Value) : Prop := ∃ ga gc la lc pa pc m1 m2, v = .agg #[.slice ga x.globals.length gc, .slice la x.locks.length lc, .slice pa x.procs.length pc] ∧ (∀ s, s ∈ x.globals → s.size ≤ 9223372036854775807) ∧ (∀ s, s ∈ x.locks → s.size ≤ 9223372036854775807) ∧
  NRow w lo x.globals (.slice ga x.globals.length gc) ∧ lo ≤ m1 ∧ (∀ b, (Value.slice ga x.globals.length gc).ownBlock = some b → b < m1) ∧ NRow w m1 x.locks (.slice la x.locks.length lc) ∧ m1 ≤ m2 ∧ (∀ b, (Value.slice la x.locks.length lc).ownBlock = some b → b < m2) ∧ PrsOwn w m2 x.procs (.slice pa x.procs.length pc)
theorem strsAt_own {w : World} {base : Nat} {ov : Value} {ss : List ByteArray} (h : NRow w base ss ov) : StrsAt w ss ov := by
  have hm := row_small h
  unfold maxLen at hm
  obtain ⟨a, c, rfl, ha⟩ := row_shape h
  refine ⟨a, c, rfl, by omega, fun hp => ?_⟩
  obtain ⟨g, rfl⟩ := ha hp
  exact ⟨g, 0, rfl, fun i hi => by rw [Nat.zero_add]; exact row_cell h i hi⟩
theorem PFull.own {w : World} {lo : Nat} {x : PTree} {v : Value} (h : PFull w lo x v) : POwn w x v := by
  obtain ⟨ga, gc, la, lc, pa, pc, m1, m2, rfl, n1, n2, h1, _, _, h2, _, _, h3⟩ := h
  exact ⟨ga, gc, la, lc, pa, pc, rfl, ⟨strsAt_own h1, n1⟩, ⟨strsAt_own h2, n2⟩, h3.free, room_row h1, room_row h2⟩
theorem PLies.shape {w : World} {x : PTree} {v : Value} (h : PLies w x v) : ∃ ga gc la lc pa pc, v = .agg #[.slice ga x.globals.length gc, .slice la x.locks.length lc, .slice pa x.procs.length pc] := by
  obtain ⟨ga, gc, la, lc, pa, pc, e, _⟩ := h
  exact ⟨ga, gc, la, lc, pa, pc, e⟩
end Go.Proofs.YtkfeiekgdfklmaaGreatDoor.Trm
