/- Drawn programs: their rows, and the bodies in rows apart. Without conditions. -/
import Derived.Test.YtkfeiekgdfklmaaGreatDoorDrawGuard
import Derived.Test.YtkfeiekgdfklmaaGreatDoorPOwn
namespace Go.Proofs.YtkfeiekgdfklmaaGreatDoor.Cur
open Go.RowKit Own Trm Lexs
/-- Procedures one behind the other, the body of each in a range of its own in which the row is not. -/
def DPs (w : World) (g : Option Nat) (lo hi : Nat) : List PrT → List Value → Prop
  | [], cs => cs = [] ∧ lo ≤ hi
  | p :: r, cs => ∃ (ba : Option Addr) (bc : Nat) (rest : List Value) (a b : Nat), cs = .string p.name :: .slice ba p.body.length bc :: rest ∧ p.name.size ≤ 9223372036854775807 ∧ lo ≤ a ∧ (∀ q, g = some q → q < a ∨ b ≤ q) ∧ DK w a b p.body (.slice ba p.body.length bc) ∧ DPs w g b hi r rest
def PK (w : World) (lo hi : Nat) (ps : List PrT) (v : Value) : Prop :=
  ∃ cs : List Value, w.ownsRow lo 31 2 v ps.length cs ∧ (∀ q, v.ownBlock = some q → q < hi) ∧ DPs w v.ownBlock lo hi ps cs
theorem DPs.le {w : World} {g : Option Nat} : ∀ {ps : List PrT} {lo hi : Nat} {cs : List Value}, DPs w g lo hi ps cs → lo ≤ hi
  | [], _, _, _, h => h.2
  | p :: r, lo, hi, cs, h => by
    obtain ⟨_, _, _, a, b, _, _, h1, _, h2, h3⟩ := h
    have := h2.le
    have := DPs.le h3
    omega
theorem DPs.same {w w' : World} {g : Option Nat} : ∀ {ps : List PrT} {lo hi : Nat} {cs : List Value}, (∀ b, lo ≤ b → b < hi → g ≠ some b → w'.heap[b]? = w.heap[b]?) → DPs w g lo hi ps cs → DPs w' g lo hi ps cs
  | [], _, _, _, _, h => h
  | p :: r, lo, hi, cs, hs, h => by
    obtain ⟨ba, bc, rest, a, b, e, h0, h1, hg, h2, h3⟩ := h
    have hm := DPs.le h3
    have hm2 := h2.le
    exact ⟨ba, bc, rest, a, b, e, h0, h1, hg, h2.same (fun q a b => hs q (by omega) (by omega) (fun e => by rcases hg q e with h | h <;> omega)), DPs.same (fun q a b => hs q (by omega) b) h3⟩
theorem DPs.wideR {w : World} {g : Option Nat} : ∀ {ps : List PrT} {lo hi hi' : Nat} {cs : List Value}, hi ≤ hi' → DPs w g lo hi ps cs → DPs w g lo hi' ps cs
  | [], _, _, _, _, hh, h => ⟨h.1, Nat.le_trans h.2 hh⟩
  | p :: r, lo, hi, hi', cs, hh, h => by
    obtain ⟨ba, bc, rest, a, b, e, h0, h1, hg, h2, h3⟩ := h
    exact ⟨ba, bc, rest, a, b, e, h0, h1, hg, h2, DPs.wideR hh h3⟩
theorem DPs.change {w : World} {g g' : Option Nat} : ∀ {ps : List PrT} {lo hi : Nat} {cs : List Value}, (∀ q, g' = some q → q < lo ∨ hi ≤ q) → DPs w g lo hi ps cs → DPs w g' lo hi ps cs
  | [], _, _, _, _, h => h
  | p :: r, lo, hi, cs, hq, h => by
    obtain ⟨ba, bc, rest, a, b, e, h0, h1, _, h2, h3⟩ := h
    have := h2.le
    have := h3.le
    exact ⟨ba, bc, rest, a, b, e, h0, h1, fun q hg => by rcases hq q hg with h | h <;> omega, h2, DPs.change (fun q hg => by rcases hq q hg with h | h <;> omega) h3⟩
theorem DPs.snoc {w : World} {g : Option Nat} : ∀ {ps : List PrT} {lo mid a b : Nat} {cs : List Value} {p : PrT} {ba : Option Addr} {bc : Nat}, DPs w g lo mid ps cs → p.name.size ≤ 9223372036854775807 → mid ≤ a → (∀ q, g = some q → q < a ∨ b ≤ q) → DK w a b p.body (.slice ba p.body.length bc) → DPs w g lo b (ps ++ [p]) (cs ++ [.string p.name, .slice ba p.body.length bc])
  | [], lo, mid, a, b, cs, p, ba, bc, h, hn, ha, hg, hd => by
    obtain ⟨rfl, h2⟩ := h
    exact ⟨ba, bc, [], a, b, rfl, hn, Nat.le_trans h2 ha, hg, hd, rfl, Nat.le_refl _⟩
  | q :: ps, lo, mid, a, b, cs, p, ba, bc, h, hn, ha, hg, hd => by
    obtain ⟨ba', bc', rest, a', b', rfl, h0, h1, hg', h2, h3⟩ := h
    exact ⟨ba', bc', rest ++ [.string p.name, .slice ba p.body.length bc], a', b', rfl, h0, h1, hg', h2, DPs.snoc h3 hn ha hg hd⟩
theorem PK.le {w : World} {lo hi : Nat} {ps : List PrT} {v : Value} (h : PK w lo hi ps v) : lo ≤ hi := by
  obtain ⟨_, _, _, h2⟩ := h
  exact h2.le
theorem PK.same {w w' : World} {lo hi : Nat} {ps : List PrT} {v : Value} (hs : Same lo hi w w') (h : PK w lo hi ps v) : PK w' lo hi ps v := by
  obtain ⟨cs, h4, h5, h6⟩ := h
  exact ⟨cs, row_same h4 (fun b hb => hs b (h4.lt b hb).1 (h5 b hb)), h5, h6.same (fun b hb hb2 _ => hs b hb hb2)⟩
theorem PK.wideR {w : World} {lo hi hi' : Nat} {ps : List PrT} {v : Value} (hh : hi ≤ hi') (h : PK w lo hi ps v) : PK w lo hi' ps v := by
  obtain ⟨cs, h4, h5, h6⟩ := h
  exact ⟨cs, h4, fun q hq => Nat.lt_of_lt_of_le (h5 q hq) hh, h6.wideR hh⟩
/-- One procedure more, in the row that an append leaves. -/
theorem pk_append {w3 w4 : World} {lo hi a b : Nat} {ps : List PrT} {p : PrT} {ba : Option Addr} {bc : Nat} {cs : List Value} {v v' : Value} (hl : DPs w3 v.ownBlock lo hi ps cs) (hq : ∀ q, v.ownBlock = some q → q < hi) (hn : p.name.size ≤ 9223372036854775807)
    (hd : DK w3 a b p.body (.slice ba p.body.length bc)) (ha : hi ≤ a) (hb : b ≤ w3.heap.size) (hown : w4.ownsRow lo 31 2 v' (ps.length + 1) (cs ++ [.string p.name, .slice ba p.body.length bc])) (hg : w3.grownBy w4 v.ownBlock)
    (hat : v'.ownBlock = v.ownBlock ∨ v'.ownBlock = some w3.heap.size) : PK w4 lo w4.heap.size (ps ++ [p]) v' := by
  have hle := hd.le
  have hll := hl.le
  refine ⟨cs ++ [.string p.name, .slice ba p.body.length bc], by rw [List.length_append]; exact hown, fun q h => (hown.lt q h).2, ?_⟩
  have hl4 : DPs w4 v.ownBlock lo hi ps cs := hl.same (fun k h1 h2 h3 => hg.block k (by omega) (fun e => h3 e.symm))
  have hd4 := hd.same (w' := w4) (fun k h1 h2 => hg.block k (by omega) (fun e => by have := hq k e.symm; omega))
  have hall := hl4.snoc hn ha (fun q e => .inl (by have := hq q e; omega)) hd4
  have hsz := hg.size
  rcases hat with e | e
  · rw [e]; exact hall.wideR (by omega)
  · exact (hall.change (fun q e2 => .inr (by rw [e] at e2; cases e2; omega))).wideR (by omega)
theorem PK.nil (w : World) {lo hi : Nat} (h : lo ≤ hi) : PK w lo hi [] (.slice none 0 0) := ⟨[], ⟨rfl, .inl ⟨rfl, rfl⟩⟩, fun q hq => by simp [Value.ownBlock] at hq, rfl, h⟩
/-- A procedure's cells in the row. -/
theorem DPs.at {w : World} {g : Option Nat} : ∀ {ps : List PrT} {lo hi : Nat} {cs : List Value}, DPs w g lo hi ps cs → ∀ i (h : i < ps.length), ∃ ba bc a b, cs[i * 2]? = some (.string ps[i].name) ∧ cs[i * 2 + 1]? = some (.slice ba ps[i].body.length bc) ∧ ps[i].name.size ≤ 9223372036854775807 ∧ lo ≤ a ∧ b ≤ hi ∧ (∀ q, g = some q → q < a ∨ b ≤ q) ∧ DK w a b ps[i].body (.slice ba ps[i].body.length bc)
  | [], _, _, _, _, i, h => absurd h (by simp)
  | p :: ps, lo, hi, cs, h, 0, _ => by
    obtain ⟨ba, bc, rest, a, b, rfl, h0, h1, hg, h2, h3⟩ := h
    exact ⟨ba, bc, a, b, rfl, rfl, h0, h1, h3.le, hg, h2⟩
  | p :: ps, lo, hi, cs, h, i + 1, hi' => by
    obtain ⟨ba, bc, rest, a, b, rfl, h0, h1, hg, h2, h3⟩ := h
    obtain ⟨ba', bc', a', b', e0, e1, e2, e3, e4, e5, e6⟩ := DPs.at h3 i (by simpa using hi')
    have := h2.le
    refine ⟨ba', bc', a', b', ?_, ?_, by simpa using e2, by omega, e4, e5, by simpa using e6⟩
    · rw [show (i + 1) * 2 = i * 2 + 2 from by omega]; simpa using e0
    · rw [show (i + 1) * 2 = i * 2 + 2 from by omega]; simpa using e1
/-- What a round has drawn so far: the statements in the slice v, what is older as it was. -/
structure Stg (W0 wr w : World) (c : Nat) (bs : List UInt8) (bv : Value) (xs : List STree) (s : St) (v : Value) : Prop where
  next : Next W0 wr c bs bv s w
  list : DK w wr.heap.size w.heap.size xs v
  some : ∃ g cap, v = .slice (some ⟨g, 0, none⟩) xs.length cap
  few : xs.length ≤ 1000
theorem Stg.step {W0 wr w w' : World} {c : Nat} {bs : List UInt8} {bv : Value} {xs : List STree} {s s' : St} {v : Value} (h : Stg W0 wr w c bs bv xs s v) (hc : c < wr.heap.size) (hn : Next W0 w c bs bv s' w') : Stg W0 wr w' c bs bv xs s' v :=
  ⟨h.next.trans hn, (h.list.same (fun k h1 h2 => hn.2.block k h2 (by simp; omega))).wide (Nat.le_refl _) hn.2.size, h.some, h.few⟩
theorem next_below {W0 w w' : World} {c : Nat} {bs : List UInt8} {bv : Value} {s : St} (h : At W0 w c bs bv s) (hb : Below w.heap.size w w') : Next W0 w c bs bv s w' := by
  have hg : ∀ r, w.grownBy w' r := fun r => ⟨hb.os, hb.tape, hb.output, hb.size, fun k hk _ => hb.block k hk⟩
  exact ⟨h.grown (hg none), hg _⟩
end Go.Proofs.YtkfeiekgdfklmaaGreatDoor.Cur
