/- Programs as lists of names and of procedures, how they lie in memory, and what keeps them. Without conditions. -/
import Derived.Test.YtofmccihehalcaaSTrees
import Derived.Test.YtofmccihehalcaaLists
namespace Go.Proofs.Ytofmccihehalcaa.Trm
open Go.RowKit Own
structure PrT where
  name : ByteArray
  body : List STree
structure PTree where
  globals : List ByteArray
  locks : List ByteArray
  procs : List PrT
/-- A row of texts, each of them of a size that a text may have. -/
def NamesAt (w : World) (ss : List ByteArray) (v : Value) : Prop := StrsAt w ss v ∧ ∀ s, s ∈ ss → s.size ≤ 9223372036854775807
def PrElem (w : World) (g o : Nat) (p : PrT) : Prop := p.name.size ≤ 9223372036854775807 ∧ ∃ a c, w.cell? ⟨g, o, none⟩ = some (.string p.name) ∧ w.cell? ⟨g, o + 1, none⟩ = some (.slice a p.body.length c) ∧ SListAt w (.slice a p.body.length c) p.body
/-- A procedure's value. -/
def PrLies (w : World) (p : PrT) (v : Value) : Prop := p.name.size ≤ 9223372036854775807 ∧ ∃ a c, v = .agg #[.string p.name, .slice a p.body.length c] ∧ SListAt w (.slice a p.body.length c) p.body
theorem PrLies.keep {w w' : World} {p : PrT} {v : Value} (h : PrLies w p v) (hk : Keeps w w') : PrLies w' p v := by
  obtain ⟨h0, a, c, rfl, h3⟩ := h
  exact ⟨h0, a, c, rfl, h3.keep hk⟩
/-- The cells of a box of two, of a box of three. -/
def Box2 (w : World) (b : Nat) (c0 c1 : Value) : Prop := w.cell? ⟨b, 0, none⟩ = some c0 ∧ w.cell? ⟨b, 1, none⟩ = some c1
theorem Box2.keep {w w' : World} {b : Nat} {c0 c1 : Value} (h : Box2 w b c0 c1) (hk : Keeps w w') : Box2 w' b c0 c1 := ⟨hk _ _ h.1, hk _ _ h.2⟩
theorem Box2.new (w : World) (c0 c1 : Value) (e : TypeId) : Box2 (w.alloc (.cells #[c0, c1] e)) w.heap.size c0 c1 := by
  refine ⟨?_, ?_⟩ <;> simp [go_sem]
def Box3 (w : World) (b : Nat) (c0 c1 c2 : Value) : Prop := w.cell? ⟨b, 0, none⟩ = some c0 ∧ w.cell? ⟨b, 1, none⟩ = some c1 ∧ w.cell? ⟨b, 2, none⟩ = some c2
theorem Box3.keep {w w' : World} {b : Nat} {c0 c1 c2 : Value} (h : Box3 w b c0 c1 c2) (hk : Keeps w w') : Box3 w' b c0 c1 c2 := ⟨hk _ _ h.1, hk _ _ h.2.1, hk _ _ h.2.2⟩
theorem Box3.new (w : World) (c0 c1 c2 : Value) (e : TypeId) : Box3 (w.alloc (.cells #[c0, c1, c2] e)) w.heap.size c0 c1 c2 := by
  refine ⟨?_, ?_, ?_⟩ <;> simp [go_sem]
/-- A list of procedures as a slice. -/
def PrsAt (w : World) (v : Value) (ps : List PrT) : Prop := ps.length ≤ 9223372036854775807 ∧ ∃ a cap, v = .slice a ps.length cap ∧ (0 < ps.length → ∃ g o, a = some ⟨g, o, none⟩ ∧ ∀ i (h : i < ps.length), PrElem w g (o + i * 2) ps[i])
def PLies (w : World) (p : PTree) (v : Value) : Prop := ∃ ga gc la lc pa pc, v = .agg #[.slice ga p.globals.length gc, .slice la p.locks.length lc, .slice pa p.procs.length pc] ∧ NamesAt w p.globals (.slice ga p.globals.length gc) ∧ NamesAt w p.locks (.slice la p.locks.length lc) ∧ PrsAt w (.slice pa p.procs.length pc) p.procs
theorem NamesAt.keep {w w' : World} {ss : List ByteArray} {v : Value} (h : NamesAt w ss v) (hk : Keeps w w') : NamesAt w' ss v := ⟨h.1.keep hk, h.2⟩
theorem PrElem.keep {w w' : World} {g o : Nat} {p : PrT} (h : PrElem w g o p) (hk : Keeps w w') : PrElem w' g o p := by
  obtain ⟨h0, a, c, h1, h2, h3⟩ := h
  exact ⟨h0, a, c, hk _ _ h1, hk _ _ h2, h3.keep hk⟩
theorem PrsAt.keep {w w' : World} {v : Value} {ps : List PrT} (h : PrsAt w v ps) (hk : Keeps w w') : PrsAt w' v ps := by
  obtain ⟨h1, a, cap, rfl, h2⟩ := h
  refine ⟨h1, a, cap, rfl, fun hp => ?_⟩
  obtain ⟨g, o, rfl, h3⟩ := h2 hp
  exact ⟨g, o, rfl, fun i hi => (h3 i hi).keep hk⟩
theorem PLies.keep {w w' : World} {p : PTree} {v : Value} (h : PLies w p v) (hk : Keeps w w') : PLies w' p v := by
  obtain ⟨ga, gc, la, lc, pa, pc, rfl, h1, h2, h3⟩ := h
  exact ⟨ga, gc, la, lc, pa, pc, rfl, h1.keep hk, h2.keep hk, h3.keep hk⟩
def szNs (ss : List ByteArray) : Nat := (ss.map (·.size)).sum
def szPr (p : PrT) : Nat := p.name.size + (p.body.length + szXS p.body)
def szPrs : List PrT → Nat
  | [] => 0
  | p :: ps => szPr p + szPrs ps
def szP (p : PTree) : Nat := (p.globals.length + szNs p.globals) + ((p.locks.length + szNs p.locks) + (p.procs.length + szPrs p.procs))
theorem szPrs_drop {ps : List PrT} {i : Nat} (h : i < ps.length) : szPrs (ps.drop i) = szPr ps[i] + szPrs (ps.drop (i + 1)) := by rw [List.drop_eq_getElem_cons h, szPrs]
theorem szPrs_end {ps : List PrT} {i : Nat} (h : ps.length ≤ i) : szPrs (ps.drop i) = 0 := by rw [List.drop_of_length_le h, szPrs]
theorem szPrs_mem : ∀ {ps : List PrT} {p : PrT}, p ∈ ps → szPr p ≤ szPrs ps
  | a :: r, p, h => by
    rw [szPrs]
    rcases List.mem_cons.1 h with rfl | h
    · omega
    · have := szPrs_mem h; omega
end Go.Proofs.Ytofmccihehalcaa.Trm
