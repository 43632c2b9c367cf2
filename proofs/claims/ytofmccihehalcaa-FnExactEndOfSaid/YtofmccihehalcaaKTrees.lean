/- Code as lists of names, of numbers and of instructions, how it lies in memory, and what keeps it. Without conditions. -/
import Derived.Test.YtofmccihehalcaaPTrees
namespace Go.Proofs.Ytofmccihehalcaa.Trm
open Go.RowKit Own
structure InsT where
  op : Int
  arg : Int
  term : Tree
  to : Int
structure KTree where
  globals : List ByteArray
  locks : List ByteArray
  procs : List ByteArray
  entry : List Int
  ins : List InsT
/-- The cells of an instruction. -/
def cellsI (x : InsT) (kv : Value) : List Value := [.int .i64 x.op, .int .i64 x.arg, .int .i64 x.term.kind, .int .i64 x.term.num, .string x.term.name, kv, .int .i64 x.to]
def aggI (x : InsT) (kv : Value) : Value := .agg #[.int .i64 x.op, .int .i64 x.arg, .int .i64 x.term.kind, .int .i64 x.term.num, .string x.term.name, kv, .int .i64 x.to]
/-- The struct's value v is the instruction, its term in memory. -/
def ILies (w : World) (x : InsT) (v : Value) : Prop := InI x.op ∧ InI x.arg ∧ InI x.to ∧ ∃ a c, v = .agg #[.int .i64 x.op, .int .i64 x.arg, .int .i64 x.term.kind, .int .i64 x.term.num, .string x.term.name, .slice a x.term.kids.length c, .int .i64 x.to] ∧ Lies w x.term (.agg #[.int .i64 x.term.kind, .int .i64 x.term.num, .string x.term.name, .slice a x.term.kids.length c])
/-- An instruction's cells in a row, and what lies behind them. -/
def IElem (w : World) (g o : Nat) (x : InsT) : Prop := InI x.op ∧ InI x.arg ∧ InI x.to ∧ ∃ a c, w.cell? ⟨g, o, none⟩ = some (.int .i64 x.op) ∧ w.cell? ⟨g, o + 1, none⟩ = some (.int .i64 x.arg) ∧ w.cell? ⟨g, o + 2, none⟩ = some (.int .i64 x.term.kind) ∧ w.cell? ⟨g, o + 3, none⟩ = some (.int .i64 x.term.num) ∧ w.cell? ⟨g, o + 4, none⟩ = some (.string x.term.name) ∧ w.cell? ⟨g, o + 5, none⟩ = some (.slice a x.term.kids.length c) ∧ w.cell? ⟨g, o + 6, none⟩ = some (.int .i64 x.to) ∧ Lies w x.term (.agg #[.int .i64 x.term.kind, .int .i64 x.term.num, .string x.term.name, .slice a x.term.kids.length c])
/-- A list of instructions as a slice. -/
def IsAt (w : World) (v : Value) (xs : List InsT) : Prop := xs.length ≤ 9223372036854775807 ∧ ∃ a cap, v = .slice a xs.length cap ∧ (0 < xs.length → ∃ g o, a = some ⟨g, o, none⟩ ∧ ∀ i (h : i < xs.length), IElem w g (o + i * 7) xs[i])
def KLies (w : World) (k : KTree) (v : Value) : Prop := ∃ ga gc la lc pa pc ea ec ia ic, v = .agg #[.slice ga k.globals.length gc, .slice la k.locks.length lc, .slice pa k.procs.length pc, .slice ea k.entry.length ec, .slice ia k.ins.length ic] ∧ NamesAt w k.globals (.slice ga k.globals.length gc) ∧ NamesAt w k.locks (.slice la k.locks.length lc) ∧ NamesAt w k.procs (.slice pa k.procs.length pc) ∧ IntsAt w k.entry (.slice ea k.entry.length ec) ∧ IsAt w (.slice ia k.ins.length ic) k.ins
theorem ILies.keep {w w' : World} {x : InsT} {v : Value} (h : ILies w x v) (hk : Keeps w w') : ILies w' x v := by
  obtain ⟨h0, h1, h2, a, c, rfl, h3⟩ := h
  exact ⟨h0, h1, h2, a, c, rfl, h3.keep hk⟩
theorem IElem.keep {w w' : World} {g o : Nat} {x : InsT} (h : IElem w g o x) (hk : Keeps w w') : IElem w' g o x := by
  obtain ⟨i0, i1, i2, a, c, h0, h1, h2, h3, h4, h5, h6, h7⟩ := h
  exact ⟨i0, i1, i2, a, c, hk _ _ h0, hk _ _ h1, hk _ _ h2, hk _ _ h3, hk _ _ h4, hk _ _ h5, hk _ _ h6, h7.keep hk⟩
theorem IsAt.keep {w w' : World} {v : Value} {xs : List InsT} (h : IsAt w v xs) (hk : Keeps w w') : IsAt w' v xs := by
  obtain ⟨h1, a, cap, rfl, h2⟩ := h
  refine ⟨h1, a, cap, rfl, fun hp => ?_⟩
  obtain ⟨g, o, rfl, h3⟩ := h2 hp
  exact ⟨g, o, rfl, fun i hi => (h3 i hi).keep hk⟩
theorem KLies.keep {w w' : World} {k : KTree} {v : Value} (h : KLies w k v) (hk : Keeps w w') : KLies w' k v := by
  obtain ⟨ga, gc, la, lc, pa, pc, ea, ec, ia, ic, rfl, h1, h2, h3, h4, h5⟩ := h
  exact ⟨ga, gc, la, lc, pa, pc, ea, ec, ia, ic, rfl, h1.keep hk, h2.keep hk, h3.keep hk, h4.keep hk, h5.keep hk⟩
theorem KLies.shape {w : World} {k : KTree} {v : Value} (h : KLies w k v) : ∃ ga gc la lc pa pc ea ec ia ic, v = .agg #[.slice ga k.globals.length gc, .slice la k.locks.length lc, .slice pa k.procs.length pc, .slice ea k.entry.length ec, .slice ia k.ins.length ic] := by
  obtain ⟨ga, gc, la, lc, pa, pc, ea, ec, ia, ic, rfl, _⟩ := h
  exact ⟨ga, gc, la, lc, pa, pc, ea, ec, ia, ic, rfl⟩
/-- The cells of a box of five, of a box of seven. -/
def Box5 (w : World) (b : Nat) (c0 c1 c2 c3 c4 : Value) : Prop := w.cell? ⟨b, 0, none⟩ = some c0 ∧ w.cell? ⟨b, 1, none⟩ = some c1 ∧ w.cell? ⟨b, 2, none⟩ = some c2 ∧ w.cell? ⟨b, 3, none⟩ = some c3 ∧ w.cell? ⟨b, 4, none⟩ = some c4
theorem Box5.keep {w w' : World} {b : Nat} {c0 c1 c2 c3 c4 : Value} (h : Box5 w b c0 c1 c2 c3 c4) (hk : Keeps w w') : Box5 w' b c0 c1 c2 c3 c4 := ⟨hk _ _ h.1, hk _ _ h.2.1, hk _ _ h.2.2.1, hk _ _ h.2.2.2.1, hk _ _ h.2.2.2.2⟩
theorem Box5.new (w : World) (c0 c1 c2 c3 c4 : Value) (e : TypeId) : Box5 (w.alloc (.cells #[c0, c1, c2, c3, c4] e)) w.heap.size c0 c1 c2 c3 c4 := by
  refine ⟨?_, ?_, ?_, ?_, ?_⟩ <;> simp [go_sem]
def Box7 (w : World) (b : Nat) (c0 c1 c2 c3 c4 c5 c6 : Value) : Prop := w.cell? ⟨b, 0, none⟩ = some c0 ∧ w.cell? ⟨b, 1, none⟩ = some c1 ∧ w.cell? ⟨b, 2, none⟩ = some c2 ∧ w.cell? ⟨b, 3, none⟩ = some c3 ∧ w.cell? ⟨b, 4, none⟩ = some c4 ∧ w.cell? ⟨b, 5, none⟩ = some c5 ∧ w.cell? ⟨b, 6, none⟩ = some c6
theorem Box7.keep {w w' : World} {b : Nat} {c0 c1 c2 c3 c4 c5 c6 : Value} (h : Box7 w b c0 c1 c2 c3 c4 c5 c6) (hk : Keeps w w') : Box7 w' b c0 c1 c2 c3 c4 c5 c6 := ⟨hk _ _ h.1, hk _ _ h.2.1, hk _ _ h.2.2.1, hk _ _ h.2.2.2.1, hk _ _ h.2.2.2.2.1, hk _ _ h.2.2.2.2.2.1, hk _ _ h.2.2.2.2.2.2⟩
theorem Box7.new (w : World) (c0 c1 c2 c3 c4 c5 c6 : Value) (e : TypeId) : Box7 (w.alloc (.cells #[c0, c1, c2, c3, c4, c5, c6] e)) w.heap.size c0 c1 c2 c3 c4 c5 c6 := by
  refine ⟨?_, ?_, ?_, ?_, ?_, ?_, ?_⟩ <;> simp [go_sem]
def szI (x : InsT) : Nat := szT x.term
def szIs : List InsT → Nat
  | [] => 0
  | x :: xs => szI x + szIs xs
def szK (k : KTree) : Nat := (k.globals.length + szNs k.globals) + ((k.locks.length + szNs k.locks) + ((k.procs.length + szNs k.procs) + (k.entry.length + (k.ins.length + szIs k.ins))))
theorem szIs_drop {xs : List InsT} {i : Nat} (h : i < xs.length) : szIs (xs.drop i) = szI xs[i] + szIs (xs.drop (i + 1)) := by rw [List.drop_eq_getElem_cons h, szIs]
theorem szIs_end {xs : List InsT} {i : Nat} (h : xs.length ≤ i) : szIs (xs.drop i) = 0 := by rw [List.drop_of_length_le h, szIs]
theorem szIs_mem : ∀ {xs : List InsT} {x : InsT}, x ∈ xs → szI x ≤ szIs xs
  | a :: r, x, h => by
    rw [szIs]
    rcases List.mem_cons.1 h with rfl | h
    · omega
    · have := szIs_mem h; omega
end Go.Proofs.Ytofmccihehalcaa.Trm
