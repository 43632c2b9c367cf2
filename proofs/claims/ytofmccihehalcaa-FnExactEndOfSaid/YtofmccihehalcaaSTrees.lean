/- Statements as trees, how they lie in memory, and what keeps them. Without conditions. -/
import Derived.Test.YtofmccihehalcaaTrees
import Derived.Test.YtofmccihehalcaaTermSize
namespace Go.Proofs.Ytofmccihehalcaa.Trm
open Go.RowKit Own
inductive STree where
  | node (kind : Int) (name : ByteArray) (term : Tree) (body els : List STree)
def STree.kind : STree → Int | .node k _ _ _ _ => k
def STree.name : STree → ByteArray | .node _ s _ _ _ => s
def STree.term : STree → Tree | .node _ _ t _ _ => t
def STree.body : STree → List STree | .node _ _ _ b _ => b
def STree.els : STree → List STree | .node _ _ _ _ e => e
mutual
theorem streeInd {P : STree → Prop} (h : ∀ k s t b e, (∀ x, x ∈ b → P x) → (∀ x, x ∈ e → P x) → P (.node k s t b e)) : ∀ x : STree, P x
  | .node k s t b e => h k s t b e (streeIndL h b) (streeIndL h e)
theorem streeIndL {P : STree → Prop} (h : ∀ k s t b e, (∀ x, x ∈ b → P x) → (∀ x, x ∈ e → P x) → P (.node k s t b e)) : ∀ xs : List STree, ∀ x, x ∈ xs → P x
  | [] => fun x hx => by cases hx
  | a :: r => fun x hx => by
    rcases List.mem_cons.1 hx with e | e
    · rw [e]; exact streeInd h a
    · exact streeIndL h r x e
end
mutual
/-- The struct's value v is the statement, what is within it in memory. -/
def SLies (w : World) : STree → Value → Prop
  | .node k s t b e, v => InI k ∧ s.size ≤ 9223372036854775807 ∧ b.length ≤ 9223372036854775807 ∧ e.length ≤ 9223372036854775807 ∧ ∃ ta tc ba bc ea ec, v = .agg #[.int .i64 k, .string s, .int .i64 t.kind, .int .i64 t.num, .string t.name, .slice ta t.kids.length tc, .slice ba b.length bc, .slice ea e.length ec] ∧
      Lies w t (.agg #[.int .i64 t.kind, .int .i64 t.num, .string t.name, .slice ta t.kids.length tc]) ∧ (0 < b.length → ∃ g o, ba = some ⟨g, o, none⟩ ∧ SLiesL w g o b) ∧ (0 < e.length → ∃ g o, ea = some ⟨g, o, none⟩ ∧ SLiesL w g o e)
/-- The statements lie one behind the other from a cell on. -/
def SLiesL (w : World) (g o : Nat) : List STree → Prop
  | [] => True
  | x :: xs => (∃ ta tc ba bc ea ec, w.cell? ⟨g, o, none⟩ = some (.int .i64 x.kind) ∧ w.cell? ⟨g, o + 1, none⟩ = some (.string x.name) ∧ w.cell? ⟨g, o + 2, none⟩ = some (.int .i64 x.term.kind) ∧ w.cell? ⟨g, o + 3, none⟩ = some (.int .i64 x.term.num) ∧ w.cell? ⟨g, o + 4, none⟩ = some (.string x.term.name) ∧ w.cell? ⟨g, o + 5, none⟩ = some (.slice ta x.term.kids.length tc) ∧ w.cell? ⟨g, o + 6, none⟩ = some (.slice ba x.body.length bc) ∧ w.cell? ⟨g, o + 7, none⟩ = some (.slice ea x.els.length ec) ∧ SLies w x (.agg #[.int .i64 x.kind, .string x.name, .int .i64 x.term.kind, .int .i64 x.term.num, .string x.term.name, .slice ta x.term.kids.length tc, .slice ba x.body.length bc, .slice ea x.els.length ec])) ∧ SLiesL w g (o + 8) xs
end
mutual
theorem SLies.keep {w w' : World} (hk : Keeps w w') : ∀ {x : STree} {v : Value}, SLies w x v → SLies w' x v
  | .node k s t b e, v, h => by
    obtain ⟨h1, h2, h3, h4, ta, tc, ba, bc, ea, ec, rfl, h5, h6, h7⟩ := h
    refine ⟨h1, h2, h3, h4, ta, tc, ba, bc, ea, ec, rfl, h5.keep hk, fun hp => ?_, fun hp => ?_⟩
    · obtain ⟨g, o, rfl, h8⟩ := h6 hp
      exact ⟨g, o, rfl, SLiesL.keep hk h8⟩
    · obtain ⟨g, o, rfl, h8⟩ := h7 hp
      exact ⟨g, o, rfl, SLiesL.keep hk h8⟩
theorem SLiesL.keep {w w' : World} (hk : Keeps w w') : ∀ {xs : List STree} {g o : Nat}, SLiesL w g o xs → SLiesL w' g o xs
  | [], _, _, _ => trivial
  | x :: xs, g, o, h => by
    obtain ⟨⟨ta, tc, ba, bc, ea, ec, c0, c1, c2, c3, c4, c5, c6, c7, hl⟩, hr⟩ := h
    exact ⟨⟨ta, tc, ba, bc, ea, ec, hk _ _ c0, hk _ _ c1, hk _ _ c2, hk _ _ c3, hk _ _ c4, hk _ _ c5, hk _ _ c6, hk _ _ c7, SLies.keep hk hl⟩, SLiesL.keep hk hr⟩
end
/-- An element's cells, and what lies behind them. -/
def SElem (w : World) (g o : Nat) (x : STree) : Prop := ∃ ta tc ba bc ea ec, w.cell? ⟨g, o, none⟩ = some (.int .i64 x.kind) ∧ w.cell? ⟨g, o + 1, none⟩ = some (.string x.name) ∧ w.cell? ⟨g, o + 2, none⟩ = some (.int .i64 x.term.kind) ∧ w.cell? ⟨g, o + 3, none⟩ = some (.int .i64 x.term.num) ∧ w.cell? ⟨g, o + 4, none⟩ = some (.string x.term.name) ∧ w.cell? ⟨g, o + 5, none⟩ = some (.slice ta x.term.kids.length tc) ∧ w.cell? ⟨g, o + 6, none⟩ = some (.slice ba x.body.length bc) ∧ w.cell? ⟨g, o + 7, none⟩ = some (.slice ea x.els.length ec) ∧ SLies w x (.agg #[.int .i64 x.kind, .string x.name, .int .i64 x.term.kind, .int .i64 x.term.num, .string x.term.name, .slice ta x.term.kids.length tc, .slice ba x.body.length bc, .slice ea x.els.length ec])
/-- The element at a place. -/
theorem SLiesL.at {w : World} : ∀ {xs : List STree} {g o : Nat}, SLiesL w g o xs → ∀ (i : Nat) (hi : i < xs.length), SElem w g (o + i * 8) xs[i]
  | [], _, _, _, i, hi => absurd hi (by simp)
  | x :: xs, g, o, h, 0, _ => by
    obtain ⟨hh, _⟩ := h
    unfold SElem
    simpa using hh
  | x :: xs, g, o, h, i + 1, hi => by
    obtain ⟨_, hr⟩ := h
    have := SLiesL.at hr i (by simpa using hi)
    rw [show o + 8 + i * 8 = o + (i + 1) * 8 from by omega] at this
    exact this
theorem SLiesL.of {w : World} : ∀ {xs : List STree} {g o : Nat}, (∀ (i : Nat) (hi : i < xs.length), SElem w g (o + i * 8) xs[i]) → SLiesL w g o xs
  | [], _, _, _ => trivial
  | x :: xs, g, o, h => by
    refine ⟨?_, SLiesL.of (fun i hi => ?_)⟩
    · have := h 0 (by simp)
      rw [Nat.zero_mul, Nat.add_zero] at this
      exact this
    · have := h (i + 1) (by simpa using hi)
      rw [show o + (i + 1) * 8 = o + 8 + i * 8 from by omega] at this
      exact this
theorem SLies.parts {w : World} {x : STree} {v : Value} (h : SLies w x v) : InI x.kind ∧ x.name.size ≤ 9223372036854775807 ∧ x.body.length ≤ 9223372036854775807 ∧ x.els.length ≤ 9223372036854775807 ∧ ∃ ta tc ba bc ea ec, v = .agg #[.int .i64 x.kind, .string x.name, .int .i64 x.term.kind, .int .i64 x.term.num, .string x.term.name, .slice ta x.term.kids.length tc, .slice ba x.body.length bc, .slice ea x.els.length ec] ∧
      Lies w x.term (.agg #[.int .i64 x.term.kind, .int .i64 x.term.num, .string x.term.name, .slice ta x.term.kids.length tc]) ∧ (0 < x.body.length → ∃ g o, ba = some ⟨g, o, none⟩ ∧ SLiesL w g o x.body) ∧ (0 < x.els.length → ∃ g o, ea = some ⟨g, o, none⟩ ∧ SLiesL w g o x.els) := by
  cases x with
  | node k s t b e => exact h
theorem SLies.shape {w : World} {x : STree} {v : Value} (h : SLies w x v) : ∃ ta tc ba bc ea ec, v = .agg #[.int .i64 x.kind, .string x.name, .int .i64 x.term.kind, .int .i64 x.term.num, .string x.term.name, .slice ta x.term.kids.length tc, .slice ba x.body.length bc, .slice ea x.els.length ec] := by
  obtain ⟨_, _, _, _, ta, tc, ba, bc, ea, ec, e, _⟩ := h.parts
  exact ⟨ta, tc, ba, bc, ea, ec, e⟩
/-- A struct's eight cells in a block. -/
def Box8 (w : World) (b : Nat) (c0 c1 c2 c3 c4 c5 c6 c7 : Value) : Prop := w.cell? ⟨b, 0, none⟩ = some c0 ∧ w.cell? ⟨b, 1, none⟩ = some c1 ∧ w.cell? ⟨b, 2, none⟩ = some c2 ∧ w.cell? ⟨b, 3, none⟩ = some c3 ∧ w.cell? ⟨b, 4, none⟩ = some c4 ∧ w.cell? ⟨b, 5, none⟩ = some c5 ∧ w.cell? ⟨b, 6, none⟩ = some c6 ∧ w.cell? ⟨b, 7, none⟩ = some c7
theorem Box8.keep {w w' : World} {b : Nat} {c0 c1 c2 c3 c4 c5 c6 c7 : Value} (h : Box8 w b c0 c1 c2 c3 c4 c5 c6 c7) (hk : Keeps w w') : Box8 w' b c0 c1 c2 c3 c4 c5 c6 c7 :=
  ⟨hk _ _ h.1, hk _ _ h.2.1, hk _ _ h.2.2.1, hk _ _ h.2.2.2.1, hk _ _ h.2.2.2.2.1, hk _ _ h.2.2.2.2.2.1, hk _ _ h.2.2.2.2.2.2.1, hk _ _ h.2.2.2.2.2.2.2⟩
theorem Box8.new (w : World) (c0 c1 c2 c3 c4 c5 c6 c7 : Value) (e : TypeId) : Box8 (w.alloc (.cells #[c0, c1, c2, c3, c4, c5, c6, c7] e)) w.heap.size c0 c1 c2 c3 c4 c5 c6 c7 := by
  refine ⟨?_, ?_, ?_, ?_, ?_, ?_, ?_, ?_⟩ <;> simp [go_sem]
/-- A list of statements as a slice. -/
def SListAt (w : World) (v : Value) (xs : List STree) : Prop := xs.length ≤ 9223372036854775807 ∧ ∃ a cap, v = .slice a xs.length cap ∧ (0 < xs.length → ∃ g o, a = some ⟨g, o, none⟩ ∧ SLiesL w g o xs)
theorem SListAt.keep {w w' : World} {v : Value} {xs : List STree} (h : SListAt w v xs) (hk : Keeps w w') : SListAt w' v xs := by
  obtain ⟨h1, a, cap, rfl, h2⟩ := h
  refine ⟨h1, a, cap, rfl, fun hp => ?_⟩
  obtain ⟨g, o, rfl, h3⟩ := h2 hp
  exact ⟨g, o, rfl, h3.keep hk⟩
/-- The two lists within a statement. -/
theorem SLies.lists {w : World} {x : STree} {ta ba ea : Option Addr} {tc bc ec : Nat} (h : SLies w x (.agg #[.int .i64 x.kind, .string x.name, .int .i64 x.term.kind, .int .i64 x.term.num, .string x.term.name, .slice ta x.term.kids.length tc, .slice ba x.body.length bc, .slice ea x.els.length ec])) : Lies w x.term (.agg #[.int .i64 x.term.kind, .int .i64 x.term.num, .string x.term.name, .slice ta x.term.kids.length tc]) ∧ SListAt w (.slice ba x.body.length bc) x.body ∧ SListAt w (.slice ea x.els.length ec) x.els := by
  obtain ⟨_, _, h3, h4, ta', tc', ba', bc', ea', ec', e, h5, h6, h7⟩ := h.parts
  simp at e
  obtain ⟨⟨rfl, rfl⟩, ⟨rfl, rfl⟩, ⟨rfl, rfl⟩⟩ := e
  exact ⟨h5, ⟨h3, _, _, rfl, h6⟩, ⟨h4, _, _, rfl, h7⟩⟩
mutual
def szX : STree → Nat
  | .node _ s t b e => s.size + (szT t + ((b.length + szXS b) + (e.length + szXS e)))
def szXS : List STree → Nat
  | [] => 0
  | x :: xs => szX x + szXS xs
end
theorem szX_eq (x : STree) : szX x = x.name.size + (szT x.term + ((x.body.length + szXS x.body) + (x.els.length + szXS x.els))) := by cases x; rfl
theorem szXS_drop {xs : List STree} {i : Nat} (h : i < xs.length) : szXS (xs.drop i) = szX xs[i] + szXS (xs.drop (i + 1)) := by rw [List.drop_eq_getElem_cons h, szXS]
theorem szXS_end {xs : List STree} {i : Nat} (h : xs.length ≤ i) : szXS (xs.drop i) = 0 := by rw [List.drop_of_length_le h, szXS]
theorem szXS_mem : ∀ {xs : List STree} {x : STree}, x ∈ xs → szX x ≤ szXS xs
  | a :: r, x, h => by
    rw [szXS]
    rcases List.mem_cons.1 h with rfl | h
    · omega
    · have := szXS_mem h; omega
end Go.Proofs.Ytofmccihehalcaa.Trm
