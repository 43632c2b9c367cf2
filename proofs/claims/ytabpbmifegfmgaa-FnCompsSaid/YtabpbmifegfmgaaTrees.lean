/- Terms as trees of numbers and texts, how they lie in memory, and what keeps them. Without conditions. -/
import Derived.Test.YtabpbmifegfmgaaOwnStr
import Derived.Below
import Derived.Lib.Hide
namespace Go.Proofs.Ytabpbmifegfmgaa.Trm
open Go.RowKit Own
inductive Tree where
  | node (kind num : Int) (name : ByteArray) (kids : List Tree)
def Tree.kind : Tree → Int | .node k _ _ _ => k
def Tree.num : Tree → Int | .node _ n _ _ => n
def Tree.name : Tree → ByteArray | .node _ _ s _ => s
def Tree.kids : Tree → List Tree | .node _ _ _ ks => ks
mutual
theorem treeInd {P : Tree → Prop} (h : ∀ k n s ks, (∀ t, t ∈ ks → P t) → P (.node k n s ks)) : ∀ t : Tree, P t
  | .node k n s ks => h k n s ks (treeIndL h ks)
theorem treeIndL {P : Tree → Prop} (h : ∀ k n s ks, (∀ t, t ∈ ks → P t) → P (.node k n s ks)) : ∀ ks : List Tree, ∀ t, t ∈ ks → P t
  | [] => fun t ht => by cases ht
  | a :: r => fun t ht => by
    rcases List.mem_cons.1 ht with e | e
    · rw [e]; exact treeInd h a
    · exact treeIndL h r t e
end
/-- An int of 64 bits. -/
def InI (x : Int) : Prop := -9223372036854775808 ≤ x ∧ x ≤ 9223372036854775807
mutual
/-- The struct's value v is the tree, its kids in memory. -/
def Lies (w : World) : Tree → Value → Prop
  | .node k n s ks, v => InI k ∧ InI n ∧ s.size ≤ 9223372036854775807 ∧ ks.length ≤ 9223372036854775807 ∧ ∃ a cap, v = .agg #[.int .i64 k, .int .i64 n, .string s, .slice a ks.length cap] ∧ (0 < ks.length → ∃ g o, a = some ⟨g, o, none⟩ ∧ LiesL w g o ks)
/-- The trees lie one behind the other from a cell on. -/
def LiesL (w : World) (g o : Nat) : List Tree → Prop
  | [] => True
  | t :: ts => (∃ a cap, w.cell? ⟨g, o, none⟩ = some (.int .i64 t.kind) ∧ w.cell? ⟨g, o + 1, none⟩ = some (.int .i64 t.num) ∧ w.cell? ⟨g, o + 2, none⟩ = some (.string t.name) ∧ w.cell? ⟨g, o + 3, none⟩ = some (.slice a t.kids.length cap) ∧
      Lies w t (.agg #[.int .i64 t.kind, .int .i64 t.num, .string t.name, .slice a t.kids.length cap])) ∧ LiesL w g (o + 4) ts
end
/-- What w' has to keep. -/
def Keeps (w w' : World) : Prop := ∀ p u, w.cell? p = some u → w'.cell? p = some u
theorem cell_lt {w : World} {p : Addr} {u : Value} (h : w.cell? p = some u) : p.block < w.heap.size := by
  unfold World.cell? at h
  rcases Nat.lt_or_ge p.block w.heap.size with h' | h'
  · exact h'
  · rw [Array.getElem?_eq_none h'] at h; cases h
theorem Keeps.refl (w : World) : Keeps w w := fun _ _ h => h
theorem Keeps.trans {a b c : World} (h : Keeps a b) (k : Keeps b c) : Keeps a c := fun p u e => k p u (h p u e)
theorem keeps_below {w w' : World} (h : Below w.heap.size w w') : Keeps w w' := fun p u e => by rw [h.cell (cell_lt e)]; exact e
theorem keeps_drewN (w : World) (m : Nat) : Keeps w (w.drewN m) := fun _ _ h => h
theorem keeps_drew (w : World) : Keeps w w.drew := fun _ _ h => h
theorem below_of_drew {a b : World} {B : Nat} (h : Below B a.drew b) : Below B a b := ⟨h.os, h.tape, h.output, h.size, h.block⟩
theorem below_of_drewN {a b : World} {B m : Nat} (h : Below B (a.drewN m) b) : Below B a b := ⟨h.os, h.tape, h.output, h.size, h.block⟩
theorem keeps_alloc (w : World) (o : Obj) : Keeps w (w.alloc o) := keeps_below ((Below.refl _ w).alloc (Nat.le_refl _) o)
mutual
theorem Lies.keep {w w' : World} (hk : Keeps w w') : ∀ {t : Tree} {v : Value}, Lies w t v → Lies w' t v
  | .node k n s ks, v, h => by
    obtain ⟨h1, h2, h3, h4, a, cap, rfl, h5⟩ := h
    refine ⟨h1, h2, h3, h4, a, cap, rfl, fun hp => ?_⟩
    obtain ⟨g, o, rfl, h6⟩ := h5 hp
    exact ⟨g, o, rfl, LiesL.keep hk h6⟩
theorem LiesL.keep {w w' : World} (hk : Keeps w w') : ∀ {ts : List Tree} {g o : Nat}, LiesL w g o ts → LiesL w' g o ts
  | [], _, _, _ => trivial
  | t :: ts, g, o, h => by
    obtain ⟨⟨a, cap, c0, c1, c2, c3, hl⟩, hr⟩ := h
    exact ⟨⟨a, cap, hk _ _ c0, hk _ _ c1, hk _ _ c2, hk _ _ c3, Lies.keep hk hl⟩, LiesL.keep hk hr⟩
end
/-- The element at a place. -/
theorem LiesL.at {w : World} : ∀ {ts : List Tree} {g o : Nat}, LiesL w g o ts → ∀ (i : Nat) (hi : i < ts.length), ∃ a cap, w.cell? ⟨g, o + i * 4, none⟩ = some (.int .i64 ts[i].kind) ∧ w.cell? ⟨g, o + i * 4 + 1, none⟩ = some (.int .i64 ts[i].num) ∧ w.cell? ⟨g, o + i * 4 + 2, none⟩ = some (.string ts[i].name) ∧ w.cell? ⟨g, o + i * 4 + 3, none⟩ = some (.slice a ts[i].kids.length cap) ∧
      Lies w ts[i] (.agg #[.int .i64 ts[i].kind, .int .i64 ts[i].num, .string ts[i].name, .slice a ts[i].kids.length cap])
  | [], _, _, _, i, hi => absurd hi (by simp)
  | t :: ts, g, o, h, 0, _ => by
    obtain ⟨hh, _⟩ := h
    simpa using hh
  | t :: ts, g, o, h, i + 1, hi => by
    obtain ⟨_, hr⟩ := h
    have := LiesL.at hr i (by simpa using hi)
    rw [show o + 4 + i * 4 = o + (i + 1) * 4 from by omega] at this
    exact this
theorem Lies.parts {w : World} {t : Tree} {v : Value} (h : Lies w t v) : InI t.kind ∧ InI t.num ∧ t.name.size ≤ 9223372036854775807 ∧ t.kids.length ≤ 9223372036854775807 ∧ ∃ a cap, v = .agg #[.int .i64 t.kind, .int .i64 t.num, .string t.name, .slice a t.kids.length cap] ∧ (0 < t.kids.length → ∃ g o, a = some ⟨g, o, none⟩ ∧ LiesL w g o t.kids) := by
  cases t with
  | node k n s ks => exact h
/-- What a call left as it was, as two rules of the walk. -/
theorem bcell {W w1 : World} (hb : Below W.heap.size W w1) : (∀ b o, b < W.heap.size → w1.cell? ⟨b, o, none⟩ = W.cell? ⟨b, o, none⟩) ∧ (∀ b o, b < W.heap.size → w1.frozen? ⟨b, o, none⟩ = W.frozen? ⟨b, o, none⟩) :=
  ⟨fun b o h => hb.cell (p := ⟨b, o, none⟩) h, fun b o h => hb.frozen (p := ⟨b, o, none⟩) h⟩
/-- A struct's four cells in a block. -/
def Box4 (w : World) (b : Nat) (c0 c1 c2 c3 : Value) : Prop := w.cell? ⟨b, 0, none⟩ = some c0 ∧ w.cell? ⟨b, 1, none⟩ = some c1 ∧ w.cell? ⟨b, 2, none⟩ = some c2 ∧ w.cell? ⟨b, 3, none⟩ = some c3
theorem Box4.keep {w w' : World} {b : Nat} {c0 c1 c2 c3 : Value} (h : Box4 w b c0 c1 c2 c3) (hk : Keeps w w') : Box4 w' b c0 c1 c2 c3 := ⟨hk _ _ h.1, hk _ _ h.2.1, hk _ _ h.2.2.1, hk _ _ h.2.2.2⟩
theorem Box4.new (w : World) (c0 c1 c2 c3 : Value) (e : TypeId) : Box4 (w.alloc (.cells #[c0, c1, c2, c3] e)) w.heap.size c0 c1 c2 c3 := by
  refine ⟨?_, ?_, ?_, ?_⟩ <;> simp [go_sem]
theorem below_box1 {w w' : World} {o : Obj} (h : Below (w.alloc o).heap.size (w.alloc o) w') : Below w.heap.size w w' := ((Below.refl w.heap.size w).alloc (Nat.le_refl _) o).trans (h.mono (by simp))
theorem Lies.shape {w : World} {t : Tree} {v : Value} (h : Lies w t v) : ∃ a cap, v = .agg #[.int .i64 t.kind, .int .i64 t.num, .string t.name, .slice a t.kids.length cap] := by
  obtain ⟨_, _, _, _, a, cap, e, _⟩ := h.parts
  exact ⟨a, cap, e⟩
end Go.Proofs.Ytabpbmifegfmgaa.Trm
