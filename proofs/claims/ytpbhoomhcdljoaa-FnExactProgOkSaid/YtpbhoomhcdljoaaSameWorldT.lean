/- The heap of pairs of lists and the map of those that were met, while terms are held against each other. Without conditions. -/
import Derived.Test.YtpbhoomhcdljoaaSameElT
import Derived.Test.YtpbhoomhcdljoaaStrCells
import Derived.Deep.RegionHeld3
import Derived.Deep.DeepCutAuto
namespace Go.Proofs.Ytpbhoomhcdljoaa.SpT
open Go.RowKit Own Trm Km
abbrev PairL := List Tree × List Tree
theorem infoPair : (Try.prog.info? 152).map (fun i => (i.zero, i.size, i.bytes)) = some (some (.agg #[.slice none 0 0, .slice none 0 0]), 2, 48) := by kernel_rfl
def small (_ : List Tree) : Prop := True
theorem small_kid {l : List Tree} {x : Tree} {m : List Tree} (_ : small l) (_ : x ∈ l) (_ : m ∈ KT.wi x) : small m := trivial
structure Ent where
  va : Value
  vb : Value
  p : PairL
structure Ent.ok (V : World) (e : Ent) : Prop where
  a : ListF V e.va e.p.1
  b : ListF V e.vb e.p.2
  s : small e.p.1
def entV : List Ent → List Value
  | [] => []
  | e :: es => e.va :: e.vb :: entV es
theorem entV_len : ∀ es : List Ent, (entV es).length = es.length * 2
  | [] => rfl
  | e :: es => by simp only [entV, List.length_cons, entV_len es]; omega
theorem entV_snoc : ∀ (es : List Ent) (e : Ent), entV (es ++ [e]) = entV es ++ [e.va, e.vb]
  | [], _ => rfl
  | a :: es, e => by simp only [List.cons_append, entV, entV_snoc es e]
/-- A key of the map is of a pair that was met. -/
def KeyOf (V : World) (ms : List PairL) (k : Value) : Prop := ∃ (va vb : Value) (p : PairL), k = prV (spotA va) (spotA vb) p.1.length p.2.length ∧ ListF V va p.1 ∧ ListF V vb p.2 ∧ p ∈ ms
def MapInv (V : World) (M : Nat) (ms : List PairL) (wr : World) : Prop := ∃ es clock, wr.heap[M]? = some (.map es clock) ∧ MetK PrOk V es.toList ∧ ∀ k v, lookK es.toList k = some v → v = .bool true ∧ KeyOf V ms k
/-- The place: the map's block is none that keeps lists; both are newer than the call's world. -/
structure Ctx (V w : World) (M : Nat) : Prop where
  map : ∃ es clock, V.heap[M]? = some (Obj.map es clock)
  hM : w.heap.size ≤ M
  hV : w.heap.size ≤ V.heap.size
structure WInv (V w : World) (M : Nat) (ms : List PairL) (wr : World) : Prop where
  keep : KeepF V wr
  below : Below w.heap.size w wr
  map : MapInv V M ms wr
  size : V.heap.size ≤ wr.heap.size
theorem Ctx.lt {V w : World} {M : Nat} (c : Ctx V w M) : M < V.heap.size := by obtain ⟨es, k, h⟩ := c.map; exact heap_lt h
theorem WInv.grown {V w : World} {M : Nat} {ms : List PairL} {wr w' : World} {row : Option Nat} (c : Ctx V w M) (h : WInv V w M ms wr) (hg : wr.grownBy w' row) (hr : ∀ b, row = some b → V.heap.size ≤ b) : WInv V w M ms w' where
  keep := fun b cs T z e => by
    have hb := heap_lt e
    rw [hg.block b (Nat.lt_of_lt_of_le hb h.size) (fun e2 => by have := hr b e2.symm; omega)]
    exact h.keep b cs T z e
  below := h.below.grown hg h.below.size (fun b hb => Nat.le_trans c.hV (hr b hb))
  map := by
    obtain ⟨es, k, h1, h2⟩ := h.map
    refine ⟨es, k, ?_, h2⟩
    rw [hg.block M (heap_lt h1) (fun e2 => by have := hr M e2.symm; have := c.lt; omega)]
    exact h1
  size := Nat.le_trans h.size hg.size
theorem WInv.alloc {V w : World} {M : Nat} {ms : List PairL} {wr : World} (c : Ctx V w M) (h : WInv V w M ms wr) (o : Obj) : WInv V w M ms (wr.alloc o) := h.grown c (World.grownBy_alloc wr o none) (fun b hb => by cases hb)
theorem WInv.belowW {V w : World} {M : Nat} {ms : List PairL} {wr w' : World} (c : Ctx V w M) (h : WInv V w M ms wr) (hb : Below wr.heap.size wr w') : WInv V w M ms w' :=
  h.grown (row := none) c ⟨hb.os, hb.tape, hb.output, hb.size, fun k hk _ => hb.block k hk⟩ (fun b hb => by cases hb)
theorem PrOk.keep {V wr : World} {k : Value} (hk : KeepF V wr) (h : PrOk V k) : PrOk wr k := by
  obtain ⟨a, b, n, m, e, h1, h2⟩ := h
  exact ⟨a, b, n, m, e, h1.keep hk, h2.keep hk⟩
theorem key_ok {V : World} {va vb : Value} {p : PairL} (h1 : ListF V va p.1) (h2 : ListF V vb p.2) : PrOk V (prV (spotA va) (spotA vb) p.1.length p.2.length) := ⟨_, _, _, _, rfl, freeO_of h1, freeO_of h2⟩
theorem KeyOf.mono {V : World} {ms : List PairL} {q : PairL} {k : Value} (h : KeyOf V ms k) : KeyOf V (q :: ms) k := by
  obtain ⟨va, vb, p, h1, h2, h3, h4⟩ := h
  exact ⟨va, vb, p, h1, h2, h3, List.mem_cons_of_mem _ h4⟩
/-- A key that was met is of a pair that was met. -/
theorem key_met {V : World} {ms : List PairL} {va vb : Value} {p : PairL} (h : KeyOf V ms (prV (spotA va) (spotA vb) p.1.length p.2.length)) (h1 : ListF V va p.1) (h2 : ListF V vb p.2) : p ∈ ms := by
  obtain ⟨ua, ub, q, e, h3, h4, h5⟩ := h
  rw [prV_iff] at e
  have e1 := spot_det h1 h3 e.1 e.2.1
  have e2 := spot_det h2 h4 e.2.2.1 e.2.2.2
  have : p = q := Prod.ext e1 e2
  rw [this]; exact h5
/-- What is stored of the map. -/
theorem WInv.meet {V w : World} {M : Nat} {ms : List PairL} {wr w' : World} (c : Ctx V w M) (h : WInv V w M ms wr) (hg : wr.grownBy w' (some M)) {es es' : Array MapEntry} {k' : Nat} (hk : MetK PrOk V es.toList) (hl : ∀ k v, lookK es.toList k = some v → v = .bool true ∧ KeyOf V ms k) {va vb : Value} {p : PairL} (h1 : ListF V va p.1) (h2 : ListF V vb p.2)
    (h3 : w'.heap[M]? = some (.map es' k')) (h4 : ∀ k', lookK es'.toList k' = @ite _ (prV (spotA va) (spotA vb) p.1.length p.2.length = k') (Classical.propDecidable _) (some (Value.bool true)) (lookK es.toList k')) (h5 : ∀ x, x ∈ es'.toList → x.key = prV (spotA va) (spotA vb) p.1.length p.2.length ∨ ∃ y, y ∈ es.toList ∧ y.key = x.key) : WInv V w M (p :: ms) w' where
  keep := fun b cs T z e => by
    have hb := heap_lt e
    rw [hg.block b (Nat.lt_of_lt_of_le hb h.size) (fun e2 => by obtain ⟨es0, k0, h0⟩ := c.map; simp at e2; rw [e2, h0] at e; simp at e)]
    exact h.keep b cs T z e
  below := h.below.grown hg h.below.size (fun b hb => by cases hb; exact c.hM)
  map := ⟨es', k', h3, fun x hx => by
    rcases h5 x hx with e | ⟨y, hy, e⟩
    · rw [e]; exact key_ok h1 h2
    · rw [← e]; exact hk y hy, fun k v hv => by
    rw [h4] at hv
    by_cases hc : prV (spotA va) (spotA vb) p.1.length p.2.length = k
    · rw [if_pos hc] at hv
      exact ⟨by simpa using hv.symm, va, vb, p, hc.symm, h1, h2, List.mem_cons_self ..⟩
    · rw [if_neg hc] at hv
      exact ⟨(hl k v hv).1, (hl k v hv).2.mono⟩⟩
  size := Nat.le_trans h.size hg.size
theorem row_prefix {w : World} {base : Nat} {e : TypeId} {size n n' cap : Nat} {a : Option Addr} {xs ys : List Value} (h : w.ownsRow base e size (.slice a (n + n') cap) (n + n') (xs ++ ys)) (hx : xs.length = n * size) (hn : 0 < n') : w.ownsRow base e size (.slice a n cap) n xs := by
  refine ⟨hx, ?_⟩
  rcases h.2 with ⟨e1, e2⟩ | ⟨g, cap', cur, e1, h1, h2, h3, h4, h5, h6⟩
  · omega
  · simp at e1
    obtain ⟨rfl, rfl⟩ := e1
    refine .inr ⟨g, cap, cur, rfl, h1, h2, by omega, h4, h5, ?_⟩
    have := congrArg (List.take (n * size)) h6
    rw [List.take_take, List.take_append_of_le_length (by omega), List.take_of_length_le (l := xs) (by omega)] at this
    rw [← this]
    congr 1
    have : n * size ≤ (n + n') * size := Nat.mul_le_mul_right _ (by omega)
    omega
theorem row_cap {w : World} {base : Nat} {e : TypeId} {size n m cap : Nat} {a : Option Addr} {xs : List Value} (h : w.ownsRow base e size (.slice a m cap) n xs) : n ≤ cap := by
  rcases h.2 with ⟨e1, e2⟩ | ⟨g, cap', cur, e1, h1, h2, h3, _⟩
  · omega
  · simp at e1
    omega
theorem blk_at {W : World} {b : Nat} {o o' : Obj} (hb : b < W.heap.size) (h : W.heap[b]? = some o) : (W.alloc o').heap[b]? = some o := by
  rw [((Below.refl W.heap.size W).alloc (Nat.le_refl _) o').block b hb]; exact h
theorem cell_noMap {w : World} {b M : Nat} {i : Nat} {u : Value} {es : Array MapEntry} {k : Nat} (h : w.cell? ⟨b, i, none⟩ = some u) (hm : w.heap[M]? = some (.map es k)) : b ≠ M := fun e => by
  subst e
  simp [World.cell?, hm] at h
theorem cell_grown {w w' : World} {row : Option Nat} {b i : Nat} {u : Value} (h : w.cell? ⟨b, i, none⟩ = some u) (hg : w.grownBy w' row) (hn : some b ≠ row) : w'.cell? ⟨b, i, none⟩ = some u := by
  rw [World.cell?_of_block (hg.block b (cell_lt h) hn)]; exact h
theorem two_cells (a b : Option Addr) (n m c d : Nat) : ∀ u ∈ [Value.slice a n c, Value.slice b m d], u.oneCell' = true := by
  intro u hu
  simp at hu
  rcases hu with rfl | rfl <;> rfl
theorem last_of {α : Type} : ∀ (l : List α), l ≠ [] → ∃ l' e, l = l' ++ [e]
  | [], h => absurd rfl h
  | [a], _ => ⟨[], a, rfl⟩
  | a :: b :: r, _ => by
    obtain ⟨l', e, h⟩ := last_of (b :: r) (by simp)
    exact ⟨a :: l', e, by rw [h]; rfl⟩
/-- What the loops keep. -/
def RelO (V w : World) (M : Nat) (r : PairL) (n : Nat) (x : Value) (wr : World) : Prop :=
  ∃ (es : List Ent) (ms : List PairL), Lg.Gh KT r ms (es.map Ent.p) ∧ Lg.wt KT (es.map Ent.p) = n ∧ n ≤ 3000000 ∧ (∀ e, e ∈ es → e.ok V) ∧ wr.ownsRow V.heap.size 152 2 x es.length (entV es) ∧ WInv V w M ms wr
structure RelI (V w : World) (M : Nat) (r : PairL) (e : Ent) (n b i j rest : Nat) (x : Value) (wr : World) (es : List Ent) (ms : List PairL) : Prop where
  gi : Lg.Gi KT r ms (es.map Ent.p) e.p i j
  wt : Lg.wt KT (es.map Ent.p) + rest < n
  ok : ∀ e, e ∈ es → e.ok V
  row : wr.ownsRow V.heap.size 152 2 x es.length (entV es)
  inv : WInv V w M ms wr
  c0 : wr.cell? ⟨b, 0, none⟩ = some e.va
  c1 : wr.cell? ⟨b, 1, none⟩ = some e.vb
  nb : x.ownBlock ≠ some b
theorem start (w V : World) (p : PairL) (va vb : Value) (hz : Lg.wt KT [p] ≤ 3000000) (ha : ListF w va p.1) (hb : ListF w vb p.2) (hs : small p.1) (hV : V = w.alloc (.map #[] 0)) :
    Ctx V w w.heap.size ∧ V.heap.size = w.heap.size + 1 ∧ ∃ m, RelO V w w.heap.size p m (.slice (some ⟨w.heap.size + 1, 0, none⟩) 1 1) (V.alloc (.cells #[va, vb] 152)) := by
  have hn : V.heap.size = w.heap.size + 1 := by rw [hV]; simp
  have bV : Below w.heap.size w V := by rw [hV]; exact (Below.refl _ _).alloc (Nat.le_refl _) _
  have m1 : V.heap[w.heap.size]? = some (.map #[] 0) := by rw [hV]; exact heap_alloc_new _ _
  have cx : Ctx V w w.heap.size := ⟨⟨_, _, m1⟩, Nat.le_refl _, by omega⟩
  refine ⟨cx, hn, _, [⟨va, vb, p⟩], [], Lg.Gh.start _, rfl, hz, ?_, ?_, ?_⟩
  · intro e he
    simp at he
    subst he
    exact ⟨ha.keep (keepF_below bV), hb.keep (keepF_below bV), hs⟩
  · obtain ⟨_, aa, ac, e1, _⟩ := ha
    obtain ⟨_, ba, bc, e2, _⟩ := hb
    have := World.ownsRow_lit (base := V.heap.size) (size := 2) (e := 152) V #[va, vb] 1 (Nat.le_refl _) (by decide) rfl
    rw [hn] at this
    rw [hn]
    exact this
  · exact WInv.alloc cx ⟨fun _ _ _ _ h => h, bV, ⟨#[], 0, m1, fun x hx => by simp at hx, fun k v h => by simp [lookK] at h⟩, Nat.le_refl _⟩ _
end Go.Proofs.Ytpbhoomhcdljoaa.SpT
