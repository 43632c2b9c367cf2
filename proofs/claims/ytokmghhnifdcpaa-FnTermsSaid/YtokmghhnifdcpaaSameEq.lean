/- Two lists of terms held against each other but for their kids, walked; what the heap of lists is while they are looked at. Conditions: both lists lie in rows that are not frozen. -/
import Derived.Test.YtokmghhnifdcpaaSameFree
namespace Go.Proofs.Ytokmghhnifdcpaa.Trm
open Go.RowKit Own
set_option maxHeartbeats 1600000 in
theorem implEqF_any (p : List Tree × List Tree) (va vb : Value) (w : World) (ha : ListF w va p.1) (hb : ListF w vb p.2) :
    Calls Try.prog 41 #[va, vb, .func (.func 42) #[] #[]] w fun e w' => e = .returned (.bool (shalP p)) ∧ Below w.heap.size w w' := by
  obtain ⟨ts, us⟩ := p
  obtain ⟨ha1, aa, ac, rfl, ha2⟩ := ha
  obtain ⟨hb1, ba, bc, rfl, hb2⟩ := hb
  simp only at ha1 ha2 hb1 hb2 ⊢
  have HA := Lib.hid ha2
  have HB := Lib.hid hb2
  have HR : Hid (shalP (ts, us) = (decide (ts.length = us.length) && shalL ts us)) := rfl
  clear ha2 hb2
  by_cases hl : ts.length = us.length
  · have HL := Lib.hid hl
    have hq : ((ts.length : Int) != (us.length : Int)) = false := by rw [hl]; simp
    have HR2 : Hid (shalP (ts, us) = shalL ts us) := by show _ = _; rw [HR.out]; simp [hl]
    clear hl
    go_enter Try.func41, Try.ntmps41
    go_wp2
    go_loopw [17] (fun i wr => ∃ j : Nat, j ≤ ts.length ∧ i = .int .i64 j ∧ Hid (shalP (ts, us) = shalL (ts.drop j) (us.drop j)) ∧ Hid (Below w.heap.size w wr))
      (fun i _ => ts.length - (intOf i).toNat)
    case atStart => exact ⟨0, Nat.zero_le _, rfl, HR2.out, Below.refl _ _⟩
    case round =>
      obtain ⟨j, hj, rfl, hsz, hbe⟩ := hrel
      by_cases hlt : j < ts.length
      · have hlt2 : j < us.length := by have := HL.out; omega
        obtain ⟨g, o, rfl, f1, l1⟩ := HA.out (by omega)
        obtain ⟨h, q, rfl, f2, l2⟩ := HB.out (by omega)
        have kf := keepF_below hbe.out
        obtain ⟨ka, kc, c0, c1, c2, c3, _⟩ := (l1.keep kf f1).at j hlt
        obtain ⟨la, lc, d0, d1, d2, d3, _⟩ := (l2.keep kf f2).at j hlt2
        have C := Lib.hid (implShal_any ts[j] us[j] ka la kc lc)
        have hd := shalL_drop hlt hlt2
        have ke := keeps_alloc wr (.cells #[.int .i64 ts[j].kind, .int .i64 ts[j].num, .string ts[j].name, .slice ka ts[j].kids.length kc] 26)
        have e0 := ke _ _ d0
        have e1 := ke _ _ d1
        have e2 := ke _ _ d2
        have e3 := ke _ _ d3
        clear l1 l2 f1 f2 kf ke d0 d1 d2 d3
        cases hq2 : shal ts[j] us[j] with
        | false =>
          have HS2 : Hid (shalP (ts, us) = false) := by show _ = _; rw [hsz.out, hd, hq2]; rfl
          rw [hq2] at C
          clear hq2 hd
          go_wp2_with fail
          refine (C.out _).mono ?_
          rintro e w1 ⟨rfl, hb1⟩
          have HB1 := Lib.hid hb1
          clear hb1
          go_wp2
          go_ret
          exact ⟨ret_b (by rw [HS2.out]), hbe.out.trans ((below_box1 (below_box1 HB1.out)).mono hbe.out.size)⟩
        | true =>
          have HS2 : Hid (shalP (ts, us) = shalL (ts.drop (j + 1)) (us.drop (j + 1))) := by show shalP (ts, us) = _; rw [hsz.out, hd, hq2]; rfl
          rw [hq2] at C
          clear hq2 hd
          go_wp2_with fail
          refine (C.out _).mono ?_
          rintro e w1 ⟨rfl, hb1⟩
          have HB1 := Lib.hid (below_box1 (below_box1 hb1))
          clear hb1
          go_wp2
          go_roundw
          case rel => exact ⟨j + 1, by omega, by go_num, HS2, hbe.out.trans (HB1.out.mono hbe.out.size)⟩
          case measure => simp [intOf]; omega
      · have HS2 : Hid (shalP (ts, us) = true) := by show _ = _; rw [hsz.out, shalL_end (by omega)]
        go_wp2
        go_ret
        exact ⟨ret_b (by rw [HS2.out]), hbe.out⟩
  · have hq : ((ts.length : Int) != (us.length : Int)) = true := by simp; omega
    have HL := Lib.hid hl
    clear hl
    go_enter Try.func41, Try.ntmps41
    go_wp2
    go_ret
    exact ⟨ret_b (by rw [HR.out]; simp [HL.out]), Below.refl _ _⟩
/-! ### The heap of lists -/
structure Ent where
  va : Value
  vb : Value
  p : List Tree × List Tree
def Ent.ok (V : World) (e : Ent) : Prop := ListF V e.va e.p.1 ∧ ListF V e.vb e.p.2
def entV : List Ent → List Value
  | [] => []
  | e :: es => e.va :: e.vb :: entV es
theorem entV_len : ∀ es : List Ent, (entV es).length = es.length * 2
  | [] => rfl
  | e :: es => by simp only [entV, List.length_cons, entV_len es]; omega
theorem entV_snoc : ∀ (es : List Ent) (e : Ent), entV (es ++ [e]) = entV es ++ [e.va, e.vb]
  | [], _ => rfl
  | a :: es, e => by simp only [List.cons_append, entV, entV_snoc es e]
/-- An entry of the map of what was met. -/
def KeyOk (V : World) (ms : List (List Tree × List Tree)) (x : MapEntry) : Prop := ∃ (g o g' o' : Nat) (p : List Tree × List Tree), x.key = kidKey ⟨g, o, none⟩ ⟨g', o', none⟩ (p.1.length : Int) ∧ x.val = .bool true ∧ FreeB V g ∧ FreeB V g' ∧ LiesLF V g o p.1 ∧ LiesLF V g' o' p.2 ∧ p.1.length = p.2.length ∧ p ∈ ms
def MapInv (V : World) (M : Nat) (ms : List (List Tree × List Tree)) (wr : World) : Prop := ∃ es clock, wr.heap[M]? = some (.map es clock) ∧ ∀ x, x ∈ es.toList → KeyOk V ms x
/-- The place: the map's block is none that keeps lists; both are newer than the call's world. -/
structure Ctx (V w : World) (M : Nat) : Prop where
  map : ∃ es clock, V.heap[M]? = some (Obj.map es clock)
  hM : w.heap.size ≤ M
  hV : w.heap.size ≤ V.heap.size
structure WInv (V w : World) (M : Nat) (ms : List (List Tree × List Tree)) (wr : World) : Prop where
  keep : KeepF V wr
  below : Below w.heap.size w wr
  map : MapInv V M ms wr
  size : V.heap.size ≤ wr.heap.size
theorem Ctx.lt {V w : World} {M : Nat} (c : Ctx V w M) : M < V.heap.size := by obtain ⟨es, k, h⟩ := c.map; exact heap_lt h
theorem WInv.grown {V w : World} {M : Nat} {ms : List (List Tree × List Tree)} {wr w' : World} {row : Option Nat} (c : Ctx V w M) (h : WInv V w M ms wr) (hg : wr.grownBy w' row) (hr : ∀ b, row = some b → V.heap.size ≤ b) : WInv V w M ms w' where
  keep := fun b cs T z e => by
    have hb := heap_lt e
    rw [hg.block b (Nat.lt_of_lt_of_le hb h.size) (fun e2 => by have := hr b e2.symm; omega)]
    exact h.keep b cs T z e
  below := h.below.grown hg h.below.size (fun b hb => Nat.le_trans c.hV (hr b hb))
  map := by
    obtain ⟨es, k, h1, h2⟩ := h.map
    refine ⟨es, k, ?_, h2⟩
    rw [hg.block M (heap_lt h1) (fun e2 => by have := hr M e2.symm; have := c.lt; omega)]
    exact h1
  size := Nat.le_trans h.size hg.size
theorem WInv.alloc {V w : World} {M : Nat} {ms : List (List Tree × List Tree)} {wr : World} (c : Ctx V w M) (h : WInv V w M ms wr) (o : Obj) : WInv V w M ms (wr.alloc o) := h.grown c (World.grownBy_alloc wr o none) (fun b hb => by cases hb)
theorem WInv.belowW {V w : World} {M : Nat} {ms : List (List Tree × List Tree)} {wr w' : World} (c : Ctx V w M) (h : WInv V w M ms wr) (hb : Below wr.heap.size wr w') : WInv V w M ms w' :=
  h.grown (row := none) c ⟨hb.os, hb.tape, hb.output, hb.size, fun k hk _ => hb.block k hk⟩ (fun b hb => by cases hb)
theorem WInv.drewN {V w : World} {M : Nat} {ms : List (List Tree × List Tree)} {wr : World} (h : WInv V w M ms wr) (m : Nat) : WInv V w M ms (wr.drewN m) :=
  ⟨h.keep, ⟨h.below.os, h.below.tape, h.below.output, h.below.size, h.below.block⟩, h.map, h.size⟩
theorem WInv.drew {V w : World} {M : Nat} {ms : List (List Tree × List Tree)} {wr : World} (h : WInv V w M ms wr) : WInv V w M ms wr.drew :=
  ⟨h.keep, ⟨h.below.os, h.below.tape, h.below.output, h.below.size, h.below.block⟩, h.map, h.size⟩
theorem KeyOk.mono {V : World} {ms : List (List Tree × List Tree)} {q : List Tree × List Tree} {x : MapEntry} (h : KeyOk V ms x) : KeyOk V (q :: ms) x := by
  obtain ⟨g, o, g', o', p, h1, h2, h3, h4, h5, h6, h7, h8⟩ := h
  exact ⟨g, o, g', o', p, h1, h2, h3, h4, h5, h6, h7, List.mem_cons_of_mem _ h8⟩
theorem KeyOk.met {V wr : World} {ms : List (List Tree × List Tree)} {es : List MapEntry} (hk : KeepF V wr) (h : ∀ x, x ∈ es → KeyOk V ms x) : MetOk wr es := fun x hx => by
  obtain ⟨g, o, g', o', p, h1, h2, h3, h4, _⟩ := h x hx
  exact ⟨_, _, _, h1, h2, h3.keep hk, h4.keep hk⟩
/-- What is stored of the map. -/
theorem WInv.meet {V w : World} {M : Nat} {ms : List (List Tree × List Tree)} {wr w' : World} (c : Ctx V w M) (h : WInv V w M ms wr) (hg : wr.grownBy w' (some M)) {es : Array MapEntry} {k : Nat} (_h1 : wr.heap[M]? = some (.map es k)) (h2 : ∀ x, x ∈ es.toList → KeyOk V ms x) {x : MapEntry} (h3 : w'.heap[M]? = some (.map (es.push x) (k + 1))) {q : List Tree × List Tree} (hx : KeyOk V (q :: ms) x) : WInv V w M (q :: ms) w' where
  keep := fun b cs T z e => by
    have hb := heap_lt e
    rw [hg.block b (Nat.lt_of_lt_of_le hb h.size) (fun e2 => by obtain ⟨es0, k0, h0⟩ := c.map; simp at e2; rw [e2, h0] at e; simp at e)]
    exact h.keep b cs T z e
  below := h.below.grown hg h.below.size (fun b hb => by cases hb; exact c.hM)
  map := ⟨es.push x, k + 1, h3, fun y hy => by
    simp at hy
    rcases hy with hy | rfl
    · exact (h2 y (by simpa using hy)).mono
    · exact hx⟩
  size := Nat.le_trans h.size hg.size
/-- A key that was met is of a pair that was met. -/
theorem key_met {V : World} {ms : List (List Tree × List Tree)} {x : MapEntry} {g o g' o' : Nat} {p : List Tree × List Tree} (h : KeyOk V ms x) (hk : x.key = kidKey ⟨g, o, none⟩ ⟨g', o', none⟩ (p.1.length : Int)) (h1 : LiesLF V g o p.1) (h2 : LiesLF V g' o' p.2) (hl : p.1.length = p.2.length) : p ∈ ms := by
  obtain ⟨a, b, a', b', q, e, _, _, _, l1, l2, hq, hm⟩ := h
  rw [hk] at e
  unfold kidKey at e
  simp at e
  obtain ⟨⟨rfl, rfl⟩, ⟨rfl, rfl⟩, e3⟩ := e
  have e1 := LiesLF.det h1 l1 (by omega)
  have e2 := LiesLF.det h2 l2 (by omega)
  have : p = q := Prod.ext e1 e2
  rw [this]; exact hm
theorem row_prefix {w : World} {base : Nat} {e : TypeId} {size n n' cap : Nat} {a : Option Addr} {xs ys : List Value} (h : w.ownsRow base e size (.slice a (n + n') cap) (n + n') (xs ++ ys)) (hx : xs.length = n * size) (hn : 0 < n') : w.ownsRow base e size (.slice a n cap) n xs := by
  refine ⟨hx, ?_⟩
  rcases h.2 with ⟨e1, e2⟩ | ⟨g, cap', cur, e1, h1, h2, h3, h4, h5, h6⟩
  · omega
  · simp at e1
    obtain ⟨rfl, rfl⟩ := e1
    refine .inr ⟨g, cap, cur, rfl, h1, h2, by omega, h4, h5, ?_⟩
    have := congrArg (List.take (n * size)) h6
    rw [List.take_take, List.take_append_of_le_length (by omega), List.take_of_length_le (l := xs) (by omega)] at this
    rw [← this]
    congr 1
    have : n * size ≤ (n + n') * size := Nat.mul_le_mul_right _ (by omega)
    omega
end Go.Proofs.Ytokmghhnifdcpaa.Trm
