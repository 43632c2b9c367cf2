/- The program's iterator over what comes next: its contract, and the list that is collected of it, walked. Conditions: the code lies in memory and is right; the place is there. -/
import Derived.RangeFuncNested
import Derived.RangeFuncBound
import Derived.RangeFuncCalls
import Derived.RangeFuncLeaves
import Derived.RangeFuncBox
import Derived.Shelf.Abstract
import Derived.Shelf.RegionOpen
import Derived.WalkKit
import Derived.OwnWalkIn
import Derived.TacticsInMore
import Derived.LoopNIn
import Derived.LoopIn
import Derived.Maps.AppendAt
import Derived.Test.YtkfeiekgdfklmaaFlowM
import Derived.Test.YtkfeiekgdfklmaaIntMarks
namespace Go.Proofs.Ytkfeiekgdfklmaa.Trm
open Go.RowKit Go.Proofs.Ytkfeiekgdfklmaa.Own Go.Shelf
attribute [local go_sem] Oper.semAt_some
/-- What a round that goes on keeps: the box of the place, and each block that is one instruction. -/
def KpN (Ab : Nat) (W W' : World) : Prop := W'.heap[Ab]? = W.heap[Ab]? ∧ ∀ (b : Nat) (c : Array Value), W.heap[b]? = some (Obj.cells c 67 (0, 0)) → W'.heap[b]? = some (Obj.cells c 67 (0, 0))
theorem KpN.refl (Ab : Nat) (W : World) : KpN Ab W W := ⟨rfl, fun _ _ h => h⟩
theorem KpN.trans {Ab : Nat} {A B C : World} (h : KpN Ab A B) (k : KpN Ab B C) : KpN Ab A C := ⟨k.1.trans h.1, fun b c hb => k.2 b c (h.2 b c hb)⟩
theorem KpN.alloc {Ab : Nat} {W : World} (hA : Ab < W.heap.size) (o : Obj) : KpN Ab W (W.alloc o) :=
  ⟨Below.heap_alloc W o Ab hA, fun b _ hb => (Below.heap_alloc W o b (Array.getElem?_eq_some_iff.1 hb).1).trans hb⟩
theorem KpN.grown {Ab : Nat} {W W' : World} {row : Option Nat} (hA : Ab < W.heap.size) (hg : W.grownBy W' row) (hr : ∀ r, row = some r → r ≠ Ab ∧ ∀ c : Array Value, W.heap[r]? ≠ some (Obj.cells c 67 (0, 0))) : KpN Ab W W' :=
  ⟨hg.block Ab hA (fun e => (hr Ab e.symm).1 rfl), fun b c hb => (hg.block b (Array.getElem?_eq_some_iff.1 hb).1 (fun e => (hr b e.symm).2 c hb)).trans hb⟩
theorem KpN.put {Ab : Nat} {w : World} (hA : Ab < w.heap.size) (W : World) (l : Nat) (o o' : Obj) (hl : w.heap.size ≤ l) (h : W.heap[l]? = some o) (hc : o.isCells = false) (_ : o.isWalk = false) : KpN Ab W (W.putObj l o') := by
  refine ⟨World.putObj_heap_other (by omega), fun b c hb => ?_⟩
  by_cases e : b = l
  · subst e
    rw [hb] at h
    cases h
    cases hc
  · exact (World.putObj_heap_other e).trans hb
set_option maxRecDepth 100000 in
set_option maxHeartbeats 4000000 in
/-- The iterator, for every body that keeps the box of the place and each instruction that is laid. -/
theorem next1_in (F : Fence) (m : Nat) (hF : F.fn 54) (hro : F.round = none) (hm : 1 ≤ m) (op a u : Int) (t : Tree) (i n : Nat) (gv lv pv ev : Value) (g o ic Kb Ab l : Nat) (ta : Option Addr) (tc : Nat) (J Jx : List Nat → World → Prop) (W : World) (hi : i < n) (hn : n ≤ 1500) (h0u : op = 2 ∨ op = 3 → 0 ≤ u)
    (hA : AbidesFrom W.heap.size J)
    (hY : ∀ pre x W1, J pre W1 → x ∈ nextN i ⟨op, a, t, u⟩ → pre.length < 2 → YieldAt F (m - 1) Try.prog l #[.int .i64 ((x : Nat) : Int)] W1 fun e W' => (e = .returned (.bool true) ∧ J (pre ++ [x]) W' ∧ KpN Ab W1 W') ∨ (e = .returned (.bool false) ∧ Jx (pre ++ [x]) W'))
    (hk : Box5 W Kb gv lv pv ev (.slice (some ⟨g, o, none⟩) n ic)) (ha : W.cell? ⟨Ab, 0, none⟩ = some (.int .i64 (i : Int)))
    (c0 : W.cell? ⟨g, o + i * 7, none⟩ = some (.int .i64 op)) (c1 : W.cell? ⟨g, o + i * 7 + 1, none⟩ = some (.int .i64 a)) (c2 : W.cell? ⟨g, o + i * 7 + 2, none⟩ = some (.int .i64 t.kind)) (c3 : W.cell? ⟨g, o + i * 7 + 3, none⟩ = some (.int .i64 t.num)) (c4 : W.cell? ⟨g, o + i * 7 + 4, none⟩ = some (.string t.name)) (c5 : W.cell? ⟨g, o + i * 7 + 5, none⟩ = some (.slice ta t.kids.length tc)) (c6 : W.cell? ⟨g, o + i * 7 + 6, none⟩ = some (.int .i64 u)) (h0 : J [] W) :
    CallsIn F m Try.prog 54 #[.func (.yield l) #[] #[], .pointer (some ⟨Kb, 0, none⟩), .pointer (some ⟨Ab, 0, none⟩)] W fun e W' => (∃ v, e = .returned v) ∧
      ((∃ ys, ys = nextN i ⟨op, a, t, u⟩ ∧ J ys W') ∨ (∃ pre, pre <+: nextN i ⟨op, a, t, u⟩ ∧ Jx pre W')) := by
  obtain ⟨p0, p1, p2, p3, p4⟩ := hk
  obtain ⟨W1, hW1⟩ : ∃ W1, W1 = W.alloc (.cells #[.int .i64 op, .int .i64 a, .int .i64 t.kind, .int .i64 t.num, .string t.name, .slice ta t.kids.length tc, .int .i64 u] 67) := ⟨_, rfl⟩
  have hJ1 : J [] W1 := by rw [hW1]; exact hA [] W _ none h0 (World.grownBy_alloc W _ none) (fun r e => by cases e)
  have hX : W1.heap[W.heap.size]? = some (.cells #[.int .i64 op, .int .i64 a, .int .i64 t.kind, .int .i64 t.num, .string t.name, .slice ta t.kids.length tc, .int .i64 u] 67 (0, 0)) := by rw [hW1]; exact heap_alloc_new W _
  have hAb : Ab < W.heap.size := cell_lt ha
  have ha1 : W1.cell? ⟨Ab, 0, none⟩ = some (.int .i64 (i : Int)) := by rw [hW1]; exact keeps_alloc W _ _ _ ha
  have HX := Lib.hid hX
  have HA1 := Lib.hid ha1
  have HW1 := Lib.hid hW1
  have cell7 : ∀ {V : World}, V.heap[W.heap.size]? = some (.cells #[.int .i64 op, .int .i64 a, .int .i64 t.kind, .int .i64 t.num, .string t.name, .slice ta t.kids.length tc, .int .i64 u] 67 (0, 0)) → V.cell? ⟨W.heap.size, 0, none⟩ = some (.int .i64 op) ∧ V.cell? ⟨W.heap.size, 6, none⟩ = some (.int .i64 u) := fun h => by constructor <;> simp [World.cell?, h]
  by_cases h2 : op = 2
  · subst h2
    by_cases hu : u = (i : Int) + 1
    · subst hu
      have ys : nextN i ⟨2, a, t, (i : Int) + 1⟩ = [i + 1] := by unfold nextN; rw [if_pos rfl, if_pos rfl]
      have ei : ((i + 1 : Nat) : Int) = (i : Int) + 1 := by omega
      obtain ⟨f1, t1, a1, b1, hy1, hR1⟩ := hY [] (i + 1) W1 hJ1 (by rw [ys]; simp) (by simp)
      rw [ei, HW1.out] at hy1
      refine callsIn_of_wp Try.func54 rfl hF ?_ hro
      simp only [Try.ntmps54, List.size_toArray, List.length_cons, List.length_nil, Nat.reduceAdd, Nat.reduceSub, Array.replicate_succ, Array.replicate_zero, List.push_toArray, List.append_toArray, List.nil_append, List.cons_append]
      gi_wp2
      rw [← HW1.out]
      refine hR1.mono ?_
      rintro e W2 (⟨rfl, hJ2, hk2⟩ | ⟨rfl, hx2⟩)
      · obtain ⟨_, d6⟩ := cell7 (hk2.2 _ _ HX.out)
        have da : W2.cell? ⟨Ab, 0, none⟩ = some (.int .i64 (i : Int)) := (World.cell?_of_block hk2.1).trans HA1.out
        gi_wp2
        go_end0
        exact ⟨⟨_, rfl⟩, .inl ⟨[i + 1], ys.symm, hJ2⟩⟩
      · gi_wp2
        go_end0
        exact ⟨⟨_, rfl⟩, .inr ⟨[i + 1], by rw [ys]; exact List.prefix_refl _, hx2⟩⟩
    · have ys : nextN i ⟨2, a, t, u⟩ = [i + 1, u.toNat] := by unfold nextN; rw [if_pos rfl, if_neg hu]
      obtain ⟨z, rfl⟩ : ∃ z : Nat, u = (z : Int) := ⟨u.toNat, by have := h0u (.inl rfl); omega⟩
      have ys2 : nextN i ⟨2, a, t, (z : Int)⟩ = [i + 1, z] := ys
      have ku : ((z : Int) == (i : Int) + 1) = false := by rw [beq_eq_false_iff_ne]; exact hu
      have ei : ((i + 1 : Nat) : Int) = (i : Int) + 1 := by omega
      obtain ⟨f1, t1, a1, b1, hy1, hR1⟩ := hY [] (i + 1) W1 hJ1 (by rw [ys2]; simp) (by simp)
      rw [ei, HW1.out] at hy1
      refine callsIn_of_wp Try.func54 rfl hF ?_ hro
      simp only [Try.ntmps54, List.size_toArray, List.length_cons, List.length_nil, Nat.reduceAdd, Nat.reduceSub, Array.replicate_succ, Array.replicate_zero, List.push_toArray, List.append_toArray, List.nil_append, List.cons_append]
      gi_wp2
      rw [← HW1.out]
      refine hR1.mono ?_
      rintro e W2 (⟨rfl, hJ2, hk2⟩ | ⟨rfl, hx2⟩)
      · obtain ⟨_, d6⟩ := cell7 (hk2.2 _ _ HX.out)
        have da : W2.cell? ⟨Ab, 0, none⟩ = some (.int .i64 (i : Int)) := (World.cell?_of_block hk2.1).trans HA1.out
        obtain ⟨f2, t2, a2, b2, hy2, hR2⟩ := hY [i + 1] z W2 hJ2 (by rw [ys2]; simp) (by simp)
        gi_wp2
        refine hR2.mono ?_
        rintro e W3 (⟨rfl, hJ3, _⟩ | ⟨rfl, hx3⟩)
        · gi_wp2
          go_end0
          exact ⟨⟨_, rfl⟩, .inl ⟨[i + 1, z], ys2.symm, hJ3⟩⟩
        · gi_wp2
          go_end0
          exact ⟨⟨_, rfl⟩, .inr ⟨[i + 1, z], by rw [ys2]; exact List.prefix_refl _, hx3⟩⟩
      · gi_wp2
        go_end0
        exact ⟨⟨_, rfl⟩, .inr ⟨[i + 1], by rw [ys2]; exact ⟨[z], rfl⟩, hx2⟩⟩
  · by_cases h3 : op = 3
    · subst h3
      have ys : nextN i ⟨3, a, t, u⟩ = [u.toNat] := by unfold nextN; rw [if_neg (by show ¬ ((3 : Int) = 2); decide), if_pos rfl]
      obtain ⟨z, rfl⟩ : ∃ z : Nat, u = (z : Int) := ⟨u.toNat, by have := h0u (.inr rfl); omega⟩
      have ys2 : nextN i ⟨3, a, t, (z : Int)⟩ = [z] := ys
      obtain ⟨f1, t1, a1, b1, hy1, hR1⟩ := hY [] z W1 hJ1 (by rw [ys2]; simp) (by simp)
      rw [HW1.out] at hy1
      refine callsIn_of_wp Try.func54 rfl hF ?_ hro
      simp only [Try.ntmps54, List.size_toArray, List.length_cons, List.length_nil, Nat.reduceAdd, Nat.reduceSub, Array.replicate_succ, Array.replicate_zero, List.push_toArray, List.append_toArray, List.nil_append, List.cons_append]
      gi_wp2
      rw [← HW1.out]
      refine hR1.mono ?_
      rintro e W2 (⟨rfl, hJ2, _⟩ | ⟨rfl, hx2⟩)
      · gi_wp2
        go_end0
        exact ⟨⟨_, rfl⟩, .inl ⟨[z], ys2.symm, hJ2⟩⟩
      · gi_wp2
        go_end0
        exact ⟨⟨_, rfl⟩, .inr ⟨[z], by rw [ys2]; exact List.prefix_refl _, hx2⟩⟩
    · by_cases h9 : op = 9
      · subst h9
        have ys : nextN i ⟨9, a, t, u⟩ = [] := by unfold nextN; rw [if_neg (by show ¬ ((9 : Int) = 2); decide), if_neg (by show ¬ ((9 : Int) = 3); decide), if_pos rfl]
        refine callsIn_of_wp Try.func54 rfl hF ?_ hro
        simp only [Try.ntmps54, List.size_toArray, List.length_cons, List.length_nil, Nat.reduceAdd, Nat.reduceSub, Array.replicate_succ, Array.replicate_zero, List.push_toArray, List.append_toArray, List.nil_append, List.cons_append]
        gi_wp2
        go_end0
        exact ⟨⟨_, rfl⟩, .inl ⟨[], ys.symm, by rw [← HW1.out]; exact hJ1⟩⟩
      · have ys : nextN i ⟨op, a, t, u⟩ = [i + 1] := by unfold nextN; rw [if_neg h2, if_neg h3, if_neg h9]
        have k2 : (op == 2) = false := by rw [beq_eq_false_iff_ne]; exact h2
        have k3 : (op == 3) = false := by rw [beq_eq_false_iff_ne]; exact h3
        have k9 : (op == 9) = false := by rw [beq_eq_false_iff_ne]; exact h9
        have ei : ((i + 1 : Nat) : Int) = (i : Int) + 1 := by omega
        obtain ⟨f1, t1, a1, b1, hy1, hR1⟩ := hY [] (i + 1) W1 hJ1 (by rw [ys]; simp) (by simp)
        rw [ei, HW1.out] at hy1
        refine callsIn_of_wp Try.func54 rfl hF ?_ hro
        simp only [Try.ntmps54, List.size_toArray, List.length_cons, List.length_nil, Nat.reduceAdd, Nat.reduceSub, Array.replicate_succ, Array.replicate_zero, List.push_toArray, List.append_toArray, List.nil_append, List.cons_append]
        gi_wp2
        rw [← HW1.out]
        refine hR1.mono ?_
        rintro e W2 (⟨rfl, hJ2, _⟩ | ⟨rfl, hx2⟩)
        · gi_wp2
          go_end0
          exact ⟨⟨_, rfl⟩, .inl ⟨[(i + 1)], ys.symm, hJ2⟩⟩
        · gi_wp2
          go_end0
          exact ⟨⟨_, rfl⟩, .inr ⟨[(i + 1)], by rw [ys]; exact List.prefix_refl _, hx2⟩⟩
end Go.Proofs.Ytkfeiekgdfklmaa.Trm
