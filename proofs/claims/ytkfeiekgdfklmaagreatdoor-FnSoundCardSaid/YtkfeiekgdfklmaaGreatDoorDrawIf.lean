/- The model's drawn statements, walked: those with two lists within them, given what draws the lists. Conditions: the bytes lie in memory that is older than the cursor. -/
import Derived.Test.YtkfeiekgdfklmaaGreatDoorDrawStmt
namespace Go.Proofs.YtkfeiekgdfklmaaGreatDoor.Cur
open Go.RowKit Own Trm Lexs
/-- A statement's block, written whole. -/
def Box (w : World) (r : Nat) (a0 a1 a2 a3 a4 a5 a6 a7 : Value) : Prop := w.heap[r]? = some (.cells #[a0, a1, a2, a3, a4, a5, a6, a7] 36 (0, 0))
theorem Box.cells {w : World} {r : Nat} {a0 a1 a2 a3 a4 a5 a6 a7 : Value} (h : Box w r a0 a1 a2 a3 a4 a5 a6 a7) : w.cell? ⟨r, 0, none⟩ = some a0 ∧ w.cell? ⟨r, 1, none⟩ = some a1 ∧ w.cell? ⟨r, 2, none⟩ = some a2 ∧ w.cell? ⟨r, 3, none⟩ = some a3 ∧ w.cell? ⟨r, 4, none⟩ = some a4 ∧ w.cell? ⟨r, 5, none⟩ = some a5 ∧ w.cell? ⟨r, 6, none⟩ = some a6 ∧ w.cell? ⟨r, 7, none⟩ = some a7 ∧ (∀ j, w.frozen? ⟨r, j, none⟩ = false) := by
  refine ⟨?_, ?_, ?_, ?_, ?_, ?_, ?_, ?_, fun j => frozen_of_row w r j _ _ h⟩
  all_goals (rw [cell_of_row w r _ _ _ _ h]; rfl)
theorem Box.next {w w' : World} {r : Nat} {row : Option Nat} {a0 a1 a2 a3 a4 a5 a6 a7 : Value} (h : Box w r a0 a1 a2 a3 a4 a5 a6 a7) (hg : w.grownBy w' row) (hr : row ≠ some r) : Box w' r a0 a1 a2 a3 a4 a5 a6 a7 := by
  have hlt : r < w.heap.size := cell_lt h.cells.1
  exact (hg.block r hlt (fun e => hr e.symm)).trans h
theorem Box.put {w : World} {r : Nat} {a0 a1 a2 a3 a4 a5 a6 a7 : Value} (h : Box w r a0 a1 a2 a3 a4 a5 a6 a7) (v : Value) : Box (w.setCell ⟨r, 7, none⟩ v) r a0 a1 a2 a3 a4 a5 a6 v := heap_setCell_same w r 7 _ _ _ h
set_option maxHeartbeats 1600000 in
theorem stmt_if_no (bs : List UInt8) (d : Nat) (hd : d ≤ 1000) (ih : DrawLOk bs d) (W0 w : World) (c : Nat) (bv : Value) (s : St) (k2 : Nat) (h : At W0 w c bs bv s) (hk : pickN bs 14 s = k2) (hk2 : 12 ≤ k2) (ho : ¬ belowF bs 2 (drawL bs d (drawT bs 1 (belowS bs 14 s)).2).2 = 0) :
    Calls Tryz.prog 131 #[.pointer (some ⟨c, 0, none⟩), .int .i64 ((d + 1 : Nat) : Int)] w fun e w' => ∃ v, e = .returned v ∧ DX w' w.heap.size w'.heap.size (drawS bs (d + 1) s).1 v ∧ Next W0 w c bs bv (drawS bs (d + 1) s).2 w' := by
  have hq8 : ((k2 : Int) == 8) = false := by rw [beq_eq_false_iff_ne]; omega
  have hq9 : ((k2 : Int) == 9) = false := by rw [beq_eq_false_iff_ne]; omega
  have hq10 : ((k2 : Int) == 10) = false := by rw [beq_eq_false_iff_ne]; omega
  have hq11 : ((k2 : Int) == 11) = false := by rw [beq_eq_false_iff_ne]; omega
  have HO := Lib.hid ho
  have HT : Hid (drawS bs (d + 1) s = (.node 2 ⟨#[]⟩ (drawT bs 1 (belowS bs 14 s)).1 (drawL bs d (drawT bs 1 (belowS bs 14 s)).2).1 [], belowS bs 2 (drawL bs d (drawT bs 1 (belowS bs 14 s)).2).2)) := by show _ = _; rw [drawS]; rw [if_neg (by omega)]; dsimp only; rw [if_neg (by omega)]; exact if_neg ho
  have IH := Lib.hid ih
  have hcw := h.lt
  have hA := h.grown (World.grownBy_alloc w (.cells #[.int .i64 0, .string ⟨#[]⟩, .int .i64 0, .int .i64 0, .string ⟨#[]⟩, .slice none 0 0, .slice none 0 0, .slice none 0 0] 36) none)
  have C := Lib.hid (below_any W0 _ c bs bv s 14 hA (by unfold InI; omega))
  have hp := pickN_eq bs 14 s (by decide)
  rw [show ((14 : Nat) : Int) = 14 from rfl] at hp
  rw [hp, hk] at C
  have hd1 : ((d + 1 : Nat) : Int) - 1 = (d : Int) := by omega
  have R0 : Res8 (w.alloc (.cells #[.int .i64 0, .string ⟨#[]⟩, .int .i64 0, .int .i64 0, .string ⟨#[]⟩, .slice none 0 0, .slice none 0 0, .slice none 0 0] 36)) w.heap.size := heap_alloc_new _ _
  have HR0 := Lib.hid R0
  clear hk ih hp h R0 hA ho
  go_enter Tryz.func131, Tryz.ntmps131
  go_wp2_with fail
  refine C.out.mono ?_
  rintro e w1 ⟨rfl, hx⟩
  have X1 := Lib.hid hx
  have R1 := Lib.hid (HR0.out.next hx.2 (by simp; omega))
  have hw1 := hx.2.size
  have hw1b : w.heap.size < w1.heap.size := by simp at hw1; omega
  clear hx hw1
  go_wp2_with fail
  refine (draw_any bs 1 (by decide) W0 w1 c bv _ X1.out.1).mono ?_
  rintro e w2 ⟨v2, rfl, hl2, hx2⟩
  obtain ⟨va, vc, rfl⟩ := hl2.shape
  have HL2 := Lib.hid hl2
  have X2 := Lib.hid hx2
  have R2 := Lib.hid (R1.out.next hx2.2 (by simp; omega))
  have G2 := Lib.hid (X1.out.2.trans hx2.2)
  have hw2b : w1.heap.size ≤ w2.heap.size := hx2.2.size
  clear hl2 hx2
  go_wp2_with fail
  refine (IH.out W0 w2 c bv _ X2.out.1).mono ?_
  rintro e w3 ⟨v3, rfl, hk3, ⟨gb, cb, rfl⟩, hx3⟩
  have HK3 := Lib.hid hk3
  have X3 := Lib.hid hx3
  have R3 := Lib.hid (R2.out.next hx3.2 (by simp; omega))
  have G3 := Lib.hid (G2.out.trans hx3.2)
  have hw3b : w2.heap.size ≤ w3.heap.size := hx3.2.size
  have HT3 := Lib.hid ((HL2.out.keep cut_young).keep (cut_same (w' := w3) (Nat.le_refl _) (Nat.le_refl _) (fun k h1 h2 => hx3.2.block k h2 (by simp; omega))))
  clear hk3 hx3
  have X4 : Hid (Next W0 w3 c bs bv _ (w3.alloc (.cells #[.int .i64 2, .string ⟨#[]⟩, .int .i64 (drawT bs 1 (belowS bs 14 s)).1.kind, .int .i64 (drawT bs 1 (belowS bs 14 s)).1.num, .string (drawT bs 1 (belowS bs 14 s)).1.name, .slice va (drawT bs 1 (belowS bs 14 s)).1.kids.length vc, .slice (some ⟨gb, 0, none⟩) (drawL bs d (drawT bs 1 (belowS bs 14 s)).2).1.length cb, .slice none 0 0] 36))) := ⟨X3.out.1.grown (World.grownBy_alloc _ _ _), World.grownBy_alloc _ _ _⟩
  have B4 : Hid (Box (w3.alloc (.cells #[.int .i64 2, .string ⟨#[]⟩, .int .i64 (drawT bs 1 (belowS bs 14 s)).1.kind, .int .i64 (drawT bs 1 (belowS bs 14 s)).1.num, .string (drawT bs 1 (belowS bs 14 s)).1.name, .slice va (drawT bs 1 (belowS bs 14 s)).1.kids.length vc, .slice (some ⟨gb, 0, none⟩) (drawL bs d (drawT bs 1 (belowS bs 14 s)).2).1.length cb, .slice none 0 0] 36)) w3.heap.size (.int .i64 2) (.string ⟨#[]⟩) (.int .i64 (drawT bs 1 (belowS bs 14 s)).1.kind) (.int .i64 (drawT bs 1 (belowS bs 14 s)).1.num) (.string (drawT bs 1 (belowS bs 14 s)).1.name) (.slice va (drawT bs 1 (belowS bs 14 s)).1.kids.length vc) (.slice (some ⟨gb, 0, none⟩) (drawL bs d (drawT bs 1 (belowS bs 14 s)).2).1.length cb) (.slice none 0 0)) := heap_alloc_new _ _
  have hs4 : Hid ((w3.alloc (.cells #[.int .i64 2, .string ⟨#[]⟩, .int .i64 (drawT bs 1 (belowS bs 14 s)).1.kind, .int .i64 (drawT bs 1 (belowS bs 14 s)).1.num, .string (drawT bs 1 (belowS bs 14 s)).1.name, .slice va (drawT bs 1 (belowS bs 14 s)).1.kids.length vc, .slice (some ⟨gb, 0, none⟩) (drawL bs d (drawT bs 1 (belowS bs 14 s)).2).1.length cb, .slice none 0 0] 36)).heap.size = w3.heap.size + 1) := by show _ = _; simp
  have R4 := Lib.hid (R3.out.next X4.out.2 (by simp; omega))
  have hcw3 : c < w3.heap.size := by omega
  go_wp2_with fail
  refine (once_no W0 _ c bs bv _ X4.out.1 HO.out).mono ?_
  rintro e w5 ⟨rfl, hx5⟩
  have X5 := Lib.hid hx5
  have B5 := Lib.hid (B4.out.next hx5.2 (by simp; omega))
  have R5 := Lib.hid (R4.out.next hx5.2 (by simp; omega))
  have G5 := Lib.hid ((G3.out.trans X4.out.2).trans hx5.2)
  have hw5b : w3.heap.size + 1 ≤ w5.heap.size := by have := hx5.2.size; rw [hs4.out] at this; exact this
  have HT5 := Lib.hid (HT3.out.keep (cut_same (w' := w5) (Nat.le_refl _) (Nat.le_refl _) (fun k h1 h2 => ((X4.out.2.trans hx5.2).block k (by omega) (by simp; omega)))))
  have HK5 := Lib.hid (HK3.out.same (w' := w5) (fun k h1 h2 => ((X4.out.2.trans hx5.2).block k (by omega) (by simp; omega))))
  clear hx5 X4 B4 hs4 R4
  obtain ⟨q0, q1, q2, q3, q4, q5, q6, q7, _⟩ := B5.out.cells
  obtain ⟨r0, r1, r2, r3, r4, r5, r6, r7, qf⟩ := R5.out.cells
  have f0 := qf 0
  have f1 := qf 1
  have f2 := qf 2
  have f3 := qf 3
  have f4 := qf 4
  have f5 := qf 5
  have f6 := qf 6
  have f7 := qf 7
  clear qf
  go_wp2
  refine bodyPost_ret (v := .agg #[.int .i64 2, .string ⟨#[]⟩, .int .i64 (drawT bs 1 (belowS bs 14 s)).1.kind, .int .i64 (drawT bs 1 (belowS bs 14 s)).1.num, .string (drawT bs 1 (belowS bs 14 s)).1.name, .slice va (drawT bs 1 (belowS bs 14 s)).1.kids.length vc, .slice (some ⟨gb, 0, none⟩) (drawL bs d (drawT bs 1 (belowS bs 14 s)).2).1.length cb, .slice none 0 0]) (by simp [results, Tryz.results131, go_sem, r0, r1, r2, r3, r4, r5, r6, r7]) rfl ⟨_, rfl, ?_, ?_⟩
  · rw [HT.out]
    refine dx_put (lo := w1.heap.size) ?_ (by omega) (by omega) _ _ _ _ _ _ _ _
    exact DX.mk (x := .node 2 ⟨#[]⟩ (drawT bs 1 (belowS bs 14 s)).1 (drawL bs d (drawT bs 1 (belowS bs 14 s)).2).1 []) (m1 := w2.heap.size) (m2 := w3.heap.size) (by show InI 2; unfold InI; omega) (by show (0 : Nat) ≤ _; omega) hw2b HT5.out HK5.out (DK.nil _ (by omega))
  · rw [HT.out]
    exact next_res8 X5.out.1 G5.out hcw
set_option maxHeartbeats 1600000 in
theorem stmt_if_els (bs : List UInt8) (d : Nat) (hd : d ≤ 1000) (ih : DrawLOk bs d) (W0 w : World) (c : Nat) (bv : Value) (s : St) (k2 : Nat) (h : At W0 w c bs bv s) (hk : pickN bs 14 s = k2) (hk2 : 12 ≤ k2) (ho : belowF bs 2 (drawL bs d (drawT bs 1 (belowS bs 14 s)).2).2 = 0) :
    Calls Tryz.prog 131 #[.pointer (some ⟨c, 0, none⟩), .int .i64 ((d + 1 : Nat) : Int)] w fun e w' => ∃ v, e = .returned v ∧ DX w' w.heap.size w'.heap.size (drawS bs (d + 1) s).1 v ∧ Next W0 w c bs bv (drawS bs (d + 1) s).2 w' := by
  have hq8 : ((k2 : Int) == 8) = false := by rw [beq_eq_false_iff_ne]; omega
  have hq9 : ((k2 : Int) == 9) = false := by rw [beq_eq_false_iff_ne]; omega
  have hq10 : ((k2 : Int) == 10) = false := by rw [beq_eq_false_iff_ne]; omega
  have hq11 : ((k2 : Int) == 11) = false := by rw [beq_eq_false_iff_ne]; omega
  have HO := Lib.hid ho
  have HT : Hid (drawS bs (d + 1) s = (.node 2 ⟨#[]⟩ (drawT bs 1 (belowS bs 14 s)).1 (drawL bs d (drawT bs 1 (belowS bs 14 s)).2).1 (drawL bs d (belowS bs 2 (drawL bs d (drawT bs 1 (belowS bs 14 s)).2).2)).1, (drawL bs d (belowS bs 2 (drawL bs d (drawT bs 1 (belowS bs 14 s)).2).2)).2)) := by show _ = _; rw [drawS]; rw [if_neg (by omega)]; dsimp only; rw [if_neg (by omega)]; exact if_pos ho
  have IH := Lib.hid ih
  have hcw := h.lt
  have hA := h.grown (World.grownBy_alloc w (.cells #[.int .i64 0, .string ⟨#[]⟩, .int .i64 0, .int .i64 0, .string ⟨#[]⟩, .slice none 0 0, .slice none 0 0, .slice none 0 0] 36) none)
  have C := Lib.hid (below_any W0 _ c bs bv s 14 hA (by unfold InI; omega))
  have hp := pickN_eq bs 14 s (by decide)
  rw [show ((14 : Nat) : Int) = 14 from rfl] at hp
  rw [hp, hk] at C
  have hd1 : ((d + 1 : Nat) : Int) - 1 = (d : Int) := by omega
  have R0 : Res8 (w.alloc (.cells #[.int .i64 0, .string ⟨#[]⟩, .int .i64 0, .int .i64 0, .string ⟨#[]⟩, .slice none 0 0, .slice none 0 0, .slice none 0 0] 36)) w.heap.size := heap_alloc_new _ _
  have HR0 := Lib.hid R0
  clear hk ih hp h R0 hA ho
  go_enter Tryz.func131, Tryz.ntmps131
  go_wp2_with fail
  refine C.out.mono ?_
  rintro e w1 ⟨rfl, hx⟩
  have X1 := Lib.hid hx
  have R1 := Lib.hid (HR0.out.next hx.2 (by simp; omega))
  have hw1 := hx.2.size
  have hw1b : w.heap.size < w1.heap.size := by simp at hw1; omega
  clear hx hw1
  go_wp2_with fail
  refine (draw_any bs 1 (by decide) W0 w1 c bv _ X1.out.1).mono ?_
  rintro e w2 ⟨v2, rfl, hl2, hx2⟩
  obtain ⟨va, vc, rfl⟩ := hl2.shape
  have HL2 := Lib.hid hl2
  have X2 := Lib.hid hx2
  have R2 := Lib.hid (R1.out.next hx2.2 (by simp; omega))
  have G2 := Lib.hid (X1.out.2.trans hx2.2)
  have hw2b : w1.heap.size ≤ w2.heap.size := hx2.2.size
  clear hl2 hx2
  go_wp2_with fail
  refine (IH.out W0 w2 c bv _ X2.out.1).mono ?_
  rintro e w3 ⟨v3, rfl, hk3, ⟨gb, cb, rfl⟩, hx3⟩
  have HK3 := Lib.hid hk3
  have X3 := Lib.hid hx3
  have R3 := Lib.hid (R2.out.next hx3.2 (by simp; omega))
  have G3 := Lib.hid (G2.out.trans hx3.2)
  have hw3b : w2.heap.size ≤ w3.heap.size := hx3.2.size
  have HT3 := Lib.hid ((HL2.out.keep cut_young).keep (cut_same (w' := w3) (Nat.le_refl _) (Nat.le_refl _) (fun k h1 h2 => hx3.2.block k h2 (by simp; omega))))
  clear hk3 hx3
  have X4 : Hid (Next W0 w3 c bs bv _ (w3.alloc (.cells #[.int .i64 2, .string ⟨#[]⟩, .int .i64 (drawT bs 1 (belowS bs 14 s)).1.kind, .int .i64 (drawT bs 1 (belowS bs 14 s)).1.num, .string (drawT bs 1 (belowS bs 14 s)).1.name, .slice va (drawT bs 1 (belowS bs 14 s)).1.kids.length vc, .slice (some ⟨gb, 0, none⟩) (drawL bs d (drawT bs 1 (belowS bs 14 s)).2).1.length cb, .slice none 0 0] 36))) := ⟨X3.out.1.grown (World.grownBy_alloc _ _ _), World.grownBy_alloc _ _ _⟩
  have B4 : Hid (Box (w3.alloc (.cells #[.int .i64 2, .string ⟨#[]⟩, .int .i64 (drawT bs 1 (belowS bs 14 s)).1.kind, .int .i64 (drawT bs 1 (belowS bs 14 s)).1.num, .string (drawT bs 1 (belowS bs 14 s)).1.name, .slice va (drawT bs 1 (belowS bs 14 s)).1.kids.length vc, .slice (some ⟨gb, 0, none⟩) (drawL bs d (drawT bs 1 (belowS bs 14 s)).2).1.length cb, .slice none 0 0] 36)) w3.heap.size (.int .i64 2) (.string ⟨#[]⟩) (.int .i64 (drawT bs 1 (belowS bs 14 s)).1.kind) (.int .i64 (drawT bs 1 (belowS bs 14 s)).1.num) (.string (drawT bs 1 (belowS bs 14 s)).1.name) (.slice va (drawT bs 1 (belowS bs 14 s)).1.kids.length vc) (.slice (some ⟨gb, 0, none⟩) (drawL bs d (drawT bs 1 (belowS bs 14 s)).2).1.length cb) (.slice none 0 0)) := heap_alloc_new _ _
  have hs4 : Hid ((w3.alloc (.cells #[.int .i64 2, .string ⟨#[]⟩, .int .i64 (drawT bs 1 (belowS bs 14 s)).1.kind, .int .i64 (drawT bs 1 (belowS bs 14 s)).1.num, .string (drawT bs 1 (belowS bs 14 s)).1.name, .slice va (drawT bs 1 (belowS bs 14 s)).1.kids.length vc, .slice (some ⟨gb, 0, none⟩) (drawL bs d (drawT bs 1 (belowS bs 14 s)).2).1.length cb, .slice none 0 0] 36)).heap.size = w3.heap.size + 1) := by show _ = _; simp
  have R4 := Lib.hid (R3.out.next X4.out.2 (by simp; omega))
  have hcw3 : c < w3.heap.size := by omega
  go_wp2_with fail
  refine (once_yes W0 _ c bs bv _ X4.out.1 HO.out).mono ?_
  rintro e w5 ⟨rfl, hx5⟩
  have X5 := Lib.hid hx5
  have B5 := Lib.hid (B4.out.next hx5.2 (by simp; omega))
  have R5 := Lib.hid (R4.out.next hx5.2 (by simp; omega))
  have G5 := Lib.hid ((G3.out.trans X4.out.2).trans hx5.2)
  have hw5b : w3.heap.size + 1 ≤ w5.heap.size := by have := hx5.2.size; rw [hs4.out] at this; exact this
  have HT5 := Lib.hid (HT3.out.keep (cut_same (w' := w5) (Nat.le_refl _) (Nat.le_refl _) (fun k h1 h2 => ((X4.out.2.trans hx5.2).block k (by omega) (by simp; omega)))))
  have HK5 := Lib.hid (HK3.out.same (w' := w5) (fun k h1 h2 => ((X4.out.2.trans hx5.2).block k (by omega) (by simp; omega))))
  clear hx5 X4 B4 hs4 R4
  go_wp2_with fail
  refine (IH.out W0 w5 c bv _ X5.out.1).mono ?_
  rintro e w6 ⟨v6, rfl, hk6, ⟨ge, ce, rfl⟩, hx6⟩
  have HK6 := Lib.hid hk6
  have X6 := Lib.hid hx6
  have B6 := Lib.hid (B5.out.next hx6.2 (by simp; omega))
  have R6 := Lib.hid (R5.out.next hx6.2 (by simp; omega))
  have G6 := Lib.hid (G5.out.trans hx6.2)
  have hw6b : w5.heap.size ≤ w6.heap.size := hx6.2.size
  have HT6 := Lib.hid (HT5.out.keep (cut_same (w' := w6) (Nat.le_refl _) (Nat.le_refl _) (fun k h1 h2 => (hx6.2.block k (by omega) (by simp; omega)))))
  have HB6 := Lib.hid (HK5.out.same (w' := w6) (fun k h1 h2 => (hx6.2.block k (by omega) (by simp; omega))))
  have f37 := B6.out.cells.2.2.2.2.2.2.2.2 7
  have q37 := B6.out.cells.2.2.2.2.2.2.2.1
  have Bp := Lib.hid (B6.out.put (.slice (some ⟨ge, 0, none⟩) (drawL bs d (belowS bs 2 (drawL bs d (drawT bs 1 (belowS bs 14 s)).2).2)).1.length ce))
  have hne : w.heap.size ≠ w3.heap.size := by omega
  have R7 : Hid (Res8 (w6.setCell ⟨w3.heap.size, 7, none⟩ (.slice (some ⟨ge, 0, none⟩) (drawL bs d (belowS bs 2 (drawL bs d (drawT bs 1 (belowS bs 14 s)).2).2)).1.length ce)) w.heap.size) := (heap_setCell_other w6 ⟨w3.heap.size, 7, none⟩ w.heap.size _ (by simp; omega)).trans R6.out
  clear hk6 hx6
  obtain ⟨q0, q1, q2, q3, q4, q5, q6, q7, _⟩ := Bp.out.cells
  obtain ⟨r0, r1, r2, r3, r4, r5, r6, r7, qf⟩ := R7.out.cells
  have f0 := qf 0
  have f1 := qf 1
  have f2 := qf 2
  have f3 := qf 3
  have f4 := qf 4
  have f5 := qf 5
  have f6 := qf 6
  have f7 := qf 7
  clear qf
  go_wp2
  refine bodyPost_ret (v := .agg #[.int .i64 2, .string ⟨#[]⟩, .int .i64 (drawT bs 1 (belowS bs 14 s)).1.kind, .int .i64 (drawT bs 1 (belowS bs 14 s)).1.num, .string (drawT bs 1 (belowS bs 14 s)).1.name, .slice va (drawT bs 1 (belowS bs 14 s)).1.kids.length vc, .slice (some ⟨gb, 0, none⟩) (drawL bs d (drawT bs 1 (belowS bs 14 s)).2).1.length cb, .slice (some ⟨ge, 0, none⟩) (drawL bs d (belowS bs 2 (drawL bs d (drawT bs 1 (belowS bs 14 s)).2).2)).1.length ce]) (by simp [results, Tryz.results131, go_sem, r0, r1, r2, r3, r4, r5, r6, r7]) rfl ⟨_, rfl, ?_, ?_⟩
  · rw [HT.out]
    refine dx_put (lo := w1.heap.size) ?_ (by omega) (by omega) _ _ _ _ _ _ _ _
    refine DX.mk (x := .node 2 ⟨#[]⟩ (drawT bs 1 (belowS bs 14 s)).1 (drawL bs d (drawT bs 1 (belowS bs 14 s)).2).1 (drawL bs d (belowS bs 2 (drawL bs d (drawT bs 1 (belowS bs 14 s)).2).2)).1) (m1 := w2.heap.size) (m2 := w3.heap.size) (by show InI 2; unfold InI; omega) (by show (0 : Nat) ≤ _; omega) hw2b (HT6.out.keep (cut_same (Nat.le_refl _) (Nat.le_refl _) (fun k h1 h2 => heap_setCell_other _ _ _ _ (by simp; omega)))) (HB6.out.same (fun k h1 h2 => heap_setCell_other _ _ _ _ (by simp; omega))) ((HK6.out.same (fun k h1 h2 => heap_setCell_other _ _ _ _ (by simp; omega))).wide (by omega) (by simp))
  · rw [HT.out]
    have X7 : At W0 (w6.setCell ⟨w3.heap.size, 7, none⟩ (.slice (some ⟨ge, 0, none⟩) (drawL bs d (belowS bs 2 (drawL bs d (drawT bs 1 (belowS bs 14 s)).2).2)).1.length ce)) c bs bv _ := X6.out.1.put hcw3 7 _
    refine next_res8 X7 ⟨G6.out.os, G6.out.tape, G6.out.output, by simpa using G6.out.size, fun k hk hn => ?_⟩ hcw
    exact (heap_setCell_other _ _ _ _ (by have := hk; simp at this ⊢; omega)).trans (G6.out.block k hk hn)
end Go.Proofs.YtkfeiekgdfklmaaGreatDoor.Cur
