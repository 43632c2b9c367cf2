/- The model's drawn statements, walked: one statement, given what draws those within it. Conditions: the bytes lie in memory that is older than the cursor. -/
import Derived.Test.YtkfeiekgdfklmaaGreatDoorChecked
import Derived.Test.YtkfeiekgdfklmaaGreatDoorDOwn
import Derived.Test.YtkfeiekgdfklmaaGreatDoorDrawPure
import Derived.WalkKit
import Derived.WalkSmall
import Derived.Outline
namespace Go.Proofs.YtkfeiekgdfklmaaGreatDoor.Cur
open Go.RowKit Own Trm Lexs
theorem DK.nil (w : World) {lo hi : Nat} (h : lo ≤ hi) : DK w lo hi [] (.slice none 0 0) := ⟨[], ⟨rfl, .inl ⟨rfl, rfl⟩⟩, fun q hq => by simp [Value.ownBlock] at hq, rfl, h⟩
theorem liesD_zT (w : World) : LiesD w zT (aggT zT (.slice none 0 0)) := ⟨zT_lies w, ⟨by simp, none, 0, rfl, fun h => by simp at h⟩⟩
/-- A statement of a kind with a name alone, or with nothing. -/
theorem dx_word (w : World) {lo hi : Nat} (hl : lo ≤ hi) (k : Int) (hk : InI k) (s : ByteArray) (hs : s.size ≤ 9223372036854775807) :
    DX w lo hi (.node k s zT [] []) (.agg #[.int .i64 k, .string s, .int .i64 0, .int .i64 0, .string ⟨#[]⟩, .slice none 0 0, .slice none 0 0, .slice none 0 0]) :=
  DX.mk (x := .node k s zT [] []) (m1 := lo) (m2 := lo) hk hs (Nat.le_refl _) (liesD_zT _) (DK.nil w (Nat.le_refl _)) (DK.nil w hl)
theorem pick3_size (bs : List UInt8) (s : St) (a b c : ByteArray) (ha : a.size ≤ 9223372036854775807) (hb : b.size ≤ 9223372036854775807) (hc : c.size ≤ 9223372036854775807) : (pick3 bs [a, b, c] s).size ≤ 9223372036854775807 := pick3_in (P := fun x => x.size ≤ 9223372036854775807) bs s a b c ha hb hc
theorem pick_set (W0 w : World) (c : Nat) (bs : List UInt8) (bv : Value) (s : St) (h : At W0 w c bs bv s) :
    Calls Tryz.prog 132 #[.pointer (some ⟨c, 0, none⟩), .slice (some ⟨w.heap.size, 0, none⟩) 3 3] (w.alloc (.cells #[.string ⟨#[120]⟩, .string ⟨#[121]⟩, .string ⟨#[122]⟩] 9)) fun e w' => e = .returned (.string (pick3 bs setL s)) ∧ Next W0 (w.alloc (.cells #[.string ⟨#[120]⟩, .string ⟨#[121]⟩, .string ⟨#[122]⟩] 9)) c bs bv (belowS bs 3 s) w' :=
  pick_any W0 _ c bs bv s (h.grown (World.grownBy_alloc _ _ _)) setL (by decide) (by decide) w.heap.size 3 9 (0, 0) (heap_alloc_new _ _) (by have := h.lt; omega)
theorem pick_set_size (bs : List UInt8) (s : St) : (pick3 bs setL s).size ≤ 9223372036854775807 := pick3_size bs s _ _ _ (by decide) (by decide) (by decide)
theorem pick_lock (W0 w : World) (c : Nat) (bs : List UInt8) (bv : Value) (s : St) (h : At W0 w c bs bv s) :
    Calls Tryz.prog 132 #[.pointer (some ⟨c, 0, none⟩), .slice (some ⟨w.heap.size, 0, none⟩) 3 3] (w.alloc (.cells #[.string ⟨#[97]⟩, .string ⟨#[98]⟩, .string ⟨#[109]⟩] 9)) fun e w' => e = .returned (.string (pick3 bs lockL s)) ∧ Next W0 (w.alloc (.cells #[.string ⟨#[97]⟩, .string ⟨#[98]⟩, .string ⟨#[109]⟩] 9)) c bs bv (belowS bs 3 s) w' :=
  pick_any W0 _ c bs bv s (h.grown (World.grownBy_alloc _ _ _)) lockL (by decide) (by decide) w.heap.size 3 9 (0, 0) (heap_alloc_new _ _) (by have := h.lt; omega)
theorem pick_lock_size (bs : List UInt8) (s : St) : (pick3 bs lockL s).size ≤ 9223372036854775807 := pick3_size bs s _ _ _ (by decide) (by decide) (by decide)
theorem pick_proc (W0 w : World) (c : Nat) (bs : List UInt8) (bv : Value) (s : St) (h : At W0 w c bs bv s) :
    Calls Tryz.prog 132 #[.pointer (some ⟨c, 0, none⟩), .slice (some ⟨w.heap.size, 0, none⟩) 3 3] (w.alloc (.cells #[.string ⟨#[112]⟩, .string ⟨#[113]⟩, .string ⟨#[114]⟩] 9)) fun e w' => e = .returned (.string (pick3 bs procL s)) ∧ Next W0 (w.alloc (.cells #[.string ⟨#[112]⟩, .string ⟨#[113]⟩, .string ⟨#[114]⟩] 9)) c bs bv (belowS bs 3 s) w' :=
  pick_any W0 _ c bs bv s (h.grown (World.grownBy_alloc _ _ _)) procL (by decide) (by decide) w.heap.size 3 9 (0, 0) (heap_alloc_new _ _) (by have := h.lt; omega)
theorem pick_proc_size (bs : List UInt8) (s : St) : (pick3 bs procL s).size ≤ 9223372036854775807 := pick3_size bs s _ _ _ (by decide) (by decide) (by decide)
theorem once_yes (W0 w : World) (c : Nat) (bs : List UInt8) (bv : Value) (s : St) (h : At W0 w c bs bv s) (hb : belowF bs 2 s = 0) :
    Calls Tryz.prog 86 #[.pointer (some ⟨c, 0, none⟩), .int .i64 2] w fun e w' => e = .returned (.bool true) ∧ Next W0 w c bs bv (belowS bs 2 s) w' := by
  have C := Lib.hid (below_any W0 w c bs bv s 2 h (by unfold InI; omega))
  rw [hb] at C
  clear h hb
  go_enter Tryz.func86, Tryz.ntmps86
  go_wp2_with fail
  refine C.out.mono ?_
  rintro e w1 ⟨rfl, hx⟩
  have X := Lib.hid hx
  clear hx
  go_wp2
  go_ret
  exact ⟨rfl, X.out⟩
theorem once_no (W0 w : World) (c : Nat) (bs : List UInt8) (bv : Value) (s : St) (h : At W0 w c bs bv s) (hb : ¬ belowF bs 2 s = 0) :
    Calls Tryz.prog 86 #[.pointer (some ⟨c, 0, none⟩), .int .i64 2] w fun e w' => e = .returned (.bool false) ∧ Next W0 w c bs bv (belowS bs 2 s) w' := by
  have C := Lib.hid (below_any W0 w c bs bv s 2 h (by unfold InI; omega))
  have hq : (belowF bs 2 s == 0) = false := by rw [beq_eq_false_iff_ne]; exact hb
  generalize belowF bs 2 s = x at C hq
  clear h hb
  go_enter Tryz.func86, Tryz.ntmps86
  go_wp2_with fail
  refine C.out.mono ?_
  rintro e w1 ⟨rfl, hx⟩
  have X := Lib.hid hx
  clear hx
  go_wp2
  go_ret
  exact ⟨rfl, X.out⟩
/-- The result's block, not written yet. -/
def Res8 (w : World) (r : Nat) : Prop := w.heap[r]? = some (.cells #[.int .i64 0, .string ⟨#[]⟩, .int .i64 0, .int .i64 0, .string ⟨#[]⟩, .slice none 0 0, .slice none 0 0, .slice none 0 0] 36 (0, 0))
theorem Res8.cells {w : World} {r : Nat} (h : Res8 w r) : w.cell? ⟨r, 0, none⟩ = some (.int .i64 0) ∧ w.cell? ⟨r, 1, none⟩ = some (.string ⟨#[]⟩) ∧ w.cell? ⟨r, 2, none⟩ = some (.int .i64 0) ∧ w.cell? ⟨r, 3, none⟩ = some (.int .i64 0) ∧ w.cell? ⟨r, 4, none⟩ = some (.string ⟨#[]⟩) ∧ w.cell? ⟨r, 5, none⟩ = some (.slice none 0 0) ∧ w.cell? ⟨r, 6, none⟩ = some (.slice none 0 0) ∧ w.cell? ⟨r, 7, none⟩ = some (.slice none 0 0) ∧ (∀ j, w.frozen? ⟨r, j, none⟩ = false) := by
  refine ⟨?_, ?_, ?_, ?_, ?_, ?_, ?_, ?_, fun j => frozen_of_row w r j _ _ h⟩
  all_goals (rw [cell_of_row w r _ _ _ _ h]; rfl)
theorem Res8.next {w w' : World} {r : Nat} {row : Option Nat} (h : Res8 w r) (hg : w.grownBy w' row) (hr : row ≠ some r) : Res8 w' r := by
  have hlt : r < w.heap.size := cell_lt h.cells.1
  exact (hg.block r hlt (fun e => hr e.symm)).trans h
theorem Next.put {W0 w w2 : World} {c r : Nat} {bs : List UInt8} {bv : Value} {s : St} (h : Next W0 w c bs bv s w2) (hr : w.heap.size ≤ r) (hc : c < w.heap.size) (j : Nat) (u : Value) : Next W0 w c bs bv s (w2.setCell ⟨r, j, none⟩ u) :=
  ⟨h.1.put (Nat.lt_of_lt_of_le hc hr) j u, ⟨h.2.os, h.2.tape, h.2.output, by simpa using h.2.size, fun k hk hn => (heap_setCell_other _ _ _ _ (by simp; omega)).trans (h.2.block k hk hn)⟩⟩
theorem next_res8 {W0 w w2 : World} {c : Nat} {bs : List UInt8} {bv : Value} {s : St} {a0 a1 a2 a3 a4 a5 a6 a7 : Value} (h : At W0 w2 c bs bv s) (hg : (w.alloc (.cells #[.int .i64 0, .string ⟨#[]⟩, .int .i64 0, .int .i64 0, .string ⟨#[]⟩, .slice none 0 0, .slice none 0 0, .slice none 0 0] 36)).grownBy w2 (some c)) (hc : c < w.heap.size) :
    Next W0 w c bs bv s ((((((((w2.setCell ⟨w.heap.size, 0, none⟩ a0).setCell ⟨w.heap.size, 1, none⟩ a1).setCell ⟨w.heap.size, 2, none⟩ a2).setCell ⟨w.heap.size, 3, none⟩ a3).setCell ⟨w.heap.size, 4, none⟩ a4).setCell ⟨w.heap.size, 5, none⟩ a5).setCell ⟨w.heap.size, 6, none⟩ a6).setCell ⟨w.heap.size, 7, none⟩ a7) := by
  have h0 : Next W0 w c bs bv s w2 := ⟨h, (World.grownBy_alloc w (.cells #[.int .i64 0, .string ⟨#[]⟩, .int .i64 0, .int .i64 0, .string ⟨#[]⟩, .slice none 0 0, .slice none 0 0, .slice none 0 0] 36) (some c)).trans hg⟩
  exact (((((((h0.put (Nat.le_refl _) hc 0 a0).put (Nat.le_refl _) hc 1 a1).put (Nat.le_refl _) hc 2 a2).put (Nat.le_refl _) hc 3 a3).put (Nat.le_refl _) hc 4 a4).put (Nat.le_refl _) hc 5 a5).put (Nat.le_refl _) hc 6 a6).put (Nat.le_refl _) hc 7 a7
theorem dx_put {w2 : World} {r lo lo' : Nat} {x : STree} {v : Value} (h : DX w2 lo w2.heap.size x v) (hr : r < lo) (hlo : lo' ≤ lo) (a0 a1 a2 a3 a4 a5 a6 a7 : Value) :
    DX ((((((((w2.setCell ⟨r, 0, none⟩ a0).setCell ⟨r, 1, none⟩ a1).setCell ⟨r, 2, none⟩ a2).setCell ⟨r, 3, none⟩ a3).setCell ⟨r, 4, none⟩ a4).setCell ⟨r, 5, none⟩ a5).setCell ⟨r, 6, none⟩ a6).setCell ⟨r, 7, none⟩ a7) lo' ((((((((w2.setCell ⟨r, 0, none⟩ a0).setCell ⟨r, 1, none⟩ a1).setCell ⟨r, 2, none⟩ a2).setCell ⟨r, 3, none⟩ a3).setCell ⟨r, 4, none⟩ a4).setCell ⟨r, 5, none⟩ a5).setCell ⟨r, 6, none⟩ a6).setCell ⟨r, 7, none⟩ a7).heap.size x v := by
  refine DX.wide hlo (by simp) (DX.same (fun k h1 h2 => ?_) h)
  rw [heap_setCell_other _ _ _ _ (by simp; omega), heap_setCell_other _ _ _ _ (by simp; omega), heap_setCell_other _ _ _ _ (by simp; omega), heap_setCell_other _ _ _ _ (by simp; omega), heap_setCell_other _ _ _ _ (by simp; omega), heap_setCell_other _ _ _ _ (by simp; omega), heap_setCell_other _ _ _ _ (by simp; omega), heap_setCell_other _ _ _ _ (by simp; omega)]
set_option maxHeartbeats 1600000 in
theorem leafS_set_low (bs : List UInt8) (d : Nat) (hd : d ≤ 1000) (W0 w : World) (c : Nat) (bv : Value) (s : St) (k2 : Nat) (h : At W0 w c bs bv s) (hk : pickN bs 14 s = k2) (hc : k2 < 4) (ht : drawS bs d s = leafS bs k2 (belowS bs 14 s)) :
    Calls Tryz.prog 131 #[.pointer (some ⟨c, 0, none⟩), .int .i64 (d : Int)] w fun e w' => ∃ v, e = .returned v ∧ DX w' w.heap.size w'.heap.size (drawS bs d s).1 v ∧ Next W0 w c bs bv (drawS bs d s).2 w' := by
  rw [show leafS bs k2 (belowS bs 14 s) = (.node 1 (pick3 bs setL (belowS bs 14 s)) (drawT bs 2 (belowS bs 3 (belowS bs 14 s))).1 [] [], (drawT bs 2 (belowS bs 3 (belowS bs 14 s))).2) from by unfold leafS; rw [if_pos hc]] at ht
  have HT := Lib.hid ht
  have hcw := h.lt
  have hA := h.grown (World.grownBy_alloc w (.cells #[.int .i64 0, .string ⟨#[]⟩, .int .i64 0, .int .i64 0, .string ⟨#[]⟩, .slice none 0 0, .slice none 0 0, .slice none 0 0] 36) none)
  have C := Lib.hid (below_any W0 _ c bs bv s 14 hA (by unfold InI; omega))
  have hp := pickN_eq bs 14 s (by decide)
  rw [show ((14 : Nat) : Int) = 14 from rfl] at hp
  rw [hp, hk] at C
  clear hk
  have R0 : Res8 (w.alloc (.cells #[.int .i64 0, .string ⟨#[]⟩, .int .i64 0, .int .i64 0, .string ⟨#[]⟩, .slice none 0 0, .slice none 0 0, .slice none 0 0] 36)) w.heap.size := heap_alloc_new _ _
  have HR0 := Lib.hid R0
  clear ht hp h R0 hA
  by_cases hd0 : d = 0
  · subst hd0
    go_enter Tryz.func131, Tryz.ntmps131
    go_wp2_with fail
    refine C.out.mono ?_
    rintro e w1 ⟨rfl, hx⟩
    have X1 := Lib.hid hx
    have R1 := Lib.hid (HR0.out.next hx.2 (by simp; omega))
    have hw1 := hx.2.size
    have hw1b : w.heap.size < w1.heap.size := by simp at hw1; omega
    clear hx hw1
    go_wp2_with fail
    refine (pick_set W0 w1 c bs bv _ X1.out.1).mono ?_
    rintro e w2 ⟨rfl, hx2⟩
    have X2 := Lib.hid hx2
    have R2 := Lib.hid ((R1.out.next (World.grownBy_alloc _ _ none) (by simp)).next hx2.2 (by simp; omega))
    have G2 := Lib.hid ((X1.out.2.trans (grown_but (World.grownBy_alloc _ _ none) _)).trans hx2.2)
    have hw2b : w1.heap.size < w2.heap.size := by have := hx2.2.size; simp at this; omega
    clear hx2
    go_wp2_with fail
    refine (draw_any bs 2 (by decide) W0 w2 c bv _ X2.out.1).mono ?_
    rintro e w3 ⟨v3, rfl, hl3, hx3⟩
    obtain ⟨va, vc, rfl⟩ := hl3.shape
    have HL3 := Lib.hid hl3
    have X3 := Lib.hid hx3
    have R3 := Lib.hid (R2.out.next hx3.2 (by simp; omega))
    have G3 := Lib.hid (G2.out.trans hx3.2)
    have hw3b : w2.heap.size ≤ w3.heap.size := hx3.2.size
    clear hl3 hx3
    obtain ⟨q0, q1, q2, q3, q4, q5, q6, q7, qf⟩ := R3.out.cells
    have f0 := qf 0
    have f1 := qf 1
    have f2 := qf 2
    have f3 := qf 3
    have f4 := qf 4
    have f5 := qf 5
    have f6 := qf 6
    have f7 := qf 7
    clear qf
    go_wp2
    refine bodyPost_ret (v := .agg #[.int .i64 1, .string (pick3 bs setL (belowS bs 14 s)), .int .i64 (drawT bs 2 (belowS bs 3 (belowS bs 14 s))).1.kind, .int .i64 (drawT bs 2 (belowS bs 3 (belowS bs 14 s))).1.num, .string (drawT bs 2 (belowS bs 3 (belowS bs 14 s))).1.name, .slice va (drawT bs 2 (belowS bs 3 (belowS bs 14 s))).1.kids.length vc, .slice none 0 0, .slice none 0 0]) (by simp [results, Tryz.results131, go_sem, q0, q1, q2, q3, q4, q5, q6, q7]) rfl ⟨_, rfl, ?_, ?_⟩
    · rw [HT.out]
      refine dx_put (lo := w2.heap.size) ?_ (by omega) (by omega) _ _ _ _ _ _ _ _
      exact DX.mk (x := .node 1 (pick3 bs setL (belowS bs 14 s)) (drawT bs 2 (belowS bs 3 (belowS bs 14 s))).1 [] []) (m1 := w3.heap.size) (m2 := w3.heap.size) (by show InI 1; unfold InI; omega) (pick_set_size _ _) hw3b (HL3.out.keep cut_young) (DK.nil _ (Nat.le_refl _)) (DK.nil _ (Nat.le_refl _))
    · rw [HT.out]
      exact next_res8 X3.out.1 G3.out hcw
  · have hd1 : 0 < d := by omega
    go_enter Tryz.func131, Tryz.ntmps131
    go_wp2_with fail
    refine C.out.mono ?_
    rintro e w1 ⟨rfl, hx⟩
    have X1 := Lib.hid hx
    have R1 := Lib.hid (HR0.out.next hx.2 (by simp; omega))
    have hw1 := hx.2.size
    have hw1b : w.heap.size < w1.heap.size := by simp at hw1; omega
    clear hx hw1
    go_wp2_with fail
    refine (pick_set W0 w1 c bs bv _ X1.out.1).mono ?_
    rintro e w2 ⟨rfl, hx2⟩
    have X2 := Lib.hid hx2
    have R2 := Lib.hid ((R1.out.next (World.grownBy_alloc _ _ none) (by simp)).next hx2.2 (by simp; omega))
    have G2 := Lib.hid ((X1.out.2.trans (grown_but (World.grownBy_alloc _ _ none) _)).trans hx2.2)
    have hw2b : w1.heap.size < w2.heap.size := by have := hx2.2.size; simp at this; omega
    clear hx2
    go_wp2_with fail
    refine (draw_any bs 2 (by decide) W0 w2 c bv _ X2.out.1).mono ?_
    rintro e w3 ⟨v3, rfl, hl3, hx3⟩
    obtain ⟨va, vc, rfl⟩ := hl3.shape
    have HL3 := Lib.hid hl3
    have X3 := Lib.hid hx3
    have R3 := Lib.hid (R2.out.next hx3.2 (by simp; omega))
    have G3 := Lib.hid (G2.out.trans hx3.2)
    have hw3b : w2.heap.size ≤ w3.heap.size := hx3.2.size
    clear hl3 hx3
    obtain ⟨q0, q1, q2, q3, q4, q5, q6, q7, qf⟩ := R3.out.cells
    have f0 := qf 0
    have f1 := qf 1
    have f2 := qf 2
    have f3 := qf 3
    have f4 := qf 4
    have f5 := qf 5
    have f6 := qf 6
    have f7 := qf 7
    clear qf
    go_wp2
    refine bodyPost_ret (v := .agg #[.int .i64 1, .string (pick3 bs setL (belowS bs 14 s)), .int .i64 (drawT bs 2 (belowS bs 3 (belowS bs 14 s))).1.kind, .int .i64 (drawT bs 2 (belowS bs 3 (belowS bs 14 s))).1.num, .string (drawT bs 2 (belowS bs 3 (belowS bs 14 s))).1.name, .slice va (drawT bs 2 (belowS bs 3 (belowS bs 14 s))).1.kids.length vc, .slice none 0 0, .slice none 0 0]) (by simp [results, Tryz.results131, go_sem, q0, q1, q2, q3, q4, q5, q6, q7]) rfl ⟨_, rfl, ?_, ?_⟩
    · rw [HT.out]
      refine dx_put (lo := w2.heap.size) ?_ (by omega) (by omega) _ _ _ _ _ _ _ _
      exact DX.mk (x := .node 1 (pick3 bs setL (belowS bs 14 s)) (drawT bs 2 (belowS bs 3 (belowS bs 14 s))).1 [] []) (m1 := w3.heap.size) (m2 := w3.heap.size) (by show InI 1; unfold InI; omega) (pick_set_size _ _) hw3b (HL3.out.keep cut_young) (DK.nil _ (Nat.le_refl _)) (DK.nil _ (Nat.le_refl _))
    · rw [HT.out]
      exact next_res8 X3.out.1 G3.out hcw
set_option maxHeartbeats 1600000 in
theorem leafS_lock_low (bs : List UInt8) (d : Nat) (hd : d ≤ 1000) (W0 w : World) (c : Nat) (bv : Value) (s : St) (k2 : Nat) (h : At W0 w c bs bv s) (hk : pickN bs 14 s = k2) (h0 : 4 ≤ k2) (hc : k2 < 6) (ht : drawS bs d s = leafS bs k2 (belowS bs 14 s)) :
    Calls Tryz.prog 131 #[.pointer (some ⟨c, 0, none⟩), .int .i64 (d : Int)] w fun e w' => ∃ v, e = .returned v ∧ DX w' w.heap.size w'.heap.size (drawS bs d s).1 v ∧ Next W0 w c bs bv (drawS bs d s).2 w' := by
  rw [show leafS bs k2 (belowS bs 14 s) = (.node 6 (pick3 bs lockL (belowS bs 14 s)) zT [] [], belowS bs 3 (belowS bs 14 s)) from by unfold leafS; rw [if_neg (by omega), if_pos (by omega)]] at ht
  have HT := Lib.hid ht
  have hcw := h.lt
  have hA := h.grown (World.grownBy_alloc w (.cells #[.int .i64 0, .string ⟨#[]⟩, .int .i64 0, .int .i64 0, .string ⟨#[]⟩, .slice none 0 0, .slice none 0 0, .slice none 0 0] 36) none)
  have C := Lib.hid (below_any W0 _ c bs bv s 14 hA (by unfold InI; omega))
  have hp := pickN_eq bs 14 s (by decide)
  rw [show ((14 : Nat) : Int) = 14 from rfl] at hp
  rw [hp, hk] at C
  clear hk
  have R0 : Res8 (w.alloc (.cells #[.int .i64 0, .string ⟨#[]⟩, .int .i64 0, .int .i64 0, .string ⟨#[]⟩, .slice none 0 0, .slice none 0 0, .slice none 0 0] 36)) w.heap.size := heap_alloc_new _ _
  have HR0 := Lib.hid R0
  clear ht hp h R0 hA
  by_cases hd0 : d = 0
  · subst hd0
    go_enter Tryz.func131, Tryz.ntmps131
    go_wp2_with fail
    refine C.out.mono ?_
    rintro e w1 ⟨rfl, hx⟩
    have X1 := Lib.hid hx
    have R1 := Lib.hid (HR0.out.next hx.2 (by simp; omega))
    have hw1 := hx.2.size
    have hw1b : w.heap.size < w1.heap.size := by simp at hw1; omega
    clear hx hw1
    go_wp2_with fail
    refine (pick_lock W0 w1 c bs bv _ X1.out.1).mono ?_
    rintro e w2 ⟨rfl, hx2⟩
    have X2 := Lib.hid hx2
    have R2 := Lib.hid ((R1.out.next (World.grownBy_alloc _ _ none) (by simp)).next hx2.2 (by simp; omega))
    have G2 := Lib.hid ((X1.out.2.trans (grown_but (World.grownBy_alloc _ _ none) _)).trans hx2.2)
    have hw2b : w1.heap.size < w2.heap.size := by have := hx2.2.size; simp at this; omega
    clear hx2
    obtain ⟨q0, q1, q2, q3, q4, q5, q6, q7, qf⟩ := R2.out.cells
    have f0 := qf 0
    have f1 := qf 1
    have f2 := qf 2
    have f3 := qf 3
    have f4 := qf 4
    have f5 := qf 5
    have f6 := qf 6
    have f7 := qf 7
    clear qf
    go_wp2
    refine bodyPost_ret (v := .agg #[.int .i64 6, .string (pick3 bs lockL (belowS bs 14 s)), .int .i64 0, .int .i64 0, .string ⟨#[]⟩, .slice none 0 0, .slice none 0 0, .slice none 0 0]) (by simp [results, Tryz.results131, go_sem, q0, q1, q2, q3, q4, q5, q6, q7]) rfl ⟨_, rfl, ?_, ?_⟩
    · rw [HT.out]
      exact dx_word _ (by simp; omega) 6 (by unfold InI; omega) _ (pick_lock_size _ _)
    · rw [HT.out]
      exact next_res8 X2.out.1 G2.out hcw
  · have hd1 : 0 < d := by omega
    go_enter Tryz.func131, Tryz.ntmps131
    go_wp2_with fail
    refine C.out.mono ?_
    rintro e w1 ⟨rfl, hx⟩
    have X1 := Lib.hid hx
    have R1 := Lib.hid (HR0.out.next hx.2 (by simp; omega))
    have hw1 := hx.2.size
    have hw1b : w.heap.size < w1.heap.size := by simp at hw1; omega
    clear hx hw1
    go_wp2_with fail
    refine (pick_lock W0 w1 c bs bv _ X1.out.1).mono ?_
    rintro e w2 ⟨rfl, hx2⟩
    have X2 := Lib.hid hx2
    have R2 := Lib.hid ((R1.out.next (World.grownBy_alloc _ _ none) (by simp)).next hx2.2 (by simp; omega))
    have G2 := Lib.hid ((X1.out.2.trans (grown_but (World.grownBy_alloc _ _ none) _)).trans hx2.2)
    have hw2b : w1.heap.size < w2.heap.size := by have := hx2.2.size; simp at this; omega
    clear hx2
    obtain ⟨q0, q1, q2, q3, q4, q5, q6, q7, qf⟩ := R2.out.cells
    have f0 := qf 0
    have f1 := qf 1
    have f2 := qf 2
    have f3 := qf 3
    have f4 := qf 4
    have f5 := qf 5
    have f6 := qf 6
    have f7 := qf 7
    clear qf
    go_wp2
    refine bodyPost_ret (v := .agg #[.int .i64 6, .string (pick3 bs lockL (belowS bs 14 s)), .int .i64 0, .int .i64 0, .string ⟨#[]⟩, .slice none 0 0, .slice none 0 0, .slice none 0 0]) (by simp [results, Tryz.results131, go_sem, q0, q1, q2, q3, q4, q5, q6, q7]) rfl ⟨_, rfl, ?_, ?_⟩
    · rw [HT.out]
      exact dx_word _ (by simp; omega) 6 (by unfold InI; omega) _ (pick_lock_size _ _)
    · rw [HT.out]
      exact next_res8 X2.out.1 G2.out hcw
set_option maxHeartbeats 1600000 in
theorem leafS_lock_high (bs : List UInt8) (d : Nat) (hd : d ≤ 1000) (W0 w : World) (c : Nat) (bv : Value) (s : St) (k2 : Nat) (h : At W0 w c bs bv s) (hk : pickN bs 14 s = k2 + 6) (hd0 : d = 0) (h0 : 5 ≤ k2) (hc : k2 < 6) (ht : drawS bs d s = leafS bs k2 (belowS bs 14 s)) :
    Calls Tryz.prog 131 #[.pointer (some ⟨c, 0, none⟩), .int .i64 (d : Int)] w fun e w' => ∃ v, e = .returned v ∧ DX w' w.heap.size w'.heap.size (drawS bs d s).1 v ∧ Next W0 w c bs bv (drawS bs d s).2 w' := by
  rw [show leafS bs k2 (belowS bs 14 s) = (.node 6 (pick3 bs lockL (belowS bs 14 s)) zT [] [], belowS bs 3 (belowS bs 14 s)) from by unfold leafS; rw [if_neg (by omega), if_pos (by omega)]] at ht
  have HT := Lib.hid ht
  have hcw := h.lt
  have hA := h.grown (World.grownBy_alloc w (.cells #[.int .i64 0, .string ⟨#[]⟩, .int .i64 0, .int .i64 0, .string ⟨#[]⟩, .slice none 0 0, .slice none 0 0, .slice none 0 0] 36) none)
  have C := Lib.hid (below_any W0 _ c bs bv s 14 hA (by unfold InI; omega))
  have hp := pickN_eq bs 14 s (by decide)
  rw [show ((14 : Nat) : Int) = 14 from rfl] at hp
  rw [hp, hk] at C
  rw [show ((k2 + 6 : Nat) : Int) = (k2 : Int) + 6 from by omega] at C
  clear hk
  have R0 : Res8 (w.alloc (.cells #[.int .i64 0, .string ⟨#[]⟩, .int .i64 0, .int .i64 0, .string ⟨#[]⟩, .slice none 0 0, .slice none 0 0, .slice none 0 0] 36)) w.heap.size := heap_alloc_new _ _
  have HR0 := Lib.hid R0
  clear ht hp h R0 hA
  subst hd0
  go_enter Tryz.func131, Tryz.ntmps131
  go_wp2_with fail
  refine C.out.mono ?_
  rintro e w1 ⟨rfl, hx⟩
  have X1 := Lib.hid hx
  have R1 := Lib.hid (HR0.out.next hx.2 (by simp; omega))
  have hw1 := hx.2.size
  have hw1b : w.heap.size < w1.heap.size := by simp at hw1; omega
  clear hx hw1
  go_wp2_with fail
  refine (pick_lock W0 w1 c bs bv _ X1.out.1).mono ?_
  rintro e w2 ⟨rfl, hx2⟩
  have X2 := Lib.hid hx2
  have R2 := Lib.hid ((R1.out.next (World.grownBy_alloc _ _ none) (by simp)).next hx2.2 (by simp; omega))
  have G2 := Lib.hid ((X1.out.2.trans (grown_but (World.grownBy_alloc _ _ none) _)).trans hx2.2)
  have hw2b : w1.heap.size < w2.heap.size := by have := hx2.2.size; simp at this; omega
  clear hx2
  obtain ⟨q0, q1, q2, q3, q4, q5, q6, q7, qf⟩ := R2.out.cells
  have f0 := qf 0
  have f1 := qf 1
  have f2 := qf 2
  have f3 := qf 3
  have f4 := qf 4
  have f5 := qf 5
  have f6 := qf 6
  have f7 := qf 7
  clear qf
  go_wp2
  refine bodyPost_ret (v := .agg #[.int .i64 6, .string (pick3 bs lockL (belowS bs 14 s)), .int .i64 0, .int .i64 0, .string ⟨#[]⟩, .slice none 0 0, .slice none 0 0, .slice none 0 0]) (by simp [results, Tryz.results131, go_sem, q0, q1, q2, q3, q4, q5, q6, q7]) rfl ⟨_, rfl, ?_, ?_⟩
  · rw [HT.out]
    exact dx_word _ (by simp; omega) 6 (by unfold InI; omega) _ (pick_lock_size _ _)
  · rw [HT.out]
    exact next_res8 X2.out.1 G2.out hcw
set_option maxHeartbeats 1600000 in
theorem leafS_unlock_low (bs : List UInt8) (d : Nat) (hd : d ≤ 1000) (W0 w : World) (c : Nat) (bv : Value) (s : St) (k2 : Nat) (h : At W0 w c bs bv s) (hk : pickN bs 14 s = k2) (h0 : 6 ≤ k2) (hc : k2 < 8) (ht : drawS bs d s = leafS bs k2 (belowS bs 14 s)) :
    Calls Tryz.prog 131 #[.pointer (some ⟨c, 0, none⟩), .int .i64 (d : Int)] w fun e w' => ∃ v, e = .returned v ∧ DX w' w.heap.size w'.heap.size (drawS bs d s).1 v ∧ Next W0 w c bs bv (drawS bs d s).2 w' := by
  rw [show leafS bs k2 (belowS bs 14 s) = (.node 7 (pick3 bs lockL (belowS bs 14 s)) zT [] [], belowS bs 3 (belowS bs 14 s)) from by unfold leafS; rw [if_neg (by omega), if_neg (by omega), if_pos (by omega)]] at ht
  have HT := Lib.hid ht
  have hcw := h.lt
  have hA := h.grown (World.grownBy_alloc w (.cells #[.int .i64 0, .string ⟨#[]⟩, .int .i64 0, .int .i64 0, .string ⟨#[]⟩, .slice none 0 0, .slice none 0 0, .slice none 0 0] 36) none)
  have C := Lib.hid (below_any W0 _ c bs bv s 14 hA (by unfold InI; omega))
  have hp := pickN_eq bs 14 s (by decide)
  rw [show ((14 : Nat) : Int) = 14 from rfl] at hp
  rw [hp, hk] at C
  clear hk
  have R0 : Res8 (w.alloc (.cells #[.int .i64 0, .string ⟨#[]⟩, .int .i64 0, .int .i64 0, .string ⟨#[]⟩, .slice none 0 0, .slice none 0 0, .slice none 0 0] 36)) w.heap.size := heap_alloc_new _ _
  have HR0 := Lib.hid R0
  clear ht hp h R0 hA
  by_cases hd0 : d = 0
  · subst hd0
    go_enter Tryz.func131, Tryz.ntmps131
    go_wp2_with fail
    refine C.out.mono ?_
    rintro e w1 ⟨rfl, hx⟩
    have X1 := Lib.hid hx
    have R1 := Lib.hid (HR0.out.next hx.2 (by simp; omega))
    have hw1 := hx.2.size
    have hw1b : w.heap.size < w1.heap.size := by simp at hw1; omega
    clear hx hw1
    go_wp2_with fail
    refine (pick_lock W0 w1 c bs bv _ X1.out.1).mono ?_
    rintro e w2 ⟨rfl, hx2⟩
    have X2 := Lib.hid hx2
    have R2 := Lib.hid ((R1.out.next (World.grownBy_alloc _ _ none) (by simp)).next hx2.2 (by simp; omega))
    have G2 := Lib.hid ((X1.out.2.trans (grown_but (World.grownBy_alloc _ _ none) _)).trans hx2.2)
    have hw2b : w1.heap.size < w2.heap.size := by have := hx2.2.size; simp at this; omega
    clear hx2
    obtain ⟨q0, q1, q2, q3, q4, q5, q6, q7, qf⟩ := R2.out.cells
    have f0 := qf 0
    have f1 := qf 1
    have f2 := qf 2
    have f3 := qf 3
    have f4 := qf 4
    have f5 := qf 5
    have f6 := qf 6
    have f7 := qf 7
    clear qf
    go_wp2
    refine bodyPost_ret (v := .agg #[.int .i64 7, .string (pick3 bs lockL (belowS bs 14 s)), .int .i64 0, .int .i64 0, .string ⟨#[]⟩, .slice none 0 0, .slice none 0 0, .slice none 0 0]) (by simp [results, Tryz.results131, go_sem, q0, q1, q2, q3, q4, q5, q6, q7]) rfl ⟨_, rfl, ?_, ?_⟩
    · rw [HT.out]
      exact dx_word _ (by simp; omega) 7 (by unfold InI; omega) _ (pick_lock_size _ _)
    · rw [HT.out]
      exact next_res8 X2.out.1 G2.out hcw
  · have hd1 : 0 < d := by omega
    go_enter Tryz.func131, Tryz.ntmps131
    go_wp2_with fail
    refine C.out.mono ?_
    rintro e w1 ⟨rfl, hx⟩
    have X1 := Lib.hid hx
    have R1 := Lib.hid (HR0.out.next hx.2 (by simp; omega))
    have hw1 := hx.2.size
    have hw1b : w.heap.size < w1.heap.size := by simp at hw1; omega
    clear hx hw1
    go_wp2_with fail
    refine (pick_lock W0 w1 c bs bv _ X1.out.1).mono ?_
    rintro e w2 ⟨rfl, hx2⟩
    have X2 := Lib.hid hx2
    have R2 := Lib.hid ((R1.out.next (World.grownBy_alloc _ _ none) (by simp)).next hx2.2 (by simp; omega))
    have G2 := Lib.hid ((X1.out.2.trans (grown_but (World.grownBy_alloc _ _ none) _)).trans hx2.2)
    have hw2b : w1.heap.size < w2.heap.size := by have := hx2.2.size; simp at this; omega
    clear hx2
    obtain ⟨q0, q1, q2, q3, q4, q5, q6, q7, qf⟩ := R2.out.cells
    have f0 := qf 0
    have f1 := qf 1
    have f2 := qf 2
    have f3 := qf 3
    have f4 := qf 4
    have f5 := qf 5
    have f6 := qf 6
    have f7 := qf 7
    clear qf
    go_wp2
    refine bodyPost_ret (v := .agg #[.int .i64 7, .string (pick3 bs lockL (belowS bs 14 s)), .int .i64 0, .int .i64 0, .string ⟨#[]⟩, .slice none 0 0, .slice none 0 0, .slice none 0 0]) (by simp [results, Tryz.results131, go_sem, q0, q1, q2, q3, q4, q5, q6, q7]) rfl ⟨_, rfl, ?_, ?_⟩
    · rw [HT.out]
      exact dx_word _ (by simp; omega) 7 (by unfold InI; omega) _ (pick_lock_size _ _)
    · rw [HT.out]
      exact next_res8 X2.out.1 G2.out hcw
set_option maxHeartbeats 1600000 in
theorem leafS_unlock_high (bs : List UInt8) (d : Nat) (hd : d ≤ 1000) (W0 w : World) (c : Nat) (bv : Value) (s : St) (k2 : Nat) (h : At W0 w c bs bv s) (hk : pickN bs 14 s = k2 + 6) (hd0 : d = 0) (h0 : 6 ≤ k2) (hc : k2 < 8) (ht : drawS bs d s = leafS bs k2 (belowS bs 14 s)) :
    Calls Tryz.prog 131 #[.pointer (some ⟨c, 0, none⟩), .int .i64 (d : Int)] w fun e w' => ∃ v, e = .returned v ∧ DX w' w.heap.size w'.heap.size (drawS bs d s).1 v ∧ Next W0 w c bs bv (drawS bs d s).2 w' := by
  rw [show leafS bs k2 (belowS bs 14 s) = (.node 7 (pick3 bs lockL (belowS bs 14 s)) zT [] [], belowS bs 3 (belowS bs 14 s)) from by unfold leafS; rw [if_neg (by omega), if_neg (by omega), if_pos (by omega)]] at ht
  have HT := Lib.hid ht
  have hcw := h.lt
  have hA := h.grown (World.grownBy_alloc w (.cells #[.int .i64 0, .string ⟨#[]⟩, .int .i64 0, .int .i64 0, .string ⟨#[]⟩, .slice none 0 0, .slice none 0 0, .slice none 0 0] 36) none)
  have C := Lib.hid (below_any W0 _ c bs bv s 14 hA (by unfold InI; omega))
  have hp := pickN_eq bs 14 s (by decide)
  rw [show ((14 : Nat) : Int) = 14 from rfl] at hp
  rw [hp, hk] at C
  rw [show ((k2 + 6 : Nat) : Int) = (k2 : Int) + 6 from by omega] at C
  clear hk
  have R0 : Res8 (w.alloc (.cells #[.int .i64 0, .string ⟨#[]⟩, .int .i64 0, .int .i64 0, .string ⟨#[]⟩, .slice none 0 0, .slice none 0 0, .slice none 0 0] 36)) w.heap.size := heap_alloc_new _ _
  have HR0 := Lib.hid R0
  clear ht hp h R0 hA
  subst hd0
  go_enter Tryz.func131, Tryz.ntmps131
  go_wp2_with fail
  refine C.out.mono ?_
  rintro e w1 ⟨rfl, hx⟩
  have X1 := Lib.hid hx
  have R1 := Lib.hid (HR0.out.next hx.2 (by simp; omega))
  have hw1 := hx.2.size
  have hw1b : w.heap.size < w1.heap.size := by simp at hw1; omega
  clear hx hw1
  go_wp2_with fail
  refine (pick_lock W0 w1 c bs bv _ X1.out.1).mono ?_
  rintro e w2 ⟨rfl, hx2⟩
  have X2 := Lib.hid hx2
  have R2 := Lib.hid ((R1.out.next (World.grownBy_alloc _ _ none) (by simp)).next hx2.2 (by simp; omega))
  have G2 := Lib.hid ((X1.out.2.trans (grown_but (World.grownBy_alloc _ _ none) _)).trans hx2.2)
  have hw2b : w1.heap.size < w2.heap.size := by have := hx2.2.size; simp at this; omega
  clear hx2
  obtain ⟨q0, q1, q2, q3, q4, q5, q6, q7, qf⟩ := R2.out.cells
  have f0 := qf 0
  have f1 := qf 1
  have f2 := qf 2
  have f3 := qf 3
  have f4 := qf 4
  have f5 := qf 5
  have f6 := qf 6
  have f7 := qf 7
  clear qf
  go_wp2
  refine bodyPost_ret (v := .agg #[.int .i64 7, .string (pick3 bs lockL (belowS bs 14 s)), .int .i64 0, .int .i64 0, .string ⟨#[]⟩, .slice none 0 0, .slice none 0 0, .slice none 0 0]) (by simp [results, Tryz.results131, go_sem, q0, q1, q2, q3, q4, q5, q6, q7]) rfl ⟨_, rfl, ?_, ?_⟩
  · rw [HT.out]
    exact dx_word _ (by simp; omega) 7 (by unfold InI; omega) _ (pick_lock_size _ _)
  · rw [HT.out]
    exact next_res8 X2.out.1 G2.out hcw
set_option maxHeartbeats 1600000 in
theorem leafS_call_low (bs : List UInt8) (d : Nat) (hd : d ≤ 1000) (W0 w : World) (c : Nat) (bv : Value) (s : St) (k2 : Nat) (h : At W0 w c bs bv s) (hk : pickN bs 14 s = k2) (h0 : 8 ≤ k2) (hc : k2 < 9) (ht : drawS bs d s = leafS bs k2 (belowS bs 14 s)) :
    Calls Tryz.prog 131 #[.pointer (some ⟨c, 0, none⟩), .int .i64 (d : Int)] w fun e w' => ∃ v, e = .returned v ∧ DX w' w.heap.size w'.heap.size (drawS bs d s).1 v ∧ Next W0 w c bs bv (drawS bs d s).2 w' := by
  obtain rfl : k2 = 8 := by omega
  rw [show leafS bs 8 (belowS bs 14 s) = (.node 4 (pick3 bs procL (belowS bs 14 s)) zT [] [], belowS bs 3 (belowS bs 14 s)) from by unfold leafS; rw [if_neg (by omega), if_neg (by omega), if_neg (by omega), if_pos (by omega)]] at ht
  have HT := Lib.hid ht
  have hcw := h.lt
  have hA := h.grown (World.grownBy_alloc w (.cells #[.int .i64 0, .string ⟨#[]⟩, .int .i64 0, .int .i64 0, .string ⟨#[]⟩, .slice none 0 0, .slice none 0 0, .slice none 0 0] 36) none)
  have C := Lib.hid (below_any W0 _ c bs bv s 14 hA (by unfold InI; omega))
  have hp := pickN_eq bs 14 s (by decide)
  rw [show ((14 : Nat) : Int) = 14 from rfl] at hp
  rw [hp, hk] at C
  clear hk
  have R0 : Res8 (w.alloc (.cells #[.int .i64 0, .string ⟨#[]⟩, .int .i64 0, .int .i64 0, .string ⟨#[]⟩, .slice none 0 0, .slice none 0 0, .slice none 0 0] 36)) w.heap.size := heap_alloc_new _ _
  have HR0 := Lib.hid R0
  clear ht hp h R0 hA
  by_cases hd0 : d = 0
  · subst hd0
    go_enter Tryz.func131, Tryz.ntmps131
    go_wp2_with fail
    refine C.out.mono ?_
    rintro e w1 ⟨rfl, hx⟩
    have X1 := Lib.hid hx
    have R1 := Lib.hid (HR0.out.next hx.2 (by simp; omega))
    have hw1 := hx.2.size
    have hw1b : w.heap.size < w1.heap.size := by simp at hw1; omega
    clear hx hw1
    go_wp2_with fail
    refine (pick_proc W0 w1 c bs bv _ X1.out.1).mono ?_
    rintro e w2 ⟨rfl, hx2⟩
    have X2 := Lib.hid hx2
    have R2 := Lib.hid ((R1.out.next (World.grownBy_alloc _ _ none) (by simp)).next hx2.2 (by simp; omega))
    have G2 := Lib.hid ((X1.out.2.trans (grown_but (World.grownBy_alloc _ _ none) _)).trans hx2.2)
    have hw2b : w1.heap.size < w2.heap.size := by have := hx2.2.size; simp at this; omega
    clear hx2
    obtain ⟨q0, q1, q2, q3, q4, q5, q6, q7, qf⟩ := R2.out.cells
    have f0 := qf 0
    have f1 := qf 1
    have f2 := qf 2
    have f3 := qf 3
    have f4 := qf 4
    have f5 := qf 5
    have f6 := qf 6
    have f7 := qf 7
    clear qf
    go_wp2
    refine bodyPost_ret (v := .agg #[.int .i64 4, .string (pick3 bs procL (belowS bs 14 s)), .int .i64 0, .int .i64 0, .string ⟨#[]⟩, .slice none 0 0, .slice none 0 0, .slice none 0 0]) (by simp [results, Tryz.results131, go_sem, q0, q1, q2, q3, q4, q5, q6, q7]) rfl ⟨_, rfl, ?_, ?_⟩
    · rw [HT.out]
      exact dx_word _ (by simp; omega) 4 (by unfold InI; omega) _ (pick_proc_size _ _)
    · rw [HT.out]
      exact next_res8 X2.out.1 G2.out hcw
  · have hd1 : 0 < d := by omega
    go_enter Tryz.func131, Tryz.ntmps131
    go_wp2_with fail
    refine C.out.mono ?_
    rintro e w1 ⟨rfl, hx⟩
    have X1 := Lib.hid hx
    have R1 := Lib.hid (HR0.out.next hx.2 (by simp; omega))
    have hw1 := hx.2.size
    have hw1b : w.heap.size < w1.heap.size := by simp at hw1; omega
    clear hx hw1
    go_wp2_with fail
    refine (pick_proc W0 w1 c bs bv _ X1.out.1).mono ?_
    rintro e w2 ⟨rfl, hx2⟩
    have X2 := Lib.hid hx2
    have R2 := Lib.hid ((R1.out.next (World.grownBy_alloc _ _ none) (by simp)).next hx2.2 (by simp; omega))
    have G2 := Lib.hid ((X1.out.2.trans (grown_but (World.grownBy_alloc _ _ none) _)).trans hx2.2)
    have hw2b : w1.heap.size < w2.heap.size := by have := hx2.2.size; simp at this; omega
    clear hx2
    obtain ⟨q0, q1, q2, q3, q4, q5, q6, q7, qf⟩ := R2.out.cells
    have f0 := qf 0
    have f1 := qf 1
    have f2 := qf 2
    have f3 := qf 3
    have f4 := qf 4
    have f5 := qf 5
    have f6 := qf 6
    have f7 := qf 7
    clear qf
    go_wp2
    refine bodyPost_ret (v := .agg #[.int .i64 4, .string (pick3 bs procL (belowS bs 14 s)), .int .i64 0, .int .i64 0, .string ⟨#[]⟩, .slice none 0 0, .slice none 0 0, .slice none 0 0]) (by simp [results, Tryz.results131, go_sem, q0, q1, q2, q3, q4, q5, q6, q7]) rfl ⟨_, rfl, ?_, ?_⟩
    · rw [HT.out]
      exact dx_word _ (by simp; omega) 4 (by unfold InI; omega) _ (pick_proc_size _ _)
    · rw [HT.out]
      exact next_res8 X2.out.1 G2.out hcw
set_option maxHeartbeats 1600000 in
theorem leafS_spawn_low (bs : List UInt8) (d : Nat) (hd : d ≤ 1000) (W0 w : World) (c : Nat) (bv : Value) (s : St) (k2 : Nat) (h : At W0 w c bs bv s) (hk : pickN bs 14 s = k2) (h0 : 9 ≤ k2) (hc : k2 < 10) (ht : drawS bs d s = leafS bs k2 (belowS bs 14 s)) :
    Calls Tryz.prog 131 #[.pointer (some ⟨c, 0, none⟩), .int .i64 (d : Int)] w fun e w' => ∃ v, e = .returned v ∧ DX w' w.heap.size w'.heap.size (drawS bs d s).1 v ∧ Next W0 w c bs bv (drawS bs d s).2 w' := by
  obtain rfl : k2 = 9 := by omega
  rw [show leafS bs 9 (belowS bs 14 s) = (.node 5 (pick3 bs procL (belowS bs 14 s)) zT [] [], belowS bs 3 (belowS bs 14 s)) from by unfold leafS; rw [if_neg (by omega), if_neg (by omega), if_neg (by omega), if_neg (by omega), if_pos (by omega)]] at ht
  have HT := Lib.hid ht
  have hcw := h.lt
  have hA := h.grown (World.grownBy_alloc w (.cells #[.int .i64 0, .string ⟨#[]⟩, .int .i64 0, .int .i64 0, .string ⟨#[]⟩, .slice none 0 0, .slice none 0 0, .slice none 0 0] 36) none)
  have C := Lib.hid (below_any W0 _ c bs bv s 14 hA (by unfold InI; omega))
  have hp := pickN_eq bs 14 s (by decide)
  rw [show ((14 : Nat) : Int) = 14 from rfl] at hp
  rw [hp, hk] at C
  clear hk
  have R0 : Res8 (w.alloc (.cells #[.int .i64 0, .string ⟨#[]⟩, .int .i64 0, .int .i64 0, .string ⟨#[]⟩, .slice none 0 0, .slice none 0 0, .slice none 0 0] 36)) w.heap.size := heap_alloc_new _ _
  have HR0 := Lib.hid R0
  clear ht hp h R0 hA
  by_cases hd0 : d = 0
  · subst hd0
    go_enter Tryz.func131, Tryz.ntmps131
    go_wp2_with fail
    refine C.out.mono ?_
    rintro e w1 ⟨rfl, hx⟩
    have X1 := Lib.hid hx
    have R1 := Lib.hid (HR0.out.next hx.2 (by simp; omega))
    have hw1 := hx.2.size
    have hw1b : w.heap.size < w1.heap.size := by simp at hw1; omega
    clear hx hw1
    go_wp2_with fail
    refine (pick_proc W0 w1 c bs bv _ X1.out.1).mono ?_
    rintro e w2 ⟨rfl, hx2⟩
    have X2 := Lib.hid hx2
    have R2 := Lib.hid ((R1.out.next (World.grownBy_alloc _ _ none) (by simp)).next hx2.2 (by simp; omega))
    have G2 := Lib.hid ((X1.out.2.trans (grown_but (World.grownBy_alloc _ _ none) _)).trans hx2.2)
    have hw2b : w1.heap.size < w2.heap.size := by have := hx2.2.size; simp at this; omega
    clear hx2
    obtain ⟨q0, q1, q2, q3, q4, q5, q6, q7, qf⟩ := R2.out.cells
    have f0 := qf 0
    have f1 := qf 1
    have f2 := qf 2
    have f3 := qf 3
    have f4 := qf 4
    have f5 := qf 5
    have f6 := qf 6
    have f7 := qf 7
    clear qf
    go_wp2
    refine bodyPost_ret (v := .agg #[.int .i64 5, .string (pick3 bs procL (belowS bs 14 s)), .int .i64 0, .int .i64 0, .string ⟨#[]⟩, .slice none 0 0, .slice none 0 0, .slice none 0 0]) (by simp [results, Tryz.results131, go_sem, q0, q1, q2, q3, q4, q5, q6, q7]) rfl ⟨_, rfl, ?_, ?_⟩
    · rw [HT.out]
      exact dx_word _ (by simp; omega) 5 (by unfold InI; omega) _ (pick_proc_size _ _)
    · rw [HT.out]
      exact next_res8 X2.out.1 G2.out hcw
  · have hd1 : 0 < d := by omega
    go_enter Tryz.func131, Tryz.ntmps131
    go_wp2_with fail
    refine C.out.mono ?_
    rintro e w1 ⟨rfl, hx⟩
    have X1 := Lib.hid hx
    have R1 := Lib.hid (HR0.out.next hx.2 (by simp; omega))
    have hw1 := hx.2.size
    have hw1b : w.heap.size < w1.heap.size := by simp at hw1; omega
    clear hx hw1
    go_wp2_with fail
    refine (pick_proc W0 w1 c bs bv _ X1.out.1).mono ?_
    rintro e w2 ⟨rfl, hx2⟩
    have X2 := Lib.hid hx2
    have R2 := Lib.hid ((R1.out.next (World.grownBy_alloc _ _ none) (by simp)).next hx2.2 (by simp; omega))
    have G2 := Lib.hid ((X1.out.2.trans (grown_but (World.grownBy_alloc _ _ none) _)).trans hx2.2)
    have hw2b : w1.heap.size < w2.heap.size := by have := hx2.2.size; simp at this; omega
    clear hx2
    obtain ⟨q0, q1, q2, q3, q4, q5, q6, q7, qf⟩ := R2.out.cells
    have f0 := qf 0
    have f1 := qf 1
    have f2 := qf 2
    have f3 := qf 3
    have f4 := qf 4
    have f5 := qf 5
    have f6 := qf 6
    have f7 := qf 7
    clear qf
    go_wp2
    refine bodyPost_ret (v := .agg #[.int .i64 5, .string (pick3 bs procL (belowS bs 14 s)), .int .i64 0, .int .i64 0, .string ⟨#[]⟩, .slice none 0 0, .slice none 0 0, .slice none 0 0]) (by simp [results, Tryz.results131, go_sem, q0, q1, q2, q3, q4, q5, q6, q7]) rfl ⟨_, rfl, ?_, ?_⟩
    · rw [HT.out]
      exact dx_word _ (by simp; omega) 5 (by unfold InI; omega) _ (pick_proc_size _ _)
    · rw [HT.out]
      exact next_res8 X2.out.1 G2.out hcw
set_option maxHeartbeats 1600000 in
theorem leafS_skip_low (bs : List UInt8) (d : Nat) (hd : d ≤ 1000) (W0 w : World) (c : Nat) (bv : Value) (s : St) (k2 : Nat) (h : At W0 w c bs bv s) (hk : pickN bs 14 s = k2) (h0 : 10 ≤ k2) (hc : k2 < 11) (ht : drawS bs d s = leafS bs k2 (belowS bs 14 s)) :
    Calls Tryz.prog 131 #[.pointer (some ⟨c, 0, none⟩), .int .i64 (d : Int)] w fun e w' => ∃ v, e = .returned v ∧ DX w' w.heap.size w'.heap.size (drawS bs d s).1 v ∧ Next W0 w c bs bv (drawS bs d s).2 w' := by
  obtain rfl : k2 = 10 := by omega
  rw [show leafS bs 10 (belowS bs 14 s) = (.node 8 ⟨#[]⟩ zT [] [], belowS bs 14 s) from by unfold leafS; rw [if_neg (by omega), if_neg (by omega), if_neg (by omega), if_neg (by omega), if_neg (by omega)]] at ht
  have HT := Lib.hid ht
  have hcw := h.lt
  have hA := h.grown (World.grownBy_alloc w (.cells #[.int .i64 0, .string ⟨#[]⟩, .int .i64 0, .int .i64 0, .string ⟨#[]⟩, .slice none 0 0, .slice none 0 0, .slice none 0 0] 36) none)
  have C := Lib.hid (below_any W0 _ c bs bv s 14 hA (by unfold InI; omega))
  have hp := pickN_eq bs 14 s (by decide)
  rw [show ((14 : Nat) : Int) = 14 from rfl] at hp
  rw [hp, hk] at C
  clear hk
  have R0 : Res8 (w.alloc (.cells #[.int .i64 0, .string ⟨#[]⟩, .int .i64 0, .int .i64 0, .string ⟨#[]⟩, .slice none 0 0, .slice none 0 0, .slice none 0 0] 36)) w.heap.size := heap_alloc_new _ _
  have HR0 := Lib.hid R0
  clear ht hp h R0 hA
  by_cases hd0 : d = 0
  · subst hd0
    go_enter Tryz.func131, Tryz.ntmps131
    go_wp2_with fail
    refine C.out.mono ?_
    rintro e w1 ⟨rfl, hx⟩
    have X1 := Lib.hid hx
    have R1 := Lib.hid (HR0.out.next hx.2 (by simp; omega))
    have hw1 := hx.2.size
    have hw1b : w.heap.size < w1.heap.size := by simp at hw1; omega
    clear hx hw1
    obtain ⟨q0, q1, q2, q3, q4, q5, q6, q7, qf⟩ := R1.out.cells
    have f0 := qf 0
    have f1 := qf 1
    have f2 := qf 2
    have f3 := qf 3
    have f4 := qf 4
    have f5 := qf 5
    have f6 := qf 6
    have f7 := qf 7
    clear qf
    go_wp2
    refine bodyPost_ret (v := .agg #[.int .i64 8, .string ⟨#[]⟩, .int .i64 0, .int .i64 0, .string ⟨#[]⟩, .slice none 0 0, .slice none 0 0, .slice none 0 0]) (by simp [results, Tryz.results131, go_sem, q0, q1, q2, q3, q4, q5, q6, q7]) rfl ⟨_, rfl, ?_, ?_⟩
    · rw [HT.out]
      exact dx_word _ (by simp; omega) 8 (by unfold InI; omega) _ (by decide)
    · rw [HT.out]
      exact next_res8 X1.out.1 X1.out.2 hcw
  · have hd1 : 0 < d := by omega
    go_enter Tryz.func131, Tryz.ntmps131
    go_wp2_with fail
    refine C.out.mono ?_
    rintro e w1 ⟨rfl, hx⟩
    have X1 := Lib.hid hx
    have R1 := Lib.hid (HR0.out.next hx.2 (by simp; omega))
    have hw1 := hx.2.size
    have hw1b : w.heap.size < w1.heap.size := by simp at hw1; omega
    clear hx hw1
    obtain ⟨q0, q1, q2, q3, q4, q5, q6, q7, qf⟩ := R1.out.cells
    have f0 := qf 0
    have f1 := qf 1
    have f2 := qf 2
    have f3 := qf 3
    have f4 := qf 4
    have f5 := qf 5
    have f6 := qf 6
    have f7 := qf 7
    clear qf
    go_wp2
    refine bodyPost_ret (v := .agg #[.int .i64 8, .string ⟨#[]⟩, .int .i64 0, .int .i64 0, .string ⟨#[]⟩, .slice none 0 0, .slice none 0 0, .slice none 0 0]) (by simp [results, Tryz.results131, go_sem, q0, q1, q2, q3, q4, q5, q6, q7]) rfl ⟨_, rfl, ?_, ?_⟩
    · rw [HT.out]
      exact dx_word _ (by simp; omega) 8 (by unfold InI; omega) _ (by decide)
    · rw [HT.out]
      exact next_res8 X1.out.1 X1.out.2 hcw
/-- What draws a list of statements. -/
def DrawLOk (bs : List UInt8) (d : Nat) : Prop := ∀ (W0 w : World) (c : Nat) (bv : Value) (s : St), At W0 w c bs bv s →
    Calls Tryz.prog 84 #[.pointer (some ⟨c, 0, none⟩), .int .i64 (d : Int)] w fun e w' => ∃ v, e = .returned v ∧ DK w' w.heap.size w'.heap.size (drawL bs d s).1 v ∧ (∃ g cap, v = .slice (some ⟨g, 0, none⟩) (drawL bs d s).1.length cap) ∧ Next W0 w c bs bv (drawL bs d s).2 w'
set_option maxHeartbeats 1600000 in
theorem stmt_while (bs : List UInt8) (d : Nat) (hd : d ≤ 1000) (ih : DrawLOk bs d) (W0 w : World) (c : Nat) (bv : Value) (s : St) (h : At W0 w c bs bv s) (hk : pickN bs 14 s = 11) :
    Calls Tryz.prog 131 #[.pointer (some ⟨c, 0, none⟩), .int .i64 ((d + 1 : Nat) : Int)] w fun e w' => ∃ v, e = .returned v ∧ DX w' w.heap.size w'.heap.size (drawS bs (d + 1) s).1 v ∧ Next W0 w c bs bv (drawS bs (d + 1) s).2 w' := by
  have HT : Hid (drawS bs (d + 1) s = (.node 3 ⟨#[]⟩ (drawT bs 1 (belowS bs 14 s)).1 (drawL bs d (drawT bs 1 (belowS bs 14 s)).2).1 [], (drawL bs d (drawT bs 1 (belowS bs 14 s)).2).2)) := by show _ = _; rw [drawS]; rw [if_neg (by omega)]; dsimp only; rw [if_pos hk]; rfl
  have IH := Lib.hid ih
  have hcw := h.lt
  have hA := h.grown (World.grownBy_alloc w (.cells #[.int .i64 0, .string ⟨#[]⟩, .int .i64 0, .int .i64 0, .string ⟨#[]⟩, .slice none 0 0, .slice none 0 0, .slice none 0 0] 36) none)
  have C := Lib.hid (below_any W0 _ c bs bv s 14 hA (by unfold InI; omega))
  have hp := pickN_eq bs 14 s (by decide)
  rw [show ((14 : Nat) : Int) = 14 from rfl] at hp
  rw [hp, hk] at C
  have hd1 : ((d + 1 : Nat) : Int) - 1 = (d : Int) := by omega
  have R0 : Res8 (w.alloc (.cells #[.int .i64 0, .string ⟨#[]⟩, .int .i64 0, .int .i64 0, .string ⟨#[]⟩, .slice none 0 0, .slice none 0 0, .slice none 0 0] 36)) w.heap.size := heap_alloc_new _ _
  have HR0 := Lib.hid R0
  clear hk ih hp h R0 hA
  go_enter Tryz.func131, Tryz.ntmps131
  go_wp2_with fail
  refine C.out.mono ?_
  rintro e w1 ⟨rfl, hx⟩
  have X1 := Lib.hid hx
  have R1 := Lib.hid (HR0.out.next hx.2 (by simp; omega))
  have hw1 := hx.2.size
  have hw1b : w.heap.size < w1.heap.size := by simp at hw1; omega
  clear hx hw1
  go_wp2_with fail
  refine (draw_any bs 1 (by decide) W0 w1 c bv _ X1.out.1).mono ?_
  rintro e w2 ⟨v2, rfl, hl2, hx2⟩
  obtain ⟨va, vc, rfl⟩ := hl2.shape
  have HL2 := Lib.hid hl2
  have X2 := Lib.hid hx2
  have R2 := Lib.hid (R1.out.next hx2.2 (by simp; omega))
  have G2 := Lib.hid (X1.out.2.trans hx2.2)
  have hw2b : w1.heap.size ≤ w2.heap.size := hx2.2.size
  clear hl2 hx2
  go_wp2_with fail
  refine (IH.out W0 w2 c bv _ X2.out.1).mono ?_
  rintro e w3 ⟨v3, rfl, hk3, ⟨gb, cb, rfl⟩, hx3⟩
  have HK3 := Lib.hid hk3
  have X3 := Lib.hid hx3
  have R3 := Lib.hid (R2.out.next hx3.2 (by simp; omega))
  have G3 := Lib.hid (G2.out.trans hx3.2)
  have hw3b : w2.heap.size ≤ w3.heap.size := hx3.2.size
  have HT3 := Lib.hid ((HL2.out.keep cut_young).keep (cut_same (w' := w3) (Nat.le_refl _) (Nat.le_refl _) (fun k h1 h2 => hx3.2.block k h2 (by simp; omega))))
  clear hk3 hx3
  obtain ⟨q0, q1, q2, q3, q4, q5, q6, q7, qf⟩ := R3.out.cells
  have f0 := qf 0
  have f1 := qf 1
  have f2 := qf 2
  have f3 := qf 3
  have f4 := qf 4
  have f5 := qf 5
  have f6 := qf 6
  have f7 := qf 7
  clear qf
  go_wp2
  refine bodyPost_ret (v := .agg #[.int .i64 3, .string ⟨#[]⟩, .int .i64 (drawT bs 1 (belowS bs 14 s)).1.kind, .int .i64 (drawT bs 1 (belowS bs 14 s)).1.num, .string (drawT bs 1 (belowS bs 14 s)).1.name, .slice va (drawT bs 1 (belowS bs 14 s)).1.kids.length vc, .slice (some ⟨gb, 0, none⟩) (drawL bs d (drawT bs 1 (belowS bs 14 s)).2).1.length cb, .slice none 0 0]) (by simp [results, Tryz.results131, go_sem, q0, q1, q2, q3, q4, q5, q6, q7]) rfl ⟨_, rfl, ?_, ?_⟩
  · rw [HT.out]
    refine dx_put (lo := w1.heap.size) ?_ (by omega) (by omega) _ _ _ _ _ _ _ _
    exact DX.mk (x := .node 3 ⟨#[]⟩ (drawT bs 1 (belowS bs 14 s)).1 (drawL bs d (drawT bs 1 (belowS bs 14 s)).2).1 []) (m1 := w2.heap.size) (m2 := w3.heap.size) (by show InI 3; unfold InI; omega) (by show (0 : Nat) ≤ _; omega) hw2b HT3.out HK3.out (DK.nil _ (Nat.le_refl _))
  · rw [HT.out]
    exact next_res8 X3.out.1 G3.out hcw
end Go.Proofs.YtkfeiekgdfklmaaGreatDoor.Cur
