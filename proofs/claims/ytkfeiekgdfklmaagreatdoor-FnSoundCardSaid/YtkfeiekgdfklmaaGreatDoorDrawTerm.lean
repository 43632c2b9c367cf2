/- The model's drawn terms, walked. Conditions: the bytes lie in memory that is older than the cursor. -/
import Derived.Test.YtkfeiekgdfklmaaGreatDoorChecked
import Derived.Test.YtkfeiekgdfklmaaGreatDoorCursor
import Derived.Test.YtkfeiekgdfklmaaGreatDoorCursorPick
import Derived.Test.YtkfeiekgdfklmaaGreatDoorTermSize
import Derived.Test.YtkfeiekgdfklmaaGreatDoorFreeT
import Derived.RangeFuncRecord
import Derived.WalkKit
import Derived.WalkSmall
import Derived.Outline
namespace Go.Proofs.YtkfeiekgdfklmaaGreatDoor.Cur
open Go.RowKit Own Trm
def numsL : List Int := [0, 1, 2, 3, 7, 999, 1000, 1000000000]
def namesL : List ByteArray := [⟨#[120]⟩, ⟨#[121]⟩, ⟨#[122]⟩, ⟨#[120]⟩, ⟨#[117]⟩]
def kindsL : List Int := [3, 4, 5, 6, 7, 9]
def leafT (bs : List UInt8) (k : Nat) (s : St) : Tree × St :=
  if k < 3 then (.node 1 (numsL.getD (pickN bs 8 s) 0) ⟨#[]⟩ [], belowS bs 8 s) else (.node 2 0 (namesL.getD (pickN bs 5 s) ByteArray.empty) [], belowS bs 5 s)
/-- The drawn term, and the cursor behind it. -/
def drawT (bs : List UInt8) : Nat → St → Tree × St
  | 0, s => leafT bs (if 6 ≤ pickN bs 12 s then pickN bs 12 s - 6 else pickN bs 12 s) (belowS bs 12 s)
  | d + 1, s =>
    if pickN bs 12 s < 6 then leafT bs (pickN bs 12 s) (belowS bs 12 s)
    else if pickN bs 12 s = 6 then (.node 8 0 ⟨#[]⟩ [(drawT bs d (belowS bs 12 s)).1], (drawT bs d (belowS bs 12 s)).2)
    else (.node (kindsL.getD (pickN bs 6 (belowS bs 12 s)) 0) 0 ⟨#[]⟩ [(drawT bs d (belowS bs 6 (belowS bs 12 s))).1, (drawT bs d (drawT bs d (belowS bs 6 (belowS bs 12 s))).2).1], (drawT bs d (drawT bs d (belowS bs 6 (belowS bs 12 s))).2).2)
/-- A world without its older blocks. -/
def young (w : World) (B : Nat) : World := { w with heap := w.heap.mapIdx fun i o => if i < B then .map #[] 0 else o }
theorem young_at {w : World} {B k : Nat} (h : B ≤ k) : (young w B).heap[k]? = w.heap[k]? := by
  unfold young
  rw [Array.getElem?_mapIdx]
  cases w.heap[k]? with
  | none => rfl
  | some o => simp; omega
theorem young_no {w : World} {B : Nat} {p : Addr} {u : Value} (h : (young w B).cell? p = some u) : B ≤ p.block := by
  rcases Nat.lt_or_ge p.block B with hb | hb
  · exfalso
    unfold World.cell? young at h
    rw [Array.getElem?_mapIdx] at h
    cases e : w.heap[p.block]? with
    | none => rw [e] at h; simp at h
    | some o => rw [e] at h; simp [hb] at h
  · exact hb
/-- A term that lies in memory, in rows that are not frozen. -/
def LiesD (w : World) (t : Tree) (v : Value) : Prop := Lies w t v ∧ LiesF w t v
def KeepD (w w' : World) : Prop := Keeps w w' ∧ KeepF w w'
theorem KeepD.trans {a b c : World} (h : KeepD a b) (k : KeepD b c) : KeepD a c := ⟨h.1.trans k.1, h.2.trans k.2⟩
theorem keepD_below {w w' : World} (h : Below w.heap.size w w') : KeepD w w' := ⟨keeps_below h, keepF_below h⟩
theorem LiesD.keep {w w' : World} {t : Tree} {v : Value} (h : LiesD w t v) (k : KeepD w w') : LiesD w' t v := ⟨h.1.keep k.1, h.2.keep k.2⟩
theorem LiesD.shape {w : World} {t : Tree} {v : Value} (h : LiesD w t v) : ∃ a cap, v = .agg #[.int .i64 t.kind, .int .i64 t.num, .string t.name, .slice a t.kids.length cap] := h.1.shape
theorem young_blk {w : World} {B b : Nat} {cs : Array Value} {T : TypeId} {z : Nat × Nat} (h : (young w B).heap[b]? = some (.cells cs T z)) : B ≤ b ∧ w.heap[b]? = some (.cells cs T z) := by
  rcases Nat.lt_or_ge b B with hb | hb
  · exfalso
    unfold young at h
    rw [Array.getElem?_mapIdx] at h
    cases e : w.heap[b]? with
    | none => rw [e] at h; simp at h
    | some o => rw [e] at h; simp [hb] at h
  · exact ⟨hb, (young_at hb).symm.trans h⟩
theorem young_keeps (w : World) (B : Nat) : KeepD (young w B) w := by
  refine ⟨?_, fun b cs T z h => (young_blk h).2⟩
  intro p u h
  have hb := young_no h
  rw [← h]
  exact (World.cell?_of_block (young_at hb)).symm
theorem young_same {w w' : World} {B B' : Nat} (hB : B' ≤ B) (h : ∀ k, B ≤ k → k < w.heap.size → w'.heap[k]? = w.heap[k]?) : KeepD (young w B) (young w' B') := by
  refine ⟨?_, fun b cs T z e => ?_⟩
  · intro p u e
    have hb := young_no e
    have hlt := cell_lt ((young_keeps w B).1 p u e)
    rw [← e]
    exact World.cell?_of_block ((young_at (Nat.le_trans hB hb)).trans ((h p.block hb hlt).trans (young_at hb).symm))
  · obtain ⟨hb, e2⟩ := young_blk e
    exact (young_at (Nat.le_trans hB hb)).trans ((h b hb (heap_lt e2)).trans e2)
theorem young_cell {w : World} {B g j : Nat} (h : B ≤ g) : (young w B).cell? ⟨g, j, none⟩ = w.cell? ⟨g, j, none⟩ := World.cell?_of_block (young_at h)
theorem pickNum (W0 w : World) (c : Nat) (bs : List UInt8) (bv : Value) (s : St) (h : At W0 w c bs bv s) :
    Calls Tryz.prog 185 #[.pointer (some ⟨c, 0, none⟩), .slice (some ⟨w.heap.size, 0, none⟩) 8 8] (w.alloc (.cells #[.int .i64 0, .int .i64 1, .int .i64 2, .int .i64 3, .int .i64 7, .int .i64 999, .int .i64 1000, .int .i64 1000000000] 3)) fun e w' => e = .returned (.int .i64 (numsL.getD (pickN bs 8 s) 0)) ∧ Next W0 (w.alloc (.cells #[.int .i64 0, .int .i64 1, .int .i64 2, .int .i64 3, .int .i64 7, .int .i64 999, .int .i64 1000, .int .i64 1000000000] 3)) c bs bv (belowS bs 8 s) w' :=
  pickInt_any W0 _ c bs bv s (h.grown (World.grownBy_alloc _ _ _)) numsL (by decide) (by decide) w.heap.size 8 3 (0, 0) (heap_alloc_new _ _) (by have := h.lt; omega)
theorem pickKind (W0 w : World) (c : Nat) (bs : List UInt8) (bv : Value) (s : St) (h : At W0 w c bs bv s) :
    Calls Tryz.prog 185 #[.pointer (some ⟨c, 0, none⟩), .slice (some ⟨w.heap.size, 0, none⟩) 6 6] (w.alloc (.cells #[.int .i64 3, .int .i64 4, .int .i64 5, .int .i64 6, .int .i64 7, .int .i64 9] 3)) fun e w' => e = .returned (.int .i64 (kindsL.getD (pickN bs 6 s) 0)) ∧ Next W0 (w.alloc (.cells #[.int .i64 3, .int .i64 4, .int .i64 5, .int .i64 6, .int .i64 7, .int .i64 9] 3)) c bs bv (belowS bs 6 s) w' :=
  pickInt_any W0 _ c bs bv s (h.grown (World.grownBy_alloc _ _ _)) kindsL (by decide) (by decide) w.heap.size 6 3 (0, 0) (heap_alloc_new _ _) (by have := h.lt; omega)
theorem pickName (W0 w : World) (c : Nat) (bs : List UInt8) (bv : Value) (s : St) (h : At W0 w c bs bv s) :
    Calls Tryz.prog 132 #[.pointer (some ⟨c, 0, none⟩), .slice (some ⟨w.heap.size, 0, none⟩) 5 5] (w.alloc (.cells #[.string ⟨#[120]⟩, .string ⟨#[121]⟩, .string ⟨#[122]⟩, .string ⟨#[120]⟩, .string ⟨#[117]⟩] 9)) fun e w' => e = .returned (.string (namesL.getD (pickN bs 5 s) ByteArray.empty)) ∧ Next W0 (w.alloc (.cells #[.string ⟨#[120]⟩, .string ⟨#[121]⟩, .string ⟨#[122]⟩, .string ⟨#[120]⟩, .string ⟨#[117]⟩] 9)) c bs bv (belowS bs 5 s) w' :=
  pick_any W0 _ c bs bv s (h.grown (World.grownBy_alloc _ _ _)) namesL (by decide) (by decide) w.heap.size 5 9 (0, 0) (heap_alloc_new _ _) (by have := h.lt; omega)
/-- The result's block, not written yet. -/
def Res (w : World) (r : Nat) : Prop := w.heap[r]? = some (.cells #[.int .i64 0, .int .i64 0, .string ⟨#[]⟩, .slice none 0 0] 34 (0, 0))
theorem Res.cells {w : World} {r : Nat} (h : Res w r) : w.cell? ⟨r, 0, none⟩ = some (.int .i64 0) ∧ w.cell? ⟨r, 1, none⟩ = some (.int .i64 0) ∧ w.cell? ⟨r, 2, none⟩ = some (.string ⟨#[]⟩) ∧ w.cell? ⟨r, 3, none⟩ = some (.slice none 0 0) ∧ (∀ j, w.frozen? ⟨r, j, none⟩ = false) := by
  refine ⟨?_, ?_, ?_, ?_, fun j => frozen_of_row w r j _ _ h⟩
  · rw [cell_of_row w r 0 _ _ _ h]; rfl
  · rw [cell_of_row w r 1 _ _ _ h]; rfl
  · rw [cell_of_row w r 2 _ _ _ h]; rfl
  · rw [cell_of_row w r 3 _ _ _ h]; rfl
theorem Res.next {w w' : World} {r : Nat} {row : Option Nat} (h : Res w r) (hg : w.grownBy w' row) (hr : row ≠ some r) : Res w' r := by
  have hlt : r < w.heap.size := cell_lt h.cells.1
  exact (hg.block r hlt (fun e => hr e.symm)).trans h
def DrawOk (bs : List UInt8) (d : Nat) : Prop := ∀ (W0 w : World) (c : Nat) (bv : Value) (s : St), At W0 w c bs bv s →
    Calls Tryz.prog 167 #[.pointer (some ⟨c, 0, none⟩), .int .i64 (d : Int)] w fun e w' => ∃ v, e = .returned v ∧ LiesD (young w' w.heap.size) (drawT bs d s).1 v ∧ Next W0 w c bs bv (drawT bs d s).2 w'
/-- A leaf of either kind. -/
theorem lies_num (w : World) (x : Int) (h : InI x) : LiesD w (.node 1 x ⟨#[]⟩ []) (.agg #[.int .i64 1, .int .i64 x, .string ⟨#[]⟩, .slice none 0 0]) := ⟨⟨by unfold InI; omega, h, by decide, by simp, none, 0, rfl, fun h => by simp at h⟩, ⟨by simp, none, 0, rfl, fun h => by simp at h⟩⟩
theorem lies_name (w : World) (s : ByteArray) (h : s.size ≤ 9223372036854775807) : LiesD w (.node 2 0 s []) (.agg #[.int .i64 2, .int .i64 0, .string s, .slice none 0 0]) := ⟨⟨by unfold InI; omega, by unfold InI; omega, h, by simp, none, 0, rfl, fun h => by simp at h⟩, ⟨by simp, none, 0, rfl, fun h => by simp at h⟩⟩
theorem nums_in (bs : List UInt8) (s : St) : InI (numsL.getD (pickN bs 8 s) 0) := by
  have h := pickN_lt bs 8 s (by decide)
  generalize pickN bs 8 s = k at h
  unfold InI
  match k, h with
  | 0, _ => decide
  | 1, _ => decide
  | 2, _ => decide
  | 3, _ => decide
  | 4, _ => decide
  | 5, _ => decide
  | 6, _ => decide
  | 7, _ => decide
theorem names_in (bs : List UInt8) (s : St) : (namesL.getD (pickN bs 5 s) ByteArray.empty).size ≤ 9223372036854775807 := by
  have h := pickN_lt bs 5 s (by decide)
  generalize pickN bs 5 s = k at h
  match k, h with
  | 0, _ => decide
  | 1, _ => decide
  | 2, _ => decide
  | 3, _ => decide
  | 4, _ => decide
theorem At.put {W0 w : World} {c r : Nat} {bs : List UInt8} {bv : Value} {s : St} (h : At W0 w c bs bv s) (hr : c < r) (j : Nat) (u : Value) : At W0 (w.setCell ⟨r, j, none⟩ u) c bs bv s :=
  ⟨h.bytes, h.old.setCell (by have := h.new; simp; omega) _, h.new, (heap_setCell_other w ⟨r, j, none⟩ c u (by simp; omega)).trans h.block, h.le, h.hI⟩
theorem next_res {W0 w w2 : World} {c : Nat} {bs : List UInt8} {bv : Value} {s : St} {a b d e : Value} (h : At W0 w2 c bs bv s) (hg : (w.alloc (.cells #[.int .i64 0, .int .i64 0, .string ⟨#[]⟩, .slice none 0 0] 34)).grownBy w2 (some c)) (hc : c < w.heap.size) :
    Next W0 w c bs bv s ((((w2.setCell ⟨w.heap.size, 0, none⟩ a).setCell ⟨w.heap.size, 1, none⟩ b).setCell ⟨w.heap.size, 2, none⟩ d).setCell ⟨w.heap.size, 3, none⟩ e) := by
  refine ⟨(((h.put hc 0 a).put hc 1 b).put hc 2 d).put hc 3 e, ?_⟩
  have hg2 := (World.grownBy_alloc w (.cells #[.int .i64 0, .int .i64 0, .string ⟨#[]⟩, .slice none 0 0] 34) (some c)).trans hg
  refine ⟨hg2.os, hg2.tape, hg2.output, by simpa using hg2.size, fun k hk hn => ?_⟩
  rw [heap_setCell_other _ _ _ _ (by simp; omega), heap_setCell_other _ _ _ _ (by simp; omega), heap_setCell_other _ _ _ _ (by simp; omega), heap_setCell_other _ _ _ _ (by simp; omega)]
  exact hg2.block k hk hn
set_option maxHeartbeats 800000 in
theorem leaf_num_low (bs : List UInt8) (d : Nat) (hd : d ≤ 1000) (W0 w : World) (c : Nat) (bv : Value) (s : St) (k2 : Nat) (h : At W0 w c bs bv s) (hk : pickN bs 12 s = k2) (hk6 : k2 < 6) (hc : k2 < 3) (ht : drawT bs d s = leafT bs k2 (belowS bs 12 s)) :
    Calls Tryz.prog 167 #[.pointer (some ⟨c, 0, none⟩), .int .i64 (d : Int)] w fun e w' => ∃ v, e = .returned v ∧ LiesD (young w' w.heap.size) (drawT bs d s).1 v ∧ Next W0 w c bs bv (drawT bs d s).2 w' := by
  rw [show leafT bs k2 (belowS bs 12 s) = (.node 1 (numsL.getD (pickN bs 8 (belowS bs 12 s)) 0) ⟨#[]⟩ [], belowS bs 8 (belowS bs 12 s)) from by unfold leafT; rw [if_pos hc]] at ht
  have HT := Lib.hid ht
  have hcw := h.lt
  have hA := h.grown (World.grownBy_alloc w (.cells #[.int .i64 0, .int .i64 0, .string ⟨#[]⟩, .slice none 0 0] 34) none)
  have C := Lib.hid (below_any W0 _ c bs bv s 12 hA (by unfold InI; omega))
  have hp := pickN_eq bs 12 s (by decide)
  rw [show ((12 : Nat) : Int) = 12 from rfl] at hp
  rw [hp, hk] at C
  clear hk
  have R0 : Res (w.alloc (.cells #[.int .i64 0, .int .i64 0, .string ⟨#[]⟩, .slice none 0 0] 34)) w.heap.size := heap_alloc_new _ _
  have HR0 := Lib.hid R0
  clear ht hp h R0 hA
  by_cases hd0 : d = 0
  · subst hd0
    go_enter Tryz.func167, Tryz.ntmps167
    go_wp2_with fail
    refine C.out.mono ?_
    rintro e w1 ⟨rfl, hx⟩
    have X1 := Lib.hid hx
    have R1 := Lib.hid (HR0.out.next hx.2 (by simp; omega))
    have hw1 := hx.2.size
    have hw1b : w.heap.size < w1.heap.size := by simp at hw1; omega
    clear hx hw1
    go_wp2_with fail
    refine (pickNum W0 w1 c bs bv _ X1.out.1).mono ?_
    rintro e w2 ⟨rfl, hx2⟩
    have X2 := Lib.hid hx2
    have R2 := Lib.hid ((R1.out.next (World.grownBy_alloc _ _ none) (by simp)).next hx2.2 (by simp; omega))
    have G2 := Lib.hid ((X1.out.2.trans (grown_but (World.grownBy_alloc _ _ none) _)).trans hx2.2)
    clear hx2
    obtain ⟨q0, q1, q2, q3, qf⟩ := R2.out.cells
    have f0 := qf 0
    have f1 := qf 1
    have f2 := qf 2
    have f3 := qf 3
    clear qf
    go_wp2
    refine bodyPost_ret (v := .agg #[.int .i64 1, .int .i64 (numsL.getD (pickN bs 8 (belowS bs 12 s)) 0), .string ⟨#[]⟩, .slice none 0 0]) (by simp [results, Tryz.results167, go_sem, q0, q1, q2, q3]) rfl ⟨_, rfl, ?_, ?_⟩
    · rw [HT.out]
      exact lies_num _ _ (nums_in _ _)
    · rw [HT.out]
      exact next_res X2.out.1 G2.out hcw
  · have hd1 : 0 < d := by omega
    go_enter Tryz.func167, Tryz.ntmps167
    go_wp2_with fail
    refine C.out.mono ?_
    rintro e w1 ⟨rfl, hx⟩
    have X1 := Lib.hid hx
    have R1 := Lib.hid (HR0.out.next hx.2 (by simp; omega))
    have hw1 := hx.2.size
    have hw1b : w.heap.size < w1.heap.size := by simp at hw1; omega
    clear hx hw1
    go_wp2_with fail
    refine (pickNum W0 w1 c bs bv _ X1.out.1).mono ?_
    rintro e w2 ⟨rfl, hx2⟩
    have X2 := Lib.hid hx2
    have R2 := Lib.hid ((R1.out.next (World.grownBy_alloc _ _ none) (by simp)).next hx2.2 (by simp; omega))
    have G2 := Lib.hid ((X1.out.2.trans (grown_but (World.grownBy_alloc _ _ none) _)).trans hx2.2)
    clear hx2
    obtain ⟨q0, q1, q2, q3, qf⟩ := R2.out.cells
    have f0 := qf 0
    have f1 := qf 1
    have f2 := qf 2
    have f3 := qf 3
    clear qf
    go_wp2
    refine bodyPost_ret (v := .agg #[.int .i64 1, .int .i64 (numsL.getD (pickN bs 8 (belowS bs 12 s)) 0), .string ⟨#[]⟩, .slice none 0 0]) (by simp [results, Tryz.results167, go_sem, q0, q1, q2, q3]) rfl ⟨_, rfl, ?_, ?_⟩
    · rw [HT.out]
      exact lies_num _ _ (nums_in _ _)
    · rw [HT.out]
      exact next_res X2.out.1 G2.out hcw
set_option maxHeartbeats 800000 in
theorem leaf_num_high (bs : List UInt8) (d : Nat) (hd : d ≤ 1000) (W0 w : World) (c : Nat) (bv : Value) (s : St) (k2 : Nat) (h : At W0 w c bs bv s) (hk : pickN bs 12 s = k2 + 6) (hd0 : d = 0) (hc : k2 < 3) (ht : drawT bs d s = leafT bs k2 (belowS bs 12 s)) :
    Calls Tryz.prog 167 #[.pointer (some ⟨c, 0, none⟩), .int .i64 (d : Int)] w fun e w' => ∃ v, e = .returned v ∧ LiesD (young w' w.heap.size) (drawT bs d s).1 v ∧ Next W0 w c bs bv (drawT bs d s).2 w' := by
  rw [show leafT bs k2 (belowS bs 12 s) = (.node 1 (numsL.getD (pickN bs 8 (belowS bs 12 s)) 0) ⟨#[]⟩ [], belowS bs 8 (belowS bs 12 s)) from by unfold leafT; rw [if_pos hc]] at ht
  have HT := Lib.hid ht
  have hcw := h.lt
  have hA := h.grown (World.grownBy_alloc w (.cells #[.int .i64 0, .int .i64 0, .string ⟨#[]⟩, .slice none 0 0] 34) none)
  have C := Lib.hid (below_any W0 _ c bs bv s 12 hA (by unfold InI; omega))
  have hp := pickN_eq bs 12 s (by decide)
  rw [show ((12 : Nat) : Int) = 12 from rfl] at hp
  rw [hp, hk] at C
  rw [show ((k2 + 6 : Nat) : Int) = (k2 : Int) + 6 from by omega] at C
  clear hk
  have R0 : Res (w.alloc (.cells #[.int .i64 0, .int .i64 0, .string ⟨#[]⟩, .slice none 0 0] 34)) w.heap.size := heap_alloc_new _ _
  have HR0 := Lib.hid R0
  clear ht hp h R0 hA
  subst hd0
  go_enter Tryz.func167, Tryz.ntmps167
  go_wp2_with fail
  refine C.out.mono ?_
  rintro e w1 ⟨rfl, hx⟩
  have X1 := Lib.hid hx
  have R1 := Lib.hid (HR0.out.next hx.2 (by simp; omega))
  have hw1 := hx.2.size
  have hw1b : w.heap.size < w1.heap.size := by simp at hw1; omega
  clear hx hw1
  go_wp2_with fail
  refine (pickNum W0 w1 c bs bv _ X1.out.1).mono ?_
  rintro e w2 ⟨rfl, hx2⟩
  have X2 := Lib.hid hx2
  have R2 := Lib.hid ((R1.out.next (World.grownBy_alloc _ _ none) (by simp)).next hx2.2 (by simp; omega))
  have G2 := Lib.hid ((X1.out.2.trans (grown_but (World.grownBy_alloc _ _ none) _)).trans hx2.2)
  clear hx2
  obtain ⟨q0, q1, q2, q3, qf⟩ := R2.out.cells
  have f0 := qf 0
  have f1 := qf 1
  have f2 := qf 2
  have f3 := qf 3
  clear qf
  go_wp2
  refine bodyPost_ret (v := .agg #[.int .i64 1, .int .i64 (numsL.getD (pickN bs 8 (belowS bs 12 s)) 0), .string ⟨#[]⟩, .slice none 0 0]) (by simp [results, Tryz.results167, go_sem, q0, q1, q2, q3]) rfl ⟨_, rfl, ?_, ?_⟩
  · rw [HT.out]
    exact lies_num _ _ (nums_in _ _)
  · rw [HT.out]
    exact next_res X2.out.1 G2.out hcw
set_option maxHeartbeats 800000 in
theorem leaf_name_low (bs : List UInt8) (d : Nat) (hd : d ≤ 1000) (W0 w : World) (c : Nat) (bv : Value) (s : St) (k2 : Nat) (h : At W0 w c bs bv s) (hk : pickN bs 12 s = k2) (hk6 : k2 < 6) (hc : 3 ≤ k2) (ht : drawT bs d s = leafT bs k2 (belowS bs 12 s)) :
    Calls Tryz.prog 167 #[.pointer (some ⟨c, 0, none⟩), .int .i64 (d : Int)] w fun e w' => ∃ v, e = .returned v ∧ LiesD (young w' w.heap.size) (drawT bs d s).1 v ∧ Next W0 w c bs bv (drawT bs d s).2 w' := by
  rw [show leafT bs k2 (belowS bs 12 s) = (.node 2 0 (namesL.getD (pickN bs 5 (belowS bs 12 s)) ByteArray.empty) [], belowS bs 5 (belowS bs 12 s)) from by unfold leafT; rw [if_neg (by omega)]] at ht
  have HT := Lib.hid ht
  have hcw := h.lt
  have hA := h.grown (World.grownBy_alloc w (.cells #[.int .i64 0, .int .i64 0, .string ⟨#[]⟩, .slice none 0 0] 34) none)
  have C := Lib.hid (below_any W0 _ c bs bv s 12 hA (by unfold InI; omega))
  have hp := pickN_eq bs 12 s (by decide)
  rw [show ((12 : Nat) : Int) = 12 from rfl] at hp
  rw [hp, hk] at C
  clear hk
  have R0 : Res (w.alloc (.cells #[.int .i64 0, .int .i64 0, .string ⟨#[]⟩, .slice none 0 0] 34)) w.heap.size := heap_alloc_new _ _
  have HR0 := Lib.hid R0
  clear ht hp h R0 hA
  by_cases hd0 : d = 0
  · subst hd0
    go_enter Tryz.func167, Tryz.ntmps167
    go_wp2_with fail
    refine C.out.mono ?_
    rintro e w1 ⟨rfl, hx⟩
    have X1 := Lib.hid hx
    have R1 := Lib.hid (HR0.out.next hx.2 (by simp; omega))
    have hw1 := hx.2.size
    have hw1b : w.heap.size < w1.heap.size := by simp at hw1; omega
    clear hx hw1
    go_wp2_with fail
    refine (pickName W0 w1 c bs bv _ X1.out.1).mono ?_
    rintro e w2 ⟨rfl, hx2⟩
    have X2 := Lib.hid hx2
    have R2 := Lib.hid ((R1.out.next (World.grownBy_alloc _ _ none) (by simp)).next hx2.2 (by simp; omega))
    have G2 := Lib.hid ((X1.out.2.trans (grown_but (World.grownBy_alloc _ _ none) _)).trans hx2.2)
    clear hx2
    obtain ⟨q0, q1, q2, q3, qf⟩ := R2.out.cells
    have f0 := qf 0
    have f1 := qf 1
    have f2 := qf 2
    have f3 := qf 3
    clear qf
    go_wp2
    refine bodyPost_ret (v := .agg #[.int .i64 2, .int .i64 0, .string (namesL.getD (pickN bs 5 (belowS bs 12 s)) ByteArray.empty), .slice none 0 0]) (by simp [results, Tryz.results167, go_sem, q0, q1, q2, q3]) rfl ⟨_, rfl, ?_, ?_⟩
    · rw [HT.out]
      exact lies_name _ _ (names_in _ _)
    · rw [HT.out]
      exact next_res X2.out.1 G2.out hcw
  · have hd1 : 0 < d := by omega
    go_enter Tryz.func167, Tryz.ntmps167
    go_wp2_with fail
    refine C.out.mono ?_
    rintro e w1 ⟨rfl, hx⟩
    have X1 := Lib.hid hx
    have R1 := Lib.hid (HR0.out.next hx.2 (by simp; omega))
    have hw1 := hx.2.size
    have hw1b : w.heap.size < w1.heap.size := by simp at hw1; omega
    clear hx hw1
    go_wp2_with fail
    refine (pickName W0 w1 c bs bv _ X1.out.1).mono ?_
    rintro e w2 ⟨rfl, hx2⟩
    have X2 := Lib.hid hx2
    have R2 := Lib.hid ((R1.out.next (World.grownBy_alloc _ _ none) (by simp)).next hx2.2 (by simp; omega))
    have G2 := Lib.hid ((X1.out.2.trans (grown_but (World.grownBy_alloc _ _ none) _)).trans hx2.2)
    clear hx2
    obtain ⟨q0, q1, q2, q3, qf⟩ := R2.out.cells
    have f0 := qf 0
    have f1 := qf 1
    have f2 := qf 2
    have f3 := qf 3
    clear qf
    go_wp2
    refine bodyPost_ret (v := .agg #[.int .i64 2, .int .i64 0, .string (namesL.getD (pickN bs 5 (belowS bs 12 s)) ByteArray.empty), .slice none 0 0]) (by simp [results, Tryz.results167, go_sem, q0, q1, q2, q3]) rfl ⟨_, rfl, ?_, ?_⟩
    · rw [HT.out]
      exact lies_name _ _ (names_in _ _)
    · rw [HT.out]
      exact next_res X2.out.1 G2.out hcw
set_option maxHeartbeats 800000 in
theorem leaf_name_high (bs : List UInt8) (d : Nat) (hd : d ≤ 1000) (W0 w : World) (c : Nat) (bv : Value) (s : St) (k2 : Nat) (h : At W0 w c bs bv s) (hk : pickN bs 12 s = k2 + 6) (hd0 : d = 0) (hc : 3 ≤ k2) (hk12 : k2 < 6) (ht : drawT bs d s = leafT bs k2 (belowS bs 12 s)) :
    Calls Tryz.prog 167 #[.pointer (some ⟨c, 0, none⟩), .int .i64 (d : Int)] w fun e w' => ∃ v, e = .returned v ∧ LiesD (young w' w.heap.size) (drawT bs d s).1 v ∧ Next W0 w c bs bv (drawT bs d s).2 w' := by
  rw [show leafT bs k2 (belowS bs 12 s) = (.node 2 0 (namesL.getD (pickN bs 5 (belowS bs 12 s)) ByteArray.empty) [], belowS bs 5 (belowS bs 12 s)) from by unfold leafT; rw [if_neg (by omega)]] at ht
  have HT := Lib.hid ht
  have hcw := h.lt
  have hA := h.grown (World.grownBy_alloc w (.cells #[.int .i64 0, .int .i64 0, .string ⟨#[]⟩, .slice none 0 0] 34) none)
  have C := Lib.hid (below_any W0 _ c bs bv s 12 hA (by unfold InI; omega))
  have hp := pickN_eq bs 12 s (by decide)
  rw [show ((12 : Nat) : Int) = 12 from rfl] at hp
  rw [hp, hk] at C
  rw [show ((k2 + 6 : Nat) : Int) = (k2 : Int) + 6 from by omega] at C
  clear hk
  have R0 : Res (w.alloc (.cells #[.int .i64 0, .int .i64 0, .string ⟨#[]⟩, .slice none 0 0] 34)) w.heap.size := heap_alloc_new _ _
  have HR0 := Lib.hid R0
  clear ht hp h R0 hA
  subst hd0
  go_enter Tryz.func167, Tryz.ntmps167
  go_wp2_with fail
  refine C.out.mono ?_
  rintro e w1 ⟨rfl, hx⟩
  have X1 := Lib.hid hx
  have R1 := Lib.hid (HR0.out.next hx.2 (by simp; omega))
  have hw1 := hx.2.size
  have hw1b : w.heap.size < w1.heap.size := by simp at hw1; omega
  clear hx hw1
  go_wp2_with fail
  refine (pickName W0 w1 c bs bv _ X1.out.1).mono ?_
  rintro e w2 ⟨rfl, hx2⟩
  have X2 := Lib.hid hx2
  have R2 := Lib.hid ((R1.out.next (World.grownBy_alloc _ _ none) (by simp)).next hx2.2 (by simp; omega))
  have G2 := Lib.hid ((X1.out.2.trans (grown_but (World.grownBy_alloc _ _ none) _)).trans hx2.2)
  clear hx2
  obtain ⟨q0, q1, q2, q3, qf⟩ := R2.out.cells
  have f0 := qf 0
  have f1 := qf 1
  have f2 := qf 2
  have f3 := qf 3
  clear qf
  go_wp2
  refine bodyPost_ret (v := .agg #[.int .i64 2, .int .i64 0, .string (namesL.getD (pickN bs 5 (belowS bs 12 s)) ByteArray.empty), .slice none 0 0]) (by simp [results, Tryz.results167, go_sem, q0, q1, q2, q3]) rfl ⟨_, rfl, ?_, ?_⟩
  · rw [HT.out]
    exact lies_name _ _ (names_in _ _)
  · rw [HT.out]
    exact next_res X2.out.1 G2.out hcw
/-- A list of one kid, of two. -/
theorem lies_one {w : World} {B g : Nat} {t : Tree} {a : Option Addr} {cap : Nat} {T : TypeId} (k : Int) (hk : InI k) (hg : w.heap[g]? = some (.cells #[.int .i64 t.kind, .int .i64 t.num, .string t.name, .slice a t.kids.length cap] T (0, 0))) (hgc : B ≤ g)
    (hl : LiesD (young w B) t (.agg #[.int .i64 t.kind, .int .i64 t.num, .string t.name, .slice a t.kids.length cap])) : LiesD (young w B) (.node k 0 ⟨#[]⟩ [t]) (.agg #[.int .i64 k, .int .i64 0, .string ⟨#[]⟩, .slice (some ⟨g, 0, none⟩) 1 1]) := by
  refine ⟨⟨hk, by unfold InI; omega, by decide, by simp, some ⟨g, 0, none⟩, 1, rfl, fun _ => ⟨g, 0, rfl, ⟨a, cap, ?_, ?_, ?_, ?_, hl.1⟩, trivial⟩⟩, ⟨by simp, some ⟨g, 0, none⟩, 1, rfl, fun _ => ⟨g, 0, rfl, ⟨_, _, (young_at hgc).trans hg⟩, ⟨a, cap, ?_, ?_, ?_, ?_, hl.2⟩, trivial⟩⟩⟩
  all_goals (rw [young_cell hgc, cell_of_row w g _ _ _ _ hg]; rfl)
theorem lies_two {w : World} {B g : Nat} {t u : Tree} {a a2 : Option Addr} {cap cap2 : Nat} {T : TypeId} (k : Int) (hk : InI k) (hg : w.heap[g]? = some (.cells #[.int .i64 t.kind, .int .i64 t.num, .string t.name, .slice a t.kids.length cap, .int .i64 u.kind, .int .i64 u.num, .string u.name, .slice a2 u.kids.length cap2] T (0, 0))) (hgc : B ≤ g)
    (hl : LiesD (young w B) t (.agg #[.int .i64 t.kind, .int .i64 t.num, .string t.name, .slice a t.kids.length cap])) (hl2 : LiesD (young w B) u (.agg #[.int .i64 u.kind, .int .i64 u.num, .string u.name, .slice a2 u.kids.length cap2])) :
    LiesD (young w B) (.node k 0 ⟨#[]⟩ [t, u]) (.agg #[.int .i64 k, .int .i64 0, .string ⟨#[]⟩, .slice (some ⟨g, 0, none⟩) 2 2]) := by
  refine ⟨⟨hk, by unfold InI; omega, by decide, by simp, some ⟨g, 0, none⟩, 2, rfl, fun _ => ⟨g, 0, rfl, ⟨a, cap, ?_, ?_, ?_, ?_, hl.1⟩, ⟨a2, cap2, ?_, ?_, ?_, ?_, hl2.1⟩, trivial⟩⟩, ⟨by simp, some ⟨g, 0, none⟩, 2, rfl, fun _ => ⟨g, 0, rfl, ⟨_, _, (young_at hgc).trans hg⟩, ⟨a, cap, ?_, ?_, ?_, ?_, hl.2⟩, ⟨a2, cap2, ?_, ?_, ?_, ?_, hl2.2⟩, trivial⟩⟩⟩
  all_goals (rw [young_cell hgc, cell_of_row w g _ _ _ _ hg]; rfl)
set_option maxHeartbeats 800000 in
theorem draw_not (bs : List UInt8) (d : Nat) (hd : d ≤ 1000) (ih : DrawOk bs d) (W0 w : World) (c : Nat) (bv : Value) (s : St) (h : At W0 w c bs bv s) (hk : pickN bs 12 s = 6) :
    Calls Tryz.prog 167 #[.pointer (some ⟨c, 0, none⟩), .int .i64 ((d + 1 : Nat) : Int)] w fun e w' => ∃ v, e = .returned v ∧ LiesD (young w' w.heap.size) (drawT bs (d + 1) s).1 v ∧ Next W0 w c bs bv (drawT bs (d + 1) s).2 w' := by
  have HT : Hid (drawT bs (d + 1) s = (.node 8 0 ⟨#[]⟩ [(drawT bs d (belowS bs 12 s)).1], (drawT bs d (belowS bs 12 s)).2)) := by show _ = _; rw [drawT, if_neg (by omega), if_pos hk]
  have IH := Lib.hid ih
  have hcw := h.lt
  have hA := h.grown (World.grownBy_alloc w (.cells #[.int .i64 0, .int .i64 0, .string ⟨#[]⟩, .slice none 0 0] 34) none)
  have C := Lib.hid (below_any W0 _ c bs bv s 12 hA (by unfold InI; omega))
  have hp := pickN_eq bs 12 s (by decide)
  rw [show ((12 : Nat) : Int) = 12 from rfl] at hp
  rw [hp, hk] at C
  clear hk ih
  have R0 : Res (w.alloc (.cells #[.int .i64 0, .int .i64 0, .string ⟨#[]⟩, .slice none 0 0] 34)) w.heap.size := heap_alloc_new _ _
  have HR0 := Lib.hid R0
  clear hp h R0 hA
  go_enter Tryz.func167, Tryz.ntmps167
  go_wp2_with fail
  refine C.out.mono ?_
  rintro e w1 ⟨rfl, hx⟩
  have X1 := Lib.hid hx
  have R1 := Lib.hid (HR0.out.next hx.2 (by simp; omega))
  have hw1 := hx.2.size
  have hw1b : w.heap.size < w1.heap.size := by simp at hw1; omega
  clear hx hw1
  go_wp2_with fail
  refine (IH.out W0 w1 c bv _ X1.out.1).mono ?_
  rintro e w2 ⟨v2, rfl, hl2, hx2⟩
  obtain ⟨va, vc, rfl⟩ := hl2.shape
  have HL2 := Lib.hid hl2
  have X2 := Lib.hid (X1.out.trans hx2)
  have HS2 := Lib.hid hx2.2.size
  have R2 := Lib.hid ((R1.out.next hx2.2 (by simp; omega)).next (World.grownBy_alloc w2 (.cells #[.int .i64 (drawT bs d (belowS bs 12 s)).1.kind, .int .i64 (drawT bs d (belowS bs 12 s)).1.num, .string (drawT bs d (belowS bs 12 s)).1.name, .slice va (drawT bs d (belowS bs 12 s)).1.kids.length vc] 34) none) (by simp))
  clear hl2 hx2
  obtain ⟨q0, q1, q2, q3, qf⟩ := R2.out.cells
  have f0 := qf 0
  have f1 := qf 1
  have f2 := qf 2
  have f3 := qf 3
  clear qf
  go_wp2
  have hw2b : w.heap.size < w2.heap.size := by have := HS2.out; omega
  refine bodyPost_ret (v := .agg #[.int .i64 8, .int .i64 0, .string ⟨#[]⟩, .slice (some ⟨w2.heap.size, 0, none⟩) 1 1]) (by simp [results, Tryz.results167, go_sem, q0, q1, q2, q3]) rfl ⟨_, rfl, ?_, ?_⟩
  · rw [HT.out]
    refine lies_one 8 (by unfold InI; omega) (T := 34) ?_ (by omega) (HL2.out.keep (young_same (by omega) (fun k h1 h2 => ?_)))
    · rw [heap_setCell_other _ _ _ _ (by simp; omega), heap_setCell_other _ _ _ _ (by simp; omega), heap_setCell_other _ _ _ _ (by simp; omega), heap_setCell_other _ _ _ _ (by simp; omega)]
      exact heap_alloc_new _ _
    · rw [heap_setCell_other _ _ _ _ (by simp; omega), heap_setCell_other _ _ _ _ (by simp; omega), heap_setCell_other _ _ _ _ (by simp; omega), heap_setCell_other _ _ _ _ (by simp; omega)]
      exact heap_alloc_old _ _ h2
  · rw [HT.out]
    exact next_res (X2.out.1.grown (World.grownBy_alloc _ _ _)) (X2.out.2.trans (grown_but (World.grownBy_alloc _ _ none) _)) hcw
theorem kinds_in (bs : List UInt8) (s : St) : InI (kindsL.getD (pickN bs 6 s) 0) := by
  have h := pickN_lt bs 6 s (by decide)
  generalize pickN bs 6 s = k at h
  unfold InI
  match k, h with
  | 0, _ => decide
  | 1, _ => decide
  | 2, _ => decide
  | 3, _ => decide
  | 4, _ => decide
  | 5, _ => decide
set_option maxHeartbeats 1600000 in
theorem draw_two (bs : List UInt8) (d k2 : Nat) (hd : d ≤ 1000) (ih : DrawOk bs d) (W0 w : World) (c : Nat) (bv : Value) (s : St) (h : At W0 w c bs bv s) (hk : pickN bs 12 s = k2) (hk7 : 7 ≤ k2) :
    Calls Tryz.prog 167 #[.pointer (some ⟨c, 0, none⟩), .int .i64 ((d + 1 : Nat) : Int)] w fun e w' => ∃ v, e = .returned v ∧ LiesD (young w' w.heap.size) (drawT bs (d + 1) s).1 v ∧ Next W0 w c bs bv (drawT bs (d + 1) s).2 w' := by
  have HT : Hid (drawT bs (d + 1) s = (.node (kindsL.getD (pickN bs 6 (belowS bs 12 s)) 0) 0 ⟨#[]⟩ [(drawT bs d (belowS bs 6 (belowS bs 12 s))).1, (drawT bs d (drawT bs d (belowS bs 6 (belowS bs 12 s))).2).1], (drawT bs d (drawT bs d (belowS bs 6 (belowS bs 12 s))).2).2)) := by show _ = _; rw [drawT, if_neg (by omega), if_neg (by omega)]
  have hk12 : k2 < 12 := by have := pickN_lt bs 12 s (by decide); omega
  have hq6 : ((k2 : Int) == 6) = false := by rw [beq_eq_false_iff_ne]; omega
  have IH := Lib.hid ih
  have hcw := h.lt
  have hA := h.grown (World.grownBy_alloc w (.cells #[.int .i64 0, .int .i64 0, .string ⟨#[]⟩, .slice none 0 0] 34) none)
  have C := Lib.hid (below_any W0 _ c bs bv s 12 hA (by unfold InI; omega))
  have hp := pickN_eq bs 12 s (by decide)
  rw [show ((12 : Nat) : Int) = 12 from rfl] at hp
  rw [hp, hk] at C
  clear hk ih
  have R0 : Res (w.alloc (.cells #[.int .i64 0, .int .i64 0, .string ⟨#[]⟩, .slice none 0 0] 34)) w.heap.size := heap_alloc_new _ _
  have HR0 := Lib.hid R0
  clear hp h R0 hA
  go_enter Tryz.func167, Tryz.ntmps167
  go_wp2_with fail
  refine C.out.mono ?_
  rintro e w1 ⟨rfl, hx⟩
  have X1 := Lib.hid hx
  have R1 := Lib.hid (HR0.out.next hx.2 (by simp; omega))
  have hw1 := hx.2.size
  have hw1b : w.heap.size < w1.heap.size := by simp at hw1; omega
  clear hx hw1
  go_wp2_with fail
  refine (pickKind W0 w1 c bs bv _ X1.out.1).mono ?_
  rintro e w2 ⟨rfl, hx2⟩
  have X2 := Lib.hid ((Next.trans ⟨X1.out.1.grown (World.grownBy_alloc w1 (.cells #[.int .i64 3, .int .i64 4, .int .i64 5, .int .i64 6, .int .i64 7, .int .i64 9] 3) none), X1.out.2.trans (grown_but (World.grownBy_alloc w1 (.cells #[.int .i64 3, .int .i64 4, .int .i64 5, .int .i64 6, .int .i64 7, .int .i64 9] 3) none) _)⟩ hx2))
  have R2 := Lib.hid ((R1.out.next (World.grownBy_alloc _ _ none) (by simp)).next hx2.2 (by simp; omega))
  have hw2b : w.heap.size < w2.heap.size := by have := hx2.2.size; simp at this; omega
  clear hx2
  go_wp2_with fail
  refine (IH.out W0 w2 c bv _ X2.out.1).mono ?_
  rintro e w3 ⟨v3, rfl, hl3, hx3⟩
  obtain ⟨va, vc, rfl⟩ := hl3.shape
  have HL3 := Lib.hid hl3
  have X3 := Lib.hid (X2.out.trans hx3)
  have HS3 := Lib.hid hx3.2.size
  have R3 := Lib.hid (R2.out.next hx3.2 (by simp; omega))
  clear hl3 hx3
  go_wp2_with fail
  refine (IH.out W0 w3 c bv _ X3.out.1).mono ?_
  rintro e w4 ⟨v4, rfl, hl4, hx4⟩
  obtain ⟨ua, uc, rfl⟩ := hl4.shape
  have HL4 := Lib.hid hl4
  have HL3b := Lib.hid (HL3.out.keep (young_same (w' := w4) (Nat.le_refl _) (fun k h1 h2 => hx4.2.block k h2 (by simp; omega))))
  have X4 := Lib.hid (X3.out.trans hx4)
  have HS4 := Lib.hid hx4.2.size
  have R4 := Lib.hid ((R3.out.next hx4.2 (by simp; omega)).next (World.grownBy_alloc w4 (.cells #[.int .i64 (drawT bs d (belowS bs 6 (belowS bs 12 s))).1.kind, .int .i64 (drawT bs d (belowS bs 6 (belowS bs 12 s))).1.num, .string (drawT bs d (belowS bs 6 (belowS bs 12 s))).1.name, .slice va (drawT bs d (belowS bs 6 (belowS bs 12 s))).1.kids.length vc, .int .i64 (drawT bs d (drawT bs d (belowS bs 6 (belowS bs 12 s))).2).1.kind, .int .i64 (drawT bs d (drawT bs d (belowS bs 6 (belowS bs 12 s))).2).1.num, .string (drawT bs d (drawT bs d (belowS bs 6 (belowS bs 12 s))).2).1.name, .slice ua (drawT bs d (drawT bs d (belowS bs 6 (belowS bs 12 s))).2).1.kids.length uc] 34) none) (by simp))
  clear hl4 hx4
  obtain ⟨q0, q1, q2, q3, qf⟩ := R4.out.cells
  have f0 := qf 0
  have f1 := qf 1
  have f2 := qf 2
  have f3 := qf 3
  clear qf
  go_wp2
  have hw3b : w.heap.size < w3.heap.size := by have := HS3.out; omega
  have hw4b : w.heap.size < w4.heap.size := by have := HS4.out; omega
  refine bodyPost_ret (v := .agg #[.int .i64 (kindsL.getD (pickN bs 6 (belowS bs 12 s)) 0), .int .i64 0, .string ⟨#[]⟩, .slice (some ⟨w4.heap.size, 0, none⟩) 2 2]) (by simp [results, Tryz.results167, go_sem, q0, q1, q2, q3]) rfl ⟨_, rfl, ?_, ?_⟩
  · rw [HT.out]
    refine lies_two _ (kinds_in _ _) (T := 34) ?_ (by omega) (HL3b.out.keep (young_same (by omega) (fun k h1 h2 => ?_))) (HL4.out.keep (young_same (by omega) (fun k h1 h2 => ?_)))
    · rw [heap_setCell_other _ _ _ _ (by simp; omega), heap_setCell_other _ _ _ _ (by simp; omega), heap_setCell_other _ _ _ _ (by simp; omega), heap_setCell_other _ _ _ _ (by simp; omega)]
      exact heap_alloc_new _ _
    · rw [heap_setCell_other _ _ _ _ (by simp; omega), heap_setCell_other _ _ _ _ (by simp; omega), heap_setCell_other _ _ _ _ (by simp; omega), heap_setCell_other _ _ _ _ (by simp; omega)]
      exact heap_alloc_old _ _ h2
    · rw [heap_setCell_other _ _ _ _ (by simp; omega), heap_setCell_other _ _ _ _ (by simp; omega), heap_setCell_other _ _ _ _ (by simp; omega), heap_setCell_other _ _ _ _ (by simp; omega)]
      exact heap_alloc_old _ _ h2
  · rw [HT.out]
    exact next_res (X4.out.1.grown (World.grownBy_alloc _ _ _)) (X4.out.2.trans (grown_but (World.grownBy_alloc _ _ none) _)) hcw
theorem draw_any (bs : List UInt8) : ∀ d : Nat, d ≤ 1000 → DrawOk bs d
  | 0, _ => fun W0 w c bv s h => by
    have hp := pickN_lt bs 12 s (by decide)
    by_cases h6 : 6 ≤ pickN bs 12 s
    · have ht : drawT bs 0 s = leafT bs (pickN bs 12 s - 6) (belowS bs 12 s) := by rw [drawT, if_pos h6]
      by_cases h3 : pickN bs 12 s - 6 < 3
      · exact leaf_num_high bs 0 (by omega) W0 w c bv s _ h (by omega) rfl h3 ht
      · exact leaf_name_high bs 0 (by omega) W0 w c bv s _ h (by omega) rfl (by omega) (by omega) ht
    · have ht : drawT bs 0 s = leafT bs (pickN bs 12 s) (belowS bs 12 s) := by rw [drawT, if_neg h6]
      by_cases h3 : pickN bs 12 s < 3
      · exact leaf_num_low bs 0 (by omega) W0 w c bv s _ h rfl (by omega) h3 ht
      · exact leaf_name_low bs 0 (by omega) W0 w c bv s _ h rfl (by omega) (by omega) ht
  | d + 1, hd => fun W0 w c bv s h => by
    have hp := pickN_lt bs 12 s (by decide)
    have ih := draw_any bs d (by omega)
    by_cases h6 : pickN bs 12 s < 6
    · have ht : drawT bs (d + 1) s = leafT bs (pickN bs 12 s) (belowS bs 12 s) := by rw [drawT, if_pos h6]
      by_cases h3 : pickN bs 12 s < 3
      · exact leaf_num_low bs (d + 1) hd W0 w c bv s _ h rfl h6 h3 ht
      · exact leaf_name_low bs (d + 1) hd W0 w c bv s _ h rfl h6 (by omega) ht
    · by_cases h7 : pickN bs 12 s = 6
      · exact draw_not bs d (by omega) ih W0 w c bv s h h7
      · exact draw_two bs d _ (by omega) ih W0 w c bv s h rfl (by omega)
end Go.Proofs.YtkfeiekgdfklmaaGreatDoor.Cur
