/- The model's drawn lists of statements, walked. Conditions: the bytes lie in memory that is older than the cursor. -/
import Derived.Test.YtkfeiekgdfklmaaGreatDoorDrawIf
import Derived.Maps.AppendAt
import Derived.Deep.AppendLies
namespace Go.Proofs.YtkfeiekgdfklmaaGreatDoor.Cur
open Go.RowKit Own Trm Lexs
theorem infoStmtD : (Tryz.prog.info? 36).map (fun i => (i.zero, i.size, i.bytes)) = some (some (.agg #[.int .i64 0, .string ⟨#[]⟩, .int .i64 0, .int .i64 0, .string ⟨#[]⟩, .slice none 0 0, .slice none 0 0, .slice none 0 0]), 8, 128) := by kernel_rfl
theorem info_partsD {t : TypeId} {z : Value} {size bytes : Nat} (h : (Tryz.prog.info? t).map (fun i => (i.zero, i.size, i.bytes)) = some (some z, size, bytes)) : ∃ i, Tryz.prog.info? t = some i ∧ i.zero = some z ∧ i.size = size ∧ i.bytes = bytes := by
  cases hi : Tryz.prog.info? t with
  | none => rw [hi] at h; simp at h
  | some i => rw [hi] at h; simp at h; exact ⟨i, rfl, h⟩
/-- Lists one behind the other, in the row that an append leaves. -/
theorem dk_append {w3 w4 : World} {lo hi a b : Nat} {xs ys : List STree} {cs ds : List Value} {v v' : Value} {g2 : Option Nat} (hl : DL w3 v.ownBlock lo hi xs cs) (hq : ∀ q, v.ownBlock = some q → q < hi)
    (hl2 : DL w3 g2 a b ys ds) (ha : hi ≤ a) (hb : b ≤ w3.heap.size) (hown : w4.ownsRow lo 36 8 v' (xs.length + ys.length) (cs ++ ds)) (hg : w3.grownBy w4 v.ownBlock)
    (hat : v'.ownBlock = v.ownBlock ∨ v'.ownBlock = some w3.heap.size) : DK w4 lo w4.heap.size (xs ++ ys) v' := by
  have hle := hl2.le
  have hll := hl.le
  refine ⟨cs ++ ds, by rw [List.length_append]; exact hown, fun q h => (hown.lt q h).2, ?_⟩
  have hl4 : DL w4 v.ownBlock lo hi xs cs := hl.same (fun k h1 h2 h3 => hg.block k (by omega) (fun e => h3 e.symm))
  have hl5 : DL w4 g2 a b ys ds := hl2.same (fun k h1 h2 _ => hg.block k (by omega) (fun e => by have := hq k e.symm; omega))
  have hl6 : DL w4 v.ownBlock a b ys ds := hl5.change (fun q e => .inl (by have := hq q e; omega))
  have hall := hl4.append (hl6.wideL ha)
  have hsz := hg.size
  rcases hat with e | e
  · rw [e]; exact hall.wideR (by omega)
  · exact (hall.change (fun q e2 => .inr (by rw [e] at e2; cases e2; omega))).wideR (by omega)
theorem At.row {W0 w w' : World} {c : Nat} {bs : List UInt8} {bv : Value} {s : St} {r : Option Nat} (h : At W0 w c bs bv s) (hg : w.grownBy w' r) (hr : ∀ k, r = some k → W0.heap.size ≤ k) (hc : r ≠ some c) : At W0 w' c bs bv s :=
  ⟨h.bytes, h.old.grown hg h.old.size hr, h.new, (hg.block c (cell_lt h.cells.1) (fun e => hc e.symm)).trans h.block, h.le, h.hI⟩
theorem Next.row {W0 w w2 w3 : World} {c : Nat} {bs : List UInt8} {bv : Value} {s : St} {r : Option Nat} (h : Next W0 w c bs bv s w2) (hc : c < w.heap.size) (hg : w2.grownBy w3 r) (hr : ∀ k, r = some k → w.heap.size ≤ k) : Next W0 w c bs bv s w3 := by
  have hn := h.1.new
  have hs := h.2.size
  refine ⟨h.1.row hg (fun k e => by have := hr k e; omega) (fun e => by have := hr c e; omega), ⟨hg.os.trans h.2.os, hg.tape.trans h.2.tape, hg.output.trans h.2.output, Nat.le_trans hs hg.size, fun k hk hne => ?_⟩⟩
  exact (hg.block k (Nat.lt_of_lt_of_le hk hs) (fun e => by have := hr k e.symm; omega)).trans (h.2.block k hk hne)
theorem one_cellsX (x : STree) (a b c : Option Addr) (i j k l m n : Nat) : ∀ u ∈ cellsX x (.slice a i j) (.slice b k l) (.slice c m n), u.oneCell' = true := by
  intro u hu
  simp [cellsX] at hu
  rcases hu with rfl | rfl | rfl | rfl | rfl | rfl | rfl | rfl <;> rfl
def DrawSOk (bs : List UInt8) (d : Nat) : Prop := ∀ (W0 w : World) (c : Nat) (bv : Value) (s : St), At W0 w c bs bv s →
    Calls Tryz.prog 131 #[.pointer (some ⟨c, 0, none⟩), .int .i64 (d : Int)] w fun e w' => ∃ v, e = .returned v ∧ DX w' w.heap.size w'.heap.size (drawS bs d s).1 v ∧ Next W0 w c bs bv (drawS bs d s).2 w'
theorem stmt_low (bs : List UInt8) (d : Nat) (hd : d ≤ 1000) (W0 w : World) (c : Nat) (bv : Value) (s : St) (h : At W0 w c bs bv s) (hk : pickN bs 14 s < 11) :
    Calls Tryz.prog 131 #[.pointer (some ⟨c, 0, none⟩), .int .i64 (d : Int)] w fun e w' => ∃ v, e = .returned v ∧ DX w' w.heap.size w'.heap.size (drawS bs d s).1 v ∧ Next W0 w c bs bv (drawS bs d s).2 w' := by
  have ht := drawS_leaf bs d s hk
  rcases (by omega : pickN bs 14 s < 4 ∨ (4 ≤ pickN bs 14 s ∧ pickN bs 14 s < 6) ∨ (6 ≤ pickN bs 14 s ∧ pickN bs 14 s < 8) ∨ (8 ≤ pickN bs 14 s ∧ pickN bs 14 s < 9) ∨ (9 ≤ pickN bs 14 s ∧ pickN bs 14 s < 10) ∨ (10 ≤ pickN bs 14 s ∧ pickN bs 14 s < 11)) with h1 | ⟨h1, h2⟩ | ⟨h1, h2⟩ | ⟨h1, h2⟩ | ⟨h1, h2⟩ | ⟨h1, h2⟩
  · exact leafS_set_low bs d hd W0 w c bv s _ h rfl h1 ht
  · exact leafS_lock_low bs d hd W0 w c bv s _ h rfl h1 h2 ht
  · exact leafS_unlock_low bs d hd W0 w c bv s _ h rfl h1 h2 ht
  · exact leafS_call_low bs d hd W0 w c bv s _ h rfl h1 h2 ht
  · exact leafS_spawn_low bs d hd W0 w c bv s _ h rfl h1 h2 ht
  · exact leafS_skip_low bs d hd W0 w c bv s _ h rfl h1 h2 ht
theorem stmt_zero (bs : List UInt8) : DrawSOk bs 0 := fun W0 w c bv s h => by
  have hlt := pickN_lt bs 14 s (by decide)
  by_cases hk : pickN bs 14 s < 11
  · exact stmt_low bs 0 (by decide) W0 w c bv s h hk
  · have ht := drawS_high bs s (by omega)
    by_cases h6 : pickN bs 14 s < 12
    · exact leafS_lock_high bs 0 (by decide) W0 w c bv s _ h (by omega) rfl (by omega) (by omega) ht
    · exact leafS_unlock_high bs 0 (by decide) W0 w c bv s _ h (by omega) rfl (by omega) (by omega) ht
theorem stmt_succ (bs : List UInt8) (d : Nat) (hd : d ≤ 999) (ih : DrawLOk bs d) : DrawSOk bs (d + 1) := fun W0 w c bv s h => by
  by_cases hk : pickN bs 14 s < 11
  · exact stmt_low bs (d + 1) (by omega) W0 w c bv s h hk
  · by_cases h11 : pickN bs 14 s = 11
    · exact stmt_while bs d (by omega) ih W0 w c bv s h h11
    · by_cases ho : belowF bs 2 (drawL bs d (drawT bs 1 (belowS bs 14 s)).2).2 = 0
      · exact stmt_if_els bs d (by omega) ih W0 w c bv s _ h rfl (by omega) ho
      · exact stmt_if_no bs d (by omega) ih W0 w c bv s _ h rfl (by omega) ho
set_option maxHeartbeats 1600000 in
theorem list_any (bs : List UInt8) (d : Nat) (hs : DrawSOk bs d) : DrawLOk bs d := fun W0 w c bv s h => by
  have HS := Lib.hid hs
  have hcw := h.lt
  have HE : Hid (drawL bs d s = listF bs (drawS bs d) 3 0 s) := rfl
  have HA := Lib.hid (h.grown (World.grownBy_alloc w (.cells #[] 36) none))
  have HR : Hid (DK (w.alloc (.cells #[] 36)) w.heap.size (w.alloc (.cells #[] 36)).heap.size [] (.slice (some ⟨w.heap.size, 0, none⟩) 0 0)) :=
    ⟨[], World.ownsRow_made w #[] 0 (Nat.le_refl _) (by decide) rfl, fun q hq => by simp [Value.ownBlock] at hq; simp; omega, rfl, by simp⟩
  obtain ⟨i0, hi, hz0, hz1, hz2⟩ := info_partsD infoStmtD
  have HI := Lib.hid hi
  have HZ0 := Lib.hid hz0
  have HZ1 := Lib.hid hz1
  have HZ2 := Lib.hid hz2
  clear h hs hi hz0 hz1 hz2
  go_enter Tryz.func84, Tryz.ntmps84
  go_wp2
  go_loopw [5, 6] (fun o i wr => ∃ (xs : List STree) (s2 : St) (j g cap : Nat), j ≤ 3 ∧ i = .int .i64 j ∧ Hid (xs.length = j) ∧ o = .slice (some ⟨g, 0, none⟩) j cap ∧ Hid (drawL bs d s = (xs ++ (listF bs (drawS bs d) (3 - j) j s2).1, (listF bs (drawS bs d) (3 - j) j s2).2)) ∧ Hid (DK wr w.heap.size wr.heap.size xs (.slice (some ⟨g, 0, none⟩) j cap)) ∧ Hid (Next W0 w c bs bv s2 wr))
    (fun _ i _ => 3 - (intOf i).toNat)
  case atStart => exact ⟨[], s, 0, w.heap.size, 0, by omega, rfl, rfl, rfl, by show _ = _; rw [HE.out]; rfl, HR.out, ⟨HA.out, World.grownBy_alloc _ _ _⟩⟩
  case round =>
    obtain ⟨xs, s2, j, g, cap, hj, rfl, hlen, rfl, hE, hK, hX⟩ := hrel
    have C := Lib.hid (below_any W0 wr c bs bv s2 4 hX.out.1 (by unfold InI; omega))
    have hp := pickN_eq bs 4 s2 (by decide)
    rw [show ((4 : Nat) : Int) = 4 from rfl] at hp
    rw [hp] at C
    have hm4 := pickN_lt bs 4 s2 (by decide)
    have hwr : w.heap.size ≤ wr.heap.size := hX.out.2.size
    clear hp
    by_cases hlt : j < pickN bs 4 s2
    · have hj3 : j < 3 := by omega
      have HE2 : Hid (drawL bs d s = ((xs ++ [(drawS bs d (belowS bs 4 s2)).1]) ++ (listF bs (drawS bs d) (3 - (j + 1)) (j + 1) (drawS bs d (belowS bs 4 s2)).2).1, (listF bs (drawS bs d) (3 - (j + 1)) (j + 1) (drawS bs d (belowS bs 4 s2)).2).2)) := by
        show _ = _
        rw [hE.out, show 3 - j = (3 - (j + 1)) + 1 from by omega, listF, if_pos hlt]; simp
      generalize pickN bs 4 s2 = m at C hlt hm4
      clear hE
      go_wp2_with fail
      refine C.out.mono ?_
      rintro e w1 ⟨rfl, hx1⟩
      have X1 := Lib.hid (hX.out.trans hx1)
      have hw1 : wr.heap.size ≤ w1.heap.size := hx1.2.size
      obtain ⟨cs, hr, hq, hl⟩ := hK.out
      have hg := hq g rfl
      have hgw := hr.lt g rfl
      have hr1 := hr.kept hx1.2 (.inr (by simp [Value.ownBlock]; omega))
      have hl1 := hl.same (w' := w1) (fun k h1 h2 _ => hx1.2.block k h2 (by simp; omega))
      have HR1 := Lib.hid hr1
      have HL1 := Lib.hid hl1
      have HQ := Lib.hid hq
      clear hx1 hr hq hl hr1 hl1 hK hX
      go_wp2_with fail
      refine (HS.out W0 w1 c bv _ X1.out.1).mono ?_
      rintro e w2 ⟨v2, rfl, hd2, hx2⟩
      obtain ⟨ta, tc, ba, bc, ea, ec, rfl⟩ := hd2.lies.1.shape
      have HD2 := Lib.hid hd2
      have X2 := Lib.hid (X1.out.trans hx2)
      have hw2 : w1.heap.size ≤ w2.heap.size := hx2.2.size
      have HR2 := Lib.hid (HR1.out.kept hx2.2 (.inr (by simp [Value.ownBlock]; omega)))
      have HL2 := Lib.hid (HL1.out.same (w' := w2) (fun k h1 h2 _ => hx2.2.block k (by omega) (by simp; omega)))
      clear hd2 hx2 HR1 HL1
      generalize hxx : (drawS bs d (belowS bs 4 s2)).1 = x at HE2 HD2
      have HXX := Lib.hid hxx
      clear hxx
      have hl0 := hlen.out
      have hN1 := Lib.hid hl0
      go_wp2_with (at_builtin; refine wpList_append_own_at _ rfl (.tmp 14) (.tmp 18) 29 rfl w.heap.size 36 i0 (.agg #[.int .i64 0, .string ⟨#[]⟩, .int .i64 0, .int .i64 0, .string ⟨#[]⟩, .slice none 0 0, .slice none 0 0, .slice none 0 0]) 8 128 Tryz.underlying29 HI.out HZ0.out HZ1.out HZ2.out rfl (by decide) (.slice (some ⟨g, 0, none⟩) j cap) j cs rfl (by have := HR2.out; rw [hN1.out] at this; exact this.alloc _) ⟨w2.heap.size, 0, none⟩ 1 1 (cellsX x (.slice ta x.term.kids.length tc) (.slice ba x.body.length bc) (.slice ea x.els.length ec)) rfl rfl (World.news_of_block (heap_alloc_new _ _)) (one_cellsX _ _ _ _ _ _ _ _ _ _) (by unfold maxLen; omega) (by omega) (by simp; omega) ?_)
      intro o4 w4 hown hgrow _ hat
      obtain ⟨g4, cap4, rfl, _, _⟩ := hown.form (by omega)
      have hgrow : (w2.alloc (.cells #[.int .i64 x.kind, .string x.name, .int .i64 x.term.kind, .int .i64 x.term.num, .string x.term.name, .slice ta x.term.kids.length tc, .slice ba x.body.length bc, .slice ea x.els.length ec] 36)).grownBy w4 (some g) := hgrow
      have HK4 : Hid (DK w4 w.heap.size w4.heap.size (xs ++ [x]) (.slice (some ⟨g4, 0, none⟩) (j + 1) cap4)) := by
        refine dk_append (w3 := w2.alloc (.cells #[.int .i64 x.kind, .string x.name, .int .i64 x.term.kind, .int .i64 x.term.num, .string x.term.name, .slice ta x.term.kids.length tc, .slice ba x.body.length bc, .slice ea x.els.length ec] 36)) (v := .slice (some ⟨g, 0, none⟩) j cap) (hi := wr.heap.size) (a := w1.heap.size) (b := w2.heap.size) (g2 := none) (HL2.out.same (fun k h1 h2 _ => heap_alloc_old _ _ (by omega))) HQ.out (DL.one (fun q e => by cases e) (HD2.out.same (fun k h1 h2 => heap_alloc_old _ _ h2))) (by omega) (by simp) ?_ hgrow (by simpa using hat)
        rw [hN1.out]
        exact hown
      have X4 := Lib.hid ((X2.out.row hcw (World.grownBy_alloc w2 _ none) (fun k e => by cases e)).row hcw hgrow (fun k e => by cases e; exact hgw.1))
      clear hown hgrow hat
      go_wp2
      go_roundw
      case rel => exact ⟨xs ++ [x], _, j + 1, g4, cap4, by omega, by go_num, by show _ = _; rw [List.length_append, hN1.out]; rfl, rfl, HE2.out, HK4.out, X4.out⟩
      case measure => simp [intOf]; omega
    · have HE3 : Hid (drawL bs d s = (xs, belowS bs 4 s2)) := by
        show _ = _
        rw [hE.out]
        by_cases h3 : j = 3
        · subst h3; simp [listF]
        · rw [show 3 - j = (3 - (j + 1)) + 1 from by omega, listF, if_neg hlt]; simp
      generalize pickN bs 4 s2 = m at C hlt hm4
      clear hE
      go_wp2_with fail
      refine C.out.mono ?_
      rintro e w1 ⟨rfl, hx1⟩
      have hw1 : wr.heap.size ≤ w1.heap.size := hx1.2.size
      have X1 := Lib.hid (hX.out.trans hx1)
      have HK1 : Hid (DK w1 w.heap.size w1.heap.size (drawL bs d s).1 (.slice (some ⟨g, 0, none⟩) j cap)) := by
        show DK _ _ _ _ _
        rw [HE3.out]
        exact (hK.out.same (fun k h1 h2 => hx1.2.block k h2 (by simp; omega))).wide (Nat.le_refl _) hw1
      have HL : Hid ((drawL bs d s).1.length = j) := by show _ = _; rw [HE3.out]; exact hlen.out
      have HS2 : Hid ((drawL bs d s).2 = belowS bs 4 s2) := by show _ = _; rw [HE3.out]
      clear hx1 hK hX
      go_wp2
      go_ret
      refine ⟨_, rfl, HK1.out, ⟨g, cap, ?_⟩, by rw [HS2.out]; exact X1.out⟩
      have e := HL.out
      exact congrArg (fun n => Value.slice (some ⟨g, 0, none⟩) n cap) e.symm
theorem draw_list (bs : List UInt8) : ∀ d : Nat, d ≤ 900 → DrawLOk bs d
  | 0, _ => list_any bs 0 (stmt_zero bs)
  | d + 1, h => list_any bs (d + 1) (stmt_succ bs d (by omega) (draw_list bs d (by omega)))
end Go.Proofs.YtkfeiekgdfklmaaGreatDoor.Cur
