/- The model's l05Guarded, walked: a lock around drawn statements. Conditions: the statements lie in rows of the call's own; the cursor is older. -/
import Derived.Test.YtkfeiekgdfklmaaGreatDoorDrawFix
import Derived.Test.YtkfeiekgdfklmaaGreatDoorDrawRight
namespace Go.Proofs.YtkfeiekgdfklmaaGreatDoor.Cur
open Go.RowKit Own Trm Lexs
theorem DL.cells1 {w : World} {g : Option Nat} : ∀ {xs : List STree} {lo hi : Nat} {cs : List Value}, DL w g lo hi xs cs → ∀ u ∈ cs, u.oneCell' = true
  | [], _, _, _, h => fun u hu => by rw [h.1] at hu; simp at hu
  | x :: r, lo, hi, cs, h => by
    obtain ⟨kv, bv, ev, rest, a, b, rfl, _, _, h3, h4⟩ := h
    obtain ⟨ta, tc, ba, bc, ea, ec, e⟩ := h3.lies.1.shape
    simp [aggX] at e
    obtain ⟨rfl, rfl, rfl⟩ := e
    intro u hu
    rcases List.mem_append.1 hu with hu | hu
    · exact one_cellsX x ta ba ea _ _ _ _ _ _ u hu
    · exact DL.cells1 h4 u hu
theorem DL.none {w : World} {g : Option Nat} {xs : List STree} {lo hi : Nat} {cs : List Value} (h : DL w g lo hi xs cs) : DL w none lo hi xs cs := h.change (fun q e => by cases e)
/-- The cells of a statement of a kind with a name alone. -/
def cellsW (k : Int) (s : ByteArray) : List Value := [.int .i64 k, .string s, .int .i64 0, .int .i64 0, .string ⟨#[]⟩, .slice none 0 0, .slice none 0 0, .slice none 0 0]
theorem one_cellsW (k : Int) (s : ByteArray) : ∀ u ∈ cellsW k s, u.oneCell' = true := by
  intro u hu
  simp [cellsW] at hu
  rcases hu with rfl | rfl | rfl | rfl | rfl <;> rfl
theorem dl_word (w : World) (g : Option Nat) (p : Nat) (k : Int) (hk : InI k) (s : ByteArray) (hs : s.size ≤ 9223372036854775807) : DL w g p p [.node k s zT [] []] (cellsW k s) :=
  DL.one (x := .node k s zT [] []) (kv := .slice none 0 0) (bv := .slice none 0 0) (ev := .slice none 0 0) (fun q _ => by omega) (dx_word w (Nat.le_refl _) k hk s hs)
/-- A list whose row lies behind what is within it. -/
theorem dk_of {w : World} {lo hi base : Nat} {xs : List STree} {cs : List Value} {v : Value} {n : Nat} (hr : w.ownsRow base 36 8 v n cs) (hn : xs.length = n) (hb : hi ≤ base) (hl : DL w none lo hi xs cs) (hh : hi ≤ w.heap.size) : DK w lo w.heap.size xs v := by
  subst hn
  have := hl.le
  exact ⟨cs, hr.mono (by omega), fun q hq => (hr.lt q hq).2, (hl.change (fun q hq => .inr (by have := (hr.lt q hq).1; omega))).wideR hh⟩
theorem same_grown {w w' : World} {lo hi c : Nat} (hg : w.grownBy w' (some c)) (hc : c < lo) (hh : hi ≤ w.heap.size) : Same lo hi w w' := fun k h1 h2 => hg.block k (by omega) (by simp; omega)
set_option maxRecDepth 20000 in
set_option maxHeartbeats 3200000 in
theorem guard_any (bs : List UInt8) (xs : List STree) (hx60 : xs.length ≤ 1000) (W0 w : World) (c : Nat) (bv : Value) (s : St) (lo hi : Nat) (v : Value) (hA : At W0 w c bs bv s) (hcl : c < lo) (hhi : hi ≤ w.heap.size) (hK : DK w lo hi xs v) (hv : ∃ g cap, v = .slice (some ⟨g, 0, none⟩) xs.length cap) :
    Calls Tryz.prog 87 #[.pointer (some ⟨c, 0, none⟩), v] w fun e w' => ∃ v', e = .returned v' ∧ DK w' lo w'.heap.size (guardF bs xs s).1 v' ∧ (∃ g cap, v' = .slice (some ⟨g, 0, none⟩) (guardF bs xs s).1.length cap) ∧ Next W0 w c bs bv (guardF bs xs s).2 w' := by
  obtain ⟨gb, cb, rfl⟩ := hv
  obtain ⟨cs, hr, hq, hl⟩ := hK
  have hcw := hA.lt
  have h1c := Lib.hid hl.cells1
  have HL := Lib.hid hl.none
  have HCS := Lib.hid hr.1
  have HCE := Lib.hid (hr.cells (g := gb) rfl)
  have hgb := hq gb rfl
  have hgb2 := hr.lt gb rfl
  have HA := Lib.hid hA
  have hle := hl.le
  obtain ⟨i0, hi0, hz0, hz1, hz2⟩ := info_partsD infoStmtD
  have HI := Lib.hid hi0
  have HZ0 := Lib.hid hz0
  have HZ1 := Lib.hid hz1
  have HZ2 := Lib.hid hz2
  clear hA hr hq hl hi0 hz0 hz1 hz2
  go_enter Tryz.func87, Tryz.ntmps87
  go_wp2_with fail
  refine (pick_lock W0 w c bs bv s HA.out).mono ?_
  rintro e w1 ⟨rfl, hx1⟩
  have X1 : Hid (Next W0 w c bs bv _ w1) := ⟨hx1.1, (grown_but (World.grownBy_alloc w _ none) _).trans hx1.2⟩
  clear hx1
  go_wp2_with fail
  refine (pick_lock W0 w1 c bs bv _ X1.out.1).mono ?_
  rintro e w2 ⟨rfl, hx2⟩
  have X2 : Hid (Next W0 w c bs bv _ w2) := ⟨hx2.1, (X1.out.2.trans (grown_but (World.grownBy_alloc w1 _ none) _)).trans hx2.2⟩
  clear hx2 X1
  have S1 := pick_lock_size bs s
  have S2 := pick_lock_size bs (belowS bs 3 s)
  have hw2 : w.heap.size ≤ w2.heap.size := X2.out.2.size
  have HG : Hid (guardF bs xs s = (if pick3 bs lockL s = pick3 bs lockL (belowS bs 3 s) then (lockX (pick3 bs lockL s) :: (xs ++ [unlockX (pick3 bs lockL s)]), belowS bs 3 (belowS bs 3 s)) else if belowF bs 2 (belowS bs 3 (belowS bs 3 s)) = 0 then (lockX (pick3 bs lockL s) :: lockX (pick3 bs lockL (belowS bs 3 s)) :: (xs ++ [unlockX (pick3 bs lockL s)]), belowS bs 2 (belowS bs 3 (belowS bs 3 s))) else (lockX (pick3 bs lockL s) :: (xs ++ [unlockX (pick3 bs lockL s)]), belowS bs 2 (belowS bs 3 (belowS bs 3 s))))) := rfl
  generalize pick3 bs lockL s = a at S1 HG
  generalize pick3 bs lockL (belowS bs 3 s) = b at S2 HG
  generalize belowS bs 3 (belowS bs 3 s) = s2 at X2 HG
  have HS1 := Lib.hid S1
  have HS2 := Lib.hid S2
  clear S1 S2
  have R3 : Hid ((w2.alloc (.cells #[.int .i64 6, .string a, .int .i64 0, .int .i64 0, .string ⟨#[]⟩, .slice none 0 0, .slice none 0 0, .slice none 0 0] 36)).ownsRow w.heap.size 36 8 (.slice (some ⟨w2.heap.size, 0, none⟩) 1 1) 1 (cellsW 6 a)) := ⟨rfl, .inr ⟨w2.heap.size, 1, #[.int .i64 6, .string a, .int .i64 0, .int .i64 0, .string ⟨#[]⟩, .slice none 0 0, .slice none 0 0, .slice none 0 0], rfl, hw2, heap_alloc_new _ _, Nat.le_refl _, by decide, rfl, rfl⟩⟩
  have X3 : Hid (Next W0 w c bs bv s2 (w2.alloc (.cells #[.int .i64 6, .string a, .int .i64 0, .int .i64 0, .string ⟨#[]⟩, .slice none 0 0, .slice none 0 0, .slice none 0 0] 36))) := X2.out.row hcw (World.grownBy_alloc _ _ none) (fun k e => by cases e)
  go_upto_region 4 with fail
  go_cut [23] (fun s23 wx => ∃ (B : Bool) (s3 : St), s23 = .bool B ∧ Hid (guardF bs xs s = (if B = true then (lockX a :: lockX b :: (xs ++ [unlockX a]), s3) else (lockX a :: (xs ++ [unlockX a]), s3))) ∧ Hid (wx.ownsRow w.heap.size 36 8 (.slice (some ⟨w2.heap.size, 0, none⟩) 1 1) 1 (cellsW 6 a)) ∧ Hid (Next W0 w c bs bv s3 wx) ∧ w2.heap.size < wx.heap.size)
  case first =>
    by_cases hab : a = b
    · have hq0 : (a.toList == b.toList) = true := by rw [hab]; simp
      have hq1 : (a.toList != b.toList) = false := by rw [hab]; simp
      have HGG := HG.out
      rw [if_pos hab] at HGG
      have HG2 := Lib.hid HGG
      clear HGG HG hab
      go_wp2_with fail
      go_meet
      exact ⟨false, s2, rfl, HG2.out, R3.out, X3.out, by simp⟩
    · have hq0 := bytes_ne hab
      have hq1 : (a.toList != b.toList) = true := by simp [bne, hq0]
      have HGG := HG.out
      rw [if_neg hab] at HGG
      by_cases ho : belowF bs 2 s2 = 0
      · rw [if_pos ho] at HGG
        have HG2 := Lib.hid HGG
        have HO := Lib.hid ho
        clear HGG HG hab ho
        go_wp2_with fail
        refine (once_yes W0 _ c bs bv s2 X3.out.1 HO.out).mono ?_
        rintro e w4 ⟨rfl, hx4⟩
        have R4 := Lib.hid (row_same (w' := w4) R3.out (fun k e => by cases e; exact hx4.2.block _ (by simp) (by simp; omega)))
        have X4 := Lib.hid (X3.out.trans hx4)
        have hs4 : w2.heap.size < w4.heap.size := by have := hx4.2.size; simp at this; omega
        clear hx4
        go_wp2_with fail
        go_meet
        exact ⟨true, _, rfl, HG2.out, R4.out, X4.out, hs4⟩
      · rw [if_neg ho] at HGG
        have HG2 := Lib.hid HGG
        have HO := Lib.hid ho
        clear HGG HG hab ho
        go_wp2_with fail
        refine (once_no W0 _ c bs bv s2 X3.out.1 HO.out).mono ?_
        rintro e w4 ⟨rfl, hx4⟩
        have R4 := Lib.hid (row_same (w' := w4) R3.out (fun k e => by cases e; exact hx4.2.block _ (by simp) (by simp; omega)))
        have X4 := Lib.hid (X3.out.trans hx4)
        have hs4 : w2.heap.size < w4.heap.size := by have := hx4.2.size; simp at this; omega
        clear hx4
        go_wp2_with fail
        go_meet
        exact ⟨false, _, rfl, HG2.out, R4.out, X4.out, hs4⟩
  case rest =>
    obtain ⟨B, s3, rfl, HG2, R5, X5, hs5⟩ := hcut
    clear HG R3 X3
    obtain ⟨w5, hw5⟩ : ∃ w0, w0 = wc := ⟨_, rfl⟩
    subst hw5
    go_upto_if 23 with fail
    go_cut [7] (fun s7 wx => ∃ (hd : List STree) (ch : List Value) (g cap : Nat), s7 = .slice (some ⟨g, 0, none⟩) hd.length cap ∧ 0 < hd.length ∧ hd.length ≤ 2 ∧ Hid (guardF bs xs s = (hd ++ (xs ++ [unlockX a]), s3)) ∧ Hid (wx.ownsRow w.heap.size 36 8 (.slice (some ⟨g, 0, none⟩) hd.length cap) hd.length ch) ∧ Hid (∀ w' p, DL w' none p p hd ch) ∧ Hid (Next W0 w c bs bv s3 wx))
    case first =>
      cases B with
      | false =>
        go_wp2_with fail
        go_meet
        exact ⟨[lockX a], cellsW 6 a, w2.heap.size, 1, rfl, by simp, by simp, by show _ = _; have := HG2.out; simpa using this, R5.out, fun w' p => dl_word w' none p 6 (by unfold InI; omega) a HS1.out, X5.out⟩
      | true =>
        go_wp2_with (at_builtin; refine wpList_append_own_at _ rfl (.tmp 24) (.tmp 27) 29 rfl w.heap.size 36 i0 (.agg #[.int .i64 0, .string ⟨#[]⟩, .int .i64 0, .int .i64 0, .string ⟨#[]⟩, .slice none 0 0, .slice none 0 0, .slice none 0 0]) 8 128 Tryz.underlying29 HI.out HZ0.out HZ1.out HZ2.out rfl (by decide) (.slice (some ⟨w2.heap.size, 0, none⟩) 1 1) 1 (cellsW 6 a) rfl (R5.out.alloc _) ⟨w5.heap.size, 0, none⟩ 1 1 (cellsW 6 b) rfl rfl (World.news_of_block (heap_alloc_new _ _)) (one_cellsW _ _) (by unfold maxLen; omega) (by omega) (by simp; omega) ?_)
        intro o6 w6 hown hgrow _ hat
        obtain ⟨g6, cap6, rfl, _, _⟩ := hown.form (by omega)
        have X6 := Lib.hid ((X5.out.row hcw (World.grownBy_alloc w5 _ none) (fun k e => by cases e)).row hcw hgrow (fun k e => by cases e; exact hw2))
        have R6 := Lib.hid hown
        clear hown hgrow hat
        go_wp2_with fail
        go_meet
        exact ⟨[lockX a, lockX b], cellsW 6 a ++ cellsW 6 b, g6, cap6, rfl, by simp, by simp, by show _ = _; have := HG2.out; simpa using this, R6.out, fun w' p => (dl_word w' none p 6 (by unfold InI; omega) a HS1.out).append (dl_word w' none p 6 (by unfold InI; omega) b HS2.out), X6.out⟩
    case rest =>
      obtain ⟨hd, ch, g, cap, rfl, hd0, hd2, HG3, R7, HW, X7⟩ := hcut
      clear HG2 R5 X5 hs5
      obtain ⟨w7, hw7⟩ : ∃ w0, w0 = wc := ⟨_, rfl⟩
      subst hw7
      have hw7 : w.heap.size ≤ w7.heap.size := X7.out.2.size
      have HN7 : Hid (∀ j u, cs[j]? = some u → w7.cell? ((⟨gb, 0, none⟩ : Addr).add j) = some u) := fun j u h => by
        have h2 := HCE.out j u h
        refine (World.cell?_of_block (X7.out.2.block _ (cell_lt h2) ?_)).trans h2
        have e : ((⟨gb, 0, none⟩ : Addr).add j).block = gb := by unfold Addr.add; split <;> rfl
        rw [e]; simp; omega
      go_wp2_with (at_builtin; refine wpList_append_own_at _ rfl (.tmp 29) (.tmp 30) 29 rfl w.heap.size 36 i0 (.agg #[.int .i64 0, .string ⟨#[]⟩, .int .i64 0, .int .i64 0, .string ⟨#[]⟩, .slice none 0 0, .slice none 0 0, .slice none 0 0]) 8 128 Tryz.underlying29 HI.out HZ0.out HZ1.out HZ2.out rfl (by decide) (.slice (some ⟨g, 0, none⟩) hd.length cap) hd.length ch rfl R7.out ⟨gb, 0, none⟩ xs.length cb cs rfl HCS.out HN7.out h1c.out (by unfold maxLen; omega) (by omega) (by omega) ?_)
      intro o8 w8 hown hgrow _ hat
      obtain ⟨g8, cap8, rfl, hg8, _⟩ := hown.form (by omega)
      have X8 := Lib.hid (X7.out.row hcw hgrow (fun k e => by cases e; exact (R7.out.lt g rfl).1))
      have R8 := Lib.hid hown
      have hw8 : w.heap.size ≤ w8.heap.size := X8.out.2.size
      clear hown hgrow hat
      go_wp2_with (at_builtin; refine wpList_append_own_at _ rfl (.tmp 32) (.tmp 35) 29 rfl w.heap.size 36 i0 (.agg #[.int .i64 0, .string ⟨#[]⟩, .int .i64 0, .int .i64 0, .string ⟨#[]⟩, .slice none 0 0, .slice none 0 0, .slice none 0 0]) 8 128 Tryz.underlying29 HI.out HZ0.out HZ1.out HZ2.out rfl (by decide) (.slice (some ⟨g8, 0, none⟩) (hd.length + xs.length) cap8) (hd.length + xs.length) (ch ++ cs) rfl (R8.out.alloc _) ⟨w8.heap.size, 0, none⟩ 1 1 (cellsW 7 a) rfl rfl (World.news_of_block (heap_alloc_new _ _)) (one_cellsW _ _) (by unfold maxLen; omega) (by omega) (by simp; omega) ?_)
      intro o9 w9 hown hgrow _ hat
      obtain ⟨g9, cap9, rfl, _, _⟩ := hown.form (by omega)
      have X9 := Lib.hid ((X8.out.row hcw (World.grownBy_alloc w8 _ none) (fun k e => by cases e)).row hcw hgrow (fun k e => by cases e; exact hg8))
      have R9 := Lib.hid hown
      have HD9 : Hid (DL w9 none lo hi (hd ++ (xs ++ [unlockX a])) (ch ++ (cs ++ cellsW 7 a))) := by
        show DL _ _ _ _ _ _
        exact (HW.out w9 lo).append ((HL.out.same (fun k h1 h2 _ => X9.out.2.block k (by omega) (by simp; omega))).append (dl_word w9 none hi 7 (by unfold InI; omega) a HS1.out))
      have hw9 : w.heap.size ≤ w9.heap.size := X9.out.2.size
      have HKF : Hid (DK w9 lo w9.heap.size (guardF bs xs s).1 (.slice (some ⟨g9, 0, none⟩) (hd.length + xs.length + 1) cap9)) := by
        show DK _ _ _ _ _
        rw [HG3.out]
        exact dk_of R9.out (by simp; omega) hhi HD9.out (by omega)
      have HLF : Hid ((guardF bs xs s).1.length = hd.length + xs.length + 1) := by show _ = _; rw [HG3.out]; simp; omega
      have HSF : Hid ((guardF bs xs s).2 = s3) := by show _ = _; rw [HG3.out]
      clear hown hgrow hat HG3
      go_wp2
      go_ret
      refine ⟨_, rfl, HKF.out, ⟨g9, cap9, ?_⟩, by rw [HSF.out]; exact X9.out⟩
      have e := HLF.out
      exact congrArg (fun n => Value.slice (some ⟨g9, 0, none⟩) n cap9) e.symm
end Go.Proofs.YtkfeiekgdfklmaaGreatDoor.Cur
