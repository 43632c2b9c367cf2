/- The model's l08Ins, walked. Conditions: the code lies in memory, its entries and ends as they should be. -/
import Derived.Test.YtofmccihehalcaaKIn
import Derived.Test.YtofmccihehalcaaKProc
import Derived.Test.YtofmccihehalcaaPlaceImpl
import Derived.Test.YtofmccihehalcaaZeroT
import Derived.Deep.RegionHeld3
import Derived.Deep.RegionWith
namespace Go.Proofs.Ytofmccihehalcaa.Trm
open Go.RowKit Own
theorem readsIn_dropS {gs ss : List ByteArray} {i : Nat} (h : i < ss.length) : readsIn gs (ss.drop i) = (@decide (ss[i] ∈ gs) (Classical.propDecidable _) && readsIn gs (ss.drop (i + 1))) := by
  unfold readsIn
  rw [List.drop_eq_getElem_cons h, List.all_cons]
theorem readsIn_endS {gs ss : List ByteArray} {i : Nat} (h : ss.length ≤ i) : readsIn gs (ss.drop i) = true := by
  unfold readsIn; rw [List.drop_of_length_le h]; rfl
theorem toB_in {es : List Int} {n i p : Nat} {to : Int} (hr : Ris es n) (hp : IsP es i p) : (es[p]'hp.lt ≤ to ∧ to ≤ endI es n p) ↔ toB es n i to = true := by
  have hd : toB es n i to = true ↔ (to < (n : Int) ∧ ∃ p, IsP es (i : Int) p ∧ IsP es to p) := by unfold toB; simp only [decide_eq_true_eq]
  rw [hd]
  unfold endI
  constructor
  · rintro ⟨h1, h2⟩
    split at h2
    · rename_i h3
      have := hr.below h3
      exact ⟨by omega, p, hp, hp.lt, h1, fun _ => by omega⟩
    · rename_i h3
      exact ⟨by omega, p, hp, hp.lt, h1, fun h4 => absurd h4 h3⟩
  · rintro ⟨h1, q, hq, hq2⟩
    obtain rfl := hp.uni hr hq
    obtain ⟨h2, h3, h4⟩ := hq2
    refine ⟨h3, ?_⟩
    split
    · rename_i h5
      have := h4 h5
      omega
    · omega
set_option maxRecDepth 20000 in
set_option maxHeartbeats 3200000 in
theorem specIns_bad (x : KTree) (i : Nat) (a u : Int) (t : Tree) (ga la pa ea ta : Option Addr) (g o gc lc pc ec ic n tc : Nat) (w : World) (hi : i < n) (_ : n ≤ 9223372036854775807) (_ : NamesAt w x.globals (.slice ga x.globals.length gc)) (_ : NamesAt w x.locks (.slice la x.locks.length lc)) (_ : NamesAt w x.procs (.slice pa x.procs.length pc)) (_ : IntsAt w x.entry (.slice ea x.entry.length ec)) (_ : Ris x.entry n) (_ : szT t ≤ 1048576)
    (_ : Lies w t (.agg #[.int .i64 t.kind, .int .i64 t.num, .string t.name, .slice ta t.kids.length tc])) (k : Int) (hk : ¬ (1 ≤ k ∧ k ≤ 9)) (c0 : w.cell? ⟨g, o + i * 7, none⟩ = some (.int .i64 k)) (c1 : w.cell? ⟨g, o + i * 7 + 1, none⟩ = some (.int .i64 a)) (c2 : w.cell? ⟨g, o + i * 7 + 2, none⟩ = some (.int .i64 t.kind)) (c3 : w.cell? ⟨g, o + i * 7 + 3, none⟩ = some (.int .i64 t.num)) (c4 : w.cell? ⟨g, o + i * 7 + 4, none⟩ = some (.string t.name)) (c5 : w.cell? ⟨g, o + i * 7 + 5, none⟩ = some (.slice ta t.kids.length tc)) (c6 : w.cell? ⟨g, o + i * 7 + 6, none⟩ = some (.int .i64 u)) :
    Calls Try.prog 25 #[.agg #[.slice ga x.globals.length gc, .slice la x.locks.length lc, .slice pa x.procs.length pc, .slice ea x.entry.length ec, .slice (some ⟨g, o, none⟩) n ic], .int .i64 (i : Int)] w fun e w' => e = .returned (.bool (false)) ∧ Below w.heap.size w w' := by
  obtain ⟨W1, hW1⟩ : ∃ W, W = (w.alloc (.cells #[.slice ga x.globals.length gc, .slice la x.locks.length lc, .slice pa x.procs.length pc, .slice ea x.entry.length ec, .slice (some ⟨g, o, none⟩) n ic] 31)).alloc (.cells #[.int .i64 k, .int .i64 a, .int .i64 t.kind, .int .i64 t.num, .string t.name, .slice ta t.kids.length tc, .int .i64 u] 57) := ⟨_, rfl⟩
  have hs1 : (w.alloc (.cells #[.slice ga x.globals.length gc, .slice la x.locks.length lc, .slice pa x.procs.length pc, .slice ea x.entry.length ec, .slice (some ⟨g, o, none⟩) n ic] 31)).heap.size = w.heap.size + 1 := by simp
  have b1 : Below w.heap.size w W1 := by rw [hW1]; exact ((Below.refl w.heap.size w).alloc (Nat.le_refl _) _).alloc (by simp) _
  have X1 := Lib.hid ((Box7.new (w.alloc (.cells #[.slice ga x.globals.length gc, .slice la x.locks.length lc, .slice pa x.procs.length pc, .slice ea x.entry.length ec, .slice (some ⟨g, o, none⟩) n ic] 31)) (.int .i64 k) (.int .i64 a) (.int .i64 t.kind) (.int .i64 t.num) (.string t.name) (.slice ta t.kids.length tc) (.int .i64 u) 57))
  have Y1 := Lib.hid ((Box5.new w (.slice ga x.globals.length gc) (.slice la x.locks.length lc) (.slice pa x.procs.length pc) (.slice ea x.entry.length ec) (.slice (some ⟨g, o, none⟩) n ic) 31).keep (keeps_alloc _ (.cells #[.int .i64 k, .int .i64 a, .int .i64 t.kind, .int .i64 t.num, .string t.name, .slice ta t.kids.length tc, .int .i64 u] 57)))
  rw [← hW1, hs1] at X1
  rw [← hW1] at Y1
  have B1 := Lib.hid b1
  have HW1 := Lib.hid hW1
  have k0 := keeps_alloc w (.cells #[.slice ga x.globals.length gc, .slice la x.locks.length lc, .slice pa x.procs.length pc, .slice ea x.entry.length ec, .slice (some ⟨g, o, none⟩) n ic] 31)
  replace c0 := k0 _ _ c0
  replace c1 := k0 _ _ c1
  replace c2 := k0 _ _ c2
  replace c3 := k0 _ _ c3
  replace c4 := k0 _ _ c4
  replace c5 := k0 _ _ c5
  replace c6 := k0 _ _ c6
  have h1 := ne_true (k := k) (x := 1) (by omega)
  have h6 := ne_true (k := k) (x := 6) (by omega)
  have h7 := ne_true (k := k) (x := 7) (by omega)
  have h4 := ne_true (k := k) (x := 4) (by omega)
  have h5 := ne_true (k := k) (x := 5) (by omega)
  have hno : k < 1 ∨ 9 < k := by omega
  clear hW1 hs1 b1 k0
  go_enter Try.func25, Try.ntmps25
  go_wp2_with fail
  rw [← HW1.out]
  clear c0 c1 c2 c3 c4 c5 c6
  refine (in_no _ _ _ _ hno).mono ?_
  rintro e w2 ⟨rfl, rfl⟩
  go_wp2_with fail
  go_ret
  exact ⟨rfl, B1.out⟩
set_option maxRecDepth 20000 in
set_option maxHeartbeats 3200000 in
theorem specIns_set (x : KTree) (i : Nat) (a u : Int) (t : Tree) (ga la pa ea ta : Option Addr) (g o gc lc pc ec ic n tc : Nat) (w : World) (hi : i < n) (_ : n ≤ 9223372036854775807) (hgl : NamesAt w x.globals (.slice ga x.globals.length gc)) (hlk : NamesAt w x.locks (.slice la x.locks.length lc)) (hpr : NamesAt w x.procs (.slice pa x.procs.length pc)) (_ : IntsAt w x.entry (.slice ea x.entry.length ec)) (_ : Ris x.entry n) (hz : szT t ≤ 1048576)
    (hy : Lies w t (.agg #[.int .i64 t.kind, .int .i64 t.num, .string t.name, .slice ta t.kids.length tc])) (c0 : w.cell? ⟨g, o + i * 7, none⟩ = some (.int .i64 1)) (c1 : w.cell? ⟨g, o + i * 7 + 1, none⟩ = some (.int .i64 a)) (c2 : w.cell? ⟨g, o + i * 7 + 2, none⟩ = some (.int .i64 t.kind)) (c3 : w.cell? ⟨g, o + i * 7 + 3, none⟩ = some (.int .i64 t.num)) (c4 : w.cell? ⟨g, o + i * 7 + 4, none⟩ = some (.string t.name)) (c5 : w.cell? ⟨g, o + i * 7 + 5, none⟩ = some (.slice ta t.kids.length tc)) (c6 : w.cell? ⟨g, o + i * 7 + 6, none⟩ = some (.int .i64 u)) :
    Calls Try.prog 25 #[.agg #[.slice ga x.globals.length gc, .slice la x.locks.length lc, .slice pa x.procs.length pc, .slice ea x.entry.length ec, .slice (some ⟨g, o, none⟩) n ic], .int .i64 (i : Int)] w fun e w' => e = .returned (.bool ((decide (0 ≤ a ∧ a ≤ ((x.globals.length : Int) - 1)) && ((okB t && readsIn x.globals (readsOfT t)) && decide (u = 0))))) ∧ Below w.heap.size w w' := by
  obtain ⟨W1, hW1⟩ : ∃ W, W = (w.alloc (.cells #[.slice ga x.globals.length gc, .slice la x.locks.length lc, .slice pa x.procs.length pc, .slice ea x.entry.length ec, .slice (some ⟨g, o, none⟩) n ic] 31)).alloc (.cells #[.int .i64 1, .int .i64 a, .int .i64 t.kind, .int .i64 t.num, .string t.name, .slice ta t.kids.length tc, .int .i64 u] 57) := ⟨_, rfl⟩
  have hs1 : (w.alloc (.cells #[.slice ga x.globals.length gc, .slice la x.locks.length lc, .slice pa x.procs.length pc, .slice ea x.entry.length ec, .slice (some ⟨g, o, none⟩) n ic] 31)).heap.size = w.heap.size + 1 := by simp
  have b1 : Below w.heap.size w W1 := by rw [hW1]; exact ((Below.refl w.heap.size w).alloc (Nat.le_refl _) _).alloc (by simp) _
  have X1 := Lib.hid ((Box7.new (w.alloc (.cells #[.slice ga x.globals.length gc, .slice la x.locks.length lc, .slice pa x.procs.length pc, .slice ea x.entry.length ec, .slice (some ⟨g, o, none⟩) n ic] 31)) (.int .i64 1) (.int .i64 a) (.int .i64 t.kind) (.int .i64 t.num) (.string t.name) (.slice ta t.kids.length tc) (.int .i64 u) 57))
  have Y1 := Lib.hid ((Box5.new w (.slice ga x.globals.length gc) (.slice la x.locks.length lc) (.slice pa x.procs.length pc) (.slice ea x.entry.length ec) (.slice (some ⟨g, o, none⟩) n ic) 31).keep (keeps_alloc _ (.cells #[.int .i64 1, .int .i64 a, .int .i64 t.kind, .int .i64 t.num, .string t.name, .slice ta t.kids.length tc, .int .i64 u] 57)))
  rw [← hW1, hs1] at X1
  rw [← hW1] at Y1
  have B1 := Lib.hid b1
  have HW1 := Lib.hid hW1
  have k0 := keeps_alloc w (.cells #[.slice ga x.globals.length gc, .slice la x.locks.length lc, .slice pa x.procs.length pc, .slice ea x.entry.length ec, .slice (some ⟨g, o, none⟩) n ic] 31)
  replace c0 := k0 _ _ c0
  replace c1 := k0 _ _ c1
  replace c2 := k0 _ _ c2
  replace c3 := k0 _ _ c3
  replace c4 := k0 _ _ c4
  replace c5 := k0 _ _ c5
  replace c6 := k0 _ _ c6
  have CO := Lib.hid (fun wx (hb : Below w.heap.size w wx) => specTermOk_any t _ wx (hy.keep (keeps_below hb)))
  have CR := Lib.hid (fun wx (hb : Below w.heap.size w wx) => specReadsOf_any t _ wx (hy.keep (keeps_below hb)) hz)
  have CPL := Lib.hid (fun s wx (hb : Below w.heap.size w wx) => specPlace_any x.globals s _ wx (hgl.1.keep (keeps_below hb)))
  obtain ⟨tb, htb⟩ : ∃ b, okB t = b := ⟨_, rfl⟩
  obtain ⟨rs, hrs⟩ : ∃ rs, readsOfT t = rs := ⟨_, rfl⟩
  rw [htb] at CO
  rw [hrs] at CR
  obtain ⟨rr, hrr⟩ : ∃ b, b = (decide (0 ≤ a ∧ a ≤ ((x.globals.length : Int) - 1)) && ((tb && readsIn x.globals rs) && decide (u = 0))) := ⟨_, rfl⟩
  rw [htb, hrs, ← hrr]
  clear htb hrs
  have HRR := Lib.hid hrr
  clear hrr
  have hgp := hgl.1
  have hlp := hlk.1
  have hpp := hpr.1
  have hg0 : x.globals.length ≤ 9223372036854775807 := by obtain ⟨_, _, _, h, _⟩ := hgp; exact h
  have hl0 : x.locks.length ≤ 9223372036854775807 := by obtain ⟨_, _, _, h, _⟩ := hlp; exact h
  have hp0 : x.procs.length ≤ 9223372036854775807 := by obtain ⟨_, _, _, h, _⟩ := hpp; exact h
  clear hgp hlp hpp
  clear hgl hlk hpr hy hz hW1 hs1 b1 k0
  go_enter Try.func25, Try.ntmps25
  go_wp2_with fail
  rw [← HW1.out]
  clear c0 c1 c2 c3 c4 c5 c6
  obtain ⟨p0, p1, p2, p3, p4⟩ := Y1.out
  obtain ⟨q0, q1, q2, q3, q4, q5, q6⟩ := X1.out
  refine (in_yes _ _ _ _ (by omega) (by omega)).mono ?_
  rintro e w2 ⟨rfl, rfl⟩
  go_wp2_with fail
  by_cases ha : 0 ≤ a ∧ a ≤ ((x.globals.length : Int) - 1)
  rotate_left
  · refine (in_no _ _ _ _ (by omega)).mono ?_
    rintro e w2 ⟨rfl, rfl⟩
    go_wp2_with fail
    go_ret
    exact ⟨ret_b (by rw [HRR.out, decide_eq_false ha]; rfl), B1.out⟩
  refine (in_yes _ _ _ _ ha.1 ha.2).mono ?_
  rintro e w2 ⟨rfl, rfl⟩
  have HA : Hid (decide (0 ≤ a ∧ a ≤ ((x.globals.length : Int) - 1)) = true) := decide_eq_true ha
  clear ha
  go_wp2_with fail
  refine (CO.out _ B1.out).mono ?_
  rintro e w3 ⟨rfl, hb⟩
  have B3 := Lib.hid (B1.out.trans (hb.mono B1.out.size))
  have X3 := Lib.hid (X1.out.keep (keeps_below hb))
  have Y3 := Lib.hid (Y1.out.keep (keeps_below hb))
  clear hb p0 p1 p2 p3 p4 q0 q1 q2 q3 q4 q5 q6
  obtain ⟨p0, p1, p2, p3, p4⟩ := Y3.out
  obtain ⟨q0, q1, q2, q3, q4, q5, q6⟩ := X3.out
  cases tb with
  | false =>
    go_wp2_with fail
    go_ret
    exact ⟨ret_b (by rw [HRR.out, HA.out]; rfl), B3.out⟩
  | true =>
    go_wp2_with fail
    refine (CR.out _ B3.out).mono ?_
    rintro e w4 ⟨ov, rfl, hrow, hb⟩
    obtain ⟨oa, oc, rfl, hoa⟩ := row_shape hrow
    have HOA := Lib.hid hoa
    have HROW := Lib.hid hrow
    have B4 := Lib.hid (B3.out.trans (hb.mono B3.out.size))
    have X4 := Lib.hid (X3.out.keep (keeps_below hb))
    have Y4 := Lib.hid (Y3.out.keep (keeps_below hb))
    have hsm := row_small hrow
    unfold maxLen at hsm
    clear hb hrow hoa p0 p1 p2 p3 p4 q0 q1 q2 q3 q4 q5 q6
    obtain ⟨rb, hrb⟩ : ∃ b, readsIn x.globals rs = b := ⟨_, rfl⟩
    rw [hrb] at HRR
    have HRB : Hid (rb = readsIn x.globals (rs.drop 0)) := hrb.symm
    clear hrb
    go_wp2_with fail
    go_loopw [8] (fun i wr => ∃ (j : Nat), j ≤ rs.length ∧ i = .int .i64 j ∧ Hid (rb = readsIn x.globals (rs.drop j)) ∧ Hid (Below w4.heap.size w4 wr))
      (fun i _ => rs.length - (intOf i).toNat)
    case atStart => exact ⟨0, Nat.zero_le _, rfl, HRB.out, Below.refl _ _⟩
    case round =>
      obtain ⟨j, hj, rfl, hrr, hbw⟩ := hrel
      have BW := Lib.hid (B4.out.trans (hbw.out.mono B4.out.size))
      have XW := Lib.hid (X4.out.keep (keeps_below hbw.out))
      have YW := Lib.hid (Y4.out.keep (keeps_below hbw.out))
      by_cases hlt : j < rs.length
      · obtain ⟨g3, rfl⟩ := HOA.out (by omega)
        have c0 := keeps_below hbw.out _ _ (row_cell HROW.out j hlt)
        have hd := readsIn_dropS (gs := x.globals) hlt
        obtain ⟨s, hs⟩ : ∃ s, s = rs[j] := ⟨_, rfl⟩
        rw [← hs] at c0 hd
        have CP2 : Hid (∀ wx, Below wr.heap.size wr wx → Calls Try.prog 36 #[.slice ga x.globals.length gc, .string s] wx fun e w' => ∃ z, e = .returned (.int .i64 z) ∧ IdxI x.globals s z ∧ wx = w') := fun wx hb2 => CPL.out s wx (BW.out.trans (hb2.mono BW.out.size))
        have b0 : Below wr.heap.size wr wr.drew := (Below.refl _ _).drew
        have KS : Hid (∀ wx, Below wr.heap.size wr wx → wx.cell? ⟨w.heap.size, 0, none⟩ = some (.slice ga x.globals.length gc) ∧ wx.cell? ⟨g3, j, none⟩ = some (.string s) ∧ Below wr.heap.size wr wx) := fun wx hb2 => by
          obtain ⟨r0, _⟩ := YW.out.keep (keeps_below hb2)
          exact ⟨r0, keeps_below hb2 _ _ c0, hb2⟩
        obtain ⟨p0, p1, p2, p3, p4⟩ := YW.out
        by_cases hm : s ∈ x.globals
        · have HS : Hid (rb = readsIn x.globals (rs.drop (j + 1))) := by show _ = _; rw [hrr.out, hd]; simp [hm]
          have HX : Hid (∀ z, IdxI x.globals s z → ¬ z < 0) := fun z hz h => (idxI_neg hz).1 h hm
          clear hd hs hm
          go_wp2_with fail
          clear p0 p1 p2 p3 p4 c0
          go_region_held3 (fun wx => wx.cell? ⟨w.heap.size, 0, none⟩ = some (.slice ga x.globals.length gc) ∧ wx.cell? ⟨g3, j, none⟩ = some (.string s) ∧ Below wr.heap.size wr wx)
            (exact KS.out _ (by assumption))
            (first
            | (go_at_call 36; (with_reducible refine (CP2.out _ (by assumption)).mono ?_); rintro e w5 ⟨z, rfl, hz, rfl⟩; have hz0 := HX.out z hz; clear hz))
          all_goals
            go_wp2_with fail
            go_roundw
            case rel => exact ⟨j + 1, by omega, by go_num, HS, hbw.out.drew⟩
            case measure => simp [intOf]; omega
        · have HF : Hid (rb = false) := by show _ = _; rw [hrr.out, hd]; simp [hm]
          have HX : Hid (∀ z, IdxI x.globals s z → z < 0) := fun z hz => (idxI_neg hz).2 hm
          clear hd hs hm
          go_wp2_with fail
          clear p0 p1 p2 p3 p4 c0
          go_region_held3 (fun wx => wx.cell? ⟨w.heap.size, 0, none⟩ = some (.slice ga x.globals.length gc) ∧ wx.cell? ⟨g3, j, none⟩ = some (.string s) ∧ Below wr.heap.size wr wx)
            (exact KS.out _ (by assumption))
            (first
            | (go_at_call 36; (with_reducible refine (CP2.out _ (by assumption)).mono ?_); rintro e w5 ⟨z, rfl, hz, rfl⟩; have hz0 := HX.out z hz; clear hz))
          all_goals
            go_wp2_with fail
            go_ret
            exact ⟨ret_b (by rw [HRR.out, HA.out, HF.out]; rfl), BW.out.drew⟩
      · have HF : Hid (rb = true) := by show _ = _; rw [hrr.out, readsIn_endS (by omega)]
        obtain ⟨p0, p1, p2, p3, p4⟩ := YW.out
        obtain ⟨q0, q1, q2, q3, q4, q5, q6⟩ := XW.out
        obtain ⟨w6, hw6⟩ : ∃ w0, w0 = wr := ⟨_, rfl⟩
        subst hw6
        go_wp2_with fail
        by_cases hu : u = 0
        · go_wp2_with fail
          go_ret
          exact ⟨ret_b (by rw [HRR.out, HA.out, HF.out, decide_eq_true hu]; simp [hu]), BW.out⟩
        · have hu2 := ne_true hu
          have HU : Hid (decide (u = 0) = false) := decide_eq_false hu
          clear hu
          go_wp2_with fail
          go_ret
          exact ⟨ret_b (by rw [HRR.out, HA.out, HF.out, HU.out]; simp [hu2]), BW.out⟩
set_option maxRecDepth 20000 in
set_option maxHeartbeats 3200000 in
theorem specIns_test (x : KTree) (i : Nat) (a u : Int) (t : Tree) (ga la pa ea ta : Option Addr) (g o gc lc pc ec ic n tc : Nat) (w : World) (hi : i < n) (hn : n ≤ 9223372036854775807) (hgl : NamesAt w x.globals (.slice ga x.globals.length gc)) (hlk : NamesAt w x.locks (.slice la x.locks.length lc)) (hpr : NamesAt w x.procs (.slice pa x.procs.length pc)) (he : IntsAt w x.entry (.slice ea x.entry.length ec)) (hr : Ris x.entry n) (hz : szT t ≤ 1048576)
    (hy : Lies w t (.agg #[.int .i64 t.kind, .int .i64 t.num, .string t.name, .slice ta t.kids.length tc])) (c0 : w.cell? ⟨g, o + i * 7, none⟩ = some (.int .i64 2)) (c1 : w.cell? ⟨g, o + i * 7 + 1, none⟩ = some (.int .i64 a)) (c2 : w.cell? ⟨g, o + i * 7 + 2, none⟩ = some (.int .i64 t.kind)) (c3 : w.cell? ⟨g, o + i * 7 + 3, none⟩ = some (.int .i64 t.num)) (c4 : w.cell? ⟨g, o + i * 7 + 4, none⟩ = some (.string t.name)) (c5 : w.cell? ⟨g, o + i * 7 + 5, none⟩ = some (.slice ta t.kids.length tc)) (c6 : w.cell? ⟨g, o + i * 7 + 6, none⟩ = some (.int .i64 u)) :
    Calls Try.prog 25 #[.agg #[.slice ga x.globals.length gc, .slice la x.locks.length lc, .slice pa x.procs.length pc, .slice ea x.entry.length ec, .slice (some ⟨g, o, none⟩) n ic], .int .i64 (i : Int)] w fun e w' => e = .returned (.bool ((decide (0 ≤ a ∧ a ≤ 0) && ((okB t && readsIn x.globals (readsOfT t)) && toB x.entry n i u)))) ∧ Below w.heap.size w w' := by
  obtain ⟨W1, hW1⟩ : ∃ W, W = (w.alloc (.cells #[.slice ga x.globals.length gc, .slice la x.locks.length lc, .slice pa x.procs.length pc, .slice ea x.entry.length ec, .slice (some ⟨g, o, none⟩) n ic] 31)).alloc (.cells #[.int .i64 2, .int .i64 a, .int .i64 t.kind, .int .i64 t.num, .string t.name, .slice ta t.kids.length tc, .int .i64 u] 57) := ⟨_, rfl⟩
  have hs1 : (w.alloc (.cells #[.slice ga x.globals.length gc, .slice la x.locks.length lc, .slice pa x.procs.length pc, .slice ea x.entry.length ec, .slice (some ⟨g, o, none⟩) n ic] 31)).heap.size = w.heap.size + 1 := by simp
  have b1 : Below w.heap.size w W1 := by rw [hW1]; exact ((Below.refl w.heap.size w).alloc (Nat.le_refl _) _).alloc (by simp) _
  have X1 := Lib.hid ((Box7.new (w.alloc (.cells #[.slice ga x.globals.length gc, .slice la x.locks.length lc, .slice pa x.procs.length pc, .slice ea x.entry.length ec, .slice (some ⟨g, o, none⟩) n ic] 31)) (.int .i64 2) (.int .i64 a) (.int .i64 t.kind) (.int .i64 t.num) (.string t.name) (.slice ta t.kids.length tc) (.int .i64 u) 57))
  have Y1 := Lib.hid ((Box5.new w (.slice ga x.globals.length gc) (.slice la x.locks.length lc) (.slice pa x.procs.length pc) (.slice ea x.entry.length ec) (.slice (some ⟨g, o, none⟩) n ic) 31).keep (keeps_alloc _ (.cells #[.int .i64 2, .int .i64 a, .int .i64 t.kind, .int .i64 t.num, .string t.name, .slice ta t.kids.length tc, .int .i64 u] 57)))
  rw [← hW1, hs1] at X1
  rw [← hW1] at Y1
  have B1 := Lib.hid b1
  have HW1 := Lib.hid hW1
  have k0 := keeps_alloc w (.cells #[.slice ga x.globals.length gc, .slice la x.locks.length lc, .slice pa x.procs.length pc, .slice ea x.entry.length ec, .slice (some ⟨g, o, none⟩) n ic] 31)
  replace c0 := k0 _ _ c0
  replace c1 := k0 _ _ c1
  replace c2 := k0 _ _ c2
  replace c3 := k0 _ _ c3
  replace c4 := k0 _ _ c4
  replace c5 := k0 _ _ c5
  replace c6 := k0 _ _ c6
  have CO := Lib.hid (fun wx (hb : Below w.heap.size w wx) => specTermOk_any t _ wx (hy.keep (keeps_below hb)))
  have CR := Lib.hid (fun wx (hb : Below w.heap.size w wx) => specReadsOf_any t _ wx (hy.keep (keeps_below hb)) hz)
  have CPL := Lib.hid (fun s wx (hb : Below w.heap.size w wx) => specPlace_any x.globals s _ wx (hgl.1.keep (keeps_below hb)))
  have CP := Lib.hid (fun wx (hb : Below w.heap.size w wx) => specKProc_any x.entry (.slice ga x.globals.length gc) (.slice la x.locks.length lc) (.slice pa x.procs.length pc) (.slice (some ⟨g, o, none⟩) n ic) ea ec n (i : Int) wx (he.keep (keeps_below hb)) hr (by omega))
  have CE := Lib.hid (fun p wx hp (hb : Below w.heap.size w wx) => specKEnd_any x.entry (.slice ga x.globals.length gc) (.slice la x.locks.length lc) (.slice pa x.procs.length pc) ea (some ⟨g, o, none⟩) ec n ic p wx (he.keep (keeps_below hb)) hr hp hn)
  have HTO := Lib.hid (fun p hp => toB_in (es := x.entry) (n := n) (i := i) (p := p) (to := u) hr hp)
  have HENT := Lib.hid (fun wx (hb : Below w.heap.size w wx) => he.keep (keeps_below hb))
  obtain ⟨ob, hob⟩ : ∃ b, toB x.entry n i u = b := ⟨_, rfl⟩
  rw [hob] at HTO
  obtain ⟨tb, htb⟩ : ∃ b, okB t = b := ⟨_, rfl⟩
  obtain ⟨rs, hrs⟩ : ∃ rs, readsOfT t = rs := ⟨_, rfl⟩
  rw [htb] at CO
  rw [hrs] at CR
  obtain ⟨rr, hrr⟩ : ∃ b, b = (decide (0 ≤ a ∧ a ≤ 0) && ((tb && readsIn x.globals rs) && ob)) := ⟨_, rfl⟩
  rw [hob, htb, hrs, ← hrr]
  clear htb hrs hob
  have HRR := Lib.hid hrr
  clear hrr
  have hgp := hgl.1
  have hlp := hlk.1
  have hpp := hpr.1
  have hg0 : x.globals.length ≤ 9223372036854775807 := by obtain ⟨_, _, _, h, _⟩ := hgp; exact h
  have hl0 : x.locks.length ≤ 9223372036854775807 := by obtain ⟨_, _, _, h, _⟩ := hlp; exact h
  have hp0 : x.procs.length ≤ 9223372036854775807 := by obtain ⟨_, _, _, h, _⟩ := hpp; exact h
  clear hgp hlp hpp
  clear hgl hlk hpr hy he hr hz hW1 hs1 b1 k0
  go_enter Try.func25, Try.ntmps25
  go_wp2_with fail
  rw [← HW1.out]
  clear c0 c1 c2 c3 c4 c5 c6
  obtain ⟨p0, p1, p2, p3, p4⟩ := Y1.out
  obtain ⟨q0, q1, q2, q3, q4, q5, q6⟩ := X1.out
  refine (in_yes _ _ _ _ (by omega) (by omega)).mono ?_
  rintro e w2 ⟨rfl, rfl⟩
  go_wp2_with fail
  by_cases ha : 0 ≤ a ∧ a ≤ 0
  rotate_left
  · refine (in_no _ _ _ _ (by omega)).mono ?_
    rintro e w2 ⟨rfl, rfl⟩
    go_wp2_with fail
    go_ret
    exact ⟨ret_b (by rw [HRR.out, decide_eq_false ha]; rfl), B1.out⟩
  refine (in_yes _ _ _ _ ha.1 ha.2).mono ?_
  rintro e w2 ⟨rfl, rfl⟩
  have HA : Hid (decide (0 ≤ a ∧ a ≤ 0) = true) := decide_eq_true ha
  clear ha
  go_wp2_with fail
  refine (CO.out _ B1.out).mono ?_
  rintro e w3 ⟨rfl, hb⟩
  have B3 := Lib.hid (B1.out.trans (hb.mono B1.out.size))
  have X3 := Lib.hid (X1.out.keep (keeps_below hb))
  have Y3 := Lib.hid (Y1.out.keep (keeps_below hb))
  clear hb p0 p1 p2 p3 p4 q0 q1 q2 q3 q4 q5 q6
  obtain ⟨p0, p1, p2, p3, p4⟩ := Y3.out
  obtain ⟨q0, q1, q2, q3, q4, q5, q6⟩ := X3.out
  cases tb with
  | false =>
    go_wp2_with fail
    go_ret
    exact ⟨ret_b (by rw [HRR.out, HA.out]; rfl), B3.out⟩
  | true =>
    go_wp2_with fail
    refine (CR.out _ B3.out).mono ?_
    rintro e w4 ⟨ov, rfl, hrow, hb⟩
    obtain ⟨oa, oc, rfl, hoa⟩ := row_shape hrow
    have HOA := Lib.hid hoa
    have HROW := Lib.hid hrow
    have B4 := Lib.hid (B3.out.trans (hb.mono B3.out.size))
    have X4 := Lib.hid (X3.out.keep (keeps_below hb))
    have Y4 := Lib.hid (Y3.out.keep (keeps_below hb))
    have hsm := row_small hrow
    unfold maxLen at hsm
    clear hb hrow hoa p0 p1 p2 p3 p4 q0 q1 q2 q3 q4 q5 q6
    obtain ⟨rb, hrb⟩ : ∃ b, readsIn x.globals rs = b := ⟨_, rfl⟩
    rw [hrb] at HRR
    have HRB : Hid (rb = readsIn x.globals (rs.drop 0)) := hrb.symm
    clear hrb
    go_wp2_with fail
    go_loopw [8] (fun i wr => ∃ (j : Nat), j ≤ rs.length ∧ i = .int .i64 j ∧ Hid (rb = readsIn x.globals (rs.drop j)) ∧ Hid (Below w4.heap.size w4 wr))
      (fun i _ => rs.length - (intOf i).toNat)
    case atStart => exact ⟨0, Nat.zero_le _, rfl, HRB.out, Below.refl _ _⟩
    case round =>
      obtain ⟨j, hj, rfl, hrr, hbw⟩ := hrel
      have BW := Lib.hid (B4.out.trans (hbw.out.mono B4.out.size))
      have XW := Lib.hid (X4.out.keep (keeps_below hbw.out))
      have YW := Lib.hid (Y4.out.keep (keeps_below hbw.out))
      by_cases hlt : j < rs.length
      · obtain ⟨g3, rfl⟩ := HOA.out (by omega)
        have c0 := keeps_below hbw.out _ _ (row_cell HROW.out j hlt)
        have hd := readsIn_dropS (gs := x.globals) hlt
        obtain ⟨s, hs⟩ : ∃ s, s = rs[j] := ⟨_, rfl⟩
        rw [← hs] at c0 hd
        have CP2 : Hid (∀ wx, Below wr.heap.size wr wx → Calls Try.prog 36 #[.slice ga x.globals.length gc, .string s] wx fun e w' => ∃ z, e = .returned (.int .i64 z) ∧ IdxI x.globals s z ∧ wx = w') := fun wx hb2 => CPL.out s wx (BW.out.trans (hb2.mono BW.out.size))
        have b0 : Below wr.heap.size wr wr.drew := (Below.refl _ _).drew
        have KS : Hid (∀ wx, Below wr.heap.size wr wx → wx.cell? ⟨w.heap.size, 0, none⟩ = some (.slice ga x.globals.length gc) ∧ wx.cell? ⟨g3, j, none⟩ = some (.string s) ∧ Below wr.heap.size wr wx) := fun wx hb2 => by
          obtain ⟨r0, _⟩ := YW.out.keep (keeps_below hb2)
          exact ⟨r0, keeps_below hb2 _ _ c0, hb2⟩
        obtain ⟨p0, p1, p2, p3, p4⟩ := YW.out
        by_cases hm : s ∈ x.globals
        · have HS : Hid (rb = readsIn x.globals (rs.drop (j + 1))) := by show _ = _; rw [hrr.out, hd]; simp [hm]
          have HX : Hid (∀ z, IdxI x.globals s z → ¬ z < 0) := fun z hz h => (idxI_neg hz).1 h hm
          clear hd hs hm
          go_wp2_with fail
          clear p0 p1 p2 p3 p4 c0
          go_region_held3 (fun wx => wx.cell? ⟨w.heap.size, 0, none⟩ = some (.slice ga x.globals.length gc) ∧ wx.cell? ⟨g3, j, none⟩ = some (.string s) ∧ Below wr.heap.size wr wx)
            (exact KS.out _ (by assumption))
            (first
            | (go_at_call 36; (with_reducible refine (CP2.out _ (by assumption)).mono ?_); rintro e w5 ⟨z, rfl, hz, rfl⟩; have hz0 := HX.out z hz; clear hz))
          all_goals
            go_wp2_with fail
            go_roundw
            case rel => exact ⟨j + 1, by omega, by go_num, HS, hbw.out.drew⟩
            case measure => simp [intOf]; omega
        · have HF : Hid (rb = false) := by show _ = _; rw [hrr.out, hd]; simp [hm]
          have HX : Hid (∀ z, IdxI x.globals s z → z < 0) := fun z hz => (idxI_neg hz).2 hm
          clear hd hs hm
          go_wp2_with fail
          clear p0 p1 p2 p3 p4 c0
          go_region_held3 (fun wx => wx.cell? ⟨w.heap.size, 0, none⟩ = some (.slice ga x.globals.length gc) ∧ wx.cell? ⟨g3, j, none⟩ = some (.string s) ∧ Below wr.heap.size wr wx)
            (exact KS.out _ (by assumption))
            (first
            | (go_at_call 36; (with_reducible refine (CP2.out _ (by assumption)).mono ?_); rintro e w5 ⟨z, rfl, hz, rfl⟩; have hz0 := HX.out z hz; clear hz))
          all_goals
            go_wp2_with fail
            go_ret
            exact ⟨ret_b (by rw [HRR.out, HA.out, HF.out]; rfl), BW.out.drew⟩
      · have HF : Hid (rb = true) := by show _ = _; rw [hrr.out, readsIn_endS (by omega)]
        obtain ⟨p0, p1, p2, p3, p4⟩ := YW.out
        obtain ⟨q0, q1, q2, q3, q4, q5, q6⟩ := XW.out
        obtain ⟨w6, hw6⟩ : ∃ w0, w0 = wr := ⟨_, rfl⟩
        subst hw6
        go_wp2_with fail
        refine (CP.out _ BW.out).mono ?_
        rintro e v1 ⟨pp, rfl, hpp, hb⟩
        have BP := Lib.hid (BW.out.trans (hb.mono BW.out.size))
        have XP := Lib.hid (XW.out.keep (keeps_below hb))
        have YP := Lib.hid (YW.out.keep (keeps_below hb))
        obtain ⟨a2, c2, e2, _, _, hk2⟩ := HENT.out _ BP.out
        simp at e2
        obtain ⟨rfl, rfl⟩ := e2
        have hpl := hpp.lt
        obtain ⟨g2, o2, rfl, hce⟩ := hk2 (by omega)
        have hcp := hce pp hpl
        have HQ := Lib.hid (HTO.out pp hpp)
        obtain ⟨z0, hz0⟩ : ∃ z, z = x.entry[pp] := ⟨_, rfl⟩
        rw [← hz0] at hcp HQ
        have KS : Hid (∀ wx, Below v1.heap.size v1 wx → wx.cell? ⟨w.heap.size, 0, none⟩ = some (.slice ga x.globals.length gc) ∧ wx.cell? ⟨w.heap.size, 1, none⟩ = some (.slice la x.locks.length lc) ∧ wx.cell? ⟨w.heap.size, 2, none⟩ = some (.slice pa x.procs.length pc) ∧ wx.cell? ⟨w.heap.size, 3, none⟩ = some (.slice (some ⟨g2, o2, none⟩) x.entry.length ec) ∧ wx.cell? ⟨w.heap.size, 4, none⟩ = some (.slice (some ⟨g, o, none⟩) n ic) ∧ wx.cell? ⟨w.heap.size + 1, 6, none⟩ = some (.int .i64 u) ∧ wx.cell? ⟨g2, o2 + pp, none⟩ = some (.int .i64 z0) ∧ Below v1.heap.size v1 wx) := fun wx hb2 => by
          obtain ⟨r0, r1, r2, r3, r4⟩ := YP.out.keep (keeps_below hb2)
          obtain ⟨_, _, _, _, _, _, s6⟩ := XP.out.keep (keeps_below hb2)
          exact ⟨r0, r1, r2, r3, r4, s6, keeps_below hb2 _ _ hcp, hb2⟩
        have CE2 : Hid (∀ wx, Below v1.heap.size v1 wx → Calls Try.prog 14 #[.agg #[.slice ga x.globals.length gc, .slice la x.locks.length lc, .slice pa x.procs.length pc, .slice (some ⟨g2, o2, none⟩) x.entry.length ec, .slice (some ⟨g, o, none⟩) n ic], .int .i64 (pp : Int)] wx fun e w' => ∃ z, e = .returned (.int .i64 z) ∧ z = endI x.entry n pp ∧ Below v1.heap.size v1 w') := fun wx hb2 =>
          (CE.out pp wx hpl (BP.out.trans (hb2.mono BP.out.size))).mono fun e w' ⟨z, he, hz, h⟩ => ⟨z, he, hz, hb2.trans (h.mono hb2.size)⟩
        have b0 : Below v1.heap.size v1 v1.drew := (Below.refl _ _).drew
        clear hb hk2 hce hcp hz0 hpp p0 p1 p2 p3 p4 q0 q1 q2 q3 q4 q5 q6
        obtain ⟨p0, p1, p2, p3, p4⟩ := YP.out
        go_wp2_with fail
        clear p0 p1 p2 p3 p4
        obtain ⟨z1, hz1⟩ : ∃ z, z = endI x.entry n pp := ⟨_, rfl⟩
        rw [← hz1] at HQ CE2
        clear hz1
        by_cases hin : z0 ≤ u ∧ u ≤ z1
        · have HO : Hid (ob = true) := HQ.out.1 hin
          go_region_held3 (fun wx => wx.cell? ⟨w.heap.size, 0, none⟩ = some (.slice ga x.globals.length gc) ∧ wx.cell? ⟨w.heap.size, 1, none⟩ = some (.slice la x.locks.length lc) ∧ wx.cell? ⟨w.heap.size, 2, none⟩ = some (.slice pa x.procs.length pc) ∧ wx.cell? ⟨w.heap.size, 3, none⟩ = some (.slice (some ⟨g2, o2, none⟩) x.entry.length ec) ∧ wx.cell? ⟨w.heap.size, 4, none⟩ = some (.slice (some ⟨g, o, none⟩) n ic) ∧ wx.cell? ⟨w.heap.size + 1, 6, none⟩ = some (.int .i64 u) ∧ wx.cell? ⟨g2, o2 + pp, none⟩ = some (.int .i64 z0) ∧ Below v1.heap.size v1 wx)
            (exact KS.out _ (by assumption))
            (first
            | (go_at_call 14; (with_reducible refine (CE2.out _ (by assumption)).mono ?_); rintro e v2 ⟨z2, rfl, hz2, bz⟩; subst hz2)
            | (go_at_call 13; (with_reducible refine (in_yes _ _ _ _ hin.1 hin.2).mono ?_); rintro e v3 ⟨rfl, rfl⟩))
          all_goals
            have BZ := Lib.hid (BP.out.trans (bz.mono BP.out.size))
            clear bz
            go_wp2_with fail
            go_ret
            exact ⟨ret_b (by rw [HRR.out, HA.out, HF.out, HO.out]; rfl), BZ.out⟩
        · have HO : Hid (ob = false) := Bool.eq_false_iff.2 (fun h => hin (HQ.out.2 h))
          go_region_held3 (fun wx => wx.cell? ⟨w.heap.size, 0, none⟩ = some (.slice ga x.globals.length gc) ∧ wx.cell? ⟨w.heap.size, 1, none⟩ = some (.slice la x.locks.length lc) ∧ wx.cell? ⟨w.heap.size, 2, none⟩ = some (.slice pa x.procs.length pc) ∧ wx.cell? ⟨w.heap.size, 3, none⟩ = some (.slice (some ⟨g2, o2, none⟩) x.entry.length ec) ∧ wx.cell? ⟨w.heap.size, 4, none⟩ = some (.slice (some ⟨g, o, none⟩) n ic) ∧ wx.cell? ⟨w.heap.size + 1, 6, none⟩ = some (.int .i64 u) ∧ wx.cell? ⟨g2, o2 + pp, none⟩ = some (.int .i64 z0) ∧ Below v1.heap.size v1 wx)
            (exact KS.out _ (by assumption))
            (first
            | (go_at_call 14; (with_reducible refine (CE2.out _ (by assumption)).mono ?_); rintro e v2 ⟨z2, rfl, hz2, bz⟩; subst hz2)
            | (go_at_call 13; (with_reducible refine (in_no _ _ _ _ (by omega)).mono ?_); rintro e v3 ⟨rfl, rfl⟩))
          all_goals
            have BZ := Lib.hid (BP.out.trans (bz.mono BP.out.size))
            clear bz
            go_wp2_with fail
            go_ret
            exact ⟨ret_b (by rw [HRR.out, HA.out, HF.out, HO.out]; rfl), BZ.out⟩
set_option maxRecDepth 20000 in
set_option maxHeartbeats 3200000 in
theorem specIns_jump (x : KTree) (i : Nat) (a u : Int) (t : Tree) (ga la pa ea ta : Option Addr) (g o gc lc pc ec ic n tc : Nat) (w : World) (hi : i < n) (hn : n ≤ 9223372036854775807) (hgl : NamesAt w x.globals (.slice ga x.globals.length gc)) (hlk : NamesAt w x.locks (.slice la x.locks.length lc)) (hpr : NamesAt w x.procs (.slice pa x.procs.length pc)) (he : IntsAt w x.entry (.slice ea x.entry.length ec)) (hr : Ris x.entry n) (_ : szT t ≤ 1048576)
    (hy : Lies w t (.agg #[.int .i64 t.kind, .int .i64 t.num, .string t.name, .slice ta t.kids.length tc])) (c0 : w.cell? ⟨g, o + i * 7, none⟩ = some (.int .i64 3)) (c1 : w.cell? ⟨g, o + i * 7 + 1, none⟩ = some (.int .i64 a)) (c2 : w.cell? ⟨g, o + i * 7 + 2, none⟩ = some (.int .i64 t.kind)) (c3 : w.cell? ⟨g, o + i * 7 + 3, none⟩ = some (.int .i64 t.num)) (c4 : w.cell? ⟨g, o + i * 7 + 4, none⟩ = some (.string t.name)) (c5 : w.cell? ⟨g, o + i * 7 + 5, none⟩ = some (.slice ta t.kids.length tc)) (c6 : w.cell? ⟨g, o + i * 7 + 6, none⟩ = some (.int .i64 u)) :
    Calls Try.prog 25 #[.agg #[.slice ga x.globals.length gc, .slice la x.locks.length lc, .slice pa x.procs.length pc, .slice ea x.entry.length ec, .slice (some ⟨g, o, none⟩) n ic], .int .i64 (i : Int)] w fun e w' => e = .returned (.bool ((decide (0 ≤ a ∧ a ≤ 0) && (sameT t zT && toB x.entry n i u)))) ∧ Below w.heap.size w w' := by
  obtain ⟨W1, hW1⟩ : ∃ W, W = (w.alloc (.cells #[.slice ga x.globals.length gc, .slice la x.locks.length lc, .slice pa x.procs.length pc, .slice ea x.entry.length ec, .slice (some ⟨g, o, none⟩) n ic] 31)).alloc (.cells #[.int .i64 3, .int .i64 a, .int .i64 t.kind, .int .i64 t.num, .string t.name, .slice ta t.kids.length tc, .int .i64 u] 57) := ⟨_, rfl⟩
  have hs1 : (w.alloc (.cells #[.slice ga x.globals.length gc, .slice la x.locks.length lc, .slice pa x.procs.length pc, .slice ea x.entry.length ec, .slice (some ⟨g, o, none⟩) n ic] 31)).heap.size = w.heap.size + 1 := by simp
  have b1 : Below w.heap.size w W1 := by rw [hW1]; exact ((Below.refl w.heap.size w).alloc (Nat.le_refl _) _).alloc (by simp) _
  have X1 := Lib.hid ((Box7.new (w.alloc (.cells #[.slice ga x.globals.length gc, .slice la x.locks.length lc, .slice pa x.procs.length pc, .slice ea x.entry.length ec, .slice (some ⟨g, o, none⟩) n ic] 31)) (.int .i64 3) (.int .i64 a) (.int .i64 t.kind) (.int .i64 t.num) (.string t.name) (.slice ta t.kids.length tc) (.int .i64 u) 57))
  have Y1 := Lib.hid ((Box5.new w (.slice ga x.globals.length gc) (.slice la x.locks.length lc) (.slice pa x.procs.length pc) (.slice ea x.entry.length ec) (.slice (some ⟨g, o, none⟩) n ic) 31).keep (keeps_alloc _ (.cells #[.int .i64 3, .int .i64 a, .int .i64 t.kind, .int .i64 t.num, .string t.name, .slice ta t.kids.length tc, .int .i64 u] 57)))
  rw [← hW1, hs1] at X1
  rw [← hW1] at Y1
  have B1 := Lib.hid b1
  have HW1 := Lib.hid hW1
  have k0 := keeps_alloc w (.cells #[.slice ga x.globals.length gc, .slice la x.locks.length lc, .slice pa x.procs.length pc, .slice ea x.entry.length ec, .slice (some ⟨g, o, none⟩) n ic] 31)
  replace c0 := k0 _ _ c0
  replace c1 := k0 _ _ c1
  replace c2 := k0 _ _ c2
  replace c3 := k0 _ _ c3
  replace c4 := k0 _ _ c4
  replace c5 := k0 _ _ c5
  replace c6 := k0 _ _ c6
  have CS := Lib.hid (fun wx (hb : Below w.heap.size w wx) => specSame_any t zT _ _ wx (hy.keep (keeps_below hb)) (zT_lies wx))
  have CP := Lib.hid (fun wx (hb : Below w.heap.size w wx) => specKProc_any x.entry (.slice ga x.globals.length gc) (.slice la x.locks.length lc) (.slice pa x.procs.length pc) (.slice (some ⟨g, o, none⟩) n ic) ea ec n (i : Int) wx (he.keep (keeps_below hb)) hr (by omega))
  have CE := Lib.hid (fun p wx hp (hb : Below w.heap.size w wx) => specKEnd_any x.entry (.slice ga x.globals.length gc) (.slice la x.locks.length lc) (.slice pa x.procs.length pc) ea (some ⟨g, o, none⟩) ec n ic p wx (he.keep (keeps_below hb)) hr hp hn)
  have HTO := Lib.hid (fun p hp => toB_in (es := x.entry) (n := n) (i := i) (p := p) (to := u) hr hp)
  have HENT := Lib.hid (fun wx (hb : Below w.heap.size w wx) => he.keep (keeps_below hb))
  obtain ⟨ob, hob⟩ : ∃ b, toB x.entry n i u = b := ⟨_, rfl⟩
  rw [hob] at HTO
  obtain ⟨tb, htb⟩ : ∃ b, sameT t zT = b := ⟨_, rfl⟩
  rw [htb] at CS
  obtain ⟨rr, hrr⟩ : ∃ b, b = (decide (0 ≤ a ∧ a ≤ 0) && (tb && ob)) := ⟨_, rfl⟩
  rw [hob, htb, ← hrr]
  clear htb hob
  have HRR := Lib.hid hrr
  clear hrr
  have hgp := hgl.1
  have hlp := hlk.1
  have hpp := hpr.1
  have hg0 : x.globals.length ≤ 9223372036854775807 := by obtain ⟨_, _, _, h, _⟩ := hgp; exact h
  have hl0 : x.locks.length ≤ 9223372036854775807 := by obtain ⟨_, _, _, h, _⟩ := hlp; exact h
  have hp0 : x.procs.length ≤ 9223372036854775807 := by obtain ⟨_, _, _, h, _⟩ := hpp; exact h
  clear hgp hlp hpp
  clear hgl hlk hpr hy he hr hW1 hs1 b1 k0
  go_enter Try.func25, Try.ntmps25
  go_wp2_with fail
  rw [← HW1.out]
  clear c0 c1 c2 c3 c4 c5 c6
  obtain ⟨p0, p1, p2, p3, p4⟩ := Y1.out
  obtain ⟨q0, q1, q2, q3, q4, q5, q6⟩ := X1.out
  refine (in_yes _ _ _ _ (by omega) (by omega)).mono ?_
  rintro e w2 ⟨rfl, rfl⟩
  go_wp2_with fail
  by_cases ha : 0 ≤ a ∧ a ≤ 0
  rotate_left
  · refine (in_no _ _ _ _ (by omega)).mono ?_
    rintro e w2 ⟨rfl, rfl⟩
    go_wp2_with fail
    go_ret
    exact ⟨ret_b (by rw [HRR.out, decide_eq_false ha]; rfl), B1.out⟩
  refine (in_yes _ _ _ _ ha.1 ha.2).mono ?_
  rintro e w2 ⟨rfl, rfl⟩
  have HA : Hid (decide (0 ≤ a ∧ a ≤ 0) = true) := decide_eq_true ha
  clear ha
  go_wp2_with fail
  refine (CS.out _ B1.out).mono ?_
  rintro e w3 ⟨rfl, hb⟩
  have B3 := Lib.hid (B1.out.trans (hb.mono B1.out.size))
  have X3 := Lib.hid (X1.out.keep (keeps_below hb))
  have Y3 := Lib.hid (Y1.out.keep (keeps_below hb))
  clear hb p0 p1 p2 p3 p4 q0 q1 q2 q3 q4 q5 q6
  obtain ⟨p0, p1, p2, p3, p4⟩ := Y3.out
  obtain ⟨q0, q1, q2, q3, q4, q5, q6⟩ := X3.out
  cases tb with
  | false =>
    go_wp2_with fail
    go_ret
    exact ⟨ret_b (by rw [HRR.out, HA.out]; rfl), B3.out⟩
  | true =>
    go_wp2_with fail
    refine (CP.out _ B3.out).mono ?_
    rintro e v1 ⟨pp, rfl, hpp, hb⟩
    have BP := Lib.hid (B3.out.trans (hb.mono B3.out.size))
    have XP := Lib.hid (X3.out.keep (keeps_below hb))
    have YP := Lib.hid (Y3.out.keep (keeps_below hb))
    obtain ⟨a2, c2, e2, _, _, hk2⟩ := HENT.out _ BP.out
    simp at e2
    obtain ⟨rfl, rfl⟩ := e2
    have hpl := hpp.lt
    obtain ⟨g2, o2, rfl, hce⟩ := hk2 (by omega)
    have hcp := hce pp hpl
    have HQ := Lib.hid (HTO.out pp hpp)
    obtain ⟨z0, hz0⟩ : ∃ z, z = x.entry[pp] := ⟨_, rfl⟩
    rw [← hz0] at hcp HQ
    have KS : Hid (∀ wx, Below v1.heap.size v1 wx → wx.cell? ⟨w.heap.size, 0, none⟩ = some (.slice ga x.globals.length gc) ∧ wx.cell? ⟨w.heap.size, 1, none⟩ = some (.slice la x.locks.length lc) ∧ wx.cell? ⟨w.heap.size, 2, none⟩ = some (.slice pa x.procs.length pc) ∧ wx.cell? ⟨w.heap.size, 3, none⟩ = some (.slice (some ⟨g2, o2, none⟩) x.entry.length ec) ∧ wx.cell? ⟨w.heap.size, 4, none⟩ = some (.slice (some ⟨g, o, none⟩) n ic) ∧ wx.cell? ⟨w.heap.size + 1, 6, none⟩ = some (.int .i64 u) ∧ wx.cell? ⟨g2, o2 + pp, none⟩ = some (.int .i64 z0) ∧ Below v1.heap.size v1 wx) := fun wx hb2 => by
      obtain ⟨r0, r1, r2, r3, r4⟩ := YP.out.keep (keeps_below hb2)
      obtain ⟨_, _, _, _, _, _, s6⟩ := XP.out.keep (keeps_below hb2)
      exact ⟨r0, r1, r2, r3, r4, s6, keeps_below hb2 _ _ hcp, hb2⟩
    have CE2 : Hid (∀ wx, Below v1.heap.size v1 wx → Calls Try.prog 14 #[.agg #[.slice ga x.globals.length gc, .slice la x.locks.length lc, .slice pa x.procs.length pc, .slice (some ⟨g2, o2, none⟩) x.entry.length ec, .slice (some ⟨g, o, none⟩) n ic], .int .i64 (pp : Int)] wx fun e w' => ∃ z, e = .returned (.int .i64 z) ∧ z = endI x.entry n pp ∧ Below v1.heap.size v1 w') := fun wx hb2 =>
      (CE.out pp wx hpl (BP.out.trans (hb2.mono BP.out.size))).mono fun e w' ⟨z, he, hz, h⟩ => ⟨z, he, hz, hb2.trans (h.mono hb2.size)⟩
    have b0 : Below v1.heap.size v1 v1.drew := (Below.refl _ _).drew
    clear hb hk2 hce hcp hz0 hpp p0 p1 p2 p3 p4 q0 q1 q2 q3 q4 q5 q6
    obtain ⟨p0, p1, p2, p3, p4⟩ := YP.out
    go_wp2_with fail
    clear p0 p1 p2 p3 p4
    obtain ⟨z1, hz1⟩ : ∃ z, z = endI x.entry n pp := ⟨_, rfl⟩
    rw [← hz1] at HQ CE2
    clear hz1
    by_cases hin : z0 ≤ u ∧ u ≤ z1
    · have HO : Hid (ob = true) := HQ.out.1 hin
      go_region_held3 (fun wx => wx.cell? ⟨w.heap.size, 0, none⟩ = some (.slice ga x.globals.length gc) ∧ wx.cell? ⟨w.heap.size, 1, none⟩ = some (.slice la x.locks.length lc) ∧ wx.cell? ⟨w.heap.size, 2, none⟩ = some (.slice pa x.procs.length pc) ∧ wx.cell? ⟨w.heap.size, 3, none⟩ = some (.slice (some ⟨g2, o2, none⟩) x.entry.length ec) ∧ wx.cell? ⟨w.heap.size, 4, none⟩ = some (.slice (some ⟨g, o, none⟩) n ic) ∧ wx.cell? ⟨w.heap.size + 1, 6, none⟩ = some (.int .i64 u) ∧ wx.cell? ⟨g2, o2 + pp, none⟩ = some (.int .i64 z0) ∧ Below v1.heap.size v1 wx)
        (exact KS.out _ (by assumption))
        (first
        | (go_at_call 14; (with_reducible refine (CE2.out _ (by assumption)).mono ?_); rintro e v2 ⟨z2, rfl, hz2, bz⟩; subst hz2)
        | (go_at_call 13; (with_reducible refine (in_yes _ _ _ _ hin.1 hin.2).mono ?_); rintro e v3 ⟨rfl, rfl⟩))
      all_goals
        have BZ := Lib.hid (BP.out.trans (bz.mono BP.out.size))
        clear bz
        go_wp2_with fail
        go_ret
        exact ⟨ret_b (by rw [HRR.out, HA.out, HO.out]; rfl), BZ.out⟩
    · have HO : Hid (ob = false) := Bool.eq_false_iff.2 (fun h => hin (HQ.out.2 h))
      go_region_held3 (fun wx => wx.cell? ⟨w.heap.size, 0, none⟩ = some (.slice ga x.globals.length gc) ∧ wx.cell? ⟨w.heap.size, 1, none⟩ = some (.slice la x.locks.length lc) ∧ wx.cell? ⟨w.heap.size, 2, none⟩ = some (.slice pa x.procs.length pc) ∧ wx.cell? ⟨w.heap.size, 3, none⟩ = some (.slice (some ⟨g2, o2, none⟩) x.entry.length ec) ∧ wx.cell? ⟨w.heap.size, 4, none⟩ = some (.slice (some ⟨g, o, none⟩) n ic) ∧ wx.cell? ⟨w.heap.size + 1, 6, none⟩ = some (.int .i64 u) ∧ wx.cell? ⟨g2, o2 + pp, none⟩ = some (.int .i64 z0) ∧ Below v1.heap.size v1 wx)
        (exact KS.out _ (by assumption))
        (first
        | (go_at_call 14; (with_reducible refine (CE2.out _ (by assumption)).mono ?_); rintro e v2 ⟨z2, rfl, hz2, bz⟩; subst hz2)
        | (go_at_call 13; (with_reducible refine (in_no _ _ _ _ (by omega)).mono ?_); rintro e v3 ⟨rfl, rfl⟩))
      all_goals
        have BZ := Lib.hid (BP.out.trans (bz.mono BP.out.size))
        clear bz
        go_wp2_with fail
        go_ret
        exact ⟨ret_b (by rw [HRR.out, HA.out, HO.out]; rfl), BZ.out⟩
set_option maxRecDepth 20000 in
set_option maxHeartbeats 3200000 in
theorem specIns_lock (x : KTree) (i : Nat) (a u : Int) (t : Tree) (ga la pa ea ta : Option Addr) (g o gc lc pc ec ic n tc : Nat) (w : World) (hi : i < n) (_ : n ≤ 9223372036854775807) (hgl : NamesAt w x.globals (.slice ga x.globals.length gc)) (hlk : NamesAt w x.locks (.slice la x.locks.length lc)) (hpr : NamesAt w x.procs (.slice pa x.procs.length pc)) (_ : IntsAt w x.entry (.slice ea x.entry.length ec)) (_ : Ris x.entry n) (_ : szT t ≤ 1048576)
    (hy : Lies w t (.agg #[.int .i64 t.kind, .int .i64 t.num, .string t.name, .slice ta t.kids.length tc])) (k : Int) (hk : k = 6 ∨ k = 7) (c0 : w.cell? ⟨g, o + i * 7, none⟩ = some (.int .i64 k)) (c1 : w.cell? ⟨g, o + i * 7 + 1, none⟩ = some (.int .i64 a)) (c2 : w.cell? ⟨g, o + i * 7 + 2, none⟩ = some (.int .i64 t.kind)) (c3 : w.cell? ⟨g, o + i * 7 + 3, none⟩ = some (.int .i64 t.num)) (c4 : w.cell? ⟨g, o + i * 7 + 4, none⟩ = some (.string t.name)) (c5 : w.cell? ⟨g, o + i * 7 + 5, none⟩ = some (.slice ta t.kids.length tc)) (c6 : w.cell? ⟨g, o + i * 7 + 6, none⟩ = some (.int .i64 u)) :
    Calls Try.prog 25 #[.agg #[.slice ga x.globals.length gc, .slice la x.locks.length lc, .slice pa x.procs.length pc, .slice ea x.entry.length ec, .slice (some ⟨g, o, none⟩) n ic], .int .i64 (i : Int)] w fun e w' => e = .returned (.bool ((decide (0 ≤ a ∧ a ≤ ((x.locks.length : Int) - 1)) && (sameT t zT && decide (u = 0))))) ∧ Below w.heap.size w w' := by
  obtain ⟨W1, hW1⟩ : ∃ W, W = (w.alloc (.cells #[.slice ga x.globals.length gc, .slice la x.locks.length lc, .slice pa x.procs.length pc, .slice ea x.entry.length ec, .slice (some ⟨g, o, none⟩) n ic] 31)).alloc (.cells #[.int .i64 k, .int .i64 a, .int .i64 t.kind, .int .i64 t.num, .string t.name, .slice ta t.kids.length tc, .int .i64 u] 57) := ⟨_, rfl⟩
  have hs1 : (w.alloc (.cells #[.slice ga x.globals.length gc, .slice la x.locks.length lc, .slice pa x.procs.length pc, .slice ea x.entry.length ec, .slice (some ⟨g, o, none⟩) n ic] 31)).heap.size = w.heap.size + 1 := by simp
  have b1 : Below w.heap.size w W1 := by rw [hW1]; exact ((Below.refl w.heap.size w).alloc (Nat.le_refl _) _).alloc (by simp) _
  have X1 := Lib.hid ((Box7.new (w.alloc (.cells #[.slice ga x.globals.length gc, .slice la x.locks.length lc, .slice pa x.procs.length pc, .slice ea x.entry.length ec, .slice (some ⟨g, o, none⟩) n ic] 31)) (.int .i64 k) (.int .i64 a) (.int .i64 t.kind) (.int .i64 t.num) (.string t.name) (.slice ta t.kids.length tc) (.int .i64 u) 57))
  have Y1 := Lib.hid ((Box5.new w (.slice ga x.globals.length gc) (.slice la x.locks.length lc) (.slice pa x.procs.length pc) (.slice ea x.entry.length ec) (.slice (some ⟨g, o, none⟩) n ic) 31).keep (keeps_alloc _ (.cells #[.int .i64 k, .int .i64 a, .int .i64 t.kind, .int .i64 t.num, .string t.name, .slice ta t.kids.length tc, .int .i64 u] 57)))
  rw [← hW1, hs1] at X1
  rw [← hW1] at Y1
  have B1 := Lib.hid b1
  have HW1 := Lib.hid hW1
  have k0 := keeps_alloc w (.cells #[.slice ga x.globals.length gc, .slice la x.locks.length lc, .slice pa x.procs.length pc, .slice ea x.entry.length ec, .slice (some ⟨g, o, none⟩) n ic] 31)
  replace c0 := k0 _ _ c0
  replace c1 := k0 _ _ c1
  replace c2 := k0 _ _ c2
  replace c3 := k0 _ _ c3
  replace c4 := k0 _ _ c4
  replace c5 := k0 _ _ c5
  replace c6 := k0 _ _ c6
  have CS := Lib.hid (fun wx (hb : Below w.heap.size w wx) => specSame_any t zT _ _ wx (hy.keep (keeps_below hb)) (zT_lies wx))
  obtain ⟨tb, htb⟩ : ∃ b, sameT t zT = b := ⟨_, rfl⟩
  rw [htb] at CS
  obtain ⟨rr, hrr⟩ : ∃ b, b = (decide (0 ≤ a ∧ a ≤ ((x.locks.length : Int) - 1)) && (tb && decide (u = 0))) := ⟨_, rfl⟩
  rw [htb, ← hrr]
  clear htb
  have HRR := Lib.hid hrr
  clear hrr
  have hgp := hgl.1
  have hlp := hlk.1
  have hpp := hpr.1
  have hg0 : x.globals.length ≤ 9223372036854775807 := by obtain ⟨_, _, _, h, _⟩ := hgp; exact h
  have hl0 : x.locks.length ≤ 9223372036854775807 := by obtain ⟨_, _, _, h, _⟩ := hlp; exact h
  have hp0 : x.procs.length ≤ 9223372036854775807 := by obtain ⟨_, _, _, h, _⟩ := hpp; exact h
  clear hgp hlp hpp
  have h19 : 1 ≤ k ∧ k ≤ 9 := by omega
  rcases hk with rfl | rfl
  all_goals clear h19
  all_goals
    clear hgl hlk hpr hy hW1 hs1 b1 k0
    go_enter Try.func25, Try.ntmps25
    go_wp2_with fail
    rw [← HW1.out]
    clear c0 c1 c2 c3 c4 c5 c6
    obtain ⟨p0, p1, p2, p3, p4⟩ := Y1.out
    obtain ⟨q0, q1, q2, q3, q4, q5, q6⟩ := X1.out
    refine (in_yes _ _ _ _ (by omega) (by omega)).mono ?_
    rintro e w2 ⟨rfl, rfl⟩
    go_wp2_with fail
    by_cases ha : 0 ≤ a ∧ a ≤ ((x.locks.length : Int) - 1)
    rotate_left
    · refine (in_no _ _ _ _ (by omega)).mono ?_
      rintro e w2 ⟨rfl, rfl⟩
      go_wp2_with fail
      go_ret
      exact ⟨ret_b (by rw [HRR.out, decide_eq_false ha]; rfl), B1.out⟩
    refine (in_yes _ _ _ _ ha.1 ha.2).mono ?_
    rintro e w2 ⟨rfl, rfl⟩
    have HA : Hid (decide (0 ≤ a ∧ a ≤ ((x.locks.length : Int) - 1)) = true) := decide_eq_true ha
    clear ha
    go_wp2_with fail
    refine (CS.out _ B1.out).mono ?_
    rintro e w3 ⟨rfl, hb⟩
    have B3 := Lib.hid (B1.out.trans (hb.mono B1.out.size))
    have X3 := Lib.hid (X1.out.keep (keeps_below hb))
    have Y3 := Lib.hid (Y1.out.keep (keeps_below hb))
    clear hb p0 p1 p2 p3 p4 q0 q1 q2 q3 q4 q5 q6
    obtain ⟨p0, p1, p2, p3, p4⟩ := Y3.out
    obtain ⟨q0, q1, q2, q3, q4, q5, q6⟩ := X3.out
    cases tb with
    | false =>
      go_wp2_with fail
      go_ret
      exact ⟨ret_b (by rw [HRR.out, HA.out]; rfl), B3.out⟩
    | true =>
      go_wp2_with fail
      by_cases hu : u = 0
      · go_wp2_with fail
        go_ret
        exact ⟨ret_b (by rw [HRR.out, HA.out, decide_eq_true hu]; simp [hu]), B3.out⟩
      · have hu2 := ne_true hu
        have HU : Hid (decide (u = 0) = false) := decide_eq_false hu
        clear hu
        go_wp2_with fail
        go_ret
        exact ⟨ret_b (by rw [HRR.out, HA.out, HU.out]; simp [hu2]), B3.out⟩
set_option maxRecDepth 20000 in
set_option maxHeartbeats 3200000 in
theorem specIns_call (x : KTree) (i : Nat) (a u : Int) (t : Tree) (ga la pa ea ta : Option Addr) (g o gc lc pc ec ic n tc : Nat) (w : World) (hi : i < n) (_ : n ≤ 9223372036854775807) (hgl : NamesAt w x.globals (.slice ga x.globals.length gc)) (hlk : NamesAt w x.locks (.slice la x.locks.length lc)) (hpr : NamesAt w x.procs (.slice pa x.procs.length pc)) (_ : IntsAt w x.entry (.slice ea x.entry.length ec)) (_ : Ris x.entry n) (_ : szT t ≤ 1048576)
    (hy : Lies w t (.agg #[.int .i64 t.kind, .int .i64 t.num, .string t.name, .slice ta t.kids.length tc])) (k : Int) (hk : k = 4 ∨ k = 5) (c0 : w.cell? ⟨g, o + i * 7, none⟩ = some (.int .i64 k)) (c1 : w.cell? ⟨g, o + i * 7 + 1, none⟩ = some (.int .i64 a)) (c2 : w.cell? ⟨g, o + i * 7 + 2, none⟩ = some (.int .i64 t.kind)) (c3 : w.cell? ⟨g, o + i * 7 + 3, none⟩ = some (.int .i64 t.num)) (c4 : w.cell? ⟨g, o + i * 7 + 4, none⟩ = some (.string t.name)) (c5 : w.cell? ⟨g, o + i * 7 + 5, none⟩ = some (.slice ta t.kids.length tc)) (c6 : w.cell? ⟨g, o + i * 7 + 6, none⟩ = some (.int .i64 u)) :
    Calls Try.prog 25 #[.agg #[.slice ga x.globals.length gc, .slice la x.locks.length lc, .slice pa x.procs.length pc, .slice ea x.entry.length ec, .slice (some ⟨g, o, none⟩) n ic], .int .i64 (i : Int)] w fun e w' => e = .returned (.bool ((decide (0 ≤ a ∧ a ≤ ((x.procs.length : Int) - 1)) && (sameT t zT && decide (u = 0))))) ∧ Below w.heap.size w w' := by
  obtain ⟨W1, hW1⟩ : ∃ W, W = (w.alloc (.cells #[.slice ga x.globals.length gc, .slice la x.locks.length lc, .slice pa x.procs.length pc, .slice ea x.entry.length ec, .slice (some ⟨g, o, none⟩) n ic] 31)).alloc (.cells #[.int .i64 k, .int .i64 a, .int .i64 t.kind, .int .i64 t.num, .string t.name, .slice ta t.kids.length tc, .int .i64 u] 57) := ⟨_, rfl⟩
  have hs1 : (w.alloc (.cells #[.slice ga x.globals.length gc, .slice la x.locks.length lc, .slice pa x.procs.length pc, .slice ea x.entry.length ec, .slice (some ⟨g, o, none⟩) n ic] 31)).heap.size = w.heap.size + 1 := by simp
  have b1 : Below w.heap.size w W1 := by rw [hW1]; exact ((Below.refl w.heap.size w).alloc (Nat.le_refl _) _).alloc (by simp) _
  have X1 := Lib.hid ((Box7.new (w.alloc (.cells #[.slice ga x.globals.length gc, .slice la x.locks.length lc, .slice pa x.procs.length pc, .slice ea x.entry.length ec, .slice (some ⟨g, o, none⟩) n ic] 31)) (.int .i64 k) (.int .i64 a) (.int .i64 t.kind) (.int .i64 t.num) (.string t.name) (.slice ta t.kids.length tc) (.int .i64 u) 57))
  have Y1 := Lib.hid ((Box5.new w (.slice ga x.globals.length gc) (.slice la x.locks.length lc) (.slice pa x.procs.length pc) (.slice ea x.entry.length ec) (.slice (some ⟨g, o, none⟩) n ic) 31).keep (keeps_alloc _ (.cells #[.int .i64 k, .int .i64 a, .int .i64 t.kind, .int .i64 t.num, .string t.name, .slice ta t.kids.length tc, .int .i64 u] 57)))
  rw [← hW1, hs1] at X1
  rw [← hW1] at Y1
  have B1 := Lib.hid b1
  have HW1 := Lib.hid hW1
  have k0 := keeps_alloc w (.cells #[.slice ga x.globals.length gc, .slice la x.locks.length lc, .slice pa x.procs.length pc, .slice ea x.entry.length ec, .slice (some ⟨g, o, none⟩) n ic] 31)
  replace c0 := k0 _ _ c0
  replace c1 := k0 _ _ c1
  replace c2 := k0 _ _ c2
  replace c3 := k0 _ _ c3
  replace c4 := k0 _ _ c4
  replace c5 := k0 _ _ c5
  replace c6 := k0 _ _ c6
  have CS := Lib.hid (fun wx (hb : Below w.heap.size w wx) => specSame_any t zT _ _ wx (hy.keep (keeps_below hb)) (zT_lies wx))
  obtain ⟨tb, htb⟩ : ∃ b, sameT t zT = b := ⟨_, rfl⟩
  rw [htb] at CS
  obtain ⟨rr, hrr⟩ : ∃ b, b = (decide (0 ≤ a ∧ a ≤ ((x.procs.length : Int) - 1)) && (tb && decide (u = 0))) := ⟨_, rfl⟩
  rw [htb, ← hrr]
  clear htb
  have HRR := Lib.hid hrr
  clear hrr
  have hgp := hgl.1
  have hlp := hlk.1
  have hpp := hpr.1
  have hg0 : x.globals.length ≤ 9223372036854775807 := by obtain ⟨_, _, _, h, _⟩ := hgp; exact h
  have hl0 : x.locks.length ≤ 9223372036854775807 := by obtain ⟨_, _, _, h, _⟩ := hlp; exact h
  have hp0 : x.procs.length ≤ 9223372036854775807 := by obtain ⟨_, _, _, h, _⟩ := hpp; exact h
  clear hgp hlp hpp
  have h19 : 1 ≤ k ∧ k ≤ 9 := by omega
  rcases hk with rfl | rfl
  all_goals clear h19
  all_goals
    clear hgl hlk hpr hy hW1 hs1 b1 k0
    go_enter Try.func25, Try.ntmps25
    go_wp2_with fail
    rw [← HW1.out]
    clear c0 c1 c2 c3 c4 c5 c6
    obtain ⟨p0, p1, p2, p3, p4⟩ := Y1.out
    obtain ⟨q0, q1, q2, q3, q4, q5, q6⟩ := X1.out
    refine (in_yes _ _ _ _ (by omega) (by omega)).mono ?_
    rintro e w2 ⟨rfl, rfl⟩
    go_wp2_with fail
    by_cases ha : 0 ≤ a ∧ a ≤ ((x.procs.length : Int) - 1)
    rotate_left
    · refine (in_no _ _ _ _ (by omega)).mono ?_
      rintro e w2 ⟨rfl, rfl⟩
      go_wp2_with fail
      go_ret
      exact ⟨ret_b (by rw [HRR.out, decide_eq_false ha]; rfl), B1.out⟩
    refine (in_yes _ _ _ _ ha.1 ha.2).mono ?_
    rintro e w2 ⟨rfl, rfl⟩
    have HA : Hid (decide (0 ≤ a ∧ a ≤ ((x.procs.length : Int) - 1)) = true) := decide_eq_true ha
    clear ha
    go_wp2_with fail
    refine (CS.out _ B1.out).mono ?_
    rintro e w3 ⟨rfl, hb⟩
    have B3 := Lib.hid (B1.out.trans (hb.mono B1.out.size))
    have X3 := Lib.hid (X1.out.keep (keeps_below hb))
    have Y3 := Lib.hid (Y1.out.keep (keeps_below hb))
    clear hb p0 p1 p2 p3 p4 q0 q1 q2 q3 q4 q5 q6
    obtain ⟨p0, p1, p2, p3, p4⟩ := Y3.out
    obtain ⟨q0, q1, q2, q3, q4, q5, q6⟩ := X3.out
    cases tb with
    | false =>
      go_wp2_with fail
      go_ret
      exact ⟨ret_b (by rw [HRR.out, HA.out]; rfl), B3.out⟩
    | true =>
      go_wp2_with fail
      by_cases hu : u = 0
      · go_wp2_with fail
        go_ret
        exact ⟨ret_b (by rw [HRR.out, HA.out, decide_eq_true hu]; simp [hu]), B3.out⟩
      · have hu2 := ne_true hu
        have HU : Hid (decide (u = 0) = false) := decide_eq_false hu
        clear hu
        go_wp2_with fail
        go_ret
        exact ⟨ret_b (by rw [HRR.out, HA.out, HU.out]; simp [hu2]), B3.out⟩
set_option maxRecDepth 20000 in
set_option maxHeartbeats 3200000 in
theorem specIns_skip (x : KTree) (i : Nat) (a u : Int) (t : Tree) (ga la pa ea ta : Option Addr) (g o gc lc pc ec ic n tc : Nat) (w : World) (hi : i < n) (_ : n ≤ 9223372036854775807) (hgl : NamesAt w x.globals (.slice ga x.globals.length gc)) (hlk : NamesAt w x.locks (.slice la x.locks.length lc)) (hpr : NamesAt w x.procs (.slice pa x.procs.length pc)) (_ : IntsAt w x.entry (.slice ea x.entry.length ec)) (_ : Ris x.entry n) (_ : szT t ≤ 1048576)
    (hy : Lies w t (.agg #[.int .i64 t.kind, .int .i64 t.num, .string t.name, .slice ta t.kids.length tc])) (k : Int) (hk : k = 8 ∨ k = 9) (c0 : w.cell? ⟨g, o + i * 7, none⟩ = some (.int .i64 k)) (c1 : w.cell? ⟨g, o + i * 7 + 1, none⟩ = some (.int .i64 a)) (c2 : w.cell? ⟨g, o + i * 7 + 2, none⟩ = some (.int .i64 t.kind)) (c3 : w.cell? ⟨g, o + i * 7 + 3, none⟩ = some (.int .i64 t.num)) (c4 : w.cell? ⟨g, o + i * 7 + 4, none⟩ = some (.string t.name)) (c5 : w.cell? ⟨g, o + i * 7 + 5, none⟩ = some (.slice ta t.kids.length tc)) (c6 : w.cell? ⟨g, o + i * 7 + 6, none⟩ = some (.int .i64 u)) :
    Calls Try.prog 25 #[.agg #[.slice ga x.globals.length gc, .slice la x.locks.length lc, .slice pa x.procs.length pc, .slice ea x.entry.length ec, .slice (some ⟨g, o, none⟩) n ic], .int .i64 (i : Int)] w fun e w' => e = .returned (.bool ((decide (0 ≤ a ∧ a ≤ 0) && (sameT t zT && decide (u = 0))))) ∧ Below w.heap.size w w' := by
  obtain ⟨W1, hW1⟩ : ∃ W, W = (w.alloc (.cells #[.slice ga x.globals.length gc, .slice la x.locks.length lc, .slice pa x.procs.length pc, .slice ea x.entry.length ec, .slice (some ⟨g, o, none⟩) n ic] 31)).alloc (.cells #[.int .i64 k, .int .i64 a, .int .i64 t.kind, .int .i64 t.num, .string t.name, .slice ta t.kids.length tc, .int .i64 u] 57) := ⟨_, rfl⟩
  have hs1 : (w.alloc (.cells #[.slice ga x.globals.length gc, .slice la x.locks.length lc, .slice pa x.procs.length pc, .slice ea x.entry.length ec, .slice (some ⟨g, o, none⟩) n ic] 31)).heap.size = w.heap.size + 1 := by simp
  have b1 : Below w.heap.size w W1 := by rw [hW1]; exact ((Below.refl w.heap.size w).alloc (Nat.le_refl _) _).alloc (by simp) _
  have X1 := Lib.hid ((Box7.new (w.alloc (.cells #[.slice ga x.globals.length gc, .slice la x.locks.length lc, .slice pa x.procs.length pc, .slice ea x.entry.length ec, .slice (some ⟨g, o, none⟩) n ic] 31)) (.int .i64 k) (.int .i64 a) (.int .i64 t.kind) (.int .i64 t.num) (.string t.name) (.slice ta t.kids.length tc) (.int .i64 u) 57))
  have Y1 := Lib.hid ((Box5.new w (.slice ga x.globals.length gc) (.slice la x.locks.length lc) (.slice pa x.procs.length pc) (.slice ea x.entry.length ec) (.slice (some ⟨g, o, none⟩) n ic) 31).keep (keeps_alloc _ (.cells #[.int .i64 k, .int .i64 a, .int .i64 t.kind, .int .i64 t.num, .string t.name, .slice ta t.kids.length tc, .int .i64 u] 57)))
  rw [← hW1, hs1] at X1
  rw [← hW1] at Y1
  have B1 := Lib.hid b1
  have HW1 := Lib.hid hW1
  have k0 := keeps_alloc w (.cells #[.slice ga x.globals.length gc, .slice la x.locks.length lc, .slice pa x.procs.length pc, .slice ea x.entry.length ec, .slice (some ⟨g, o, none⟩) n ic] 31)
  replace c0 := k0 _ _ c0
  replace c1 := k0 _ _ c1
  replace c2 := k0 _ _ c2
  replace c3 := k0 _ _ c3
  replace c4 := k0 _ _ c4
  replace c5 := k0 _ _ c5
  replace c6 := k0 _ _ c6
  have CS := Lib.hid (fun wx (hb : Below w.heap.size w wx) => specSame_any t zT _ _ wx (hy.keep (keeps_below hb)) (zT_lies wx))
  obtain ⟨tb, htb⟩ : ∃ b, sameT t zT = b := ⟨_, rfl⟩
  rw [htb] at CS
  obtain ⟨rr, hrr⟩ : ∃ b, b = (decide (0 ≤ a ∧ a ≤ 0) && (tb && decide (u = 0))) := ⟨_, rfl⟩
  rw [htb, ← hrr]
  clear htb
  have HRR := Lib.hid hrr
  clear hrr
  have hgp := hgl.1
  have hlp := hlk.1
  have hpp := hpr.1
  have hg0 : x.globals.length ≤ 9223372036854775807 := by obtain ⟨_, _, _, h, _⟩ := hgp; exact h
  have hl0 : x.locks.length ≤ 9223372036854775807 := by obtain ⟨_, _, _, h, _⟩ := hlp; exact h
  have hp0 : x.procs.length ≤ 9223372036854775807 := by obtain ⟨_, _, _, h, _⟩ := hpp; exact h
  clear hgp hlp hpp
  have h19 : 1 ≤ k ∧ k ≤ 9 := by omega
  rcases hk with rfl | rfl
  all_goals clear h19
  all_goals
    clear hgl hlk hpr hy hW1 hs1 b1 k0
    go_enter Try.func25, Try.ntmps25
    go_wp2_with fail
    rw [← HW1.out]
    clear c0 c1 c2 c3 c4 c5 c6
    obtain ⟨p0, p1, p2, p3, p4⟩ := Y1.out
    obtain ⟨q0, q1, q2, q3, q4, q5, q6⟩ := X1.out
    refine (in_yes _ _ _ _ (by omega) (by omega)).mono ?_
    rintro e w2 ⟨rfl, rfl⟩
    go_wp2_with fail
    by_cases ha : 0 ≤ a ∧ a ≤ 0
    rotate_left
    · refine (in_no _ _ _ _ (by omega)).mono ?_
      rintro e w2 ⟨rfl, rfl⟩
      go_wp2_with fail
      go_ret
      exact ⟨ret_b (by rw [HRR.out, decide_eq_false ha]; rfl), B1.out⟩
    refine (in_yes _ _ _ _ ha.1 ha.2).mono ?_
    rintro e w2 ⟨rfl, rfl⟩
    have HA : Hid (decide (0 ≤ a ∧ a ≤ 0) = true) := decide_eq_true ha
    clear ha
    go_wp2_with fail
    refine (CS.out _ B1.out).mono ?_
    rintro e w3 ⟨rfl, hb⟩
    have B3 := Lib.hid (B1.out.trans (hb.mono B1.out.size))
    have X3 := Lib.hid (X1.out.keep (keeps_below hb))
    have Y3 := Lib.hid (Y1.out.keep (keeps_below hb))
    clear hb p0 p1 p2 p3 p4 q0 q1 q2 q3 q4 q5 q6
    obtain ⟨p0, p1, p2, p3, p4⟩ := Y3.out
    obtain ⟨q0, q1, q2, q3, q4, q5, q6⟩ := X3.out
    cases tb with
    | false =>
      go_wp2_with fail
      go_ret
      exact ⟨ret_b (by rw [HRR.out, HA.out]; rfl), B3.out⟩
    | true =>
      go_wp2_with fail
      by_cases hu : u = 0
      · go_wp2_with fail
        go_ret
        exact ⟨ret_b (by rw [HRR.out, HA.out, decide_eq_true hu]; simp [hu]), B3.out⟩
      · have hu2 := ne_true hu
        have HU : Hid (decide (u = 0) = false) := decide_eq_false hu
        clear hu
        go_wp2_with fail
        go_ret
        exact ⟨ret_b (by rw [HRR.out, HA.out, HU.out]; simp [hu2]), B3.out⟩
end Go.Proofs.Ytofmccihehalcaa.Trm
