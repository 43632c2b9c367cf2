/- The model's CodeOk, walked. Conditions: the code lies in memory; at most 2 to the 20 names and terms. -/
import Derived.Test.YtofmccihehalcaaKHeads
import Derived.Test.YtofmccihehalcaaKInsSpec
namespace Go.Proofs.Ytofmccihehalcaa.Trm
open Go.RowKit Own
theorem okIn_bad {x : KTree} {i : Nat} {y : InsT} (h : ¬ (1 ≤ y.op ∧ y.op ≤ 9)) : okIn x i y = false := by unfold okIn; rw [decide_eq_false h]; rfl
theorem okIn_good {x : KTree} {i n : Nat} {y : InsT} (hn : n = x.ins.length) (h : 1 ≤ y.op ∧ y.op ≤ 9) : okIn x i y = (decide (0 ≤ y.arg ∧ y.arg ≤ mostI x y.op) && (termB x y && (if y.op = 2 ∨ y.op = 3 then toB x.entry n i y.to else decide (y.to = 0)))) := by subst hn; unfold okIn; rw [decide_eq_true h]; rfl
theorem specIns_any (x : KTree) (i : Nat) (ga la pa ea ia : Option Addr) (gc lc pc ec ic n : Nat) (w : World) (hi : i < x.ins.length) (hn : n = x.ins.length) (hgl : NamesAt w x.globals (.slice ga x.globals.length gc)) (hlk : NamesAt w x.locks (.slice la x.locks.length lc)) (hpr : NamesAt w x.procs (.slice pa x.procs.length pc)) (he : IntsAt w x.entry (.slice ea x.entry.length ec)) (hI : IsAt w (.slice ia n ic) x.ins) (hr : Ris x.entry n) (hz : szIs x.ins ≤ 1048576) :
    Calls Try.prog 25 #[.agg #[.slice ga x.globals.length gc, .slice la x.locks.length lc, .slice pa x.procs.length pc, .slice ea x.entry.length ec, .slice ia n ic], .int .i64 (i : Int)] w fun e w' => e = .returned (.bool (okIn x i x.ins[i])) ∧ Below w.heap.size w w' := by
  obtain ⟨hlm, a2, c2, e2, hk5⟩ := hI
  simp at e2
  obtain ⟨rfl, _, rfl⟩ := e2
  have hnm : n ≤ 9223372036854775807 := by omega
  have hin : i < n := by omega
  obtain ⟨g, o, rfl, hc⟩ := hk5 (by omega)
  obtain ⟨_, _, _, ta, tc, c0, c1, c2, c3, c4, c5, c6, hy⟩ := hc i hi
  have hzt : szT x.ins[i].term ≤ 1048576 := by have := szIs_mem (List.getElem_mem hi); unfold szI at this; omega
  clear hc hk5
  generalize x.ins[i] = y at *
  obtain ⟨k, a, t, u⟩ := y
  by_cases h19 : 1 ≤ k ∧ k ≤ 9
  rotate_left
  · rw [okIn_bad (y := ⟨k, a, t, u⟩) h19]
    exact specIns_bad x i a u t ga la pa ea ta g o gc lc pc ec ic n tc w hin hnm hgl hlk hpr he hr hzt hy k h19 c0 c1 c2 c3 c4 c5 c6
  rw [okIn_good (y := ⟨k, a, t, u⟩) hn h19]
  have h2 : k = 1 ∨ k = 2 ∨ k = 3 ∨ (k = 6 ∨ k = 7) ∨ (k = 4 ∨ k = 5) ∨ (k = 8 ∨ k = 9) := by omega
  rcases h2 with rfl | rfl | rfl | h | h | h
  · exact specIns_set x i a u t ga la pa ea ta g o gc lc pc ec ic n tc w hin hnm hgl hlk hpr he hr hzt hy c0 c1 c2 c3 c4 c5 c6
  · exact specIns_test x i a u t ga la pa ea ta g o gc lc pc ec ic n tc w hin hnm hgl hlk hpr he hr hzt hy c0 c1 c2 c3 c4 c5 c6
  · exact specIns_jump x i a u t ga la pa ea ta g o gc lc pc ec ic n tc w hin hnm hgl hlk hpr he hr hzt hy c0 c1 c2 c3 c4 c5 c6
  · have e1 : mostI x k = (x.locks.length : Int) - 1 := by unfold mostI; rw [if_neg (by omega), if_pos (by omega)]
    have e2 : termB x ⟨k, a, t, u⟩ = sameT t zT := by unfold termB; rw [if_neg (show ¬ (k = 1 ∨ k = 2) by omega)]
    rw [if_neg (show ¬ (k = 2 ∨ k = 3) by omega), e2]
    show Calls _ _ _ _ fun e w' => e = .returned (.bool (decide (0 ≤ a ∧ a ≤ mostI x k) && _)) ∧ _
    rw [e1]
    exact specIns_lock x i a u t ga la pa ea ta g o gc lc pc ec ic n tc w hin hnm hgl hlk hpr he hr hzt hy k h c0 c1 c2 c3 c4 c5 c6
  · have e1 : mostI x k = (x.procs.length : Int) - 1 := by unfold mostI; rw [if_neg (by omega), if_neg (by omega), if_pos (by omega)]
    have e2 : termB x ⟨k, a, t, u⟩ = sameT t zT := by unfold termB; rw [if_neg (show ¬ (k = 1 ∨ k = 2) by omega)]
    rw [if_neg (show ¬ (k = 2 ∨ k = 3) by omega), e2]
    show Calls _ _ _ _ fun e w' => e = .returned (.bool (decide (0 ≤ a ∧ a ≤ mostI x k) && _)) ∧ _
    rw [e1]
    exact specIns_call x i a u t ga la pa ea ta g o gc lc pc ec ic n tc w hin hnm hgl hlk hpr he hr hzt hy k h c0 c1 c2 c3 c4 c5 c6
  · have e1 : mostI x k = 0 := by unfold mostI; rw [if_neg (by omega), if_neg (by omega), if_neg (by omega)]
    have e2 : termB x ⟨k, a, t, u⟩ = sameT t zT := by unfold termB; rw [if_neg (show ¬ (k = 1 ∨ k = 2) by omega)]
    rw [if_neg (show ¬ (k = 2 ∨ k = 3) by omega), e2]
    show Calls _ _ _ _ fun e w' => e = .returned (.bool (decide (0 ≤ a ∧ a ≤ mostI x k) && _)) ∧ _
    rw [e1]
    exact specIns_skip x i a u t ga la pa ea ta g o gc lc pc ec ic n tc w hin hnm hgl hlk hpr he hr hzt hy k h c0 c1 c2 c3 c4 c5 c6
set_option maxRecDepth 20000 in
set_option maxHeartbeats 1600000 in
theorem specCodeOk_any (x : KTree) (v : Value) (w : World) (hl : KIn w x v) (hz : szK x ≤ 1048576) :
    Calls Try.prog 12 #[v] w fun e w' => e = .returned (.bool (okK x)) ∧ Below w.heap.size w w' := by
  have CH := Lib.hid (fun wx (hb : Below w.heap.size w wx) => specHeads_any x v wx (hl.keep (keeps_below hb)))
  obtain ⟨ga, gc, la, lc, pa, pc, ea, ec, ia, ic, rfl, h1, h2, h3, h4, h5, _⟩ := hl
  have hzi : szIs x.ins ≤ 1048576 := by unfold szK at hz; omega
  obtain ⟨n, hn⟩ : ∃ n, n = x.ins.length := ⟨_, rfl⟩
  have HNL := Lib.hid hn
  rw [← hn] at h5 CH ⊢
  have hlm : n ≤ 9223372036854775807 := by rw [hn]; exact h5.1
  have CI := Lib.hid (fun wx (hb : Below w.heap.size w wx) i hi hr => specIns_any x i ga la pa ea ia gc lc pc ec ic n wx hi hn (h1.keep (keeps_below hb)) (h2.keep (keeps_below hb)) (h3.keep (keeps_below hb)) (h4.keep (keeps_below hb)) (h5.keep (keeps_below hb)) hr hzi)
  have HRI : Hid (kHeads x = true → Ris x.entry n) := fun h => by have := (kHeads_ent h).1.1; rw [← hn] at this; exact this
  have HB : Hid (okK x = (kHeads x && okIns x 0 (x.ins.drop 0))) := rfl
  have X0 := Lib.hid (Box5.new w (.slice ga x.globals.length gc) (.slice la x.locks.length lc) (.slice pa x.procs.length pc) (.slice ea x.entry.length ec) (.slice ia n ic) 31)
  have B0 := Lib.hid ((Below.refl w.heap.size w).alloc (Nat.le_refl _) (.cells #[.slice ga x.globals.length gc, .slice la x.locks.length lc, .slice pa x.procs.length pc, .slice ea x.entry.length ec, .slice ia n ic] 31))
  obtain ⟨rr, hrr⟩ : ∃ b, okK x = b := ⟨_, rfl⟩
  obtain ⟨hd, hhd⟩ : ∃ b, kHeads x = b := ⟨_, rfl⟩
  rw [hrr, hhd] at HB
  rw [hhd] at CH HRI
  rw [hrr]
  clear h1 h2 h3 h4 h5 hz hzi hn hrr hhd
  obtain ⟨W1, hW1⟩ : ∃ W, W = w.alloc (.cells #[.slice ga x.globals.length gc, .slice la x.locks.length lc, .slice pa x.procs.length pc, .slice ea x.entry.length ec, .slice ia n ic] 31) := ⟨_, rfl⟩
  obtain ⟨p0, p1, p2, p3, p4⟩ := X0.out
  rw [← hW1] at X0 B0
  have HW1 := Lib.hid hW1
  clear hW1
  go_enter Try.func12, Try.ntmps12
  go_wp2_with fail
  rw [← HW1.out] at p0 p1 p2 p3 p4 ⊢
  refine (CH.out _ B0.out).mono ?_
  rintro e w2 ⟨rfl, hb⟩
  have B2 := Lib.hid (B0.out.trans (hb.mono B0.out.size))
  have X2 := Lib.hid (X0.out.keep (keeps_below hb))
  clear hb p0 p1 p2 p3 p4
  obtain ⟨p0, p1, p2, p3, p4⟩ := X2.out
  cases hd with
  | false =>
    have HF : Hid (rr = false) := by show _ = _; rw [HB.out]; rfl
    go_wp2_with fail
    go_ret
    exact ⟨ret_b (by rw [HF.out]), B2.out⟩
  | true =>
    have HR := Lib.hid (HRI.out (by first | rfl | trivial))
    have HB2 : Hid (rr = okIns x 0 (x.ins.drop 0)) := by show _ = _; rw [HB.out]; rfl
    go_wp2_with fail
    clear p0 p1 p2 p3 p4
    go_loopw [3] (fun i wr => ∃ (j : Nat), j ≤ n ∧ i = .int .i64 j ∧ Hid (rr = okIns x j (x.ins.drop j)) ∧ Hid (Box5 wr w.heap.size (.slice ga x.globals.length gc) (.slice la x.locks.length lc) (.slice pa x.procs.length pc) (.slice ea x.entry.length ec) (.slice ia n ic)) ∧ Hid (Below w.heap.size w wr))
      (fun i _ => n - (intOf i).toNat)
    case atStart => exact ⟨0, Nat.zero_le _, rfl, HB2.out, X2.out, B2.out⟩
    case round =>
      obtain ⟨j, hj, rfl, hrr, hbx, hbe⟩ := hrel
      obtain ⟨p0, p1, p2, p3, p4⟩ := hbx.out
      by_cases hlt : j < n
      · have hlt2 : j < x.ins.length := by have := HNL.out; omega
        have hdr := okIns_drop (x := x) hlt2
        have C := Lib.hid (CI.out wr hbe.out j hlt2 HR.out)
        obtain ⟨ob, hob⟩ : ∃ b, okIn x j x.ins[j] = b := ⟨_, rfl⟩
        rw [hob] at C hdr
        have HD : Hid (rr = (ob && okIns x (j + 1) (x.ins.drop (j + 1)))) := by show _ = _; rw [hrr.out, hdr]
        clear hob hdr
        cases ob with
        | false =>
          have HF : Hid (rr = false) := by show _ = _; rw [HD.out]; rfl
          go_wp2_with fail
          refine C.out.mono ?_
          rintro e w3 ⟨rfl, hb⟩
          have B3 := Lib.hid (hbe.out.trans (hb.mono hbe.out.size))
          clear hb
          go_wp2_with fail
          go_ret
          exact ⟨ret_b (by rw [HF.out]), B3.out⟩
        | true =>
          have HF : Hid (rr = okIns x (j + 1) (x.ins.drop (j + 1))) := by show _ = _; rw [HD.out]; rfl
          go_wp2_with fail
          refine C.out.mono ?_
          rintro e w3 ⟨rfl, hb⟩
          have B3 := Lib.hid (hbe.out.trans (hb.mono hbe.out.size))
          have X3 := Lib.hid (hbx.out.keep (keeps_below hb))
          clear hb p0 p1 p2 p3 p4
          go_wp2_with fail
          go_roundw
          case rel => exact ⟨j + 1, by omega, by go_num, HF.out, X3.out, B3.out⟩
          case measure => simp [intOf]; omega
      · have HF : Hid (rr = true) := by show _ = _; rw [hrr.out, okIns_end (by have := HNL.out; omega)]
        go_wp2_with fail
        go_ret
        exact ⟨ret_b (by rw [HF.out]), hbe.out⟩
end Go.Proofs.Ytofmccihehalcaa.Trm
