/- The law FnFigures, walked. Conditions: the code lies in memory, of at most 2 to the 20 bytes; the library's table and errors hold what the text lays in them. -/
import Derived.Test.YtiaekohncfepbaaDoorFigWalks
import Derived.Deep.DeepCutAuto
import Derived.Deep.RegionHeld3
import Derived.BigQuiet
namespace Go.Proofs.YtiaekohncfepbaaDoor.FnFiguresW
open Go.RowKit Own Hexes Unhexes Decimals Reads Trm Cur Figs
theorem below_al {W wx : World} (h : Below W.heap.size W wx) (o : Obj) : Below W.heap.size W (wx.alloc o) := h.alloc h.size _
theorem bytes_keep {w w' : World} {bs : List UInt8} {v : Value} (h : BytesAt w bs v) (hk : Keeps w w') : BytesAt w' bs v := by
  obtain ⟨a, c, e, h1, h2⟩ := h
  refine ⟨a, c, e, h1, fun hp => ?_⟩
  obtain ⟨g, o, e2, h3⟩ := h2 hp
  exact ⟨g, o, e2, fun i hi => hk _ _ (h3 i hi)⟩
theorem twelve {ps : List Int} (h : ps.length = 12) : ∃ x0 x1 x2 x3 x4 x5 x6 x7 r, ps = x0 :: x1 :: x2 :: x3 :: x4 :: x5 :: x6 :: x7 :: r := by
  match ps, h with
  | x0 :: x1 :: x2 :: x3 :: x4 :: x5 :: x6 :: x7 :: r, _ => exact ⟨x0, x1, x2, x3, x4, x5, x6, x7, r, rfl⟩
set_option maxRecDepth 20000 in
set_option maxHeartbeats 3200000 in
theorem core (bs : List UInt8) (bv : Value) (w : World) (hb : BytesAt w bs bv) (hl : bs.length ≤ 1048576) (hP : Pows w) (hE : Errs w) :
    Calls Tryd.prog 3 #[bv] w fun e w' => e = .returned (.bool true) ∧ Below w.heap.size w w' := by
  have CG := Lib.hid (big_no bs bv w hb hl)
  have CP := Lib.hid (drawPlaces_any bs bv w hb hl)
  have HP := Lib.hid hP
  have HE := Lib.hid hE
  obtain ⟨ba, bc, rfl, hbl, _⟩ := hb
  clear hP hE
  go_enter Tryd.func3, Tryd.ntmps3
  go_wp2_with fail
  refine CG.out.mono ?_
  rintro e w1 ⟨rfl, rfl⟩
  go_wp2_with fail
  refine CP.out.mono ?_
  rintro e W ⟨ov, ps, hlen, hps, rfl, hrow, hbW⟩
  have BW := Lib.hid hbW
  have PW := Lib.hid (HP.out.below hbW)
  have EW := Lib.hid (HE.out.below hbW)
  obtain ⟨aa, cap, rfl, haa⟩ := row_shape hrow
  obtain ⟨G, rfl⟩ := haa (by omega)
  have hc : ∀ i (h : i < ps.length), W.cell? ⟨G, i, none⟩ = some (.int .i64 ps[i]) := fun i hi => by
    rw [hrow.cellAt i (by omega)]; simp [intV, hi]
  have hn : (ps.length : Int) = 12 := by omega
  rw [hlen] at hrow
  obtain ⟨x0, x1, x2, x3, x4, x5, x6, x7, r, rfl⟩ := twelve hlen
  have c0 := hc 0 (by simp)
  have c1 := hc 1 (by simp)
  have c2 := hc 2 (by simp)
  have c3 := hc 3 (by simp)
  have c4 := hc 4 (by simp)
  have c5 := hc 5 (by simp)
  have c6 := hc 6 (by simp)
  have c7 := hc 7 (by simp)
  simp only [List.getElem_cons_zero, List.getElem_cons_succ] at c0 c1 c2 c3 c4 c5 c6 c7
  have b0 := hps x0 (by simp)
  have b1 := hps x1 (by simp)
  have b2 := hps x2 (by simp)
  have b3 := hps x3 (by simp)
  have b4 := hps x4 (by simp)
  have b5 := hps x5 (by simp)
  rw [hlen]
  clear hc hn hrow hlen hps hbW CG CP HP HE
  have CC := Lib.hid (And.intro c0 (And.intro c1 (And.intro c2 (And.intro c3 c4))))
  clear c0 c1 c2 c3 c4
  obtain ⟨p, hp⟩ : ∃ p, p = byteI x6 := ⟨_, rfl⟩
  obtain ⟨q, hq⟩ : ∃ q, q = byteI x7 := ⟨_, rfl⟩
  have vp : (p.toNat : Int) = x6 % 256 := by rw [hp]; exact byteI_val x6
  have vq : (q.toNat : Int) = x7 % 256 := by rw [hq]; exact byteI_val x7
  have w6 : IntKind.u8.wrap x6 = (p.toNat : Int) := by rw [vp]; rfl
  have w7 : IntKind.u8.wrap x7 = (q.toNat : Int) := by rw [vq]; rfl
  clear hp hq vp vq
  have hit := itoa_len b5.1 b5.2
  have hcv0 := run_two (TwoB.newd W (p.toNat : Int) (q.toNat : Int))
  have CD : Hid (∀ wx, Below W.heap.size W wx → Calls Tryd.prog 6 #[.int .i64 x5] wx fun e w' => e = .returned (.string ⟨(Lib.itoa x5).toArray⟩) ∧ Below W.heap.size W w') := fun wx h => (implDecimal_any x5 wx (by omega) (by omega) (PW.out.below h)).mono fun e w' ⟨he, h2⟩ => ⟨he, h.trans (h2.mono h.size)⟩
  have CD2 : Hid (∀ wx b, Below W.heap.size W wx → TwoB wx b (p.toNat : Int) (q.toNat : Int) → Calls Tryd.prog 6 #[.int .i64 x5] wx fun e w' => e = .returned (.string ⟨(Lib.itoa x5).toArray⟩) ∧ Below W.heap.size W w' ∧ TwoB w' b (p.toNat : Int) (q.toNat : Int)) := fun wx b h hf => (implDecimal_any x5 wx (by omega) (by omega) (PW.out.below h)).mono fun e w' ⟨he, h2⟩ => ⟨he, h.trans (h2.mono h.size), hf.keep h2⟩
  have KS : Hid (∀ wx, Below W.heap.size W wx → wx.cell? ⟨G, 5, none⟩ = some (.int .i64 x5) ∧ wx.cell? ⟨G, 6, none⟩ = some (.int .i64 x6) ∧ wx.cell? ⟨G, 7, none⟩ = some (.int .i64 x7) ∧ Below W.heap.size W wx) := fun wx h => ⟨keeps_below h _ _ c5, keeps_below h _ _ c6, keeps_below h _ _ c7, h⟩
  have hadd := run_add_lists (P := Tryd.prog) (Lib.itoa x5) [p, q] (by simp; omega)
  generalize Lib.itoa x5 = ds at CD CD2 hadd hit
  go_wp2_with fail
  go_cut [4] (fun s4 wx => s4 = .string ⟨(ds ++ [p, q]).toArray⟩ ∧ Below W.heap.size W wx)
  case first =>
    have c5a := keeps_below (below_al (Below.refl W.heap.size W) (.cells #[.int .u8 (p.toNat : Int), .int .u8 (q.toNat : Int)] 5)).drew _ _ c5
    have b5a := (below_al (Below.refl W.heap.size W) (.cells #[.int .u8 (p.toNat : Int), .int .u8 (q.toNat : Int)] 5)).drew
    have t5a := TwoB.newd W (p.toNat : Int) (q.toNat : Int)
    have hb0 : Below W.heap.size W W.drew := (Below.refl _ _).drew
    go_region_with (first
      | (go_at_call 6; (with_reducible refine (CD2.out _ _ b5a t5a).mono ?_); rintro e w1 ⟨rfl, h1, f1⟩; have hcv := run_two f1)
      | (go_at_call 6; (with_reducible refine (CD.out _ hb0).mono ?_); rintro e w1 ⟨rfl, h1⟩; have hcv := run_two (TwoB.new w1 (p.toNat : Int) (q.toNat : Int)); have d6 := keeps_below h1 _ _ c6; have d7 := keeps_below h1 _ _ c7))
    all_goals
      go_wp2_with fail
      go_meet
      exact ⟨rfl, by first | assumption | (refine below_al ?_ _; assumption)⟩
  case rest =>
    obtain ⟨rfl, hb1⟩ := hcut
    have B1 := Lib.hid hb1
    have HT : Hid ((ByteArray.mk (ds ++ [p, q]).toArray).size ≤ 6) := by
      show (ds ++ [p, q]).toArray.size ≤ 6
      rw [List.size_toArray]; simp; omega
    clear hb1 KS CD CD2 hadd hcv0 hit c5 c6 c7 w6 w7
    generalize (ByteArray.mk (ds ++ [p, q]).toArray) = T at HT
    obtain ⟨h, hh, ch, cu⟩ := hex_any T (by have := HT.out; omega)
    have CH := Lib.hid ch
    have CU := Lib.hid cu
    have HH := Lib.hid hh
    obtain ⟨s, cs, cr⟩ := dec_any (x0 * 10000 + x1) (by omega) (by omega)
    have CS := Lib.hid cs
    have CR := Lib.hid cr
    clear hh ch cu cs cr
    go_wp2_with fail
    refine (CH.out _).mono ?_
    rintro e w2 ⟨rfl, hb⟩
    have B2 := Lib.hid (B1.out.trans (hb.mono B1.out.size))
    clear hb
    go_wp2_with fail
    refine (CU.out _).mono ?_
    rintro e w3 ⟨rfl, hb⟩
    have B3 := Lib.hid (B2.out.trans (hb.mono B2.out.size))
    clear hb
    have k3 := keeps_below B3.out
    have c0 := k3 _ _ CC.out.1
    have c1 := k3 _ _ CC.out.2.1
    have n1 : IntKind.i64.wrap (x0 * 10000) = x0 * 10000 := IntWalk.i64_in _ (by omega)
    have n2 : IntKind.i64.wrap (x0 * 10000 + x1) = x0 * 10000 + x1 := IntWalk.i64_in _ (by omega)
    clear k3
    go_wp2
    go_quiet (fail)
    clear c0 c1
    have B4 := Lib.hid (below_drewN B3.out nq)
    go_wp2_with fail
    refine (CS.out _ (PW.out.below B4.out)).mono ?_
    rintro e w5 ⟨rfl, hb⟩
    have B5 := Lib.hid (B4.out.trans (hb.mono B4.out.size))
    clear hb
    go_wp2_with fail
    refine (CR.out _ (PW.out.below B5.out) (EW.out.below B5.out)).mono ?_
    rintro e w6 ⟨rfl, hb⟩
    have B6 := Lib.hid (B5.out.trans (hb.mono B5.out.size))
    clear hb n1 n2
    have k6 := keeps_below B6.out
    have c2 := k6 _ _ CC.out.2.2.1
    have c3 := k6 _ _ CC.out.2.2.2.1
    have c4 := k6 _ _ CC.out.2.2.2.2
    have n3 : IntKind.i64.wrap (x2 - 5000) = x2 - 5000 := IntWalk.i64_in _ (by omega)
    have n4 : IntKind.i64.wrap (-x3) = -x3 := IntWalk.i64_in _ (by omega)
    have CB := Lib.hid (fun w => implBrought_any (x2 - 5000) (-x3) x4 w (by omega))
    have hy := clamp_bd (x := x2 - 5000) (a := -x3) (b := x4) (by omega)
    generalize clampI (x2 - 5000) (-x3) x4 = y at CB hy
    have CB2 := Lib.hid (fun w => implBrought_any y (-x3) x4 w (by omega))
    rw [clamp_in hy] at CB2
    obtain ⟨hy1, hy2⟩ := hy
    clear k6
    go_wp2
    go_quiet ((go_at_call 10; exact quiet_eq (CB.out _)))
    have B7 := Lib.hid (below_drewN B6.out nq)
    clear c2
    have n5 : IntKind.i64.wrap (2 * (T.size : Int)) = 2 * (T.size : Int) := IntWalk.i64_in _ (by have := HT.out; omega)
    have n6 : ((h.size : Int) == 2 * (T.size : Int)) = true := by have := HH.out; simp only [beq_iff_eq]; omega
    have n7 : decide (-x3 ≤ y) = true := decide_eq_true hy1
    have n8 : decide (y ≤ x4) = true := decide_eq_true hy2
    clear n3
    go_wp2
    go_quiet ((go_at_call 10; exact quiet_eq2 (CB2.out _)))
    have B8 := Lib.hid (BW.out.trans ((below_drewN B7.out nq).mono BW.out.size))
    go_wp2
    go_ret
    exact ⟨rfl, B8.out⟩
end Go.Proofs.YtiaekohncfepbaaDoor.FnFiguresW
