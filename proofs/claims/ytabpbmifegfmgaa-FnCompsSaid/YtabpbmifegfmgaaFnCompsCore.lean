/- The law FnComps out of contracts, walked. Conditions: the code lies in memory; it has at most 2 to the 20 bytes. -/
import Derived.Test.YtabpbmifegfmgaaDrawGraph
import Derived.Test.YtabpbmifegfmgaaSameL
import Derived.Test.YtabpbmifegfmgaaCompsL
import Derived.Deep.RegionHeld3
namespace Go.Proofs.Ytabpbmifegfmgaa.FnCompsW
open Go.RowKit Own Trm Cur
theorem bytes_keep {w w' : World} {bs : List UInt8} {v : Value} (h : BytesAt w bs v) (hk : Keeps w w') : BytesAt w' bs v := by
  obtain ⟨a, cap, e, h1, h2⟩ := h
  refine ⟨a, cap, e, h1, fun hp => ?_⟩
  obtain ⟨g, o, e2, h3⟩ := h2 hp
  exact ⟨g, o, e2, fun i hi => hk _ _ (h3 i hi)⟩
theorem say_of {p : Prop} {b : Bool} (hb : b = true ↔ p) {w : World} {e : Ending} {w' : World} (h : SayB p w e w') : e = .returned (.bool b) ∧ Below w.heap.size w w' := by
  obtain ⟨c, rfl, hc, h2⟩ := h
  have : c = b := by
    rw [Bool.eq_iff_iff, hc, hb]
  exact ⟨by rw [this], h2⟩
set_option maxRecDepth 20000 in
set_option maxHeartbeats 6400000 in
theorem core (bs : List UInt8) (bv : Value) (w : World) (hb : BytesAt w bs bv) (hl : bs.length ≤ 1048576) (m : Nat) (E : List (Int × Int)) (hm : m ≤ 60) (hg : GOk (m : Int) E)
    (cD : ∀ w, BytesAt w bs bv → Calls Try.prog 10 #[bv] w fun e w' => ∃ v, e = .returned (.tuple #[.int .i64 (m : Int), v]) ∧ ArcsAt w' E v ∧ Below w.heap.size w w')
    (cI : ∀ v w, ArcsAt w E v → Calls Try.prog 11 #[.int .i64 (m : Int), v] w (ListL ((compsN (wayM m E) m).map upI) w))
    (cS : ∀ v w, ArcsAt w E v → Calls Try.prog 13 #[.int .i64 (m : Int), v] w (ListL ((compsN (wayM m E) m).map upI) w))
    (hli : LInt ((compsN (wayM m E) m).map upI)) (hlen : (compsN (wayM m E) m).length ≤ 60) :
    Calls Try.prog 3 #[bv] w fun e w' => e = .returned (.bool true) ∧ Below w.heap.size w w' := by
  have CD := Lib.hid cD
  have CI := Lib.hid cI
  have CS := Lib.hid cS
  have HLI := Lib.hid hli
  have HG := Lib.hid hg
  have CG := Lib.hid (fun w h => big_no bs bv w h hl)
  have HB := Lib.hid hb
  have CGr := Lib.hid (fun v w h => (implGraph_any (m : Int) E v w h).mono fun _ _ => say_of (b := true) (by simp [hg]))
  have CR := Lib.hid (fun (a b : Nat) (ha : a < m) (hb : b < m) v w h => (implReaches_any (m : Int) (a : Int) (b : Int) E v w h).mono fun _ _ => say_of (b := wayM m E a b) (rch_nat hg ha hb).symm)
  have HW := Lib.hid (way_ways hg)
  have HCY := Lib.hid (fun (h : Nat) (r : List Nat) (hm2 : h < m) hx => cyc_head (r := r) hg hm2 hx)
  have CC := Lib.hid (fun ps v pv w h h2 => implCyclic_any (m : Int) E ps v pv w h h2)
  obtain ⟨W, hW⟩ : ∃ W, W = wayM m E := ⟨_, rfl⟩
  rw [← hW] at CI CS HLI CR HW HCY hlen
  obtain ⟨cs, hcs⟩ : ∃ cs, cs = compsN W m := ⟨_, rfl⟩
  have HCS := Lib.hid hcs
  rw [← hcs] at CI CS HLI hlen
  obtain ⟨ba, bc, rfl, hbl, _⟩ := hb
  clear cD cI cS hli hg hW hcs
  go_enter Try.func3, Try.ntmps3
  go_wp2_with fail
  refine (CG.out _ HB.out).mono ?_
  rintro e w0 ⟨rfl, rfl⟩
  go_wp2_with fail
  refine (CD.out _ HB.out).mono ?_
  rintro e w1 ⟨v1, rfl, ha1, hb1⟩
  have A1 := Lib.hid ha1
  obtain ⟨g1, c1, rfl, _, _, _⟩ := A1.out
  have B1 := Lib.hid hb1
  clear ha1 hb1
  go_wp2_with fail
  refine (CD.out _ (bytes_keep HB.out (keeps_below B1.out))).mono ?_
  rintro e w2 ⟨v2, rfl, ha2, hb2⟩
  have A2 := Lib.hid ha2
  obtain ⟨g2, c2, rfl, _, _, _⟩ := A2.out
  have A12 := Lib.hid (A1.out.keep (keeps_below hb2))
  have B2 := Lib.hid (B1.out.trans (hb2.mono B1.out.size))
  clear ha2 hb2
  go_wp2_with fail
  refine (CI.out _ _ A12.out).mono ?_
  rintro e w3 ⟨gv, gh, gc, rfl, hg3, hb3⟩
  have G3 := Lib.hid (LOwn.at hg3 HLI.out)
  have A3 := Lib.hid (A12.out.keep (keeps_below hb3))
  have A23 := Lib.hid (A2.out.keep (keeps_below hb3))
  have B3 := Lib.hid (B2.out.trans (hb3.mono B2.out.size))
  clear hg3 hb3
  obtain ⟨ga, gcap, rfl, _, _⟩ := G3.out
  rw [List.length_map] at G3 ⊢
  go_wp2_with fail
  refine (CS.out _ _ A23.out).mono ?_
  rintro e w4 ⟨sv, sh, sc, rfl, hs4, hb4⟩
  have S4 := Lib.hid (LOwn.at hs4 HLI.out)
  have G4 := Lib.hid (G3.out.keep (keeps_below hb4))
  have A4 := Lib.hid (A3.out.keep (keeps_below hb4))
  have B4 := Lib.hid (B3.out.trans (hb4.mono B3.out.size))
  clear hs4 hb4
  obtain ⟨sa, scap, rfl, _, _⟩ := S4.out
  rw [List.length_map] at S4 ⊢
  go_wp2_with fail
  refine (sameLists_any (cs.map upI) _ _ _ G4.out S4.out).mono ?_
  rintro e w5 ⟨rfl, hb5⟩
  have G5 := Lib.hid (G4.out.keep (keeps_below hb5))
  have A5 := Lib.hid (A4.out.keep (keeps_below hb5))
  have B5 := Lib.hid (B4.out.trans (hb5.mono B4.out.size))
  clear hb5
  go_wp2_with fail
  refine (CGr.out _ _ A5.out).mono ?_
  rintro e w6 ⟨rfl, hb6⟩
  have G6 := Lib.hid (G5.out.keep (keeps_below hb6))
  have A6 := Lib.hid (A5.out.keep (keeps_below hb6))
  have B6 := Lib.hid (B5.out.trans (hb6.mono B5.out.size))
  clear hb6
  go_wp2_with fail
  go_loopw [8] (fun i wr => ∃ (a : Nat), a ≤ m ∧ i = .int .i64 a ∧ Hid (ListsAt wr (cs.map upI) (.slice ga cs.length gcap)) ∧ Hid (ArcsAt wr E (.slice g1 E.length c1)) ∧ Hid (Below w.heap.size w wr))
    (fun i _ => m - (intOf i).toNat)
  case atStart => exact ⟨0, Nat.zero_le _, rfl, G6.out, A6.out, B6.out⟩
  case round =>
    obtain ⟨a, ha, rfl, hgl, har, hbe⟩ := hrel
    by_cases ham : a < m
    · obtain ⟨wo, hwo⟩ : ∃ w0, w0 = wr := ⟨_, rfl⟩
      subst hwo
      obtain ⟨x, hx, hax, hxz⟩ := comp_place HW.out ham
      have HAX := Lib.hid hax
      have HXZ := Lib.hid hxz
      have HX := Lib.hid hx
      clear hax hxz
      go_wp2_with fail
      go_loopw [9] (fun i wr => ∃ (b : Nat), b ≤ m ∧ i = .int .i64 b ∧ Hid (ListsAt wr (cs.map upI) (.slice ga cs.length gcap)) ∧ Hid (ArcsAt wr E (.slice g1 E.length c1)) ∧ Hid (Below w.heap.size w wr))
        (fun i _ => m - (intOf i).toNat)
      case atStart => exact ⟨0, Nat.zero_le _, rfl, hgl.out, har.out, hbe.out⟩
      case round =>
        obtain ⟨b, hb, rfl, hgl2, har2, hbe2⟩ := hrel
        by_cases hbm : b < m
        · obtain ⟨y, hy, hby, hyz⟩ := comp_place HW.out hbm
          obtain ⟨p1, p2, p3⟩ := comp_pair HW.out HX.out hy HAX.out hby
          have HYZ := Lib.hid hyz
          have P1 := Lib.hid p1
          have P2 := Lib.hid p2
          have P3 := Lib.hid p3
          obtain ⟨s, hs⟩ : ∃ s, W a b = s := ⟨_, rfl⟩
          obtain ⟨t, ht⟩ : ∃ t, W b a = t := ⟨_, rfl⟩
          rw [hs, ht] at P2 P3
          have C1 := Lib.hid (CR.out a b ham hbm)
          have C2 := Lib.hid (CR.out b a hbm ham)
          rw [hs] at C1
          rw [ht] at C2
          have hx60 : x < 60 := by have := HX.out; rw [← HCS.out] at this; omega
          have hy60 : y < 60 := by rw [← HCS.out] at hy; omega
          have HST : Hid (a = b → s = t) := fun e => by subst e; rw [← hs, ← ht]
          clear hby hyz p1 p2 p3 hs ht hy
          go_wp2_with fail
          refine (C1.out _ _ har2.out).mono ?_
          rintro e wa ⟨rfl, hba⟩
          have GA := Lib.hid (hgl2.out.keep (keeps_below hba))
          have AA := Lib.hid (har2.out.keep (keeps_below hba))
          have BA := Lib.hid (hbe2.out.trans (hba.mono hbe2.out.size))
          clear hba
          go_wp2_with fail
          refine (C2.out _ _ AA.out).mono ?_
          rintro e wb ⟨rfl, hbb⟩
          have GB := Lib.hid (GA.out.keep (keeps_below hbb))
          have AB := Lib.hid (AA.out.keep (keeps_below hbb))
          have BB := Lib.hid (BA.out.trans (hbb.mono BA.out.size))
          clear hbb
          go_wp2_with fail
          refine (implCompAt_any (cs.map upI) (a : Int) _ _ GB.out).mono ?_
          rintro e wc ⟨zx, rfl, hzx, hbc⟩
          obtain rfl : zx = (x : Int) := HXZ.out zx (by rw [← HCS.out]; exact hzx)
          have GC := Lib.hid (GB.out.keep (keeps_below hbc))
          have AC := Lib.hid (AB.out.keep (keeps_below hbc))
          have BC := Lib.hid (BB.out.trans (hbc.mono BB.out.size))
          clear hbc hzx
          go_wp2_with fail
          refine (implCompAt_any (cs.map upI) (b : Int) _ _ GC.out).mono ?_
          rintro e wd ⟨zy, rfl, hzy, hbd⟩
          obtain rfl : zy = (y : Int) := HYZ.out zy (by rw [← HCS.out]; exact hzy)
          have GD := Lib.hid (GC.out.keep (keeps_below hbd))
          have AD := Lib.hid (AC.out.keep (keeps_below hbd))
          have BD := Lib.hid (BC.out.trans (hbd.mono BC.out.size))
          clear hbd hzy
          by_cases hab : a = b
          · obtain rfl : s = t := HST.out hab
            subst hab
            cases s
            all_goals
              go_wp2_with fail
              go_roundw
              case rel => exact ⟨a + 1, by omega, by go_num, GD.out, AD.out, BD.out⟩
              case measure => simp [intOf]; omega
          · have hne1 : ((a : Int) == (b : Int)) = false := by rw [beq_eq_false_iff_ne]; omega
            have hne2 : ¬ (a : Int) = (b : Int) := by omega
            have h2 := P2.out hab
            have h3 := P3.out
            clear hab
            cases s
            · have hxy : ¬ x = y := fun e => by have := (h2.1 e).1; cases this
              have hq1 : ((x : Int) == (y : Int)) = false := by rw [beq_eq_false_iff_ne]; omega
              have hq2 : ¬ (x : Int) = (y : Int) := by omega
              clear h2 h3 hxy
              go_wp2_with fail
              go_roundw
              case rel => exact ⟨b + 1, by omega, by go_num, GD.out, AD.out, BD.out⟩
              case measure => simp [intOf]; omega
            · cases t
              · have hxy : ¬ x = y := fun e => by have := (h2.1 e).2; cases this
                have hlt := h3 rfl rfl
                have hq1 : ((x : Int) == (y : Int)) = false := by rw [beq_eq_false_iff_ne]; omega
                have hq2 : ¬ (x : Int) = (y : Int) := by omega
                clear h2 h3 hxy
                go_wp2_with fail
                go_roundw
                case rel => exact ⟨b + 1, by omega, by go_num, GD.out, AD.out, BD.out⟩
                case measure => simp [intOf]; omega
              · obtain rfl : x = y := h2.2 ⟨rfl, rfl⟩
                clear h2 h3
                go_wp2_with fail
                go_roundw
                case rel => exact ⟨b + 1, by omega, by go_num, GD.out, AD.out, BD.out⟩
                case measure => simp [intOf]; omega
        · go_wp2_with fail
          go_roundw
          case rel => exact ⟨a + 1, by omega, by go_num, hgl2.out, har2.out, hbe2.out⟩
          case measure => simp [intOf]; omega
    · obtain ⟨wo, hwo⟩ : ∃ w0, w0 = wr := ⟨_, rfl⟩
      subst hwo
      go_wp2_with fail
      go_loopw [14] (fun i wr => ∃ (k : Nat), k ≤ cs.length ∧ i = .int .i64 k ∧ Hid (ListsAt wr (cs.map upI) (.slice ga cs.length gcap)) ∧ Hid (ArcsAt wr E (.slice g1 E.length c1)) ∧ Hid (Below w.heap.size w wr))
        (fun i _ => cs.length - (intOf i).toNat)
      case atStart => exact ⟨0, Nat.zero_le _, rfl, hgl.out, har.out, hbe.out⟩
      case round =>
        obtain ⟨k, hk, rfl, hgl2, har2, hbe2⟩ := hrel
        by_cases hkt : k < cs.length
        · obtain ⟨ga2, gcap2, e9, _, hcell⟩ := hgl2.out
          have hkm : k < (cs.map upI).length := by rw [List.length_map]; exact hkt
          obtain ⟨og, oo, rfl, hcells⟩ := hcell (by omega)
          obtain ⟨ra, rc, q0, q1⟩ := hcells k hkm
          have e10 := e9
          simp at e10
          obtain ⟨rfl, rfl⟩ := e10
          obtain ⟨p, hp⟩ : ∃ p, p = cs[k] := ⟨_, rfl⟩
          have hpmem : p ∈ compsN W m := by rw [hp, ← HCS.out]; exact List.getElem_mem hkt
          have hpm : (cs.map upI)[k] = upI p := by rw [List.getElem_map, hp]
          rw [hpm] at q0 q1
          clear hp hpm
          obtain ⟨h, r, rfl, hall⟩ := comp_head HW.out hpmem
          have hhm : h < m := (hall h List.mem_cons_self).1
          obtain ⟨z, hz⟩ : ∃ z, W h h = z := ⟨_, rfl⟩
          have hcy := HCY.out h r hhm hall
          rw [hz] at hcy
          have C1 : Hid (∀ wx, Below wr.heap.size wr wx → Calls Try.prog 17 #[.int .i64 (m : Int), .slice g1 E.length c1, .slice ra (upI (h :: r)).length rc] wx fun e w' => e = .returned (.bool z) ∧ Below wr.heap.size wr w') :=
            fun wx hb => (CC.out (upI (h :: r)) _ _ wx (har2.out.keep (keeps_below hb)) (q1.keep (keeps_below hb))).mono fun e w' h9 => by
              obtain ⟨h10, h11⟩ := say_of hcy.symm h9
              exact ⟨h10, hb.trans (h11.mono hb.size)⟩
          have C2 : Hid (∀ wx, Below wr.heap.size wr wx → Calls Try.prog 15 #[.int .i64 (m : Int), .slice g1 E.length c1, .int .i64 (h : Int), .int .i64 (h : Int)] wx fun e w' => e = .returned (.bool z) ∧ Below wr.heap.size wr w') :=
            fun wx hb => (CR.out h h hhm hhm _ wx (har2.out.keep (keeps_below hb))).mono fun e w' ⟨h10, h11⟩ => ⟨by rw [h10, hz], hb.trans (h11.mono hb.size)⟩
          obtain ⟨ra2, rc2, e11, _, _, hrc⟩ := q1
          simp at e11
          obtain ⟨rfl, rfl⟩ := e11
          obtain ⟨rg, ro, rfl, hrc2⟩ := hrc (by rw [upI_length]; simp)
          have d0 := hrc2 0 (by rw [upI_length]; simp)
          have e12 : (upI (h :: r))[0]'(by rw [upI_length]; simp) = (h : Int) := by unfold upI; simp
          rw [e12, Nat.add_zero] at d0
          have hpl : 0 < (upI (h :: r)).length := by rw [upI_length]; simp
          obtain ⟨L, hL⟩ : ∃ L, L = (upI (h :: r)).length := ⟨_, rfl⟩
          rw [← hL] at q0 C1 hpl
          have KS : Hid (∀ wx, Below wr.heap.size wr wx → wx.cell? ⟨og, oo + k, none⟩ = some (.slice (some ⟨rg, ro, none⟩) L rc) ∧ wx.cell? ⟨rg, ro, none⟩ = some (.int .i64 (h : Int)) ∧ Below wr.heap.size wr wx) := fun wx hb => ⟨keeps_below hb _ _ q0, keeps_below hb _ _ d0, hb⟩
          have b0 : Below wr.heap.size wr wr.drew := (Below.refl _ _).drew
          have hLi : (0 : Int) < (L : Int) := by omega
          clear hcell hcells q0 hall hz hcy hrc hrc2 d0 e12 hL hpmem hhm e9
          go_wp2_with fail
          go_region_held3 (fun wx => wx.cell? ⟨og, oo + k, none⟩ = some (.slice (some ⟨rg, ro, none⟩) L rc) ∧ wx.cell? ⟨rg, ro, none⟩ = some (.int .i64 (h : Int)) ∧ Below wr.heap.size wr wx)
            (exact KS.out _ (by assumption))
            (first
            | (go_at_call 17; (with_reducible refine (C1.out _ (by assumption)).mono ?_); rintro e w1 ⟨rfl, b1⟩)
            | (go_at_call 15; (with_reducible refine (C2.out _ (by assumption)).mono ?_); rintro e w1 ⟨rfl, b1⟩))
          all_goals
            have G9 := Lib.hid (hgl2.out.keep (keeps_below b1))
            have A9 := Lib.hid (har2.out.keep (keeps_below b1))
            have B9 := Lib.hid (hbe2.out.trans (b1.mono hbe2.out.size))
            clear b1
            go_wp2
            go_roundw
            case rel => exact ⟨k + 1, by omega, by go_num, G9.out, A9.out, B9.out⟩
            case measure => simp [intOf]; omega
        · go_wp2_with fail
          go_ret
          exact ⟨rfl, hbe2.out⟩
end Go.Proofs.Ytabpbmifegfmgaa.FnCompsW
