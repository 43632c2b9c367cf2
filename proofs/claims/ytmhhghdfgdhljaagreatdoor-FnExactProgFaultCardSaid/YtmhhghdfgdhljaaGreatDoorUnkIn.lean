/- The model's UnknownIn, walked. Conditions: the program lies in memory; it has at most 2 to the 20 names and statements. -/
import Derived.Test.YtmhhghdfgdhljaaGreatDoorUnkList
import Derived.Test.YtmhhghdfgdhljaaGreatDoorPOkSpec
namespace Go.Proofs.YtmhhghdfgdhljaaGreatDoor.Trm
open Go.RowKit Own
noncomputable def unkIn (x : PTree) : List ByteArray := if okP x = true then unkPs x x.procs [] else []
theorem unkPs_drop (x : PTree) {ps : List PrT} {i : Nat} (h : i < ps.length) (acc : List ByteArray) : unkPs x (ps.drop i) acc = unkPs x (ps.drop (i + 1)) (unkXS x ps[i].body acc) := by
  unfold unkPs; rw [List.drop_eq_getElem_cons h, List.foldl_cons]
theorem unkPs_end (x : PTree) {ps : List PrT} {i : Nat} (h : ps.length ≤ i) (acc : List ByteArray) : unkPs x (ps.drop i) acc = acc := by
  unfold unkPs; rw [List.drop_of_length_le h]; rfl
set_option maxRecDepth 20000 in
set_option maxHeartbeats 1600000 in
theorem specUnkIn_any (x : PTree) (v : Value) (w : World) (hz : szP x ≤ 1048576) (hp : PLies w x v) :
    Calls Tryz.prog 74 #[v] w fun e w' => ∃ ov, e = .returned ov ∧ w'.ownsRow w.heap.size 9 1 ov (unkIn x).length (strV (unkIn x)) ∧ Below w.heap.size w w' := by
  obtain ⟨ga, gc, la, lc, pa, pc, rfl, hpg, hpk, hpp⟩ := id hp
  have HOK := Lib.hid (fun wx (hb : Below w.heap.size w wx) => specProgOk_any x _ wx (hp.keep (keeps_below hb)))
  obtain ⟨hplen, a, cap, e, hk⟩ := hpp
  simp at e
  obtain ⟨rfl, rfl⟩ := e
  have hpl : x.procs.length ≤ 8000000 := by unfold szP at hz; omega
  have HSZ : Hid (szPrs x.procs ≤ 1048576) := by show _ ≤ _; unfold szP at hz; omega
  have CU := Lib.hid (fun v ov wx xs acc h1 h2 h3 hb hr => specUnk_any x xs _ v ov w wx acc h1 h2 hpl hp h3 hb hr)
  have HK := Lib.hid hk
  have HUI : Hid (unkIn x = if okP x = true then unkPs x x.procs [] else []) := rfl
  obtain ⟨WP, hWP⟩ : ∃ w1, w1 = (w.alloc (.cells #[.slice ga x.globals.length gc, .slice la x.locks.length lc, .slice pa x.procs.length pc] 27)).alloc (.cells #[] 9) := ⟨_, rfl⟩
  have HB0 : Hid (Below w.heap.size w WP) := by show Below _ _ _; rw [hWP]; exact ((Below.refl w.heap.size w).alloc (Nat.le_refl _) _).alloc (by simp) _
  have HPB : Hid (WP.heap[w.heap.size]? = some (.cells #[.slice ga x.globals.length gc, .slice la x.locks.length lc, .slice pa x.procs.length pc] 27 (0, 0))) := by
    show _ = _
    rw [hWP, heap_alloc_old _ _ (by simp)]; exact heap_alloc_new _ _
  have HO : Hid (WP.ownsRow w.heap.size 9 1 (.slice (some ⟨w.heap.size + 1, 0, none⟩) 0 0) 0 []) := by
    show World.ownsRow _ _ _ _ _ _ _
    rw [hWP]
    exact ⟨rfl, .inr ⟨w.heap.size + 1, 0, #[], rfl, by omega, by have := heap_alloc_new (w.alloc (.cells #[.slice ga x.globals.length gc, .slice la x.locks.length lc, .slice pa x.procs.length pc] 27)) (.cells #[] 9); simpa using this, Nat.le_refl _, by decide, rfl, rfl⟩⟩
  have HNO : Hid ((Value.slice (some ⟨w.heap.size + 1, 0, none⟩) 0 0).ownBlock ≠ some w.heap.size) := by show _ ≠ _; simp [Value.ownBlock]
  have X0 := Lib.hid (Box3.new w (.slice ga x.globals.length gc) (.slice la x.locks.length lc) (.slice pa x.procs.length pc) 27)
  generalize unkIn x = ui at HUI ⊢
  clear hk hp hpg hpk hz
  cases hok : okP x with
  | false =>
    rw [hok] at HOK
    have HUF := HUI.out
    rw [hok] at HUF
    simp at HUF
    subst HUF
    clear HUI hok X0
    obtain ⟨p0, p1, p2⟩ := (blk3 (Moves.refl WP _) HPB.out HNO.out).2
    rw [hWP] at p0 p1 p2
    go_enter Tryz.func74, Tryz.ntmps74
    go_wp2
    go_loopw [3, 4] (fun o i wr => o = .slice (some ⟨w.heap.size + 1, 0, none⟩) 0 0 ∧ i = .int .i64 0 ∧ wr = WP)
      (fun _ _ _ => 0)
    case atStart => exact ⟨rfl, rfl, hWP.symm⟩
    case round =>
      obtain ⟨rfl, rfl, rfl⟩ := hrel
      rw [← hWP] at p0 p1 p2
      have HWP := Lib.hid hWP
      clear hWP
      go_wp2_with fail
      refine (HOK.out _ HB0.out).mono ?_
      rintro e w2 ⟨rfl, hb2⟩
      have HB2 := Lib.hid (HB0.out.trans (hb2.mono HB0.out.size))
      have HR2 := Lib.hid (row_below HO.out hb2)
      clear hb2
      go_wp2
      go_ret
      exact ⟨_, rfl, HR2.out, HB2.out⟩
  | true =>
    rw [hok] at HOK
    have HUT := HUI.out
    rw [hok] at HUT
    simp at HUT
    have HU := Lib.hid HUT
    clear HUI HUT hok X0
    obtain ⟨p0, p1, p2⟩ := (blk3 (Moves.refl WP _) HPB.out HNO.out).2
    rw [hWP] at p0 p1 p2
    have HWP := Lib.hid hWP
    go_enter Tryz.func74, Tryz.ntmps74
    go_wp2
    rw [← hWP]
    clear hWP p0 p1 p2
    generalize x.procs = ps at *
    go_loopw [3, 4] (fun o i wr => ∃ (j : Nat) (ac : List ByteArray), j ≤ ps.length ∧ i = .int .i64 j ∧ Hid (ui = unkPs x (ps.drop j) ac) ∧ Hid (ac.length + 3 * szPrs (ps.drop j) ≤ 8000000) ∧ wr.ownsRow w.heap.size 9 1 o ac.length (strV ac) ∧ Hid (Moves WP (.slice (some ⟨w.heap.size + 1, 0, none⟩) 0 0) wr o))
      (fun _ i _ => ps.length - (intOf i).toNat)
    case atStart => exact ⟨0, [], Nat.zero_le _, rfl, HU.out, by show _ ≤ _; have := HSZ.out; simp; omega, HO.out, Moves.refl _ _⟩
    case round =>
      obtain ⟨j, ac, hj, rfl, hui, hbd, hrow, hmv⟩ := hrel
      obtain ⟨oa, oc, rfl, _⟩ := row_shape hrow
      have HR := Lib.hid hrow
      clear hrow
      have HBR := Lib.hid (hmv.out.below HB0.out HO.out)
      have HPB1 := Lib.hid (blk3 hmv.out HPB.out HNO.out).1
      obtain ⟨p0, p1, p2⟩ := (blk3 hmv.out HPB.out HNO.out).2
      by_cases hlt : j < ps.length
      · obtain ⟨g, o, rfl, hl⟩ := HK.out (by omega)
        obtain ⟨h0, ba, bc, c0, c1, hbody⟩ := hl j hlt
        have hsd := szPrs_drop hlt
        have hpr : szPr ps[j] = ps[j].name.size + (ps[j].body.length + szXS ps[j].body) := rfl
        have hsm := szPrs_mem (List.getElem_mem hlt)
        have hSZ := HSZ.out
        have hbb := hbd.out
        have hUL := unkXS_le x ps[j].body ac
        have HUN : Hid (ui = unkPs x (ps.drop (j + 1)) (unkXS x ps[j].body ac)) := by show _ = _; rw [hui.out, unkPs_drop x hlt]
        have HBN : Hid ((unkXS x ps[j].body ac).length + 3 * szPrs (ps.drop (j + 1)) ≤ 8000000) := by show _ ≤ _; omega
        have CB := Lib.hid (fun wx oy hb hr => CU.out (.slice ba ps[j].body.length bc) oy wx ps[j].body ac (by omega) (by omega) hbody hb hr)
        have HCELL := Lib.hid (fun wx (hb : Below w.heap.size w wx) => keeps_below hb _ _ c1)
        clear hl c0 c1 hsd hpr hsm hbb hUL
        go_wp2_with fail
        refine (HOK.out _ HBR.out).mono ?_
        rintro e w2 ⟨rfl, hb2⟩
        have HB2 := Lib.hid (HBR.out.trans (hb2.mono HBR.out.size))
        have HR2 := Lib.hid (row_below HR.out hb2)
        have hm2 := Moves.of_below (.slice oa ac.length oc) hb2
        have HM2 := Lib.hid (hmv.out.trans hm2)
        clear p0 p1 p2
        obtain ⟨p0, p1, p2⟩ := (blk3 hm2 HPB1.out.1 HPB1.out.2).2
        have d1 := HCELL.out _ HB2.out
        have p0d : w2.drew.cell? ⟨w.heap.size, 0, none⟩ = some (.slice ga x.globals.length gc) := p0
        have p1d : w2.drew.cell? ⟨w.heap.size, 1, none⟩ = some (.slice la x.locks.length lc) := p1
        have p2d : w2.drew.cell? ⟨w.heap.size, 2, none⟩ = some (.slice (some ⟨g, o, none⟩) ps.length pc) := p2
        have d1d : w2.drew.cell? ⟨g, o + j * 2 + 1, none⟩ = some (.slice ba ps[j].body.length bc) := d1
        have HB2d := Lib.hid (HB2.out.drew)
        have HR2d := Lib.hid (row_below HR2.out ((Below.refl w2.heap.size w2).drew))
        clear hb2 hm2
        go_wp2_with fail
        go_region_with (first
          | (go_at_call 121; refine (CB.out _ _ HB2d.out HR2d.out).mono ?_; rintro e w5 ⟨ov5, rfl, hr5, hm5⟩))
        all_goals
          have HR5 := Lib.hid hr5
          have HM5 := Lib.hid (HM2.out.trans ((Moves.of_below _ ((Below.refl w2.heap.size w2).drew)).trans hm5))
          clear hr5 hm5
          go_wp2_with fail
          go_roundw
          case rel => exact ⟨j + 1, _, by omega, by go_num, HUN, HBN, HR5.out, HM5⟩
          case measure => simp [intOf]; omega
      · have HUN : Hid (ui = ac) := by show _ = _; rw [hui.out, unkPs_end x (by omega)]
        go_wp2_with fail
        refine (HOK.out _ HBR.out).mono ?_
        rintro e w2 ⟨rfl, hb2⟩
        have HB2 := Lib.hid (HBR.out.trans (hb2.mono HBR.out.size))
        have HR2 := Lib.hid (row_below HR.out hb2)
        have hm2 := Moves.of_below (.slice oa ac.length oc) hb2
        clear p0 p1 p2
        obtain ⟨p0, p1, p2⟩ := (blk3 hm2 HPB1.out.1 HPB1.out.2).2
        clear hb2 hm2
        go_wp2
        go_ret
        refine ⟨_, rfl, ?_, HB2.out⟩
        rw [HUN.out]; exact HR2.out
end Go.Proofs.YtmhhghdfgdhljaaGreatDoor.Trm
