/- The law of ReachIn, walked. Conditions: the arguments read. With what it stands on, in one text. -/
import Derived.Test.YtofmccihehalcabReachInPackB
import Derived.Test.YtofmccihehalcabReachInPackC
import Derived.Test.YtofmccihehalcabKArg
import Derived.Test.YtofmccihehalcabReachInPackD
/- The law of ReachIn out of two contracts, walked. Conditions: the arguments read; both sides answer the same list, in new memory. -/
namespace Go.Proofs.Ytofmccihehalcab.FnExactReachInW
open Go.RowKit Go.Proofs.Ytofmccihehalcab.Own Trm
set_option maxHeartbeats 3200000 in
theorem core (x : KTree) (at' : Int) (v : Value) (w : World) (rs : List Int) (hl : KLies w x v) (hz : szK x ≤ 1048576) (hri : ∀ z, z ∈ rs → InI z)
    (c1 : ∀ lo v w, KOwn w lo x v → Calls Try.prog 16 #[v, .int .i64 at'] w (ListI rs w))
    (c2 : ∀ lo v w, KOwn w lo x v → Calls Try.prog 17 #[v, .int .i64 at'] w (ListI rs w))
    (cm : ∀ v b w, w.ownsRow b 3 1 v rs.length (intV rs) → Calls Try.prog 14 #[v, .int .i64 1] w fun e w' => e = .returned (.int .i64 (1 + (rs.length : Int))) ∧ w'.ownsRow b 3 1 v rs.length (intV (marksI 1 rs.length)) ∧ w.grownBy w' v.ownBlock)
    (ch : ∀ v b w, w.ownsRow b 3 1 v rs.length (intV (marksI 1 rs.length)) → Calls Try.prog 15 #[v, .int .i64 1] w fun e w' => e = .returned (.int .i64 (1 + (rs.length : Int))) ∧ w.grownBy w' none) :
    Calls Try.prog 4 #[v, .int .i64 at'] w fun e w' => e = .returned (.bool true) ∧ Below w.heap.size w w' := by
  have C1 := Lib.hid c1
  have C2 := Lib.hid c2
  have CM := Lib.hid cm
  have CH := Lib.hid ch
  have HRI := Lib.hid hri
  have CS := Lib.hid (fun y hk => szCode_any x v y 1048576 (by omega) (hl.keep hk))
  have CT := Lib.hid (fun y hk => toCode_any x v y hz (hl.keep hk))
  have CE := Lib.hid (eqCode_any x)
  have CK := Lib.hid (fun v w lo hi hh => markCode_any x v w lo hi 1 (Nat.le_refl _) (by have := mkK_le x; omega) hh)
  have HZ := Lib.hid (leftR_yes hz)
  have hcn : (0 : Int) ≤ ((1 + mkK x : Nat) : Int) := by omega
  have hz2 : 0 ≤ ((1048576 - szK x : Nat) : Int) := by omega
  obtain ⟨ga0, gc0, ga1, gc1, ga2, gc2, ga3, gc3, ga4, gc4, rfl⟩ := hl.shape
  have X0 := Lib.hid (Box5.new w (.slice ga0 x.globals.length gc0) (.slice ga1 x.locks.length gc1) (.slice ga2 x.procs.length gc2) (.slice ga3 x.entry.length gc3) (.slice ga4 x.ins.length gc4) 26)
  clear c1 c2 cm ch hz hl hri
  go_enter Try.func4, Try.ntmps4
  go_wp2_with fail
  refine (CS.out _ (keeps_alloc _ _)).mono ?_
  rintro e w1 ⟨rfl, hb⟩
  rw [HZ.out]
  have B1 := Lib.hid (below_box1 hb)
  have X1 := Lib.hid (X0.out.keep (keeps_below hb))
  clear hb X0
  obtain ⟨p0, p1, p2, p3, p4⟩ := X1.out
  go_wp2_with fail
  refine (CT.out _ (keeps_below B1.out)).mono ?_
  rintro e w2 ⟨v2, rfl, ho, hb⟩
  have O2 := Lib.hid ho
  obtain ⟨_, _, _, _, _, _, _, _, _, _, rfl⟩ := ho.lies.shape
  have B2 := Lib.hid (B1.out.trans (hb.mono B1.out.size))
  have X2 := Lib.hid (X1.out.keep (keeps_below hb))
  clear ho hb p0 p1 p2 p3 p4
  go_wp2_with fail
  refine (C1.out _ _ _ O2.out).mono ?_
  rintro e w3 ⟨sv, rfl, r3, hb⟩
  have B3 := Lib.hid (B2.out.trans (hb.mono B2.out.size))
  have X3 := Lib.hid (X2.out.keep (keeps_below hb))
  have R3 := Lib.hid r3
  clear hb r3
  obtain ⟨p0, p1, p2, p3, p4⟩ := X3.out
  go_wp2_with fail
  refine (CT.out _ (keeps_below B3.out)).mono ?_
  rintro e w4 ⟨v4, rfl, ho, hb⟩
  obtain ⟨ua0, uc0, ua1, uc1, ua2, uc2, ua3, uc3, ua4, uc4, rfl⟩ := ho.lies.shape
  have HO4 := Lib.hid ho
  have HF4 := Lib.hid ho.h
  have H34 := Lib.hid hb
  have B4 := Lib.hid (B3.out.trans (hb.mono B3.out.size))
  have X4 := Lib.hid (X3.out.keep (keeps_below hb))
  have HW3 : Hid (w.heap.size ≤ w3.heap.size) := B3.out.size
  clear ho hb p0 p1 p2 p3 p4
  have Y4 := Lib.hid (Box5.new w4 (.slice ua0 x.globals.length uc0) (.slice ua1 x.locks.length uc1) (.slice ua2 x.procs.length uc2) (.slice ua3 x.entry.length uc3) (.slice ua4 x.ins.length uc4) 31)
  have BA := Lib.hid ((Below.refl w4.heap.size w4).alloc (Nat.le_refl _) (.cells #[.slice ua0 x.globals.length uc0, .slice ua1 x.locks.length uc1, .slice ua2 x.procs.length uc2, .slice ua3 x.entry.length uc3, .slice ua4 x.ins.length uc4] 31))
  have A4 := Lib.hid (HO4.out.below BA.out)
  go_wp2_with fail
  refine (C2.out _ _ _ A4.out).mono ?_
  rintro e w6 ⟨gv, rfl, r6, hb⟩
  have H46 : Hid (Below w4.heap.size w4 w6) := BA.out.trans (hb.mono BA.out.size)
  have H36 := Lib.hid (H34.out.trans (H46.out.mono H34.out.size))
  have S6 := Lib.hid (krow_up R3.out H36.out)
  have G6 : Hid (w6.ownsRow w4.heap.size 3 1 gv rs.length (intV rs)) := World.ownsRow.mono r6 (by simp)
  have B6 := Lib.hid (B4.out.trans (H46.out.mono B4.out.size))
  have X6 := Lib.hid (X4.out.keep (keeps_below H46.out))
  have Y6 := Lib.hid (Y4.out.keep (keeps_below hb))
  have L6 := Lib.hid (A4.out.lies.keep (keeps_below hb))
  clear r6 hb
  go_wp2_with fail
  refine (eqInts_at _ _ rs _ (ints_of_row G6.out HRI.out) (ints_of_row S6.out HRI.out)).mono ?_
  rintro e w7 ⟨rfl, hb⟩
  have H67 := Lib.hid hb
  have B7 := Lib.hid (B6.out.trans (hb.mono B6.out.size))
  have X7 := Lib.hid (X6.out.keep (keeps_below hb))
  have Y7 := Lib.hid (Y6.out.keep (keeps_below hb))
  have L7 := Lib.hid (L6.out.keep (keeps_below hb))
  clear hb
  obtain ⟨p0, p1, p2, p3, p4⟩ := X7.out
  obtain ⟨q0, q1, q2, q3, q4⟩ := Y7.out
  go_wp2
  go_region_with (first
    | (go_at_call 9; refine (CT.out _ ((keeps_below B7.out).trans (keeps_drew _))).mono ?_; rintro e w14 ⟨v14, rfl, ho, hb⟩; have HO14 := Lib.hid ho.lies; have HB14 := Lib.hid hb; have Y14 := Y7.out.keep ((keeps_drew _).trans (keeps_below hb)); clear ho hb; obtain ⟨r0, r1, r2, r3, r4⟩ := Y14)
    | (go_at_call 12; refine (CE.out _ _ _ (L7.out.keep ((keeps_drew _).trans (keeps_below HB14.out))) HO14.out).mono ?_; rintro e w8 ⟨rfl, hb⟩; have HB8 := Lib.hid hb; clear hb))
  all_goals
    have B78 : Below w7.heap.size w7 w8 := (below_of_drew HB14.out).trans (HB8.out.mono (below_of_drew HB14.out).size)
    have H68 := Lib.hid (H67.out.trans (B78.mono H67.out.size))
    have H48 := Lib.hid (H46.out.trans (H68.out.mono H46.out.size))
    have B8 := Lib.hid (B6.out.trans (H68.out.mono B6.out.size))
    have G8 := Lib.hid (krow_up G6.out H68.out)
    have S8 := Lib.hid (krow_up S6.out H68.out)
    have X8 := Lib.hid (X7.out.keep (keeps_below B78))
    have Y8 := Lib.hid (Y7.out.keep (keeps_below B78))
    have O8 := Lib.hid (HF4.out.keep (fun b _ h2 => H48.out.block b h2) H48.out.size)
    clear B78 r0 r1 r2 r3 r4 p0 p1 p2 p3 p4 q0 q1 q2 q3 q4
    obtain ⟨q0, q1, q2, q3, q4⟩ := Y8.out
    go_wp2_with fail
    refine (CK.out _ _ w3.heap.size w4.heap.size O8.out).mono ?_
    rintro e w9 ⟨rfl, hm⟩
    have B9 := Lib.hid (B8.out.trans ((hm.below (Nat.le_trans H34.out.size H48.out.size)).mono HW3.out))
    have G9 := Lib.hid (krow_marks G8.out hm (fun b hb => .inr (G6.out.lt b hb).1))
    have S9 := Lib.hid (krow_marks S8.out hm (fun b hb => .inl (R3.out.lt b hb).2))
    have X9 : Hid (Box5 w9 w.heap.size (.slice ga0 x.globals.length gc0) (.slice ga1 x.locks.length gc1) (.slice ga2 x.procs.length gc2) (.slice ga3 x.entry.length gc3) (.slice ga4 x.ins.length gc4)) := by
      have hlt : w.heap.size < w8.heap.size := cell_lt X8.out.1
      have hlt3 : w.heap.size < w3.heap.size := cell_lt X3.out.1
      have hbk : w9.heap[w.heap.size]? = w8.heap[w.heap.size]? := hm.block _ hlt (.inl hlt3)
      exact ⟨(World.cell?_of_block hbk).trans X8.out.1, (World.cell?_of_block hbk).trans X8.out.2.1, (World.cell?_of_block hbk).trans X8.out.2.2.1, (World.cell?_of_block hbk).trans X8.out.2.2.2.1, (World.cell?_of_block hbk).trans X8.out.2.2.2.2⟩
    clear hm q0 q1 q2 q3 q4
    go_wp2_with fail
    refine (eqInts_at _ _ rs _ (ints_of_row G9.out HRI.out) (ints_of_row S9.out HRI.out)).mono ?_
    rintro e w10 ⟨rfl, hb⟩
    have B10 := Lib.hid (B9.out.trans (hb.mono B9.out.size))
    have G10 := Lib.hid (krow_up G9.out hb)
    have S10 := Lib.hid (krow_up S9.out hb)
    have X10 := Lib.hid (X9.out.keep (keeps_below hb))
    clear hb
    go_wp2_with fail
    refine (CM.out _ _ _ G10.out).mono ?_
    rintro e w11 ⟨rfl, m11, hg⟩
    have M11 := Lib.hid m11
    have B11 := Lib.hid (B10.out.grown hg B10.out.size (fun b hb => Nat.le_trans (Nat.le_trans HW3.out H34.out.size) (G6.out.lt b hb).1))
    have S11 := Lib.hid (krow_other S10.out hg (fun b hb e1 => by have := (G6.out.lt b e1).1; have := (R3.out.lt b hb).2; have := H34.out.size; omega))
    have X11 : Hid (Box5 w11 w.heap.size (.slice ga0 x.globals.length gc0) (.slice ga1 x.locks.length gc1) (.slice ga2 x.procs.length gc2) (.slice ga3 x.entry.length gc3) (.slice ga4 x.ins.length gc4)) := by
      have hlt : w.heap.size < w10.heap.size := cell_lt X10.out.1
      have hlt3 : w.heap.size < w3.heap.size := cell_lt X3.out.1
      have hbk : w11.heap[w.heap.size]? = w10.heap[w.heap.size]? := hg.block _ hlt (fun e => by have := (G6.out.lt _ e.symm).1; have := H34.out.size; omega)
      exact ⟨(World.cell?_of_block hbk).trans X10.out.1, (World.cell?_of_block hbk).trans X10.out.2.1, (World.cell?_of_block hbk).trans X10.out.2.2.1, (World.cell?_of_block hbk).trans X10.out.2.2.2.1, (World.cell?_of_block hbk).trans X10.out.2.2.2.2⟩
    clear m11 hg
    go_wp2_with fail
    refine (CH.out _ _ _ M11.out).mono ?_
    rintro e w12 ⟨rfl, hg⟩
    have M12 := Lib.hid (krow_other M11.out hg (fun _ _ h => by cases h))
    have S12 := Lib.hid (krow_other S11.out hg (fun _ _ h => by cases h))
    have B12 := Lib.hid (B11.out.grown hg B11.out.size (fun _ h => by cases h))
    have X12 : Hid (Box5 w12 w.heap.size (.slice ga0 x.globals.length gc0) (.slice ga1 x.locks.length gc1) (.slice ga2 x.procs.length gc2) (.slice ga3 x.entry.length gc3) (.slice ga4 x.ins.length gc4)) := by
      have hbk : w12.heap[w.heap.size]? = w11.heap[w.heap.size]? := hg.block _ (cell_lt X11.out.1) (by simp)
      exact ⟨(World.cell?_of_block hbk).trans X11.out.1, (World.cell?_of_block hbk).trans X11.out.2.1, (World.cell?_of_block hbk).trans X11.out.2.2.1, (World.cell?_of_block hbk).trans X11.out.2.2.2.1, (World.cell?_of_block hbk).trans X11.out.2.2.2.2⟩
    clear hg
    obtain ⟨p0, p1, p2, p3, p4⟩ := X12.out
    go_wp2_with fail
    refine (CT.out _ (keeps_below B12.out)).mono ?_
    rintro e w13 ⟨v13, rfl, o13, hb⟩
    have O13 := Lib.hid o13
    obtain ⟨_, _, _, _, _, _, _, _, _, _, rfl⟩ := o13.lies.shape
    have M13 := Lib.hid (krow_up M12.out hb)
    have S13 := Lib.hid (krow_up S12.out hb)
    have B13 := Lib.hid (B12.out.trans (hb.mono B12.out.size))
    clear o13 hb p0 p1 p2 p3 p4
    go_wp2_with fail
    refine (C2.out _ _ _ O13.out).mono ?_
    rintro e w15 ⟨hv, rfl, r15, hb⟩
    have M15 := Lib.hid (krow_up M13.out hb)
    have S15 := Lib.hid (krow_up S13.out hb)
    have R15 := Lib.hid r15
    have B15 := Lib.hid (B13.out.trans (hb.mono B13.out.size))
    clear hb r15
    go_wp2_with fail
    refine (eqInts_at _ _ rs _ (ints_of_row R15.out HRI.out) (ints_of_row S15.out HRI.out)).mono ?_
    rintro e w16 ⟨rfl, hb⟩
    have M16 := Lib.hid (krow_up M15.out hb)
    have B16 := Lib.hid (B15.out.trans (hb.mono B15.out.size))
    clear hb
    go_wp2_with fail
    refine (CH.out _ _ _ M16.out).mono ?_
    rintro e w17 ⟨rfl, hg⟩
    have B17 := Lib.hid (B16.out.grown hg B16.out.size (fun _ h => by cases h))
    clear hg
    go_wp2_with fail
    go_ret
    exact ⟨rfl, B17.out⟩
theorem big (x : KTree) (at' : Int) (v : Value) (w : World) (hl : KLies w x v) (hz : 1048576 < szK x) :
    Calls Try.prog 4 #[v, .int .i64 at'] w fun e w' => e = .returned (.bool true) ∧ Below w.heap.size w w' := by
  have CS := Lib.hid (fun y hk => szCode_any x v y 1048576 (by omega) (hl.keep hk))
  have HZ := Lib.hid (leftR_no (a := 1048576) (n := szK x) (by omega))
  obtain ⟨ga0, gc0, ga1, gc1, ga2, gc2, ga3, gc3, ga4, gc4, rfl⟩ := hl.shape
  clear hl hz
  go_enter Try.func4, Try.ntmps4
  go_wp2_with fail
  refine (CS.out _ (keeps_alloc _ _)).mono ?_
  rintro e w1 ⟨rfl, hb⟩
  rw [HZ.out]
  have B1 := Lib.hid (below_box1 hb)
  clear hb
  go_wp2
  go_ret
  exact ⟨rfl, B1.out⟩
end Go.Proofs.Ytofmccihehalcab.FnExactReachInW
/- The law of ReachIn, walked. Conditions: the arguments read. -/
namespace Go.Proofs.Ytofmccihehalcab.FnExactReachInW
open Go.RowKit Go.Proofs.Ytofmccihehalcab.Own Trm
set_option maxRecDepth 100000 in
theorem walk {H : Type} {enc : TypeId × Value → H} {base b0 : Nat} {spare : Nat → Bool} {held : Bool} {r : Reach} {d : DataW H} {p : List MemPlace} (v : Value) (a : Int) (w : World) (ok : Value.okWide Try.prog w r b0 26 v) (k : DataW.Trod enc Try.prog w base spare held 26 v d p) (_ : (Lit.int .i64 a).wf = true) :
    Calls Try.prog 4 #[v, .int .i64 a] w fun e w' => e = .returned (.bool true) ∧ Below w.heap.size w w' := by
  obtain ⟨x, hl⟩ := klies_of_Trod ok k
  by_cases hz : szK x ≤ 1048576
  · have hn := reachAns_small x a
    have hlen : (upI (reachAns x a)).length ≤ 9000000 := by rw [upI_length]; have := hn.1; omega
    exact core x a v w (upI (reachAns x a)) hl hz hn.int (fun _ v w h => specReachIn_any x a v w h.kin hz) (fun _ v w h => implReachIn_any x a v w h.kin hz)
      (fun v b w h => mark_oneI v b _ _ w h hlen) (fun v b w h => held_oneI v b _ w h hlen)
  · exact big x a v w hl (by omega)
end Go.Proofs.Ytofmccihehalcab.FnExactReachInW
