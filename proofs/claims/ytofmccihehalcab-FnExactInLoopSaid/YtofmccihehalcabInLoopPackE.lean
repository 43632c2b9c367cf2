/- The law of InLoop, walked. Conditions: the arguments read. With what it stands on, in one text. -/
import Derived.Test.YtofmccihehalcabInLoopPackB
import Derived.Test.YtofmccihehalcabInLoopPackC
import Derived.Test.YtofmccihehalcabKArg
import Derived.Test.YtofmccihehalcabInLoopPackD
/- The law of InLoop out of two contracts, walked. Conditions: the arguments read; both sides answer the same. -/
namespace Go.Proofs.Ytofmccihehalcab.FnExactInLoopW
open Go.RowKit Go.Proofs.Ytofmccihehalcab.Own Trm
set_option maxHeartbeats 1600000 in
theorem core (x : KTree) (at' : Int) (v : Value) (w : World) (b : Bool) (hl : KLies w x v) (hz : szK x ≤ 1048576)
    (c1 : ∀ lo v w, KOwn w lo x v → Calls Try.prog 20 #[v, .int .i64 at'] w fun e w' => e = .returned (.bool b) ∧ Below w.heap.size w w')
    (c2 : ∀ lo v w, KOwn w lo x v → Calls Try.prog 21 #[v, .int .i64 at'] w fun e w' => e = .returned (.bool b) ∧ Below w.heap.size w w') :
    Calls Try.prog 6 #[v, .int .i64 at'] w fun e w' => e = .returned (.bool true) ∧ Below w.heap.size w w' := by
  have C1 := Lib.hid c1
  have C2 := Lib.hid c2
  have CS := Lib.hid (fun y hk => szCode_any x v y 1048576 (by omega) (hl.keep hk))
  have CT := Lib.hid (fun y hk => toCode_any x v y hz (hl.keep hk))
  have CE := Lib.hid (eqCode_any x)
  have HZ := Lib.hid (leftR_yes hz)
  have hz2 : 0 ≤ ((1048576 - szK x : Nat) : Int) := by omega
  obtain ⟨ga0, gc0, ga1, gc1, ga2, gc2, ga3, gc3, ga4, gc4, rfl⟩ := hl.shape
  have X0 := Lib.hid (Box5.new w (.slice ga0 x.globals.length gc0) (.slice ga1 x.locks.length gc1) (.slice ga2 x.procs.length gc2) (.slice ga3 x.entry.length gc3) (.slice ga4 x.ins.length gc4) 26)
  clear c1 c2 hz hl
  go_enter Try.func6, Try.ntmps6
  go_wp2_with fail
  refine (CS.out _ (keeps_alloc _ _)).mono ?_
  rintro e w1 ⟨rfl, hb⟩
  rw [HZ.out]
  have B1 := Lib.hid (below_box1 hb)
  have X1 := Lib.hid (X0.out.keep (keeps_below hb))
  clear hb X0
  obtain ⟨p0, p1, p2, p3, p4⟩ := X1.out
  go_wp2_with fail
  refine (CT.out _ (keeps_below B1.out)).mono ?_
  rintro e w2 ⟨v2, rfl, ho, hb⟩
  have O2 := Lib.hid ho
  obtain ⟨_, _, _, _, _, _, _, _, _, _, rfl⟩ := ho.lies.shape
  have B2 := Lib.hid (B1.out.trans (hb.mono B1.out.size))
  have X2 := Lib.hid (X1.out.keep (keeps_below hb))
  clear ho hb p0 p1 p2 p3 p4
  go_wp2_with fail
  refine (C1.out _ _ _ O2.out).mono ?_
  rintro e w3 ⟨rfl, hb⟩
  have B3 := Lib.hid (B2.out.trans (hb.mono B2.out.size))
  have X3 := Lib.hid (X2.out.keep (keeps_below hb))
  clear hb
  obtain ⟨p0, p1, p2, p3, p4⟩ := X3.out
  go_wp2_with fail
  refine (CT.out _ (keeps_below B3.out)).mono ?_
  rintro e w4 ⟨v4, rfl, ho, hb⟩
  obtain ⟨ua0, uc0, ua1, uc1, ua2, uc2, ua3, uc3, ua4, uc4, rfl⟩ := ho.lies.shape
  have HO4 := Lib.hid ho
  have B4 := Lib.hid (B3.out.trans (hb.mono B3.out.size))
  have X4 := Lib.hid (X3.out.keep (keeps_below hb))
  clear ho hb p0 p1 p2 p3 p4
  have Y4 := Lib.hid (Box5.new w4 (.slice ua0 x.globals.length uc0) (.slice ua1 x.locks.length uc1) (.slice ua2 x.procs.length uc2) (.slice ua3 x.entry.length uc3) (.slice ua4 x.ins.length uc4) 31)
  have A4 := Lib.hid (HO4.out.below ((Below.refl w4.heap.size w4).alloc (Nat.le_refl _) (.cells #[.slice ua0 x.globals.length uc0, .slice ua1 x.locks.length uc1, .slice ua2 x.procs.length uc2, .slice ua3 x.entry.length uc3, .slice ua4 x.ins.length uc4] 31)))
  go_wp2_with fail
  refine (C2.out _ _ _ A4.out).mono ?_
  rintro e w5 ⟨rfl, hb⟩
  have B5 := Lib.hid ((B4.out.alloc B4.out.size _).trans (hb.mono (Nat.le_trans B4.out.size (by simp))))
  have X5 := Lib.hid (X4.out.keep ((keeps_alloc _ _).trans (keeps_below hb)))
  have Y5 := Lib.hid (Y4.out.keep (keeps_below hb))
  have L5 := Lib.hid (A4.out.lies.keep (keeps_below hb))
  clear hb
  obtain ⟨p0, p1, p2, p3, p4⟩ := X5.out
  obtain ⟨q0, q1, q2, q3, q4⟩ := Y5.out
  go_wp2
  go_region_with (first
    | (go_at_call 9; refine (CT.out _ ((keeps_below B5.out).trans (keeps_drew _))).mono ?_; rintro e w7 ⟨v7, rfl, ho, hb⟩; have HO7 := Lib.hid ho.lies; have HB7 := Lib.hid hb; have Y7 := Y5.out.keep ((keeps_drew _).trans (keeps_below hb)); clear ho hb; obtain ⟨r0, r1, r2, r3, r4⟩ := Y7)
    | (go_at_call 12; refine (CE.out _ _ _ (L5.out.keep ((keeps_drew _).trans (keeps_below HB7.out))) HO7.out).mono ?_; rintro e w8 ⟨rfl, hb⟩; have HB8 := Lib.hid hb; clear hb))
  all_goals
    go_wp2
    go_ret
    have B7 := B5.out.trans ((below_of_drew HB7.out).mono B5.out.size)
    exact ⟨rfl, B7.trans (HB8.out.mono B7.size)⟩
theorem big (x : KTree) (at' : Int) (v : Value) (w : World) (hl : KLies w x v) (hz : 1048576 < szK x) :
    Calls Try.prog 6 #[v, .int .i64 at'] w fun e w' => e = .returned (.bool true) ∧ Below w.heap.size w w' := by
  have CS := Lib.hid (fun y hk => szCode_any x v y 1048576 (by omega) (hl.keep hk))
  have HZ := Lib.hid (leftR_no (a := 1048576) (n := szK x) (by omega))
  obtain ⟨ga0, gc0, ga1, gc1, ga2, gc2, ga3, gc3, ga4, gc4, rfl⟩ := hl.shape
  clear hl hz
  go_enter Try.func6, Try.ntmps6
  go_wp2_with fail
  refine (CS.out _ (keeps_alloc _ _)).mono ?_
  rintro e w1 ⟨rfl, hb⟩
  rw [HZ.out]
  have B1 := Lib.hid (below_box1 hb)
  clear hb
  go_wp2
  go_ret
  exact ⟨rfl, B1.out⟩
end Go.Proofs.Ytofmccihehalcab.FnExactInLoopW
/- The law of InLoop, walked. Conditions: the arguments read. -/
namespace Go.Proofs.Ytofmccihehalcab.FnExactInLoopW
open Go.RowKit Go.Proofs.Ytofmccihehalcab.Own Trm
set_option maxRecDepth 100000 in
theorem walk {H : Type} {enc : TypeId × Value → H} {base b0 : Nat} {spare : Nat → Bool} {held : Bool} {r : Reach} {d : DataW H} {p : List MemPlace} (v : Value) (a : Int) (w : World) (ok : Value.okWide Try.prog w r b0 26 v) (k : DataW.Trod enc Try.prog w base spare held 26 v d p) (_ : (Lit.int .i64 a).wf = true) :
    Calls Try.prog 6 #[v, .int .i64 a] w fun e w' => e = .returned (.bool true) ∧ Below w.heap.size w w' := by
  obtain ⟨x, hl⟩ := klies_of_Trod ok k
  by_cases hz : szK x ≤ 1048576
  · exact core x a v w (loopAns x a) hl hz (fun _ v w h => specInLoop_any x a v w h.kin hz) (fun _ v w h => implInLoop_any x a v w h.kin hz)
  · exact big x a v w hl (by omega)
end Go.Proofs.Ytofmccihehalcab.FnExactInLoopW
