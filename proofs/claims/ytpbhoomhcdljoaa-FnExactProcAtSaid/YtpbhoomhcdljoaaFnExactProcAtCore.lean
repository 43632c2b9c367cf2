/- The law of ProcAt out of two contracts, walked. Conditions: the arguments read; both sides answer the same. -/
import Derived.Test.YtpbhoomhcdljoaaPTo
import Derived.Test.YtpbhoomhcdljoaaPEq
namespace Go.Proofs.Ytpbhoomhcdljoaa.FnExactProcAtW
open Go.RowKit Own Trm
set_option maxHeartbeats 800000 in
theorem core (x : PTree) (s : ByteArray) (v : Value) (w : World) (n : Int) (hl : PLies w x v) (hz : szP x ≤ 1048576) (hm : s.size ≤ 1048576)
    (c1 : ∀ v w, POwn w x v → Calls Try.prog 14 #[v, .string s] w fun e w' => e = .returned (.int .i64 n) ∧ Below w.heap.size w w')
    (c2 : ∀ v w, POwn w x v → Calls Try.prog 15 #[v, .string s] w fun e w' => e = .returned (.int .i64 n) ∧ Below w.heap.size w w') :
    Calls Try.prog 5 #[v, .string s] w fun e w' => e = .returned (.bool true) ∧ Below w.heap.size w w' := by
  have C1 := Lib.hid c1
  have C2 := Lib.hid c2
  have CS := Lib.hid (fun y hk => szProg_any x v y 1048576 (by omega) (hl.keep hk))
  have CT := Lib.hid (fun y hk => toProg_any x v y hz (hl.keep hk))
  have CE := Lib.hid (eqProg_any x)
  have HZ := Lib.hid (leftR_yes hz)
  have hz2 : 0 ≤ ((1048576 - szP x : Nat) : Int) := by omega
  obtain ⟨ga, gc, la, lc, pa, pc, rfl⟩ := hl.shape
  have X0 := Lib.hid (Box3.new w (.slice ga x.globals.length gc) (.slice la x.locks.length lc) (.slice pa x.procs.length pc) 25)
  clear c1 c2 hz hl
  go_enter Try.func5, Try.ntmps5
  go_wp2_with fail
  refine (CS.out _ (keeps_alloc _ _)).mono ?_
  rintro e w1 ⟨rfl, hb⟩
  rw [HZ.out]
  have B1 := Lib.hid (below_box1 hb)
  have X1 := Lib.hid (X0.out.keep (keeps_below hb))
  clear hb X0
  obtain ⟨p0, p1, p2⟩ := X1.out
  go_wp2_with fail
  refine (CT.out _ (keeps_below B1.out)).mono ?_
  rintro e w2 ⟨v2, rfl, ho, hb⟩
  have O2 := Lib.hid ho
  obtain ⟨_, _, _, _, _, _, rfl⟩ := ho.lies.shape
  have B2 := Lib.hid (B1.out.trans (hb.mono B1.out.size))
  have X2 := Lib.hid (X1.out.keep (keeps_below hb))
  clear ho hb p0 p1 p2
  go_wp2_with fail
  refine (C1.out _ _ O2.out).mono ?_
  rintro e w3 ⟨rfl, hb⟩
  have B3 := Lib.hid (B2.out.trans (hb.mono B2.out.size))
  have X3 := Lib.hid (X2.out.keep (keeps_below hb))
  clear hb
  obtain ⟨p0, p1, p2⟩ := X3.out
  go_wp2_with fail
  refine (CT.out _ (keeps_below B3.out)).mono ?_
  rintro e w4 ⟨v4, rfl, ho, hb⟩
  obtain ⟨ua, uc, da, dc, fa, fc, rfl⟩ := ho.lies.shape
  have HO4 := Lib.hid ho
  have B4 := Lib.hid (B3.out.trans (hb.mono B3.out.size))
  have X4 := Lib.hid (X3.out.keep (keeps_below hb))
  clear ho hb p0 p1 p2
  have Y4 := Lib.hid (Box3.new w4 (.slice ua x.globals.length uc) (.slice da x.locks.length dc) (.slice fa x.procs.length fc) 30)
  have A4 := Lib.hid (HO4.out.below ((Below.refl w4.heap.size w4).alloc (Nat.le_refl _) (.cells #[.slice ua x.globals.length uc, .slice da x.locks.length dc, .slice fa x.procs.length fc] 30)))
  go_wp2_with fail
  refine (C2.out _ _ A4.out).mono ?_
  rintro e w5 ⟨rfl, hb⟩
  have B5 := Lib.hid ((B4.out.alloc B4.out.size _).trans (hb.mono (Nat.le_trans B4.out.size (by simp))))
  have X5 := Lib.hid (X4.out.keep ((keeps_alloc _ _).trans (keeps_below hb)))
  have Y5 := Lib.hid (Y4.out.keep (keeps_below hb))
  have L5 := Lib.hid (A4.out.lies.keep (keeps_below hb))
  clear hb
  obtain ⟨p0, p1, p2⟩ := X5.out
  obtain ⟨q0, q1, q2⟩ := Y5.out
  go_wp2
  go_region_with (first
    | (go_at_call 9; refine (CT.out _ ((keeps_below B5.out).trans (keeps_drew _))).mono ?_; rintro e w7 ⟨v7, rfl, ho, hb⟩; have HO7 := Lib.hid ho.lies; have HB7 := Lib.hid hb; have Y7 := Y5.out.keep ((keeps_drew _).trans (keeps_below hb)); clear ho hb; obtain ⟨r0, r1, r2⟩ := Y7)
    | (go_at_call 11; refine (CE.out _ _ _ (L5.out.keep ((keeps_drew _).trans (keeps_below HB7.out))) HO7.out).mono ?_; rintro e w8 ⟨rfl, hb⟩; have HB8 := Lib.hid hb; clear hb))
  all_goals
    go_wp2
    go_ret
    have B7 := B5.out.trans ((below_of_drew HB7.out).mono B5.out.size)
    exact ⟨rfl, B7.trans (HB8.out.mono B7.size)⟩
theorem big (x : PTree) (s : ByteArray) (v : Value) (w : World) (hl : PLies w x v) (hm : s.size ≤ 9223372036854775807) (hz : 1048576 < szP x ∨ 1048576 < s.size) :
    Calls Try.prog 5 #[v, .string s] w fun e w' => e = .returned (.bool true) ∧ Below w.heap.size w w' := by
  have CS := Lib.hid (fun y hk => szProg_any x v y 1048576 (by omega) (hl.keep hk))
  obtain ⟨ga, gc, la, lc, pa, pc, rfl⟩ := hl.shape
  clear hl
  by_cases h1 : s.size ≤ 1048576
  · have HZ := Lib.hid (leftR_no (a := 1048576) (n := szP x) (by omega))
    clear hz
    go_enter Try.func5, Try.ntmps5
    go_wp2_with fail
    refine (CS.out _ (keeps_alloc _ _)).mono ?_
    rintro e w1 ⟨rfl, hb⟩
    rw [HZ.out]
    have B1 := Lib.hid (below_box1 hb)
    clear hb
    go_wp2
    go_ret
    exact ⟨rfl, B1.out⟩
  · clear hz
    go_enter Try.func5, Try.ntmps5
    go_wp2
    go_ret
    exact ⟨rfl, (Below.refl _ _).alloc (Nat.le_refl _) _⟩
end Go.Proofs.Ytpbhoomhcdljoaa.FnExactProcAtW
