/- The law of TermText out of two contracts, walked. Conditions: the argument reads as a term; both sides answer as the rule says. -/
import Derived.Test.YtokmghhnifdcpaaDoorTextAll
import Derived.Test.YtokmghhnifdcpaaDoorTermTo
import Derived.Test.YtokmghhnifdcpaaDoorTermEq
namespace Go.Proofs.YtokmghhnifdcpaaDoor.FnExactTermTextW
open Go.RowKit Own Trm
set_option maxHeartbeats 800000 in
theorem core (t : Tree) (v : Value) (w : World) (b : ByteArray) (hp : Decimals.Pows w) (hl : Lies w t v) (hz : szT t ≤ 1048576)
    (c1 : ∀ v w, Lies w t v → Calls Tryd.prog 5 #[v] w fun e w' => e = .returned (.string b) ∧ Below w.heap.size w w')
    (c2 : ∀ v w, Lies w t v → Decimals.Pows w → Calls Tryd.prog 7 #[v] w fun e w' => e = .returned (.string b) ∧ Below w.heap.size w w') :
    Calls Tryd.prog 3 #[v] w fun e w' => e = .returned (.bool true) ∧ Below w.heap.size w w' := by
  have C1 := Lib.hid c1
  have HP := Lib.hid hp
  have C2 := Lib.hid c2
  have CS := Lib.hid (fun w hk => szTerm_any t v w 1048576 (by omega) (hl.keep hk))
  have CT := Lib.hid (fun w hk => toTerm_any t v w hz (hl.keep hk))
  have CE := Lib.hid (eqTerm_any t)
  have HZ := Lib.hid (leftR_yes hz)
  obtain ⟨_, _, _, _, aa, cap, rfl, _⟩ := hl.parts
  have hz2 : 0 ≤ ((1048576 - szT t : Nat) : Int) := by omega
  clear c1 c2 hl hz hp
  have X0 := Lib.hid (Box4.new w (.int .i64 t.kind) (.int .i64 t.num) (.string t.name) (.slice aa t.kids.length cap) 24)
  go_enter Tryd.func3, Tryd.ntmps3
  go_wp2_with fail
  refine (CS.out _ (keeps_alloc _ _)).mono ?_
  rintro e w1 ⟨rfl, hb⟩
  rw [HZ.out]
  have B1 := Lib.hid (below_box1 hb)
  have X1 := Lib.hid (X0.out.keep (keeps_below hb))
  clear hb X0
  obtain ⟨p0, p1, p2, p3⟩ := X1.out
  go_wp2_with fail
  refine (CT.out _ (keeps_below B1.out)).mono ?_
  rintro e w2 ⟨v2, rfl, ho, hb⟩
  have HO2 := Lib.hid ho
  have B2 := Lib.hid (B1.out.trans (hb.mono B1.out.size))
  have X2 := Lib.hid (X1.out.keep (keeps_below hb))
  clear ho hb p0 p1 p2 p3
  go_wp2_with fail
  refine (C1.out _ _ HO2.out.lies).mono ?_
  rintro e w3 ⟨rfl, hb⟩
  have B3 := Lib.hid (B2.out.trans (hb.mono B2.out.size))
  have X3 := Lib.hid (X2.out.keep (keeps_below hb))
  clear hb
  obtain ⟨p0, p1, p2, p3⟩ := X3.out
  go_wp2_with fail
  refine (CT.out _ (keeps_below B3.out)).mono ?_
  rintro e w4 ⟨v4, rfl, ho, hb⟩
  obtain ⟨va, vc, rfl⟩ := ho.shape
  have HO4 := Lib.hid ho
  have B4 := Lib.hid (B3.out.trans (hb.mono B3.out.size))
  have X4 := Lib.hid (X3.out.keep (keeps_below hb))
  clear ho hb p0 p1 p2 p3
  have Y4 := Lib.hid (Box4.new w4 (.int .i64 t.kind) (.int .i64 t.num) (.string t.name) (.slice va t.kids.length vc) 29)
  go_wp2_with fail
  refine (C2.out _ _ (HO4.out.lies.keep (keeps_alloc _ _)) (HP.out.below (B4.out.alloc B4.out.size _))).mono ?_
  rintro e w5 ⟨rfl, hb⟩
  have B5 := Lib.hid ((B4.out.alloc B4.out.size _).trans (hb.mono (Nat.le_trans B4.out.size (by simp))))
  have X5 := Lib.hid (X4.out.keep ((keeps_alloc _ _).trans (keeps_below hb)))
  have Y5 := Lib.hid (Y4.out.keep (keeps_below hb))
  have L5 := Lib.hid (HO4.out.lies.keep ((keeps_alloc _ _).trans (keeps_below hb)))
  clear hb
  obtain ⟨p0, p1, p2, p3⟩ := X5.out
  obtain ⟨q0, q1, q2, q3⟩ := Y5.out
  · go_wp2
    go_region_with (first
      | (go_at_call 6; refine (CT.out _ ((keeps_below B5.out).trans (keeps_drew _))).mono ?_; rintro e w7 ⟨v7, rfl, ho, hb⟩; have HO7 := Lib.hid ho; have HB7 := Lib.hid hb; have Y7 := Y5.out.keep ((keeps_drew _).trans (keeps_below hb)); clear ho hb; obtain ⟨r0, r1, r2, r3⟩ := Y7)
      | (go_at_call 8; refine (CE.out _ _ _ (L5.out.keep ((keeps_drew _).trans (keeps_below HB7.out))) HO7.out.lies).mono ?_; rintro e w8 ⟨rfl, hb⟩; have HB8 := Lib.hid hb; clear hb))
    all_goals
      go_wp2
      go_ret
      have B7 := B5.out.trans ((below_of_drew HB7.out).mono B5.out.size)
      exact ⟨rfl, B7.trans (HB8.out.mono B7.size)⟩
theorem big_arg (t : Tree) (v : Value) (w : World) (hl : Lies w t v) (hz : 1048576 < szT t) :
    Calls Tryd.prog 3 #[v] w fun e w' => e = .returned (.bool true) ∧ Below w.heap.size w w' := by
  have CS := Lib.hid (fun w hk => szTerm_any t v w 1048576 (by omega) (hl.keep hk))
  have HZ := Lib.hid (leftR_no hz)
  obtain ⟨_, _, _, _, aa, cap, rfl, _⟩ := hl.parts
  clear hl hz
  go_enter Tryd.func3, Tryd.ntmps3
  go_wp2_with fail
  refine (CS.out _ (keeps_alloc _ _)).mono ?_
  rintro e w1 ⟨rfl, hb⟩
  rw [HZ.out]
  have B1 := Lib.hid (below_box1 hb)
  clear hb
  go_wp2
  go_ret
  exact ⟨rfl, B1.out⟩
end Go.Proofs.YtokmghhnifdcpaaDoor.FnExactTermTextW
