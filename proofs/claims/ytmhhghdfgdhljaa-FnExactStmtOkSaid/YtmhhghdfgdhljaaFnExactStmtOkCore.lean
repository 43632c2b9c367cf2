/- The law of StmtOk out of two contracts, walked. Conditions: the argument reads as a statement; both sides answer the same. -/
import Derived.Test.YtmhhghdfgdhljaaSSize
import Derived.Test.YtmhhghdfgdhljaaSToOne
import Derived.Test.YtmhhghdfgdhljaaSEq
import Derived.Test.YtmhhghdfgdhljaaFreeX
import Derived.Deep.DeepCutAuto
namespace Go.Proofs.Ytmhhghdfgdhljaa.FnExactStmtOkW
open Go.RowKit Own Trm
set_option maxHeartbeats 1600000 in
theorem core (x : STree) (v : Value) (w : World) (b : Bool) (hl : SLies w x v) (hz : szX x ≤ 1048576)
    (c1 : ∀ v w, SLies w x v → Calls Try.prog 21 #[v] w fun e w' => e = .returned (.bool b) ∧ Below w.heap.size w w')
    (c2 : ∀ v w, SLies w x v → SLiesF w x v → Calls Try.prog 23 #[v] w fun e w' => e = .returned (.bool b) ∧ Below w.heap.size w w') :
    Calls Try.prog 6 #[v] w fun e w' => e = .returned (.bool true) ∧ Below w.heap.size w w' := by
  have C1 := Lib.hid c1
  have C2 := Lib.hid c2
  have CS := Lib.hid (fun w hk => szStmt_any x v w 1048576 (by omega) (hl.keep hk))
  have CT := Lib.hid (fun w hk => toStmt_any x v w hz (hl.keep hk))
  have CE := Lib.hid (eqStmt_any x)
  have HZ := Lib.hid (leftR_yes hz)
  obtain ⟨ta, tc, ba, bc, ea, ec, rfl⟩ := hl.shape
  have hz2 : 0 ≤ ((1048576 - szX x : Nat) : Int) := by omega
  clear c1 c2 hl hz
  have X0 := Lib.hid (Box8.new w (.int .i64 x.kind) (.string x.name) (.int .i64 x.term.kind) (.int .i64 x.term.num) (.string x.term.name) (.slice ta x.term.kids.length tc) (.slice ba x.body.length bc) (.slice ea x.els.length ec) 42)
  go_enter Try.func6, Try.ntmps6
  go_wp2_with fail
  refine (CS.out _ (keeps_alloc _ _)).mono ?_
  rintro e w1 ⟨rfl, hb⟩
  rw [HZ.out]
  have B1 := Lib.hid (below_box1 hb)
  have X1 := Lib.hid (X0.out.keep (keeps_below hb))
  clear hb X0
  obtain ⟨p0, p1, p2, p3, p4, p5, p6, p7⟩ := X1.out
  go_wp2_with fail
  refine (CT.out _ (keeps_below B1.out)).mono ?_
  rintro e w2 ⟨v2, rfl, ho, hb⟩
  have HO2 := Lib.hid ho
  have B2 := Lib.hid (B1.out.trans (hb.mono B1.out.size))
  have X2 := Lib.hid (X1.out.keep (keeps_below hb))
  clear ho hb p0 p1 p2 p3 p4 p5 p6 p7
  go_wp2_with fail
  refine (C1.out _ _ HO2.out.lies).mono ?_
  rintro e w3 ⟨rfl, hb⟩
  have B3 := Lib.hid (B2.out.trans (hb.mono B2.out.size))
  have X3 := Lib.hid (X2.out.keep (keeps_below hb))
  clear hb
  obtain ⟨p0, p1, p2, p3, p4, p5, p6, p7⟩ := X3.out
  go_wp2_with fail
  refine (CT.out _ (keeps_below B3.out)).mono ?_
  rintro e w4 ⟨v4, rfl, ho, hb⟩
  obtain ⟨ua, uc, da, dc, fa, fc, rfl⟩ := ho.lies.shape
  have HO4 := Lib.hid ho
  have B4 := Lib.hid (B3.out.trans (hb.mono B3.out.size))
  have X4 := Lib.hid (X3.out.keep (keeps_below hb))
  clear ho hb p0 p1 p2 p3 p4 p5 p6 p7
  have Y4 := Lib.hid (Box8.new w4 (.int .i64 x.kind) (.string x.name) (.int .i64 x.term.kind) (.int .i64 x.term.num) (.string x.term.name) (.slice ua x.term.kids.length uc) (.slice da x.body.length dc) (.slice fa x.els.length fc) 50)
  go_wp2_with fail
  refine (C2.out _ _ (HO4.out.lies.keep (keeps_alloc _ _)) (HO4.out.liesF.keep (keepF_below ((Below.refl _ _).alloc (Nat.le_refl _) _)))).mono ?_
  rintro e w5 ⟨rfl, hb⟩
  have B5 := Lib.hid ((B4.out.alloc B4.out.size _).trans (hb.mono (Nat.le_trans B4.out.size (by simp))))
  have X5 := Lib.hid (X4.out.keep ((keeps_alloc _ _).trans (keeps_below hb)))
  have Y5 := Lib.hid (Y4.out.keep (keeps_below hb))
  have L5 := Lib.hid (HO4.out.lies.keep ((keeps_alloc _ _).trans (keeps_below hb)))
  clear hb
  obtain ⟨p0, p1, p2, p3, p4, p5, p6, p7⟩ := X5.out
  obtain ⟨q0, q1, q2, q3, q4, q5, q6, q7⟩ := Y5.out
  cases b
  all_goals
    go_wp2
    go_region_with (first
      | (go_at_call 22; refine (CT.out _ ((keeps_below B5.out).trans (keeps_drew _))).mono ?_; rintro e w7 ⟨v7, rfl, ho, hb⟩; have HO7 := Lib.hid ho; have HB7 := Lib.hid hb; have Y7 := Y5.out.keep ((keeps_drew _).trans (keeps_below hb)); clear ho hb; obtain ⟨r0, r1, r2, r3, r4, r5, r6, r7⟩ := Y7)
      | (go_at_call 24; refine (CE.out _ _ _ (L5.out.keep ((keeps_drew _).trans (keeps_below HB7.out))) HO7.out.lies).mono ?_; rintro e w8 ⟨rfl, hb⟩; have HB8 := Lib.hid hb; clear hb))
    all_goals
      go_wp2
      go_ret
      have B7 := B5.out.trans ((below_of_drew HB7.out).mono B5.out.size)
      exact ⟨rfl, B7.trans (HB8.out.mono B7.size)⟩
theorem big_arg (x : STree) (v : Value) (w : World) (hl : SLies w x v) (hz : 1048576 < szX x) :
    Calls Try.prog 6 #[v] w fun e w' => e = .returned (.bool true) ∧ Below w.heap.size w w' := by
  have CS := Lib.hid (fun w hk => szStmt_any x v w 1048576 (by omega) (hl.keep hk))
  have HZ := Lib.hid (leftR_no hz)
  obtain ⟨ta, tc, ba, bc, ea, ec, rfl⟩ := hl.shape
  clear hl hz
  go_enter Try.func6, Try.ntmps6
  go_wp2_with fail
  refine (CS.out _ (keeps_alloc _ _)).mono ?_
  rintro e w1 ⟨rfl, hb⟩
  rw [HZ.out]
  have B1 := Lib.hid (below_box1 hb)
  clear hb
  go_wp2
  go_ret
  exact ⟨rfl, B1.out⟩
end Go.Proofs.Ytmhhghdfgdhljaa.FnExactStmtOkW
