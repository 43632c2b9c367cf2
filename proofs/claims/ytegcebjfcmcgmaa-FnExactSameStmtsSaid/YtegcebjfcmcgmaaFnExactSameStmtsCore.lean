/- The law of SameStmts out of two contracts, walked. Conditions: the arguments read as lists of statements; both sides answer the same. -/
import Derived.Test.YtegcebjfcmcgmaaSSize
import Derived.Test.YtegcebjfcmcgmaaSToOne
import Derived.Test.YtegcebjfcmcgmaaSEq
namespace Go.Proofs.Ytegcebjfcmcgmaa.FnExactSameStmtsW
open Go.RowKit Own Trm
set_option maxHeartbeats 800000 in
theorem core (xs ys : List STree) (v u : Value) (w : World) (b : Bool) (hl : SListAt w v xs) (hm : SListAt w u ys) (hz : (xs.length + szXS xs) + (ys.length + szXS ys) ≤ 1048576)
    (c1 : ∀ v u w, SListAt w v xs → SListAt w u ys → Calls Try.prog 30 #[v, u] w fun e w' => e = .returned (.bool b) ∧ Below w.heap.size w w')
    (c2 : ∀ v u w l1 h1 l2 h2, SOwnsK w l1 h1 xs v → SOwnsK w l2 h2 ys u → Calls Try.prog 32 #[v, u] w fun e w' => e = .returned (.bool b) ∧ Below w.heap.size w w') :
    Calls Try.prog 6 #[v, u] w fun e w' => e = .returned (.bool true) ∧ Below w.heap.size w w' := by
  have C1 := Lib.hid c1
  have C2 := Lib.hid c2
  have CS := Lib.hid (szXS_any xs (fun x _ => szStmt_any x) v w 1048576 (by omega) hl)
  have CS2 := Lib.hid (fun y hk => szXS_any ys (fun x _ => szStmt_any x) u y (1048576 - (xs.length + szXS xs)) (by omega) (hm.keep hk))
  have CT := Lib.hid (fun y hk => toXS_any xs (fun x _ => toStmt_any x) v y (by omega) (hl.keep hk))
  have CU := Lib.hid (fun y hk => toXS_any ys (fun x _ => toStmt_any x) u y (by omega) (hm.keep hk))
  have CE := Lib.hid (eqXS_any xs (fun x _ => eqStmt_any x))
  have CF := Lib.hid (eqXS_any ys (fun x _ => eqStmt_any x))
  have HZ := Lib.hid (leftR_yes (a := 1048576) (n := xs.length + szXS xs) (by omega))
  have HZ2 := Lib.hid (leftR_yes (a := 1048576 - (xs.length + szXS xs)) (n := ys.length + szXS ys) (by omega))
  have hz2 : 0 ≤ ((1048576 - (xs.length + szXS xs) : Nat) : Int) := by omega
  have hz3 : 0 ≤ ((1048576 - (xs.length + szXS xs) - (ys.length + szXS ys) : Nat) : Int) := by omega
  obtain ⟨_, aa, cap, rfl, _⟩ := hl
  obtain ⟨_, bb, dap, rfl, _⟩ := hm
  clear c1 c2 hz
  go_enter Try.func6, Try.ntmps6
  go_wp2_with fail
  refine CS.out.mono ?_
  rintro e w1 ⟨rfl, hb⟩
  rw [HZ.out]
  have B1 := Lib.hid hb
  clear hb
  go_wp2_with fail
  refine (CS2.out _ (keeps_below B1.out)).mono ?_
  rintro e w1b ⟨rfl, hb⟩
  rw [HZ2.out]
  have B1b := Lib.hid (B1.out.trans (hb.mono B1.out.size))
  clear hb
  go_wp2_with fail
  refine (CT.out _ (keeps_below B1b.out)).mono ?_
  rintro e w2 ⟨v2, rfl, ho, hb⟩
  have L2 := Lib.hid ho.list
  obtain ⟨_, a2, k2, rfl, _⟩ := ho.list
  have B2 := Lib.hid (B1b.out.trans (hb.mono B1b.out.size))
  clear ho hb
  go_wp2_with fail
  refine (CU.out _ (keeps_below B2.out)).mono ?_
  rintro e w2b ⟨u2, rfl, ho, hb⟩
  have L2b := Lib.hid (L2.out.keep (keeps_below hb))
  have N2 := Lib.hid ho.list
  obtain ⟨_, b2, m2, rfl, _⟩ := ho.list
  have B2b := Lib.hid (B2.out.trans (hb.mono B2.out.size))
  clear ho hb
  go_wp2_with fail
  refine (C1.out _ _ _ L2b.out N2.out).mono ?_
  rintro e w3 ⟨rfl, hb⟩
  have B3 := Lib.hid (B2b.out.trans (hb.mono B2b.out.size))
  clear hb
  go_wp2_with fail
  refine (CT.out _ (keeps_below B3.out)).mono ?_
  rintro e w4 ⟨v4, rfl, ho, hb⟩
  have O4 := Lib.hid ho
  obtain ⟨_, a4, k4, rfl, _⟩ := ho.list
  have B4 := Lib.hid (B3.out.trans (hb.mono B3.out.size))
  clear ho hb
  go_wp2_with fail
  refine (CU.out _ (keeps_below B4.out)).mono ?_
  rintro e w4b ⟨u4, rfl, ho, hb⟩
  have P4 := Lib.hid ho
  have O4b := Lib.hid (O4.out.same (fun q _ h => hb.block q h))
  obtain ⟨_, b4, m4, rfl, _⟩ := ho.list
  have B4b := Lib.hid (B4.out.trans (hb.mono B4.out.size))
  clear ho hb
  go_wp2_with fail
  refine (C2.out _ _ _ _ _ _ _ O4b.out P4.out).mono ?_
  rintro e w5 ⟨rfl, hb⟩
  have L5 := Lib.hid (O4b.out.list.keep (keeps_below hb))
  have N5 := Lib.hid (P4.out.list.keep (keeps_below hb))
  have B5 := Lib.hid (B4b.out.trans (hb.mono B4b.out.size))
  clear hb
  go_wp2_with fail
  refine (CT.out _ (keeps_below B5.out)).mono ?_
  rintro e w6 ⟨v6, rfl, ho, hb⟩
  have L6 := Lib.hid ho.list
  obtain ⟨_, a6, k6, rfl, _⟩ := ho.list
  have M6 := Lib.hid (L5.out.keep (keeps_below hb))
  have N6 := Lib.hid (N5.out.keep (keeps_below hb))
  have B6 := Lib.hid (B5.out.trans (hb.mono B5.out.size))
  clear ho hb
  go_wp2_with fail
  refine (CE.out _ _ _ M6.out L6.out).mono ?_
  rintro e w7 ⟨rfl, hb⟩
  have N7 := Lib.hid (N6.out.keep (keeps_below hb))
  have B7 := Lib.hid (B6.out.trans (hb.mono B6.out.size))
  clear hb
  go_wp2_with fail
  refine (CU.out _ (keeps_below B7.out)).mono ?_
  rintro e w8 ⟨u8, rfl, ho, hb⟩
  have L8 := Lib.hid ho.list
  obtain ⟨_, a8, k8, rfl, _⟩ := ho.list
  have N8 := Lib.hid (N7.out.keep (keeps_below hb))
  have B8 := Lib.hid (B7.out.trans (hb.mono B7.out.size))
  clear ho hb
  go_wp2_with fail
  refine (CF.out _ _ _ N8.out L8.out).mono ?_
  rintro e w9 ⟨rfl, hb⟩
  have B9 := Lib.hid (B8.out.trans (hb.mono B8.out.size))
  clear hb
  go_wp2
  go_ret
  exact ⟨rfl, B9.out⟩
set_option maxHeartbeats 400000 in
theorem big (xs ys : List STree) (v u : Value) (w : World) (hl : SListAt w v xs) (hm : SListAt w u ys) (hz : 1048576 < (xs.length + szXS xs) + (ys.length + szXS ys)) :
    Calls Try.prog 6 #[v, u] w fun e w' => e = .returned (.bool true) ∧ Below w.heap.size w w' := by
  have CS := Lib.hid (szXS_any xs (fun x _ => szStmt_any x) v w 1048576 (by omega) hl)
  have CS2 := Lib.hid (fun y hk => szXS_any ys (fun x _ => szStmt_any x) u y (1048576 - (xs.length + szXS xs)) (by omega) (hm.keep hk))
  obtain ⟨_, aa, cap, rfl, _⟩ := hl
  obtain ⟨_, bb, dap, rfl, _⟩ := hm
  by_cases h1 : xs.length + szXS xs ≤ 1048576
  · have HZ := Lib.hid (leftR_yes h1)
    have HZ2 := Lib.hid (leftR_no (a := 1048576 - (xs.length + szXS xs)) (n := ys.length + szXS ys) (by omega))
    have hz2 : 0 ≤ ((1048576 - (xs.length + szXS xs) : Nat) : Int) := by omega
    clear h1 hz
    go_enter Try.func6, Try.ntmps6
    go_wp2_with fail
    refine CS.out.mono ?_
    rintro e w1 ⟨rfl, hb⟩
    rw [HZ.out]
    have B1 := Lib.hid hb
    clear hb
    go_wp2_with fail
    refine (CS2.out _ (keeps_below B1.out)).mono ?_
    rintro e w1b ⟨rfl, hb⟩
    rw [HZ2.out]
    have B1b := Lib.hid (B1.out.trans (hb.mono B1.out.size))
    clear hb
    go_wp2
    go_ret
    exact ⟨rfl, B1b.out⟩
  · have HZ := Lib.hid (leftR_no (a := 1048576) (n := xs.length + szXS xs) (by omega))
    clear h1 hz
    go_enter Try.func6, Try.ntmps6
    go_wp2_with fail
    refine CS.out.mono ?_
    rintro e w1 ⟨rfl, hb⟩
    rw [HZ.out]
    have B1 := Lib.hid hb
    clear hb
    go_wp2
    go_ret
    exact ⟨rfl, B1.out⟩
end Go.Proofs.Ytegcebjfcmcgmaa.FnExactSameStmtsW
