/- The law of CountIn out of two contracts, walked. Conditions: the argument reads as a list of statements; both sides answer the same. -/
import Derived.Test.YtegcebjfcmcgmaaSSize
import Derived.Test.YtegcebjfcmcgmaaSToOne
import Derived.Test.YtegcebjfcmcgmaaSEq
namespace Go.Proofs.Ytegcebjfcmcgmaa.FnExactCountInW
open Go.RowKit Own Trm
set_option maxHeartbeats 800000 in
theorem core (xs : List STree) (v : Value) (w : World) (n : Int) (hl : SListAt w v xs) (hz : xs.length + szXS xs ≤ 1048576)
    (c1 : ∀ v w, SListAt w v xs → Calls Try.prog 34 #[v] w fun e w' => e = .returned (.int .i64 n) ∧ Below w.heap.size w w')
    (c2 : ∀ v w l1 h1, SOwnsK w l1 h1 xs v → Calls Try.prog 35 #[v] w fun e w' => e = .returned (.int .i64 n) ∧ Below w.heap.size w w') :
    Calls Try.prog 7 #[v] w fun e w' => e = .returned (.bool true) ∧ Below w.heap.size w w' := by
  have C1 := Lib.hid c1
  have C2 := Lib.hid c2
  have CS := Lib.hid (szXS_any xs (fun x _ => szStmt_any x) v w 1048576 (by omega) hl)
  have CT := Lib.hid (fun y hk => toXS_any xs (fun x _ => toStmt_any x) v y hz (hl.keep hk))
  have CE := Lib.hid (eqXS_any xs (fun x _ => eqStmt_any x))
  have HZ := Lib.hid (leftR_yes hz)
  have hz2 : 0 ≤ ((1048576 - (xs.length + szXS xs) : Nat) : Int) := by omega
  obtain ⟨_, aa, cap, rfl, _⟩ := hl
  clear c1 c2 hz
  go_enter Try.func7, Try.ntmps7
  go_wp2_with fail
  refine CS.out.mono ?_
  rintro e w1 ⟨rfl, hb⟩
  rw [HZ.out]
  have B1 := Lib.hid hb
  clear hb
  go_wp2_with fail
  refine (CT.out _ (keeps_below B1.out)).mono ?_
  rintro e w2 ⟨v2, rfl, ho, hb⟩
  have L2 := Lib.hid ho.list
  obtain ⟨_, a2, k2, rfl, _⟩ := ho.list
  have B2 := Lib.hid (B1.out.trans (hb.mono B1.out.size))
  clear ho hb
  go_wp2_with fail
  refine (C1.out _ _ L2.out).mono ?_
  rintro e w3 ⟨rfl, hb⟩
  have B3 := Lib.hid (B2.out.trans (hb.mono B2.out.size))
  clear hb
  go_wp2_with fail
  refine (CT.out _ (keeps_below B3.out)).mono ?_
  rintro e w4 ⟨v4, rfl, ho, hb⟩
  have L4 := Lib.hid ho.list
  have O4 := Lib.hid ho
  obtain ⟨_, a4, k4, rfl, _⟩ := ho.list
  have B4 := Lib.hid (B3.out.trans (hb.mono B3.out.size))
  clear ho hb
  go_wp2_with fail
  refine (C2.out _ _ _ _ O4.out).mono ?_
  rintro e w5 ⟨rfl, hb⟩
  have L5 := Lib.hid (L4.out.keep (keeps_below hb))
  have B5 := Lib.hid (B4.out.trans (hb.mono B4.out.size))
  clear hb
  go_wp2_with fail
  refine (CT.out _ (keeps_below B5.out)).mono ?_
  rintro e w6 ⟨v6, rfl, ho, hb⟩
  have L6 := Lib.hid ho.list
  obtain ⟨_, a6, k6, rfl, _⟩ := ho.list
  have M6 := Lib.hid (L5.out.keep (keeps_below hb))
  have B6 := Lib.hid (B5.out.trans (hb.mono B5.out.size))
  clear ho hb
  go_wp2_with fail
  refine (CE.out _ _ _ M6.out L6.out).mono ?_
  rintro e w7 ⟨rfl, hb⟩
  have B7 := Lib.hid (B6.out.trans (hb.mono B6.out.size))
  clear hb
  go_wp2
  go_ret
  exact ⟨rfl, B7.out⟩
theorem big_arg (xs : List STree) (v : Value) (w : World) (hl : SListAt w v xs) (hz : 1048576 < xs.length + szXS xs) :
    Calls Try.prog 7 #[v] w fun e w' => e = .returned (.bool true) ∧ Below w.heap.size w w' := by
  have CS := Lib.hid (szXS_any xs (fun x _ => szStmt_any x) v w 1048576 (by omega) hl)
  have HZ := Lib.hid (leftR_no hz)
  obtain ⟨_, aa, cap, rfl, _⟩ := hl
  clear hz
  go_enter Try.func7, Try.ntmps7
  go_wp2_with fail
  refine CS.out.mono ?_
  rintro e w1 ⟨rfl, hb⟩
  rw [HZ.out]
  have B1 := Lib.hid hb
  clear hb
  go_wp2
  go_ret
  exact ⟨rfl, B1.out⟩
end Go.Proofs.Ytegcebjfcmcgmaa.FnExactCountInW
