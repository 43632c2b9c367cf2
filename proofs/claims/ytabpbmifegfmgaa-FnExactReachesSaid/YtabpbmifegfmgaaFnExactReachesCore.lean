/- The law of Reaches out of two contracts, walked. Conditions: the arguments read; both sides answer the same. -/
import Derived.Test.YtabpbmifegfmgaaArcs
namespace Go.Proofs.Ytabpbmifegfmgaa.FnExactReachesW
open Go.RowKit Own Trm
set_option maxHeartbeats 1600000 in
theorem core (n a b0 : Int) (es : List (Int × Int)) (v : Value) (w : World) (b : Bool) (hl : ArcsAt w es v) (hz : es.length ≤ 1048576)
    (c1 : ∀ v w, ArcsAt w es v → Calls Try.prog 22 #[.int .i64 n, v, .int .i64 a, .int .i64 b0] w fun e w' => e = .returned (.bool b) ∧ Below w.heap.size w w')
    (c2 : ∀ v w, ArcsAt w es v → Calls Try.prog 15 #[.int .i64 n, v, .int .i64 a, .int .i64 b0] w fun e w' => e = .returned (.bool b) ∧ Below w.heap.size w w') :
    Calls Try.prog 5 #[.int .i64 n, v, .int .i64 a, .int .i64 b0] w fun e w' => e = .returned (.bool true) ∧ Below w.heap.size w w' := by
  have C1 := Lib.hid c1
  have C2 := Lib.hid c2
  have CS := Lib.hid (szArcs_any es v w 1048576 (by omega) hl)
  have CT := Lib.hid (fun y hk => toArcs_any es v y (hl.keep hk) hz)
  have HZ := Lib.hid (leftR_yes hz)
  have hz2 : 0 ≤ ((1048576 - es.length : Nat) : Int) := by omega
  obtain ⟨aa, cap, rfl, _, hin, _⟩ := hl
  have HIN := Lib.hid hin
  clear c1 c2 hz hin
  go_enter Try.func5, Try.ntmps5
  go_wp2_with fail
  refine CS.out.mono ?_
  rintro e w1 ⟨rfl, rfl⟩
  rw [HZ.out]
  go_wp2_with fail
  refine (CT.out _ (fun _ _ h => h)).mono ?_
  rintro e w2 ⟨v2, rfl, ho, hb⟩
  have L2 := Lib.hid (arcs_of_row ho HIN.out)
  obtain ⟨a2, k2, rfl, _, _⟩ := L2.out
  have B2 := Lib.hid hb
  clear ho hb
  go_wp2_with fail
  refine (C1.out _ _ L2.out).mono ?_
  rintro e w3 ⟨rfl, hb⟩
  have B3 := Lib.hid (B2.out.trans (hb.mono B2.out.size))
  clear hb
  go_wp2_with fail
  refine (CT.out _ (keeps_below B3.out)).mono ?_
  rintro e w4 ⟨v4, rfl, ho, hb⟩
  have L4 := Lib.hid (arcs_of_row ho HIN.out)
  obtain ⟨a4, k4, rfl, _, _⟩ := L4.out
  have B4 := Lib.hid (B3.out.trans (hb.mono B3.out.size))
  clear ho hb
  go_wp2_with fail
  refine (C2.out _ _ L4.out).mono ?_
  rintro e w5 ⟨rfl, hb⟩
  have L5 := Lib.hid (L4.out.keep (keeps_below hb))
  have B5 := Lib.hid (B4.out.trans (hb.mono B4.out.size))
  clear hb
  go_wp2_with fail
  refine (CT.out _ (keeps_below B5.out)).mono ?_
  rintro e w6 ⟨v6, rfl, ho, hb⟩
  have L6 := Lib.hid (arcs_of_row ho HIN.out)
  obtain ⟨a6, k6, rfl, _, _⟩ := L6.out
  have M6 := Lib.hid (L5.out.keep (keeps_below hb))
  have B6 := Lib.hid (B5.out.trans (hb.mono B5.out.size))
  clear ho hb
  go_wp2_with fail
  refine (eqArcs_any es _ _ _ M6.out L6.out).mono ?_
  rintro e w7 ⟨rfl, hb⟩
  have B7 := Lib.hid (B6.out.trans (hb.mono B6.out.size))
  clear hb
  go_wp2
  go_ret
  exact ⟨rfl, B7.out⟩
theorem big (n a b0 : Int) (es : List (Int × Int)) (v : Value) (w : World) (hl : ArcsAt w es v) (hz : 1048576 < es.length) :
    Calls Try.prog 5 #[.int .i64 n, v, .int .i64 a, .int .i64 b0] w fun e w' => e = .returned (.bool true) ∧ Below w.heap.size w w' := by
  have CS := Lib.hid (szArcs_any es v w 1048576 (by omega) hl)
  have HZ := Lib.hid (leftR_no (a := 1048576) (n := es.length) (by omega))
  obtain ⟨aa, cap, rfl, _, _⟩ := hl
  clear hz
  go_enter Try.func5, Try.ntmps5
  go_wp2_with fail
  refine CS.out.mono ?_
  rintro e w1 ⟨rfl, rfl⟩
  rw [HZ.out]
  go_wp2
  go_ret
  exact ⟨rfl, Below.refl _ _⟩
end Go.Proofs.Ytabpbmifegfmgaa.FnExactReachesW
