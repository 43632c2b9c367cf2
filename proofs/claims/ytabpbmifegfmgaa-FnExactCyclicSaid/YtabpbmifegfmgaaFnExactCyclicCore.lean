/- The law of Cyclic out of two contracts, walked. Conditions: the arguments read; both sides answer the same. -/
import Derived.Test.YtabpbmifegfmgaaArcs
import Derived.Test.YtabpbmifegfmgaaIntToEq
namespace Go.Proofs.Ytabpbmifegfmgaa.FnExactCyclicW
open Go.RowKit Own Trm
set_option maxHeartbeats 1600000 in
theorem core (n : Int) (es : List (Int × Int)) (ps : List Int) (v pv : Value) (w : World) (b : Bool) (hl : ArcsAt w es v) (hp : IntsAt w ps pv) (hz : es.length ≤ 1048576) (hpz : ps.length ≤ 1048576)
    (c1 : ∀ v pv w, ArcsAt w es v → IntsAt w ps pv → Calls Try.prog 30 #[.int .i64 n, v, pv] w fun e w' => e = .returned (.bool b) ∧ Below w.heap.size w w')
    (c2 : ∀ v pv w, ArcsAt w es v → IntsAt w ps pv → Calls Try.prog 17 #[.int .i64 n, v, pv] w fun e w' => e = .returned (.bool b) ∧ Below w.heap.size w w') :
    Calls Try.prog 8 #[.int .i64 n, v, pv] w fun e w' => e = .returned (.bool true) ∧ Below w.heap.size w w' := by
  have C1 := Lib.hid c1
  have C2 := Lib.hid c2
  have CS := Lib.hid (szArcs_any es v w 1048576 (by omega) hl)
  have CT := Lib.hid (fun y hk => toArcs_any es v y (hl.keep hk) hz)
  have CP := Lib.hid (fun y hk => toInts_any ps pv y (hp.keep hk) hpz)
  have HZ := Lib.hid (leftR_yes hz)
  have hz2 : 0 ≤ ((1048576 - es.length : Nat) : Int) := by omega
  obtain ⟨aa, cap, rfl, _, hin, _⟩ := hl
  obtain ⟨pa, pc, rfl, _, hpin, _⟩ := hp
  have HIN := Lib.hid hin
  have HPIN := Lib.hid hpin
  clear c1 c2 hz hin hpin
  go_enter Try.func8, Try.ntmps8
  go_wp2_with fail
  refine CS.out.mono ?_
  rintro e w1 ⟨rfl, rfl⟩
  rw [HZ.out]
  go_wp2_with fail
  refine (CT.out _ (fun _ _ h => h)).mono ?_
  rintro e w2 ⟨v2, rfl, ho, hb⟩
  have L2 := Lib.hid (arcs_of_row ho HIN.out)
  obtain ⟨a2, k2, rfl, _, _⟩ := L2.out
  have B2 := Lib.hid hb
  clear ho hb
  go_wp2_with fail
  refine (CP.out _ (keeps_below B2.out)).mono ?_
  rintro e w3 ⟨p3, rfl, ho, hb⟩
  have P3 := Lib.hid (ints_of_row ho HPIN.out)
  obtain ⟨pa3, pc3, rfl, _, _⟩ := P3.out
  have L3 := Lib.hid (L2.out.keep (keeps_below hb))
  have B3 := Lib.hid (B2.out.trans (hb.mono B2.out.size))
  clear ho hb
  go_wp2_with fail
  refine (C1.out _ _ _ L3.out P3.out).mono ?_
  rintro e w4 ⟨rfl, hb⟩
  have B4 := Lib.hid (B3.out.trans (hb.mono B3.out.size))
  clear hb
  go_wp2_with fail
  refine (CT.out _ (keeps_below B4.out)).mono ?_
  rintro e w5 ⟨v5, rfl, ho, hb⟩
  have L5 := Lib.hid (arcs_of_row ho HIN.out)
  obtain ⟨a5, k5, rfl, _, _⟩ := L5.out
  have B5 := Lib.hid (B4.out.trans (hb.mono B4.out.size))
  clear ho hb
  go_wp2_with fail
  refine (CP.out _ (keeps_below B5.out)).mono ?_
  rintro e w6 ⟨p6, rfl, ho, hb⟩
  have P6 := Lib.hid (ints_of_row ho HPIN.out)
  obtain ⟨pa6, pc6, rfl, _, _⟩ := P6.out
  have L6 := Lib.hid (L5.out.keep (keeps_below hb))
  have B6 := Lib.hid (B5.out.trans (hb.mono B5.out.size))
  clear ho hb
  go_wp2_with fail
  refine (C2.out _ _ _ L6.out P6.out).mono ?_
  rintro e w7 ⟨rfl, hb⟩
  have L7 := Lib.hid (L6.out.keep (keeps_below hb))
  have P7 := Lib.hid (P6.out.keep (keeps_below hb))
  have B7 := Lib.hid (B6.out.trans (hb.mono B6.out.size))
  clear hb
  go_wp2_with fail
  refine (CT.out _ (keeps_below B7.out)).mono ?_
  rintro e w8 ⟨v8, rfl, ho, hb⟩
  have L8 := Lib.hid (arcs_of_row ho HIN.out)
  obtain ⟨a8, k8, rfl, _, _⟩ := L8.out
  have M8 := Lib.hid (L7.out.keep (keeps_below hb))
  have P8 := Lib.hid (P7.out.keep (keeps_below hb))
  have B8 := Lib.hid (B7.out.trans (hb.mono B7.out.size))
  clear ho hb
  go_wp2_with fail
  refine (eqArcs_any es _ _ _ M8.out L8.out).mono ?_
  rintro e w9 ⟨rfl, hb⟩
  have P9 := Lib.hid (P8.out.keep (keeps_below hb))
  have B9 := Lib.hid (B8.out.trans (hb.mono B8.out.size))
  clear hb
  go_wp2_with fail
  refine (CP.out _ (keeps_below B9.out)).mono ?_
  rintro e wa ⟨pA, rfl, ho, hb⟩
  have PA := Lib.hid (ints_of_row ho HPIN.out)
  obtain ⟨paA, pcA, rfl, _, _⟩ := PA.out
  have MA := Lib.hid (P9.out.keep (keeps_below hb))
  have BA := Lib.hid (B9.out.trans (hb.mono B9.out.size))
  clear ho hb
  go_wp2_with fail
  refine (eqInts_at _ _ ps _ MA.out PA.out).mono ?_
  rintro e wb ⟨rfl, hb⟩
  have BB := Lib.hid (BA.out.trans (hb.mono BA.out.size))
  clear hb
  go_wp2
  go_ret
  exact ⟨rfl, BB.out⟩
theorem big (n : Int) (es : List (Int × Int)) (ps : List Int) (v pv : Value) (w : World) (hl : ArcsAt w es v) (hp : IntsAt w ps pv) (hz : 1048576 < es.length ∨ 1048576 < ps.length) :
    Calls Try.prog 8 #[.int .i64 n, v, pv] w fun e w' => e = .returned (.bool true) ∧ Below w.heap.size w w' := by
  have CS := Lib.hid (szArcs_any es v w 1048576 (by omega) hl)
  obtain ⟨aa, cap, rfl, _, _⟩ := hl
  obtain ⟨pa, pc, rfl, _, _⟩ := hp
  by_cases h1 : ps.length ≤ 1048576
  · have HZ := Lib.hid (leftR_no (a := 1048576) (n := es.length) (by omega))
    clear hz
    go_enter Try.func8, Try.ntmps8
    go_wp2_with fail
    refine CS.out.mono ?_
    rintro e w1 ⟨rfl, rfl⟩
    rw [HZ.out]
    go_wp2
    go_ret
    exact ⟨rfl, Below.refl _ _⟩
  · clear hz
    go_enter Try.func8, Try.ntmps8
    go_wp2
    go_ret
    exact ⟨rfl, Below.refl _ _⟩
end Go.Proofs.Ytabpbmifegfmgaa.FnExactCyclicW
