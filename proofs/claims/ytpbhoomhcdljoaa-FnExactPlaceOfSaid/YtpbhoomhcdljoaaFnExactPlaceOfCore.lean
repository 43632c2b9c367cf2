/- The law of PlaceOf out of two contracts, walked. Conditions: the arguments read; both sides answer the same. -/
import Derived.Test.YtpbhoomhcdljoaaListCalls
namespace Go.Proofs.Ytpbhoomhcdljoaa.FnExactPlaceOfW
open Go.RowKit Own Trm
set_option maxHeartbeats 800000 in
theorem core (ns : List ByteArray) (s : ByteArray) (v : Value) (w : World) (n : Int) (hl : StrsAt w ns v) (hs : ∀ t, t ∈ ns → t.size ≤ 9223372036854775807) (hz : ns.length + szB ns ≤ 1048576) (hm : s.size ≤ 1048576)
    (c1 : ∀ v w, StrsAt w ns v → Calls Try.prog 17 #[v, .string s] w fun e w' => e = .returned (.int .i64 n) ∧ w = w')
    (c2 : ∀ v w, StrsAt w ns v → Calls Try.prog 19 #[v, .string s] w fun e w' => e = .returned (.int .i64 n) ∧ w = w') :
    Calls Try.prog 6 #[v, .string s] w fun e w' => e = .returned (.bool true) ∧ Below w.heap.size w w' := by
  have C1 := Lib.hid c1
  have C2 := Lib.hid c2
  have CS := Lib.hid (szStrings_any ns v w 1048576 (by omega) hl hs)
  have CT := Lib.hid (fun y hk => toStrings_any ns v y (hl.keep hk) (by omega))
  have HZ := Lib.hid (leftR_yes hz)
  have hz2 : 0 ≤ ((1048576 - (ns.length + szB ns) : Nat) : Int) := by omega
  obtain ⟨aa, cap, rfl, _, _⟩ := hl
  clear c1 c2 hz hs
  go_enter Try.func6, Try.ntmps6
  go_wp2_with fail
  refine CS.out.mono ?_
  rintro e w1 ⟨rfl, rfl⟩
  rw [HZ.out]
  go_wp2_with fail
  refine (CT.out _ (fun _ _ h => h)).mono ?_
  rintro e w2 ⟨v2, rfl, ho, hb⟩
  have L2 := Lib.hid (strs_of_row ho)
  obtain ⟨a2, k2, rfl, _, _⟩ := L2.out
  have B2 := Lib.hid hb
  clear ho hb
  go_wp2_with fail
  refine (C1.out _ _ L2.out).mono ?_
  rintro e w3 ⟨rfl, rfl⟩
  go_wp2_with fail
  refine (CT.out _ (keeps_below B2.out)).mono ?_
  rintro e w4 ⟨v4, rfl, ho, hb⟩
  have L4 := Lib.hid (strs_of_row ho)
  obtain ⟨a4, k4, rfl, _, _⟩ := L4.out
  have B4 := Lib.hid (B2.out.trans (hb.mono B2.out.size))
  clear ho hb
  go_wp2_with fail
  refine (C2.out _ _ L4.out).mono ?_
  rintro e w5 ⟨rfl, rfl⟩
  go_wp2_with fail
  refine (CT.out _ (keeps_below B4.out)).mono ?_
  rintro e w6 ⟨v6, rfl, ho, hb⟩
  have L6 := Lib.hid (strs_of_row ho)
  obtain ⟨a6, k6, rfl, _, _⟩ := L6.out
  have M6 := Lib.hid (L4.out.keep (keeps_below hb))
  have B6 := Lib.hid (B4.out.trans (hb.mono B4.out.size))
  clear ho hb
  go_wp2_with fail
  refine (eqStrs_at _ _ ns _ M6.out L6.out).mono ?_
  rintro e w7 ⟨rfl, hb⟩
  have B7 := Lib.hid (B6.out.trans (hb.mono B6.out.size))
  clear hb
  go_wp2
  go_ret
  exact ⟨rfl, B7.out⟩
theorem big (ns : List ByteArray) (s : ByteArray) (v : Value) (w : World) (hl : StrsAt w ns v) (hs : ∀ t, t ∈ ns → t.size ≤ 9223372036854775807) (hm : s.size ≤ 9223372036854775807) (hz : 1048576 < ns.length + szB ns ∨ 1048576 < s.size) :
    Calls Try.prog 6 #[v, .string s] w fun e w' => e = .returned (.bool true) ∧ Below w.heap.size w w' := by
  have CS := Lib.hid (szStrings_any ns v w 1048576 (by omega) hl hs)
  obtain ⟨aa, cap, rfl, _, _⟩ := hl
  clear hs
  by_cases h1 : s.size ≤ 1048576
  · have HZ := Lib.hid (leftR_no (a := 1048576) (n := ns.length + szB ns) (by omega))
    clear hz
    go_enter Try.func6, Try.ntmps6
    go_wp2_with fail
    refine CS.out.mono ?_
    rintro e w1 ⟨rfl, rfl⟩
    rw [HZ.out]
    go_wp2
    go_ret
    exact ⟨rfl, Below.refl _ _⟩
  · clear hz
    go_enter Try.func6, Try.ntmps6
    go_wp2
    go_ret
    exact ⟨rfl, Below.refl _ _⟩
end Go.Proofs.Ytpbhoomhcdljoaa.FnExactPlaceOfW
