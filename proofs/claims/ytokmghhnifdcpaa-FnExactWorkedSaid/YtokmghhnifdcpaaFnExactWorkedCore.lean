/- The law of Worked out of two contracts, walked. Conditions: the arguments read as a term and two lists; both sides answer as the rule says. -/
import Derived.Test.YtokmghhnifdcpaaTermSize
import Derived.Test.YtokmghhnifdcpaaTermTo
import Derived.Test.YtokmghhnifdcpaaTermEq
import Derived.Test.YtokmghhnifdcpaaListCalls
import Derived.Deep.DeepCutAuto
namespace Go.Proofs.Ytokmghhnifdcpaa.FnExactWorkedW
open Go.RowKit Own Trm
set_option maxHeartbeats 1600000 in
theorem core (t : Tree) (ns : List ByteArray) (vs : List Int) (vt nv vv : Value) (w : World) (n : Int) (hlt : Lies w t vt) (hn : StrsAt w ns nv) (hns : ∀ s, s ∈ ns → s.size ≤ 9223372036854775807) (hv : IntsAt w vs vv)
    (hz : szT t + (ns.length + szB ns) ≤ 1048576) (hvl : vs.length ≤ 1048576)
    (c1 : ∀ v x y w, Lies w t v → StrsAt w ns x → IntsAt w vs y → Calls Try.prog 15 #[v, x, y] w fun e w' => e = .returned (.int .i64 n) ∧ Below w.heap.size w w')
    (c2 : ∀ v x y w, Lies w t v → StrsAt w ns x → IntsAt w vs y → Calls Try.prog 11 #[v, x, y] w fun e w' => e = .returned (.int .i64 n) ∧ Below w.heap.size w w') :
    Calls Try.prog 6 #[vt, nv, vv] w fun e w' => e = .returned (.bool true) ∧ Below w.heap.size w w' := by
  have C1 := Lib.hid c1
  have C2 := Lib.hid c2
  have CS := Lib.hid (fun w hk => szTerm_any t vt w 1048576 (by omega) (hlt.keep hk))
  have CN := Lib.hid (fun w hk => szStrings_any ns nv w (1048576 - szT t) (by omega) (hn.keep hk) hns)
  have CT := Lib.hid (fun W x => to_at t vt w W x hlt (by omega))
  have CA := Lib.hid (fun w hk => toStrings_any ns nv w (hn.keep hk) (by omega))
  have CB := Lib.hid (fun w hk => toInts_any vs vv w (hv.keep hk) hvl)
  have CE := Lib.hid (eqTerm_any t)
  have HZ := Lib.hid (leftR_yes (a := 1048576) (n := szT t) (by omega))
  have HZ2 := Lib.hid (leftR_yes (a := 1048576 - szT t) (n := ns.length + szB ns) (by omega))
  have HVI : Hid (∀ x, x ∈ vs → InI x) := by obtain ⟨_, _, _, _, h, _⟩ := hv; exact h
  obtain ⟨_, _, _, _, aa, cap, rfl, _⟩ := hlt.parts
  obtain ⟨na, nc, rfl, hn1, _⟩ := hn
  obtain ⟨va, vc, rfl, hv1, _, _⟩ := hv
  have hz2 : 0 ≤ ((1048576 - szT t : Nat) : Int) := by omega
  have hz3 : 0 ≤ ((1048576 - szT t - (ns.length + szB ns) : Nat) : Int) := by omega
  clear c1 c2 hlt hz hns
  have X0 := Lib.hid (Box4.new w (.int .i64 t.kind) (.int .i64 t.num) (.string t.name) (.slice aa t.kids.length cap) 39)
  obtain ⟨W, hW⟩ : ∃ W, W = w.alloc (.cells #[.int .i64 t.kind, .int .i64 t.num, .string t.name, .slice aa t.kids.length cap] 39) := ⟨_, rfl⟩
  rw [← hW] at X0
  have kW : Keeps w W := by rw [hW]; exact keeps_alloc _ _
  have BW : Below w.heap.size w W := by rw [hW]; exact (Below.refl _ _).alloc (Nat.le_refl _) _
  have HW := Lib.hid hW
  clear hW
  go_enter Try.func6, Try.ntmps6
  go_wp2_with fail
  rw [← HW.out]
  refine (CS.out _ kW).mono ?_
  rintro e w1 ⟨rfl, hb⟩
  rw [HZ.out]
  have k1 : Keeps W w1 := keeps_below hb
  have B1 := BW.trans (hb.mono BW.size)
  clear hb
  go_wp2_with fail
  refine (CN.out _ (kW.trans k1)).mono ?_
  rintro e w2 ⟨rfl, rfl⟩
  rw [HZ2.out]
  obtain ⟨p0, p1, p2, p3⟩ := X0.out.keep k1
  go_wp2_with fail
  refine (CT.out W _ kW k1 B1).mono ?_
  rintro e w3 ⟨v3, rfl, l3, _, k3, B3⟩
  clear p0 p1 p2 p3 k1 B1
  go_wp2_with fail
  refine (CA.out _ (kW.trans k3)).mono ?_
  rintro e w4 ⟨v4, rfl, o4, hb4⟩
  have k4 := k3.trans (keeps_below hb4)
  have B4 := B3.trans (hb4.mono B3.size)
  have l4 := l3.keep (keeps_below hb4)
  have s4 := strs_of_row o4
  clear hb4 k3 B3 l3 o4
  go_wp2_with fail
  refine (CB.out _ (kW.trans k4)).mono ?_
  rintro e w5 ⟨v5, rfl, o5, hb5⟩
  have k5 := k4.trans (keeps_below hb5)
  have B5 := B4.trans (hb5.mono B4.size)
  have l5 := l4.keep (keeps_below hb5)
  have s5 := s4.keep (keeps_below hb5)
  have i5 := ints_of_row o5 HVI.out
  clear hb5 k4 B4 l4 s4 o5
  go_wp2_with fail
  refine (C1.out _ _ _ _ l5 s5 i5).mono ?_
  rintro e w6 ⟨rfl, hb6⟩
  have k6 := k5.trans (keeps_below hb6)
  have B6 := B5.trans (hb6.mono B5.size)
  clear hb6 k5 B5 l5 s5 i5
  obtain ⟨p0, p1, p2, p3⟩ := X0.out.keep k6
  go_wp2_with fail
  refine (CT.out W _ kW k6 B6).mono ?_
  rintro e w7 ⟨v7, rfl, l7, _, k7, B7⟩
  obtain ⟨xa, xc, rfl⟩ := l7.shape
  have X7 := Lib.hid (Box4.new w7 (.int .i64 t.kind) (.int .i64 t.num) (.string t.name) (.slice xa t.kids.length xc) 26)
  have L7 := Lib.hid (l7.keep (keeps_alloc w7 (.cells #[.int .i64 t.kind, .int .i64 t.num, .string t.name, .slice xa t.kids.length xc] 26)))
  have K7 := Lib.hid (k7.trans (keeps_alloc w7 (.cells #[.int .i64 t.kind, .int .i64 t.num, .string t.name, .slice xa t.kids.length xc] 26)))
  have D7 := Lib.hid (B7.alloc B7.size (.cells #[.int .i64 t.kind, .int .i64 t.num, .string t.name, .slice xa t.kids.length xc] 26))
  clear p0 p1 p2 p3 k6 B6 l7 k7 B7
  go_wp2_with fail
  refine (CA.out _ (kW.trans K7.out)).mono ?_
  rintro e w8 ⟨v8, rfl, o8, hb8⟩
  have k8 := keeps_below hb8
  have B8 := D7.out.trans (hb8.mono D7.out.size)
  have s8 := strs_of_row o8
  clear hb8 o8
  go_wp2_with fail
  refine (CB.out _ (kW.trans (K7.out.trans k8))).mono ?_
  rintro e w9 ⟨v9, rfl, o9, hb9⟩
  have k9 := k8.trans (keeps_below hb9)
  have B9 := B8.trans (hb9.mono B8.size)
  have s9 := s8.keep (keeps_below hb9)
  have i9 := ints_of_row o9 HVI.out
  obtain ⟨p0, p1, p2, p3⟩ := X7.out.keep k9
  clear hb9 o9 k8 B8 s8
  go_wp2_with fail
  refine (C2.out _ _ _ _ (L7.out.keep k9) s9 i9).mono ?_
  rintro e w10 ⟨rfl, hb10⟩
  have X10 := Lib.hid (X7.out.keep (k9.trans (keeps_below hb10)))
  have L10 := Lib.hid (L7.out.keep (k9.trans (keeps_below hb10)))
  have K10 := Lib.hid (K7.out.trans (k9.trans (keeps_below hb10)))
  have D10 := Lib.hid (B9.trans (hb10.mono B9.size))
  have S10 := Lib.hid (s9.keep (keeps_below hb10))
  have I10 := Lib.hid (i9.keep (keeps_below hb10))
  clear p0 p1 p2 p3 k9 B9 s9 i9 hb10
  go_wp2_with fail
  go_cut [50] (fun s50 wx => s50 = .bool false ∧ Keeps w10 wx ∧ Below w.heap.size w wx)
  case first =>
    obtain ⟨p0, p1, p2, p3⟩ := X10.out
    obtain ⟨q0, q1, q2, q3⟩ := X0.out.keep K10.out
    have k13 : Keeps W w10.drew := K10.out.trans (keeps_drew _)
    have B13 : Below w.heap.size w w10.drew := D10.out.drew
    have l13 : Lies w10.drew t _ := L10.out.keep (keeps_drew _)
    go_region_with (first
      | (go_at_call 21; (with_reducible refine (CT.out W _ kW (by assumption) (by assumption)).mono ?_); rintro e w14 ⟨v14, rfl, l14, h14, k14, B14⟩; obtain ⟨r0, r1, r2, r3⟩ := (X10.out.keep (keeps_drew _)).keep h14)
      | (go_at_call 22; refine (CE.out _ _ _ (l13.keep h14) l14).mono ?_; rintro e w15 ⟨rfl, hb⟩))
    all_goals
      go_wp2_with fail
      go_meet
      exact ⟨rfl, (keeps_drew _).trans (h14.trans (keeps_below hb)), B14.trans (hb.mono B14.size)⟩
  case rest =>
    obtain ⟨rfl, k15, B15⟩ := hcut
    have kk : Keeps w wc := (kW.trans K10.out).trans k15
    go_wp2_with fail
    refine (CA.out _ kk).mono ?_
    rintro e w16 ⟨v16, rfl, o16, hb16⟩
    have B16 := B15.trans (hb16.mono B15.size)
    have k16 := keeps_below hb16
    have s16 := strs_of_row o16
    clear hb16 o16 B15
    go_wp2_with fail
    refine (eqStrs_at _ _ ns _ (S10.out.keep (k15.trans k16)) s16).mono ?_
    rintro e w17 ⟨rfl, hb17⟩
    have B17 := B16.trans (hb17.mono B16.size)
    have k17 := k16.trans (keeps_below hb17)
    clear hb17 s16 B16 k16
    go_wp2_with fail
    refine (CB.out _ (kk.trans k17)).mono ?_
    rintro e w18 ⟨v18, rfl, o18, hb18⟩
    have B18 := B17.trans (hb18.mono B17.size)
    have k18 := k17.trans (keeps_below hb18)
    have i18 := ints_of_row o18 HVI.out
    clear hb18 o18 B17 k17
    go_wp2_with fail
    refine (eqInts_at _ _ vs _ (I10.out.keep (k15.trans k18)) i18).mono ?_
    rintro e w19 ⟨rfl, hb19⟩
    have B19 := B18.trans (hb19.mono B18.size)
    clear hb19 i18 B18
    go_wp2_with fail
    go_ret
    exact ⟨rfl, B19⟩
end Go.Proofs.Ytokmghhnifdcpaa.FnExactWorkedW
