/- The law of SameProg out of two contracts, walked. Conditions: the arguments read as programs; both sides answer the same. -/
import Derived.Test.YtpbhoomhcdljoaaPTo
import Derived.Test.YtpbhoomhcdljoaaPEq
import Derived.Deep.DeepCutAuto
namespace Go.Proofs.Ytpbhoomhcdljoaa.FnExactSameProgW
open Go.RowKit Own Trm
theorem to_at (t : PTree) (v : Value) (w W x : World) (hl : PLies w t v) (hz : szP t ≤ 1048576) (h1 : Keeps w W) (h2 : Keeps W x) (h3 : Below w.heap.size w x) :
    Calls Try.prog 9 #[v] x fun e w' => ∃ v', e = .returned v' ∧ PLies w' t v' ∧ Keeps x w' ∧ Keeps W w' ∧ Below w.heap.size w w' :=
  (toProg_any t v x hz (hl.keep (h1.trans h2))).mono fun _ _ ⟨v', he, ho, hb⟩ => ⟨v', he, ho.lies, keeps_below hb, h2.trans (keeps_below hb), h3.trans (hb.mono h3.size)⟩
theorem to_at2 (t : PTree) (v : Value) (w W x : World) (hl : PLies w t v) (hz : szP t ≤ 1048576) (h1 : Keeps w W) (h2 : Keeps W x) (h3 : Below w.heap.size w x) :
    Calls Try.prog 9 #[v] x fun e w' => ∃ v', e = .returned v' ∧ PLies w' t v' ∧ Keeps x w' ∧ Keeps W w' ∧ Below w.heap.size w w' ∧ POwn w' t v' ∧ Below x.heap.size x w' :=
  (toProg_any t v x hz (hl.keep (h1.trans h2))).mono fun _ _ ⟨v', he, ho, hb⟩ => ⟨v', he, ho.lies, keeps_below hb, h2.trans (keeps_below hb), h3.trans (hb.mono h3.size), ho, hb⟩
theorem below_alloc (w : World) (o : Obj) : Below w.heap.size w (w.alloc o) := (Below.refl _ w).alloc (Nat.le_refl _) o
set_option maxHeartbeats 1600000 in
theorem core (t u : PTree) (vt vu : Value) (w : World) (b : Bool) (hlt : PLies w t vt) (hlu : PLies w u vu) (hz : szP t + szP u ≤ 1048576)
    (c1 : ∀ v x w, PLies w t v → PLies w u x → Calls Try.prog 12 #[v, x] w fun e w' => e = .returned (.bool b) ∧ Below w.heap.size w w')
    (c2 : ∀ v x w, POwn w t v → POwn w u x → Calls Try.prog 13 #[v, x] w fun e w' => e = .returned (.bool b) ∧ Below w.heap.size w w') :
    Calls Try.prog 4 #[vt, vu] w fun e w' => e = .returned (.bool true) ∧ Below w.heap.size w w' := by
  have C1 := Lib.hid c1
  have C2 := Lib.hid c2
  have CS := Lib.hid (fun w hk => szProg_any t vt w 1048576 (by omega) (hlt.keep hk))
  have CS2 := Lib.hid (fun w hk => szProg_any u vu w (1048576 - szP t) (by omega) (hlu.keep hk))
  have CT := Lib.hid (fun W x => to_at t vt w W x hlt (by omega))
  have CU := Lib.hid (fun W x => to_at u vu w W x hlu (by omega))
  have CT2 := Lib.hid (fun W x => to_at2 t vt w W x hlt (by omega))
  have CU2 := Lib.hid (fun W x => to_at2 u vu w W x hlu (by omega))
  have CE := Lib.hid (eqProg_any t)
  have CF := Lib.hid (eqProg_any u)
  have HZ := Lib.hid (leftR_yes (a := 1048576) (n := szP t) (by omega))
  have HZ2 := Lib.hid (leftR_yes (a := 1048576 - szP t) (n := szP u) (by omega))
  obtain ⟨ga, gc, la, lc, pa, pc, rfl⟩ := hlt.shape
  obtain ⟨gb, gd, lb, ld, pb, pd, rfl⟩ := hlu.shape
  have hz2 : 0 ≤ ((1048576 - szP t : Nat) : Int) := by omega
  have hz3 : 0 ≤ ((1048576 - szP t - szP u : Nat) : Int) := by omega
  clear c1 c2 hlt hlu hz
  have X0 := Lib.hid ((Box3.new w (.slice ga t.globals.length gc) (.slice la t.locks.length lc) (.slice pa t.procs.length pc) 25).keep (keeps_alloc _ (.cells #[.slice gb u.globals.length gd, .slice lb u.locks.length ld, .slice pb u.procs.length pd] 25)))
  have Y0 := Lib.hid (Box3.new (w.alloc (.cells #[.slice ga t.globals.length gc, .slice la t.locks.length lc, .slice pa t.procs.length pc] 25)) (.slice gb u.globals.length gd) (.slice lb u.locks.length ld) (.slice pb u.procs.length pd) 25)
  have hsz0 : (w.alloc (.cells #[.slice ga t.globals.length gc, .slice la t.locks.length lc, .slice pa t.procs.length pc] 25)).heap.size = w.heap.size + 1 := by simp
  rw [hsz0] at Y0
  clear hsz0
  obtain ⟨W, hW⟩ : ∃ W, W = (w.alloc (.cells #[.slice ga t.globals.length gc, .slice la t.locks.length lc, .slice pa t.procs.length pc] 25)).alloc (.cells #[.slice gb u.globals.length gd, .slice lb u.locks.length ld, .slice pb u.procs.length pd] 25) := ⟨_, rfl⟩
  rw [← hW] at X0 Y0
  have kW : Keeps w W := by rw [hW]; exact (keeps_alloc _ _).trans (keeps_alloc _ _)
  have BW : Below w.heap.size w W := by rw [hW]; exact ((Below.refl _ _).alloc (Nat.le_refl _) _).alloc (by simp) _
  have HW := Lib.hid hW
  clear hW
  go_enter Try.func4, Try.ntmps4
  go_wp2_with fail
  rw [← HW.out]
  refine (CS.out _ kW).mono ?_
  rintro e w1 ⟨rfl, hb⟩
  rw [HZ.out]
  have k1 : Keeps W w1 := keeps_below hb
  have B1 := BW.trans (hb.mono BW.size)
  clear hb
  obtain ⟨p0, p1, p2⟩ := X0.out.keep k1
  obtain ⟨q0, q1, q2⟩ := Y0.out.keep k1
  go_wp2_with fail
  refine (CS2.out _ (kW.trans k1)).mono ?_
  rintro e w2 ⟨rfl, hb⟩
  rw [HZ2.out]
  have k2 : Keeps W w2.drew := k1.trans ((keeps_below hb).trans (keeps_drew _))
  have B2 : Below w.heap.size w w2.drew := (B1.trans (hb.mono B1.size)).drew
  clear hb p0 p1 p2 q0 q1 q2 B1
  obtain ⟨p0, p1, p2⟩ := X0.out.keep (w' := w2) k2
  obtain ⟨q0, q1, q2⟩ := Y0.out.keep (w' := w2) k2
  go_wp2_with fail
  go_cut [6] (fun s6 wx => s6 = .bool b ∧ Keeps W wx ∧ Below w.heap.size w wx)
  case first =>
    go_region_with (first
      | (go_at_call 9; (with_reducible refine (CT.out W _ kW (by assumption) (by assumption)).mono ?_); rintro e w7 ⟨v7, rfl, l7, hk, k7, B7⟩; obtain ⟨r0, r1, r2⟩ := X0.out.keep k7; obtain ⟨s0, s1, s2⟩ := Y0.out.keep k7)
      | (go_at_call 9; (with_reducible refine (CU.out W _ kW (by assumption) (by assumption)).mono ?_); rintro e w8 ⟨v8, rfl, l8, hk8, k8, B8⟩; have l7b := l7.keep hk8)
      | (go_at_call 12; refine (C1.out _ _ _ l7b l8).mono ?_; rintro e w9 ⟨rfl, hb⟩))
    all_goals
      go_wp2_with fail
      go_meet
      exact ⟨rfl, k8.trans (keeps_below hb), B8.trans (hb.mono B8.size)⟩
  case rest =>
    obtain ⟨rfl, k9, B9⟩ := hcut
    clear p0 p1 p2 q0 q1 q2 k2 B2
    obtain ⟨p0, p1, p2⟩ := X0.out.keep k9
    go_wp2_with fail
    refine (CT2.out W _ kW k9 B9).mono ?_
    rintro e w10 ⟨v10, rfl, l10, _, k10, B10, f10, _⟩
    obtain ⟨va, vb, vc, vd, ve, vf, rfl⟩ := l10.shape
    have F10 := Lib.hid f10
    clear f10
    have L10 := Lib.hid l10
    have Z10 := Lib.hid (Box3.new w10 (.slice va t.globals.length vb) (.slice vc t.locks.length vd) (.slice ve t.procs.length vf) 30)
    have K10 := Lib.hid (k10.trans (keeps_alloc w10 (.cells #[.slice va t.globals.length vb, .slice vc t.locks.length vd, .slice ve t.procs.length vf] 30)))
    have D10 := Lib.hid (B10.alloc B10.size (.cells #[.slice va t.globals.length vb, .slice vc t.locks.length vd, .slice ve t.procs.length vf] 30))
    clear p0 p1 p2 k9 B9 l10 k10 B10
    obtain ⟨q0, q1, q2⟩ := Y0.out.keep K10.out
    go_wp2_with fail
    refine (CU2.out W _ kW K10.out D10.out).mono ?_
    rintro e w11 ⟨v11, rfl, l11, h11, k11, B11, f11, g11⟩
    obtain ⟨ua, ub, uc, ud, ue, uf, rfl⟩ := l11.shape
    have F11 := Lib.hid f11
    have G11 := Lib.hid g11
    clear f11 g11
    have L11 := Lib.hid l11
    have Z11 := Lib.hid (Box3.new w11 (.slice ua u.globals.length ub) (.slice uc u.locks.length ud) (.slice ue u.procs.length uf) 30)
    have H11 := Lib.hid (h11.trans (keeps_alloc w11 (.cells #[.slice ua u.globals.length ub, .slice uc u.locks.length ud, .slice ue u.procs.length uf] 30)))
    have K11 := Lib.hid (k11.trans (keeps_alloc w11 (.cells #[.slice ua u.globals.length ub, .slice uc u.locks.length ud, .slice ue u.procs.length uf] 30)))
    have D11 := Lib.hid (B11.alloc B11.size (.cells #[.slice ua u.globals.length ub, .slice uc u.locks.length ud, .slice ue u.procs.length uf] 30))
    clear q0 q1 q2 l11 h11 k11 B11
    obtain ⟨p0, p1, p2⟩ := Z10.out.keep H11.out
    obtain ⟨q0, q1, q2⟩ := Z11.out
    go_wp2_with fail
    refine (C2.out _ _ _ (((F10.out.below (below_alloc _ _)).below G11.out).below (below_alloc _ _)) (F11.out.below (below_alloc _ _))).mono ?_
    rintro e w12 ⟨rfl, hb⟩
    have k12 := keeps_below hb
    have L12t := Lib.hid (((L10.out.keep (keeps_alloc _ _)).keep H11.out).keep k12)
    have L12u := Lib.hid ((L11.out.keep (keeps_alloc _ _)).keep k12)
    have X12 := Lib.hid (Z10.out.keep (H11.out.trans k12))
    have Y12 := Lib.hid (Z11.out.keep k12)
    have K12 := Lib.hid (K11.out.trans k12)
    have D12 := Lib.hid (D11.out.trans (hb.mono D11.out.size))
    clear p0 p1 p2 q0 q1 q2 hb k12
    go_wp2_with fail
    go_cut [39] (fun s39 wx => s39 = .bool false ∧ Keeps w12 wx ∧ Below w.heap.size w wx)
    case first =>
      obtain ⟨p0, p1, p2⟩ := X12.out
      obtain ⟨q0, q1, q2⟩ := X0.out.keep K12.out
      have k13 : Keeps W w12.drew := K12.out.trans (keeps_drew _)
      have B13 : Below w.heap.size w w12.drew := D12.out.drew
      have l13 : PLies w12.drew t _ := L12t.out.keep (keeps_drew _)
      go_region_with (first
        | (go_at_call 9; (with_reducible refine (CT.out W _ kW (by assumption) (by assumption)).mono ?_); rintro e w14 ⟨v14, rfl, l14, h14, k14, B14⟩; obtain ⟨r0, r1, r2⟩ := (X12.out.keep (keeps_drew _)).keep h14)
        | (go_at_call 11; refine (CE.out _ _ _ (l13.keep h14) l14).mono ?_; rintro e w15 ⟨rfl, hb⟩))
      all_goals
        go_wp2_with fail
        go_meet
        exact ⟨rfl, (keeps_drew _).trans (h14.trans (keeps_below hb)), B14.trans (hb.mono B14.size)⟩
    case rest =>
      obtain ⟨rfl, k15, B15⟩ := hcut
      go_wp2_with fail
      go_cut [44] (fun s44 wx => s44 = .bool false ∧ Below w.heap.size w wx)
      case first =>
        obtain ⟨p0, p1, p2⟩ := Y12.out.keep k15
        have k16 := K12.out.trans k15
        obtain ⟨q0, q1, q2⟩ := Y0.out.keep k16
        have k17 : Keeps W wc.drew := k16.trans (keeps_drew _)
        have B17 : Below w.heap.size w wc.drew := B15.drew
        have l17 : PLies wc.drew u _ := (L12u.out.keep k15).keep (keeps_drew _)
        go_region_with (first
          | (go_at_call 9; (with_reducible refine (CU.out W _ kW (by assumption) (by assumption)).mono ?_); rintro e w14 ⟨v14, rfl, l14, h14, k14, B14⟩; obtain ⟨r0, r1, r2⟩ := ((Y12.out.keep k15).keep (keeps_drew _)).keep h14)
          | (go_at_call 11; refine (CF.out _ _ _ (l17.keep h14) l14).mono ?_; rintro e w15 ⟨rfl, hb⟩))
        all_goals
          go_wp2_with fail
          go_meet
          exact ⟨rfl, B14.trans (hb.mono B14.size)⟩
      case rest =>
        obtain ⟨rfl, B18⟩ := hcut
        go_wp2_with fail
        go_ret
        exact ⟨rfl, B18⟩
end Go.Proofs.Ytpbhoomhcdljoaa.FnExactSameProgW
