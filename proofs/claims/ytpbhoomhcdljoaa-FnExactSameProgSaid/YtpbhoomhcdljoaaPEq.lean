/- The laws' comparison of two programs that are the same, walked. Conditions: both lie in memory. -/
import Derived.Test.YtpbhoomhcdljoaaChecked
import Derived.Test.YtpbhoomhcdljoaaPTrees
import Derived.Test.YtpbhoomhcdljoaaSEq
import Derived.Test.YtpbhoomhcdljoaaListEq
namespace Go.Proofs.Ytpbhoomhcdljoaa.Trm
open Go.RowKit Own
theorem eqProc_any (p : PrT) (u v : Value) (w : World) (hu : PrLies w p u) (hv : PrLies w p v) :
    Calls Try.prog 48 #[u, v] w fun e w' => e = .returned (.bool true) ∧ Below w.heap.size w w' := by
  obtain ⟨h1, ba, bc, rfl, h6⟩ := hu
  obtain ⟨_, da, dc, rfl, i6⟩ := hv
  have CB := Lib.hid (fun w hk => eqXS_any p.body (fun x _ => eqStmt_any x) (.slice ba p.body.length bc) (.slice da p.body.length dc) w (h6.keep hk) (i6.keep hk))
  have X0 := Lib.hid ((Box2.new w (.string p.name) (.slice ba p.body.length bc) 47).keep (keeps_alloc _ (.cells #[.string p.name, .slice da p.body.length dc] 47)))
  have Y0 := Lib.hid (Box2.new (w.alloc (.cells #[.string p.name, .slice ba p.body.length bc] 47)) (.string p.name) (.slice da p.body.length dc) 47)
  have hsz0 : (w.alloc (.cells #[.string p.name, .slice ba p.body.length bc] 47)).heap.size = w.heap.size + 1 := by simp
  rw [hsz0] at Y0
  clear h1 h6 i6 hsz0
  go_enter Try.func48, Try.ntmps48
  go_wp2_with fail
  refine (CB.out _ ((keeps_alloc _ _).trans (keeps_alloc _ _))).mono ?_
  rintro e1 w1 ⟨rfl, hb1⟩
  have B1 := Lib.hid (below_box1 (below_box1 hb1))
  clear hb1
  go_wp2
  go_ret
  exact ⟨rfl, B1.out⟩
set_option maxHeartbeats 1600000 in
theorem eqPrs_any (xs : List PrT) (va vb : Value) (w : World) (h1 : PrsAt w va xs) (h2 : PrsAt w vb xs) :
    Calls Try.prog 29 #[va, vb] w fun e w' => e = .returned (.bool true) ∧ Below w.heap.size w w' := by
  obtain ⟨hlen, aa, cap, rfl, hk⟩ := h1
  obtain ⟨_, bb, dap, rfl, hk2⟩ := h2
  have HK := Lib.hid hk
  have HK2 := Lib.hid hk2
  clear hk hk2
  go_enter Try.func29, Try.ntmps29
  go_wp2
  go_loopw [5] (fun i wr => ∃ (k : Nat), k ≤ xs.length ∧ i = .int .i64 k ∧ Hid (Below w.heap.size w wr))
    (fun i _ => xs.length - (intOf i).toNat)
  case atStart => exact ⟨0, Nat.zero_le _, rfl, Below.refl _ _⟩
  case round =>
    obtain ⟨k, hk, rfl, hbe⟩ := hrel
    by_cases hlt : k < xs.length
    · obtain ⟨g, o, rfl, hl⟩ := HK.out (by omega)
      obtain ⟨h, p, rfl, hm⟩ := HK2.out (by omega)
      obtain ⟨h0, ba, bc, c0, c1, hl2⟩ := (hl k hlt).keep (keeps_below hbe.out)
      obtain ⟨_, da, dc, d0, d1, hm2⟩ := (hm k hlt).keep (keeps_below hbe.out)
      have C : Hid (∀ wx, Below wr.heap.size wr wx → Calls Try.prog 48 #[.agg #[.string xs[k].name, .slice ba xs[k].body.length bc], .agg #[.string xs[k].name, .slice da xs[k].body.length dc]] wx fun e w' => e = .returned (.bool true) ∧ Below wr.heap.size wr w') :=
        fun wx hb => (eqProc_any xs[k] _ _ wx ⟨h0, ba, bc, rfl, hl2.keep (keeps_below hb)⟩ ⟨h0, da, dc, rfl, hm2.keep (keeps_below hb)⟩).mono fun e w' ⟨he, h⟩ => ⟨he, hb.trans (h.mono hb.size)⟩
      have KS : Hid (∀ wx, Below wr.heap.size wr wx → wx.cell? ⟨g, o + k * 2, none⟩ = some (.string xs[k].name) ∧ wx.cell? ⟨g, o + k * 2 + 1, none⟩ = some (.slice ba xs[k].body.length bc) ∧ wx.cell? ⟨h, p + k * 2, none⟩ = some (.string xs[k].name) ∧ wx.cell? ⟨h, p + k * 2 + 1, none⟩ = some (.slice da xs[k].body.length dc) ∧ Below wr.heap.size wr wx) := fun wx hb => by
        have hk := keeps_below hb
        exact ⟨hk _ _ c0, hk _ _ c1, hk _ _ d0, hk _ _ d1, hb⟩
      have b0 : Below wr.heap.size wr wr.drew := (Below.refl _ _).drew
      clear hl hl2 hm hm2 c0 c1 d0 d1
      go_wp2_with fail
      go_region_held3 (fun wx => wx.cell? ⟨g, o + k * 2, none⟩ = some (.string xs[k].name) ∧ wx.cell? ⟨g, o + k * 2 + 1, none⟩ = some (.slice ba xs[k].body.length bc) ∧ wx.cell? ⟨h, p + k * 2, none⟩ = some (.string xs[k].name) ∧ wx.cell? ⟨h, p + k * 2 + 1, none⟩ = some (.slice da xs[k].body.length dc) ∧ Below wr.heap.size wr wx)
        (exact KS.out _ (by assumption))
        (first
        | (go_at_call 48; (with_reducible refine (C.out _ (by assumption)).mono ?_); rintro e w1 ⟨rfl, b1⟩))
      all_goals
        have HB1 := Lib.hid (hbe.out.trans (b1.mono hbe.out.size))
        clear b1
        go_wp2
        go_roundw
        case rel => exact ⟨k + 1, by omega, by go_num, HB1⟩
        case measure => simp [intOf]; omega
    · go_wp2
      go_ret
      exact ⟨rfl, hbe.out⟩
set_option maxHeartbeats 800000 in
theorem eqProg_any (x : PTree) (u v : Value) (w : World) (hu : PLies w x u) (hv : PLies w x v) :
    Calls Try.prog 11 #[u, v] w fun e w' => e = .returned (.bool true) ∧ Below w.heap.size w w' := by
  obtain ⟨ga, gc, la, lc, pa, pc, rfl, h1, h2, h3⟩ := hu
  obtain ⟨gb, gd, lb, ld, pb, pd, rfl, i1, i2, i3⟩ := hv
  have C1 := Lib.hid (fun w hk => eqStrs_at (.slice ga x.globals.length gc) (.slice gb x.globals.length gd) x.globals w (h1.1.keep hk) (i1.1.keep hk))
  have C2 := Lib.hid (fun w hk => eqStrs_at (.slice la x.locks.length lc) (.slice lb x.locks.length ld) x.locks w (h2.1.keep hk) (i2.1.keep hk))
  have C3 := Lib.hid (fun w hk => eqPrs_any x.procs (.slice pa x.procs.length pc) (.slice pb x.procs.length pd) w (h3.keep hk) (i3.keep hk))
  have X0 := Lib.hid ((Box3.new w (.slice ga x.globals.length gc) (.slice la x.locks.length lc) (.slice pa x.procs.length pc) 30).keep (keeps_alloc _ (.cells #[.slice gb x.globals.length gd, .slice lb x.locks.length ld, .slice pb x.procs.length pd] 30)))
  have Y0 := Lib.hid (Box3.new (w.alloc (.cells #[.slice ga x.globals.length gc, .slice la x.locks.length lc, .slice pa x.procs.length pc] 30)) (.slice gb x.globals.length gd) (.slice lb x.locks.length ld) (.slice pb x.procs.length pd) 30)
  have hsz0 : (w.alloc (.cells #[.slice ga x.globals.length gc, .slice la x.locks.length lc, .slice pa x.procs.length pc] 30)).heap.size = w.heap.size + 1 := by simp
  rw [hsz0] at Y0
  clear h1 h2 h3 i1 i2 i3 hsz0
  go_enter Try.func11, Try.ntmps11
  go_wp2_with fail
  refine (C1.out _ ((keeps_alloc _ _).trans (keeps_alloc _ _))).mono ?_
  rintro e1 w1 ⟨rfl, hb1⟩
  have K1 := Lib.hid (((keeps_alloc w _).trans (keeps_alloc _ _)).trans (keeps_below hb1))
  have B1 := Lib.hid (below_box1 (below_box1 hb1))
  have X1 := Lib.hid (X0.out.keep (keeps_below hb1))
  have Y1 := Lib.hid (Y0.out.keep (keeps_below hb1))
  obtain ⟨p0, p1, p2⟩ := X1.out
  obtain ⟨q0, q1, q2⟩ := Y1.out
  clear hb1
  go_wp2_with fail
  refine (C2.out _ K1.out).mono ?_
  rintro e2 w2 ⟨rfl, hb2⟩
  have K2 := Lib.hid (K1.out.trans (keeps_below hb2))
  have B2 := Lib.hid (B1.out.trans (hb2.mono B1.out.size))
  have X2 := Lib.hid (X1.out.keep (keeps_below hb2))
  have Y2 := Lib.hid (Y1.out.keep (keeps_below hb2))
  clear hb2 p0 p1 p2 q0 q1 q2
  obtain ⟨p0, p1, p2⟩ := X2.out
  obtain ⟨q0, q1, q2⟩ := Y2.out
  go_wp2_with fail
  refine (C3.out _ K2.out).mono ?_
  rintro e3 w3 ⟨rfl, hb3⟩
  have B3 := Lib.hid (B2.out.trans (hb3.mono B2.out.size))
  clear hb3
  go_wp2
  go_ret
  exact ⟨rfl, B3.out⟩
end Go.Proofs.Ytpbhoomhcdljoaa.Trm
