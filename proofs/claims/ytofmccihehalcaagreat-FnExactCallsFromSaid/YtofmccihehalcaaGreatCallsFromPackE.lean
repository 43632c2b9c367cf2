/- The law of CallsFrom, walked. Conditions: the arguments read. With what it stands on, in one text. -/
import Derived.Test.YtofmccihehalcaaGreatChecked
import Derived.Test.YtofmccihehalcaaGreatTermSize
import Derived.Deep.RegionWith
import Derived.BigQuiet
import Derived.WalkSmall
import Derived.Outline
import Derived.Test.YtofmccihehalcaaGreatKTrees
import Derived.Test.YtofmccihehalcaaGreatIntCalls
import Derived.Test.YtofmccihehalcaaGreatListEq
import Derived.Deep.RegionHeld3
import Derived.Test.YtofmccihehalcaaGreatDigits
import Derived.Test.YtofmccihehalcaaGreatOwnStr
import Derived.Laws.IdiomStrings
import Derived.Laws.Concat
import Derived.Test.YtofmccihehalcaaGreatTermOwn
import Derived.Test.YtofmccihehalcaaGreatTermTo
import Derived.Test.YtofmccihehalcaaGreatStrCells
import Derived.Deep.AppendLies
import Derived.Lib.Hide
import Derived.Test.YtofmccihehalcaaGreatCallsFromPackB
import Derived.Test.YtofmccihehalcaaGreatIntMarks
import Derived.Test.YtofmccihehalcaaGreatKArg
import Derived.Test.YtofmccihehalcaaGreatCallsFromPackD
import Derived.Test.YtofmccihehalcaaGreatCallsFromPackC
/- The laws' comparison of two terms that are the same, walked. Conditions: both lie in memory. -/
namespace Go.Proofs.YtofmccihehalcaaGreat.Trm
open Go.RowKit Go.Proofs.YtofmccihehalcaaGreat.Own
def EqOk (t : Tree) : Prop := ∀ (u v : Value) (w : World), Lies w t u → Lies w t v →
    Calls Tryz.prog 133 #[u, v] w fun e w' => e = .returned (.bool true) ∧ Below w.heap.size w w'
theorem eqS_any (ks : List Tree) (ih : ∀ t, t ∈ ks → EqOk t) (aa bb : Option Addr) (cap dap : Nat) (w : World) (hlen : ks.length ≤ 9223372036854775807) (hk : 0 < ks.length → ∃ g o, aa = some ⟨g, o, none⟩ ∧ LiesL w g o ks) (hk2 : 0 < ks.length → ∃ g o, bb = some ⟨g, o, none⟩ ∧ LiesL w g o ks) :
    Calls Tryz.prog 162 #[.slice aa ks.length cap, .slice bb ks.length dap] w fun e w' => e = .returned (.bool true) ∧ Below w.heap.size w w' := by
  have IH := Lib.hid ih
  have HK := Lib.hid hk
  have HK2 := Lib.hid hk2
  clear ih hk hk2
  go_enter Tryz.func162, Tryz.ntmps162
  go_wp2
  go_loopw [5] (fun i wr => ∃ (k : Nat), k ≤ ks.length ∧ i = .int .i64 k ∧ Hid (Below w.heap.size w wr))
    (fun i _ => ks.length - (intOf i).toNat)
  case atStart => exact ⟨0, Nat.zero_le _, rfl, Below.refl _ _⟩
  case round =>
    obtain ⟨k, hk, rfl, hbe⟩ := hrel
    by_cases hlt : k < ks.length
    · obtain ⟨g, o, rfl, hl⟩ := HK.out (by omega)
      obtain ⟨h, p, rfl, hm⟩ := HK2.out (by omega)
      obtain ⟨ka, kc, c0, c1, c2, c3, hl2⟩ := (hl.keep (keeps_below hbe.out)).at k hlt
      obtain ⟨la, lc, d0, d1, d2, d3, hm2⟩ := (hm.keep (keeps_below hbe.out)).at k hlt
      have C := Lib.hid (fun w hk => IH.out ks[k] (List.getElem_mem hlt) _ _ w (hl2.keep hk) (hm2.keep hk))
      clear hl hl2 hm hm2
      go_wp2
      go_region_with (go_at_call 133; refine (C.out _ (keeps_drew _)).mono ?_; rintro e w1 ⟨rfl, hb1⟩)
      all_goals
        have HB1 := Lib.hid (hbe.out.trans ((below_of_drew hb1).mono hbe.out.size))
        clear hb1
        go_wp2
        go_roundw
        case rel => exact ⟨k + 1, by omega, by go_num, HB1⟩
        case measure => simp [intOf]; omega
    · go_wp2
      go_ret
      exact ⟨rfl, hbe.out⟩
theorem eqTerm_any : ∀ t : Tree, EqOk t := treeInd fun k n s ks ih u v w hu hv => by
  obtain ⟨h1, h2, h3, h4, aa, cap, rfl, h5⟩ := hu
  obtain ⟨_, _, _, _, bb, dap, rfl, h6⟩ := hv
  have C := Lib.hid (fun w hk hk2 => eqS_any ks ih aa bb cap dap w h4 hk hk2)
  have H5 := Lib.hid h5
  have H6 := Lib.hid h6
  clear ih h5 h6
  go_enter Tryz.func133, Tryz.ntmps133
  go_wp2_with fail
  refine (C.out _ (fun h => by obtain ⟨g, o, e, hl⟩ := H5.out h; exact ⟨g, o, e, hl.keep ((keeps_alloc _ _).trans (keeps_alloc _ _))⟩) (fun h => by obtain ⟨g, o, e, hl⟩ := H6.out h; exact ⟨g, o, e, hl.keep ((keeps_alloc _ _).trans (keeps_alloc _ _))⟩)).mono ?_
  rintro e w1 ⟨rfl, hb1⟩
  have HB1 := Lib.hid ((((Below.refl w.heap.size w).alloc (Nat.le_refl _) _).alloc (by simp) _).trans (hb1.mono (by simp; omega)))
  clear hb1
  go_wp2
  go_ret
  exact ⟨rfl, HB1.out⟩
end Go.Proofs.YtofmccihehalcaaGreat.Trm
/- The laws' comparison of two codes that are the same, walked. Conditions: both lie in memory. -/
namespace Go.Proofs.YtofmccihehalcaaGreat.Trm
open Go.RowKit Go.Proofs.YtofmccihehalcaaGreat.Own
set_option maxHeartbeats 800000 in
theorem eqIns_any (x : InsT) (u v : Value) (w : World) (hu : ILies w x u) (hv : ILies w x v) :
    Calls Tryz.prog 95 #[u, v] w fun e w' => e = .returned (.bool true) ∧ Below w.heap.size w w' := by
  obtain ⟨_, _, _, ba, bc, rfl, h6⟩ := hu
  obtain ⟨_, _, _, da, dc, rfl, i6⟩ := hv
  have CT := Lib.hid (fun w hk => eqTerm_any x.term _ _ w (h6.keep hk) (i6.keep hk))
  have X0 := Lib.hid ((Box7.new w (.int .i64 x.op) (.int .i64 x.arg) (.int .i64 x.term.kind) (.int .i64 x.term.num) (.string x.term.name) (.slice ba x.term.kids.length bc) (.int .i64 x.to) 47).keep (keeps_alloc _ (.cells #[.int .i64 x.op, .int .i64 x.arg, .int .i64 x.term.kind, .int .i64 x.term.num, .string x.term.name, .slice da x.term.kids.length dc, .int .i64 x.to] 47)))
  have Y0 := Lib.hid (Box7.new (w.alloc (.cells #[.int .i64 x.op, .int .i64 x.arg, .int .i64 x.term.kind, .int .i64 x.term.num, .string x.term.name, .slice ba x.term.kids.length bc, .int .i64 x.to] 47)) (.int .i64 x.op) (.int .i64 x.arg) (.int .i64 x.term.kind) (.int .i64 x.term.num) (.string x.term.name) (.slice da x.term.kids.length dc) (.int .i64 x.to) 47)
  have hsz0 : (w.alloc (.cells #[.int .i64 x.op, .int .i64 x.arg, .int .i64 x.term.kind, .int .i64 x.term.num, .string x.term.name, .slice ba x.term.kids.length bc, .int .i64 x.to] 47)).heap.size = w.heap.size + 1 := by simp
  rw [hsz0] at Y0
  clear h6 i6 hsz0
  go_enter Tryz.func95, Tryz.ntmps95
  go_wp2_with fail
  refine (CT.out _ ((keeps_alloc _ _).trans (keeps_alloc _ _))).mono ?_
  rintro e1 w1 ⟨rfl, hb1⟩
  have B1 := Lib.hid (below_box1 (below_box1 hb1))
  obtain ⟨p0, p1, p2, p3, p4, p5, p6⟩ := X0.out.keep (keeps_below hb1)
  obtain ⟨q0, q1, q2, q3, q4, q5, q6⟩ := Y0.out.keep (keeps_below hb1)
  clear hb1
  go_wp2
  go_ret
  exact ⟨rfl, B1.out⟩
set_option maxHeartbeats 1600000 in
theorem eqInsS_any (xs : List InsT) (va vb : Value) (w : World) (h1 : IsAt w va xs) (h2 : IsAt w vb xs) :
    Calls Tryz.prog 64 #[va, vb] w fun e w' => e = .returned (.bool true) ∧ Below w.heap.size w w' := by
  obtain ⟨hlen, aa, cap, rfl, hk⟩ := h1
  obtain ⟨_, bb, dap, rfl, hk2⟩ := h2
  have HK := Lib.hid hk
  have HK2 := Lib.hid hk2
  clear hk hk2
  go_enter Tryz.func64, Tryz.ntmps64
  go_wp2
  go_loopw [5] (fun i wr => ∃ (k : Nat), k ≤ xs.length ∧ i = .int .i64 k ∧ Hid (Below w.heap.size w wr))
    (fun i _ => xs.length - (intOf i).toNat)
  case atStart => exact ⟨0, Nat.zero_le _, rfl, Below.refl _ _⟩
  case round =>
    obtain ⟨k, hk, rfl, hbe⟩ := hrel
    by_cases hlt : k < xs.length
    · obtain ⟨g, o, rfl, hl⟩ := HK.out (by omega)
      obtain ⟨h, p, rfl, hm⟩ := HK2.out (by omega)
      obtain ⟨i0, i1, i2, ba, bc, c0, c1, c2, c3, c4, c5, c6, hl2⟩ := (hl k hlt).keep (keeps_below hbe.out)
      obtain ⟨_, _, _, da, dc, d0, d1, d2, d3, d4, d5, d6, hm2⟩ := (hm k hlt).keep (keeps_below hbe.out)
      have C : Hid (∀ wx, Below wr.heap.size wr wx → Calls Tryz.prog 95 #[.agg #[.int .i64 xs[k].op, .int .i64 xs[k].arg, .int .i64 xs[k].term.kind, .int .i64 xs[k].term.num, .string xs[k].term.name, .slice ba xs[k].term.kids.length bc, .int .i64 xs[k].to], .agg #[.int .i64 xs[k].op, .int .i64 xs[k].arg, .int .i64 xs[k].term.kind, .int .i64 xs[k].term.num, .string xs[k].term.name, .slice da xs[k].term.kids.length dc, .int .i64 xs[k].to]] wx fun e w' => e = .returned (.bool true) ∧ Below wr.heap.size wr w') :=
        fun wx hb => (eqIns_any xs[k] _ _ wx ⟨i0, i1, i2, ba, bc, rfl, hl2.keep (keeps_below hb)⟩ ⟨i0, i1, i2, da, dc, rfl, hm2.keep (keeps_below hb)⟩).mono fun e w' ⟨he, h⟩ => ⟨he, hb.trans (h.mono hb.size)⟩
      have KS : Hid (∀ wx, Below wr.heap.size wr wx → wx.cell? ⟨g, o + k * 7, none⟩ = some (.int .i64 xs[k].op) ∧ wx.cell? ⟨g, o + k * 7 + 1, none⟩ = some (.int .i64 xs[k].arg) ∧ wx.cell? ⟨g, o + k * 7 + 2, none⟩ = some (.int .i64 xs[k].term.kind) ∧ wx.cell? ⟨g, o + k * 7 + 3, none⟩ = some (.int .i64 xs[k].term.num) ∧ wx.cell? ⟨g, o + k * 7 + 4, none⟩ = some (.string xs[k].term.name) ∧ wx.cell? ⟨g, o + k * 7 + 5, none⟩ = some (.slice ba xs[k].term.kids.length bc) ∧ wx.cell? ⟨g, o + k * 7 + 6, none⟩ = some (.int .i64 xs[k].to) ∧ wx.cell? ⟨h, p + k * 7, none⟩ = some (.int .i64 xs[k].op) ∧ wx.cell? ⟨h, p + k * 7 + 1, none⟩ = some (.int .i64 xs[k].arg) ∧ wx.cell? ⟨h, p + k * 7 + 2, none⟩ = some (.int .i64 xs[k].term.kind) ∧ wx.cell? ⟨h, p + k * 7 + 3, none⟩ = some (.int .i64 xs[k].term.num) ∧ wx.cell? ⟨h, p + k * 7 + 4, none⟩ = some (.string xs[k].term.name) ∧ wx.cell? ⟨h, p + k * 7 + 5, none⟩ = some (.slice da xs[k].term.kids.length dc) ∧ wx.cell? ⟨h, p + k * 7 + 6, none⟩ = some (.int .i64 xs[k].to) ∧ Below wr.heap.size wr wx) := fun wx hb => by
        have hk := keeps_below hb
        exact ⟨hk _ _ c0, hk _ _ c1, hk _ _ c2, hk _ _ c3, hk _ _ c4, hk _ _ c5, hk _ _ c6, hk _ _ d0, hk _ _ d1, hk _ _ d2, hk _ _ d3, hk _ _ d4, hk _ _ d5, hk _ _ d6, hb⟩
      have b0 : Below wr.heap.size wr wr.drew := (Below.refl _ _).drew
      clear hl hl2 hm hm2 c0 c1 c2 c3 c4 c5 c6 d0 d1 d2 d3 d4 d5 d6 i0 i1 i2
      go_wp2_with fail
      go_region_held3 (fun wx => wx.cell? ⟨g, o + k * 7, none⟩ = some (.int .i64 xs[k].op) ∧ wx.cell? ⟨g, o + k * 7 + 1, none⟩ = some (.int .i64 xs[k].arg) ∧ wx.cell? ⟨g, o + k * 7 + 2, none⟩ = some (.int .i64 xs[k].term.kind) ∧ wx.cell? ⟨g, o + k * 7 + 3, none⟩ = some (.int .i64 xs[k].term.num) ∧ wx.cell? ⟨g, o + k * 7 + 4, none⟩ = some (.string xs[k].term.name) ∧ wx.cell? ⟨g, o + k * 7 + 5, none⟩ = some (.slice ba xs[k].term.kids.length bc) ∧ wx.cell? ⟨g, o + k * 7 + 6, none⟩ = some (.int .i64 xs[k].to) ∧ wx.cell? ⟨h, p + k * 7, none⟩ = some (.int .i64 xs[k].op) ∧ wx.cell? ⟨h, p + k * 7 + 1, none⟩ = some (.int .i64 xs[k].arg) ∧ wx.cell? ⟨h, p + k * 7 + 2, none⟩ = some (.int .i64 xs[k].term.kind) ∧ wx.cell? ⟨h, p + k * 7 + 3, none⟩ = some (.int .i64 xs[k].term.num) ∧ wx.cell? ⟨h, p + k * 7 + 4, none⟩ = some (.string xs[k].term.name) ∧ wx.cell? ⟨h, p + k * 7 + 5, none⟩ = some (.slice da xs[k].term.kids.length dc) ∧ wx.cell? ⟨h, p + k * 7 + 6, none⟩ = some (.int .i64 xs[k].to) ∧ Below wr.heap.size wr wx)
        (exact KS.out _ (by assumption))
        (first
        | (go_at_call 95; (with_reducible refine (C.out _ (by assumption)).mono ?_); rintro e w1 ⟨rfl, b1⟩))
      all_goals
        have HB1 := Lib.hid (hbe.out.trans (b1.mono hbe.out.size))
        clear b1
        go_wp2
        go_roundw
        case rel => exact ⟨k + 1, by omega, by go_num, HB1⟩
        case measure => simp [intOf]; omega
    · go_wp2
      go_ret
      exact ⟨rfl, hbe.out⟩
set_option maxHeartbeats 1600000 in
theorem eqCode_any (x : KTree) (u v : Value) (w : World) (hu : KLies w x u) (hv : KLies w x v) :
    Calls Tryz.prog 28 #[u, v] w fun e w' => e = .returned (.bool true) ∧ Below w.heap.size w w' := by
  obtain ⟨ga, gc, la, lc, pa, pc, ea, ec, ia, ic, rfl, h1, h2, h3, h4, h5⟩ := hu
  obtain ⟨ga2, gc2, la2, lc2, pa2, pc2, ea2, ec2, ia2, ic2, rfl, i1, i2, i3, i4, i5⟩ := hv
  have C1 := Lib.hid (fun w hk => eqStrs_at (.slice ga x.globals.length gc) (.slice ga2 x.globals.length gc2) x.globals w (h1.1.keep hk) (i1.1.keep hk))
  have C2 := Lib.hid (fun w hk => eqStrs_at (.slice la x.locks.length lc) (.slice la2 x.locks.length lc2) x.locks w (h2.1.keep hk) (i2.1.keep hk))
  have C3 := Lib.hid (fun w hk => eqStrs_at (.slice pa x.procs.length pc) (.slice pa2 x.procs.length pc2) x.procs w (h3.1.keep hk) (i3.1.keep hk))
  have C4 := Lib.hid (fun w hk => eqInts_at (.slice ea x.entry.length ec) (.slice ea2 x.entry.length ec2) x.entry w (h4.keep hk) (i4.keep hk))
  have C5 := Lib.hid (fun w hk => eqInsS_any x.ins (.slice ia x.ins.length ic) (.slice ia2 x.ins.length ic2) w (h5.keep hk) (i5.keep hk))
  have X0 := Lib.hid ((Box5.new w (.slice ga x.globals.length gc) (.slice la x.locks.length lc) (.slice pa x.procs.length pc) (.slice ea x.entry.length ec) (.slice ia x.ins.length ic) 28).keep (keeps_alloc _ (.cells #[.slice ga2 x.globals.length gc2, .slice la2 x.locks.length lc2, .slice pa2 x.procs.length pc2, .slice ea2 x.entry.length ec2, .slice ia2 x.ins.length ic2] 28)))
  have Y0 := Lib.hid (Box5.new (w.alloc (.cells #[.slice ga x.globals.length gc, .slice la x.locks.length lc, .slice pa x.procs.length pc, .slice ea x.entry.length ec, .slice ia x.ins.length ic] 28)) (.slice ga2 x.globals.length gc2) (.slice la2 x.locks.length lc2) (.slice pa2 x.procs.length pc2) (.slice ea2 x.entry.length ec2) (.slice ia2 x.ins.length ic2) 28)
  have hsz0 : (w.alloc (.cells #[.slice ga x.globals.length gc, .slice la x.locks.length lc, .slice pa x.procs.length pc, .slice ea x.entry.length ec, .slice ia x.ins.length ic] 28)).heap.size = w.heap.size + 1 := by simp
  rw [hsz0] at Y0
  clear h1 h2 h3 h4 h5 i1 i2 i3 i4 i5 hsz0
  go_enter Tryz.func28, Tryz.ntmps28
  go_wp2_with fail
  refine (C1.out _ ((keeps_alloc _ _).trans (keeps_alloc _ _))).mono ?_
  rintro e1 w1 ⟨rfl, hb1⟩
  have K1 := Lib.hid (((keeps_alloc w _).trans (keeps_alloc _ _)).trans (keeps_below hb1))
  have B1 := Lib.hid (below_box1 (below_box1 hb1))
  have X1 := Lib.hid (X0.out.keep (keeps_below hb1))
  have Y1 := Lib.hid (Y0.out.keep (keeps_below hb1))
  obtain ⟨p0, p1, p2, p3, p4⟩ := X1.out
  obtain ⟨q0, q1, q2, q3, q4⟩ := Y1.out
  clear hb1
  go_wp2_with fail
  refine (C2.out _ K1.out).mono ?_
  rintro e2 w2 ⟨rfl, hb2⟩
  have K2 := Lib.hid (K1.out.trans (keeps_below hb2))
  have B2 := Lib.hid (B1.out.trans (hb2.mono B1.out.size))
  have X2 := Lib.hid (X1.out.keep (keeps_below hb2))
  have Y2 := Lib.hid (Y1.out.keep (keeps_below hb2))
  clear hb2 p0 p1 p2 p3 p4 q0 q1 q2 q3 q4
  obtain ⟨p0, p1, p2, p3, p4⟩ := X2.out
  obtain ⟨q0, q1, q2, q3, q4⟩ := Y2.out
  go_wp2_with fail
  refine (C3.out _ K2.out).mono ?_
  rintro e3 w3 ⟨rfl, hb3⟩
  have K3 := Lib.hid (K2.out.trans (keeps_below hb3))
  have B3 := Lib.hid (B2.out.trans (hb3.mono B2.out.size))
  have X3 := Lib.hid (X2.out.keep (keeps_below hb3))
  have Y3 := Lib.hid (Y2.out.keep (keeps_below hb3))
  clear hb3 p0 p1 p2 p3 p4 q0 q1 q2 q3 q4
  obtain ⟨p0, p1, p2, p3, p4⟩ := X3.out
  obtain ⟨q0, q1, q2, q3, q4⟩ := Y3.out
  go_wp2_with fail
  refine (C4.out _ K3.out).mono ?_
  rintro e4 w4 ⟨rfl, hb4⟩
  have K4 := Lib.hid (K3.out.trans (keeps_below hb4))
  have B4 := Lib.hid (B3.out.trans (hb4.mono B3.out.size))
  have X4 := Lib.hid (X3.out.keep (keeps_below hb4))
  have Y4 := Lib.hid (Y3.out.keep (keeps_below hb4))
  clear hb4 p0 p1 p2 p3 p4 q0 q1 q2 q3 q4
  obtain ⟨p0, p1, p2, p3, p4⟩ := X4.out
  obtain ⟨q0, q1, q2, q3, q4⟩ := Y4.out
  go_wp2_with fail
  refine (C5.out _ K4.out).mono ?_
  rintro e5 w5 ⟨rfl, hb5⟩
  have B5 := Lib.hid (B4.out.trans (hb5.mono B4.out.size))
  clear hb5
  go_wp2
  go_ret
  exact ⟨rfl, B5.out⟩
end Go.Proofs.YtofmccihehalcaaGreat.Trm
/- The text that the laws mark an element by, walked. Conditions: the number is at least 1 and fits an int. -/
namespace Go.Proofs.YtofmccihehalcaaGreat.Own
open Go.RowKit
set_option maxHeartbeats 400000 in
theorem markText_any (m : Nat) (w : World) (h1 : 1 ≤ m) (h2 : m ≤ 9223372036854775807) :
    Calls Tryz.prog 96 #[.int .i64 (m : Int)] w fun e w' => e = .returned (.string (markB m)) ∧ w.grownBy w' none := by
  go_enter Tryz.func96, Tryz.ntmps96
  go_wp2
  go_loopw [0, 3] (fun x o wr => ∃ (n : Nat) (acc : List UInt8), n ≤ 9223372036854775807 ∧ x = .int .i64 (n : Int) ∧ Hid (Wrote m n acc) ∧ o = .string ⟨acc.toArray⟩ ∧ w.grownBy wr none)
    (fun x _ _ => (intOf x).toNat)
  case atStart => exact ⟨m, [], h2, rfl, Wrote.start m, rfl, World.grownBy.refl _ _⟩
  case round =>
    obtain ⟨n, acc, hn, rfl, hr, rfl, hg⟩ := hrel
    have hl := hr.out.length (by omega)
    by_cases hp : 0 < n
    · have hc := run_string_one (P := Tryz.prog) wr 22 9 5 (digB n) (48 + (n : Int) % 10) (digB_toNat n).symm Tryz.underlying22 Tryz.underlying5 Tryz.underlying9
      go_wp2
      go_roundw
      case rel => exact ⟨n / 10, digB n :: acc, by omega, by go_num, hr.out.step hp, congrArg Value.string (mk_cons _ _), grown_alloc hg _⟩
      case measure => simp [intOf]; omega
    · obtain rfl : n = 0 := by omega
      have hd : acc = digs m := hr.out.done
      subst hd
      go_wp2
      go_ret
      exact ⟨congrArg (fun x => Ending.returned (Value.string x)) (mk_cons _ _), hg⟩
end Go.Proofs.YtofmccihehalcaaGreat.Own
/- The laws' marks over a term that the call owns, walked. Conditions: the term lies in rows of the call's own, the rows apart. -/
namespace Go.Proofs.YtofmccihehalcaaGreat.Trm
open Go.RowKit Go.Proofs.YtofmccihehalcaaGreat.Own
mutual
def cntT : Tree → Nat
  | .node _ _ _ ks => cntS ks
def cntS : List Tree → Nat
  | [] => 0
  | t :: ts => 1 + cntT t + cntS ts
end
theorem cntT_eq (t : Tree) : cntT t = cntS t.kids := by cases t; rfl
mutual
theorem cntT_le : ∀ t : Tree, cntT t ≤ szT t
  | .node k n s ks => by
    rw [cntT, szT]
    have := cntS_le ks
    omega
theorem cntS_le : ∀ ks : List Tree, cntS ks ≤ ks.length + szS ks
  | [] => by simp [cntS]
  | t :: ts => by
    rw [cntS, szS, List.length_cons]
    have := cntT_le t
    have := cntS_le ts
    omega
end
theorem cntS_drop {ks : List Tree} {i : Nat} (h : i < ks.length) : cntS (ks.drop i) = 1 + cntT ks[i] + cntS (ks.drop (i + 1)) := by rw [List.drop_eq_getElem_cons h, cntS]
theorem cntS_end {ks : List Tree} {i : Nat} (h : ks.length ≤ i) : cntS (ks.drop i) = 0 := by rw [List.drop_of_length_le h, cntS]
/-- What is written lies between two blocks. -/
structure Marks (lo hi : Nat) (w w' : World) : Prop where
  os : w'.os = w.os
  tape : w'.tape = w.tape
  output : w'.output = w.output
  size : w.heap.size ≤ w'.heap.size
  block : ∀ k, k < w.heap.size → (k < lo ∨ hi ≤ k) → w'.heap[k]? = w.heap[k]?
theorem Marks.refl (lo hi : Nat) (w : World) : Marks lo hi w w := ⟨rfl, rfl, rfl, Nat.le_refl _, fun _ _ _ => rfl⟩
theorem Marks.trans {lo hi : Nat} {a b c : World} (h : Marks lo hi a b) (k : Marks lo hi b c) : Marks lo hi a c :=
  ⟨k.os.trans h.os, k.tape.trans h.tape, k.output.trans h.output, Nat.le_trans h.size k.size, fun i hi' ho => (k.block i (Nat.lt_of_lt_of_le hi' h.size) ho).trans (h.block i hi' ho)⟩
theorem Marks.wide {lo hi lo' hi' : Nat} {w w' : World} (h : Marks lo hi w w') (h1 : lo' ≤ lo) (h2 : hi ≤ hi') : Marks lo' hi' w w' :=
  ⟨h.os, h.tape, h.output, h.size, fun k hk ho => h.block k hk (by omega)⟩
theorem Marks.of_grown {lo hi : Nat} {w w' : World} {row : Option Nat} (h : w.grownBy w' row) (hr : ∀ b, row = some b → lo ≤ b ∧ b < hi) : Marks lo hi w w' :=
  ⟨h.os, h.tape, h.output, h.size, fun k hk ho => h.block k hk (fun e => by have := hr k e.symm; omega)⟩
theorem Marks.below {lo hi : Nat} {w w' : World} (h : Marks lo hi w w') (hl : lo ≤ w.heap.size) : Below lo w w' :=
  ⟨h.os, h.tape, h.output, h.size, fun k hk => h.block k (by omega) (.inl hk)⟩
def MarkOk (t : Tree) : Prop := ∀ (kv : Value) (w : World) (lo hi k : Nat), 1 ≤ k → k + 3 * cntT t ≤ 4611686018427387904 → hi ≤ w.heap.size → OwnsK w lo hi t.kids kv →
    Calls Tryz.prog 97 #[kv, .int .i64 (k : Int)] w fun e w' => e = .returned (.int .i64 ((k + 3 * cntT t : Nat) : Int)) ∧ Marks lo hi w w'
theorem wrap_nat (a : Nat) (h : a ≤ 4611686018427387904) : IntKind.i64.wrap (a : Int) = a := IntWalk.i64_in _ (by omega)
set_option maxHeartbeats 1600000 in
theorem markTerms_any : ∀ t : Tree, MarkOk t := treeInd fun tk tn ts ks ih kv w lo hi k hk1 hkb hhi hok => by
  obtain ⟨xs, m, hrow, hlm, hbm, hol⟩ := hok
  have hlen : ks.length ≤ 9223372036854775807 := by have := row_small hrow; unfold maxLen at this; exact this
  have IH := Lib.hid ih
  have HC : Hid (cntT (.node tk tn ts ks) = cntS (ks.drop 0)) := by show _ = _; rw [cntT]; rfl
  obtain ⟨aa, cap, rfl, haa⟩ := row_shape hrow
  rw [HC.out] at hkb ⊢
  have HB := Lib.hid hkb
  have HA := Lib.hid haa
  have HR := Lib.hid hrow
  have HL : Hid (OwnsL w m hi (ks.drop 0) xs) := hol
  have HM := Lib.hid hbm
  obtain ⟨C, hC⟩ : ∃ C, C = cntS (ks.drop 0) := ⟨_, rfl⟩
  rw [← hC] at hkb HB ⊢
  have HCC := Lib.hid hC
  simp only [Tree.kids] at HR HA hrow ⊢
  clear ih hrow hol hbm haa hC
  go_enter Tryz.func97, Tryz.ntmps97
  go_wp2
  go_loopw [1, 5] (fun x i wr => ∃ (j kk mj : Nat) (pre rest : List Value), j ≤ ks.length ∧ i = .int .i64 j ∧ x = .int .i64 kk ∧ 1 ≤ kk ∧ kk ≤ 4611686018427387904 ∧ Hid (kk + 3 * cntS (ks.drop j) = k + 3 * C) ∧ Hid (pre.length = j * 4) ∧ Hid (m ≤ mj) ∧ Hid (wr.ownsRow lo 45 4 (.slice aa ks.length cap) ks.length (pre ++ rest)) ∧ Hid (OwnsL wr mj hi (ks.drop j) rest) ∧ Hid (Marks lo hi w wr))
    (fun _ i _ => ks.length - (intOf i).toNat)
  case atStart => exact ⟨0, k, m, [], xs, Nat.zero_le _, rfl, rfl, hk1, by omega, by show _ = _; rw [HCC.out], rfl, Nat.le_refl _, HR.out, HL.out, Marks.refl _ _ _⟩
  case round =>
    obtain ⟨j, kk, mj, pre, rest, hj, rfl, rfl, hk2, hk3, hsum, hpre, hmj, hrow, hol, hmk⟩ := hrel
    by_cases hlt : j < ks.length
    · obtain ⟨g, rfl⟩ := HA.out (by omega)
      have hd := cntS_drop hlt
      have hol2 := hol.out
      rw [List.drop_eq_getElem_cons hlt] at hol2
      obtain ⟨kv2, rest2, mid, rfl, hmm, how, hol3⟩ := hol2
      have hgm : g < m := HM.out g rfl
      have hmh := hol3.le
      have hsw := hmk.out.size
      obtain ⟨_, _, _, kv3, e3, hok3⟩ := how.parts
      have e4 : kv2 = kv3 := by unfold aggT at e3; simpa using e3
      subst e4
      obtain ⟨xs3, m3, hrow3, hrest3⟩ := id hok3
      obtain ⟨ka, kc, rfl, _⟩ := row_shape hrow3
      have f0 := hrow.out.frozenAt (j * 4)
      have f1 := hrow.out.frozenAt (j * 4 + 1)
      have q0 : wr.cell? ⟨g, j * 4, none⟩ = some (.int .i64 ks[j].kind) := by rw [hrow.out.cellAt (j * 4) (by omega), List.getElem?_append_right (by rw [hpre.out]; omega), hpre.out, Nat.sub_self]; rfl
      have q1 : wr.cell? ⟨g, j * 4 + 1, none⟩ = some (.int .i64 ks[j].num) := by rw [hrow.out.cellAt (j * 4 + 1) (by omega), List.getElem?_append_right (by rw [hpre.out]; omega), hpre.out, Nat.add_sub_cancel_left]; rfl
      obtain ⟨ra, ga⟩ := hrow.out.stored (j * 4) (.int .i64 (kk : Int))
      rw [show pre ++ (cellsT ks[j] (.slice ka ks[j].kids.length kc) ++ rest2) = pre ++ Value.int .i64 ks[j].kind :: (Value.int .i64 ks[j].num :: Value.string ks[j].name :: Value.slice ka ks[j].kids.length kc :: rest2) from rfl, set_mid _ _ _ _ _ hpre.out] at ra
      obtain ⟨rb, gb⟩ := ra.stored (j * 4 + 1) (.int .i64 ((kk : Int) + 1))
      rw [set_mid _ _ _ _ _ (by rw [List.length_append, hpre.out]; rfl)] at rb
      have RB := Lib.hid rb
      have GB := Lib.hid (ga.trans gb)
      have CT := Lib.hid (fun w => markText_any (kk + 2) w (by omega) (by omega))
      have e2 : ((kk + 2 : Nat) : Int) = (kk : Int) + 1 + 1 := by omega
      rw [e2] at CT
      have HSum : Hid (kk + 3 + 3 * cntT ks[j] + 3 * cntS (ks.drop (j + 1)) = k + 3 * C) := by show _ = _; have := hsum.out; omega
      have hkb2 : kk + 3 + 3 * cntT ks[j] ≤ 4611686018427387904 := by have := HSum.out; have := HB.out; omega
      have CM := Lib.hid (fun w hi2 h => IH.out ks[j] (List.getElem_mem hlt) (.slice ka ks[j].kids.length kc) w mj hi2 (kk + 3) (by omega) (by omega) h)
      have e3b : ((kk + 3 : Nat) : Int) = (kk : Int) + 1 + 1 + 1 := by omega
      rw [e3b] at CM
      have HOK3 := Lib.hid hok3
      have HOL3 := Lib.hid hol3
      have f1b := ra.frozenAt (j * 4 + 1)
      obtain ⟨z1, q1b⟩ := row_some ra (j := j * 4 + 1) (by omega)
      clear hd e2 e3 e3b ra rb ga gb hok3 hol3 how hrest3 hrow3
      go_wp2_with fail
      refine (CT.out _).mono ?_
      rintro e w2 ⟨rfl, hg2⟩
      have R2 := Lib.hid (RB.out.kept hg2 (.inr (by simp [Value.ownBlock])))
      have G2 := Lib.hid (GB.out.trans (grown_but hg2 (some g)))
      have f2 := R2.out.frozenAt (j * 4 + 2)
      obtain ⟨z2, q2⟩ := row_some R2.out (j := j * 4 + 2) (by omega)
      obtain ⟨rd, gd⟩ := R2.out.stored (j * 4 + 2) (.string (markB (kk + 2)))
      rw [set_mid _ _ _ _ _ (by rw [List.length_append, List.length_append, hpre.out]; rfl)] at rd
      have RD := Lib.hid rd
      have GD := Lib.hid (G2.out.trans gd)
      have q3 : (w2.setCell ⟨g, j * 4 + 2, none⟩ (.string (markB (kk + 2)))).cell? ⟨g, j * 4 + 3, none⟩ = some (.slice ka ks[j].kids.length kc) := by
        rw [rd.cellAt (j * 4 + 3) (by omega), List.getElem?_append_right (by simp [hpre.out])]
        simp [hpre.out]
      have hsz2 : wr.heap.size ≤ (w2.setCell ⟨g, j * 4 + 2, none⟩ (.string (markB (kk + 2)))).heap.size := GD.out.size
      have hsame : ∀ b, m ≤ b → b < hi → (w2.setCell ⟨g, j * 4 + 2, none⟩ (.string (markB (kk + 2)))).heap[b]? = wr.heap[b]? := fun b h1 h2 => GD.out.block b (by omega) (by simp; omega)
      have HSA := Lib.hid hsame
      have D := Lib.hid (CM.out _ mid (Nat.le_trans hmh (Nat.le_trans hhi (Nat.le_trans hsw hsz2))) (HOK3.out.same (fun b h1 h2 => hsame b (Nat.le_trans hmj.out h1) (by omega))))
      clear rd gd hsame
      go_wp2_with fail
      refine D.out.mono ?_
      rintro e w3 ⟨rfl, hm3⟩
      have HM3 := Lib.hid hm3
      have hlt3 : g < (w2.setCell ⟨g, j * 4 + 2, none⟩ (.string (markB (kk + 2)))).heap.size := (RD.out.lt g rfl).2
      have hgj : g < mj := by have := hmj.out; omega
      have R3 := Lib.hid (row_same RD.out (w' := w3) (fun b hb => by cases hb; exact HM3.out.block g hlt3 (.inl hgj)))
      have L3 : Hid (OwnsL w3 mid hi (ks.drop (j + 1)) rest2) := HOL3.out.same (fun b h1 h2 => (HM3.out.block b (by omega) (.inr h1)).trans (HSA.out b (by have := hmj.out; omega) h2))
      have HMk : Hid (Marks lo hi w w3) := (hmk.out.trans (Marks.of_grown GD.out (fun b hb => by cases hb; exact ⟨(RD.out.lt g rfl).1, by omega⟩))).trans (HM3.out.wide (by have := hmj.out; omega) hmh)
      clear hm3
      go_wp2
      go_roundw
      case rel => exact ⟨j + 1, kk + 3 + 3 * cntT ks[j], mid, pre ++ [Value.int .i64 (kk : Int)] ++ [Value.int .i64 ((kk : Int) + 1)] ++ [Value.string (markB (kk + 2))] ++ [Value.slice ka ks[j].kids.length kc], rest2, by omega, by go_num, rfl, by omega, hkb2, HSum, by show List.length _ = _; rw [List.length_append, List.length_append, List.length_append, List.length_append, hpre.out]; simp; omega, by show _ ≤ _; have := hmj.out; omega, by show World.ownsRow _ _ _ _ _ _ _; have := R3.out; rw [show ∀ (A : List Value) (c : Value) (r : List Value), A ++ c :: r = (A ++ [c]) ++ r from fun A c r => by simp] at this; exact this, L3.out, HMk.out⟩
      case measure => simp [intOf]; omega
    · have HS : Hid (kk = k + 3 * C) := by show _ = _; have := hsum.out; rw [cntS_end (by omega)] at this; omega
      go_wp2
      go_ret
      exact ⟨by rw [HS.out]; rfl, hmk.out⟩
end Go.Proofs.YtofmccihehalcaaGreat.Trm
/- The laws' helpers over a list of texts that the call owns, walked: alike, marked. Conditions: the rows are owned by the call. -/
namespace Go.Proofs.YtofmccihehalcaaGreat.Own
open Go.RowKit
set_option maxHeartbeats 400000 in
theorem eqStrings_same (v1 v2 : Value) (b1 b2 n : Nat) (ss : List ByteArray) (w : World) (h1 : w.ownsRow b1 9 1 v1 n (strV ss)) (h2 : w.ownsRow b2 9 1 v2 n (strV ss)) :
    Calls Tryz.prog 63 #[v1, v2] w fun e w' => e = .returned (.bool true) ∧ ∃ m, w' = w.drewN m := by
  obtain ⟨a1, c1, rfl, ha1⟩ := row_shape h1
  obtain ⟨a2, c2, rfl, ha2⟩ := row_shape h2
  have hl := row_len h1
  have hm := row_small h1
  unfold maxLen at hm
  have H1 : Hid (w.ownsRow b1 9 1 (.slice a1 n c1) n (strV ss)) := h1
  have H2 : Hid (w.ownsRow b2 9 1 (.slice a2 n c2) n (strV ss)) := h2
  have HA1 : Hid (0 < n → ∃ g, a1 = some ⟨g, 0, none⟩) := ha1
  have HA2 : Hid (0 < n → ∃ g, a2 = some ⟨g, 0, none⟩) := ha2
  have HL : Hid (ss.length = n) := hl
  clear h1 h2 ha1 ha2 hl
  go_enter Tryz.func63, Tryz.ntmps63
  go_wp2
  go_loopw [5] (fun i wr => ∃ k m : Nat, k ≤ n ∧ i = .int .i64 k ∧ wr = w.drewN m)
    (fun i _ => n - (intOf i).toNat)
  case atStart => exact ⟨0, 0, Nat.zero_le _, rfl, (World.drewN_zero _).symm⟩
  case round =>
    obtain ⟨k, m, hk, rfl, rfl⟩ := hrel
    by_cases hlt : k < n
    · obtain ⟨g1, rfl⟩ := HA1.out (by omega)
      obtain ⟨g2, rfl⟩ := HA2.out (by omega)
      have hks : k < ss.length := by rw [HL.out]; exact hlt
      have q1 := row_cell H1.out k hks
      have q2 := row_cell H2.out k hks
      go_wp2
      go_quiet (fail)
      go_wp2
      go_roundw
      case rel => exact ⟨k + 1, m + nq, by omega, by go_num, rfl⟩
      case measure => simp [intOf]; omega
    · go_wp2
      go_ret
      exact ⟨rfl, m, rfl⟩
/-- The marks from k on. -/
def marks (k n : Nat) : List ByteArray := (List.range n).map fun j => markB (k + j)
theorem marks_length (k n : Nat) : (marks k n).length = n := by simp [marks]
theorem marks_at (k n j : Nat) (h : j < (marks k n).length) : (marks k n)[j] = markB (k + j) := by simp [marks]
theorem marks_step (k i : Nat) (ss : List ByteArray) (h : i < ss.length) : (marks k i ++ ss.drop i).set i (markB (k + i)) = marks k (i + 1) ++ ss.drop (i + 1) := by
  rw [List.set_append_right _ _ (by simp [marks_length]), marks_length, Nat.sub_self, List.drop_eq_getElem_cons h, List.set_cons_zero]
  simp [marks, List.range_succ]
theorem marks_step_row {w : World} {base : Nat} {e : TypeId} {g n c k i : Nat} {ss : List ByteArray} (h : w.ownsRow base e 1 (.slice (some ⟨g, 0, none⟩) n c) n (strV (marks k i ++ ss.drop i))) (hi : i < ss.length) :
    (w.setCell ⟨g, i, none⟩ (.string (markB (k + i)))).ownsRow base e 1 (.slice (some ⟨g, 0, none⟩) n c) n (strV (marks k (i + 1) ++ ss.drop (i + 1))) ∧ w.grownBy (w.setCell ⟨g, i, none⟩ (.string (markB (k + i)))) (some g) := by
  have := h.stored i (.string (markB (k + i)))
  rw [← marks_step k i ss hi]
  simpa [strV, List.map_set] using this

set_option maxHeartbeats 400000 in
theorem markStrings_any (v : Value) (b n k : Nat) (ss : List ByteArray) (w : World) (h1 : w.ownsRow b 9 1 v n (strV ss)) (hk1 : 1 ≤ k) (hk2 : k + n ≤ 9223372036854775807) :
    Calls Tryz.prog 65 #[v, .int .i64 (k : Int)] w fun e w' => e = .returned (.int .i64 ((k + n : Nat) : Int)) ∧ w'.ownsRow b 9 1 v n (strV (marks k n)) ∧ w.grownBy w' v.ownBlock := by
  obtain ⟨a1, c1, rfl, ha1⟩ := row_shape h1
  have HL : Hid (ss.length = n) := row_len h1
  have H1 : Hid (w.ownsRow b 9 1 (.slice a1 n c1) n (strV ss)) := h1
  have HA1 : Hid (0 < n → ∃ g, a1 = some ⟨g, 0, none⟩) := ha1
  clear h1 ha1
  go_enter Tryz.func65, Tryz.ntmps65
  go_wp2
  go_loopw [1, 5] (fun x i wr => ∃ j : Nat, j ≤ n ∧ i = .int .i64 j ∧ x = .int .i64 ((k + j : Nat) : Int) ∧ Hid (wr.ownsRow b 9 1 (.slice a1 n c1) n (strV (marks k j ++ ss.drop j)) ∧ w.grownBy wr (Value.slice a1 n c1).ownBlock))
    (fun _ i _ => n - (intOf i).toNat)
  case atStart => exact ⟨0, Nat.zero_le _, rfl, rfl, H1.out, World.grownBy.refl _ _⟩
  case round =>
    obtain ⟨j, hj, rfl, rfl, hin⟩ := hrel
    by_cases hlt : j < n
    · obtain ⟨g1, rfl⟩ := HA1.out (by omega)
      have hjs : j < ss.length := by rw [HL.out]; exact hlt
      go_wp2_with (go_at_call 96; refine (markText_any (k + j) _ (by omega) (by omega)).mono ?_; rintro e w1 ⟨rfl, hg1⟩; have r1 := hin.out.1.kept hg1 (.inr (by simp [Value.ownBlock])); obtain ⟨u, cl⟩ : ∃ u, w1.cell? ⟨g1, j, none⟩ = some u := ⟨_, row_cell r1 j (by rw [row_len r1]; exact hlt)⟩; have fz := r1.frozenAt j; have R1 := Lib.hid r1; clear r1)
      go_roundw
      case rel => exact ⟨j + 1, by omega, by go_num, by go_num, (marks_step_row R1.out hjs).1, hin.out.2.trans ((grown_but hg1 _).trans (marks_step_row R1.out hjs).2)⟩
      case measure => simp [intOf]; omega
    · obtain rfl : j = n := by omega
      have hdr : ss.drop j = [] := List.drop_of_length_le (by rw [HL.out]; exact Nat.le_refl _)
      go_wp2
      go_ret
      have := hin.out
      rw [hdr, List.append_nil] at this
      exact ⟨rfl, this.1, this.2⟩
end Go.Proofs.YtofmccihehalcaaGreat.Own
/- The laws' marks over codes that the call owns, walked. Conditions: the code lies in rows of the call's own, the rows apart. -/
namespace Go.Proofs.YtofmccihehalcaaGreat.Trm
open Go.RowKit Go.Proofs.YtofmccihehalcaaGreat.Own
theorem krow_up {w w' : World} {base : Nat} {e : TypeId} {size : Nat} {v : Value} {n : Nat} {xs : List Value} (h : w.ownsRow base e size v n xs) (hb : Below w.heap.size w w') : w'.ownsRow base e size v n xs := row_below h hb
theorem krow_marks {w w' : World} {base : Nat} {e : TypeId} {size : Nat} {v : Value} {n lo hi : Nat} {xs : List Value} (h : w.ownsRow base e size v n xs) (hm : Marks lo hi w w') (ho : ∀ b, v.ownBlock = some b → b < lo ∨ hi ≤ b) : w'.ownsRow base e size v n xs :=
  row_same h fun b hb => hm.block b (h.lt b hb).2 (ho b hb)
theorem krow_other {w w' : World} {base : Nat} {e : TypeId} {size : Nat} {v : Value} {n : Nat} {xs : List Value} {g : Option Nat} (h : w.ownsRow base e size v n xs) (hg : w.grownBy w' g) (ho : ∀ b, v.ownBlock = some b → g ≠ some b) : w'.ownsRow base e size v n xs :=
  row_same h fun b hb => hg.block b (h.lt b hb).2 (fun e1 => ho b hb e1.symm)
def mkIs : List InsT → Nat
  | [] => 0
  | a :: r => 6 + 3 * cntT a.term + mkIs r
def mkK (x : KTree) : Nat := x.globals.length + (x.locks.length + (x.procs.length + (x.entry.length + mkIs x.ins)))
theorem mkIs_le : ∀ xs : List InsT, mkIs xs ≤ 6 * (xs.length + szIs xs)
  | [] => by simp [mkIs]
  | a :: r => by
    rw [mkIs, szIs, List.length_cons]
    have h1 := cntT_le a.term
    have h2 := mkIs_le r
    unfold szI
    omega
theorem mkK_le (x : KTree) : mkK x ≤ 6 * szK x := by
  have := mkIs_le x.ins
  unfold mkK szK
  omega
theorem mkIs_drop {xs : List InsT} {i : Nat} (h : i < xs.length) : mkIs (xs.drop i) = 6 + 3 * cntT xs[i].term + mkIs (xs.drop (i + 1)) := by rw [List.drop_eq_getElem_cons h, mkIs]
theorem mkIs_end {xs : List InsT} {i : Nat} (h : xs.length ≤ i) : mkIs (xs.drop i) = 0 := by rw [List.drop_of_length_le h, mkIs]
theorem mid_at7 {w : World} {lo : Nat} {g n cap : Nat} {pre zs rest : List Value} {z : Value} (h : w.ownsRow lo 47 7 (.slice (some ⟨g, 0, none⟩) n cap) n (pre ++ zs ++ z :: rest)) {j i : Nat} (hp : pre.length = j * 7) (hz : zs.length = i) (hj : j < n) (hi : i < 7) : w.cell? ⟨g, j * 7 + i, none⟩ = some z := by
  rw [h.cellAt (j * 7 + i) (by omega), List.getElem?_append_right (by simp; omega)]
  have : j * 7 + i - (pre ++ zs).length = 0 := by rw [List.length_append]; omega
  rw [this]; rfl
theorem mid_set7 {w : World} {lo : Nat} {g n cap : Nat} {pre zs rest : List Value} {z : Value} (u : Value) (h : w.ownsRow lo 47 7 (.slice (some ⟨g, 0, none⟩) n cap) n (pre ++ zs ++ z :: rest)) {j i : Nat} (hp : pre.length = j * 7) (hz : zs.length = i) :
    (w.setCell ⟨g, j * 7 + i, none⟩ u).ownsRow lo 47 7 (.slice (some ⟨g, 0, none⟩) n cap) n (pre ++ (zs ++ [u]) ++ rest) ∧ w.grownBy (w.setCell ⟨g, j * 7 + i, none⟩ u) (some g) := by
  obtain ⟨h1, h2⟩ := h.stored (j * 7 + i) u
  rw [set_mid _ _ _ _ _ (by rw [List.length_append]; omega)] at h1
  rw [List.append_assoc pre zs [u]] at h1
  exact ⟨h1, h2⟩
theorem mid_next7 {w : World} {lo : Nat} {v : Value} {n : Nat} {pre zs rest : List Value} {z : Value} (h : w.ownsRow lo 47 7 v n (pre ++ zs ++ z :: rest)) : w.ownsRow lo 47 7 v n (pre ++ (zs ++ [z]) ++ rest) := by
  rw [show pre ++ (zs ++ [z]) ++ rest = pre ++ zs ++ z :: rest from by simp]; exact h
set_option maxHeartbeats 3200000 in
theorem markIs_any (xs : List InsT) (v : Value) (w : World) (out : Nat → Prop) (base lo hi k : Nat) (cs : List Value) (hk1 : 1 ≤ k) (hkb : k + mkIs xs ≤ 4611686018427387904) (hrow : w.ownsRow base 47 7 v xs.length cs) (hg : ∀ b, v.ownBlock = some b → out b ∧ lo ≤ b ∧ b < hi) (hol : IOwnL w out lo hi xs cs) (hhi : hi ≤ w.heap.size) :
    Calls Tryz.prog 66 #[v, .int .i64 (k : Int)] w fun e w' => e = .returned (.int .i64 ((k + mkIs xs : Nat) : Int)) ∧ Marks lo hi w w' := by
  have hlen := row_small hrow
  unfold maxLen at hlen
  obtain ⟨aa, cap, rfl, haa⟩ := row_shape hrow
  have HB := Lib.hid hkb
  have HA := Lib.hid haa
  have HR := Lib.hid hrow
  have HL : Hid (IOwnL w out lo hi (xs.drop 0) cs) := hol
  have HM := Lib.hid hg
  have HHI := Lib.hid hhi
  clear hrow hol hg haa
  go_enter Tryz.func66, Tryz.ntmps66
  go_wp2
  go_loopw [1, 5] (fun x i wr => ∃ (j kk mj : Nat) (pre rest : List Value), j ≤ xs.length ∧ i = .int .i64 j ∧ x = .int .i64 kk ∧ 1 ≤ kk ∧ kk ≤ 4611686018427387904 ∧ Hid (kk + mkIs (xs.drop j) = k + mkIs xs) ∧ Hid (pre.length = j * 7) ∧ Hid (lo ≤ mj) ∧ Hid (wr.ownsRow base 47 7 (.slice aa xs.length cap) xs.length (pre ++ rest)) ∧ Hid (IOwnL wr out mj hi (xs.drop j) rest) ∧ Hid (Marks lo hi w wr))
    (fun _ i _ => xs.length - (intOf i).toNat)
  case atStart => exact ⟨0, k, lo, [], cs, Nat.zero_le _, rfl, rfl, hk1, by omega, rfl, rfl, Nat.le_refl _, HR.out, HL.out, Marks.refl _ _ _⟩
  case round =>
    obtain ⟨j, kk, mj, pre, rest, hj, rfl, rfl, hk2, hk3, hsum, hpre, hmj, hrow, hol, hmk⟩ := hrel
    by_cases hlt : j < xs.length
    · obtain ⟨g, rfl⟩ := HA.out (by omega)
      have hd := mkIs_drop hlt
      have hol2 := hol.out
      rw [List.drop_eq_getElem_cons hlt] at hol2
      obtain ⟨kv, rest2, l, m, rfl, _, _, _, hjl, how, hno, hol3⟩ := hol2
      have hgm := HM.out g rfl
      have hmh := hol3.le
      have hlm := how.le
      have hsw := hmk.out.size
      have hng : g < l ∨ m ≤ g := by
        rcases Nat.lt_or_ge g l with h1 | h1
        · exact .inl h1
        · rcases Nat.lt_or_ge g m with h2 | h2
          · exact absurd hgm.1 (hno g h1 h2)
          · exact .inr h2
      obtain ⟨_, _, _, kv4, e5, hok⟩ := how.parts
      have e6 : kv = kv4 := by unfold aggT at e5; simpa using e5
      subst e6
      obtain ⟨ta, tc, rfl⟩ : ∃ a c, kv = .slice a xs[j].term.kids.length c := by obtain ⟨_, _, r, _⟩ := id hok; obtain ⟨a, c, e, _⟩ := row_shape r; exact ⟨a, c, e⟩
      have r0 := hrow.out
      rw [show ∀ (a : Value), pre ++ (cellsI xs[j] a ++ rest2) = pre ++ [] ++ Value.int .i64 xs[j].op :: (Value.int .i64 xs[j].arg :: Value.int .i64 xs[j].term.kind :: Value.int .i64 xs[j].term.num :: Value.string xs[j].term.name :: a :: Value.int .i64 xs[j].to :: rest2) from fun a => by simp [cellsI]] at r0
      have f0 := r0.frozenAt (j * 7 + 0)
      have q0 := mid_at7 r0 hpre.out (i := 0) rfl hlt (by omega)
      obtain ⟨r1, g1⟩ := mid_set7 (.int .i64 (kk : Int)) r0 hpre.out (i := 0) rfl
      have f1 := r1.frozenAt (j * 7 + 1)
      have q1 := mid_at7 r1 hpre.out (i := 1) rfl hlt (by omega)
      obtain ⟨r2, g2⟩ := mid_set7 (.int .i64 ((kk : Int) + 1)) r1 hpre.out (i := 1) rfl
      have f2 := r2.frozenAt (j * 7 + 2)
      have q2 := mid_at7 r2 hpre.out (i := 2) rfl hlt (by omega)
      obtain ⟨r3, g3⟩ := mid_set7 (.int .i64 ((kk : Int) + 1 + 1)) r2 hpre.out (i := 2) rfl
      have f3 := r3.frozenAt (j * 7 + 3)
      have q3 := mid_at7 r3 hpre.out (i := 3) rfl hlt (by omega)
      obtain ⟨r4, g4⟩ := mid_set7 (.int .i64 ((kk : Int) + 1 + 1 + 1)) r3 hpre.out (i := 3) rfl
      simp only [Nat.add_zero] at f0 q0 f1 q1 f2 q2 f3 q3 r4 g1 g2 g3 g4
      have R4 := Lib.hid r4
      have G4 := Lib.hid (g1.trans (g2.trans (g3.trans g4)))
      have CT := Lib.hid (fun w => markText_any (kk + 4) w (by omega) (by omega))
      rw [show ((kk + 4 : Nat) : Int) = (kk : Int) + 1 + 1 + 1 + 1 from by omega] at CT
      have HSum : Hid (kk + 6 + 3 * cntT xs[j].term + mkIs (xs.drop (j + 1)) = k + mkIs xs) := by show _ = _; have := hsum.out; omega
      have hkb2 : kk + 6 + 3 * cntT xs[j].term ≤ 4611686018427387904 := by have := HSum.out; have := HB.out; omega
      have CK := Lib.hid (fun w (h2 : m ≤ w.heap.size) => markTerms_any xs[j].term (.slice ta xs[j].term.kids.length tc) w l m (kk + 5) (by omega) (by omega) h2)
      rw [show ((kk + 5 : Nat) : Int) = (kk : Int) + 1 + 1 + 1 + 1 + 1 from by omega] at CK
      have HOK := Lib.hid hok
      have HOL3 := Lib.hid hol3
      have HNO := Lib.hid hno
      have HLE := Lib.hid (And.intro hlm (And.intro hmh (And.intro hjl hng)))
      have HGM := Lib.hid hgm
      have HSZ : Hid (hi ≤ wr.heap.size) := Nat.le_trans HHI.out hsw
      clear hd r0 r1 r2 r3 r4 g1 g2 g3 g4 hok hol3 hno how e5 hlm hmh hjl hng hgm hsum hol
      go_wp2_with fail
      refine (CT.out _).mono ?_
      rintro e w2 ⟨rfl, hg2⟩
      have R5 := Lib.hid (R4.out.kept hg2 (.inr (by simp [Value.ownBlock])))
      have G5 := Lib.hid (G4.out.trans (grown_but hg2 (some g)))
      obtain ⟨r6, g6⟩ := mid_set7 (.string (markB (kk + 4))) R5.out hpre.out (i := 4) rfl
      have q4 := mid_at7 R5.out hpre.out (i := 4) rfl hlt (by omega)
      have f4 := R5.out.frozenAt (j * 7 + 4)
      have R6 := Lib.hid r6
      have G6 := Lib.hid (G5.out.trans g6)
      obtain ⟨W6, hW6⟩ : ∃ W6, W6 = w2.setCell ⟨g, j * 7 + 4, none⟩ (.string (markB (kk + 4))) := ⟨_, rfl⟩
      rw [← hW6] at R6 G6
      have HW6 := Lib.hid hW6
      have x5 := mid_at7 R6.out hpre.out (i := 5) rfl hlt (by omega)
      rw [HW6.out] at x5
      have hsa : Hid (∀ b, l ≤ b → b < hi → ¬ b = g → W6.heap[b]? = wr.heap[b]?) := fun b h1 h2 h3 => G6.out.block b (by have := HSZ.out; omega) (by simpa using h3)
      have HG6 : Hid (hi ≤ W6.heap.size) := Nat.le_trans HSZ.out G6.out.size
      clear r6 g6 hg2 f0 f1 f2 f3 q0 q1 q2 q3 hW6
      go_wp2_with fail
      rw [← HW6.out]
      refine (CK.out _ (by have := HLE.out; have := HG6.out; omega) (HOK.out.same (fun b h1 h2 => hsa.out b h1 (by have := HLE.out; omega) (by have := HLE.out; omega)))).mono ?_
      rintro e w7 ⟨rfl, hm7⟩
      have HM7 := Lib.hid hm7
      have hg7 : g < W6.heap.size := (R6.out.lt g rfl).2
      have R7 := Lib.hid (row_same R6.out (w' := w7) (fun b hb => by cases hb; exact HM7.out.block g hg7 HLE.out.2.2.2))
      have x6 := mid_at7 (mid_next7 R7.out) hpre.out (i := 6) rfl hlt (by omega)
      have f6 := R7.out.frozenAt (j * 7 + 6)
      obtain ⟨r8, g8⟩ := mid_set7 (.int .i64 ((kk + 5 + 3 * cntT xs[j].term : Nat) : Int)) (mid_next7 R7.out) hpre.out (i := 6) rfl
      have R8 := Lib.hid r8
      have G8 := Lib.hid g8
      have L8 : Hid (IOwnL (w7.setCell ⟨g, j * 7 + 6, none⟩ (.int .i64 ((kk + 5 + 3 * cntT xs[j].term : Nat) : Int))) out m hi (xs.drop (j + 1)) rest2) := HOL3.out.same (fun b h1 h2 h3 => by
        have hbg : ¬ b = g := fun e => h3 (e ▸ HGM.out.1)
        have := HLE.out
        have z1 : b < w7.heap.size := by have := HG6.out; have := HM7.out.size; omega
        exact (G8.out.block b z1 (by simpa using hbg)).trans ((HM7.out.block b (by have := HG6.out; omega) (.inr h1)).trans (hsa.out b (by omega) h2 hbg)))
      have HMk : Hid (Marks lo hi w (w7.setCell ⟨g, j * 7 + 6, none⟩ (.int .i64 ((kk + 5 + 3 * cntT xs[j].term : Nat) : Int)))) := ((hmk.out.trans (Marks.of_grown G6.out (fun b hb => by cases hb; exact HGM.out.2))).trans (HM7.out.wide (by have := HLE.out; have := hmj.out; omega) (by have := HLE.out; omega))).trans (Marks.of_grown G8.out (fun b hb => by cases hb; exact HGM.out.2))
      have HPL : Hid (lo ≤ m) := by show _ ≤ _; have := hmj.out; have := HLE.out; omega
      clear hm7 x5 q4 f4 r8 g8
      go_wp2
      go_roundw
      case rel =>
        refine ⟨j + 1, kk + 6 + 3 * cntT xs[j].term, m, pre ++ [Value.int .i64 (kk : Int), Value.int .i64 ((kk : Int) + 1), Value.int .i64 ((kk : Int) + 1 + 1), Value.int .i64 ((kk : Int) + 1 + 1 + 1), Value.string (markB (kk + 4)), .slice ta xs[j].term.kids.length tc, .int .i64 ((kk + 5 + 3 * cntT xs[j].term : Nat) : Int)], rest2, by omega, by go_num, by go_num, by omega, hkb2, HSum, ?_, HPL, ?_, L8, HMk⟩
        · show List.length _ = _
          rw [List.length_append, hpre.out]; simp; omega
        · have := R8.out
          show World.ownsRow _ _ _ _ _ _ _
          simpa using this
      case measure => simp [intOf]; omega
    · have HS : Hid (kk = k + mkIs xs) := by show _ = _; have := hsum.out; rw [mkIs_end (by omega)] at this; omega
      go_wp2
      go_ret
      exact ⟨by rw [HS.out]; rfl, hmk.out⟩
/-- Code that the call owns, all of it in the blocks from lo to hi. -/
def KOwnH (w : World) (lo hi : Nat) (k : KTree) (v : Value) : Prop := ∃ ga gc la lc pa pc ea ec ia ic cs, v = .agg #[.slice ga k.globals.length gc, .slice la k.locks.length lc, .slice pa k.procs.length pc, .slice ea k.entry.length ec, .slice ia k.ins.length ic] ∧
  w.ownsRow lo 9 1 (.slice ga k.globals.length gc) k.globals.length (strV k.globals) ∧ w.ownsRow lo 9 1 (.slice la k.locks.length lc) k.locks.length (strV k.locks) ∧ w.ownsRow lo 9 1 (.slice pa k.procs.length pc) k.procs.length (strV k.procs) ∧ w.ownsRow lo 3 1 (.slice ea k.entry.length ec) k.entry.length (intV k.entry) ∧ w.ownsRow lo 47 7 (.slice ia k.ins.length ic) k.ins.length cs ∧
  Apart [.slice ga k.globals.length gc, .slice la k.locks.length lc, .slice pa k.procs.length pc, .slice ea k.entry.length ec, .slice ia k.ins.length ic] ∧
  (∀ b, RowsOf [.slice ga k.globals.length gc, .slice la k.locks.length lc, .slice pa k.procs.length pc, .slice ea k.entry.length ec, .slice ia k.ins.length ic] b → lo ≤ b ∧ b < hi) ∧
  IOwnL w (RowsOf [.slice ga k.globals.length gc, .slice la k.locks.length lc, .slice pa k.procs.length pc, .slice ea k.entry.length ec, .slice ia k.ins.length ic]) lo hi k.ins cs ∧ hi ≤ w.heap.size
theorem rowsOf5 {a b c d e : Value} {k : Nat} : RowsOf [a, b, c, d, e] k ↔ a.ownBlock = some k ∨ b.ownBlock = some k ∨ c.ownBlock = some k ∨ d.ownBlock = some k ∨ e.ownBlock = some k := by
  simp only [RowsOf, List.map_cons, List.map_nil, List.mem_cons, List.not_mem_nil, or_false]
  constructor
  · rintro (h | h | h | h | h)
    · exact .inl h.symm
    · exact .inr (.inl h.symm)
    · exact .inr (.inr (.inl h.symm))
    · exact .inr (.inr (.inr (.inl h.symm)))
    · exact .inr (.inr (.inr (.inr h.symm)))
  · rintro (h | h | h | h | h)
    · exact .inl h.symm
    · exact .inr (.inl h.symm)
    · exact .inr (.inr (.inl h.symm))
    · exact .inr (.inr (.inr (.inl h.symm)))
    · exact .inr (.inr (.inr (.inr h.symm)))
theorem KOwn.h {w : World} {lo : Nat} {k : KTree} {v : Value} (h : KOwn w lo k v) : KOwnH w lo w.heap.size k v := by
  obtain ⟨ga, gc, la, lc, pa, pc, ea, ec, ia, ic, cs, hi, rfl, n1, n2, n3, n4, r1, r2, r3, r4, r5, ha, ho, hh⟩ := h
  refine ⟨ga, gc, la, lc, pa, pc, ea, ec, ia, ic, cs, rfl, r1, r2, r3, r4, r5, ha, fun b hb => ?_, ho.wideR hh, Nat.le_refl _⟩
  rcases rowsOf5.1 hb with h | h | h | h | h
  · exact r1.lt b h
  · exact r2.lt b h
  · exact r3.lt b h
  · exact r4.lt b h
  · exact r5.lt b h
theorem KOwnH.keep {w w' : World} {lo hi : Nat} {k : KTree} {v : Value} (h : KOwnH w lo hi k v) (hs : Same lo hi w w') (hw : hi ≤ w'.heap.size) : KOwnH w' lo hi k v := by
  obtain ⟨ga, gc, la, lc, pa, pc, ea, ec, ia, ic, cs, rfl, r1, r2, r3, r4, r5, ha, hr, ho, hh⟩ := h
  have key : ∀ b, RowsOf [.slice ga k.globals.length gc, .slice la k.locks.length lc, .slice pa k.procs.length pc, .slice ea k.entry.length ec, .slice ia k.ins.length ic] b → w'.heap[b]? = w.heap[b]? := fun b hb => hs b (hr b hb).1 (hr b hb).2
  exact ⟨ga, gc, la, lc, pa, pc, ea, ec, ia, ic, cs, rfl, row_same r1 (fun b hb => key b (rowsOf5.2 (.inl hb))), row_same r2 (fun b hb => key b (rowsOf5.2 (.inr (.inl hb)))), row_same r3 (fun b hb => key b (rowsOf5.2 (.inr (.inr (.inl hb))))), row_same r4 (fun b hb => key b (rowsOf5.2 (.inr (.inr (.inr (.inl hb)))))), row_same r5 (fun b hb => key b (rowsOf5.2 (.inr (.inr (.inr (.inr hb)))))), ha, hr, ho.same (fun b g1 g2 _ => hs b g1 g2), hw⟩
set_option maxHeartbeats 1600000 in
theorem markCode_any (x : KTree) (v : Value) (w : World) (lo hi k : Nat) (hk1 : 1 ≤ k) (hkb : k + mkK x ≤ 4611686018427387904) (h : KOwnH w lo hi x v) :
    Calls Tryz.prog 29 #[v, .int .i64 (k : Int)] w fun e w' => e = .returned (.int .i64 ((k + mkK x : Nat) : Int)) ∧ Marks lo hi w w' := by
  obtain ⟨ga, gc, la, lc, pa, pc, ea, ec, ia, ic, cs, rfl, r1, r2, r3, r4, r5, ⟨a1, a2, a3, a4, _, _⟩, hr, ho, hh⟩ := h
  have hkb2 : k + (x.globals.length + (x.locks.length + (x.procs.length + (x.entry.length + mkIs x.ins)))) ≤ 4611686018427387904 := hkb
  have HR := Lib.hid hr
  have A1 : Hid (∀ b, (Value.slice ga x.globals.length gc).ownBlock = some b → ¬ (Value.slice la x.locks.length lc).ownBlock = some b ∧ ¬ (Value.slice pa x.procs.length pc).ownBlock = some b ∧ ¬ (Value.slice ea x.entry.length ec).ownBlock = some b ∧ ¬ (Value.slice ia x.ins.length ic).ownBlock = some b) := fun b hb => ⟨fun h => a1 b hb (by simp [RowsOf, h]), fun h => a1 b hb (by simp [RowsOf, h]), fun h => a1 b hb (by simp [RowsOf, h]), fun h => a1 b hb (by simp [RowsOf, h])⟩
  have A2 : Hid (∀ b, (Value.slice la x.locks.length lc).ownBlock = some b → ¬ (Value.slice pa x.procs.length pc).ownBlock = some b ∧ ¬ (Value.slice ea x.entry.length ec).ownBlock = some b ∧ ¬ (Value.slice ia x.ins.length ic).ownBlock = some b) := fun b hb => ⟨fun h => a2 b hb (by simp [RowsOf, h]), fun h => a2 b hb (by simp [RowsOf, h]), fun h => a2 b hb (by simp [RowsOf, h])⟩
  have A3 : Hid (∀ b, (Value.slice pa x.procs.length pc).ownBlock = some b → ¬ (Value.slice ea x.entry.length ec).ownBlock = some b ∧ ¬ (Value.slice ia x.ins.length ic).ownBlock = some b) := fun b hb => ⟨fun h => a3 b hb (by simp [RowsOf, h]), fun h => a3 b hb (by simp [RowsOf, h])⟩
  have A4 : Hid (∀ b, (Value.slice ea x.entry.length ec).ownBlock = some b → ¬ (Value.slice ia x.ins.length ic).ownBlock = some b) := fun b hb h => a4 b hb (by simp [RowsOf, h])
  have X0 := Lib.hid (Box5.new w (.slice ga x.globals.length gc) (.slice la x.locks.length lc) (.slice pa x.procs.length pc) (.slice ea x.entry.length ec) (.slice ia x.ins.length ic) 28)
  have hs0 : (w.alloc (.cells #[.slice ga x.globals.length gc, .slice la x.locks.length lc, .slice pa x.procs.length pc, .slice ea x.entry.length ec, .slice ia x.ins.length ic] 28)).heap.size = w.heap.size + 1 := by simp
  have hb0 := (Below.refl w.heap.size w).alloc (Nat.le_refl _) (.cells #[.slice ga x.globals.length gc, .slice la x.locks.length lc, .slice pa x.procs.length pc, .slice ea x.entry.length ec, .slice ia x.ins.length ic] 28)
  have P1 := Lib.hid (row_below r1 hb0)
  have P2 := Lib.hid (row_below r2 hb0)
  have P3 := Lib.hid (row_below r3 hb0)
  have P4 := Lib.hid (row_below r4 hb0)
  have P5 := Lib.hid (row_below r5 hb0)
  have PO := Lib.hid (ho.same (fun b _ g2 _ => hb0.block b (by omega)))
  have HK : Hid (k + mkK x = k + x.globals.length + x.locks.length + x.procs.length + x.entry.length + mkIs x.ins) := by show _ = _; unfold mkK; omega
  obtain ⟨W1, hW1⟩ : ∃ w1, w1 = w.alloc (.cells #[.slice ga x.globals.length gc, .slice la x.locks.length lc, .slice pa x.procs.length pc, .slice ea x.entry.length ec, .slice ia x.ins.length ic] 28) := ⟨_, rfl⟩
  rw [← hW1] at P1 P2 P3 P4 P5 PO X0 hb0 hs0
  have HB0 := Lib.hid hb0
  obtain ⟨p0, p1, p2, p3, p4⟩ := X0.out
  rw [hW1] at p0 p1 p2 p3 p4
  have HW1 := Lib.hid hW1
  have HH := Lib.hid hh
  have hbx : Hid (∀ b, RowsOf [.slice ga x.globals.length gc, .slice la x.locks.length lc, .slice pa x.procs.length pc, .slice ea x.entry.length ec, .slice ia x.ins.length ic] b → ¬ b = w.heap.size) := fun b hb e => by have := (hr b hb).2; omega
  clear r1 r2 r3 r4 r5 ho hr a1 a2 a3 a4 hW1 hb0 hh
  go_enter Tryz.func29, Tryz.ntmps29
  go_wp2_with fail
  rw [← HW1.out] at p0 p1 p2 p3 p4
  rw [← HW1.out]
  refine (markStrings_any _ lo x.globals.length k x.globals W1 P1.out hk1 (by omega)).mono ?_
  rintro e w2 ⟨rfl, _, hg⟩
  have G := Lib.hid hg
  have Q2 := Lib.hid (krow_other P2.out hg (fun b hb e1 => (A1.out b e1).1 hb))
  have Q3 := Lib.hid (krow_other P3.out hg (fun b hb e1 => (A1.out b e1).2.1 hb))
  have Q4 := Lib.hid (krow_other P4.out hg (fun b hb e1 => (A1.out b e1).2.2.1 hb))
  have Q5 := Lib.hid (krow_other P5.out hg (fun b hb e1 => (A1.out b e1).2.2.2 hb))
  have QO := Lib.hid (PO.out.same (w' := w2) (fun b _ g2 g3 => hg.block b (by have := HH.out; omega) (fun e1 => g3 (rowsOf5.2 (.inl e1.symm)))))
  have M2 : Hid (Marks lo hi W1 w2) := Marks.of_grown hg (fun b hb => HR.out b (rowsOf5.2 (.inl hb)))
  have y2 : w2.heap[w.heap.size]? = W1.heap[w.heap.size]? := hg.block _ (by omega) (fun e1 => hbx.out _ (rowsOf5.2 (.inl e1.symm)) rfl)
  have Y2 : Hid (Box5 w2 w.heap.size (.slice ga x.globals.length gc) (.slice la x.locks.length lc) (.slice pa x.procs.length pc) (.slice ea x.entry.length ec) (.slice ia x.ins.length ic)) := by
    have hc : ∀ j, w2.cell? ⟨w.heap.size, j, none⟩ = W1.cell? ⟨w.heap.size, j, none⟩ := fun j => World.cell?_of_block y2
    exact ⟨(hc 0).trans p0, (hc 1).trans p1, (hc 2).trans p2, (hc 3).trans p3, (hc 4).trans p4⟩
  have hs2 := hg.size
  clear hg y2 p0 p1 p2 p3 p4
  obtain ⟨p0, p1, p2, p3, p4⟩ := Y2.out
  go_wp2_with fail
  refine (markStrings_any _ lo x.locks.length (k + x.globals.length) x.locks w2 Q2.out (by omega) (by omega)).mono ?_
  rintro e w3 ⟨rfl, _, hg⟩
  have S3 := Lib.hid (krow_other Q3.out hg (fun b hb e1 => (A2.out b e1).1 hb))
  have S4 := Lib.hid (krow_other Q4.out hg (fun b hb e1 => (A2.out b e1).2.1 hb))
  have S5 := Lib.hid (krow_other Q5.out hg (fun b hb e1 => (A2.out b e1).2.2 hb))
  have SO := Lib.hid (QO.out.same (w' := w3) (fun b _ g2 g3 => hg.block b (by have := HH.out; omega) (fun e1 => g3 (rowsOf5.2 (.inr (.inl e1.symm))))))
  have M3 : Hid (Marks lo hi W1 w3) := M2.out.trans (Marks.of_grown hg (fun b hb => HR.out b (rowsOf5.2 (.inr (.inl hb)))))
  have y3 : w3.heap[w.heap.size]? = w2.heap[w.heap.size]? := hg.block _ (by omega) (fun e1 => hbx.out _ (rowsOf5.2 (.inr (.inl e1.symm))) rfl)
  have Y3 : Hid (Box5 w3 w.heap.size (.slice ga x.globals.length gc) (.slice la x.locks.length lc) (.slice pa x.procs.length pc) (.slice ea x.entry.length ec) (.slice ia x.ins.length ic)) := by
    have hc : ∀ j, w3.cell? ⟨w.heap.size, j, none⟩ = w2.cell? ⟨w.heap.size, j, none⟩ := fun j => World.cell?_of_block y3
    exact ⟨(hc 0).trans p0, (hc 1).trans p1, (hc 2).trans p2, (hc 3).trans p3, (hc 4).trans p4⟩
  have hs3 := hg.size
  clear hg y3 p0 p1 p2 p3 p4
  obtain ⟨p0, p1, p2, p3, p4⟩ := Y3.out
  go_wp2_with fail
  refine (markStrings_any _ lo x.procs.length (k + x.globals.length + x.locks.length) x.procs w3 S3.out (by omega) (by omega)).mono ?_
  rintro e w4 ⟨rfl, _, hg⟩
  have T4 := Lib.hid (krow_other S4.out hg (fun b hb e1 => (A3.out b e1).1 hb))
  have T5 := Lib.hid (krow_other S5.out hg (fun b hb e1 => (A3.out b e1).2 hb))
  have TO := Lib.hid (SO.out.same (w' := w4) (fun b _ g2 g3 => hg.block b (by have := HH.out; omega) (fun e1 => g3 (rowsOf5.2 (.inr (.inr (.inl e1.symm)))))))
  have M4 : Hid (Marks lo hi W1 w4) := M3.out.trans (Marks.of_grown hg (fun b hb => HR.out b (rowsOf5.2 (.inr (.inr (.inl hb))))))
  have y4 : w4.heap[w.heap.size]? = w3.heap[w.heap.size]? := hg.block _ (by omega) (fun e1 => hbx.out _ (rowsOf5.2 (.inr (.inr (.inl e1.symm)))) rfl)
  have Y4 : Hid (Box5 w4 w.heap.size (.slice ga x.globals.length gc) (.slice la x.locks.length lc) (.slice pa x.procs.length pc) (.slice ea x.entry.length ec) (.slice ia x.ins.length ic)) := by
    have hc : ∀ j, w4.cell? ⟨w.heap.size, j, none⟩ = w3.cell? ⟨w.heap.size, j, none⟩ := fun j => World.cell?_of_block y4
    exact ⟨(hc 0).trans p0, (hc 1).trans p1, (hc 2).trans p2, (hc 3).trans p3, (hc 4).trans p4⟩
  have hs4 := hg.size
  clear hg y4 p0 p1 p2 p3 p4
  obtain ⟨p0, p1, p2, p3, p4⟩ := Y4.out
  go_wp2_with fail
  refine (markInts_any _ lo x.entry.length (k + x.globals.length + x.locks.length + x.procs.length) x.entry w4 T4.out (by omega)).mono ?_
  rintro e w5 ⟨rfl, _, hg⟩
  have U5 := Lib.hid (krow_other T5.out hg (fun b hb e1 => A4.out b e1 hb))
  have UO := Lib.hid (TO.out.same (w' := w5) (fun b _ g2 g3 => hg.block b (by have := HH.out; omega) (fun e1 => g3 (rowsOf5.2 (.inr (.inr (.inr (.inl e1.symm))))))))
  have M5 : Hid (Marks lo hi W1 w5) := M4.out.trans (Marks.of_grown hg (fun b hb => HR.out b (rowsOf5.2 (.inr (.inr (.inr (.inl hb)))))))
  have y5 : w5.heap[w.heap.size]? = w4.heap[w.heap.size]? := hg.block _ (by omega) (fun e1 => hbx.out _ (rowsOf5.2 (.inr (.inr (.inr (.inl e1.symm))))) rfl)
  have p4b : w5.cell? ⟨w.heap.size, 4, none⟩ = some (.slice ia x.ins.length ic) := (World.cell?_of_block y5).trans p4
  have hs5 := hg.size
  clear hg y5 p0 p1 p2 p3 p4
  go_wp2_with fail
  refine (markIs_any x.ins _ w5 _ lo lo hi (k + x.globals.length + x.locks.length + x.procs.length + x.entry.length) cs (by omega) (by omega) U5.out (fun b hb => ⟨rowsOf5.2 (.inr (.inr (.inr (.inr hb)))), HR.out b (rowsOf5.2 (.inr (.inr (.inr (.inr hb)))))⟩) UO.out (by have := HH.out; omega)).mono ?_
  rintro e w6 ⟨rfl, hm6⟩
  have M6 := Lib.hid (M5.out.trans hm6)
  clear hm6 p4b
  go_wp2
  go_ret
  refine ⟨by rw [HK.out]; rfl, ⟨M6.out.os.trans HB0.out.os, M6.out.tape.trans HB0.out.tape, M6.out.output.trans HB0.out.output, Nat.le_trans HB0.out.size M6.out.size, fun b hb hb2 => ?_⟩⟩
  exact (M6.out.block b (by omega) hb2).trans (HB0.out.block b hb)
end Go.Proofs.YtofmccihehalcaaGreat.Trm
/- The law of CallsFrom out of two contracts, walked. Conditions: the arguments read; both sides answer the same list, in new memory. -/
namespace Go.Proofs.YtofmccihehalcaaGreat.FnExactCallsFromW
open Go.RowKit Go.Proofs.YtofmccihehalcaaGreat.Own Trm
set_option maxHeartbeats 3200000 in
theorem core (x : KTree) (at' : Int) (v : Value) (w : World) (rs : List Int) (hl : KLies w x v) (hz : szK x ≤ 1048576) (hri : ∀ z, z ∈ rs → InI z)
    (c1 : ∀ lo v w, KOwn w lo x v → Calls Tryz.prog 32 #[v, .int .i64 at'] w (ListI rs w))
    (c2 : ∀ lo v w, KOwn w lo x v → Calls Tryz.prog 14 #[v, .int .i64 at'] w (ListI rs w))
    (cm : ∀ v b w, w.ownsRow b 3 1 v rs.length (intV rs) → Calls Tryz.prog 30 #[v, .int .i64 1] w fun e w' => e = .returned (.int .i64 (1 + (rs.length : Int))) ∧ w'.ownsRow b 3 1 v rs.length (intV (marksI 1 rs.length)) ∧ w.grownBy w' v.ownBlock)
    (ch : ∀ v b w, w.ownsRow b 3 1 v rs.length (intV (marksI 1 rs.length)) → Calls Tryz.prog 31 #[v, .int .i64 1] w fun e w' => e = .returned (.int .i64 (1 + (rs.length : Int))) ∧ w.grownBy w' none) :
    Calls Tryz.prog 6 #[v, .int .i64 at'] w fun e w' => e = .returned (.bool true) ∧ Below w.heap.size w w' := by
  have C1 := Lib.hid c1
  have C2 := Lib.hid c2
  have CM := Lib.hid cm
  have CH := Lib.hid ch
  have HRI := Lib.hid hri
  have CS := Lib.hid (fun y hk => szCode_any x v y 1048576 (by omega) (hl.keep hk))
  have CT := Lib.hid (fun y hk => toCode_any x v y hz (hl.keep hk))
  have CE := Lib.hid (eqCode_any x)
  have CK := Lib.hid (fun v w lo hi hh => markCode_any x v w lo hi 1 (Nat.le_refl _) (by have := mkK_le x; omega) hh)
  have HZ := Lib.hid (leftR_yes hz)
  have hcn : (0 : Int) ≤ ((1 + mkK x : Nat) : Int) := by omega
  have hz2 : 0 ≤ ((1048576 - szK x : Nat) : Int) := by omega
  obtain ⟨ga0, gc0, ga1, gc1, ga2, gc2, ga3, gc3, ga4, gc4, rfl⟩ := hl.shape
  have X0 := Lib.hid (Box5.new w (.slice ga0 x.globals.length gc0) (.slice ga1 x.locks.length gc1) (.slice ga2 x.procs.length gc2) (.slice ga3 x.entry.length gc3) (.slice ga4 x.ins.length gc4) 36)
  clear c1 c2 cm ch hz hl hri
  go_enter Tryz.func6, Tryz.ntmps6
  go_wp2_with fail
  refine (CS.out _ (keeps_alloc _ _)).mono ?_
  rintro e w1 ⟨rfl, hb⟩
  rw [HZ.out]
  have B1 := Lib.hid (below_box1 hb)
  have X1 := Lib.hid (X0.out.keep (keeps_below hb))
  clear hb X0
  obtain ⟨p0, p1, p2, p3, p4⟩ := X1.out
  go_wp2_with fail
  refine (CT.out _ (keeps_below B1.out)).mono ?_
  rintro e w2 ⟨v2, rfl, ho, hb⟩
  have O2 := Lib.hid ho
  obtain ⟨_, _, _, _, _, _, _, _, _, _, rfl⟩ := ho.lies.shape
  have B2 := Lib.hid (B1.out.trans (hb.mono B1.out.size))
  have X2 := Lib.hid (X1.out.keep (keeps_below hb))
  clear ho hb p0 p1 p2 p3 p4
  go_wp2_with fail
  refine (C1.out _ _ _ O2.out).mono ?_
  rintro e w3 ⟨sv, rfl, r3, hb⟩
  have B3 := Lib.hid (B2.out.trans (hb.mono B2.out.size))
  have X3 := Lib.hid (X2.out.keep (keeps_below hb))
  have R3 := Lib.hid r3
  clear hb r3
  obtain ⟨p0, p1, p2, p3, p4⟩ := X3.out
  go_wp2_with fail
  refine (CT.out _ (keeps_below B3.out)).mono ?_
  rintro e w4 ⟨v4, rfl, ho, hb⟩
  obtain ⟨ua0, uc0, ua1, uc1, ua2, uc2, ua3, uc3, ua4, uc4, rfl⟩ := ho.lies.shape
  have HO4 := Lib.hid ho
  have HF4 := Lib.hid ho.h
  have H34 := Lib.hid hb
  have B4 := Lib.hid (B3.out.trans (hb.mono B3.out.size))
  have X4 := Lib.hid (X3.out.keep (keeps_below hb))
  have HW3 : Hid (w.heap.size ≤ w3.heap.size) := B3.out.size
  clear ho hb p0 p1 p2 p3 p4
  have Y4 := Lib.hid (Box5.new w4 (.slice ua0 x.globals.length uc0) (.slice ua1 x.locks.length uc1) (.slice ua2 x.procs.length uc2) (.slice ua3 x.entry.length uc3) (.slice ua4 x.ins.length uc4) 28)
  have BA := Lib.hid ((Below.refl w4.heap.size w4).alloc (Nat.le_refl _) (.cells #[.slice ua0 x.globals.length uc0, .slice ua1 x.locks.length uc1, .slice ua2 x.procs.length uc2, .slice ua3 x.entry.length uc3, .slice ua4 x.ins.length uc4] 28))
  have A4 := Lib.hid (HO4.out.below BA.out)
  go_wp2_with fail
  refine (C2.out _ _ _ A4.out).mono ?_
  rintro e w6 ⟨gv, rfl, r6, hb⟩
  have H46 : Hid (Below w4.heap.size w4 w6) := BA.out.trans (hb.mono BA.out.size)
  have H36 := Lib.hid (H34.out.trans (H46.out.mono H34.out.size))
  have S6 := Lib.hid (krow_up R3.out H36.out)
  have G6 : Hid (w6.ownsRow w4.heap.size 3 1 gv rs.length (intV rs)) := World.ownsRow.mono r6 (by simp)
  have B6 := Lib.hid (B4.out.trans (H46.out.mono B4.out.size))
  have X6 := Lib.hid (X4.out.keep (keeps_below H46.out))
  have Y6 := Lib.hid (Y4.out.keep (keeps_below hb))
  have L6 := Lib.hid (A4.out.lies.keep (keeps_below hb))
  clear r6 hb
  go_wp2_with fail
  refine (eqInts_at _ _ rs _ (ints_of_row G6.out HRI.out) (ints_of_row S6.out HRI.out)).mono ?_
  rintro e w7 ⟨rfl, hb⟩
  have H67 := Lib.hid hb
  have B7 := Lib.hid (B6.out.trans (hb.mono B6.out.size))
  have X7 := Lib.hid (X6.out.keep (keeps_below hb))
  have Y7 := Lib.hid (Y6.out.keep (keeps_below hb))
  have L7 := Lib.hid (L6.out.keep (keeps_below hb))
  clear hb
  obtain ⟨p0, p1, p2, p3, p4⟩ := X7.out
  obtain ⟨q0, q1, q2, q3, q4⟩ := Y7.out
  go_wp2
  go_region_with (first
    | (go_at_call 26; refine (CT.out _ ((keeps_below B7.out).trans (keeps_drew _))).mono ?_; rintro e w14 ⟨v14, rfl, ho, hb⟩; have HO14 := Lib.hid ho.lies; have HB14 := Lib.hid hb; have Y14 := Y7.out.keep ((keeps_drew _).trans (keeps_below hb)); clear ho hb; obtain ⟨r0, r1, r2, r3, r4⟩ := Y14)
    | (go_at_call 28; refine (CE.out _ _ _ (L7.out.keep ((keeps_drew _).trans (keeps_below HB14.out))) HO14.out).mono ?_; rintro e w8 ⟨rfl, hb⟩; have HB8 := Lib.hid hb; clear hb))
  all_goals
    have B78 : Below w7.heap.size w7 w8 := (below_of_drew HB14.out).trans (HB8.out.mono (below_of_drew HB14.out).size)
    have H68 := Lib.hid (H67.out.trans (B78.mono H67.out.size))
    have H48 := Lib.hid (H46.out.trans (H68.out.mono H46.out.size))
    have B8 := Lib.hid (B6.out.trans (H68.out.mono B6.out.size))
    have G8 := Lib.hid (krow_up G6.out H68.out)
    have S8 := Lib.hid (krow_up S6.out H68.out)
    have X8 := Lib.hid (X7.out.keep (keeps_below B78))
    have Y8 := Lib.hid (Y7.out.keep (keeps_below B78))
    have O8 := Lib.hid (HF4.out.keep (fun b _ h2 => H48.out.block b h2) H48.out.size)
    clear B78 r0 r1 r2 r3 r4 p0 p1 p2 p3 p4 q0 q1 q2 q3 q4
    obtain ⟨q0, q1, q2, q3, q4⟩ := Y8.out
    go_wp2_with fail
    refine (CK.out _ _ w3.heap.size w4.heap.size O8.out).mono ?_
    rintro e w9 ⟨rfl, hm⟩
    have B9 := Lib.hid (B8.out.trans ((hm.below (Nat.le_trans H34.out.size H48.out.size)).mono HW3.out))
    have G9 := Lib.hid (krow_marks G8.out hm (fun b hb => .inr (G6.out.lt b hb).1))
    have S9 := Lib.hid (krow_marks S8.out hm (fun b hb => .inl (R3.out.lt b hb).2))
    have X9 : Hid (Box5 w9 w.heap.size (.slice ga0 x.globals.length gc0) (.slice ga1 x.locks.length gc1) (.slice ga2 x.procs.length gc2) (.slice ga3 x.entry.length gc3) (.slice ga4 x.ins.length gc4)) := by
      have hlt : w.heap.size < w8.heap.size := cell_lt X8.out.1
      have hlt3 : w.heap.size < w3.heap.size := cell_lt X3.out.1
      have hbk : w9.heap[w.heap.size]? = w8.heap[w.heap.size]? := hm.block _ hlt (.inl hlt3)
      exact ⟨(World.cell?_of_block hbk).trans X8.out.1, (World.cell?_of_block hbk).trans X8.out.2.1, (World.cell?_of_block hbk).trans X8.out.2.2.1, (World.cell?_of_block hbk).trans X8.out.2.2.2.1, (World.cell?_of_block hbk).trans X8.out.2.2.2.2⟩
    clear hm q0 q1 q2 q3 q4
    go_wp2_with fail
    refine (eqInts_at _ _ rs _ (ints_of_row G9.out HRI.out) (ints_of_row S9.out HRI.out)).mono ?_
    rintro e w10 ⟨rfl, hb⟩
    have B10 := Lib.hid (B9.out.trans (hb.mono B9.out.size))
    have G10 := Lib.hid (krow_up G9.out hb)
    have S10 := Lib.hid (krow_up S9.out hb)
    have X10 := Lib.hid (X9.out.keep (keeps_below hb))
    clear hb
    go_wp2_with fail
    refine (CM.out _ _ _ G10.out).mono ?_
    rintro e w11 ⟨rfl, m11, hg⟩
    have M11 := Lib.hid m11
    have B11 := Lib.hid (B10.out.grown hg B10.out.size (fun b hb => Nat.le_trans (Nat.le_trans HW3.out H34.out.size) (G6.out.lt b hb).1))
    have S11 := Lib.hid (krow_other S10.out hg (fun b hb e1 => by have := (G6.out.lt b e1).1; have := (R3.out.lt b hb).2; have := H34.out.size; omega))
    have X11 : Hid (Box5 w11 w.heap.size (.slice ga0 x.globals.length gc0) (.slice ga1 x.locks.length gc1) (.slice ga2 x.procs.length gc2) (.slice ga3 x.entry.length gc3) (.slice ga4 x.ins.length gc4)) := by
      have hlt : w.heap.size < w10.heap.size := cell_lt X10.out.1
      have hlt3 : w.heap.size < w3.heap.size := cell_lt X3.out.1
      have hbk : w11.heap[w.heap.size]? = w10.heap[w.heap.size]? := hg.block _ hlt (fun e => by have := (G6.out.lt _ e.symm).1; have := H34.out.size; omega)
      exact ⟨(World.cell?_of_block hbk).trans X10.out.1, (World.cell?_of_block hbk).trans X10.out.2.1, (World.cell?_of_block hbk).trans X10.out.2.2.1, (World.cell?_of_block hbk).trans X10.out.2.2.2.1, (World.cell?_of_block hbk).trans X10.out.2.2.2.2⟩
    clear m11 hg
    go_wp2_with fail
    refine (CH.out _ _ _ M11.out).mono ?_
    rintro e w12 ⟨rfl, hg⟩
    have M12 := Lib.hid (krow_other M11.out hg (fun _ _ h => by cases h))
    have S12 := Lib.hid (krow_other S11.out hg (fun _ _ h => by cases h))
    have B12 := Lib.hid (B11.out.grown hg B11.out.size (fun _ h => by cases h))
    have X12 : Hid (Box5 w12 w.heap.size (.slice ga0 x.globals.length gc0) (.slice ga1 x.locks.length gc1) (.slice ga2 x.procs.length gc2) (.slice ga3 x.entry.length gc3) (.slice ga4 x.ins.length gc4)) := by
      have hbk : w12.heap[w.heap.size]? = w11.heap[w.heap.size]? := hg.block _ (cell_lt X11.out.1) (by simp)
      exact ⟨(World.cell?_of_block hbk).trans X11.out.1, (World.cell?_of_block hbk).trans X11.out.2.1, (World.cell?_of_block hbk).trans X11.out.2.2.1, (World.cell?_of_block hbk).trans X11.out.2.2.2.1, (World.cell?_of_block hbk).trans X11.out.2.2.2.2⟩
    clear hg
    obtain ⟨p0, p1, p2, p3, p4⟩ := X12.out
    go_wp2_with fail
    refine (CT.out _ (keeps_below B12.out)).mono ?_
    rintro e w13 ⟨v13, rfl, o13, hb⟩
    have O13 := Lib.hid o13
    obtain ⟨_, _, _, _, _, _, _, _, _, _, rfl⟩ := o13.lies.shape
    have M13 := Lib.hid (krow_up M12.out hb)
    have S13 := Lib.hid (krow_up S12.out hb)
    have B13 := Lib.hid (B12.out.trans (hb.mono B12.out.size))
    clear o13 hb p0 p1 p2 p3 p4
    go_wp2_with fail
    refine (C2.out _ _ _ O13.out).mono ?_
    rintro e w15 ⟨hv, rfl, r15, hb⟩
    have M15 := Lib.hid (krow_up M13.out hb)
    have S15 := Lib.hid (krow_up S13.out hb)
    have R15 := Lib.hid r15
    have B15 := Lib.hid (B13.out.trans (hb.mono B13.out.size))
    clear hb r15
    go_wp2_with fail
    refine (eqInts_at _ _ rs _ (ints_of_row R15.out HRI.out) (ints_of_row S15.out HRI.out)).mono ?_
    rintro e w16 ⟨rfl, hb⟩
    have M16 := Lib.hid (krow_up M15.out hb)
    have B16 := Lib.hid (B15.out.trans (hb.mono B15.out.size))
    clear hb
    go_wp2_with fail
    refine (CH.out _ _ _ M16.out).mono ?_
    rintro e w17 ⟨rfl, hg⟩
    have B17 := Lib.hid (B16.out.grown hg B16.out.size (fun _ h => by cases h))
    clear hg
    go_wp2_with fail
    go_ret
    exact ⟨rfl, B17.out⟩
theorem big (x : KTree) (at' : Int) (v : Value) (w : World) (hl : KLies w x v) (hz : 1048576 < szK x) :
    Calls Tryz.prog 6 #[v, .int .i64 at'] w fun e w' => e = .returned (.bool true) ∧ Below w.heap.size w w' := by
  have CS := Lib.hid (fun y hk => szCode_any x v y 1048576 (by omega) (hl.keep hk))
  have HZ := Lib.hid (leftR_no (a := 1048576) (n := szK x) (by omega))
  obtain ⟨ga0, gc0, ga1, gc1, ga2, gc2, ga3, gc3, ga4, gc4, rfl⟩ := hl.shape
  clear hl hz
  go_enter Tryz.func6, Tryz.ntmps6
  go_wp2_with fail
  refine (CS.out _ (keeps_alloc _ _)).mono ?_
  rintro e w1 ⟨rfl, hb⟩
  rw [HZ.out]
  have B1 := Lib.hid (below_box1 hb)
  clear hb
  go_wp2
  go_ret
  exact ⟨rfl, B1.out⟩
end Go.Proofs.YtofmccihehalcaaGreat.FnExactCallsFromW
/- The law of CallsFrom, walked. Conditions: the arguments read. -/
namespace Go.Proofs.YtofmccihehalcaaGreat.FnExactCallsFromW
open Go.RowKit Go.Proofs.YtofmccihehalcaaGreat.Own Trm
set_option maxRecDepth 100000 in
theorem walk {H : Type} {enc : TypeId × Value → H} {base b0 : Nat} {spare : Nat → Bool} {held : Bool} {r : Reach} {d : DataW H} {p : List MemPlace} (v : Value) (a : Int) (w : World) (ok : Value.okWide Tryz.prog w r b0 36 v) (k : DataW.Trod enc Tryz.prog w base spare held 36 v d p) (wa : (Lit.int .i64 a).wf = true) :
    Calls Tryz.prog 6 #[v, .int .i64 a] w fun e w' => e = .returned (.bool true) ∧ Below w.heap.size w w' := by
  obtain ⟨x, hl⟩ := klies_of_Trod ok k
  by_cases hz : szK x ≤ 1048576
  · have hn := fromAns_small x a
    have hlen : (upI (fromAns x a)).length ≤ 9000000 := by rw [upI_length]; have := hn.1; omega
    exact core x a v w (upI (fromAns x a)) hl hz hn.int (fun _ v w h => specCallsFrom_any x a v w h.kin hz) (fun _ v w h => implCallsFrom_any x a v w h.kin hz (bounds_i64 wa))
      (fun v b w h => mark_oneI v b _ _ w h hlen) (fun v b w h => held_oneI v b _ w h hlen)
  · exact big x a v w hl (by omega)
end Go.Proofs.YtofmccihehalcaaGreat.FnExactCallsFromW
