/- The laws' comparison of two statements that are the same, walked. Conditions: both lie in memory. -/
import Derived.Test.YtmhhghdfgdhljaaChecked
import Derived.Test.YtmhhghdfgdhljaaSTrees
import Derived.Test.YtmhhghdfgdhljaaTermEq
import Derived.Deep.RegionHeld3
import Derived.WalkSmall
import Derived.Outline
namespace Go.Proofs.Ytmhhghdfgdhljaa.Trm
open Go.RowKit Own
def EqXOk (x : STree) : Prop := ∀ (u v : Value) (w : World), SLies w x u → SLies w x v →
    Calls Try.prog 24 #[u, v] w fun e w' => e = .returned (.bool true) ∧ Below w.heap.size w w'
set_option maxHeartbeats 1600000 in
theorem eqXS_any (xs : List STree) (ih : ∀ x, x ∈ xs → EqXOk x) (va vb : Value) (w : World) (h1 : SListAt w va xs) (h2 : SListAt w vb xs) :
    Calls Try.prog 30 #[va, vb] w fun e w' => e = .returned (.bool true) ∧ Below w.heap.size w w' := by
  obtain ⟨hlen, aa, cap, rfl, hk⟩ := h1
  obtain ⟨_, bb, dap, rfl, hk2⟩ := h2
  have IH := Lib.hid ih
  have HK := Lib.hid hk
  have HK2 := Lib.hid hk2
  clear ih hk hk2
  go_enter Try.func30, Try.ntmps30
  go_wp2
  go_loopw [5] (fun i wr => ∃ (k : Nat), k ≤ xs.length ∧ i = .int .i64 k ∧ Hid (Below w.heap.size w wr))
    (fun i _ => xs.length - (intOf i).toNat)
  case atStart => exact ⟨0, Nat.zero_le _, rfl, Below.refl _ _⟩
  case round =>
    obtain ⟨k, hk, rfl, hbe⟩ := hrel
    by_cases hlt : k < xs.length
    · obtain ⟨g, o, rfl, hl⟩ := HK.out (by omega)
      obtain ⟨h, p, rfl, hm⟩ := HK2.out (by omega)
      obtain ⟨ta, tc, ba, bc, ea, ec, c0, c1, c2, c3, c4, c5, c6, c7, hl2⟩ := (hl.keep (keeps_below hbe.out)).at k hlt
      obtain ⟨ua, uc, da, dc, fa, fc, d0, d1, d2, d3, d4, d5, d6, d7, hm2⟩ := (hm.keep (keeps_below hbe.out)).at k hlt
      have C : Hid (∀ wx, Below wr.heap.size wr wx → Calls Try.prog 24 #[.agg #[.int .i64 xs[k].kind, .string xs[k].name, .int .i64 xs[k].term.kind, .int .i64 xs[k].term.num, .string xs[k].term.name, .slice ta xs[k].term.kids.length tc, .slice ba xs[k].body.length bc, .slice ea xs[k].els.length ec], .agg #[.int .i64 xs[k].kind, .string xs[k].name, .int .i64 xs[k].term.kind, .int .i64 xs[k].term.num, .string xs[k].term.name, .slice ua xs[k].term.kids.length uc, .slice da xs[k].body.length dc, .slice fa xs[k].els.length fc]] wx fun e w' => e = .returned (.bool true) ∧ Below wr.heap.size wr w') :=
        fun wx hb => (IH.out xs[k] (List.getElem_mem hlt) _ _ wx (hl2.keep (keeps_below hb)) (hm2.keep (keeps_below hb))).mono fun e w' ⟨he, h⟩ => ⟨he, hb.trans (h.mono hb.size)⟩
      have KS : Hid (∀ wx, Below wr.heap.size wr wx → wx.cell? ⟨g, o + k * 8, none⟩ = some (.int .i64 xs[k].kind) ∧ wx.cell? ⟨g, o + k * 8 + 1, none⟩ = some (.string xs[k].name) ∧ wx.cell? ⟨g, o + k * 8 + 2, none⟩ = some (.int .i64 xs[k].term.kind) ∧ wx.cell? ⟨g, o + k * 8 + 3, none⟩ = some (.int .i64 xs[k].term.num) ∧ wx.cell? ⟨g, o + k * 8 + 4, none⟩ = some (.string xs[k].term.name) ∧ wx.cell? ⟨g, o + k * 8 + 5, none⟩ = some (.slice ta xs[k].term.kids.length tc) ∧ wx.cell? ⟨g, o + k * 8 + 6, none⟩ = some (.slice ba xs[k].body.length bc) ∧ wx.cell? ⟨g, o + k * 8 + 7, none⟩ = some (.slice ea xs[k].els.length ec) ∧ wx.cell? ⟨h, p + k * 8, none⟩ = some (.int .i64 xs[k].kind) ∧ wx.cell? ⟨h, p + k * 8 + 1, none⟩ = some (.string xs[k].name) ∧ wx.cell? ⟨h, p + k * 8 + 2, none⟩ = some (.int .i64 xs[k].term.kind) ∧ wx.cell? ⟨h, p + k * 8 + 3, none⟩ = some (.int .i64 xs[k].term.num) ∧ wx.cell? ⟨h, p + k * 8 + 4, none⟩ = some (.string xs[k].term.name) ∧ wx.cell? ⟨h, p + k * 8 + 5, none⟩ = some (.slice ua xs[k].term.kids.length uc) ∧ wx.cell? ⟨h, p + k * 8 + 6, none⟩ = some (.slice da xs[k].body.length dc) ∧ wx.cell? ⟨h, p + k * 8 + 7, none⟩ = some (.slice fa xs[k].els.length fc) ∧ Below wr.heap.size wr wx) := fun wx hb => by
        have hk := keeps_below hb
        exact ⟨hk _ _ c0, hk _ _ c1, hk _ _ c2, hk _ _ c3, hk _ _ c4, hk _ _ c5, hk _ _ c6, hk _ _ c7, hk _ _ d0, hk _ _ d1, hk _ _ d2, hk _ _ d3, hk _ _ d4, hk _ _ d5, hk _ _ d6, hk _ _ d7, hb⟩
      have b0 : Below wr.heap.size wr wr.drew := (Below.refl _ _).drew
      clear hl hl2 hm hm2 c0 c1 c2 c3 c4 c5 c6 c7 d0 d1 d2 d3 d4 d5 d6 d7
      go_wp2_with fail
      go_region_held3 (fun wx => wx.cell? ⟨g, o + k * 8, none⟩ = some (.int .i64 xs[k].kind) ∧ wx.cell? ⟨g, o + k * 8 + 1, none⟩ = some (.string xs[k].name) ∧ wx.cell? ⟨g, o + k * 8 + 2, none⟩ = some (.int .i64 xs[k].term.kind) ∧ wx.cell? ⟨g, o + k * 8 + 3, none⟩ = some (.int .i64 xs[k].term.num) ∧ wx.cell? ⟨g, o + k * 8 + 4, none⟩ = some (.string xs[k].term.name) ∧ wx.cell? ⟨g, o + k * 8 + 5, none⟩ = some (.slice ta xs[k].term.kids.length tc) ∧ wx.cell? ⟨g, o + k * 8 + 6, none⟩ = some (.slice ba xs[k].body.length bc) ∧ wx.cell? ⟨g, o + k * 8 + 7, none⟩ = some (.slice ea xs[k].els.length ec) ∧ wx.cell? ⟨h, p + k * 8, none⟩ = some (.int .i64 xs[k].kind) ∧ wx.cell? ⟨h, p + k * 8 + 1, none⟩ = some (.string xs[k].name) ∧ wx.cell? ⟨h, p + k * 8 + 2, none⟩ = some (.int .i64 xs[k].term.kind) ∧ wx.cell? ⟨h, p + k * 8 + 3, none⟩ = some (.int .i64 xs[k].term.num) ∧ wx.cell? ⟨h, p + k * 8 + 4, none⟩ = some (.string xs[k].term.name) ∧ wx.cell? ⟨h, p + k * 8 + 5, none⟩ = some (.slice ua xs[k].term.kids.length uc) ∧ wx.cell? ⟨h, p + k * 8 + 6, none⟩ = some (.slice da xs[k].body.length dc) ∧ wx.cell? ⟨h, p + k * 8 + 7, none⟩ = some (.slice fa xs[k].els.length fc) ∧ Below wr.heap.size wr wx)
        (exact KS.out _ (by assumption))
        (first
        | (go_at_call 24; (with_reducible refine (C.out _ (by assumption)).mono ?_); rintro e w1 ⟨rfl, b1⟩))
      all_goals
        have HB1 := Lib.hid (hbe.out.trans (b1.mono hbe.out.size))
        clear b1
        go_wp2
        go_roundw
        case rel => exact ⟨k + 1, by omega, by go_num, HB1⟩
        case measure => simp [intOf]; omega
    · go_wp2
      go_ret
      exact ⟨rfl, hbe.out⟩
set_option maxHeartbeats 800000 in
theorem eqStmt_any : ∀ x : STree, EqXOk x := streeInd fun k s t b e ihb ihe u v w hu hv => by
  obtain ⟨h1, h2, h3, h4, ta, tc, ba, bc, ea, ec, rfl, h5, h6, h7⟩ := hu
  obtain ⟨_, _, _, _, ua, uc, da, dc, fa, fc, rfl, i5, i6, i7⟩ := hv
  have CT := Lib.hid (fun w hk => eqTerm_any t _ _ w (h5.keep hk) (i5.keep hk))
  have CB := Lib.hid (fun w hk => eqXS_any b ihb (.slice ba b.length bc) (.slice da b.length dc) w (SListAt.keep ⟨h3, _, _, rfl, h6⟩ hk) (SListAt.keep ⟨h3, _, _, rfl, i6⟩ hk))
  have CE := Lib.hid (fun w hk => eqXS_any e ihe (.slice ea e.length ec) (.slice fa e.length fc) w (SListAt.keep ⟨h4, _, _, rfl, h7⟩ hk) (SListAt.keep ⟨h4, _, _, rfl, i7⟩ hk))
  have X0 := Lib.hid ((Box8.new w (.int .i64 k) (.string s) (.int .i64 t.kind) (.int .i64 t.num) (.string t.name) (.slice ta t.kids.length tc) (.slice ba b.length bc) (.slice ea e.length ec) 50).keep (keeps_alloc _ (.cells #[.int .i64 k, .string s, .int .i64 t.kind, .int .i64 t.num, .string t.name, .slice ua t.kids.length uc, .slice da b.length dc, .slice fa e.length fc] 50)))
  have Y0 := Lib.hid (Box8.new (w.alloc (.cells #[.int .i64 k, .string s, .int .i64 t.kind, .int .i64 t.num, .string t.name, .slice ta t.kids.length tc, .slice ba b.length bc, .slice ea e.length ec] 50)) (.int .i64 k) (.string s) (.int .i64 t.kind) (.int .i64 t.num) (.string t.name) (.slice ua t.kids.length uc) (.slice da b.length dc) (.slice fa e.length fc) 50)
  have hsz0 : (w.alloc (.cells #[.int .i64 k, .string s, .int .i64 t.kind, .int .i64 t.num, .string t.name, .slice ta t.kids.length tc, .slice ba b.length bc, .slice ea e.length ec] 50)).heap.size = w.heap.size + 1 := by simp
  rw [hsz0] at Y0
  clear ihb ihe h1 h2 h5 h6 h7 i5 i6 i7 hsz0
  go_enter Try.func24, Try.ntmps24
  go_wp2_with fail
  refine (CT.out _ ((keeps_alloc _ _).trans (keeps_alloc _ _))).mono ?_
  rintro e1 w1 ⟨rfl, hb1⟩
  have K1 := Lib.hid (((keeps_alloc w _).trans (keeps_alloc _ _)).trans (keeps_below hb1))
  have B1 := Lib.hid (below_box1 (below_box1 hb1))
  have X1 := Lib.hid (X0.out.keep (keeps_below hb1))
  have Y1 := Lib.hid (Y0.out.keep (keeps_below hb1))
  obtain ⟨p0, p1, p2, p3, p4, p5, p6, p7⟩ := X1.out
  obtain ⟨q0, q1, q2, q3, q4, q5, q6, q7⟩ := Y1.out
  clear hb1
  go_wp2_with fail
  refine (CB.out _ K1.out).mono ?_
  rintro e2 w2 ⟨rfl, hb2⟩
  have K2 := Lib.hid (K1.out.trans (keeps_below hb2))
  have B2 := Lib.hid (B1.out.trans (hb2.mono B1.out.size))
  have X2 := Lib.hid (X1.out.keep (keeps_below hb2))
  have Y2 := Lib.hid (Y1.out.keep (keeps_below hb2))
  clear hb2 p0 p1 p2 p3 p4 p5 p6 p7 q0 q1 q2 q3 q4 q5 q6 q7
  obtain ⟨p0, p1, p2, p3, p4, p5, p6, p7⟩ := X2.out
  obtain ⟨q0, q1, q2, q3, q4, q5, q6, q7⟩ := Y2.out
  go_wp2_with fail
  refine (CE.out _ K2.out).mono ?_
  rintro e3 w3 ⟨rfl, hb3⟩
  have B3 := Lib.hid (B2.out.trans (hb3.mono B2.out.size))
  clear hb3
  go_wp2
  go_ret
  exact ⟨rfl, B3.out⟩
end Go.Proofs.Ytmhhghdfgdhljaa.Trm
