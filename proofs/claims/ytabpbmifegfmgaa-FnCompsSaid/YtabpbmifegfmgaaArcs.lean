/- Lists of arcs that lie in memory, counted, copied, compared and marked by the laws, walked. Conditions: they lie in memory, at most 2 to the 20. -/
import Derived.Test.YtabpbmifegfmgaaRowWord
import Derived.Test.YtabpbmifegfmgaaRow2
import Derived.Deep.RegionHeld3
namespace Go.Proofs.Ytabpbmifegfmgaa.Trm
open Go.RowKit Own
def ArcsAt (w : World) (es : List (Int × Int)) (v : Value) : Prop := ∃ a cap, v = .slice a es.length cap ∧ es.length ≤ 9223372036854775807 ∧ (∀ e, e ∈ es → InI e.1 ∧ InI e.2) ∧ (0 < es.length → ∃ g o, a = some ⟨g, o, none⟩ ∧ ∀ i (h : i < es.length), w.cell? ⟨g, o + i * 2, none⟩ = some (.int .i64 es[i].1) ∧ w.cell? ⟨g, o + i * 2 + 1, none⟩ = some (.int .i64 es[i].2))
theorem ArcsAt.keep {w w' : World} {es : List (Int × Int)} {v : Value} (h : ArcsAt w es v) (hk : Keeps w w') : ArcsAt w' es v := by
  obtain ⟨a, cap, rfl, h1, h0, h2⟩ := h
  refine ⟨a, cap, rfl, h1, h0, fun hp => ?_⟩
  obtain ⟨g, o, rfl, h3⟩ := h2 hp
  exact ⟨g, o, rfl, fun i hi => ⟨hk _ _ (h3 i hi).1, hk _ _ (h3 i hi).2⟩⟩
def arcV : List (Int × Int) → List Value
  | [] => []
  | e :: r => .int .i64 e.1 :: .int .i64 e.2 :: arcV r
theorem arcV_len : ∀ es : List (Int × Int), (arcV es).length = es.length * 2
  | [] => rfl
  | e :: r => by simp only [arcV, List.length_cons, arcV_len r]; omega
theorem arcV_append : ∀ a b : List (Int × Int), arcV (a ++ b) = arcV a ++ arcV b
  | [], _ => rfl
  | e :: r, b => by simp only [List.cons_append, arcV, arcV_append r b]
theorem arcV_at : ∀ (es : List (Int × Int)) (i : Nat) (h : i < es.length), (arcV es)[i * 2]? = some (.int .i64 es[i].1) ∧ (arcV es)[i * 2 + 1]? = some (.int .i64 es[i].2)
  | [], i, h => absurd h (by simp)
  | e :: r, 0, _ => ⟨rfl, rfl⟩
  | e :: r, i + 1, h => by
    have ih := arcV_at r i (by simpa using h)
    rw [show (i + 1) * 2 = i * 2 + 1 + 1 from by omega]
    simp only [arcV, List.getElem?_cons_succ, List.getElem_cons_succ]
    exact ih
theorem arcs_of_row {w : World} {base : Nat} {e : TypeId} {v : Value} {n : Nat} {es : List (Int × Int)} (h : w.ownsRow base e 2 v n (arcV es)) (hi : ∀ e, e ∈ es → InI e.1 ∧ InI e.2) : ArcsAt w es v := by
  have hl : es.length = n := by have := h.1; rw [arcV_len] at this; omega
  have hm := row_small h
  unfold maxLen at hm
  obtain ⟨a, c, rfl, ha⟩ := row_shape h
  subst hl
  refine ⟨a, c, rfl, hm, hi, fun hp => ?_⟩
  obtain ⟨g, rfl⟩ := ha hp
  refine ⟨g, 0, rfl, fun i hi => ?_⟩
  obtain ⟨c0, c1⟩ := arcV_at es i hi
  rw [Nat.zero_add]
  exact ⟨(h.cellAt (i * 2) (by omega)).trans c0, (h.cellAt (i * 2 + 1) (by omega)).trans c1⟩
theorem infoArc : (Try.prog.info? 51).map (fun i => (i.zero, i.size, i.bytes)) = some (some (.agg #[.int .i64 0, .int .i64 0]), 2, 16) := by kernel_rfl
theorem szArcs_any (es : List (Int × Int)) (v : Value) (w : World) (a : Nat) (ha : a ≤ 1048576) (hl : ArcsAt w es v) :
    Calls Try.prog 18 #[v, .int .i64 (a : Int)] w fun e w' => e = .returned (.int .i64 (leftR a es.length)) ∧ w = w' := by
  obtain ⟨aa, cap, rfl, hm, _, _⟩ := hl
  by_cases hb : a < es.length
  · have HO := Lib.hid (leftR_no (a := a) (n := es.length) (by omega))
    go_enter Try.func18, Try.ntmps18
    go_wp2
    go_ret
    exact ⟨by rw [HO.out]; rfl, rfl⟩
  · have HO := Lib.hid (leftR_yes (a := a) (n := es.length) (by omega))
    have e1 : ((a : Int) - (es.length : Int)) = ((a - es.length : Nat) : Int) := by omega
    have E1 := Lib.hid e1
    clear e1
    go_enter Try.func18, Try.ntmps18
    go_wp2
    go_ret
    exact ⟨by rw [HO.out, ← E1.out]; rfl, rfl⟩
theorem toArc_any (x y : Int) (w : World) :
    Calls Try.prog 49 #[.agg #[.int .i64 x, .int .i64 y]] w fun e w' => e = .returned (.agg #[.int .i64 x, .int .i64 y]) ∧ Below w.heap.size w w' := by
  go_enter Try.func49, Try.ntmps49
  go_wp2
  refine bodyPost_ret (v := .agg #[.int .i64 x, .int .i64 y]) (by simp [results, Try.results49, go_sem]) rfl ⟨rfl, ?_⟩
  repeat (first | exact Below.refl _ _ | refine Below.setCell ?_ (by simp) _ | refine Below.alloc ?_ (by simp <;> omega) _)
theorem eqArc_any (x y : Int) (w : World) :
    Calls Try.prog 50 #[.agg #[.int .i64 x, .int .i64 y], .agg #[.int .i64 x, .int .i64 y]] w fun e w' => e = .returned (.bool true) ∧ Below w.heap.size w w' := by
  go_enter Try.func50, Try.ntmps50
  go_wp2
  go_ret
  refine ⟨rfl, ?_⟩
  repeat (first | exact Below.refl _ _ | refine Below.alloc ?_ (by simp <;> omega) _)
set_option maxHeartbeats 800000 in
theorem toArcs_any (es : List (Int × Int)) (v : Value) (w : World) (hl : ArcsAt w es v) (hz : es.length ≤ 1048576) :
    Calls Try.prog 20 #[v] w fun e w' => ∃ v', e = .returned v' ∧ w'.ownsRow w.heap.size 51 2 v' es.length (arcV es) ∧ Below w.heap.size w w' := by
  obtain ⟨i0, hi, hz0, hz1, hz2⟩ := info_parts infoArc
  obtain ⟨aa, cap, rfl, h1, _, h2⟩ := hl
  have HK := Lib.hid h2
  clear h2
  go_enter Try.func20, Try.ntmps20
  go_wp2_with (at_make; refine wpList_make_full _ rfl (.tmp 6) (.tmp 6) 24 rfl w.heap.size 51 i0 _ 2 Try.underlying24 hi hz0 hz1 .i64 .i64 _ _ es.length rfl rfl rfl rfl (by rw [hz2]; omega) (by unfold maxLen; omega) (Nat.le_refl _) ?_)
  intro w1 hown hg
  have HO := Lib.hid hown
  have HG := Lib.hid hg
  clear hown hg
  go_wp2
  go_loopw [4] (fun i wr => ∃ (k : Nat) (zs : List Value), k ≤ es.length ∧ i = .int .i64 k ∧ Hid (wr.ownsRow w.heap.size 51 2 (.slice (some ⟨w.heap.size, 0, none⟩) es.length es.length) es.length (arcV (es.take k) ++ zs)) ∧ Hid (Below w.heap.size w wr))
    (fun i _ => es.length - (intOf i).toNat)
  case atStart => exact ⟨0, _, Nat.zero_le _, rfl, HO.out, below_noneL HG.out⟩
  case round =>
    obtain ⟨k, zs, hk, rfl, hrow, hbe⟩ := hrel
    by_cases hlt : k < es.length
    · obtain ⟨g, o, rfl, hc⟩ := HK.out (by omega)
      have c0 := keeps_below hbe.out _ _ (hc k hlt).1
      have c1 := keeps_below hbe.out _ _ (hc k hlt).2
      have C := Lib.hid (toArc_any es[k].1 es[k].2 wr)
      have hpl : (arcV (es.take k)).length = k * 2 := by rw [arcV_len, List.length_take]; omega
      have HPL := Lib.hid hpl
      clear hc hpl
      go_wp2_with fail
      refine C.out.mono ?_
      rintro e w2 ⟨rfl, hb2⟩
      have R2 := Lib.hid (row_below hrow.out hb2)
      have HB2 := Lib.hid (hbe.out.trans (hb2.mono hbe.out.size))
      clear hb2 c0 c1
      have f0 := R2.out.frozenAt (k * 2)
      have f1 := R2.out.frozenAt (k * 2 + 1)
      obtain ⟨u0, s0⟩ := row_some2 R2.out (j := k * 2) (by omega)
      obtain ⟨u1, s1⟩ := row_some2 R2.out (j := k * 2 + 1) (by omega)
      obtain ⟨zs2, hr4, hg4⟩ := row_put2 R2.out HPL.out hlt (.int .i64 es[k].1) (.int .i64 es[k].2)
      have HR4 : Hid (((w2.setCell ⟨w.heap.size, k * 2, none⟩ (.int .i64 es[k].1)).setCell ⟨w.heap.size, k * 2 + 1, none⟩ (.int .i64 es[k].2)).ownsRow w.heap.size 51 2 (.slice (some ⟨w.heap.size, 0, none⟩) es.length es.length) es.length (arcV (es.take (k + 1)) ++ zs2)) := by
        have e : arcV (es.take (k + 1)) = arcV (es.take k) ++ [Value.int .i64 es[k].1, Value.int .i64 es[k].2] := by rw [List.take_succ_eq_append_getElem hlt, arcV_append]; rfl
        show World.ownsRow _ _ _ _ _ _ _
        rw [e]
        exact hr4
      have HB4 := Lib.hid (HB2.out.grown hg4 HB2.out.size (fun b hb => by cases hb; exact Nat.le_refl _))
      clear hr4 hg4
      go_wp2
      go_roundw
      case rel => exact ⟨k + 1, zs2, by omega, by go_num, HR4, HB4⟩
      case measure => simp [intOf]; omega
    · obtain rfl : k = es.length := by omega
      have h1 := hrow.out
      rw [List.take_length] at h1
      have hz : zs = [] := List.eq_nil_of_length_eq_zero (by have := h1.1; rw [List.length_append, arcV_len] at this; omega)
      rw [hz, List.append_nil] at h1
      have H1 := Lib.hid h1
      clear h1 hz
      go_wp2
      go_ret
      exact ⟨_, rfl, H1.out, hbe.out⟩
set_option maxHeartbeats 1600000 in
theorem eqArcs_any (es : List (Int × Int)) (va vb : Value) (w : World) (h1 : ArcsAt w es va) (h2 : ArcsAt w es vb) :
    Calls Try.prog 21 #[va, vb] w fun e w' => e = .returned (.bool true) ∧ Below w.heap.size w w' := by
  obtain ⟨aa, cap, rfl, hlen, _, hk⟩ := h1
  obtain ⟨bb, dap, rfl, _, _, hk2⟩ := h2
  have HK := Lib.hid hk
  have HK2 := Lib.hid hk2
  clear hk hk2
  go_enter Try.func21, Try.ntmps21
  go_wp2
  go_loopw [5] (fun i wr => ∃ (k : Nat), k ≤ es.length ∧ i = .int .i64 k ∧ Hid (Below w.heap.size w wr))
    (fun i _ => es.length - (intOf i).toNat)
  case atStart => exact ⟨0, Nat.zero_le _, rfl, Below.refl _ _⟩
  case round =>
    obtain ⟨k, hk, rfl, hbe⟩ := hrel
    by_cases hlt : k < es.length
    · obtain ⟨g, o, rfl, hl⟩ := HK.out (by omega)
      obtain ⟨h, p, rfl, hm⟩ := HK2.out (by omega)
      have c0 := keeps_below hbe.out _ _ (hl k hlt).1
      have c1 := keeps_below hbe.out _ _ (hl k hlt).2
      have d0 := keeps_below hbe.out _ _ (hm k hlt).1
      have d1 := keeps_below hbe.out _ _ (hm k hlt).2
      have C : Hid (∀ wx, Below wr.heap.size wr wx → Calls Try.prog 50 #[.agg #[.int .i64 es[k].1, .int .i64 es[k].2], .agg #[.int .i64 es[k].1, .int .i64 es[k].2]] wx fun e w' => e = .returned (.bool true) ∧ Below wr.heap.size wr w') :=
        fun wx hb => (eqArc_any es[k].1 es[k].2 wx).mono fun e w' ⟨he, h⟩ => ⟨he, hb.trans (h.mono hb.size)⟩
      have KS : Hid (∀ wx, Below wr.heap.size wr wx → wx.cell? ⟨g, o + k * 2, none⟩ = some (.int .i64 es[k].1) ∧ wx.cell? ⟨g, o + k * 2 + 1, none⟩ = some (.int .i64 es[k].2) ∧ wx.cell? ⟨h, p + k * 2, none⟩ = some (.int .i64 es[k].1) ∧ wx.cell? ⟨h, p + k * 2 + 1, none⟩ = some (.int .i64 es[k].2) ∧ Below wr.heap.size wr wx) := fun wx hb => by
        have hk := keeps_below hb
        exact ⟨hk _ _ c0, hk _ _ c1, hk _ _ d0, hk _ _ d1, hb⟩
      have b0 : Below wr.heap.size wr wr.drew := (Below.refl _ _).drew
      clear hl hm c0 c1 d0 d1
      go_wp2_with fail
      go_region_held3 (fun wx => wx.cell? ⟨g, o + k * 2, none⟩ = some (.int .i64 es[k].1) ∧ wx.cell? ⟨g, o + k * 2 + 1, none⟩ = some (.int .i64 es[k].2) ∧ wx.cell? ⟨h, p + k * 2, none⟩ = some (.int .i64 es[k].1) ∧ wx.cell? ⟨h, p + k * 2 + 1, none⟩ = some (.int .i64 es[k].2) ∧ Below wr.heap.size wr wx)
        (exact KS.out _ (by assumption))
        (first
        | (go_at_call 50; (with_reducible refine (C.out _ (by assumption)).mono ?_); rintro e w1 ⟨rfl, b1⟩))
      all_goals
        have HB1 := Lib.hid (hbe.out.trans (b1.mono hbe.out.size))
        clear b1
        go_wp2
        go_roundw
        case rel => exact ⟨k + 1, by omega, by go_num, HB1⟩
        case measure => simp [intOf]; omega
    · go_wp2
      go_ret
      exact ⟨rfl, hbe.out⟩
set_option maxHeartbeats 800000 in
theorem markArcs_any (v : Value) (b n k : Nat) (xs : List Value) (w : World) (h1 : w.ownsRow b 51 2 v n xs) (hk2 : k + 2 * n ≤ 4611686018427387904) :
    Calls Try.prog 24 #[v, .int .i64 (k : Int)] w fun e w' => e = .returned (.int .i64 ((k + 2 * n : Nat) : Int)) ∧ w.grownBy w' v.ownBlock := by
  obtain ⟨a1, c1, rfl, ha1⟩ := row_shape h1
  have hnm := row_small h1
  unfold maxLen at hnm
  have H1 : Hid (w.ownsRow b 51 2 (.slice a1 n c1) n xs) := h1
  have HA1 : Hid (0 < n → ∃ g, a1 = some ⟨g, 0, none⟩) := ha1
  clear h1 ha1
  go_enter Try.func24, Try.ntmps24
  go_wp2
  go_loopw [1, 5] (fun x i wr => ∃ (j : Nat) (ys : List Value), j ≤ n ∧ i = .int .i64 j ∧ x = .int .i64 ((k + 2 * j : Nat) : Int) ∧ Hid (wr.ownsRow b 51 2 (.slice a1 n c1) n ys) ∧ Hid (w.grownBy wr (Value.slice a1 n c1).ownBlock))
    (fun _ i _ => n - (intOf i).toNat)
  case atStart => exact ⟨0, xs, Nat.zero_le _, rfl, rfl, H1.out, World.grownBy.refl _ _⟩
  case round =>
    obtain ⟨j, ys, hj, rfl, rfl, hrow, hgr⟩ := hrel
    by_cases hlt : j < n
    · obtain ⟨g1, rfl⟩ := HA1.out (by omega)
      obtain ⟨u0, s0⟩ := row_some2 hrow.out (j := j * 2) (by omega)
      have f0 := hrow.out.frozenAt (j * 2)
      obtain ⟨R2, G2⟩ := hrow.out.stored (j * 2) (.int .i64 ((k + 2 * j : Nat) : Int))
      obtain ⟨w2, hw2⟩ : ∃ w2, w2 = wr.setCell ⟨g1, j * 2, none⟩ (.int .i64 ((k + 2 * j : Nat) : Int)) := ⟨_, rfl⟩
      rw [← hw2] at R2 G2
      obtain ⟨u1, s1⟩ := row_some2 R2 (j := j * 2 + 1) (by omega)
      have f1 := R2.frozenAt (j * 2 + 1)
      obtain ⟨R3, G3⟩ := R2.stored (j * 2 + 1) (.int .i64 (((k + 2 * j : Nat) : Int) + 1))
      have HR3 := Lib.hid R3
      have HG3 := Lib.hid ((hgr.out.trans G2).trans G3)
      have e3 : (((k + 2 * j : Nat) : Int) + 1 + 1) = ((k + 2 * (j + 1) : Nat) : Int) := by omega
      have E3 := Lib.hid e3
      rw [hw2] at s1 f1 HR3 HG3
      have hq : ((k + 2 * j : Nat) : Int) ≤ 4611686018427387904 := by omega
      obtain ⟨z, hz⟩ : ∃ z : Int, z = ((k + 2 * j : Nat) : Int) := ⟨_, rfl⟩
      have hz0 : 0 ≤ z := by omega
      rw [← hz] at s1 f1 HR3 HG3 E3 hq
      rw [← hz]
      clear R2 G2 R3 G3 e3 hw2 hz hgr
      go_wp2
      go_roundw
      case rel => exact ⟨j + 1, _, by omega, by go_num, by rw [← E3.out], HR3, HG3⟩
      case measure => simp [intOf]; omega
    · obtain rfl : j = n := by omega
      go_wp2
      go_ret
      exact ⟨rfl, hgr.out⟩
end Go.Proofs.Ytabpbmifegfmgaa.Trm
