/- The procedure of a place and its end, of both sides, walked. Conditions: the entries lie in memory and rise from 0 on. -/
import Derived.Test.YtofmccihehalcaaChecked
import Derived.Test.YtofmccihehalcaaKMath
import Derived.Test.YtofmccihehalcaaPlaceI
import Derived.OwnWalk
import Derived.WalkSmall
import Derived.BigQuiet
import Derived.Outline
namespace Go.Proofs.Ytofmccihehalcaa.Trm
open Go.RowKit Own
set_option maxHeartbeats 400000 in
theorem specKProc_any (es : List Int) (gv lv pv iv : Value) (ea : Option Addr) (ec n : Nat) (a : Int) (w : World) (hes : IntsAt w es (.slice ea es.length ec)) (hr : Ris es n) (h0 : 0 ≤ a) :
    Calls Try.prog 37 #[.agg #[gv, lv, pv, .slice ea es.length ec, iv], .int .i64 a] w fun e w' => ∃ p : Nat, e = .returned (.int .i64 (p : Int)) ∧ IsP es a p ∧ Below w.heap.size w w' := by
  obtain ⟨a2, c2, e2, hm, _, hk⟩ := hes
  simp at e2
  obtain ⟨rfl, rfl⟩ := e2
  have HK := Lib.hid hk
  have HR := Lib.hid hr
  have X0 := Lib.hid (Box5.new w gv lv pv (.slice ea es.length ec) iv 31)
  have B0 := Lib.hid ((Below.refl w.heap.size w).alloc (Nat.le_refl _) (.cells #[gv, lv, pv, .slice ea es.length ec, iv] 31))
  have hz0 : 0 < es.length := hr.1
  clear hk hr
  go_enter Try.func37, Try.ntmps37
  go_wp2
  go_loopw [5] (fun i wr => ∃ (j : Nat), j ≤ es.length ∧ i = .int .i64 ((j : Int) - 1) ∧ Hid (∀ q (h : q < es.length), j ≤ q → a < es[q]) ∧ Hid (Box5 wr w.heap.size gv lv pv (.slice ea es.length ec) iv) ∧ Hid (Below w.heap.size w wr))
    (fun i _ => (intOf i + 1).toNat)
  case atStart => exact ⟨es.length, Nat.le_refl _, rfl, fun q h h2 => by omega, X0.out, B0.out⟩
  case round =>
    obtain ⟨j, hj, rfl, hne, hbx, hbe⟩ := hrel
    obtain ⟨p0, p1, p2, p3, p4⟩ := hbx.out
    match j, hj, hne with
    | 0, hj, hne =>
      have h1 := hne.out 0 hz0 (Nat.le_refl _)
      have h2 := HR.out.2.1
      exact absurd h1 (by omega)
    | m + 1, hj, hne =>
      obtain ⟨g, o, rfl, hc⟩ := HK.out (by omega)
      have hlt : m < es.length := by omega
      have c0 := keeps_below hbe.out _ _ (hc m hlt)
      have e1 : (((m + 1 : Nat) : Int) - 1) = (m : Int) := by omega
      rw [e1]
      clear hc e1
      by_cases hle : es[m] ≤ a
      · have HX : Hid (IsP es a m) := ⟨hlt, hle, fun h2 => hne.out (m + 1) h2 (by omega)⟩
        go_wp2
        go_ret
        exact ⟨m, rfl, HX.out, hbe.out⟩
      · have HS : Hid (∀ q (h : q < es.length), m ≤ q → a < es[q]) := fun q h h2 => by
          rcases Nat.lt_or_ge m q with h3 | h3
          · exact hne.out q h (by omega)
          · obtain rfl : q = m := by omega
            omega
        go_wp2
        go_roundw
        case rel => exact ⟨m, by omega, by go_num, HS, hbx, hbe⟩
        case measure => simp [intOf]
theorem specKEnd_any (es : List Int) (gv lv pv : Value) (ea ia : Option Addr) (ec n ic p : Nat) (w : World) (hes : IntsAt w es (.slice ea es.length ec)) (hr : Ris es n) (hp : p < es.length) (hn : n ≤ 9223372036854775807) :
    Calls Try.prog 14 #[.agg #[gv, lv, pv, .slice ea es.length ec, .slice ia n ic], .int .i64 (p : Int)] w fun e w' => ∃ z, e = .returned (.int .i64 z) ∧ z = endI es n p ∧ Below w.heap.size w w' := by
  obtain ⟨a2, c2, e2, hm, _, hk⟩ := hes
  simp at e2
  obtain ⟨rfl, rfl⟩ := e2
  have B0 := Lib.hid ((Below.refl w.heap.size w).alloc (Nat.le_refl _) (.cells #[gv, lv, pv, .slice ea es.length ec, .slice ia n ic] 31))
  have hz0 : (0 : Int) < (n : Int) := by have h1 := hr.1; have h2 := hr.2.1; have h3 := hr.below h1; omega
  by_cases h : p + 1 < es.length
  · have HE : Hid (endI es n p = es[p + 1] - 1) := by show _ = _; unfold endI; rw [dif_pos h]
    have hlo := hr.nonneg h
    have hhi := hr.below h
    obtain ⟨g, o, rfl, hc⟩ := hk (by omega)
    have c0 := keeps_alloc w (.cells #[gv, lv, pv, .slice (some ⟨g, o, none⟩) es.length ec, .slice ia n ic] 31) _ _ (hc (p + 1) h)
    have hpi : (p : Int) + 1 < (es.length : Int) := by omega
    clear hc hk hr
    generalize es[p + 1] = z at *
    go_enter Try.func14, Try.ntmps14
    go_wp2
    go_ret
    exact ⟨_, rfl, HE.out.symm, B0.out⟩
  · have HE : Hid (endI es n p = (n : Int) - 1) := by show _ = _; unfold endI; rw [dif_neg h]
    have hpi : ¬ (p : Int) + 1 < (es.length : Int) := by omega
    clear hk hr
    go_enter Try.func14, Try.ntmps14
    go_wp2
    go_ret
    exact ⟨_, rfl, HE.out.symm, B0.out⟩
/-- The procedure of a place, -1 where there is no such place. -/
def ProcI (es : List Int) (n : Nat) (a z : Int) : Prop := (0 ≤ a ∧ a < (n : Int) ∧ ∃ p : Nat, z = (p : Int) ∧ IsP es a p) ∨ (¬ (0 ≤ a ∧ a < (n : Int)) ∧ z = -1)
set_option maxHeartbeats 800000 in
/-- The program's way: -1 where there is no such place. -/
theorem implKProc_any (es : List Int) (gv lv pv : Value) (ea ia : Option Addr) (ec n ic : Nat) (a : Int) (w : World) (hes : IntsAt w es (.slice ea es.length ec)) (hr : Ris es n) :
    Calls Try.prog 67 #[.agg #[gv, lv, pv, .slice ea es.length ec, .slice ia n ic], .int .i64 a] w fun e w' => ∃ z : Int, e = .returned (.int .i64 z) ∧ ProcI es n a z ∧ Below w.heap.size w w' := by
  obtain ⟨a2, c2, e2, hm, _, hk⟩ := hes
  simp at e2
  obtain ⟨rfl, rfl⟩ := e2
  have HK := Lib.hid hk
  have HR := Lib.hid hr
  have X0 := Lib.hid (Box5.new w gv lv pv (.slice ea es.length ec) (.slice ia n ic) 31)
  have B0 := Lib.hid ((Below.refl w.heap.size w).alloc (Nat.le_refl _) (.cells #[gv, lv, pv, .slice ea es.length ec, .slice ia n ic] 31))
  have hz0 : 0 < es.length := hr.1
  clear hk hr
  by_cases hn : a < (n : Int)
  · go_enter Try.func67, Try.ntmps67
    go_wp2
    go_loopw [5] (fun i wr => ∃ (j : Nat), j ≤ es.length ∧ i = .int .i64 ((j : Int) - 1) ∧ Hid (∀ h : 0 < j, ∃ h2 : j - 1 < es.length, es[j - 1] ≤ a) ∧ Hid (Box5 wr w.heap.size gv lv pv (.slice ea es.length ec) (.slice ia n ic)) ∧ Hid (Below w.heap.size w wr))
      (fun i _ => es.length - (intOf i + 1).toNat)
    case atStart => exact ⟨0, Nat.zero_le _, rfl, fun h => absurd h (by omega), X0.out, B0.out⟩
    case round =>
      obtain ⟨j, hj, rfl, hne, hbx, hbe⟩ := hrel
      obtain ⟨p0, p1, p2, p3, p4⟩ := hbx.out
      have e1 : ((j : Int) - 1 + 1) = (j : Int) := by omega
      have hj1 : -1 ≤ (j : Int) - 1 := by omega
      by_cases hlt : j < es.length
      · obtain ⟨g, o, rfl, hc⟩ := HK.out (by omega)
        have c0 := keeps_below hbe.out _ _ (hc j hlt)
        clear hc
        by_cases hle : es[j] ≤ a
        · have HS : Hid (∀ h : 0 < j + 1, ∃ h2 : j + 1 - 1 < es.length, es[j + 1 - 1] ≤ a) := fun _ => ⟨hlt, hle⟩
          go_wp2
          go_roundw
          case rel => exact ⟨j + 1, by omega, by go_num, HS, hbx, hbe⟩
          case measure => simp [intOf]; omega
        · have HX : Hid (ProcI es n a ((j : Int) - 1)) := by
            show ProcI _ _ _ _
            rcases Nat.eq_zero_or_pos j with hq | hq
            · subst hq
              have := HR.out.2.1
              exact .inr ⟨by omega, by omega⟩
            · obtain ⟨h2, h3⟩ := hne.out hq
              have := HR.out.nonneg h2
              obtain ⟨m, rfl⟩ : ∃ m, j = m + 1 := ⟨j - 1, by omega⟩
              exact .inl ⟨by omega, hn, m, by omega, h2, h3, fun _ => by omega⟩
          go_wp2
          go_ret
          exact ⟨_, rfl, HX.out, hbe.out⟩
      · have HX : Hid (ProcI es n a ((j : Int) - 1)) := by
          show ProcI _ _ _ _
          obtain ⟨h2, h3⟩ := hne.out (by omega)
          have := HR.out.nonneg h2
          obtain ⟨m, rfl⟩ : ∃ m, j = m + 1 := ⟨j - 1, by omega⟩
          exact .inl ⟨by omega, hn, m, by omega, h2, h3, fun h4 => by omega⟩
        go_wp2
        go_ret
        exact ⟨_, rfl, HX.out, hbe.out⟩
  · have HN : Hid (ProcI es n a (-1)) := .inr ⟨fun h => hn h.2, rfl⟩
    go_enter Try.func67, Try.ntmps67
    go_wp2
    go_ret
    exact ⟨_, rfl, HN.out, B0.out⟩
end Go.Proofs.Ytofmccihehalcaa.Trm
