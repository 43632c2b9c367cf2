/- GraphOk of both sides, walked. Conditions: the arcs lie in memory. -/
import Derived.Test.YtabpbmifegfmgaaArcs
import Derived.Test.YtabpbmifegfmgaaInYes
namespace Go.Proofs.Ytabpbmifegfmgaa.Trm
open Go.RowKit Own
/-- An arc of a graph of n nodes. -/
def ArcOk (n : Int) (e : Int × Int) : Prop := (0 ≤ e.1 ∧ e.1 < n) ∧ (0 ≤ e.2 ∧ e.2 < n)
def GOk (n : Int) (es : List (Int × Int)) : Prop := 0 ≤ n ∧ n ≤ 60 ∧ es.length ≤ 2000 ∧ ∀ i (h : i < es.length), ArcOk n es[i]
/-- A truth that a call answers, and what is in the way of nothing older. -/
def SayB (p : Prop) (w : World) (e : Ending) (w' : World) : Prop := ∃ b, e = .returned (.bool b) ∧ (b = true ↔ p) ∧ Below w.heap.size w w'
theorem SayB.mk_true {p : Prop} {w w' : World} (hp : p) (h : Below w.heap.size w w') : SayB p w (.returned (.bool true)) w' := ⟨true, rfl, by simp [hp], h⟩
theorem SayB.mk_false {p : Prop} {w w' : World} (hp : ¬ p) (h : Below w.heap.size w w') : SayB p w (.returned (.bool false)) w' := ⟨false, rfl, by simp [hp], h⟩
set_option maxHeartbeats 1600000 in
theorem specGraph_any (n : Int) (es : List (Int × Int)) (v : Value) (w : World) (hl : ArcsAt w es v) (hn : InI n) :
    Calls Try.prog 19 #[.int .i64 n, v] w (SayB (GOk n es) w) := by
  obtain ⟨aa, cap, rfl, hlen, hin, hk⟩ := hl
  obtain ⟨n1, n2⟩ := hn
  have HK := Lib.hid hk
  have HIN := Lib.hid (fun i (h : i < es.length) => hin _ (List.getElem_mem h))
  clear hk hin
  by_cases hb : 0 ≤ n ∧ n ≤ 60
  · obtain ⟨b1, b2⟩ := hb
    by_cases hz : es.length ≤ 2000
    · go_enter Try.func19, Try.ntmps19
      go_wp2_with fail
      refine (in_yes n 0 60 _ b1 b2).mono ?_
      rintro e w1 ⟨rfl, rfl⟩
      go_wp2_with fail
      go_loopw [5] (fun i wr => ∃ (k : Nat), k ≤ es.length ∧ i = .int .i64 k ∧ Hid (∀ i (h : i < es.length), i < k → ArcOk n es[i]) ∧ wr = w)
        (fun i _ => es.length - (intOf i).toNat)
      case atStart => exact ⟨0, Nat.zero_le _, rfl, fun i _ h => by omega, rfl⟩
      case round =>
        obtain ⟨k, hk, rfl, hok, rfl⟩ := hrel
        by_cases hlt : k < es.length
        · obtain ⟨g, o, rfl, hc⟩ := HK.out (by omega)
          obtain ⟨c0, c1⟩ := hc k hlt
          have HI := HIN.out k hlt
          obtain ⟨⟨i1, i2⟩, i3, i4⟩ := HI
          clear hc
          obtain ⟨x, hx⟩ : ∃ x, x = es[k].1 := ⟨_, rfl⟩
          obtain ⟨y, hy⟩ : ∃ y, y = es[k].2 := ⟨_, rfl⟩
          rw [← hx] at c0 i1 i2
          rw [← hy] at c1 i3 i4
          have HX := Lib.hid hx
          have HY := Lib.hid hy
          clear hx hy
          by_cases h1 : 0 ≤ x ∧ x ≤ n - 1
          · by_cases h2 : 0 ≤ y ∧ y ≤ n - 1
            · have HS : Hid (∀ i (h : i < es.length), i < k + 1 → ArcOk n es[i]) := fun i hi h => by
                rcases Nat.lt_or_ge i k with h3 | h3
                · exact hok.out i hi h3
                · obtain rfl : i = k := by omega
                  unfold ArcOk
                  rw [← HX.out, ← HY.out]
                  omega
              go_wp2_with fail
              refine (in_yes x 0 (n - 1) _ h1.1 h1.2).mono ?_
              rintro e w1 ⟨rfl, rfl⟩
              go_wp2_with fail
              refine (in_yes y 0 (n - 1) _ h2.1 h2.2).mono ?_
              rintro e w1 ⟨rfl, rfl⟩
              go_wp2_with fail
              go_roundw
              case rel => exact ⟨k + 1, by omega, by go_num, HS, by first | rfl | trivial⟩
              case measure => simp [intOf]; omega
            · have HN : Hid (¬ GOk n es) := fun h => by
                have := h.2.2.2 k hlt
                unfold ArcOk at this
                rw [← HX.out, ← HY.out] at this
                omega
              go_wp2_with fail
              refine (in_yes x 0 (n - 1) _ h1.1 h1.2).mono ?_
              rintro e w1 ⟨rfl, rfl⟩
              go_wp2_with fail
              refine (in_no y 0 (n - 1) _ (by omega)).mono ?_
              rintro e w1 ⟨rfl, rfl⟩
              go_wp2_with fail
              go_ret
              exact SayB.mk_false HN.out (Below.refl _ _)
          · have HN : Hid (¬ GOk n es) := fun h => by
              have := h.2.2.2 k hlt
              unfold ArcOk at this
              rw [← HX.out, ← HY.out] at this
              omega
            go_wp2_with fail
            refine (in_no x 0 (n - 1) _ (by omega)).mono ?_
            rintro e w1 ⟨rfl, rfl⟩
            go_wp2_with fail
            go_ret
            exact SayB.mk_false HN.out (Below.refl _ _)
        · have HY : Hid (GOk n es) := ⟨b1, b2, hz, fun i h => hok.out i h (by omega)⟩
          go_wp2_with fail
          go_ret
          exact SayB.mk_true HY.out (Below.refl _ _)
    · have HN : Hid (¬ GOk n es) := fun h => hz h.2.2.1
      go_enter Try.func19, Try.ntmps19
      go_wp2_with fail
      refine (in_yes n 0 60 _ b1 b2).mono ?_
      rintro e w1 ⟨rfl, rfl⟩
      go_wp2_with fail
      go_ret
      exact SayB.mk_false HN.out (Below.refl _ _)
  · have HN : Hid (¬ GOk n es) := fun h => hb ⟨h.1, h.2.1⟩
    go_enter Try.func19, Try.ntmps19
    go_wp2_with fail
    refine (in_no n 0 60 _ (by omega)).mono ?_
    rintro e w1 ⟨rfl, rfl⟩
    go_wp2_with fail
    go_ret
    exact SayB.mk_false HN.out (Below.refl _ _)
theorem node_yes (n x : Int) (w : World) (h1 : 0 ≤ x) (h2 : x < n) : Calls Try.prog 42 #[.int .i64 n, .int .i64 x] w fun e w' => e = .returned (.bool true) ∧ w = w' := by
  go_enter Try.func42, Try.ntmps42
  go_wp2
  go_ret
  exact ⟨rfl, rfl⟩
theorem node_no (n x : Int) (w : World) (h : x < 0 ∨ n ≤ x) : Calls Try.prog 42 #[.int .i64 n, .int .i64 x] w fun e w' => e = .returned (.bool false) ∧ w = w' := by
  by_cases h1 : x < 0
  · go_enter Try.func42, Try.ntmps42
    go_wp2
    go_ret
    exact ⟨rfl, rfl⟩
  · have h2 : n ≤ x := by omega
    clear h
    go_enter Try.func42, Try.ntmps42
    go_wp2
    go_ret
    first | exact ⟨rfl, rfl⟩ | exact ⟨by rw [decide_eq_false (show ¬ x < n by omega)]; rfl, rfl⟩
theorem implArcBad_any (n x y : Int) (g : Nat) (w : World) (hg : w.cell? ⟨g, 0, none⟩ = some (.int .i64 n)) :
    Calls Try.prog 41 #[.agg #[.int .i64 x, .int .i64 y], .pointer (some ⟨g, 0, none⟩)] w (SayB (¬ ArcOk n (x, y)) w) := by
  have h1 := keeps_alloc w (.cells #[.int .i64 x, .int .i64 y] 51) _ _ hg
  have HB := Lib.hid ((Below.refl w.heap.size w).alloc (Nat.le_refl _) (.cells #[.int .i64 x, .int .i64 y] 51))
  clear hg
  by_cases hx : 0 ≤ x ∧ x < n
  · by_cases hy : 0 ≤ y ∧ y < n
    · have HP : Hid (¬ ¬ ArcOk n (x, y)) := fun h => h ⟨hx, hy⟩
      go_enter Try.func41, Try.ntmps41
      go_wp2_with fail
      refine (node_yes n x _ hx.1 hx.2).mono ?_
      rintro e w1 ⟨rfl, rfl⟩
      go_wp2_with fail
      refine (node_yes n y _ hy.1 hy.2).mono ?_
      rintro e w1 ⟨rfl, rfl⟩
      go_wp2_with fail
      go_ret
      exact SayB.mk_false HP.out HB.out
    · have HP : Hid (¬ ArcOk n (x, y)) := fun h => hy h.2
      go_enter Try.func41, Try.ntmps41
      go_wp2_with fail
      refine (node_yes n x _ hx.1 hx.2).mono ?_
      rintro e w1 ⟨rfl, rfl⟩
      go_wp2_with fail
      refine (node_no n y _ (by omega)).mono ?_
      rintro e w1 ⟨rfl, rfl⟩
      go_wp2_with fail
      go_ret
      exact SayB.mk_true HP.out HB.out
  · have HP : Hid (¬ ArcOk n (x, y)) := fun h => hx h.1
    go_enter Try.func41, Try.ntmps41
    go_wp2_with fail
    refine (node_no n x _ (by omega)).mono ?_
    rintro e w1 ⟨rfl, rfl⟩
    go_wp2_with fail
    go_ret
    exact SayB.mk_true HP.out HB.out
theorem implArcIdx_any (n : Int) (es : List (Int × Int)) (q : Nat) (v : Value) (w : World) (hl : ArcsAt w es v) (hg : w.cell? ⟨q, 0, none⟩ = some (.int .i64 n)) :
    Calls Try.prog 58 #[v, .func (.func 41) #[] #[.pointer (some ⟨q, 0, none⟩)]] w fun e w' => ∃ z : Int, e = .returned (.int .i64 z) ∧ (0 ≤ z ↔ ¬ ∀ i (h : i < es.length), ArcOk n es[i]) ∧ Below w.heap.size w w' := by
  obtain ⟨aa, cap, rfl, hlen, _, hk⟩ := hl
  have HK := Lib.hid hk
  have HG := Lib.hid hg
  clear hk hg
  go_enter Try.func58, Try.ntmps58
  go_wp2
  go_loopw [8] (fun i wr => ∃ (j : Nat), j ≤ es.length ∧ i = .int .i64 j ∧ Hid (∀ i (h : i < es.length), i < j → ArcOk n es[i]) ∧ Hid (Below w.heap.size w wr))
    (fun i _ => es.length - (intOf i).toNat)
  case atStart => exact ⟨0, Nat.zero_le _, rfl, fun i _ h => by omega, Below.refl _ _⟩
  case round =>
    obtain ⟨j, hj, rfl, hne, hbe⟩ := hrel
    by_cases hlt : j < es.length
    · obtain ⟨g, o, rfl, hcell⟩ := HK.out (by omega)
      have c0 := keeps_below hbe.out _ _ (hcell j hlt).1
      have c1 := keeps_below hbe.out _ _ (hcell j hlt).2
      have C := Lib.hid (implArcBad_any n es[j].1 es[j].2 q wr (keeps_below hbe.out _ _ HG.out))
      clear hcell
      go_wp2_with fail
      refine C.out.mono ?_
      rintro e w1 ⟨b, rfl, hb, hbw⟩
      have HB := Lib.hid hb
      have HB1 := Lib.hid (hbe.out.trans (hbw.mono hbe.out.size))
      clear hb hbw
      cases b with
      | true =>
        have HX : Hid ((0 : Int) ≤ (j : Int) ↔ ¬ ∀ i (h : i < es.length), ArcOk n es[i]) := ⟨fun _ h => HB.out.1 rfl (h j hlt), fun _ => by omega⟩
        go_wp2
        go_ret
        exact ⟨_, rfl, HX.out, HB1.out⟩
      | false =>
        have HS : Hid (∀ i (h : i < es.length), i < j + 1 → ArcOk n es[i]) := fun i hl hi => by
          rcases Nat.lt_or_ge i j with h1 | h1
          · exact hne.out i hl h1
          · obtain rfl : i = j := by omega
            apply Classical.byContradiction
            intro h
            have := HB.out.2 h
            simp at this
        go_wp2
        go_roundw
        case rel => exact ⟨j + 1, by omega, by go_num, HS, HB1⟩
        case measure => simp [intOf]; omega
    · have HX : Hid ((0 : Int) ≤ -1 ↔ ¬ ∀ i (h : i < es.length), ArcOk n es[i]) := ⟨fun h => by omega, fun h => absurd (fun i hi => hne.out i hi (by omega)) h⟩
      go_wp2
      go_ret
      exact ⟨_, rfl, HX.out, hbe.out⟩
theorem implArcHas_any (n : Int) (es : List (Int × Int)) (q : Nat) (v : Value) (w : World) (hl : ArcsAt w es v) (hg : w.cell? ⟨q, 0, none⟩ = some (.int .i64 n)) :
    Calls Try.prog 40 #[v, .func (.func 41) #[] #[.pointer (some ⟨q, 0, none⟩)]] w (SayB (¬ ∀ i (h : i < es.length), ArcOk n es[i]) w) := by
  have C := Lib.hid (implArcIdx_any n es q v w hl hg)
  obtain ⟨aa, cap, rfl, hlen, _, hk⟩ := hl
  clear hk hg
  go_enter Try.func40, Try.ntmps40
  go_wp2_with fail
  refine C.out.mono ?_
  rintro e w1 ⟨z, rfl, hz, hb⟩
  have HZ := Lib.hid hz
  have HB := Lib.hid hb
  clear hz hb
  by_cases h0 : 0 ≤ z
  · go_wp2_with fail
    go_ret
    exact SayB.mk_true (HZ.out.1 h0) HB.out
  · have hd : decide (0 ≤ z) = false := decide_eq_false h0
    go_wp2_with fail
    go_ret
    exact SayB.mk_false (fun h => by have := HZ.out.2 h; omega) HB.out
set_option maxHeartbeats 800000 in
theorem implGraph_any (n : Int) (es : List (Int × Int)) (v : Value) (w : World) (hl : ArcsAt w es v) :
    Calls Try.prog 14 #[.int .i64 n, v] w (SayB (GOk n es) w) := by
  have HL := Lib.hid hl
  obtain ⟨aa, cap, rfl, hlen, _, _⟩ := hl
  have HB := Lib.hid ((Below.refl w.heap.size w).alloc (Nat.le_refl _) (.cells #[.int .i64 n] 3))
  have hg0 : (w.alloc (.cells #[.int .i64 n] 3)).cell? ⟨w.heap.size, 0, none⟩ = some (.int .i64 n) := by simp [go_sem]
  have C := Lib.hid (implArcHas_any n es w.heap.size (.slice aa es.length cap) _ (HL.out.keep (keeps_below HB.out)) hg0)
  clear hg0
  by_cases hb : 0 ≤ n ∧ n ≤ 60
  · by_cases hz : es.length ≤ 2000
    · go_enter Try.func14, Try.ntmps14
      go_wp2_with fail
      refine C.out.mono ?_
      rintro e w1 ⟨b, rfl, hbb, hw⟩
      have HBB := Lib.hid hbb
      have HW := Lib.hid (below_box1 hw)
      clear hbb hw
      cases b with
      | true =>
        go_wp2_with fail
        go_ret
        exact SayB.mk_false (fun h => HBB.out.1 (by trivial) h.2.2.2) HW.out
      | false =>
        go_wp2_with fail
        go_ret
        refine SayB.mk_true ⟨hb.1, hb.2, hz, ?_⟩ HW.out
        apply Classical.byContradiction
        intro h
        have := HBB.out.2 h
        simp at this
    · have HN : Hid (¬ GOk n es) := fun h => hz h.2.2.1
      go_enter Try.func14, Try.ntmps14
      go_wp2_with fail
      go_ret
      exact SayB.mk_false HN.out HB.out
  · have HN : Hid (¬ GOk n es) := fun h => hb ⟨h.1, h.2.1⟩
    rcases (by omega : n < 0 ∨ (0 ≤ n ∧ 60 < n)) with h0 | ⟨h0, h1⟩
    · go_enter Try.func14, Try.ntmps14
      go_wp2_with fail
      go_ret
      exact SayB.mk_false HN.out HB.out
    · go_enter Try.func14, Try.ntmps14
      go_wp2_with fail
      go_ret
      exact SayB.mk_false HN.out HB.out
end Go.Proofs.Ytabpbmifegfmgaa.Trm
