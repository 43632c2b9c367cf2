/- Rows of numbers put together and held against each other by the library, walked. Conditions: the rows lie in memory; each has at most 2 to the 20 numbers. -/
import Derived.Test.YtofmccihehalcaaGreatSrcRow
import Derived.Test.YtofmccihehalcaaGreatIntCalls
import Derived.Test.YtofmccihehalcaaGreatTermRight
import Derived.Test.YtofmccihehalcaaGreatTermTo
import Derived.Lib.AppendZeros
namespace Go.Proofs.YtofmccihehalcaaGreat.Trm
open Go.RowKit Own
theorem one_intV (ss : List Int) : ∀ u ∈ intV ss, u.oneCell' = true := by
  intro u hu
  obtain ⟨s, _, rfl⟩ := List.mem_map.1 hu
  rfl
theorem intV_append (a b : List Int) : intV (a ++ b) = intV a ++ intV b := by simp [intV]
theorem src_ints {w : World} {ns : List Int} {g o c : Nat} (h : IntsAt w ns (.slice (some ⟨g, o, none⟩) ns.length c)) (hp : 0 < ns.length) : Src w (some ⟨g, o, none⟩) ns.length c (intV ns) := by
  obtain ⟨a2, c2, e, _, _, h2⟩ := h
  simp at e
  obtain ⟨rfl, rfl⟩ := e
  obtain ⟨g2, o2, e2, h3⟩ := h2 hp
  cases e2
  refine .inr ⟨_, rfl, by simp [intV], fun j u hj => ?_⟩
  have hjl : j < ns.length := by
    have := (List.getElem?_eq_some_iff.1 hj).1
    simpa [intV] using this
  have e3 : u = .int .i64 ns[j] := by
    have := hj
    rw [List.getElem?_eq_getElem (by simpa [intV] using hjl)] at this
    simpa [intV] using this.symm
  subst e3
  have e4 : (⟨g, o, none⟩ : Addr).add j = ⟨g, o + j, none⟩ := by
    unfold Addr.add
    by_cases h0 : j = 0
    · rw [if_pos h0, h0, Nat.add_zero]
    · rw [if_neg h0]
  rw [e4]
  exact h3 j hjl
set_option maxRecDepth 20000 in
set_option maxHeartbeats 800000 in
theorem implGrowI_nil (n : Nat) (w : World) (hn : n ≤ 8000000) :
    Calls Tryz.prog 181 #[.slice none 0 0, .int .i64 (n : Int)] w fun e w' => ∃ ov, e = .returned ov ∧ w'.ownsRow w.heap.size 3 1 ov 0 [] ∧ w.grownBy w' none := by
  obtain ⟨i0, hi, hz0, hz1, hz2⟩ := info_parts infoIntL
  rcases Nat.eq_zero_or_pos n with h0 | h0
  · subst h0
    go_enter Tryz.func181, Tryz.ntmps181
    go_wp2
    go_ret
    exact ⟨_, rfl, ⟨rfl, .inl ⟨rfl, rfl⟩⟩, World.grownBy.refl _ _⟩
  · have hr := Lib.run_append_nil_zeros (P := Tryz.prog) w 25 3 25 3 i0 (.int .i64 0) .i64 .i64 Tryz.underlying25 (by kernel_rfl) hi hz0 n h0 (by omega) (by omega) (by rw [hz2]; omega)
    have hge := grownCap_ge w n 0 3
    have hle := grownCap_le_maxLen w n 0 3 (by unfold maxLen; omega)
    have HOW : Hid ((w.drew.alloc (.cells (Builtin.zeroCells (Value.int .i64 0).cells n ++ Builtin.zeroCells (Value.int .i64 0).cells (grownCap w n 0 3 - n)) 3)).ownsRow w.heap.size 3 1 (.slice (some ⟨w.heap.size, 0, none⟩) 0 (grownCap w n 0 3)) 0 []) := by
      refine ⟨rfl, .inr ⟨w.heap.size, _, _, rfl, Nat.le_refl _, heap_alloc_new w.drew _, Nat.zero_le _, hle, ?_, by simp⟩⟩
      simp only [Array.size_append, size_zeroCells]
      show n * 1 + (grownCap w n 0 3 - n) * 1 = grownCap w n 0 3 * 1
      omega
    have HG : Hid (w.grownBy (w.drew.alloc (.cells (Builtin.zeroCells (Value.int .i64 0).cells n ++ Builtin.zeroCells (Value.int .i64 0).cells (grownCap w n 0 3 - n)) 3)) none) := ⟨rfl, rfl, rfl, by simp, fun k hk _ => Below.heap_alloc w.drew _ k hk⟩
    have HR := Lib.hid hr
    have hp : (0 : Int) < (n : Int) := by omega
    generalize (w.drew.alloc (.cells (Builtin.zeroCells (Value.int .i64 0).cells n ++ Builtin.zeroCells (Value.int .i64 0).cells (grownCap w n 0 3 - n)) 3)) = w2 at HR HOW HG
    generalize grownCap w n 0 3 = cp at *
    clear hr hi hz0 hz1 hz2
    go_enter Tryz.func181, Tryz.ntmps181
    go_wp2_with (at_builtin; refine Lib.wpList_append_run _ rfl (.tmp 20) (.tmp 21) 25 3 rfl _ _ rfl rfl _ _ HR.out ?_)
    go_wp2
    go_ret
    exact ⟨_, rfl, HOW.out, HG.out⟩
def catI (xs ys : List Int) (j : Nat) : List Int := if j = 0 then [] else if j = 1 then xs else xs ++ ys
set_option maxRecDepth 20000 in
set_option maxHeartbeats 1600000 in
theorem implConcatI_any (xs ys : List Int) (a b : Option Addr) (ac bc g : Nat) (w : World) (ha : xs.length ≤ 1048576) (hb : ys.length ≤ 1048576)
    (c0 : w.cell? ⟨g, 0, none⟩ = some (.slice a xs.length ac)) (c1 : w.cell? ⟨g, 1, none⟩ = some (.slice b ys.length bc)) (sa : Src w a xs.length ac (intV xs)) (sb : Src w b ys.length bc (intV ys)) :
    Calls Tryz.prog 154 #[.slice (some ⟨g, 0, none⟩) 2 2] w fun e w' => ∃ ov, e = .returned ov ∧ w'.ownsRow w.heap.size 3 1 ov (xs ++ ys).length (intV (xs ++ ys)) ∧ Below w.heap.size w w' := by
  obtain ⟨i0, hi, hz0, hz1, hz2⟩ := info_parts infoIntL
  have CG := Lib.hid (implGrowI_nil (xs.length + ys.length) w (by omega))
  have HSA := Lib.hid (fun wx (hk : Below w.heap.size w wx) => sa.keep (keeps_below hk))
  have HSB := Lib.hid (fun wx (hk : Below w.heap.size w wx) => sb.keep (keeps_below hk))
  have HC := Lib.hid (fun wx (hk : Below w.heap.size w wx) => (⟨keeps_below hk _ _ c0, keeps_below hk _ _ c1⟩ : wx.cell? ⟨g, 0, none⟩ = some (.slice a xs.length ac) ∧ wx.cell? ⟨g, 1, none⟩ = some (.slice b ys.length bc)))
  have HA := Lib.hid ha
  have HB := Lib.hid hb
  clear sa sb
  go_enter Tryz.func154, Tryz.ntmps154
  go_wp2
  go_loopw [3, 11] (fun z i wr => ∃ j : Nat, j ≤ 2 ∧ i = .int .i64 j ∧ z = .int .i64 ((if j = 0 then 0 else if j = 1 then xs.length else xs.length + ys.length : Nat) : Int) ∧ wr = w)
    (fun _ i _ => 2 - (intOf i).toNat)
  case atStart => exact ⟨0, Nat.zero_le _, rfl, rfl, rfl⟩
  case round =>
    obtain ⟨j, hj, rfl, rfl, rfl⟩ := hrel
    rcases (by omega : j = 0 ∨ j = 1 ∨ j = 2) with rfl | rfl | rfl
    · go_wp2
      go_roundw
      case rel => exact ⟨1, by omega, by go_num, by go_num, by first | rfl | trivial⟩
      case measure => simp [intOf]
    · have hq : ¬ ((xs.length : Int) + (ys.length : Int) < 0) := by omega
      go_wp2
      go_roundw
      case rel => exact ⟨2, by omega, by go_num, by go_num, by first | rfl | trivial⟩
      case measure => simp [intOf]
    · obtain ⟨w1, hw1⟩ : ∃ w0, w0 = wr := ⟨_, rfl⟩
      subst hw1
      have e : ((xs.length + ys.length : Nat) : Int) = (xs.length : Int) + (ys.length : Int) := by omega
      rw [e] at CG
      clear e
      go_wp2_with fail
      refine CG.out.mono ?_
      rintro en w2 ⟨ov, rfl, hr2, hg2⟩
      have HR2 := Lib.hid hr2
      have HB2 : Hid (Below w1.heap.size w1 w2) := below_none hg2
      obtain ⟨va, vc, rfl, _⟩ := row_shape hr2
      clear hr2 hg2 c0 c1
      go_wp2_with fail
      go_loopw [6, 27] (fun o i wr => ∃ (j : Nat) (ls : List Int), j ≤ 2 ∧ i = .int .i64 j ∧ Hid (ls = catI xs ys j) ∧ Hid (wr.ownsRow w1.heap.size 3 1 o ls.length (intV ls)) ∧ Hid (Below w1.heap.size w1 wr))
        (fun _ i _ => 2 - (intOf i).toNat)
      case atStart => exact ⟨0, [], Nat.zero_le _, rfl, rfl, HR2, HB2⟩
      case round =>
        obtain ⟨j, ls, hj, rfl, hls, hrow, hbe⟩ := hrel
        obtain ⟨oa, oc, rfl, _⟩ := row_shape hrow.out
        obtain ⟨d0, d1⟩ := HC.out _ hbe.out
        have hws : w1.heap.size ≤ wr.heap.size := hbe.out.size
        rcases (by omega : j = 0 ∨ j = 1 ∨ j = 2) with rfl | rfl | rfl
        · obtain rfl : ls = [] := hls.out
          go_wp2_with (at_builtin; refine wpList_append_src rfl (.tmp 31) (.tmp 32) 25 rfl w1.heap.size 3 i0 (.int .i64 0) 8 Tryz.underlying25 hi hz0 hz1 hz2 rfl (.slice oa 0 oc) 0 _ rfl hrow.out a xs.length ac (intV xs) rfl (HSA.out _ hbe.out) (one_intV _) (by unfold maxLen; omega) (by omega) hws ?_)
          intro o3 w3 hr3 hm3
          have HR3 : Hid (w3.ownsRow w1.heap.size 3 1 o3 xs.length (intV xs)) := by
            show World.ownsRow _ _ _ _ _ _ _
            simpa [intV] using hr3
          have HB3 := Lib.hid (hm3.below hbe.out hrow.out)
          clear hr3 hm3
          go_wp2_with fail
          go_roundw
          case rel => exact ⟨1, xs, by omega, by go_num, rfl, HR3, HB3⟩
          case measure => simp [intOf]
        · obtain rfl : ls = xs := hls.out
          go_wp2_with (at_builtin; refine wpList_append_src rfl (.tmp 31) (.tmp 32) 25 rfl w1.heap.size 3 i0 (.int .i64 0) 8 Tryz.underlying25 hi hz0 hz1 hz2 rfl (.slice oa ls.length oc) ls.length _ rfl hrow.out b ys.length bc (intV ys) rfl (HSB.out _ hbe.out) (one_intV _) (by unfold maxLen; omega) (by omega) hws ?_)
          intro o3 w3 hr3 hm3
          have HR3 : Hid (w3.ownsRow w1.heap.size 3 1 o3 (ls ++ ys).length (intV (ls ++ ys))) := by
            show World.ownsRow _ _ _ _ _ _ _
            rw [List.length_append, intV_append]
            exact hr3
          have HB3 := Lib.hid (hm3.below hbe.out hrow.out)
          clear hr3 hm3
          go_wp2_with fail
          go_roundw
          case rel => exact ⟨2, ls ++ ys, by omega, by go_num, rfl, HR3, HB3⟩
          case measure => simp [intOf]
        · obtain rfl : ls = xs ++ ys := hls.out
          obtain ⟨l, hl⟩ : ∃ l, l = xs ++ ys := ⟨_, rfl⟩
          rw [← hl] at hrow
          rw [← hl]
          have HL := Lib.hid hl
          have HR3 := hrow
          clear hl hls
          go_wp2_with fail
          go_ret
          exact ⟨_, rfl, by rw [← HL.out]; exact HR3.out, hbe.out⟩
set_option maxHeartbeats 400000 in
theorem implEqualI_any (xs ys : List Int) (u v : Value) (w : World) (h1 : IntsAt w xs u) (h2 : IntsAt w ys v) :
    Calls Tryz.prog 153 #[u, v] w fun e w' => e = .returned (.bool (decide (xs = ys))) ∧ Below w.heap.size w w' := by
  obtain ⟨a1, c1, rfl, hm, _, ha1⟩ := h1
  obtain ⟨a2, c2, rfl, hm2, _, ha2⟩ := h2
  have HT : Hid (xs = ys → decide (xs = ys) = true) := fun h => decide_eq_true h
  have HF : Hid (xs ≠ ys → decide (xs = ys) = false) := fun h => decide_eq_false h
  generalize decide (xs = ys) = rr at HT HF
  by_cases hl : xs.length = ys.length
  · have HL := Lib.hid hl
    obtain ⟨n, hn⟩ : ∃ n, n = ys.length := ⟨_, rfl⟩
    have HN := Lib.hid hn
    have HA1 : Hid (0 < n → ∃ g o, a1 = some ⟨g, o, none⟩ ∧ ∀ i (h : i < xs.length), w.cell? ⟨g, o + i, none⟩ = some (.int .i64 xs[i])) := fun h => ha1 (by omega)
    have HA2 : Hid (0 < n → ∃ g o, a2 = some ⟨g, o, none⟩ ∧ ∀ i (h : i < ys.length), w.cell? ⟨g, o + i, none⟩ = some (.int .i64 ys[i])) := fun h => ha2 (by omega)
    have hm3 : n ≤ 9223372036854775807 := by omega
    rw [hl, ← hn]
    clear hl hn ha1 ha2 hm hm2
    go_enter Tryz.func153, Tryz.ntmps153
    go_wp2
    go_loopw [13] (fun i wr => ∃ k m : Nat, k ≤ n ∧ i = .int .i64 k ∧ Hid (∀ q (h : q < xs.length) (h2 : q < ys.length), q < k → xs[q] = ys[q]) ∧ wr = w.drewN m)
      (fun i _ => n - (intOf i).toNat)
    case atStart => exact ⟨0, 0, Nat.zero_le _, rfl, fun q _ _ h => by omega, (World.drewN_zero _).symm⟩
    case round =>
      obtain ⟨k, m, hk, rfl, hsame, rfl⟩ := hrel
      by_cases hlt : k < n
      · obtain ⟨g1, o1, rfl, q1⟩ := HA1.out (by omega)
        obtain ⟨g2, o2, rfl, q2⟩ := HA2.out (by omega)
        have hk1 : k < xs.length := by have := HL.out; have := HN.out; omega
        have hk2 : k < ys.length := by have := HN.out; omega
        have d1 := q1 k hk1
        have d2 := q2 k hk2
        clear q1 q2
        by_cases he : xs[k] = ys[k]
        · have HS : Hid (∀ q (h : q < xs.length) (h2 : q < ys.length), q < k + 1 → xs[q] = ys[q]) := fun q h h2 h3 => by
            rcases Nat.lt_or_ge q k with h4 | h4
            · exact hsame.out q h h2 h4
            · obtain rfl : q = k := by omega
              exact he
          rw [he] at d1
          clear he
          go_wp2
          go_quiet (fail)
          go_wp2
          go_roundw
          case rel => exact ⟨k + 1, m + nq, by omega, by go_num, HS, rfl⟩
          case measure => simp [intOf]; omega
        · have HR : Hid (rr = false) := HF.out (fun h => he (by subst h; rfl))
          have hq := ne_true he
          clear he
          go_wp2
          go_quiet (fail)
          go_wp2
          go_ret
          exact ⟨by rw [HR.out]; rfl, below_drewN (below_drewN (Below.refl _ _) _) _⟩
      · have HR : Hid (rr = true) := HT.out (List.ext_getElem HL.out (fun q h h2 => hsame.out q h h2 (by have := HN.out; omega)))
        go_wp2
        go_ret
        exact ⟨by rw [HR.out]; rfl, below_drewN (Below.refl _ _) _⟩
  · have HR : Hid (rr = false) := HF.out (fun h => hl (by rw [h]))
    have hq : ((xs.length : Int) == (ys.length : Int)) = false := by rw [beq_eq_false_iff_ne]; omega
    have hq2 : ¬ (xs.length : Int) = (ys.length : Int) := by omega
    clear hl ha1 ha2
    go_enter Tryz.func153, Tryz.ntmps153
    go_wp2
    go_ret
    exact ⟨by rw [HR.out]; rfl, Below.refl _ _⟩
end Go.Proofs.YtofmccihehalcaaGreat.Trm
