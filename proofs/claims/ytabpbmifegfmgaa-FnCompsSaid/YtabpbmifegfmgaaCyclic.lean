/- Cyclic of both sides, walked. Conditions: the arcs and the part lie in memory. -/
import Derived.Test.YtabpbmifegfmgaaReaches
import Derived.Test.YtabpbmifegfmgaaIntToEq
namespace Go.Proofs.Ytabpbmifegfmgaa.Trm
open Go.RowKit Own
/-- A node of the part that leads to itself. -/
def CycAt (n : Int) (es : List (Int × Int)) (x : Int) : Prop := (0 ≤ x ∧ x < n) ∧ wayM n.toNat es x.toNat x.toNat = true
def CycP (n : Int) (es : List (Int × Int)) (ps : List Int) : Prop := GOk n es ∧ ∃ i, ∃ h : i < ps.length, CycAt n es ps[i]
theorem quiet_eqC {P : Program} {f : FuncId} {args : Array Value} {w : World} {n : Nat} {v : Value}
    (h : Calls P f args (w.drewN n) fun e w' => e = .returned v ∧ w.drewN n = w') : Calls P f args (w.drewN n) fun e w' => e = .returned v ∧ ∃ m, w' = w.drewN m :=
  h.mono fun _ _ ⟨h1, h2⟩ => ⟨h1, n, h2.symm⟩
theorem quiet_eqC2 {P : Program} {f : FuncId} {args : Array Value} {w : World} {k n : Nat} {v : Value}
    (h : Calls P f args (w.drewN (k + n)) fun e w' => e = .returned v ∧ w.drewN (k + n) = w') : Calls P f args (w.drewN (k + n)) fun e w' => e = .returned v ∧ ∃ m, w' = w.drewN (k + m) :=
  h.mono fun _ _ ⟨h1, h2⟩ => ⟨h1, n, h2.symm⟩
set_option maxHeartbeats 3200000 in
theorem specCyclic_any (n : Int) (es : List (Int × Int)) (ps : List Int) (v pv : Value) (w : World) (hl : ArcsAt w es v) (hp : IntsAt w ps pv) (hn : InI n) :
    Calls Try.prog 30 #[.int .i64 n, v, pv] w (SayB (CycP n es ps) w) := by
  have HL := Lib.hid hl
  have CG := Lib.hid (specGraph_any n es v w hl hn)
  obtain ⟨aa, cap, rfl, hlen, _, _⟩ := hl
  obtain ⟨pa, pc, rfl, hplen, hpin, hpk⟩ := hp
  have HPK := Lib.hid hpk
  have HPI := Lib.hid (fun i (h : i < ps.length) => hpin _ (List.getElem_mem h))
  clear hpk hpin
  by_cases hg : GOk n es
  · obtain ⟨m, rfl, hm⟩ := hg.nat
    have CW := Lib.hid (fun w hl => specReachM_any m es (.slice aa es.length cap) w hl hg)
    have HG := Lib.hid hg
    have HCA : Hid (∀ x : Int, CycAt (m : Int) es x ↔ (0 ≤ x ∧ x < (m : Int)) ∧ wayM m es x.toNat x.toNat = true) := fun x => by unfold CycAt; simp
    clear hg
    go_enter Try.func30, Try.ntmps30
    go_wp2_with fail
    refine CG.out.mono ?_
    rintro e w1 ⟨b1, rfl, hb1, hw1⟩
    have hbt : b1 = true := hb1.2 HG.out
    subst hbt
    have B1 := Lib.hid hw1
    clear hb1 hw1
    go_wp2_with fail
    refine (CW.out _ (HL.out.keep (keeps_below B1.out))).mono ?_
    rintro e w2 ⟨mv, mh, rfl, hm2, hb2⟩
    have B2 := Lib.hid (B1.out.trans (hb2.mono B1.out.size))
    have M2 := Lib.hid hm2
    obtain ⟨ma, mc, rfl, hma⟩ := M2.out.shape
    have HMA := Lib.hid hma
    clear hm2 hb2 hma CW CG
    go_wp2_with fail
    go_loopw [8] (fun i wr => ∃ (j q : Nat), j ≤ ps.length ∧ i = .int .i64 j ∧ Hid (∀ i (h : i < ps.length), i < j → ¬ CycAt (m : Int) es ps[i]) ∧ wr = w2.drewN q)
      (fun i _ => ps.length - (intOf i).toNat)
    case atStart => exact ⟨0, 0, Nat.zero_le _, rfl, fun i _ h => by omega, (World.drewN_zero _).symm⟩
    case round =>
      obtain ⟨j, q, hj, rfl, hne, rfl⟩ := hrel
      by_cases hlt : j < ps.length
      · obtain ⟨g, o, rfl, hcell⟩ := HPK.out (by omega)
        have c0 := keeps_below B2.out _ _ (hcell j hlt)
        have hca := HCA.out ps[j]
        have hpi := HPI.out j hlt
        obtain ⟨pi1, pi2⟩ := hpi
        obtain ⟨x, hx⟩ : ∃ x, x = ps[j] := ⟨_, rfl⟩
        rw [← hx] at c0 hca pi1 pi2
        have HX := Lib.hid hx
        have HS1 : Hid (¬ CycAt (m : Int) es x → ∀ i (h : i < ps.length), i < j + 1 → ¬ CycAt (m : Int) es ps[i]) := fun hnc i hi h => by
          rcases Nat.lt_or_ge i j with h3 | h3
          · exact hne.out i hi h3
          · obtain rfl : i = j := by omega
            rw [← hx]; exact hnc
        clear hcell hx
        by_cases hin : 0 ≤ x ∧ x < (m : Int)
        · obtain ⟨hx0, hx1⟩ := hin
          obtain ⟨y, rfl⟩ : ∃ y : Nat, x = (y : Int) := ⟨x.toNat, by omega⟩
          obtain ⟨mg, rfl⟩ := HMA.out (by omega)
          obtain ⟨r, rc, d0, d1⟩ := M2.out.cell y y (by omega) (by omega)
          rw [Int.toNat_natCast] at hca
          obtain ⟨z, hz⟩ : ∃ z, wayM m es y y = z := ⟨_, rfl⟩
          rw [hz] at d1 hca
          have HCA2 := Lib.hid hca
          have C := Lib.hid (fun wx => in_yes (y : Int) 0 ((m : Int) - 1) wx (by omega) (by omega))
          clear hz hca
          cases z with
          | true =>
            have HY : Hid (CycP (m : Int) es ps) := ⟨HG.out, j, hlt, by rw [← HX.out]; exact HCA2.out.2 ⟨⟨hx0, hx1⟩, rfl⟩⟩
            go_wp2_with fail
            go_quiet ((go_at_call 48; first | exact quiet_eqC (C.out _) | exact quiet_eqC2 (C.out _)))
            go_wp2_with fail
            go_ret
            exact SayB.mk_true HY.out (below_drewN (below_drewN B2.out _) _)
          | false =>
            have HS := Lib.hid (HS1.out (fun h => by have := (HCA2.out.1 h).2; cases this))
            go_wp2_with fail
            go_quiet ((go_at_call 48; first | exact quiet_eqC (C.out _) | exact quiet_eqC2 (C.out _)))
            go_wp2_with fail
            go_roundw
            case rel => exact ⟨j + 1, q + nq, by omega, by go_num, HS, rfl⟩
            case measure => simp [intOf]; omega
        · have HS := Lib.hid (HS1.out (fun h => hin (hca.1 h).1))
          have C := Lib.hid (fun wx => in_no x 0 ((m : Int) - 1) wx (by omega))
          clear hca hin
          go_wp2_with fail
          go_quiet ((go_at_call 48; first | exact quiet_eqC (C.out _) | exact quiet_eqC2 (C.out _)))
          go_wp2_with fail
          go_roundw
          case rel => exact ⟨j + 1, q + nq, by omega, by go_num, HS, rfl⟩
          case measure => simp [intOf]; omega
      · have HN : Hid (¬ CycP (m : Int) es ps) := fun ⟨_, i, hi, h⟩ => hne.out i hi (by omega) h
        go_wp2_with fail
        go_ret
        exact SayB.mk_false HN.out (below_drewN B2.out _)
  · have HN : Hid (¬ CycP n es ps) := fun h => hg h.1
    have HG := Lib.hid hg
    clear hg
    go_enter Try.func30, Try.ntmps30
    go_wp2_with fail
    refine CG.out.mono ?_
    rintro e w1 ⟨b1, rfl, hb1, hw1⟩
    have hbt : b1 = false := by
      cases b1 with
      | false => rfl
      | true => exact absurd (hb1.1 rfl) HG.out
    subst hbt
    have HB1 := Lib.hid hw1
    clear hb1 hw1
    go_wp2_with fail
    go_ret
    exact SayB.mk_false HN.out HB1.out
set_option maxHeartbeats 1600000 in
theorem implCycAt_any (m : Nat) (es : List (Int × Int)) (x : Int) (b q1 q2 : Nat) (w : World) (hm : m ≤ 60) (h : WaysAt w b m (wayM m es)) (h1 : w.cell? ⟨q1, 0, none⟩ = some (.int .i64 (m : Int))) (h2 : w.cell? ⟨q2, 0, none⟩ = some (.pointer (some ⟨b, 0, none⟩))) :
    Calls Try.prog 47 #[.int .i64 x, .pointer (some ⟨q1, 0, none⟩), .pointer (some ⟨q2, 0, none⟩)] w (SayB (CycAt (m : Int) es x) w) := by
  have H := Lib.hid h
  have hca : CycAt (m : Int) es x ↔ (0 ≤ x ∧ x < (m : Int)) ∧ wayM m es x.toNat x.toNat = true := by unfold CycAt; simp
  clear h
  by_cases hin : 0 ≤ x ∧ x < (m : Int)
  · obtain ⟨hx0, hx1⟩ := hin
    obtain ⟨y, rfl⟩ : ∃ y : Nat, x = (y : Int) := ⟨x.toNat, by omega⟩
    have c0 := H.out.cell y y (by omega) (by omega)
    rw [Int.toNat_natCast] at hca
    obtain ⟨z, hz⟩ : ∃ z, wayM m es y y = z := ⟨_, rfl⟩
    rw [hz] at c0 hca
    have HC : Hid (z = true ↔ CycAt (m : Int) es (y : Int)) := by
      show _ ↔ _
      rw [hca]
      exact ⟨fun h => ⟨⟨hx0, hx1⟩, h⟩, fun h => h.2⟩
    clear hz hca
    go_enter Try.func47, Try.ntmps47
    go_wp2_with fail
    refine (node_yes (m : Int) (y : Int) _ hx0 hx1).mono ?_
    rintro e w2 ⟨rfl, rfl⟩
    go_wp2_with fail
    go_ret
    exact ⟨z, rfl, HC.out, Below.refl _ _⟩
  · have HN : Hid (¬ CycAt (m : Int) es x) := fun h => hin (hca.1 h).1
    clear hca
    go_enter Try.func47, Try.ntmps47
    go_wp2_with fail
    refine (node_no (m : Int) x _ (by omega)).mono ?_
    rintro e w2 ⟨rfl, rfl⟩
    go_wp2_with fail
    go_ret
    exact SayB.mk_false HN.out (Below.refl _ _)
set_option maxHeartbeats 1600000 in
theorem implCycIdx_any (m : Nat) (es : List (Int × Int)) (ps : List Int) (b q1 q2 : Nat) (pv : Value) (w : World) (hm : m ≤ 60) (hp : IntsAt w ps pv) (h : WaysAt w b m (wayM m es)) (h1 : w.cell? ⟨q1, 0, none⟩ = some (.int .i64 (m : Int))) (h2 : w.cell? ⟨q2, 0, none⟩ = some (.pointer (some ⟨b, 0, none⟩))) :
    Calls Try.prog 60 #[pv, .func (.func 47) #[] #[.pointer (some ⟨q1, 0, none⟩), .pointer (some ⟨q2, 0, none⟩)]] w fun e w' => ∃ z : Int, e = .returned (.int .i64 z) ∧ (0 ≤ z ↔ ∃ i, ∃ h : i < ps.length, CycAt (m : Int) es ps[i]) ∧ Below w.heap.size w w' := by
  obtain ⟨pa, pc, rfl, hplen, _, hpk⟩ := hp
  have HPK := Lib.hid hpk
  have H := Lib.hid h
  have H1 := Lib.hid h1
  have H2 := Lib.hid h2
  clear hpk h h1 h2
  go_enter Try.func60, Try.ntmps60
  go_wp2
  go_loopw [8] (fun i wr => ∃ (j : Nat), j ≤ ps.length ∧ i = .int .i64 j ∧ Hid (∀ i (h : i < ps.length), i < j → ¬ CycAt (m : Int) es ps[i]) ∧ Hid (Below w.heap.size w wr))
    (fun i _ => ps.length - (intOf i).toNat)
  case atStart => exact ⟨0, Nat.zero_le _, rfl, fun i _ h => by omega, Below.refl _ _⟩
  case round =>
    obtain ⟨j, hj, rfl, hne, hbe⟩ := hrel
    by_cases hlt : j < ps.length
    · obtain ⟨g, o, rfl, hcell⟩ := HPK.out (by omega)
      have hk := keeps_below hbe.out
      have c0 := hk _ _ (hcell j hlt)
      have C := Lib.hid (implCycAt_any m es ps[j] b q1 q2 wr hm (H.out.same (hbe.out.block b H.out.lt)) (hk _ _ H1.out) (hk _ _ H2.out))
      clear hcell hk
      go_wp2_with fail
      refine C.out.mono ?_
      rintro e w1 ⟨z, rfl, hb, hbw⟩
      have HB := Lib.hid hb
      have HB1 := Lib.hid (hbe.out.trans (hbw.mono hbe.out.size))
      clear hb hbw
      cases z with
      | true =>
        have HX : Hid ((0 : Int) ≤ (j : Int) ↔ ∃ i, ∃ h : i < ps.length, CycAt (m : Int) es ps[i]) := ⟨fun _ => ⟨j, hlt, HB.out.1 rfl⟩, fun _ => by omega⟩
        go_wp2_with fail
        go_ret
        exact ⟨_, rfl, HX.out, HB1.out⟩
      | false =>
        have HS : Hid (∀ i (h : i < ps.length), i < j + 1 → ¬ CycAt (m : Int) es ps[i]) := fun i hl hi h => by
          rcases Nat.lt_or_ge i j with h1 | h1
          · exact hne.out i hl h1 h
          · obtain rfl : i = j := by omega
            have := HB.out.2 h
            simp at this
        go_wp2_with fail
        go_roundw
        case rel => exact ⟨j + 1, by omega, by go_num, HS, HB1⟩
        case measure => simp [intOf]; omega
    · have HX : Hid ((0 : Int) ≤ -1 ↔ ∃ i, ∃ h : i < ps.length, CycAt (m : Int) es ps[i]) := ⟨fun h => by omega, fun ⟨i, hi, h⟩ => absurd h (hne.out i hi (by omega))⟩
      go_wp2_with fail
      go_ret
      exact ⟨_, rfl, HX.out, hbe.out⟩
theorem implCycHas_any (m : Nat) (es : List (Int × Int)) (ps : List Int) (b q1 q2 : Nat) (pv : Value) (w : World) (hm : m ≤ 60) (hp : IntsAt w ps pv) (h : WaysAt w b m (wayM m es)) (h1 : w.cell? ⟨q1, 0, none⟩ = some (.int .i64 (m : Int))) (h2 : w.cell? ⟨q2, 0, none⟩ = some (.pointer (some ⟨b, 0, none⟩))) :
    Calls Try.prog 46 #[pv, .func (.func 47) #[] #[.pointer (some ⟨q1, 0, none⟩), .pointer (some ⟨q2, 0, none⟩)]] w (SayB (∃ i, ∃ h : i < ps.length, CycAt (m : Int) es ps[i]) w) := by
  have C := Lib.hid (implCycIdx_any m es ps b q1 q2 pv w hm hp h h1 h2)
  obtain ⟨pa, pc, rfl, hplen, _, _⟩ := hp
  clear h h1 h2
  go_enter Try.func46, Try.ntmps46
  go_wp2_with fail
  refine C.out.mono ?_
  rintro e w1 ⟨z, rfl, hz, hb⟩
  have HZ := Lib.hid hz
  have HB := Lib.hid hb
  clear hz hb
  by_cases h0 : 0 ≤ z
  · go_wp2_with fail
    go_ret
    exact SayB.mk_true (HZ.out.1 h0) HB.out
  · have hd : decide (0 ≤ z) = false := decide_eq_false h0
    go_wp2_with fail
    go_ret
    exact SayB.mk_false (fun h => by have := HZ.out.2 h; omega) HB.out
set_option maxHeartbeats 1600000 in
theorem implCyclic_any (n : Int) (es : List (Int × Int)) (ps : List Int) (v pv : Value) (w : World) (hl : ArcsAt w es v) (hp : IntsAt w ps pv) :
    Calls Try.prog 17 #[.int .i64 n, v, pv] w (SayB (CycP n es ps) w) := by
  have B0 := Lib.hid ((Below.refl w.heap.size w).alloc (Nat.le_refl _) (.cells #[.int .i64 n] 3))
  have HL := Lib.hid hl
  have HP := Lib.hid hp
  have CG := Lib.hid (implGraph_any n es v _ (hl.keep (keeps_below B0.out)))
  have hg0 : (w.alloc (.cells #[.int .i64 n] 3)).cell? ⟨w.heap.size, 0, none⟩ = some (.int .i64 n) := by simp [go_sem]
  have HG0 := Lib.hid hg0
  obtain ⟨aa, cap, rfl, hlen, _, _⟩ := hl
  obtain ⟨pa, pc, rfl, hplen, _, _⟩ := hp
  clear hg0
  by_cases hg : GOk n es
  · obtain ⟨m, rfl, hm⟩ := hg.nat
    have CW := Lib.hid (fun w hl => implWaysOf_any m es (.slice aa es.length cap) w hl hg)
    have HG := Lib.hid hg
    have CI := Lib.hid (fun b q1 q2 w hp h h1 h2 => implCycHas_any m es ps b q1 q2 (.slice pa ps.length pc) w hm hp h h1 h2)
    clear hg
    go_enter Try.func17, Try.ntmps17
    go_wp2_with fail
    refine CG.out.mono ?_
    rintro e w1 ⟨b1, rfl, hb1, hw1⟩
    have hbt : b1 = true := hb1.2 HG.out
    subst hbt
    have B1 := Lib.hid (below_box1 hw1)
    have c1 := keeps_below hw1 _ _ HG0.out
    have C1 := Lib.hid c1
    clear hb1 hw1
    go_wp2_with fail
    refine (CW.out _ (HL.out.keep (keeps_below B1.out))).mono ?_
    rintro e w2 ⟨rfl, hw2, hb2⟩
    have W2 := Lib.hid hw2
    have B2 := Lib.hid (B1.out.trans (hb2.mono B1.out.size))
    have C2 := Lib.hid (keeps_below hb2 _ _ C1.out)
    have W3 := Lib.hid (W2.out.alloc (.cells #[.pointer (some ⟨w1.heap.size, 0, none⟩)] 52))
    have B3 := Lib.hid (B2.out.alloc B2.out.size (.cells #[.pointer (some ⟨w1.heap.size, 0, none⟩)] 52))
    have C3 := Lib.hid (keeps_alloc w2 (.cells #[.pointer (some ⟨w1.heap.size, 0, none⟩)] 52) _ _ C2.out)
    have d3 : (w2.alloc (.cells #[.pointer (some ⟨w1.heap.size, 0, none⟩)] 52)).cell? ⟨w2.heap.size, 0, none⟩ = some (.pointer (some ⟨w1.heap.size, 0, none⟩)) := by simp [go_sem]
    have D3 := Lib.hid d3
    clear hw2 hb2 c1 d3
    go_wp2_with fail
    refine (CI.out w1.heap.size w.heap.size w2.heap.size _ (HP.out.keep (keeps_below B3.out)) W3.out C3.out D3.out).mono ?_
    rintro e w5 ⟨z, rfl, hz, hb⟩
    have HZ : Hid (z = true ↔ CycP (m : Int) es ps) := by
      show _ ↔ _
      rw [hz]
      exact ⟨fun h => ⟨HG.out, h⟩, fun h => h.2⟩
    have HB := Lib.hid (B3.out.trans (hb.mono B3.out.size))
    clear hz hb
    go_wp2_with fail
    go_ret
    exact ⟨z, rfl, HZ.out, HB.out⟩
  · have HN : Hid (¬ CycP n es ps) := fun h => hg h.1
    have HG := Lib.hid hg
    clear hg
    go_enter Try.func17, Try.ntmps17
    go_wp2_with fail
    refine CG.out.mono ?_
    rintro e w1 ⟨b1, rfl, hb1, hw1⟩
    have hbt : b1 = false := by
      cases b1 with
      | false => rfl
      | true => exact absurd (hb1.1 rfl) HG.out
    subst hbt
    have HB1 := Lib.hid (below_box1 hw1)
    clear hb1 hw1
    go_wp2_with fail
    go_ret
    exact SayB.mk_false HN.out HB1.out
end Go.Proofs.Ytabpbmifegfmgaa.Trm
