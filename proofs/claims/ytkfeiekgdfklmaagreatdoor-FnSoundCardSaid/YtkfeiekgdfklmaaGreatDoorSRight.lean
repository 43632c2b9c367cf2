/- The model's rightness of statements, walked. Conditions: the statements lie in memory; at most 2 millions, at most 6 kinds with statements are left. -/
import Derived.Test.YtkfeiekgdfklmaaGreatDoorSOne
import Derived.Test.YtkfeiekgdfklmaaGreatDoorSDown
namespace Go.Proofs.YtkfeiekgdfklmaaGreatDoor.Trm
open Go.RowKit Own Lexs
mutual
def rightX : STree → Nat → Bool
  | .node k s t b e, r => oneB (.node k s t b e) && (decide (¬ (k = 2 ∨ k = 3)) || (decide (r ≠ 0) && (rightXS b (r - 1) && rightXS e (r - 1))))
def rightXS : List STree → Nat → Bool
  | [], _ => true
  | x :: xs, r => rightX x r && rightXS xs r
end
theorem rightX_eq (x : STree) (r : Nat) : rightX x r = (oneB x && (decide (¬ (x.kind = 2 ∨ x.kind = 3)) || (decide (r ≠ 0) && (rightXS x.body (r - 1) && rightXS x.els (r - 1))))) := by
  cases x; rw [rightX]; rfl
theorem rightXS_drop {xs : List STree} {i r : Nat} (h : i < xs.length) : rightXS (xs.drop i) r = (rightX xs[i] r && rightXS (xs.drop (i + 1)) r) := by rw [List.drop_eq_getElem_cons h, rightXS]
theorem rightXS_end {xs : List STree} {i r : Nat} (h : xs.length ≤ i) : rightXS (xs.drop i) r = true := by rw [List.drop_of_length_le h, rightXS]
theorem len_cnt : ∀ xs : List STree, xs.length ≤ cntXS xs
  | [] => by simp
  | x :: xs => by rw [cntXS, List.length_cons, cntX_eq]; have := len_cnt xs; omega
theorem cntXS_suffix : ∀ (xs : List STree) (i : Nat), cntXS (xs.drop i) ≤ cntXS xs
  | [], i => by simp [cntXS]
  | x :: xs, 0 => Nat.le_refl _
  | x :: xs, i + 1 => by rw [List.drop_succ_cons, cntXS]; have := cntXS_suffix xs i; omega
def RightAll (xs : List STree) : Prop := ∀ (v : Value) (w : World) (r : Nat), r ≤ 6 → cntXS xs ≤ 2000000 → SListAt w v xs →
    Calls Tryz.prog 136 #[v, .int .i64 (r : Int)] w fun e w' => e = .returned (.bool (rightXS xs r)) ∧ Below w.heap.size w w'
set_option maxHeartbeats 3200000 in
theorem right_list (xs : List STree) (ih : ∀ x, x ∈ xs → RightAll x.body ∧ RightAll x.els) : RightAll xs := fun v w r hr hz hl => by
  obtain ⟨hlen, aa, cap, rfl, hk⟩ := hl
  have IH := Lib.hid ih
  have HK := Lib.hid hk
  have HZ := Lib.hid hz
  clear ih hk hz
  go_enter Tryz.func136, Tryz.ntmps136
  go_wp2
  go_loopw [5] (fun i wr => ∃ (j : Nat), j ≤ xs.length ∧ i = .int .i64 j ∧ Hid (rightXS xs r = rightXS (xs.drop j) r) ∧ Hid (Below w.heap.size w wr))
    (fun i _ => xs.length - (intOf i).toNat)
  case atStart => exact ⟨0, Nat.zero_le _, rfl, rfl, Below.refl _ _⟩
  case round =>
    obtain ⟨j, hj, rfl, hsz, hbe⟩ := hrel
    by_cases hlt : j < xs.length
    · obtain ⟨g, o, rfl, hl⟩ := HK.out (by omega)
      obtain ⟨ta, tc, ba, bc, ea, ec, c0, c1, c2, c3, c4, c5, c6, c7, hl2⟩ := (hl.keep (keeps_below hbe.out)).at j hlt
      obtain ⟨_, lb, le⟩ := hl2.lists
      have hcd := cntXS_drop hlt
      have hcd2 : cntXS (xs.drop j) ≤ cntXS xs := cntXS_suffix xs j
      have hZ := HZ.out
      have l1 := len_cnt xs[j].body
      have l2 := len_cnt xs[j].els
      have hin := IH.out xs[j] (List.getElem_mem hlt)
      have hd := Lib.hid ((rightXS_drop (r := r) hlt).trans (by rw [rightX_eq]))
      obtain ⟨W1, hW1⟩ : ∃ W1, W1 = wr.alloc (.cells #[.int .i64 xs[j].kind, .string xs[j].name, .int .i64 xs[j].term.kind, .int .i64 xs[j].term.num, .string xs[j].term.name, .slice ta xs[j].term.kids.length tc, .slice ba xs[j].body.length bc, .slice ea xs[j].els.length ec] 36) := ⟨_, rfl⟩
      have kW : Keeps wr W1 := by rw [hW1]; exact keeps_alloc _ _
      have BW : Hid (Below w.heap.size w W1) := by rw [hW1]; exact hbe.out.alloc hbe.out.size _
      have CO := Lib.hid (specOne_any xs[j] _ W1 (by omega) (hl2.keep kW))
      have CB := Lib.hid (fun wx hk2 => hin.1 _ wx (r - 1) (by omega) (by omega) ((lb.keep kW).keep hk2))
      have CE := Lib.hid (fun wx hk2 => hin.2 _ wx (r - 1) (by omega) (by omega) ((le.keep kW).keep hk2))
      have x6 : W1.cell? ⟨wr.heap.size, 6, none⟩ = some (.slice ba xs[j].body.length bc) := by rw [hW1]; simp [go_sem]
      have x7 : W1.cell? ⟨wr.heap.size, 7, none⟩ = some (.slice ea xs[j].els.length ec) := by rw [hW1]; simp [go_sem]
      have HW1 := Lib.hid hW1
      obtain ⟨D, hD⟩ : ∃ D, D = wr.heap.size := ⟨_, rfl⟩
      have HD := Lib.hid hD
      rw [← hD] at x6 x7
      have X1 := Lib.hid (And.intro x6 x7)
      have hrn : r ≠ 0 → ((r - 1 : Nat) : Int) = (r : Int) - 1 := fun h => by omega
      have HRN := Lib.hid hrn
      generalize oneB xs[j] = ob at CO hd
      generalize rightXS xs[j].body (r - 1) = rb at CB hd
      generalize rightXS xs[j].els (r - 1) = re at CE hd
      generalize hkk : xs[j].kind = k at c0 hd HW1
      have HKK := Lib.hid hkk
      clear hl hl2 lb le hcd hcd2 hZ l1 l2 hin kW hW1 hD hrn x6 x7 hkk
      have hfalse : ∀ (b : Bool), rightXS (xs.drop j) r = b → Hid (rightXS xs r = b) := fun b h => by show _ = _; rw [hsz.out, h]
      by_cases hm : k = 2 ∨ k = 3
      · rcases hm with rfl | rfl
        all_goals
          cases ob with
          | false =>
            have HS := hfalse false (by rw [hd.out]; simp)
            clear hd hfalse
            go_wp2_with fail
            rw [← HW1.out, ← HD.out]
            rw [HKK.out] at CO
            refine CO.out.mono ?_
            rintro e w1 ⟨rfl, hb1⟩
            have HB1 := Lib.hid (BW.out.trans (hb1.mono BW.out.size))
            clear hb1
            go_wp2
            go_ret
            exact ⟨ret_b (by rw [HS.out]), HB1.out⟩
          | true =>
            rw [HKK.out] at CO
            by_cases h0 : r = 0
            · have HS := hfalse false (by rw [hd.out]; simp [h0])
              have hq : ((r : Int) == 0) = true := by rw [h0]; rfl
              clear hd hfalse h0
              go_wp2_with fail
              rw [← HW1.out, ← HD.out]
              refine CO.out.mono ?_
              rintro e w1 ⟨rfl, hb1⟩
              have HB1 := Lib.hid (BW.out.trans (hb1.mono BW.out.size))
              clear hb1
              go_wp2
              go_ret
              exact ⟨ret_b (by rw [HS.out]), HB1.out⟩
            · have hq : ((r : Int) == 0) = false := ne_true (by omega)
              have hr1 : 1 ≤ r := by omega
              rw [HRN.out h0] at CB CE
              clear h0
              cases rb with
              | false =>
                have HS := hfalse false (by rw [hd.out]; simp)
                clear hd hfalse
                go_wp2_with fail
                rw [← HW1.out, ← HD.out]
                refine CO.out.mono ?_
                rintro e w1 ⟨rfl, hb1⟩
                have HB1 := Lib.hid (BW.out.trans (hb1.mono BW.out.size))
                have K1 := Lib.hid (keeps_below hb1)
                have x6 := K1.out _ _ X1.out.1
                clear hb1
                go_wp2_with fail
                refine (CB.out _ K1.out).mono ?_
                rintro e w2 ⟨rfl, hb2⟩
                have HB2 := Lib.hid (HB1.out.trans (hb2.mono HB1.out.size))
                clear hb2
                go_wp2
                go_ret
                exact ⟨ret_b (by rw [HS.out]), HB2.out⟩
              | true =>
                cases re with
                | false =>
                  have HS := hfalse false (by rw [hd.out]; simp)
                  clear hd hfalse
                  go_wp2_with fail
                  rw [← HW1.out, ← HD.out]
                  refine CO.out.mono ?_
                  rintro e w1 ⟨rfl, hb1⟩
                  have HB1 := Lib.hid (BW.out.trans (hb1.mono BW.out.size))
                  have K1 := Lib.hid (keeps_below hb1)
                  have x6 := K1.out _ _ X1.out.1
                  clear hb1
                  go_wp2_with fail
                  refine (CB.out _ K1.out).mono ?_
                  rintro e w2 ⟨rfl, hb2⟩
                  have HB2 := Lib.hid (HB1.out.trans (hb2.mono HB1.out.size))
                  have K2 := Lib.hid (K1.out.trans (keeps_below hb2))
                  have x7 := K2.out _ _ X1.out.2
                  clear hb2 x6
                  go_wp2_with fail
                  refine (CE.out _ K2.out).mono ?_
                  rintro e w3 ⟨rfl, hb3⟩
                  have HB3 := Lib.hid (HB2.out.trans (hb3.mono HB2.out.size))
                  clear hb3
                  go_wp2
                  go_ret
                  exact ⟨ret_b (by rw [HS.out]), HB3.out⟩
                | true =>
                  have HS : Hid (rightXS xs r = rightXS (xs.drop (j + 1)) r) := by show _ = _; rw [hsz.out, hd.out]; simp; omega
                  clear hd hfalse
                  go_wp2_with fail
                  rw [← HW1.out, ← HD.out]
                  refine CO.out.mono ?_
                  rintro e w1 ⟨rfl, hb1⟩
                  have HB1 := Lib.hid (BW.out.trans (hb1.mono BW.out.size))
                  have K1 := Lib.hid (keeps_below hb1)
                  have x6 := K1.out _ _ X1.out.1
                  clear hb1
                  go_wp2_with fail
                  refine (CB.out _ K1.out).mono ?_
                  rintro e w2 ⟨rfl, hb2⟩
                  have HB2 := Lib.hid (HB1.out.trans (hb2.mono HB1.out.size))
                  have K2 := Lib.hid (K1.out.trans (keeps_below hb2))
                  have x7 := K2.out _ _ X1.out.2
                  clear hb2 x6
                  go_wp2_with fail
                  refine (CE.out _ K2.out).mono ?_
                  rintro e w3 ⟨rfl, hb3⟩
                  have HB3 := Lib.hid (HB2.out.trans (hb3.mono HB2.out.size))
                  clear hb3 x7
                  go_wp2
                  go_roundw
                  case rel => exact ⟨j + 1, by omega, by go_num, HS, HB3.out⟩
                  case measure => simp [intOf]; omega
      · have hk2 : (k == 2) = false := by simp; omega
        have hk3 : (k == 3) = false := by simp; omega
        have HM : Hid (decide (¬ (k = 2 ∨ k = 3)) = true) := decide_eq_true hm
        rw [HKK.out] at CO
        clear hm
        cases ob with
        | false =>
          have HS := hfalse false (by rw [hd.out]; simp)
          clear hd hfalse
          go_wp2_with fail
          rw [← HW1.out, ← HD.out]
          refine CO.out.mono ?_
          rintro e w1 ⟨rfl, hb1⟩
          have HB1 := Lib.hid (BW.out.trans (hb1.mono BW.out.size))
          clear hb1
          go_wp2
          go_ret
          exact ⟨ret_b (by rw [HS.out]), HB1.out⟩
        | true =>
          have HS : Hid (rightXS xs r = rightXS (xs.drop (j + 1)) r) := by show _ = _; rw [hsz.out, hd.out, HM.out]; simp
          clear hd hfalse
          go_wp2_with fail
          rw [← HW1.out, ← HD.out]
          refine CO.out.mono ?_
          rintro e w1 ⟨rfl, hb1⟩
          have HB1 := Lib.hid (BW.out.trans (hb1.mono BW.out.size))
          clear hb1
          go_wp2
          go_roundw
          case rel => exact ⟨j + 1, by omega, by go_num, HS, HB1.out⟩
          case measure => simp [intOf]; omega
    · have HS : Hid (rightXS xs r = true) := by show _ = _; rw [hsz.out, rightXS_end (by omega)]
      go_wp2
      go_ret
      exact ⟨ret_b (by rw [HS.out]), hbe.out⟩
theorem specRightX_all : ∀ x : STree, RightAll x.body ∧ RightAll x.els := streeInd fun _ _ _ b e ihb ihe => ⟨right_list b ihb, right_list e ihe⟩
theorem specRightX_any (xs : List STree) : RightAll xs := right_list xs fun x _ => specRightX_all x
/-- Are all right, and together not too many? -/
def okXS (xs : List STree) : Bool := decide (cntXS xs ≤ 60) && rightXS xs 6
theorem specOk_any (xs : List STree) (v : Value) (w : World) (hl : SListAt w v xs) :
    Calls Tryz.prog 94 #[v] w fun e w' => e = .returned (.bool (okXS xs)) ∧ Below w.heap.size w w' := by
  have C := Lib.hid (specDown_any xs v w 60 (by omega) (by omega) hl)
  have D := Lib.hid (fun w2 hk hz => specRightX_any xs v w2 6 (Nat.le_refl _) hz (hl.keep hk))
  obtain ⟨_, a, c, rfl, _⟩ := hl
  by_cases hc : cntXS xs ≤ 60
  · have hr : 0 ≤ cR 60 (cntXS xs) := by unfold cR; split <;> omega
    have HE : Hid (okXS xs = rightXS xs 6) := by show _ = _; unfold okXS; simp [hc]
    have D2 := Lib.hid (fun w2 hk => D.out w2 hk (by omega))
    generalize cR 60 (cntXS xs) = r at C hr
    clear hc
    go_enter Tryz.func94, Tryz.ntmps94
    go_wp2_with fail
    refine C.out.mono ?_
    rintro e w1 ⟨rfl, hb1⟩
    have HB1 := Lib.hid hb1
    clear hb1
    go_wp2_with fail
    refine (D2.out _ (keeps_below HB1.out)).mono ?_
    rintro e w2 ⟨rfl, hb2⟩
    have HB2 := Lib.hid (HB1.out.trans (hb2.mono HB1.out.size))
    clear hb2
    go_wp2
    go_ret
    exact ⟨ret_b (by rw [HE.out]), HB2.out⟩
  · have hr : cR 60 (cntXS xs) = -1 := by unfold cR; split <;> omega
    have HE : Hid (okXS xs = false) := by show _ = _; unfold okXS; simp [hc]
    rw [hr] at C
    clear hc hr
    go_enter Tryz.func94, Tryz.ntmps94
    go_wp2_with fail
    refine C.out.mono ?_
    rintro e w1 ⟨rfl, hb1⟩
    have HB1 := Lib.hid hb1
    clear hb1
    go_wp2
    go_ret
    exact ⟨ret_b (by rw [HE.out]), HB1.out⟩
end Go.Proofs.YtkfeiekgdfklmaaGreatDoor.Trm
