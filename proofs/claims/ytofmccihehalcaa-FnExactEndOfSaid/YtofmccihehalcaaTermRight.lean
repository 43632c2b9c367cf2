/- The model's rule for a right term, walked. Conditions: the term lies in memory; at most 6 kinds with kids are left. -/
import Derived.Test.YtofmccihehalcaaChecked
import Derived.Test.YtofmccihehalcaaTrees
import Derived.Test.YtofmccihehalcaaLexMath
import Derived.Test.YtofmccihehalcaaNameSpec
import Derived.WalkSmall
import Derived.Outline
namespace Go.Proofs.Ytofmccihehalcaa.Trm
open Go.RowKit Own Lexs
def manyK (k : Int) : Int := if k = 8 then 1 else 2
mutual
def rightB : Tree → Nat → Bool
  | .node k n s ks, room =>
    if k = 1 then decide (0 ≤ n) && decide (n ≤ 1000000000) && decide (s.size = 0) && decide (ks.length = 0)
    else if k = 2 then decide (n = 0) && isNm s.data.toList && decide (ks.length = 0)
    else decide (3 ≤ k) && decide (k ≤ 9) && decide (n = 0) && decide (s.size = 0) && decide ((ks.length : Int) = manyK k) && decide (room ≠ 0) && rightS ks (room - 1)
def rightS : List Tree → Nat → Bool
  | [], _ => true
  | t :: ts, room => rightB t room && rightS ts room
end
theorem rightS_at {ks : List Tree} {i r : Nat} (h : i < ks.length) : rightS (ks.drop i) r = (rightB ks[i] r && rightS (ks.drop (i + 1)) r) := by rw [List.drop_eq_getElem_cons h, rightS]
theorem rightS_end {ks : List Tree} {i r : Nat} (h : ks.length ≤ i) : rightS (ks.drop i) r = true := by rw [List.drop_of_length_le h, rightS]
theorem in_yes (x lo hi : Int) (w : World) (h1 : lo ≤ x) (h2 : x ≤ hi) : Calls Try.prog 13 #[.int .i64 x, .int .i64 lo, .int .i64 hi] w fun e w' => e = .returned (.bool true) ∧ w = w' := by
  go_enter Try.func13, Try.ntmps13
  go_wp2
  go_ret
  exact ⟨rfl, rfl⟩
theorem in_no (x lo hi : Int) (w : World) (h : x < lo ∨ hi < x) : Calls Try.prog 13 #[.int .i64 x, .int .i64 lo, .int .i64 hi] w fun e w' => e = .returned (.bool false) ∧ w = w' := by
  by_cases h1 : x < lo
  · go_enter Try.func13, Try.ntmps13
    go_wp2
    go_ret
    exact ⟨rfl, rfl⟩
  · have h2 : hi < x := by omega
    clear h
    go_enter Try.func13, Try.ntmps13
    go_wp2
    go_ret
    exact ⟨ret_bool (decide_eq_false (by omega)), rfl⟩
def RightOk (t : Tree) : Prop := ∀ (v : Value) (w : World) (r : Nat), r ≤ 6 → Lies w t v →
    Calls Try.prog 54 #[v, .int .i64 (r : Int)] w fun e w' => e = .returned (.bool (rightB t r)) ∧ Below w.heap.size w w'
theorem ne_true {k x : Int} (h : k ≠ x) : (k == x) = false := by simp [h]
set_option maxHeartbeats 800000 in
theorem right_num (n : Int) (s : ByteArray) (ks : List Tree) (v : Value) (w : World) (r : Nat) (hl : Lies w (.node 1 n s ks) v) :
    Calls Try.prog 54 #[v, .int .i64 (r : Int)] w fun e w' => e = .returned (.bool (rightB (.node 1 n s ks) r)) ∧ Below w.heap.size w w' := by
  obtain ⟨h1, h2, h3, h4, aa, cap, rfl, h5⟩ := hl
  clear h5 h1 h2
  have HR : Hid (rightB (.node 1 n s ks) r = (decide (0 ≤ n) && decide (n ≤ 1000000000) && decide (s.size = 0) && decide (ks.length = 0))) := by show _ = _; rw [rightB, if_pos rfl]
  by_cases hn : 0 ≤ n ∧ n ≤ 1000000000
  · obtain ⟨hn1, hn2⟩ := hn
    by_cases hs : s.size = 0
    · have he := empty_true hs
      have HS := Lib.hid hs
      clear hs
      by_cases hk : ks.length = 0
      · have HK := Lib.hid hk
        have hk2 : ((ks.length : Int) == 0) = true := by rw [hk]; rfl
        clear hk
        go_enter Try.func54, Try.ntmps54
        go_wp2_with (go_at_call 13; refine (in_yes _ _ _ _ hn1 hn2).mono ?_; rintro e w1 ⟨rfl, rfl⟩)
        go_ret
        exact ⟨ret_bool (by rw [HR.out]; simp [HS.out, HK.out, hn1, hn2]), (Below.refl _ _).alloc (Nat.le_refl _) _⟩
      · have hk2 := ne_true (k := (ks.length : Int)) (x := 0) (by omega)
        go_enter Try.func54, Try.ntmps54
        go_wp2_with (go_at_call 13; refine (in_yes _ _ _ _ hn1 hn2).mono ?_; rintro e w1 ⟨rfl, rfl⟩)
        go_ret
        exact ⟨ret_bool (by rw [HR.out]; simp [hk]), (Below.refl _ _).alloc (Nat.le_refl _) _⟩
    · have he := empty_false hs
      have HS := Lib.hid hs
      clear hs
      go_enter Try.func54, Try.ntmps54
      go_wp2_with (go_at_call 13; refine (in_yes _ _ _ _ hn1 hn2).mono ?_; rintro e w1 ⟨rfl, rfl⟩)
      go_ret
      exact ⟨ret_bool (by rw [HR.out]; simp [HS.out]), (Below.refl _ _).alloc (Nat.le_refl _) _⟩
  · have hn2 : n < 0 ∨ 1000000000 < n := by omega
    have HN := Lib.hid hn
    have HN2 := Lib.hid hn2
    clear hn hn2
    go_enter Try.func54, Try.ntmps54
    go_wp2_with (go_at_call 13; refine (in_no _ _ _ _ HN2.out).mono ?_; rintro e w1 ⟨rfl, rfl⟩)
    go_ret
    exact ⟨ret_bool (by rw [HR.out]; have := HN2.out; simp; omega), (Below.refl _ _).alloc (Nat.le_refl _) _⟩
set_option maxHeartbeats 800000 in
theorem right_var (n : Int) (s : ByteArray) (ks : List Tree) (v : Value) (w : World) (r : Nat) (hl : Lies w (.node 2 n s ks) v) (hsz : s.size ≤ 9223372036854775807) :
    Calls Try.prog 54 #[v, .int .i64 (r : Int)] w fun e w' => e = .returned (.bool (rightB (.node 2 n s ks) r)) ∧ Below w.heap.size w w' := by
  obtain ⟨h1, h2, h3, h4, aa, cap, rfl, h5⟩ := hl
  clear h5 h1 h2
  have HR : Hid (rightB (.node 2 n s ks) r = (decide (n = 0) && isNm s.data.toList && decide (ks.length = 0))) := by show _ = _; rw [rightB, if_neg (by decide), if_pos rfl]
  by_cases hn : n = 0
  · subst hn
    have CN := Lib.hid (fun w => specIsName_any s w hsz)
    cases hb : isNm s.data.toList with
    | false =>
      rw [hb] at CN HR
      clear hb
      go_enter Try.func54, Try.ntmps54
      go_wp2_with (go_at_call 52; refine (CN.out _).mono ?_; rintro e w1 ⟨rfl, rfl⟩)
      go_ret
      exact ⟨ret_bool (by rw [HR.out]; rfl), (Below.refl _ _).alloc (Nat.le_refl _) _⟩
    | true =>
      rw [hb] at CN HR
      clear hb
      by_cases hk : ks.length = 0
      · have HK := Lib.hid hk
        have hk2 : ((ks.length : Int) == 0) = true := by rw [hk]; rfl
        clear hk
        go_enter Try.func54, Try.ntmps54
        go_wp2_with (go_at_call 52; refine (CN.out _).mono ?_; rintro e w1 ⟨rfl, rfl⟩)
        go_ret
        exact ⟨ret_bool (by rw [HR.out]; simp [HK.out]), (Below.refl _ _).alloc (Nat.le_refl _) _⟩
      · have hk2 := ne_true (k := (ks.length : Int)) (x := 0) (by omega)
        go_enter Try.func54, Try.ntmps54
        go_wp2_with (go_at_call 52; refine (CN.out _).mono ?_; rintro e w1 ⟨rfl, rfl⟩)
        go_ret
        exact ⟨ret_bool (by rw [HR.out]; simp [hk]), (Below.refl _ _).alloc (Nat.le_refl _) _⟩
  · have hn2 := ne_true hn
    have HN := Lib.hid hn
    clear hn
    go_enter Try.func54, Try.ntmps54
    go_wp2
    go_ret
    exact ⟨ret_bool (by rw [HR.out]; simp [HN.out]), (Below.refl _ _).alloc (Nat.le_refl _) _⟩
theorem below_box {w w' : World} {o : Obj} (h : Below (w.heap.size + 1) (w.alloc o) w') : Below w.heap.size w w' := ((Below.refl w.heap.size w).alloc (Nat.le_refl _) o).trans (h.mono (by omega))
theorem many_other {k : Int} (h : k ≠ 8) : manyK k = 2 := by unfold manyK; rw [if_neg h]
set_option maxHeartbeats 1600000 in
theorem right_more (k n : Int) (s : ByteArray) (ks : List Tree) (ih : ∀ t, t ∈ ks → RightOk t) (hk1 : k ≠ 1) (hk2 : k ≠ 2) (v : Value) (w : World) (r : Nat) (hr : r ≤ 6) (hl : Lies w (.node k n s ks) v) :
    Calls Try.prog 54 #[v, .int .i64 (r : Int)] w fun e w' => e = .returned (.bool (rightB (.node k n s ks) r)) ∧ Below w.heap.size w w' := by
  obtain ⟨h1, h2, h3, h4, aa, cap, rfl, h5⟩ := hl
  have HR : Hid (rightB (.node k n s ks) r = (decide (3 ≤ k) && decide (k ≤ 9) && decide (n = 0) && decide (s.size = 0) && decide ((ks.length : Int) = manyK k) && decide (r ≠ 0) && rightS ks (r - 1))) := by show _ = _; rw [rightB, if_neg hk1, if_neg hk2]
  have IH := Lib.hid ih
  have H5 := Lib.hid h5
  have e1 := ne_true hk1
  have e2 := ne_true hk2
  clear h5 h1 h2 ih hk1 hk2
  by_cases hk : 3 ≤ k ∧ k ≤ 9
  · obtain ⟨hk3, hk9⟩ := hk
    have h8 : ((k == 8) = true ∧ manyK k = 1) ∨ ((k == 8) = false ∧ manyK k = 2) := by
      by_cases h : k = 8
      · subst h; exact .inl ⟨rfl, rfl⟩
      · exact .inr ⟨ne_true h, many_other h⟩
    by_cases hn : n = 0
    · subst hn
      by_cases hs : s.size = 0
      · have he := empty_true hs
        have HS := Lib.hid hs
        clear hs
        by_cases hm : (ks.length : Int) = manyK k
        · by_cases hr0 : r = 0
          · have hq : ((ks.length : Int) != manyK k) = false := by rw [hm]; simp
            have HR2 : Hid (rightB (.node k 0 s ks) r = false) := by show _ = _; rw [HR.out, hr0]; simp
            clear hm
            subst hr0
            rcases h8 with ⟨e8, e9⟩ | ⟨e8, e9⟩
            all_goals
              rw [e9] at hq
              clear e9
              go_enter Try.func54, Try.ntmps54
              go_wp2_with (go_at_call 13; refine (in_yes _ _ _ _ hk3 hk9).mono ?_; rintro e w1 ⟨rfl, rfl⟩)
              go_ret
              exact ⟨ret_bool (by rw [HR2.out]), (Below.refl _ _).alloc (Nat.le_refl _) _⟩
          · have hq : ((ks.length : Int) != manyK k) = false := by rw [hm]; simp
            have HR2 : Hid (rightB (.node k 0 s ks) r = rightS ks (r - 1)) := by show _ = _; rw [HR.out]; simp [hk3, hk9, HS.out, hm, hr0]
            have hr1 : 0 < r := by omega
            have hrz : ((r : Int) == 0) = false := ne_true (by omega)
            have HE := Lib.hid (show ((r - 1 : Nat) : Int) = (r : Int) - 1 from by omega)
            clear hm hr0
            rcases h8 with ⟨e8, e9⟩ | ⟨e8, e9⟩
            all_goals
              rw [e9] at hq
              clear e9
              go_enter Try.func54, Try.ntmps54
              go_wp2_with (go_at_call 13; refine (in_yes _ _ _ _ hk3 hk9).mono ?_; rintro e w1 ⟨rfl, rfl⟩)
              go_loopw [6] (fun i wr => ∃ j : Nat, j ≤ ks.length ∧ i = .int .i64 j ∧ Hid (rightB (.node k 0 s ks) r = rightS (ks.drop j) (r - 1)) ∧ Hid (Below (w.heap.size + 1) (w.alloc (.cells #[.int .i64 k, .int .i64 0, .string s, .slice aa ks.length cap] 55)) wr))
                (fun i _ => ks.length - (intOf i).toNat)
              case atStart => exact ⟨0, Nat.zero_le _, rfl, HR2.out, Below.refl _ _⟩
              case round =>
                obtain ⟨j, hj, rfl, hsz, hbe⟩ := hrel
                have b3 : wr.cell? ⟨w.heap.size, 3, none⟩ = some (.slice aa ks.length cap) := by rw [hbe.out.cell (p := ⟨w.heap.size, 3, none⟩) (by simp)]; simp [go_sem]
                by_cases hlt : j < ks.length
                · obtain ⟨g, o, rfl, hl⟩ := H5.out (by omega)
                  have hke : Keeps w wr := (keeps_alloc _ _).trans (keeps_below (by simpa using hbe.out))
                  obtain ⟨ka, kc, c0, c1, c2, c3, hl2⟩ := (hl.keep hke).at j hlt
                  have C := Lib.hid (IH.out ks[j] (List.getElem_mem hlt) _ wr (r - 1) (by omega) hl2)
                  have hd := rightS_at (r := r - 1) hlt
                  have HB0 : Hid (w.heap.size + 1 ≤ wr.heap.size) := by show w.heap.size + 1 ≤ wr.heap.size; have := hbe.out.size; simpa using this
                  rw [HE.out] at C
                  clear hl hl2 hke
                  cases hq2 : rightB ks[j] (r - 1) with
                  | false =>
                    have HS2 : Hid (rightB (.node k 0 s ks) r = false) := by show _ = _; rw [hsz.out, hd, hq2]; rfl
                    rw [hq2] at C
                    clear hq2 hd
                    go_wp2_with fail
                    refine C.out.mono ?_
                    rintro e w1 ⟨rfl, hb1⟩
                    have HB1 := Lib.hid (hbe.out.trans (hb1.mono HB0.out))
                    clear hb1
                    go_wp2
                    go_ret
                    exact ⟨ret_bool (by rw [HS2.out]), below_box HB1.out⟩
                  | true =>
                    have HS2 : Hid (rightB (.node k 0 s ks) r = rightS (ks.drop (j + 1)) (r - 1)) := by show rightB (.node k 0 s ks) r = _; rw [hsz.out, hd, hq2]; rfl
                    rw [hq2] at C
                    clear hq2 hd
                    go_wp2_with fail
                    refine C.out.mono ?_
                    rintro e w1 ⟨rfl, hb1⟩
                    have HB1 := Lib.hid (hbe.out.trans (hb1.mono HB0.out))
                    clear hb1
                    go_wp2
                    go_roundw
                    case rel => exact ⟨j + 1, by omega, by go_num, HS2, HB1⟩
                    case measure => simp [intOf]; omega
                · have HS2 : Hid (rightB (.node k 0 s ks) r = true) := by show _ = _; rw [hsz.out, rightS_end (by omega)]
                  go_wp2
                  go_ret
                  exact ⟨ret_bool (by rw [HS2.out]), below_box hbe.out⟩
        · have hq : ((ks.length : Int) != manyK k) = true := by simp [hm]
          have HM := Lib.hid hm
          clear hm
          rcases h8 with ⟨e8, e9⟩ | ⟨e8, e9⟩
          all_goals
            rw [e9] at hq
            clear e9
            go_enter Try.func54, Try.ntmps54
            go_wp2_with (go_at_call 13; refine (in_yes _ _ _ _ hk3 hk9).mono ?_; rintro e w1 ⟨rfl, rfl⟩)
            go_ret
            exact ⟨ret_bool (by rw [HR.out]; simp [HM.out]), (Below.refl _ _).alloc (Nat.le_refl _) _⟩
      · have he := empty_false hs
        have HS := Lib.hid hs
        clear hs
        rcases h8 with ⟨e8, e9⟩ | ⟨e8, e9⟩
        all_goals
          clear e9
          go_enter Try.func54, Try.ntmps54
          go_wp2_with (go_at_call 13; refine (in_yes _ _ _ _ hk3 hk9).mono ?_; rintro e w1 ⟨rfl, rfl⟩)
          go_ret
          exact ⟨ret_bool (by rw [HR.out]; simp [HS.out]), (Below.refl _ _).alloc (Nat.le_refl _) _⟩
    · have hq : (n != 0) = true := by simp [hn]
      have HN := Lib.hid hn
      clear hn
      rcases h8 with ⟨e8, e9⟩ | ⟨e8, e9⟩
      all_goals
        clear e9
        go_enter Try.func54, Try.ntmps54
        go_wp2_with (go_at_call 13; refine (in_yes _ _ _ _ hk3 hk9).mono ?_; rintro e w1 ⟨rfl, rfl⟩)
        go_ret
        exact ⟨ret_bool (by rw [HR.out]; simp [HN.out]), (Below.refl _ _).alloc (Nat.le_refl _) _⟩
  · have hn2 : k < 3 ∨ 9 < k := by omega
    have HN2 := Lib.hid hn2
    clear hk hn2
    by_cases h8 : k = 8
    · have := HN2.out; omega
    · have e8 := ne_true h8
      clear h8
      go_enter Try.func54, Try.ntmps54
      go_wp2_with (go_at_call 13; refine (in_no _ _ _ _ HN2.out).mono ?_; rintro e w1 ⟨rfl, rfl⟩)
      go_ret
      exact ⟨ret_bool (by rw [HR.out]; have := HN2.out; simp; omega), (Below.refl _ _).alloc (Nat.le_refl _) _⟩
theorem specRight_any : ∀ t : Tree, RightOk t := treeInd fun k n s ks ih v w r hr hl => by
  by_cases h1 : k = 1
  · subst h1; exact right_num n s ks v w r hl
  · by_cases h2 : k = 2
    · subst h2; exact right_var n s ks v w r hl hl.2.2.1
    · exact right_more k n s ks ih h1 h2 v w r hr hl
/-- A right term. -/
def okB (t : Tree) : Bool := rightB t 6
theorem specTermOk_any (t : Tree) (v : Value) (w : World) (hl : Lies w t v) :
    Calls Try.prog 38 #[v] w fun e w' => e = .returned (.bool (okB t)) ∧ Below w.heap.size w w' := by
  have C := Lib.hid (fun w hk => specRight_any t v w 6 (by omega) (hl.keep hk))
  obtain ⟨_, _, _, _, aa, cap, rfl, _⟩ := hl.parts
  clear hl
  go_enter Try.func38, Try.ntmps38
  go_wp2_with fail
  refine (C.out _ (keeps_alloc _ _)).mono ?_
  rintro e w1 ⟨rfl, hb1⟩
  have HB1 := Lib.hid (((Below.refl w.heap.size w).alloc (Nat.le_refl _) _).trans (hb1.mono (by simp)))
  clear hb1
  go_wp2
  go_ret
  exact ⟨rfl, HB1.out⟩
end Go.Proofs.Ytofmccihehalcaa.Trm
