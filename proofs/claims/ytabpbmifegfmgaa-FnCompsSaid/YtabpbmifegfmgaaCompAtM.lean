/- CompAt of both sides, walked; lists of lists counted and copied. Conditions: they lie in memory. -/
import Derived.Test.YtabpbmifegfmgaaListsAt
import Derived.Test.YtabpbmifegfmgaaIdx0
import Derived.Test.YtabpbmifegfmgaaGraph
namespace Go.Proofs.Ytabpbmifegfmgaa.Trm
open Go.RowKit Own
/-- The list at a place holds the number. -/
def hitL (ls : List (List Int)) (x : Int) (i : Nat) : Prop := ∃ h : i < ls.length, x ∈ ls[i]
theorem specHas_any (l : List Int) (x : Int) (v : Value) (w : World) (hl : IntsAt w l v) :
    Calls Try.prog 54 #[v, .int .i64 x] w (SayB (x ∈ l) w) := by
  obtain ⟨a, cap, rfl, hm, _, hk⟩ := hl
  have HK := Lib.hid hk
  clear hk
  go_enter Try.func54, Try.ntmps54
  go_wp2
  go_loopw [5] (fun i wr => ∃ (j : Nat), j ≤ l.length ∧ i = .int .i64 j ∧ Hid (∀ i (h : i < l.length), i < j → l[i] ≠ x) ∧ wr = w)
    (fun i _ => l.length - (intOf i).toNat)
  case atStart => exact ⟨0, Nat.zero_le _, rfl, fun i _ h => by omega, rfl⟩
  case round =>
    obtain ⟨j, hj, rfl, hne, rfl⟩ := hrel
    by_cases hlt : j < l.length
    · obtain ⟨g, o, rfl, hcell⟩ := HK.out (by omega)
      have c0 := hcell j hlt
      clear hcell
      by_cases he : l[j] = x
      · have HX : Hid (x ∈ l) := by show _ ∈ _; rw [← he]; exact List.getElem_mem hlt
        rw [he] at c0
        clear he
        go_wp2
        go_ret
        exact SayB.mk_true HX.out (Below.refl _ _)
      · have hq := ne_true he
        have hq2 : ¬ l[j] = x := he
        have HS : Hid (∀ i (h : i < l.length), i < j + 1 → l[i] ≠ x) := fun i h hi => by
          rcases Nat.lt_or_ge i j with h1 | h1
          · exact hne.out i h h1
          · obtain rfl : i = j := by omega
            exact he
        clear he
        go_wp2
        go_roundw
        case rel => exact ⟨j + 1, by omega, by go_num, HS, by first | rfl | trivial⟩
        case measure => simp [intOf]; omega
    · have HX : Hid (¬ x ∈ l) := fun h => by
        obtain ⟨i, hi, e⟩ := List.mem_iff_getElem.1 h
        exact hne.out i hi (by omega) e
      go_wp2
      go_ret
      exact SayB.mk_false HX.out (Below.refl _ _)
theorem implIdxI_any (l : List Int) (x : Int) (v : Value) (w : World) (hl : IntsAt w l v) :
    Calls Try.prog 59 #[v, .int .i64 x] w fun e w' => ∃ z : Int, e = .returned (.int .i64 z) ∧ (0 ≤ z ↔ x ∈ l) ∧ w = w' := by
  obtain ⟨a, cap, rfl, hm, _, hk⟩ := hl
  have HK := Lib.hid hk
  clear hk
  go_enter Try.func59, Try.ntmps59
  go_wp2
  go_loopw [8] (fun i wr => ∃ (j : Nat), j ≤ l.length ∧ i = .int .i64 j ∧ Hid (∀ i (h : i < l.length), i < j → l[i] ≠ x) ∧ wr = w)
    (fun i _ => l.length - (intOf i).toNat)
  case atStart => exact ⟨0, Nat.zero_le _, rfl, fun i _ h => by omega, rfl⟩
  case round =>
    obtain ⟨j, hj, rfl, hne, rfl⟩ := hrel
    by_cases hlt : j < l.length
    · obtain ⟨g, o, rfl, hcell⟩ := HK.out (by omega)
      have c0 := hcell j hlt
      clear hcell
      by_cases he : l[j] = x
      · have HX : Hid ((0 : Int) ≤ (j : Int) ↔ x ∈ l) := ⟨fun _ => by rw [← he]; exact List.getElem_mem hlt, fun _ => by omega⟩
        rw [he] at c0
        clear he
        go_wp2
        go_ret
        exact ⟨_, rfl, HX.out, rfl⟩
      · have he2 : ¬ x = l[j] := fun h => he h.symm
        have hq := ne_true he2
        have HS : Hid (∀ i (h : i < l.length), i < j + 1 → l[i] ≠ x) := fun i h hi => by
          rcases Nat.lt_or_ge i j with h1 | h1
          · exact hne.out i h h1
          · obtain rfl : i = j := by omega
            exact he
        clear he
        go_wp2
        go_roundw
        case rel => exact ⟨j + 1, by omega, by go_num, HS, by first | rfl | trivial⟩
        case measure => simp [intOf]; omega
    · have HX : Hid ((0 : Int) ≤ -1 ↔ x ∈ l) := ⟨fun h => by omega, fun h => by
        obtain ⟨i, hi, e⟩ := List.mem_iff_getElem.1 h
        exact absurd e (hne.out i hi (by omega))⟩
      go_wp2
      go_ret
      exact ⟨_, rfl, HX.out, rfl⟩
theorem implHasI_any (l : List Int) (x : Int) (v : Value) (w : World) (hl : IntsAt w l v) :
    Calls Try.prog 45 #[v, .int .i64 x] w (SayB (x ∈ l) w) := by
  have C := Lib.hid (implIdxI_any l x v w hl)
  obtain ⟨a, cap, rfl, hm, _, _⟩ := hl
  go_enter Try.func45, Try.ntmps45
  go_wp2_with fail
  refine C.out.mono ?_
  rintro e w1 ⟨z, rfl, hz, rfl⟩
  have HZ := Lib.hid hz
  clear hz
  by_cases h0 : 0 ≤ z
  · go_wp2_with fail
    go_ret
    exact SayB.mk_true (HZ.out.1 h0) (Below.refl _ _)
  · have hd : decide (0 ≤ z) = false := decide_eq_false h0
    go_wp2_with fail
    go_ret
    exact SayB.mk_false (fun h => by have := HZ.out.2 h; omega) (Below.refl _ _)
theorem specCompAt_any (ls : List (List Int)) (x : Int) (v : Value) (w : World) (hl : ListsAt w ls v) :
    Calls Try.prog 28 #[v, .int .i64 x] w fun e w' => ∃ z, e = .returned (.int .i64 z) ∧ IdxG ls.length (hitL ls x) z ∧ Below w.heap.size w w' := by
  obtain ⟨a, cap, rfl, hm, hk⟩ := hl
  have HK := Lib.hid hk
  clear hk
  go_enter Try.func28, Try.ntmps28
  go_wp2
  go_loopw [5] (fun i wr => ∃ (j : Nat), j ≤ ls.length ∧ i = .int .i64 j ∧ Hid (∀ i, i < j → ¬ hitL ls x i) ∧ Hid (Below w.heap.size w wr))
    (fun i _ => ls.length - (intOf i).toNat)
  case atStart => exact ⟨0, Nat.zero_le _, rfl, fun i h => by omega, Below.refl _ _⟩
  case round =>
    obtain ⟨j, hj, rfl, hne, hbe⟩ := hrel
    by_cases hlt : j < ls.length
    · obtain ⟨g, o, rfl, hcell⟩ := HK.out (by omega)
      obtain ⟨ra, rc, q0, q1⟩ := hcell j hlt
      have c0 := keeps_below hbe.out _ _ q0
      have C := Lib.hid (specHas_any ls[j] x _ wr (q1.keep (keeps_below hbe.out)))
      clear hcell q0 q1
      go_wp2_with fail
      refine C.out.mono ?_
      rintro e w1 ⟨b, rfl, hb, hbw⟩
      have HB := Lib.hid hb
      have HB1 := Lib.hid (hbe.out.trans (hbw.mono hbe.out.size))
      clear hb hbw
      cases b with
      | true =>
        have HX : Hid (IdxG ls.length (hitL ls x) j) := .inl ⟨j, hlt, rfl, ⟨hlt, HB.out.1 rfl⟩, hne.out⟩
        go_wp2_with fail
        go_ret
        exact ⟨_, rfl, HX.out, HB1.out⟩
      | false =>
        have HS : Hid (∀ i, i < j + 1 → ¬ hitL ls x i) := fun i hi ⟨hl, e⟩ => by
          rcases Nat.lt_or_ge i j with h1 | h1
          · exact hne.out i h1 ⟨hl, e⟩
          · obtain rfl : i = j := by omega
            exact absurd (HB.out.2 e) (by simp)
        go_wp2_with fail
        go_roundw
        case rel => exact ⟨j + 1, by omega, by go_num, HS, HB1⟩
        case measure => simp [intOf]; omega
    · have HX : Hid (IdxG ls.length (hitL ls x) (-1)) := .inr ⟨rfl, fun j h => hne.out j (by omega)⟩
      go_wp2_with fail
      go_ret
      exact ⟨_, rfl, HX.out, hbe.out⟩
theorem implListHas_any (l : List Int) (x : Int) (g : Nat) (v : Value) (w : World) (hl : IntsAt w l v) (hg : w.cell? ⟨g, 0, none⟩ = some (.int .i64 x)) :
    Calls Try.prog 44 #[v, .pointer (some ⟨g, 0, none⟩)] w (SayB (x ∈ l) w) := by
  have C := Lib.hid (implHasI_any l x v w hl)
  obtain ⟨a, cap, rfl, hm, _, _⟩ := hl
  go_enter Try.func44, Try.ntmps44
  go_wp2_with fail
  refine C.out.mono ?_
  rintro e w1 ⟨b, rfl, hb, hw⟩
  have HB := Lib.hid hb
  have HW := Lib.hid hw
  clear hb hw
  go_wp2_with fail
  go_ret
  exact ⟨b, rfl, HB.out, HW.out⟩
theorem implListIdx_any (ls : List (List Int)) (x : Int) (q : Nat) (v : Value) (w : World) (hl : ListsAt w ls v) (hg : w.cell? ⟨q, 0, none⟩ = some (.int .i64 x)) :
    Calls Try.prog 43 #[v, .func (.func 44) #[] #[.pointer (some ⟨q, 0, none⟩)]] w fun e w' => ∃ z, e = .returned (.int .i64 z) ∧ IdxG ls.length (hitL ls x) z ∧ Below w.heap.size w w' := by
  obtain ⟨a, cap, rfl, hm, hk⟩ := hl
  have HK := Lib.hid hk
  have HG := Lib.hid hg
  clear hk hg
  go_enter Try.func43, Try.ntmps43
  go_wp2
  go_loopw [8] (fun i wr => ∃ (j : Nat), j ≤ ls.length ∧ i = .int .i64 j ∧ Hid (∀ i, i < j → ¬ hitL ls x i) ∧ Hid (Below w.heap.size w wr))
    (fun i _ => ls.length - (intOf i).toNat)
  case atStart => exact ⟨0, Nat.zero_le _, rfl, fun i h => by omega, Below.refl _ _⟩
  case round =>
    obtain ⟨j, hj, rfl, hne, hbe⟩ := hrel
    by_cases hlt : j < ls.length
    · obtain ⟨g, o, rfl, hcell⟩ := HK.out (by omega)
      obtain ⟨ra, rc, q0, q1⟩ := hcell j hlt
      have c0 := keeps_below hbe.out _ _ q0
      have C := Lib.hid (implListHas_any ls[j] x q _ wr (q1.keep (keeps_below hbe.out)) (keeps_below hbe.out _ _ HG.out))
      clear hcell q0 q1
      go_wp2_with fail
      refine C.out.mono ?_
      rintro e w1 ⟨b, rfl, hb, hbw⟩
      have HB := Lib.hid hb
      have HB1 := Lib.hid (hbe.out.trans (hbw.mono hbe.out.size))
      clear hb hbw
      cases b with
      | true =>
        have HX : Hid (IdxG ls.length (hitL ls x) j) := .inl ⟨j, hlt, rfl, ⟨hlt, HB.out.1 rfl⟩, hne.out⟩
        go_wp2_with fail
        go_ret
        exact ⟨_, rfl, HX.out, HB1.out⟩
      | false =>
        have HS : Hid (∀ i, i < j + 1 → ¬ hitL ls x i) := fun i hi ⟨hl, e⟩ => by
          rcases Nat.lt_or_ge i j with h1 | h1
          · exact hne.out i h1 ⟨hl, e⟩
          · obtain rfl : i = j := by omega
            exact absurd (HB.out.2 e) (by simp)
        go_wp2_with fail
        go_roundw
        case rel => exact ⟨j + 1, by omega, by go_num, HS, HB1⟩
        case measure => simp [intOf]; omega
    · have HX : Hid (IdxG ls.length (hitL ls x) (-1)) := .inr ⟨rfl, fun j h => hne.out j (by omega)⟩
      go_wp2_with fail
      go_ret
      exact ⟨_, rfl, HX.out, hbe.out⟩
theorem implCompAt_any (ls : List (List Int)) (x : Int) (v : Value) (w : World) (hl : ListsAt w ls v) :
    Calls Try.prog 16 #[v, .int .i64 x] w fun e w' => ∃ z, e = .returned (.int .i64 z) ∧ IdxG ls.length (hitL ls x) z ∧ Below w.heap.size w w' := by
  have hg0 : (w.alloc (.cells #[.int .i64 x] 3)).cell? ⟨w.heap.size, 0, none⟩ = some (.int .i64 x) := by simp [go_sem]
  have C := Lib.hid (implListIdx_any ls x w.heap.size v _ (hl.keep (keeps_alloc w (.cells #[.int .i64 x] 3))) hg0)
  obtain ⟨a, cap, rfl, hm, _⟩ := hl
  clear hg0
  go_enter Try.func16, Try.ntmps16
  go_wp2_with fail
  refine C.out.mono ?_
  rintro e w1 ⟨z, rfl, hz, hb⟩
  have HZ := Lib.hid hz
  have HB := Lib.hid (below_box1 hb)
  clear hz hb
  go_wp2_with fail
  go_ret
  exact ⟨_, rfl, HZ.out, HB.out⟩
theorem szList_any (l : List Int) (v : Value) (w : World) (a : Nat) (ha : a ≤ 1048576) (hl : IntsAt w l v) :
    Calls Try.prog 53 #[v, .int .i64 (a : Int)] w fun e w' => e = .returned (.int .i64 (leftR a l.length)) ∧ w = w' := by
  obtain ⟨aa, cap, rfl, hm, _, _⟩ := hl
  by_cases hb : a < l.length
  · have HO := Lib.hid (leftR_no (a := a) (n := l.length) (by omega))
    go_enter Try.func53, Try.ntmps53
    go_wp2
    go_ret
    exact ⟨by rw [HO.out]; rfl, rfl⟩
  · have HO := Lib.hid (leftR_yes (a := a) (n := l.length) (by omega))
    have e1 : ((a : Int) - (l.length : Int)) = ((a - l.length : Nat) : Int) := by omega
    have E1 := Lib.hid e1
    clear e1
    go_enter Try.func53, Try.ntmps53
    go_wp2
    go_ret
    exact ⟨by rw [HO.out, ← E1.out]; rfl, rfl⟩
set_option maxHeartbeats 800000 in
theorem szLists_any (ls : List (List Int)) (v : Value) (w : World) (a : Nat) (ha : a ≤ 1048576) (hl : ListsAt w ls v) :
    Calls Try.prog 27 #[v, .int .i64 (a : Int)] w fun e w' => e = .returned (.int .i64 (leftR a (ls.length + totL ls))) ∧ w = w' := by
  obtain ⟨aa, cap, rfl, hm, hk⟩ := hl
  have HK := Lib.hid hk
  clear hk
  by_cases hb : a < ls.length
  · have HO := Lib.hid (leftR_no (a := a) (n := ls.length + totL ls) (by omega))
    go_enter Try.func27, Try.ntmps27
    go_wp2
    go_ret
    exact ⟨by rw [HO.out]; rfl, rfl⟩
  · go_enter Try.func27, Try.ntmps27
    go_wp2
    go_loopw [1, 5] (fun x i wr => ∃ (k b : Nat), k ≤ ls.length ∧ b ≤ 1048576 ∧ i = .int .i64 k ∧ x = .int .i64 b ∧ Hid (leftR a (ls.length + totL ls) = leftR b (totL (ls.drop k))) ∧ wr = w)
      (fun _ i _ => ls.length - (intOf i).toNat)
    case atStart => exact ⟨0, a - ls.length, Nat.zero_le _, by omega, rfl, by go_num, leftR_step (by omega), rfl⟩
    case round =>
      obtain ⟨k, b, hk, hb2, rfl, rfl, hsz, rfl⟩ := hrel
      by_cases hlt : k < ls.length
      · obtain ⟨g, o, rfl, hl⟩ := HK.out (by omega)
        obtain ⟨ra, rc, c0, hl2⟩ := hl k hlt
        have C := Lib.hid (szList_any ls[k] _ wr b hb2 hl2)
        have hd := totL_drop hlt
        by_cases hle : ls[k].length ≤ b
        · have HS : Hid (leftR a (ls.length + totL ls) = leftR (b - ls[k].length) (totL (ls.drop (k + 1)))) := by
            show leftR a (ls.length + totL ls) = _
            rw [hsz.out, hd]; exact leftR_step hle
          rw [leftR_yes hle] at C
          clear hl hl2 hd
          go_wp2_with fail
          refine C.out.mono ?_
          rintro e w1 ⟨rfl, rfl⟩
          go_wp2
          go_roundw
          case rel => exact ⟨k + 1, b - ls[k].length, by omega, by omega, by go_num, rfl, HS, by first | rfl | trivial⟩
          case measure => simp [intOf]; omega
        · have HS : Hid (leftR a (ls.length + totL ls) = -1) := by
            show leftR a (ls.length + totL ls) = _
            rw [hsz.out, hd]; exact leftR_no (by omega)
          rw [leftR_no (by omega)] at C
          clear hl hl2 hd
          go_wp2_with fail
          refine C.out.mono ?_
          rintro e w1 ⟨rfl, rfl⟩
          go_wp2
          go_ret
          exact ⟨by rw [HS.out]; rfl, rfl⟩
      · have HS : Hid (leftR a (ls.length + totL ls) = (b : Int)) := by
          show leftR a (ls.length + totL ls) = _
          rw [hsz.out, totL_end (by omega), leftR_yes (by omega)]; rfl
        go_wp2
        go_ret
        exact ⟨by rw [HS.out]; rfl, rfl⟩
set_option maxHeartbeats 1600000 in
theorem toLists_any (ls : List (List Int)) (v : Value) (w : World) (hl : ListsAt w ls v) (hz : ls.length + totL ls ≤ 1048576) (hin : LInt ls) :
    Calls Try.prog 29 #[v] w fun e w' => ∃ v', e = .returned v' ∧ ListsAt w' ls v' ∧ Below w.heap.size w w' := by
  obtain ⟨i0, hi, hz0, hz1, hz2⟩ := info_parts infoIntsL
  obtain ⟨aa, cap, rfl, h1, h2⟩ := hl
  have HK := Lib.hid h2
  have HIN := Lib.hid hin
  clear h2 hin
  go_enter Try.func29, Try.ntmps29
  go_wp2_with (at_make; refine wpList_make_full _ rfl (.tmp 6) (.tmp 6) 27 rfl w.heap.size 34 i0 _ 1 Try.underlying27 hi hz0 hz1 .i64 .i64 _ _ ls.length rfl rfl rfl rfl (by rw [hz2]; omega) (by unfold maxLen; omega) (Nat.le_refl _) ?_)
  intro w1 hown hg
  have HO := Lib.hid hown
  have HG := Lib.hid hg
  clear hown hg
  go_wp2
  go_loopw [4] (fun i wr => ∃ (k : Nat) (us zs : List Value), k ≤ ls.length ∧ i = .int .i64 k ∧ Hid (us.length = k) ∧ Hid (wr.ownsRow w.heap.size 34 1 (.slice (some ⟨w.heap.size, 0, none⟩) ls.length ls.length) ls.length (us ++ zs)) ∧ Hid (∀ i (h : i < ls.length), i < k → ∃ ra rc, us[i]? = some (.slice ra ls[i].length rc) ∧ wr.ownsRow (w.heap.size + 1) 3 1 (.slice ra ls[i].length rc) ls[i].length (intV ls[i])) ∧ Hid (Below w.heap.size w wr))
    (fun i _ => ls.length - (intOf i).toNat)
  case atStart => exact ⟨0, [], _, Nat.zero_le _, rfl, rfl, HO.out, fun i _ h => by omega, below_noneL HG.out⟩
  case round =>
    obtain ⟨k, us, zs, hk, rfl, hul, hrow, hus, hbe⟩ := hrel
    by_cases hlt : k < ls.length
    · obtain ⟨g, o, rfl, hc⟩ := HK.out (by omega)
      obtain ⟨ra, rc, q0, q1⟩ := hc k hlt
      have c0 := keeps_below hbe.out _ _ q0
      have hzk := totL_mem (List.getElem_mem hlt)
      have C := Lib.hid (toInts_any ls[k] _ wr (q1.keep (keeps_below hbe.out)) (by omega))
      have hwl : w.heap.size < wr.heap.size := (hrow.out.lt _ rfl).2
      clear hc q0 q1
      go_wp2_with fail
      refine C.out.mono ?_
      rintro e w2 ⟨nv, rfl, hn2, hb2⟩
      obtain ⟨na, nc, rfl, _⟩ := row_shape hn2
      have R2 := Lib.hid (row_below hrow.out hb2)
      have U2 : Hid (∀ i (h : i < ls.length), i < k → ∃ ra rc, us[i]? = some (.slice ra ls[i].length rc) ∧ w2.ownsRow (w.heap.size + 1) 3 1 (.slice ra ls[i].length rc) ls[i].length (intV ls[i])) := fun i h h3 => by
        obtain ⟨ra, rc, g1, g2⟩ := hus.out i h h3
        exact ⟨ra, rc, g1, row_below g2 hb2⟩
      have HB2 := Lib.hid (hbe.out.trans (hb2.mono hbe.out.size))
      have N2 := Lib.hid (hn2.mono (show w.heap.size + 1 ≤ wr.heap.size by omega))
      clear hn2 hb2 c0
      have hls := R2.out.1
      obtain ⟨z, zs2, rfl⟩ : ∃ z zs2, zs = z :: zs2 := by
        cases zs with
        | nil => rw [List.append_nil, hul.out] at hls; omega
        | cons z r => exact ⟨z, r, rfl⟩
      have f0 := R2.out.frozenAt k
      obtain ⟨u0, s0⟩ : ∃ u, w2.cell? ⟨w.heap.size, k, none⟩ = some u := ⟨_, (R2.out.cellAt k (by omega)).trans (List.getElem?_eq_getElem (by rw [R2.out.1]; omega))⟩
      obtain ⟨hr3, hg3⟩ := R2.out.stored k (.slice na ls[k].length nc)
      rw [set_mid _ _ _ _ k hul.out] at hr3
      have HR3 := Lib.hid hr3
      have HB3 := Lib.hid (HB2.out.grown hg3 HB2.out.size (fun b hb => by cases hb; exact Nat.le_refl _))
      have HU3 : Hid (∀ i (h : i < ls.length), i < k + 1 → ∃ ra rc, (us ++ [Value.slice na ls[k].length nc])[i]? = some (.slice ra ls[i].length rc) ∧ (w2.setCell ⟨w.heap.size, k, none⟩ (.slice na ls[k].length nc)).ownsRow (w.heap.size + 1) 3 1 (.slice ra ls[i].length rc) ls[i].length (intV ls[i])) := fun i h h3 => by
        rcases Nat.lt_or_ge i k with h4 | h4
        · obtain ⟨ra, rc, g1, g2⟩ := U2.out i h h4
          refine ⟨ra, rc, by rw [List.getElem?_append_left (by rw [hul.out]; exact h4)]; exact g1, row_same g2 (fun b hb => heap_setCell_other w2 _ b _ (fun e => by have := (g2.lt b hb).1; simp at e; omega))⟩
        · obtain rfl : i = k := by omega
          refine ⟨na, nc, ?_, row_same N2.out (fun b hb => heap_setCell_other w2 _ b _ (fun e => by have := (N2.out.lt b hb).1; simp at e; omega))⟩
          rw [List.getElem?_append_right (by rw [hul.out]; exact Nat.le_refl _), hul.out]
          simp
      have HUL : Hid ((us ++ [Value.slice na ls[k].length nc]).length = k + 1) := by show _ = _; rw [List.length_append, hul.out]; rfl
      clear hls hr3 hg3
      go_wp2
      go_roundw
      case rel => exact ⟨k + 1, us ++ [Value.slice na ls[k].length nc], zs2, by omega, by go_num, HUL.out, HR3.out, HU3.out, HB3.out⟩
      case measure => simp [intOf]; omega
    · obtain rfl : k = ls.length := by omega
      have h3 := hrow.out
      have hzz : zs = [] := List.eq_nil_of_length_eq_zero (by have := h3.1; rw [List.length_append, hul.out] at this; omega)
      rw [hzz, List.append_nil] at h3
      have H3 := Lib.hid h3
      have HLA : Hid (ListsAt wr ls (.slice (some ⟨w.heap.size, 0, none⟩) ls.length ls.length)) := by
        refine ⟨_, _, rfl, h1, fun hp => ⟨w.heap.size, 0, rfl, fun i hi => ?_⟩⟩
        obtain ⟨ra, rc, g1, g2⟩ := hus.out i hi hi
        rw [Nat.zero_add]
        exact ⟨ra, rc, (h3.cellAt i (by omega)).trans g1, ints_of_row g2 (HIN.out _ (List.getElem_mem hi))⟩
      clear h3 hzz
      go_wp2
      go_ret
      exact ⟨_, rfl, HLA.out, hbe.out⟩
end Go.Proofs.Ytabpbmifegfmgaa.Trm
