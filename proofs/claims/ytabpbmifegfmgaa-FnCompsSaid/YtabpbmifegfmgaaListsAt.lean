/- Lists of lists of numbers that lie in memory, counted, copied, compared, marked by the laws, walked. Conditions: they lie in memory; at most 2 to the 20 numbers and lists. -/
import Derived.Test.YtabpbmifegfmgaaRowList
import Derived.Test.YtabpbmifegfmgaaIntMark
import Derived.Deep.RegionHeld3
namespace Go.Proofs.Ytabpbmifegfmgaa.Trm
open Go.RowKit Own
def ListsAt (w : World) (ls : List (List Int)) (v : Value) : Prop := ∃ a cap, v = .slice a ls.length cap ∧ ls.length ≤ 9223372036854775807 ∧ (0 < ls.length → ∃ g o, a = some ⟨g, o, none⟩ ∧ ∀ i (h : i < ls.length), ∃ ra rc, w.cell? ⟨g, o + i, none⟩ = some (.slice ra ls[i].length rc) ∧ IntsAt w ls[i] (.slice ra ls[i].length rc))
theorem ListsAt.keep {w w' : World} {ls : List (List Int)} {v : Value} (h : ListsAt w ls v) (hk : Keeps w w') : ListsAt w' ls v := by
  obtain ⟨a, cap, rfl, h1, h2⟩ := h
  refine ⟨a, cap, rfl, h1, fun hp => ?_⟩
  obtain ⟨g, o, rfl, h3⟩ := h2 hp
  refine ⟨g, o, rfl, fun i hi => ?_⟩
  obtain ⟨ra, rc, h4, h5⟩ := h3 i hi
  exact ⟨ra, rc, hk _ _ h4, h5.keep hk⟩
/-- The numbers of a list of lists. -/
def LInt (ls : List (List Int)) : Prop := ∀ l, l ∈ ls → ∀ x, x ∈ l → InI x
def LOwn (w : World) (base hi : Nat) (v : Value) (cs : List Value) (ls : List (List Int)) : Prop := RowsOwn w base hi 34 3 v cs (ls.map intV)
theorem intV_length (l : List Int) : (intV l).length = l.length := by simp [intV]
theorem LOwn.at {w : World} {base hi : Nat} {v : Value} {cs : List Value} {ls : List (List Int)} (h : LOwn w base hi v cs ls) (hi2 : LInt ls) : ListsAt w ls v := by
  have hl : (ls.map intV).length = ls.length := by simp
  obtain ⟨a, c, rfl, ha⟩ := RowsOwn.shape h
  rw [hl] at ha ⊢
  have hm := row_small h.2.2.2.1
  unfold maxLen at hm
  rw [hl] at hm
  refine ⟨a, c, rfl, hm, fun hp => ?_⟩
  obtain ⟨g, rfl⟩ := ha hp
  refine ⟨g, 0, rfl, fun i hi3 => ?_⟩
  obtain ⟨og, oc, e, h1⟩ := RowsOwn.outer h (i := i) (by rw [hl]; exact hi3)
  obtain ⟨ra, rc, h2, h3, _⟩ := RowsOwn.inner h (i := i) (by rw [hl]; exact hi3)
  have e2 : og = g := by
    have e3 : (Value.slice (some ⟨g, 0, none⟩) ls.length c).ownBlock = (Value.slice (some ⟨og, 0, none⟩) (ls.map intV).length oc).ownBlock := by rw [← e, hl]
    simpa [Value.ownBlock] using e3.symm
  subst e2
  have e4 : (ls.map intV)[i]'(by rw [hl]; exact hi3) = intV ls[i] := by simp
  rw [e4, intV_length] at h2 h3
  rw [Nat.zero_add]
  exact ⟨ra, rc, h1.trans h2, ints_of_row h3 (hi2 _ (List.getElem_mem hi3))⟩
theorem infoIntsL : (Try.prog.info? 34).map (fun i => (i.zero, i.size, i.bytes)) = some (some (.slice none 0 0), 1, 24) := by kernel_rfl
set_option maxHeartbeats 1600000 in
theorem eqLists_any (ls : List (List Int)) (va vb : Value) (w : World) (h1 : ListsAt w ls va) (h2 : ListsAt w ls vb) :
    Calls Try.prog 23 #[va, vb] w fun e w' => e = .returned (.bool true) ∧ Below w.heap.size w w' := by
  obtain ⟨aa, cap, rfl, hlen, hk⟩ := h1
  obtain ⟨bb, dap, rfl, _, hk2⟩ := h2
  have HK := Lib.hid hk
  have HK2 := Lib.hid hk2
  clear hk hk2
  go_enter Try.func23, Try.ntmps23
  go_wp2
  go_loopw [5] (fun i wr => ∃ (k : Nat), k ≤ ls.length ∧ i = .int .i64 k ∧ Hid (Below w.heap.size w wr))
    (fun i _ => ls.length - (intOf i).toNat)
  case atStart => exact ⟨0, Nat.zero_le _, rfl, Below.refl _ _⟩
  case round =>
    obtain ⟨k, hk, rfl, hbe⟩ := hrel
    by_cases hlt : k < ls.length
    · obtain ⟨g, o, rfl, hl⟩ := HK.out (by omega)
      obtain ⟨h, p, rfl, hm⟩ := HK2.out (by omega)
      obtain ⟨ra, rc, q0, hl2⟩ := hl k hlt
      obtain ⟨sa, sc, q1, hm2⟩ := hm k hlt
      have c0 := keeps_below hbe.out _ _ q0
      have c1 := keeps_below hbe.out _ _ q1
      have C : Hid (∀ wx, Below wr.heap.size wr wx → Calls Try.prog 32 #[.slice ra ls[k].length rc, .slice sa ls[k].length sc] wx fun e w' => e = .returned (.bool true) ∧ Below wr.heap.size wr w') :=
        fun wx hb => (eqInts_at _ _ ls[k] wx ((hl2.keep (keeps_below hbe.out)).keep (keeps_below hb)) ((hm2.keep (keeps_below hbe.out)).keep (keeps_below hb))).mono fun e w' ⟨he, h⟩ => ⟨he, hb.trans (h.mono hb.size)⟩
      have KS : Hid (∀ wx, Below wr.heap.size wr wx → wx.cell? ⟨g, o + k, none⟩ = some (.slice ra ls[k].length rc) ∧ wx.cell? ⟨h, p + k, none⟩ = some (.slice sa ls[k].length sc) ∧ Below wr.heap.size wr wx) := fun wx hb => by
        have hk := keeps_below hb
        exact ⟨hk _ _ c0, hk _ _ c1, hb⟩
      have b0 : Below wr.heap.size wr wr.drew := (Below.refl _ _).drew
      clear hl hm hl2 hm2 q0 q1 c0 c1
      go_wp2_with fail
      go_region_held3 (fun wx => wx.cell? ⟨g, o + k, none⟩ = some (.slice ra ls[k].length rc) ∧ wx.cell? ⟨h, p + k, none⟩ = some (.slice sa ls[k].length sc) ∧ Below wr.heap.size wr wx)
        (exact KS.out _ (by assumption))
        (first
        | (go_at_call 32; (with_reducible refine (C.out _ (by assumption)).mono ?_); rintro e w1 ⟨rfl, b1⟩))
      all_goals
        have HB1 := Lib.hid (hbe.out.trans (b1.mono hbe.out.size))
        clear b1
        go_wp2
        go_roundw
        case rel => exact ⟨k + 1, by omega, by go_num, HB1⟩
        case measure => simp [intOf]; omega
    · go_wp2
      go_ret
      exact ⟨rfl, hbe.out⟩
/-- How many numbers there are. -/
def totL : List (List Int) → Nat
  | [] => 0
  | l :: r => l.length + totL r
theorem totL_drop {ls : List (List Int)} {i : Nat} (h : i < ls.length) : totL (ls.drop i) = ls[i].length + totL (ls.drop (i + 1)) := by rw [List.drop_eq_getElem_cons h, totL]
theorem totL_end {ls : List (List Int)} {i : Nat} (h : ls.length ≤ i) : totL (ls.drop i) = 0 := by rw [List.drop_of_length_le h, totL]
theorem totL_mem : ∀ {ls : List (List Int)} {l : List Int}, l ∈ ls → l.length ≤ totL ls
  | a :: r, l, h => by
    rw [totL]
    rcases List.mem_cons.1 h with rfl | h
    · omega
    · have := totL_mem h; omega
/-- The lists marked from k on. -/
def markL : Nat → List (List Int) → List (List Int)
  | _, [] => []
  | k, l :: r => marksI k l.length :: markL (k + l.length) r
theorem markL_len : ∀ (k : Nat) (ls : List (List Int)), (markL k ls).length = ls.length
  | _, [] => rfl
  | k, l :: r => by simp only [markL, List.length_cons, markL_len _ r]
theorem markL_at : ∀ (k : Nat) (ls : List (List Int)) (i : Nat) (h : i < ls.length), (markL k ls)[i]'(by rw [markL_len]; exact h) = marksI (k + totL (ls.take i)) ls[i].length
  | _, [], i, h => absurd h (by simp)
  | k, l :: r, 0, _ => by simp [markL, totL]
  | k, l :: r, i + 1, h => by
    have ih := markL_at (k + l.length) r i (by simpa using h)
    simp only [markL, List.getElem_cons_succ, List.take_succ_cons, totL]
    rw [ih]
    congr 1
    omega
theorem totL_take {ls : List (List Int)} {i : Nat} (h : i < ls.length) : totL (ls.take (i + 1)) = totL (ls.take i) + ls[i].length := by
  have key : ∀ (a b : List (List Int)), totL (a ++ b) = totL a + totL b := by
    intro a
    induction a with
    | nil => intro b; simp [totL]
    | cons x a ih => intro b; rw [List.cons_append, totL, totL, ih]; omega
  rw [List.take_succ_eq_append_getElem h, key]
  simp [totL]
/-- The lists, marked up to j. -/
def curL (k : Nat) (ls : List (List Int)) (j : Nat) : List (List Int) := (markL k ls).take j ++ ls.drop j
theorem curL_len (k : Nat) (ls : List (List Int)) (j : Nat) : (curL k ls j).length = ls.length := by
  unfold curL
  rw [List.length_append, List.length_take, List.length_drop, markL_len]
  omega
theorem curL_at (k : Nat) (ls : List (List Int)) (j : Nat) (h : j < ls.length) : (curL k ls j)[j]'(by rw [curL_len]; exact h) = ls[j] := by
  have hl : ((markL k ls).take j).length = j := by rw [List.length_take, markL_len]; omega
  unfold curL
  rw [List.getElem_append_right (by omega)]
  simp [hl]
theorem curL_set (k : Nat) (ls : List (List Int)) (j : Nat) (h : j < ls.length) : (curL k ls j).set j (marksI (k + totL (ls.take j)) ls[j].length) = curL k ls (j + 1) := by
  have hl : ((markL k ls).take j).length = j := by rw [List.length_take, markL_len]; omega
  unfold curL
  rw [List.set_append_right _ _ (by omega), hl, Nat.sub_self, List.drop_eq_getElem_cons h, List.set_cons_zero, List.take_succ_eq_append_getElem (by rw [markL_len]; exact h), markL_at k ls j h]
  simp
set_option maxHeartbeats 1600000 in
theorem markLists_any (ls : List (List Int)) (v : Value) (base hi k : Nat) (cs : List Value) (w : World) (h1 : LOwn w base hi v cs ls) (hk2 : k + totL ls ≤ 4611686018427387904) :
    Calls Try.prog 25 #[v, .int .i64 (k : Int)] w fun e w' => e = .returned (.int .i64 ((k + totL ls : Nat) : Int)) ∧ LOwn w' base hi v cs (markL k ls) ∧ Marks base hi w w' := by
  have hlm : (ls.map intV).length = ls.length := by simp
  obtain ⟨a1, c1, rfl, ha1⟩ := RowsOwn.shape h1
  rw [hlm] at h1 ha1 ⊢
  have hsm := row_small h1.2.2.2.1
  unfold maxLen at hsm
  rw [hlm] at hsm
  have H1 : Hid (LOwn w base hi (.slice a1 ls.length c1) cs (curL k ls 0)) := by
    show LOwn _ _ _ _ _ _
    have e : curL k ls 0 = ls := by simp [curL]
    rw [e]
    exact h1
  have HA := Lib.hid ha1
  have HKB := Lib.hid hk2
  clear h1 ha1
  go_enter Try.func25, Try.ntmps25
  go_wp2
  go_loopw [1, 5] (fun x i wr => ∃ (j : Nat), j ≤ ls.length ∧ i = .int .i64 j ∧ x = .int .i64 ((k + totL (ls.take j) : Nat) : Int) ∧ Hid (LOwn wr base hi (.slice a1 ls.length c1) cs (curL k ls j)) ∧ Hid (Marks base hi w wr))
    (fun _ i _ => ls.length - (intOf i).toNat)
  case atStart => exact ⟨0, Nat.zero_le _, rfl, by simp [totL], H1.out, Marks.refl _ _ _⟩
  case round =>
    obtain ⟨j, hj, rfl, rfl, hrow, hmk⟩ := hrel
    by_cases hlt : j < ls.length
    · obtain ⟨g, rfl⟩ := HA.out (by omega)
      have hlc : ((curL k ls j).map intV).length = ls.length := by rw [List.length_map, curL_len]
      obtain ⟨og, oc, e, q1⟩ := RowsOwn.outer hrow.out (i := j) (by rw [hlc]; exact hlt)
      obtain ⟨ra, rc, q2, q3, _⟩ := RowsOwn.inner hrow.out (i := j) (by rw [hlc]; exact hlt)
      have e4 : ((curL k ls j).map intV)[j]'(by rw [hlc]; exact hlt) = intV ls[j] := by rw [List.getElem_map, curL_at k ls j hlt]
      rw [e4, intV_length] at q2 q3
      have e2 : og = g := by
        have e3 : (Value.slice (some ⟨g, 0, none⟩) ls.length c1).ownBlock = (Value.slice (some ⟨og, 0, none⟩) ((curL k ls j).map intV).length oc).ownBlock := by rw [← e]
        simpa [Value.ownBlock] using e3.symm
      subst e2
      have c0 : wr.cell? ⟨og, j, none⟩ = some (.slice ra ls[j].length rc) := q1.trans q2
      have hb := HKB.out
      have ht := totL_take hlt
      have htl : totL (ls.take j) + ls[j].length ≤ totL ls := by
        have key : ∀ (a b : List (List Int)), totL (a ++ b) = totL a + totL b := by
          intro a
          induction a with
          | nil => intro b; simp [totL]
          | cons x a ih => intro b; rw [List.cons_append, totL, totL, ih]; omega
        have := key (ls.take (j + 1)) (ls.drop (j + 1))
        rw [List.take_append_drop, ht] at this
        omega
      have C := Lib.hid (markInts_any (.slice ra ls[j].length rc) base ls[j].length (k + totL (ls.take j)) ls[j] wr q3 (by omega))
      have Q2 := Lib.hid q2
      have HT : Hid (((k + totL (ls.take j) + ls[j].length : Nat) : Int) = ((k + totL (ls.take (j + 1)) : Nat) : Int)) := by show _ = _; rw [ht]; omega
      have hz : ((k + totL (ls.take j) : Nat) : Int) ≤ 4611686018427387904 := by omega
      have HQI : Hid (∀ b, (Value.slice ra ls[j].length rc).ownBlock = some b → base ≤ b ∧ b < hi) := fun b hb2 => by
        obtain ⟨u, g1, g2, g3⟩ := hrow.out.2.2.2.2.2.1 j (by rw [hlc]; exact hlt)
        rw [q2] at g1
        injection g1 with g1
        subst g1
        exact ⟨(q3.lt b hb2).1, (g3 b hb2).1⟩
      clear q1 q2 q3 e ht htl hb
      go_wp2_with fail
      refine C.out.mono ?_
      rintro e w1 ⟨rfl, hr1, hg1⟩
      have HR1 : Hid (LOwn w1 base hi (.slice (some ⟨og, 0, none⟩) ls.length c1) cs (curL k ls (j + 1))) := by
        show LOwn _ _ _ _ _ _
        have h5 := RowsOwn.turn (D := intV (marksI (k + totL (ls.take j)) ls[j].length)) hrow.out (by rw [hlc]; exact hlt) Q2.out (by rw [e4, intV_length, intV_length, marksI_length]) (by rw [intV_length, marksI_length]; exact hr1) hg1
        unfold LOwn
        rw [← curL_set k ls j hlt, List.map_set]
        exact h5
      have HM1 := Lib.hid (hmk.out.trans (Marks.of_grown hg1 (fun b hb => HQI.out b hb)))
      clear hr1 hg1 c0 e4
      go_wp2_with fail
      go_roundw
      case rel => exact ⟨j + 1, by omega, by go_num, by rw [← HT.out]; go_num, HR1, HM1⟩
      case measure => simp [intOf]; omega
    · obtain rfl : j = ls.length := by omega
      have HR1 : Hid (LOwn wr base hi (.slice a1 ls.length c1) cs (markL k ls)) := by
        have := hrow.out
        have e : curL k ls ls.length = markL k ls := by
          unfold curL
          rw [List.drop_length, List.append_nil, List.take_of_length_le (by rw [markL_len]; exact Nat.le_refl _)]
        rw [e] at this
        exact this
      rw [List.take_length]
      go_wp2
      go_ret
      exact ⟨rfl, HR1.out, hmk.out⟩
set_option maxHeartbeats 1600000 in
theorem heldLists_any (ls : List (List Int)) (v : Value) (base hi k : Nat) (cs : List Value) (w : World) (h1 : LOwn w base hi v cs (markL k ls)) (hk2 : k + totL ls ≤ 4611686018427387904) :
    Calls Try.prog 26 #[v, .int .i64 (k : Int)] w fun e w' => e = .returned (.int .i64 ((k + totL ls : Nat) : Int)) ∧ w.grownBy w' none := by
  have hlm : ((markL k ls).map intV).length = ls.length := by rw [List.length_map, markL_len]
  obtain ⟨a1, c1, rfl, ha1⟩ := RowsOwn.shape h1
  rw [hlm] at h1 ha1 ⊢
  have hsm := row_small h1.2.2.2.1
  unfold maxLen at hsm
  rw [hlm] at hsm
  have H1 : Hid (LOwn w base hi (.slice a1 ls.length c1) cs (markL k ls)) := h1
  have HA := Lib.hid ha1
  have HKB := Lib.hid hk2
  clear h1 ha1
  go_enter Try.func26, Try.ntmps26
  go_wp2
  go_loopw [1, 5] (fun x i wr => ∃ (j : Nat), j ≤ ls.length ∧ i = .int .i64 j ∧ x = .int .i64 ((k + totL (ls.take j) : Nat) : Int) ∧ Hid (w.grownBy wr none))
    (fun _ i _ => ls.length - (intOf i).toNat)
  case atStart => exact ⟨0, Nat.zero_le _, rfl, by simp [totL], World.grownBy.refl _ _⟩
  case round =>
    obtain ⟨j, hj, rfl, rfl, hgr⟩ := hrel
    by_cases hlt : j < ls.length
    · obtain ⟨g, rfl⟩ := HA.out (by omega)
      have hrow : LOwn wr base hi (.slice (some ⟨g, 0, none⟩) ls.length c1) cs (markL k ls) := RowsOwn.below H1.out (below_none hgr.out)
      obtain ⟨og, oc, e, q1⟩ := RowsOwn.outer hrow (i := j) (by rw [hlm]; exact hlt)
      obtain ⟨ra, rc, q2, q3, _⟩ := RowsOwn.inner hrow (i := j) (by rw [hlm]; exact hlt)
      have e4 : ((markL k ls).map intV)[j]'(by rw [hlm]; exact hlt) = intV (marksI (k + totL (ls.take j)) ls[j].length) := by rw [List.getElem_map, markL_at k ls j hlt]
      rw [e4, intV_length, marksI_length] at q2 q3
      have e2 : og = g := by
        have e3 : (Value.slice (some ⟨g, 0, none⟩) ls.length c1).ownBlock = (Value.slice (some ⟨og, 0, none⟩) ((markL k ls).map intV).length oc).ownBlock := by rw [← e]
        simpa [Value.ownBlock] using e3.symm
      subst e2
      have c0 : wr.cell? ⟨og, j, none⟩ = some (.slice ra ls[j].length rc) := q1.trans q2
      have hb := HKB.out
      have ht := totL_take hlt
      have htl : totL (ls.take j) + ls[j].length ≤ totL ls := by
        have key : ∀ (a b : List (List Int)), totL (a ++ b) = totL a + totL b := by
          intro a
          induction a with
          | nil => intro b; simp [totL]
          | cons x a ih => intro b; rw [List.cons_append, totL, totL, ih]; omega
        have := key (ls.take (j + 1)) (ls.drop (j + 1))
        rw [List.take_append_drop, ht] at this
        omega
      have C := Lib.hid (heldInts_any (.slice ra ls[j].length rc) base ls[j].length (k + totL (ls.take j)) wr q3 (by omega))
      have HT : Hid (((k + totL (ls.take j) + ls[j].length : Nat) : Int) = ((k + totL (ls.take (j + 1)) : Nat) : Int)) := by show _ = _; rw [ht]; omega
      have hz : ((k + totL (ls.take (j + 1)) : Nat) : Int) ≤ 4611686018427387904 := by rw [ht]; omega
      have hz0 : 0 ≤ ((k + totL (ls.take (j + 1)) : Nat) : Int) := by omega
      clear q1 q2 q3 e ht htl hb hrow
      go_wp2_with fail
      refine C.out.mono ?_
      rintro e w1 ⟨rfl, hg1⟩
      rw [HT.out]
      have HG1 : Hid (w.grownBy w1 none) := hgr.out.trans hg1
      clear hg1 c0
      go_wp2_with fail
      go_roundw
      case rel => exact ⟨j + 1, by omega, by go_num, by first | rfl | go_num, HG1⟩
      case measure => simp [intOf]; omega
    · obtain rfl : j = ls.length := by omega
      rw [List.take_length]
      go_wp2
      go_ret
      exact ⟨rfl, hgr.out⟩
end Go.Proofs.Ytabpbmifegfmgaa.Trm
