/- The program's parts of a graph: who may stand next, what a part holds, walked. Conditions: the table of ways and the marks lie in blocks of their own. -/
import Derived.Test.YtabpbmifegfmgaaWays
import Derived.Test.YtabpbmifegfmgaaNatRow
import Derived.Test.YtabpbmifegfmgaaRowList
import Derived.Test.YtabpbmifegfmgaaIntMark
namespace Go.Proofs.Ytabpbmifegfmgaa.Trm
open Go.RowKit Own
/-- Marks of nodes in a block of its own. -/
def NodesAt (w : World) (b : Nat) (t : Nat → Bool) : Prop := ∃ C : Array Value, w.heap[b]? = some (.cells C 55 (0, 0)) ∧ C.size = 60 ∧ ∀ i, i < 60 → C[i]? = some (.bool (t i))
theorem NodesAt.cell {w : World} {b : Nat} {t : Nat → Bool} (h : NodesAt w b t) (i : Nat) (hi : i < 60) : w.cell? ⟨b, i, none⟩ = some (.bool (t i)) := by
  obtain ⟨C, h1, _, h2⟩ := h
  rw [cell_of_row w b _ C _ _ h1, h2 i hi]
theorem NodesAt.free {w : World} {b : Nat} {t : Nat → Bool} (h : NodesAt w b t) (k : Nat) : w.frozen? ⟨b, k, none⟩ = false := by
  obtain ⟨C, h1, _⟩ := h
  exact frozen_of_row w b k _ _ h1
theorem NodesAt.lt {w : World} {b : Nat} {t : Nat → Bool} (h : NodesAt w b t) : b < w.heap.size := cell_lt (h.cell 0 (by omega))
theorem NodesAt.same {w w' : World} {b : Nat} {t : Nat → Bool} (h : NodesAt w b t) (hb : w'.heap[b]? = w.heap[b]?) : NodesAt w' b t := by
  obtain ⟨C, h1, h2⟩ := h
  exact ⟨C, hb.trans h1, h2⟩
theorem NodesAt.put {w : World} {b : Nat} {t : Nat → Bool} (h : NodesAt w b t) (i : Nat) (hi : i < 60) : NodesAt (w.setCell ⟨b, i, none⟩ (.bool true)) b (fun x => t x || decide (x = i)) := by
  obtain ⟨C, h1, h2, h3⟩ := h
  refine ⟨C.setIfInBounds i (.bool true), heap_setCell_same w b _ _ _ _ h1, by simpa using h2, fun x hx => ?_⟩
  by_cases e : x = i
  · subst e
    rw [Array.getElem?_setIfInBounds_self_of_lt (by omega)]
    simp
  · rw [Array.getElem?_setIfInBounds_ne (fun h => e h.symm), h3 x hx]
    simp [e]
def nodeC : Array Value := ⟨List.replicate 60 (Value.bool false)⟩
theorem NodesAt.new (w : World) : NodesAt (w.alloc (.cells nodeC 55)) w.heap.size (fun _ => false) := by
  refine ⟨nodeC, heap_alloc_new w _, by unfold nodeC; rw [List.size_toArray, List.length_replicate], fun i hi => ?_⟩
  unfold nodeC
  rw [List.getElem?_toArray, List.getElem?_replicate, if_pos hi]
set_option maxRecDepth 20000 in
theorem run_nodeAlloc (w : World) : (Instr.alloc 55 true (.tuple #[])).run Try.prog w = .ok (.pointer (some ⟨w.heap.size, 0, none⟩)) (w.alloc (.cells nodeC 55)) := by kernel_rfl
/-- A truth that a call answers, and all as it was. -/
def SayW (p : Prop) (w : World) (e : Ending) (w' : World) : Prop := ∃ b, e = .returned (.bool b) ∧ (b = true ↔ p) ∧ w = w'
set_option maxHeartbeats 1600000 in
theorem implIsFree_any (W : Mat) (t : Nat → Bool) (b p n i : Nat) (w : World) (h : WaysAt w b n W) (ht : NodesAt w p t) (hi : i < n) (hn : n ≤ 60) :
    Calls Try.prog 57 #[.pointer (some ⟨b, 0, none⟩), .int .i64 (i : Int), .pointer (some ⟨p, 0, none⟩)] w (SayW (∀ j, j < n → W i j = true → W j i = true ∨ t j = true) w) := by
  have H := Lib.hid h
  have HT := Lib.hid ht
  have h0 := h.head
  clear h ht
  go_enter Try.func57, Try.ntmps57
  go_wp2
  go_loopw [12] (fun x wr => ∃ (j : Nat), j ≤ n ∧ x = .int .i64 j ∧ Hid (∀ k, k < j → W i k = true → W k i = true ∨ t k = true) ∧ wr = w)
    (fun x _ => n - (intOf x).toNat)
  case atStart => exact ⟨0, Nat.zero_le _, rfl, fun k h => by omega, rfl⟩
  case round =>
    obtain ⟨j, hj, rfl, hok, rfl⟩ := hrel
    by_cases hlt : j < n
    · have c1 := H.out.cell i j (by omega) (by omega)
      have c2 := H.out.cell j i (by omega) (by omega)
      have c3 := HT.out.cell j (by omega)
      obtain ⟨x, hx⟩ : ∃ x, W i j = x := ⟨_, rfl⟩
      obtain ⟨y, hy⟩ : ∃ y, W j i = y := ⟨_, rfl⟩
      obtain ⟨z, hz⟩ : ∃ z, t j = z := ⟨_, rfl⟩
      rw [hx] at c1
      rw [hy] at c2
      rw [hz] at c3
      have HX := Lib.hid hx
      have HY := Lib.hid hy
      have HZ := Lib.hid hz
      clear hx hy hz h0
      by_cases hall : x = true ∧ y = false ∧ z = false
      · obtain ⟨rfl, rfl, rfl⟩ := hall
        have HN : Hid ((false : Bool) = true ↔ ∀ j, j < n → W i j = true → W j i = true ∨ t j = true) := by
          show _ ↔ _
          constructor
          · intro h; cases h
          · intro h
            rcases h j hlt HX.out with h1 | h1
            · rw [HY.out] at h1; cases h1
            · rw [HZ.out] at h1; cases h1
        go_wp2
        go_ret
        exact ⟨false, rfl, by simpa using HN.out, rfl⟩
      · have HS : Hid (∀ k, k < j + 1 → W i k = true → W k i = true ∨ t k = true) := fun k hk h1 => by
          rcases Nat.lt_or_ge k j with h2 | h2
          · exact hok.out k h2 h1
          · obtain rfl : k = j := by omega
            rw [HX.out] at h1
            rw [HY.out, HZ.out]
            cases y with
            | true => exact .inl rfl
            | false =>
              cases z with
              | true => exact .inr rfl
              | false => exact absurd ⟨h1, rfl, rfl⟩ hall
        rcases (by cases x <;> cases y <;> cases z <;> simp at hall ⊢ : x = false ∨ (x = true ∧ y = true) ∨ (x = true ∧ y = false ∧ z = true)) with rfl | ⟨rfl, rfl⟩ | ⟨rfl, rfl, rfl⟩
        all_goals
          clear hall
          go_wp2
          go_roundw
          case rel => exact ⟨j + 1, by omega, by go_num, HS, by first | rfl | trivial⟩
          case measure => simp [intOf]; omega
    · have HY : Hid ((true : Bool) = true ↔ ∀ j, j < n → W i j = true → W j i = true ∨ t j = true) := ⟨fun _ k hk => hok.out k (by omega), fun _ => rfl⟩
      go_wp2
      go_ret
      exact ⟨true, rfl, by simpa using HY.out, rfl⟩
/-- The node that may stand next, or -1. -/
def NextZ (W : Mat) (n : Nat) (t : Nat → Bool) (z : Int) : Prop := (∃ i : Nat, z = (i : Int) ∧ i < n ∧ nextF W n t = some i) ∨ (z = -1 ∧ nextF W n t = none)
set_option maxHeartbeats 1600000 in
theorem implFreeNode_any (W : Mat) (t : Nat → Bool) (b p n : Nat) (w : World) (h : WaysAt w b n W) (ht : NodesAt w p t) (hn : n ≤ 60) :
    Calls Try.prog 36 #[.pointer (some ⟨b, 0, none⟩), .pointer (some ⟨p, 0, none⟩)] w fun e w' => ∃ z, e = .returned (.int .i64 z) ∧ NextZ W n t z ∧ w = w' := by
  have H := Lib.hid h
  have HT := Lib.hid ht
  have h0 := h.head
  clear h ht
  go_enter Try.func36, Try.ntmps36
  go_wp2
  go_loopw [10] (fun x wr => ∃ (j : Nat), j ≤ n ∧ x = .int .i64 j ∧ Hid (∀ k, k < j → freeB W n t k = false) ∧ wr = w)
    (fun x _ => n - (intOf x).toNat)
  case atStart => exact ⟨0, Nat.zero_le _, rfl, fun k h => by omega, rfl⟩
  case round =>
    obtain ⟨j, hj, rfl, hok, rfl⟩ := hrel
    by_cases hlt : j < n
    · have c3 := HT.out.cell j (by omega)
      obtain ⟨z, hz⟩ : ∃ z, t j = z := ⟨_, rfl⟩
      rw [hz] at c3
      have HZ := Lib.hid hz
      have C := Lib.hid (implIsFree_any W t b p n j wr H.out HT.out hlt hn)
      clear hz h0
      cases z with
      | true =>
        have HS : Hid (∀ k, k < j + 1 → freeB W n t k = false) := fun k hk => by
          rcases Nat.lt_or_ge k j with h2 | h2
          · exact hok.out k h2
          · obtain rfl : k = j := by omega
            unfold freeB
            rw [HZ.out]
            rfl
        go_wp2_with fail
        go_roundw
        case rel => exact ⟨j + 1, by omega, by go_num, HS, by first | rfl | trivial⟩
        case measure => simp [intOf]; omega
      | false =>
        go_wp2_with fail
        refine C.out.mono ?_
        rintro e w1 ⟨q, rfl, hq, rfl⟩
        have HQ := Lib.hid hq
        clear hq
        cases q with
        | true =>
          have HX : Hid (NextZ W n t j) := .inl ⟨j, rfl, hlt, next_some hlt (free_iff.2 ⟨HZ.out, HQ.out.1 rfl⟩) hok.out⟩
          go_wp2_with fail
          go_ret
          exact ⟨_, rfl, HX.out, rfl⟩
        | false =>
          have HS : Hid (∀ k, k < j + 1 → freeB W n t k = false) := fun k hk => by
            rcases Nat.lt_or_ge k j with h2 | h2
            · exact hok.out k h2
            · obtain rfl : k = j := by omega
              cases h : freeB W n t k with
              | false => rfl
              | true => exact absurd (HQ.out.2 (free_iff.1 h).2) (by simp)
          go_wp2_with fail
          go_roundw
          case rel => exact ⟨j + 1, by omega, by go_num, HS, by first | rfl | trivial⟩
          case measure => simp [intOf]; omega
    · have HX : Hid (NextZ W n t (-1)) := .inr ⟨rfl, next_none fun k hk => hok.out k (by omega)⟩
      go_wp2_with fail
      go_ret
      exact ⟨_, rfl, HX.out, rfl⟩
/-- The part so far. -/
def partK (W : Mat) (i k : Nat) : List Nat := (List.range k).filter fun j => decide (j = i) || (W i j && W j i)
theorem partK_succ (W : Mat) (i k : Nat) : partK W i (k + 1) = partK W i k ++ (if (decide (k = i) || (W i k && W k i)) = true then [k] else []) := by
  unfold partK
  rw [List.range_succ, List.filter_append]
  congr 1
  by_cases h : (decide (k = i) || (W i k && W k i)) = true
  · rw [if_pos h, List.filter_cons, if_pos h, List.filter_nil]
  · rw [if_neg h, List.filter_cons, if_neg h, List.filter_nil]
theorem partK_le (W : Mat) (i k : Nat) : (partK W i k).length ≤ k := by
  have := List.length_filter_le (fun j => decide (j = i) || (W i j && W j i)) (List.range k)
  simpa [partK] using this
set_option maxHeartbeats 1600000 in
theorem implPartOf_any (W : Mat) (b n i : Nat) (w : World) (h : WaysAt w b n W) (hi : i < n) (hn : n ≤ 60) :
    Calls Try.prog 37 #[.pointer (some ⟨b, 0, none⟩), .int .i64 (i : Int)] w (ListI (upI (partL W n i)) w) := by
  obtain ⟨i0, hi0, hz0, hz1, hz2⟩ := info_parts infoIntL
  have H := Lib.hid h
  have h0 := h.head
  have N0 : Hid (w.ownsRow w.heap.size 3 1 (.slice none 0 0) 0 (intV (upI []))) := ⟨rfl, .inl ⟨rfl, rfl⟩⟩
  clear h
  go_enter Try.func37, Try.ntmps37
  go_wp2
  go_loopw [5, 11] (fun ov x wr => ∃ (j : Nat) (ls : List Nat), j ≤ n ∧ x = .int .i64 j ∧ Hid (ls = partK W i j) ∧ Hid (wr.ownsRow w.heap.size 3 1 ov ls.length (intV (upI ls))) ∧ Hid (Below w.heap.size w wr))
    (fun _ x _ => n - (intOf x).toNat)
  case atStart => exact ⟨0, [], Nat.zero_le _, rfl, rfl, N0.out, Below.refl _ _⟩
  case round =>
    obtain ⟨j, ls, hj, rfl, hls, hrow, hbe⟩ := hrel
    obtain ⟨oa, oc, rfl, _⟩ := row_shape hrow.out
    have hll : ls.length ≤ 60 := by rw [hls.out]; have := partK_le W i j; omega
    by_cases hlt : j < n
    · have hwb := H.out.same (w' := wr) (hbe.out.block b H.out.lt)
      have c1 := hwb.cell i j (by omega) (by omega)
      have c2 := hwb.cell j i (by omega) (by omega)
      have hsw : w.heap.size ≤ wr.heap.size := hbe.out.size
      have hps := partK_succ W i j
      rw [← hls.out] at hps
      obtain ⟨x, hx⟩ : ∃ x, W i j = x := ⟨_, rfl⟩
      obtain ⟨y, hy⟩ : ∃ y, W j i = y := ⟨_, rfl⟩
      rw [hx, hy] at hps
      rw [hx] at c1
      rw [hy] at c2
      have HPS := Lib.hid hps
      clear hx hy hps hwb h0
      by_cases hin : j = i ∨ (x = true ∧ y = true)
      · have HL : Hid (ls ++ [j] = partK W i (j + 1)) := by
          show _ = _
          rw [HPS.out, if_pos (by rcases hin with h | ⟨h, h2⟩ <;> simp [*])]
        by_cases hji : j = i
        · subst hji
          clear hin
          go_wp2_with (at_builtin; refine wpList_append_lies _ rfl (.tmp 37) (.tmp 39) 34 rfl w.heap.size 3 i0 (.int .i64 0) 1 8 Try.underlying34 hi0 hz0 hz1 hz2 rfl (by decide) (.slice oa ls.length oc) ls.length _ rfl (hrow.out.alloc _) ⟨wr.heap.size, 0, none⟩ 1 1 [.int .i64 (j : Int)] rfl rfl (World.news_of_block (heap_alloc_new _ _)) (one_intV [(j : Int)]) (by decide) (by unfold maxLen; omega) (by omega) (by simp; omega) _ rfl ?_)
          intro g1 cap1 w5 hown1 hg1 hat1 hlt1
          have HB5 : Hid (Below w.heap.size w w5) := (hbe.out.alloc hsw _).grown hg1 (by simp; omega) (fun k hk => (hrow.out.lt k hk).1)
          have HR5 : Hid (w5.ownsRow w.heap.size 3 1 (.slice (some ⟨g1, 0, none⟩) (ls.length + 1) cap1) (ls ++ [j]).length (intV (upI (ls ++ [j])))) := by
            show World.ownsRow _ _ _ _ _ _ _
            have := hown1
            simpa [intV, upI] using this
          clear hown1 hg1 hat1 hlt1
          go_wp2
          go_roundw
          case rel => exact ⟨j + 1, ls ++ [j], by omega, by go_num, HL.out, HR5.out, HB5.out⟩
          case measure => simp [intOf]; omega
        · obtain ⟨rfl, rfl⟩ : x = true ∧ y = true := by
            rcases hin with h | h
            · exact absurd h hji
            · exact h
          have hd : ((j : Int) == (i : Int)) = false := by rw [beq_eq_false_iff_ne]; omega
          have hd2 : ¬ (j : Int) = (i : Int) := by omega
          clear hji hin
          go_wp2_with (at_builtin; refine wpList_append_lies _ rfl (.tmp 37) (.tmp 39) 34 rfl w.heap.size 3 i0 (.int .i64 0) 1 8 Try.underlying34 hi0 hz0 hz1 hz2 rfl (by decide) (.slice oa ls.length oc) ls.length _ rfl (hrow.out.alloc _) ⟨wr.heap.size, 0, none⟩ 1 1 [.int .i64 (j : Int)] rfl rfl (World.news_of_block (heap_alloc_new _ _)) (one_intV [(j : Int)]) (by decide) (by unfold maxLen; omega) (by omega) (by simp; omega) _ rfl ?_)
          intro g1 cap1 w5 hown1 hg1 hat1 hlt1
          have HB5 : Hid (Below w.heap.size w w5) := (hbe.out.alloc hsw _).grown hg1 (by simp; omega) (fun k hk => (hrow.out.lt k hk).1)
          have HR5 : Hid (w5.ownsRow w.heap.size 3 1 (.slice (some ⟨g1, 0, none⟩) (ls.length + 1) cap1) (ls ++ [j]).length (intV (upI (ls ++ [j])))) := by
            show World.ownsRow _ _ _ _ _ _ _
            have := hown1
            simpa [intV, upI] using this
          clear hown1 hg1 hat1 hlt1
          go_wp2
          go_roundw
          case rel => exact ⟨j + 1, ls ++ [j], by omega, by go_num, HL.out, HR5.out, HB5.out⟩
          case measure => simp [intOf]; omega
      · have hji : ¬ j = i := fun h => hin (.inl h)
        have hd : ((j : Int) == (i : Int)) = false := by rw [beq_eq_false_iff_ne]; omega
        have hd2 : ¬ (j : Int) = (i : Int) := by omega
        have HL : Hid (ls = partK W i (j + 1)) := by
          show _ = _
          rw [HPS.out, if_neg (by
            intro h
            simp [hji] at h
            exact hin (.inr h)), List.append_nil]
        rcases (by cases x <;> cases y <;> simp at hin ⊢ : x = false ∨ (x = true ∧ y = false)) with rfl | ⟨rfl, rfl⟩
        all_goals
          clear hin hji
          go_wp2
          go_roundw
          case rel => exact ⟨j + 1, ls, by omega, by go_num, HL.out, hrow.out, hbe.out⟩
          case measure => simp [intOf]; omega
    · have HL : Hid (ls = partL W n i) := by
        show _ = _
        rw [hls.out, show j = n from by omega]
        rfl
      have hul := upI_length ls
      go_wp2
      go_ret
      exact ⟨_, rfl, by rw [← HL.out, hul]; exact hrow.out, hbe.out⟩
end Go.Proofs.Ytabpbmifegfmgaa.Trm
