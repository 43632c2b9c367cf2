/- The program's table of ways: how it lies in memory, filled by arcs and turn by turn, walked. Conditions: the graph is right, its arcs lie in memory. -/
import Derived.Test.YtabpbmifegfmgaaCompM
import Derived.Test.YtabpbmifegfmgaaGraph
import Derived.Laws.Tables
import Derived.RegionTactic
namespace Go.Proofs.Ytabpbmifegfmgaa.Trm
open Go.RowKit Own
/-- The table in a block of its own. -/
def WaysAt (w : World) (b n : Nat) (M : Mat) : Prop := ∃ C : Array Value, w.heap[b]? = some (.cells C 67 (0, 0)) ∧ C.size = 3601 ∧ C[0]? = some (.int .i64 (n : Int)) ∧ ∀ i j, i < 60 → j < 60 → C[1 + i * 60 + j]? = some (.bool (M i j))
theorem WaysAt.head {w : World} {b n : Nat} {M : Mat} (h : WaysAt w b n M) : w.cell? ⟨b, 0, none⟩ = some (.int .i64 (n : Int)) := by
  obtain ⟨C, h1, _, h2, _⟩ := h
  rw [cell_of_row w b 0 C _ _ h1, h2]
theorem WaysAt.cell {w : World} {b n : Nat} {M : Mat} (h : WaysAt w b n M) (i j : Nat) (hi : i < 60) (hj : j < 60) : w.cell? ⟨b, 1 + i * 60 + j, none⟩ = some (.bool (M i j)) := by
  obtain ⟨C, h1, _, _, h2⟩ := h
  rw [cell_of_row w b _ C _ _ h1, h2 i j hi hj]
theorem WaysAt.free {w : World} {b n : Nat} {M : Mat} (h : WaysAt w b n M) (k : Nat) : w.frozen? ⟨b, k, none⟩ = false := by
  obtain ⟨C, h1, _⟩ := h
  exact frozen_of_row w b k _ _ h1
theorem WaysAt.lt {w : World} {b n : Nat} {M : Mat} (h : WaysAt w b n M) : b < w.heap.size := cell_lt h.head
theorem WaysAt.same {w w' : World} {b n : Nat} {M : Mat} (h : WaysAt w b n M) (hb : w'.heap[b]? = w.heap[b]?) : WaysAt w' b n M := by
  obtain ⟨C, h1, h2⟩ := h
  exact ⟨C, hb.trans h1, h2⟩
theorem WaysAt.put {w : World} {b n : Nat} {M : Mat} (h : WaysAt w b n M) (i j : Nat) (hi : i < 60) (hj : j < 60) : WaysAt (w.setCell ⟨b, 1 + i * 60 + j, none⟩ (.bool true)) b n (updM M i j) := by
  obtain ⟨C, h1, h2, h3, h4⟩ := h
  refine ⟨C.setIfInBounds (1 + i * 60 + j) (.bool true), heap_setCell_same w b _ _ _ _ h1, by simpa using h2, ?_, fun x y hx hy => ?_⟩
  · rw [Array.getElem?_setIfInBounds_ne (by omega)]; exact h3
  · by_cases e : x = i ∧ y = j
    · obtain ⟨rfl, rfl⟩ := e
      rw [Array.getElem?_setIfInBounds_self_of_lt (by omega)]
      simp [updM]
    · have hne : 1 + i * 60 + j ≠ 1 + x * 60 + y := fun h => e (by constructor <;> omega)
      rw [Array.getElem?_setIfInBounds_ne hne, h4 x y hx hy]
      have : updM M i j x y = M x y := by
        unfold updM
        by_cases e1 : x = i
        · have e2 : y ≠ j := fun h => e ⟨e1, h⟩
          simp [e2]
        · simp [e1]
      rw [this]
theorem grown_put (w : World) (b k : Nat) (v : Value) : w.grownBy (w.setCell ⟨b, k, none⟩ v) (some b) := ⟨rfl, rfl, rfl, by simp, fun i _ hi => heap_setCell_other w ⟨b, k, none⟩ i v (fun e => hi (by simp [e]))⟩
theorem grown_drewR {w w' : World} {r : Option Nat} (h : w.grownBy w' r) : w.grownBy w'.drew r := ⟨h.os, h.tape, h.output, h.size, h.block⟩
/-- Row i goes on as row k does. -/
theorem implGoOn_any (P : Mat) (b n i k : Nat) (w : World) (h : WaysAt w b n (progM P k i 0)) (hi : i < n) (hk : k < n) (hn : n ≤ 60) (hp : P i k = true) :
    Calls Try.prog 56 #[.pointer (some ⟨b, 0, none⟩), .int .i64 (i : Int), .int .i64 (k : Int)] w fun e w' => (∃ u, e = .returned u) ∧ WaysAt w' b n (progM P k i n) ∧ w.grownBy w' (some b) := by
  have H := Lib.hid h
  have h0 := h.head
  have HP := Lib.hid hp
  clear h hp
  go_enter Try.func56, Try.ntmps56
  go_wp2
  go_loopw [11] (fun x wr => ∃ (j : Nat), j ≤ n ∧ x = .int .i64 j ∧ Hid (WaysAt wr b n (progM P k i j)) ∧ Hid (w.grownBy wr (some b)))
    (fun x _ => n - (intOf x).toNat)
  case atStart => exact ⟨0, Nat.zero_le _, rfl, H.out, World.grownBy.refl _ _⟩
  case round =>
    obtain ⟨j, hj, rfl, hw, hg⟩ := hrel
    by_cases hlt : j < n
    · have c1 := hw.out.cell k j (by omega) (by omega)
      rw [progM_from] at c1
      have c2 := hw.out.cell i j (by omega) (by omega)
      have f2 := hw.out.free (1 + i * 60 + j)
      obtain ⟨u, hu⟩ : ∃ u, u = Value.bool (progM P k i j i j) := ⟨_, rfl⟩
      rw [← hu] at c2
      obtain ⟨q, hq⟩ : ∃ q, P k j = q := ⟨_, rfl⟩
      rw [hq] at c1
      clear hu h0
      cases q with
      | true =>
        have HW : Hid (WaysAt (wr.setCell ⟨b, 1 + i * 60 + j, none⟩ (.bool true)) b n (progM P k i (j + 1))) := by
          have := hw.out.put i j (by omega) (by omega)
          rw [progM_put P k i j HP.out hq] at this
          exact this
        have HG := Lib.hid (hg.out.trans (grown_put wr b (1 + i * 60 + j) (.bool true)))
        clear hq
        go_wp2
        go_roundw
        case rel => exact ⟨j + 1, by omega, by go_num, HW, HG⟩
        case measure => simp [intOf]; omega
      | false =>
        have HW : Hid (WaysAt wr b n (progM P k i (j + 1))) := by
          have := hw.out
          rw [progM_pass P k i j hq] at this
          exact this
        clear hq
        go_wp2
        go_roundw
        case rel => exact ⟨j + 1, by omega, by go_num, HW, hg⟩
        case measure => simp [intOf]; omega
    · obtain rfl : j = n := by omega
      go_wp2
      go_end0
      exact ⟨⟨_, rfl⟩, hw.out, hg.out⟩
/-- A list of cells with nothing marked. -/
def bigC (n : Nat) : Array Value := ⟨Value.int .i64 (n : Int) :: List.replicate 3600 (Value.bool false)⟩
theorem bigC_size (n : Nat) : (bigC n).size = 3601 := by
  show (Value.int .i64 (n : Int) :: List.replicate 3600 (Value.bool false)).length = 3601
  rw [List.length_cons, List.length_replicate]
theorem WaysAt.new (w : World) (n : Nat) : WaysAt (w.alloc (.cells (bigC n) 67)) w.heap.size n (fun _ _ => false) := by
  refine ⟨bigC n, heap_alloc_new w _, bigC_size n, by unfold bigC; rw [List.getElem?_toArray]; exact List.getElem?_cons_zero, fun i j hi hj => ?_⟩
  have h : i * 60 + j < 3600 := by omega
  unfold bigC
  rw [List.getElem?_toArray, show 1 + i * 60 + j = (i * 60 + j) + 1 from by omega, List.getElem?_cons_succ, List.getElem?_replicate, if_pos h]
def wayM (n : Nat) (es : List (Int × Int)) : Mat := warK (arcM es) n
theorem sup_arc {n : Nat} {es : List (Int × Int)} (h : GOk (n : Int) es) : Sup n (arcM es) := by
  intro a b hab
  unfold arcM at hab
  rw [List.any_eq_true] at hab
  obtain ⟨e, he, h2⟩ := hab
  simp only [Bool.and_eq_true, decide_eq_true_eq] at h2
  obtain ⟨i, hi, rfl⟩ := List.mem_iff_getElem.1 he
  have h3 := h.2.2.2 i hi
  unfold ArcOk at h3
  omega
theorem way_ways {n : Nat} {es : List (Int × Int)} (h : GOk (n : Int) es) : Ways n (wayM n es) := war_ways (sup_arc h)
section
variable {P : Program}
theorem wpList_build_one {ops : Array Oper} {rest : List Oper} {o : Oper} {a : Act} {w : World} {Q : Exit → Act → World → Prop} (hgd : o.guard = none) (t : TypeId) (x : Operand) (ho : o.op = .build t #[(0, x)])
    (u v : Value) (hx : a.eval x = u) (hr : (Instr.build t #[(0, u)]).run P w = .ok v w) (h : wpList P ops Q rest (a.put o.dst v) w) : wpList P ops Q (o :: rest) a w :=
  wpList_plain hgd fun _ hK => by
    unfold Oper.wp execOp
    simp only [ho, List.map_toArray, List.map_cons, List.map_nil, hx, Sem.run_bind, hr, Result.andThen_ok]
    exact hK _ _ h
theorem wpList_box_run {ops : Array Oper} {rest : List Oper} {o : Oper} {a : Act} {w w' : World} {Q : Exit → Act → World → Prop} (hgd : o.guard = none) (t : TypeId) (x : Operand) (ho : o.op = .box t x)
    (v : Value) (hr : (Instr.box t (a.eval x)).run P w = .ok v w') (h : wpList P ops Q rest (a.put o.dst v) w') : wpList P ops Q (o :: rest) a w :=
  wpList_plain hgd fun _ hK => by
    unfold Oper.wp execOp
    simp only [ho, Sem.run_bind, hr, Result.andThen_ok]
    exact hK _ _ h
theorem wpList_alloc_run {ops : Array Oper} {rest : List Oper} {o : Oper} {a : Act} {w w' : World} {Q : Exit → Act → World → Prop} (hgd : o.guard = none) (t : TypeId) (ho : o.op = .alloc t)
    (v : Value) (hr : (Instr.alloc t true (.tuple #[])).run P w = .ok v w') (h : wpList P ops Q rest (a.put o.dst v) w') : wpList P ops Q (o :: rest) a w :=
  wpList_plain hgd fun _ hK => by
    unfold Oper.wp execOp
    simp only [ho, Sem.run_bind, hr, Result.andThen_ok]
    exact hK _ _ h
end
set_option maxRecDepth 100000 in
theorem run_bigBuild (n : Nat) (w : World) : (Instr.build 67 #[(0, .int .i64 (n : Int))]).run Try.prog w = .ok (.agg (bigC n)) w := by kernel_rfl
set_option maxRecDepth 100000 in
theorem run_bigBox (n : Nat) (w : World) : (Instr.box 67 (.agg (bigC n))).run Try.prog w = .ok (.pointer (some ⟨w.heap.size, 0, none⟩)) (w.alloc (.cells (bigC n) 67)) := by kernel_rfl
theorem WaysAt.drew {w : World} {b n : Nat} {M : Mat} (h : WaysAt w b n M) : WaysAt w.drew b n M := h
theorem WaysAt.alloc {w : World} {b n : Nat} {M : Mat} (h : WaysAt w b n M) (o : Obj) : WaysAt (w.alloc o) b n M := h.same (heap_alloc_old w o h.lt)
set_option maxRecDepth 20000 in
set_option maxHeartbeats 3200000 in
theorem implWaysOf_any (n : Nat) (es : List (Int × Int)) (v : Value) (w : World) (hl : ArcsAt w es v) (hg : GOk (n : Int) es) :
    Calls Try.prog 35 #[.int .i64 (n : Int), v] w fun e w' => e = .returned (.pointer (some ⟨w.heap.size, 0, none⟩)) ∧ WaysAt w' w.heap.size n (wayM n es) ∧ Below w.heap.size w w' := by
  obtain ⟨aa, cap, rfl, hlen, _, hk⟩ := hl
  have HK := Lib.hid hk
  have hn : n ≤ 60 := by have := hg.2.1; omega
  have HOK := Lib.hid hg.2.2.2
  have HS := Lib.hid (sup_arc hg)
  have HR1 := Lib.hid (fun W => run_bigBuild n W)
  have HR2 := Lib.hid (fun W => run_bigBox n W)
  have W0 := Lib.hid (WaysAt.new w n)
  have B0 := Lib.hid ((Below.refl w.heap.size w).alloc (Nat.le_refl _) (.cells (bigC n) 67))
  clear hk hg
  go_enter Try.func35, Try.ntmps35
  go_wp2_with (first
    | (refine wpList_build_one rfl 67 (.tmp 10) rfl (.int .i64 (n : Int)) (.agg (bigC n)) rfl (HR1.out _) ?_)
    | (refine wpList_box_run rfl 67 (.tmp 11) rfl _ (HR2.out _) ?_))
  go_outline
  go_loopw [15] (fun i wr => ∃ (k : Nat), k ≤ es.length ∧ i = .int .i64 k ∧ Hid (WaysAt wr w.heap.size n (arcM (es.take k))) ∧ Hid (Below w.heap.size w wr))
    (fun i _ => es.length - (intOf i).toNat)
  case atStart => exact ⟨0, Nat.zero_le _, rfl, W0.out, B0.out⟩
  case round =>
    obtain ⟨k, hk, rfl, hw, hbe⟩ := hrel
    by_cases hlt : k < es.length
    · obtain ⟨g, o, rfl, hc⟩ := HK.out (by omega)
      have c0 := keeps_below hbe.out _ _ (hc k hlt).1
      have c1 := keeps_below hbe.out _ _ (hc k hlt).2
      have hok := HOK.out k hlt
      unfold ArcOk at hok
      obtain ⟨x, hx⟩ : ∃ x : Nat, es[k].1 = (x : Int) := ⟨es[k].1.toNat, by omega⟩
      obtain ⟨y, hy⟩ : ∃ y : Nat, es[k].2 = (y : Int) := ⟨es[k].2.toNat, by omega⟩
      have HT : Hid (arcM (es.take (k + 1)) = updM (arcM (es.take k)) x y) := by
        show _ = _
        rw [List.take_succ_eq_append_getElem hlt, show es[k] = ((x : Int), (y : Int)) from Prod.ext hx hy, arcM_snoc]
      rw [hx] at c0 hok
      rw [hy] at c1 hok
      have hx60 : x < 60 := by omega
      have hy60 : y < 60 := by omega
      have hlw := hw.out.lt
      have d0 := (hw.out.alloc (.cells #[.int .i64 (x : Int), .int .i64 (y : Int)] 51)).cell x y hx60 hy60
      have f0 := (hw.out.alloc (.cells #[.int .i64 (x : Int), .int .i64 (y : Int)] 51)).free (1 + x * 60 + y)
      have HA : Hid (WaysAt ((wr.alloc (.cells #[.int .i64 (x : Int), .int .i64 (y : Int)] 51)).setCell ⟨w.heap.size, 1 + x * 60 + y, none⟩ (.bool true)) w.heap.size n (arcM (es.take (k + 1)))) := by
        show WaysAt _ _ _ _
        rw [HT.out]
        exact (hw.out.alloc _).put x y hx60 hy60
      have HB2 : Hid (Below w.heap.size w ((wr.alloc (.cells #[.int .i64 (x : Int), .int .i64 (y : Int)] 51)).setCell ⟨w.heap.size, 1 + x * 60 + y, none⟩ (.bool true))) := (hbe.out.alloc hbe.out.size _).setCell (Nat.le_refl _) _
      have e1 : ((wr.alloc (.cells #[.int .i64 (x : Int), .int .i64 (y : Int)] 51)).setCell ⟨w.heap.size, 1 + x * 60 + y, none⟩ (.bool true)) = ((wr.setCell ⟨w.heap.size, 1 + x * 60 + y, none⟩ (.bool true)).alloc (.cells #[.int .i64 (x : Int), .int .i64 (y : Int)] 51)) := World.setCell_alloc_past _ _ _ _ hlw
      have E1 := Lib.hid e1
      clear hc hok hx hy e1
      go_wp2
      go_region
      all_goals
        go_wp2
        go_roundw
        case rel => exact ⟨k + 1, by omega, by go_num, by first | exact HA.out | (rw [← E1.out]; exact HA.out) | (show WaysAt _ _ _ _; rw [← E1.out]; exact HA.out), by first | exact HB2.out.drew | (rw [← E1.out]; exact HB2.out.drew) | (show Below _ _ _; rw [← E1.out]; exact HB2.out.drew)⟩
        case measure => simp [intOf]; omega
    · have W1 : Hid (WaysAt wr w.heap.size n (warK (arcM es) 0)) := by
        have := hw.out
        rw [List.take_of_length_le (by omega)] at this
        exact this
      obtain ⟨wo, hwo⟩ : ∃ w0, w0 = wr := ⟨_, rfl⟩
      subst hwo
      have B1 := hbe
      clear hw hbe
      go_wp2
      go_loopw [30] (fun i wr => ∃ (m : Nat), m ≤ n ∧ i = .int .i64 m ∧ Hid (WaysAt wr w.heap.size n (warK (arcM es) m)) ∧ Hid (Below w.heap.size w wr))
        (fun i _ => n - (intOf i).toNat)
      case atStart => exact ⟨0, Nat.zero_le _, rfl, W1.out, B1.out⟩
      case round =>
        obtain ⟨m, hm, rfl, hw, hbe⟩ := hrel
        by_cases hmt : m < n
        · obtain ⟨w5, hw5⟩ : ∃ w0, w0 = wr := ⟨_, rfl⟩
          subst hw5
          have HP0 : Hid (WaysAt w5 w.heap.size n (progM (warK (arcM es) m) m 0 0)) := by
            show WaysAt _ _ _ _
            rw [progM_start]
            exact hw.out
          have HBE := hbe
          clear hw hbe
          go_wp2
          go_loopw [34] (fun i wr => ∃ (a : Nat), a ≤ n ∧ i = .int .i64 a ∧ Hid (WaysAt wr w.heap.size n (progM (warK (arcM es) m) m a 0)) ∧ Hid (Below w.heap.size w wr))
            (fun i _ => n - (intOf i).toNat)
          case atStart => exact ⟨0, Nat.zero_le _, rfl, HP0.out, HBE.out⟩
          case round =>
            obtain ⟨a, ha, rfl, hw, hbe⟩ := hrel
            by_cases hat : a < n
            · have c0 := hw.out.cell a m (by omega) (by omega)
              rw [progM_in] at c0
              obtain ⟨q, hq⟩ : ∃ q, warK (arcM es) m a m = q := ⟨_, rfl⟩
              rw [hq] at c0
              cases q with
              | true =>
                have C := Lib.hid (implGoOn_any (warK (arcM es) m) w.heap.size n a m wr hw.out hat hmt hn hq)
                clear hq
                go_wp2_with fail
                refine C.out.mono ?_
                rintro e w7 ⟨⟨u, rfl⟩, hw7, hg7⟩
                have HW7 : Hid (WaysAt w7 w.heap.size n (progM (warK (arcM es) m) m (a + 1) 0)) := by
                  have := hw7
                  rw [progM_row (HS.out.war m)] at this
                  exact this
                have HB7 := Lib.hid (hbe.out.grown hg7 hbe.out.size (fun b hb => by cases hb; exact Nat.le_refl _))
                clear hw7 hg7
                go_wp2_with fail
                go_roundw
                case rel => exact ⟨a + 1, by omega, by go_num, HW7, HB7⟩
                case measure => simp [intOf]; omega
              | false =>
                have HW7 : Hid (WaysAt wr w.heap.size n (progM (warK (arcM es) m) m (a + 1) 0)) := by
                  have := hw.out
                  rw [progM_skip _ _ _ hq] at this
                  exact this
                clear hq
                go_wp2_with fail
                go_roundw
                case rel => exact ⟨a + 1, by omega, by go_num, HW7, hbe⟩
                case measure => simp [intOf]; omega
            · obtain rfl : a = n := by omega
              have HW7 : Hid (WaysAt wr w.heap.size a (warK (arcM es) (m + 1))) := by
                have := hw.out
                rw [progM_turn HS.out] at this
                exact this
              go_wp2_with fail
              go_roundw
              case rel => exact ⟨m + 1, by omega, by go_num, HW7, hbe⟩
              case measure => simp [intOf]; omega
        · obtain rfl : m = n := by omega
          go_wp2_with fail
          go_ret
          exact ⟨rfl, hw.out, hbe.out⟩
end Go.Proofs.Ytabpbmifegfmgaa.Trm
