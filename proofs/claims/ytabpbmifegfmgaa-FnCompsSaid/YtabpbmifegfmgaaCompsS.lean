/- The model's CompsOf, walked. Conditions: the arcs lie in memory. -/
import Derived.Test.YtabpbmifegfmgaaCompsI
namespace Go.Proofs.Ytabpbmifegfmgaa.Trm
open Go.RowKit Own
def tlB (t : Nat → Bool) (n : Nat) : List Bool := (List.range n).map t
theorem tlB_len (t : Nat → Bool) (n : Nat) : (tlB t n).length = n := by simp [tlB]
theorem tlB_at (t : Nat → Bool) (n i : Nat) (h : i < (tlB t n).length) : (tlB t n)[i] = t i := by simp [tlB]
theorem tlB_none (n : Nat) : List.replicate n false = tlB (fun _ => false) n := by
  unfold tlB
  apply List.ext_getElem <;> simp
theorem tlB_set (t : Nat → Bool) (n j : Nat) : (tlB t n).set j true = tlB (fun x => t x || decide (x = j)) n := by
  apply List.ext_getElem
  · simp [tlB]
  · intro k h1 h2
    by_cases e : k = j
    · subst e
      rw [List.getElem_set_self]
      simp [tlB]
    · rw [List.getElem_set_ne (fun h => e h.symm)]
      simp [tlB, e]
theorem grown_more {a b c : World} {q r : Option Nat} (h : a.grownBy b q) (k : b.grownBy c r) (hr : ∀ k, r = some k → a.heap.size ≤ k) : a.grownBy c q :=
  ⟨k.os.trans h.os, k.tape.trans h.tape, k.output.trans h.output, Nat.le_trans h.size k.size, fun i hi hq => (k.block i (Nat.lt_of_lt_of_le hi h.size) (fun e => by have := hr i e.symm; omega)).trans (h.block i hi hq)⟩
/-- A row of marks of a call's own. -/
def TollAt (w : World) (q n : Nat) (t : Nat → Bool) : Prop := w.ownsRow q 4 1 (.slice (some ⟨q, 0, none⟩) n n) n (boolV (tlB t n))
theorem TollAt.lt {w : World} {q n : Nat} {t : Nat → Bool} (h : TollAt w q n t) : q < w.heap.size := (World.ownsRow.lt h q rfl).2
theorem TollAt.cell {w : World} {q n : Nat} {t : Nat → Bool} (h : TollAt w q n t) (i : Nat) (hi : i < n) : w.cell? ⟨q, i, none⟩ = some (.bool (t i)) := by
  have := boolV_cell h i (by rw [tlB_len]; exact hi)
  rw [tlB_at] at this
  exact this
theorem TollAt.same {w w' : World} {q n : Nat} {t : Nat → Bool} (h : TollAt w q n t) (hb : w'.heap[q]? = w.heap[q]?) : TollAt w' q n t := row_same h (fun b hb2 => by cases hb2; exact hb)
theorem TollAt.put {w : World} {q n : Nat} {t : Nat → Bool} (h : TollAt w q n t) (j : Nat) : TollAt (w.setCell ⟨q, j, none⟩ (.bool true)) q n (fun x => t x || decide (x = j)) := by
  have := (boolV_set h j true).1
  rw [tlB_set] at this
  exact this
theorem MatAt.but {w w' : World} {base hi n q : Nat} {v : Value} {M : Mat} (h : MatAt w base hi n v M) (hg : w.grownBy w' (some q)) (hq : q < base ∨ hi ≤ q) : MatAt w' base hi n v M :=
  h.same (fun b h1 h2 => hg.block b (by have := h.size.2; omega) (fun e => by injection e with e; omega)) (Nat.le_trans h.size.2 hg.size)
theorem tell_more (t : Nat → Bool) (ls : List Nat) (j : Nat) : (fun x => (t x || decide (x ∈ ls)) || decide (x = j)) = fun x => t x || decide (x ∈ ls ++ [j]) := by
  funext x
  simp only [List.mem_append, List.mem_singleton, Bool.decide_or, Bool.or_assoc]
/-- Whether a node may stand next, as far as one has looked. -/
def FreeK (W : Mat) (t : Nat → Bool) (i j : Nat) : Prop := t i = false ∧ ∀ k, k < j → W i k = true → W k i = true ∨ t k = true
set_option maxRecDepth 20000 in
set_option maxHeartbeats 6400000 in
theorem specComps_any (n : Int) (es : List (Int × Int)) (ok : Bool) (hok : ok = true ↔ GOk n es) (v : Value) (w : World) (hl : ArcsAt w es v) (hn : InI n) :
    Calls Try.prog 13 #[.int .i64 n, v] w (ListL (compsI n es ok) w) := by
  obtain ⟨i0, hi0, hz0, hz1, hz2⟩ := info_parts infoIntsL
  obtain ⟨j0, hj0, jz0, jz1, jz2⟩ := info_parts infoBoolL
  obtain ⟨k0, hk0, kz0, kz1, kz2⟩ := info_parts infoIntL
  have HL := Lib.hid hl
  have L0 := Lib.hid (LOwn.nil (litE0 w 34) (by simp))
  have B0 := Lib.hid ((Below.refl w.heap.size w).alloc (Nat.le_refl _) (.cells #[] 34))
  have CG := Lib.hid (specGraph_any n es v _ (hl.keep (keeps_below B0.out)) hn)
  obtain ⟨aa, cap, rfl, hlen, _, _⟩ := hl
  by_cases hg : GOk n es
  · obtain rfl : ok = true := hok.2 hg
    obtain ⟨m, rfl, hm⟩ := hg.nat
    have HA : Hid (compsI (m : Int) es true = (compsN (wayM m es) m).map upI) := by show _ = _; simp [compsI]
    have CW := Lib.hid (fun w hl => specReachM_any m es (.slice aa es.length cap) w hl hg)
    have HW := Lib.hid (way_ways hg)
    have HG := Lib.hid hg
    obtain ⟨W, hW⟩ : ∃ W, W = wayM m es := ⟨_, rfl⟩
    rw [← hW] at HA CW HW
    clear hg hW hok
    go_enter Try.func13, Try.ntmps13
    go_wp2_with fail
    refine CG.out.mono ?_
    rintro e w1 ⟨b1, rfl, hb1, hw1⟩
    have hbt : b1 = true := hb1.2 HG.out
    subst hbt
    have B1 := Lib.hid (below_box1 hw1)
    have L1 := Lib.hid (RowsOwn.below L0.out hw1)
    have hs1 : w.heap.size < w1.heap.size := by have := hw1.size; simp at this; omega
    clear hb1 hw1
    go_wp2_with fail
    refine (CW.out _ (HL.out.keep (keeps_below B1.out))).mono ?_
    rintro e w2 ⟨mv, mh, rfl, hm2, hb2⟩
    have B2 := Lib.hid (B1.out.trans (hb2.mono B1.out.size))
    have L2 := Lib.hid (RowsOwn.below L1.out hb2)
    have M2 := Lib.hid hm2
    obtain ⟨mb, hmb⟩ : ∃ mb, mb = w1.heap.size := ⟨_, rfl⟩
    rw [← hmb] at M2 hs1
    have hms := M2.out.size
    obtain ⟨hms1, hms2⟩ := hms
    obtain ⟨ma, mc, rfl, hma⟩ := M2.out.shape
    have HMA := Lib.hid hma
    have hs2 := B2.out.size
    clear hm2 hb2 hmb hma CG CW
    go_wp2_with (at_make; refine wpList_make_full _ rfl (.tmp 23) (.tmp 23) 61 rfl w2.heap.size 4 j0 _ 1 Try.underlying61 hj0 jz0 jz1 .i64 .i64 _ _ m rfl rfl rfl rfl (by rw [jz2]; omega) (by unfold maxLen; omega) (Nat.le_refl _) ?_)
    intro w3 hown hg3
    rw [madeB, tlB_none] at hown
    obtain ⟨q, hq⟩ : ∃ q, q = w2.heap.size := ⟨_, rfl⟩
    rw [← hq] at hown hms2 hs2 ⊢
    have T3 : Hid (TollAt w3 q m (fun _ => false)) := hown
    have B3 := Lib.hid (B2.out.grown hg3 B2.out.size (fun b hb => by cases hb))
    have L3 := Lib.hid (RowsOwn.below L2.out (below_none hg3))
    have M3 := Lib.hid (M2.out.below (below_none hg3))
    have S3 := Lib.hid (CSt.start W m)
    have HU0 : Hid (([] : List (List Nat)).length + untold m (fun _ => false) ≤ m) := by
      show _ ≤ _
      have : untold m (fun _ => false) ≤ (List.range m).length := List.countP_le_length
      simp at this ⊢
      exact this
    have hq3 : q < w3.heap.size := T3.out.lt
    have hu1 : untold m (fun _ => false) = m := by
      unfold untold
      rw [List.countP_eq_length.2 (by simp)]
      simp
    have HU1 := Lib.hid hu1
    clear hown hg3 hq hu1
    go_wp2_with fail
    go_loopw [5, 8] (fun ov lv wr => ∃ (t : Nat → Bool) (done : List (List Nat)) (hb : Nat) (cs : List Value), lv = .int .i64 (untold m t : Int) ∧ Hid (CSt W m done t) ∧ Hid (done.length + untold m t ≤ m) ∧ Hid (MatAt wr mb mh m (.slice ma m mc) W) ∧ Hid (TollAt wr q m t) ∧ Hid (LOwn wr w.heap.size hb ov cs (done.map upI)) ∧ Hid (RNot q ov cs) ∧ Hid (∀ c, ov.ownBlock = some c → c < mb ∨ mh ≤ c) ∧ Hid (Below w.heap.size w wr))
      (fun _ lv _ => (intOf lv).toNat)
    case atStart =>
      refine ⟨_, [], _, [], by rw [HU1.out], S3.out, HU0.out, M3.out, T3.out, L3.out, ?_, ?_, B3.out⟩
      · show RNot _ _ _
        unfold RNot
        simp [Value.ownBlock]
        omega
      · intro c hc
        have h9 : w.heap.size = c := by simpa [Value.ownBlock] using hc
        omega
    case round =>
      obtain ⟨t, done, hb, cs, rfl, hst, hcnt, hmat, htol, hlo, hnot, hfar, hbe⟩ := hrel
      obtain ⟨oa, oc, rfl, _⟩ := row_shape hlo.out.row
      rw [List.length_map] at hlo hnot hfar ⊢
      have hdl : done.length ≤ 60 := by have := hcnt.out; omega
      have hum : untold m t ≤ m := by have := hcnt.out; omega
      have hsw : w.heap.size ≤ wr.heap.size := hbe.out.size
      obtain ⟨wo, hwo⟩ : ∃ w0, w0 = wr := ⟨_, rfl⟩
      subst hwo
      by_cases hu0 : untold m t = 0
      · have HE := Lib.hid (hst.out.zero hu0)
        rw [hu0] at *
        go_wp2_with fail
        go_ret
        exact ⟨_, _, _, rfl, by rw [HA.out, ← HE.out]; exact hlo.out, hbe.out⟩
      · have hup : 0 < untold m t := by omega
        have HNX := Lib.hid (next_left HW.out hup)
        have hm0 : 0 < m := by omega
        obtain ⟨mg, rfl⟩ := HMA.out hm0
        obtain ⟨U, hU⟩ : ∃ U, U = untold m t := ⟨_, rfl⟩
        rw [← hU] at hup hum ⊢
        have HU := Lib.hid hU
        clear hU hu0
        go_wp2_with fail
        go_loopw [5, 8, 9] (fun ov lv iv wr => ∃ (i : Nat), i ≤ m ∧ iv = .int .i64 i ∧ ov = .slice oa done.length oc ∧ lv = .int .i64 (U : Int) ∧ Hid (∀ k, k < i → freeB W m t k = false) ∧ wo = wr)
          (fun _ _ iv _ => m - (intOf iv).toNat)
        case atStart => exact ⟨0, Nat.zero_le _, rfl, rfl, rfl, fun k h => by omega, rfl⟩
        case round =>
          obtain ⟨i, hi, rfl, rfl, rfl, hnf, rfl⟩ := hrel
          by_cases him : i < m
          · have c0 := htol.out.cell i him
            obtain ⟨z, hz⟩ : ∃ z, t i = z := ⟨_, rfl⟩
            rw [hz] at c0
            have HF0 : Hid ((!z) = true ↔ FreeK W t i 0) := by
              show _ ↔ _
              unfold FreeK
              rw [hz]
              simp
            clear hz
            go_wp2_with fail
            go_loopw [10, 11] (fun kv jv wr => ∃ (j : Nat) (f : Bool), j ≤ m ∧ jv = .int .i64 j ∧ kv = .bool f ∧ Hid (f = true ↔ FreeK W t i j) ∧ wo = wr)
              (fun _ jv _ => m - (intOf jv).toNat)
            case atStart => exact ⟨0, !z, Nat.zero_le _, rfl, rfl, HF0.out, rfl⟩
            case round =>
              obtain ⟨j, f, hj, rfl, rfl, hf, rfl⟩ := hrel
              cases f with
              | true =>
                by_cases hjm : j < m
                · obtain ⟨r1, q1, d0, d1⟩ := hmat.out.cell i j him hjm
                  obtain ⟨r2, q2, e0, e1⟩ := hmat.out.cell j i hjm him
                  have c3 := htol.out.cell j hjm
                  obtain ⟨x, hx⟩ : ∃ x, W i j = x := ⟨_, rfl⟩
                  obtain ⟨y, hy⟩ : ∃ y, W j i = y := ⟨_, rfl⟩
                  obtain ⟨s, hs⟩ : ∃ s, t j = s := ⟨_, rfl⟩
                  rw [hx] at d1
                  rw [hy] at e1
                  rw [hs] at c3
                  have HF : Hid ((!x || y || s) = true ↔ FreeK W t i (j + 1)) := by
                    show _ ↔ _
                    have h1 := hf.out.1 rfl
                    unfold FreeK at h1 ⊢
                    constructor
                    · intro h2
                      refine ⟨h1.1, fun k hk h3 => ?_⟩
                      rcases Nat.lt_or_ge k j with h4 | h4
                      · exact h1.2 k h4 h3
                      · obtain rfl : k = j := by omega
                        rw [hx] at h3
                        subst h3
                        rw [hy, hs]
                        simpa using h2
                    · rintro ⟨_, h2⟩
                      have h3 := h2 j (by omega)
                      rw [hx, hy, hs] at h3
                      cases x with
                      | false => rfl
                      | true => rcases h3 rfl with h4 | h4 <;> simp [h4]
                  clear hx hy hs c0 hf
                  rcases (by cases x <;> cases y <;> simp : x = false ∨ (x = true ∧ y = true) ∨ (x = true ∧ y = false)) with rfl | ⟨rfl, rfl⟩ | ⟨rfl, rfl⟩
                  all_goals
                    go_wp2_with fail
                    go_roundw
                    case rel => exact ⟨j + 1, _, by omega, by go_num, rfl, HF.out, by first | rfl | trivial⟩
                    case measure => simp [intOf]; omega
                · have hfree : freeB W m t i = true := by
                    have h1 := hf.out.1 rfl
                    exact free_iff.2 ⟨h1.1, fun k hk => h1.2 k (by omega)⟩
                  have hnx := next_some him hfree hnf.out
                  obtain ⟨hst2, hcnt2⟩ := hst.out.step HW.out hnx
                  have hpp := part_pos (W := W) him
                  have hpl1 := partL_le W m i
                  obtain ⟨pl, hpl⟩ : ∃ pl, pl = partL W m i := ⟨_, rfl⟩
                  have HPL := Lib.hid hpl
                  rw [← hpl] at hst2 hcnt2 hpp hpl1
                  have ST2 := Lib.hid hst2
                  have CN2 : Hid ((done ++ [pl]).length + untold m (tellP t pl) ≤ m) := by show _ ≤ _; have := hcnt.out; rw [List.length_append, List.length_singleton]; omega
                  have hless : ((U : Int) - (pl.length : Int)) = ((untold m (tellP t pl) : Nat) : Int) := by have := HU.out; omega
                  have hless2 : untold m (tellP t pl) < U := by have := HU.out; omega
                  have hplU : pl.length ≤ U := by have := HU.out; omega
                  have HLS := Lib.hid hless
                  have P0 := Lib.hid (litE0 wo 3)
                  have G0 := Lib.hid (grown_but (World.grownBy_alloc wo (.cells #[] 3) none) (some q))
                  have T0 : Hid (TollAt (wo.alloc (.cells #[] 3)) q m t) := htol.out.same (heap_alloc_old wo _ htol.out.lt)
                  clear hst2 hcnt2 hpl hnx hfree hf c0 hless
                  go_wp2_with fail
                  go_loopw [12, 13] (fun pv jv wr => ∃ (j : Nat) (ls : List Nat), j ≤ m ∧ jv = .int .i64 j ∧ Hid (ls = partK W i j) ∧ Hid (wr.ownsRow wo.heap.size 3 1 pv ls.length (intV (upI ls))) ∧ Hid (TollAt wr q m (fun x => t x || decide (x ∈ ls))) ∧ Hid (wo.grownBy wr (some q)))
                    (fun _ jv _ => m - (intOf jv).toNat)
                  case atStart => exact ⟨0, [], Nat.zero_le _, rfl, rfl, P0.out, by rw [show (fun x => t x || decide (x ∈ ([] : List Nat))) = t from by funext x; simp]; exact T0.out, G0.out⟩
                  case round =>
                    obtain ⟨j, ls, hj4, rfl, hls, hrow, htl, hgr⟩ := hrel
                    obtain ⟨pa, pc, rfl, _⟩ := row_shape hrow.out
                    have hll : ls.length ≤ 60 := by rw [hls.out]; have := partK_le W i j; omega
                    have hq0 : q < wo.heap.size := htol.out.lt
                    have hsz : wo.heap.size ≤ wr.heap.size := hgr.out.size
                    by_cases hjt : j < m
                    · have hm4 := hmat.out.but hgr.out (.inr hms2)
                      obtain ⟨r1, q1, d0, d1⟩ := hm4.cell i j him hjt
                      obtain ⟨r2, q2, e0, e1⟩ := hm4.cell j i hjt him
                      have hps := partK_succ W i j
                      rw [← hls.out] at hps
                      obtain ⟨x, hx⟩ : ∃ x, W i j = x := ⟨_, rfl⟩
                      obtain ⟨y, hy⟩ : ∃ y, W j i = y := ⟨_, rfl⟩
                      rw [hx, hy] at hps
                      rw [hx] at d1
                      rw [hy] at e1
                      have HPS := Lib.hid hps
                      clear hx hy hps hm4
                      by_cases hin : j = i ∨ (x = true ∧ y = true)
                      · have HL : Hid (ls ++ [j] = partK W i (j + 1)) := by
                          show _ = _
                          rw [HPS.out, if_pos (by rcases hin with h | ⟨h, h2⟩ <;> simp [*])]
                        have fin : ∀ (g1 cap1 : Nat) (w5 : World), w5.ownsRow wo.heap.size 3 1 (.slice (some ⟨g1, 0, none⟩) (ls.length + 1) cap1) (ls.length + 1) (intV (upI ls) ++ [.int .i64 (j : Int)]) → (wr.alloc (.cells #[.int .i64 (j : Int)] 3)).grownBy w5 (Value.slice pa ls.length pc).ownBlock →
                            (TollAt w5 q m (fun x => t x || decide (x ∈ ls))) ∧ w5.ownsRow wo.heap.size 3 1 (.slice (some ⟨g1, 0, none⟩) (ls.length + 1) cap1) (ls ++ [j]).length (intV (upI (ls ++ [j]))) ∧ wo.grownBy w5 (some q) := fun g1 cap1 w5 hown1 hg1 => by
                          have hgn : ∀ k, (Value.slice pa ls.length pc).ownBlock = some k → wo.heap.size ≤ k := fun k hk => (hrow.out.lt k hk).1
                          refine ⟨?_, ?_, ?_⟩
                          · refine htl.out.same ?_
                            exact (hg1.block q (by simp; omega) (fun e => by have := hgn q e.symm; omega)).trans (heap_alloc_old wr _ (by omega))
                          · have := hown1
                            simpa [intV, upI] using this
                          · exact grown_more (grown_more hgr.out (World.grownBy_alloc wr (.cells #[.int .i64 (j : Int)] 3) none) (fun _ h => by cases h)) hg1 hgn
                        have FIN := Lib.hid fin
                        clear fin
                        by_cases hji : j = i
                        · subst hji
                          clear hin
                          go_wp2_with (at_builtin; refine wpList_append_lies _ rfl (.tmp 98) (.tmp 100) 34 rfl wo.heap.size 3 k0 (.int .i64 0) 1 8 Try.underlying34 hk0 kz0 kz1 kz2 rfl (by decide) (.slice pa ls.length pc) ls.length _ rfl (hrow.out.alloc _) ⟨wr.heap.size, 0, none⟩ 1 1 [.int .i64 (j : Int)] rfl rfl (World.news_of_block (heap_alloc_new _ _)) (one_intV [(j : Int)]) (by decide) (by unfold maxLen; omega) (by omega) (by simp; omega) _ rfl ?_)
                          intro g1 cap1 w5 hown1 hg1 hat1 hlt1
                          obtain ⟨t5, r5, g5⟩ := FIN.out g1 cap1 w5 hown1 hg1
                          have c5 := t5.cell j hjt
                          have f5 := t5.frozenAt j
                          have t6 := t5.put j
                          rw [tell_more] at t6
                          have T6 := Lib.hid t6
                          have G6 := Lib.hid (g5.trans (grown_put w5 q j (.bool true)))
                          have R6 := Lib.hid (row_same r5 (w' := w5.setCell ⟨q, j, none⟩ (.bool true)) (fun c hc => (heap_setCell_other w5 _ c _ (fun e => by have := (r5.lt c hc).1; simp at e; omega))))
                          obtain ⟨u9, hu9⟩ : ∃ u9, u9 = Value.bool (t j || decide (j ∈ ls)) := ⟨_, rfl⟩
                          rw [← hu9] at c5
                          clear hown1 hg1 hat1 hlt1 t5 r5 g5 t6 hu9 d0 d1 e0 e1
                          go_wp2_with fail
                          go_roundw
                          case rel => exact ⟨j + 1, ls ++ [j], by omega, by go_num, HL.out, R6.out, T6.out, G6.out⟩
                          case measure => simp [intOf]; omega
                        · obtain ⟨rfl, rfl⟩ : x = true ∧ y = true := by
                            rcases hin with h | h
                            · exact absurd h hji
                            · exact h
                          have hd : ((j : Int) == (i : Int)) = false := by rw [beq_eq_false_iff_ne]; omega
                          have hd2 : ¬ (j : Int) = (i : Int) := by omega
                          clear hji hin
                          go_wp2_with (at_builtin; refine wpList_append_lies _ rfl (.tmp 98) (.tmp 100) 34 rfl wo.heap.size 3 k0 (.int .i64 0) 1 8 Try.underlying34 hk0 kz0 kz1 kz2 rfl (by decide) (.slice pa ls.length pc) ls.length _ rfl (hrow.out.alloc _) ⟨wr.heap.size, 0, none⟩ 1 1 [.int .i64 (j : Int)] rfl rfl (World.news_of_block (heap_alloc_new _ _)) (one_intV [(j : Int)]) (by decide) (by unfold maxLen; omega) (by omega) (by simp; omega) _ rfl ?_)
                          intro g1 cap1 w5 hown1 hg1 hat1 hlt1
                          obtain ⟨t5, r5, g5⟩ := FIN.out g1 cap1 w5 hown1 hg1
                          have c5 := t5.cell j hjt
                          have f5 := t5.frozenAt j
                          have t6 := t5.put j
                          rw [tell_more] at t6
                          have T6 := Lib.hid t6
                          have G6 := Lib.hid (g5.trans (grown_put w5 q j (.bool true)))
                          have R6 := Lib.hid (row_same r5 (w' := w5.setCell ⟨q, j, none⟩ (.bool true)) (fun c hc => (heap_setCell_other w5 _ c _ (fun e => by have := (r5.lt c hc).1; simp at e; omega))))
                          obtain ⟨u9, hu9⟩ : ∃ u9, u9 = Value.bool (t j || decide (j ∈ ls)) := ⟨_, rfl⟩
                          rw [← hu9] at c5
                          clear hown1 hg1 hat1 hlt1 t5 r5 g5 t6 hu9 d0 d1 e0 e1
                          go_wp2_with fail
                          go_roundw
                          case rel => exact ⟨j + 1, ls ++ [j], by omega, by go_num, HL.out, R6.out, T6.out, G6.out⟩
                          case measure => simp [intOf]; omega
                      · have hji : ¬ j = i := fun h => hin (.inl h)
                        have hd : ((j : Int) == (i : Int)) = false := by rw [beq_eq_false_iff_ne]; omega
                        have hd2 : ¬ (j : Int) = (i : Int) := by omega
                        have HL : Hid (ls = partK W i (j + 1)) := by
                          show _ = _
                          rw [HPS.out, if_neg (by
                            intro h
                            simp [hji] at h
                            exact hin (.inr h)), List.append_nil]
                        rcases (by cases x <;> cases y <;> simp at hin ⊢ : x = false ∨ (x = true ∧ y = false)) with rfl | ⟨rfl, rfl⟩
                        all_goals
                          clear hin hji
                          go_wp2_with fail
                          go_roundw
                          case rel => exact ⟨j + 1, ls, by omega, by go_num, HL.out, hrow.out, htl.out, hgr.out⟩
                          case measure => simp [intOf]; omega
                    · obtain rfl : ls = pl := by
                        rw [hls.out, HPL.out, show j = m from by omega]
                        rfl
                      have T6 : Hid (TollAt wr q m (tellP t ls)) := htl.out
                      have L6 : Hid (LOwn wr w.heap.size hb (.slice oa done.length oc) cs (done.map upI)) := RowsOwn.other hlo.out hnot.out hgr.out
                      have M6 := Lib.hid (hmat.out.but hgr.out (.inr hms2))
                      have B6 := Lib.hid (hbe.out.grown hgr.out hbe.out.size (fun c hc => by injection hc with hc; omega))
                      have P6 := hrow
                      have hhw : hb ≤ wo.heap.size := hlo.out.2.1
                      have hoo : (wr.alloc (.cells #[.slice pa ls.length pc] 34)).heap.size = wr.heap.size + 1 := by simp
                      clear hls htl hrow
                      go_wp2_with (at_builtin; refine wpList_append_lies _ rfl (.tmp 109) (.tmp 111) 27 rfl w.heap.size 34 i0 (.slice none 0 0) 1 24 Try.underlying27 hi0 hz0 hz1 hz2 rfl (by decide) (.slice oa done.length oc) done.length _ rfl ((by have := L6.out.row; rw [List.length_map] at this; exact this : wr.ownsRow w.heap.size 34 1 (.slice oa done.length oc) done.length cs).alloc _) ⟨wr.heap.size, 0, none⟩ 1 1 [.slice pa ls.length pc] rfl rfl (World.news_of_block (heap_alloc_new _ _)) (RowsOwn.one (hi := wo.heap.size) (ei := 3) (w := wr) (D := intV (upI ls)) (by rw [intV_length, upI_length]; exact P6.out)) (by decide) (by unfold maxLen; omega) (by omega) (by simp; have := B6.out.size; omega) _ rfl ?_)
                      intro g1 cap1 w8 hown1 hg1 hat1 hlt1
                      have hat2 : (Value.slice (some ⟨g1, 0, none⟩) (done.length + 1) cap1).ownBlock = (Value.slice oa done.length oc).ownBlock ∨ ∀ c, (Value.slice (some ⟨g1, 0, none⟩) (done.length + 1) cap1).ownBlock = some c → (wr.alloc (.cells #[.slice pa ls.length pc] 34)).heap.size ≤ c := by
                        rcases hat1 with h8 | h8
                        · exact .inl h8.symm
                        · refine .inr fun c hc => ?_
                          have h9 : g1 = c := by simpa [Value.ownBlock] using hc
                          rw [← h9, h8]
                          simp
                      have L6a := L6.out.below ((Below.refl _ _).alloc (Nat.le_refl _) (.cells #[.slice pa ls.length pc] 34))
                      have P6a := P6.out.alloc (.cells #[.slice pa ls.length pc] 34)
                      have L8 : Hid (LOwn w8 w.heap.size w8.heap.size (.slice (some ⟨g1, 0, none⟩) (done.length + 1) cap1) (cs ++ [.slice pa ls.length pc]) ((done ++ [ls]).map upI)) := by
                        show LOwn _ _ _ _ _ _
                        rw [List.map_append]
                        refine LOwn.snoc L6a (l := upI ls) ?_ ?_ hg1 hat2
                        · rw [upI_length]; exact P6a.mono hhw
                        · rw [List.length_map]; exact hown1
                      have NO8 : Hid (RNot q (.slice (some ⟨g1, 0, none⟩) (done.length + 1) cap1) (cs ++ [.slice pa ls.length pc])) := hnot.out.snoc (by omega) P6a hat2 (by rw [hoo]; omega)
                      have T8 : Hid (TollAt w8 q m (tellP t ls)) := T6.out.same ((hg1.block q (by rw [hoo]; omega) (fun e => hnot.out.1 q e.symm rfl)).trans (heap_alloc_old wr _ (by omega)))
                      have M8 : Hid (MatAt w8 mb mh m (.slice (some ⟨mg, 0, none⟩) m mc) W) := (M6.out.below ((Below.refl _ _).alloc (Nat.le_refl _) (.cells #[.slice pa ls.length pc] 34))).same (fun c h1 h2 => hg1.block c (by rw [hoo]; omega) (fun e => by have := hfar.out c e.symm; omega)) (by have := hg1.size; rw [hoo] at this; omega)
                      have F8 : Hid (∀ c, (Value.slice (some ⟨g1, 0, none⟩) (done.length + 1) cap1).ownBlock = some c → c < mb ∨ mh ≤ c) := fun c hc => by
                        rcases hat2 with h8 | h8
                        · rw [h8] at hc; exact hfar.out c hc
                        · have := h8 c hc; rw [hoo] at this; omega
                      have B8 : Hid (Below w.heap.size w w8) := (B6.out.alloc B6.out.size _).grown hg1 (by rw [hoo]; have := B6.out.size; omega) (fun c hc => (L6.out.row.lt c hc).1)
                      clear hown1 hg1 hat1 hlt1 hat2 L6a P6a hoo
                      go_wp2_with fail
                      go_roundw
                      case rel => exact ⟨tellP t ls, done ++ [ls], _, _, by rw [← HLS.out], ST2.out, CN2.out, M8.out, T8.out, L8.out, NO8.out, F8.out, B8.out⟩
                      case measure => simp [intOf]; omega
              | false =>
                have hnfree : freeB W m t i = false := by
                  cases h : freeB W m t i with
                  | false => rfl
                  | true =>
                    have h1 := free_iff.1 h
                    exact absurd (hf.out.2 ⟨h1.1, fun k hk => h1.2 k (by omega)⟩) (by simp)
                have HN1 : Hid (∀ k, k < i + 1 → freeB W m t k = false) := fun k hk => by
                  rcases Nat.lt_or_ge k i with h2 | h2
                  · exact hnf.out k h2
                  · obtain rfl : k = i := by omega
                    exact hnfree
                clear hnfree c0
                by_cases hjm : j < m
                · go_wp2_with fail
                  go_roundw
                  case rel => exact ⟨i + 1, by omega, by go_num, rfl, rfl, HN1, by first | rfl | trivial⟩
                  case measure => simp [intOf]; omega
                · go_wp2_with fail
                  go_roundw
                  case rel => exact ⟨i + 1, by omega, by go_num, rfl, rfl, HN1, by first | rfl | trivial⟩
                  case measure => simp [intOf]; omega
          · exfalso
            obtain ⟨i2, h2⟩ := HNX.out
            rw [next_none (fun k hk => hnf.out k (by omega))] at h2
            cases h2
  · have hof : ok = false := by
      cases ok with
      | false => rfl
      | true => exact absurd (hok.1 rfl) hg
    subst hof
    have HA : Hid (compsI n es false = []) := by show _ = _; simp [compsI]
    have HG := Lib.hid hg
    clear hg hok
    go_enter Try.func13, Try.ntmps13
    go_wp2_with fail
    refine CG.out.mono ?_
    rintro e w1 ⟨b1, rfl, hb1, hw1⟩
    have hbt : b1 = false := by
      cases b1 with
      | false => rfl
      | true => exact absurd (hb1.1 rfl) HG.out
    subst hbt
    have B1 := Lib.hid (below_box1 hw1)
    have L1 := Lib.hid (RowsOwn.below L0.out hw1)
    clear hb1 hw1
    go_wp2_with fail
    go_ret
    refine ⟨_, (w.alloc (.cells #[] 34)).heap.size, [], rfl, ?_, B1.out⟩
    rw [HA.out]
    exact L1.out
end Go.Proofs.Ytabpbmifegfmgaa.Trm
