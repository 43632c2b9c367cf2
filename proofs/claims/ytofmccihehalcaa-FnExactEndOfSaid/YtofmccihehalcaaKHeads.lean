/- The model's l08Heads, walked. Conditions: the code lies in memory. -/
import Derived.Test.YtofmccihehalcaaKIn
import Derived.Test.YtofmccihehalcaaKProc
import Derived.Test.YtofmccihehalcaaUnkTwice
import Derived.Test.YtofmccihehalcaaPlaceImpl
import Derived.Test.YtofmccihehalcaaRegSeq
import Derived.Deep.RegionHeld3
namespace Go.Proofs.Ytofmccihehalcaa.Trm
open Go.RowKit Own
set_option maxRecDepth 20000 in
set_option maxHeartbeats 16000000 in
theorem specHeads_any (x : KTree) (v : Value) (w : World) (hl : KIn w x v) :
    Calls Try.prog 24 #[v] w fun e w' => e = .returned (.bool (kHeads x)) ∧ Below w.heap.size w w' := by
  obtain ⟨ga, gc, la, lc, pa, pc, ea, ec, ia, ic, rfl, h1, h2, h3, h4, h5, hc1, hc2, hc3⟩ := hl
  obtain ⟨n, hn⟩ : ∃ n, n = x.ins.length := ⟨_, rfl⟩
  have HNL := Lib.hid hn
  rw [← hn] at h5 ⊢
  have C1 := Lib.hid (fun w hk => specNames_any x.globals 6 (.slice ga x.globals.length gc) w (by omega) (h1.keep hk))
  have C2 := Lib.hid (fun w hk => specNames_any x.locks 6 (.slice la x.locks.length lc) w (by omega) (h2.keep hk))
  have C3 := Lib.hid (fun w hk => specNames_any x.procs 8 (.slice pa x.procs.length pc) w (by omega) (h3.keep hk))
  have T1 := Lib.hid (fun w hk => specTwice_any x.globals (.slice ga x.globals.length gc) w (h1.1.keep hk) ⟨_, _, rfl, hc1⟩)
  have T2 := Lib.hid (fun w hk => specTwice_any x.locks (.slice la x.locks.length lc) w (h2.1.keep hk) ⟨_, _, rfl, hc2⟩)
  have T3 := Lib.hid (fun w hk => specTwice_any x.procs (.slice pa x.procs.length pc) w (h3.1.keep hk) ⟨_, _, rfl, hc3⟩)
  have CM := Lib.hid (fun w hk => specPlace_any x.procs mainB (.slice pa x.procs.length pc) w (h3.1.keep hk))
  have H4 := Lib.hid h4
  have H5 := Lib.hid h5
  have X0 := Lib.hid (Box5.new w (.slice ga x.globals.length gc) (.slice la x.locks.length lc) (.slice pa x.procs.length pc) (.slice ea x.entry.length ec) (.slice ia n ic) 31)
  have B0 := Lib.hid ((Below.refl w.heap.size w).alloc (Nat.le_refl _) (.cells #[.slice ga x.globals.length gc, .slice la x.locks.length lc, .slice pa x.procs.length pc, .slice ea x.entry.length ec, .slice ia n ic] 31))
  have K0 := Lib.hid (keeps_alloc w (.cells #[.slice ga x.globals.length gc, .slice la x.locks.length lc, .slice pa x.procs.length pc, .slice ea x.entry.length ec, .slice ia n ic] 31))
  have HE : Hid (kHeads x = (okNs x.globals 6 && (okNs x.locks 6 && (okNs x.procs 8 && (!twiceB x.globals && (!twiceB x.locks && (!twiceB x.procs && (decide (x.entry.length = x.procs.length) && (decide (n ≤ 1500) && (@decide (mainB ∈ x.procs) (Classical.propDecidable _) && @decide (EntOk x.entry x.ins) (Classical.propDecidable _))))))))))) := by show _ = _; rw [hn]; unfold kHeads; congr
  clear h1 h2 h3 h4 h5 hc1 hc2 hc3 hn
  generalize kHeads x = rr at HE
  generalize okNs x.globals 6 = r1 at HE C1
  generalize okNs x.locks 6 = r2 at HE C2
  generalize okNs x.procs 8 = r3 at HE C3
  generalize twiceB x.globals = t1 at HE T1
  generalize twiceB x.locks = t2 at HE T2
  generalize twiceB x.procs = t3 at HE T3
  obtain ⟨p0, p1, p2, p3, p4⟩ := X0.out
  obtain ⟨W0, hW0⟩ : ∃ W, W = w.alloc (.cells #[.slice ga x.globals.length gc, .slice la x.locks.length lc, .slice pa x.procs.length pc, .slice ea x.entry.length ec, .slice ia n ic] 31) := ⟨_, rfl⟩
  have HW0 := Lib.hid hW0
  rw [← hW0] at X0 B0 K0
  clear hW0
  go_enter Try.func24, Try.ntmps24
  go_wp2_with fail
  rw [← HW0.out] at p0 p1 p2 p3 p4 ⊢
  refine (C1.out _ K0.out).mono ?_
  rintro e w1 ⟨rfl, rfl⟩
  by_cases hr0 : r1 = false
  · have HF : Hid (rr = false) := by show _ = _; rw [HE.out, hr0]; simp
    subst hr0
    go_wp2_with fail
    go_ret
    exact ⟨ret_b (by rw [HF.out]), B0.out⟩
  have hs0 : r1 = true := by cases r1 <;> simp_all
  subst hs0
  clear hr0
  go_wp2_with fail
  refine (C2.out _ K0.out).mono ?_
  rintro e w2 ⟨rfl, rfl⟩
  by_cases hr1 : r2 = false
  · have HF : Hid (rr = false) := by show _ = _; rw [HE.out, hr1]; simp
    subst hr1
    go_wp2_with fail
    go_ret
    exact ⟨ret_b (by rw [HF.out]), B0.out⟩
  have hs1 : r2 = true := by cases r2 <;> simp_all
  subst hs1
  clear hr1
  go_wp2_with fail
  refine (C3.out _ K0.out).mono ?_
  rintro e w3 ⟨rfl, rfl⟩
  by_cases hr2 : r3 = false
  · have HF : Hid (rr = false) := by show _ = _; rw [HE.out, hr2]; simp
    subst hr2
    go_wp2_with fail
    go_ret
    exact ⟨ret_b (by rw [HF.out]), B0.out⟩
  have hs2 : r3 = true := by cases r3 <;> simp_all
  subst hs2
  clear hr2
  go_wp2_with fail
  refine (T1.out _ K0.out).mono ?_
  rintro e W1 ⟨rfl, hb⟩
  have B1 := Lib.hid (B0.out.trans (hb.mono B0.out.size))
  have X1 := Lib.hid (X0.out.keep (keeps_below hb))
  have K1 := Lib.hid (keeps_below B1.out)
  clear hb p0 p1 p2 p3 p4
  obtain ⟨p0, p1, p2, p3, p4⟩ := X1.out
  by_cases hr3 : t1 = true
  · have HF : Hid (rr = false) := by show _ = _; rw [HE.out, hr3]; simp
    subst hr3
    go_wp2_with fail
    go_ret
    exact ⟨ret_b (by rw [HF.out]), B1.out⟩
  have hs3 : t1 = false := by cases t1 <;> simp_all
  subst hs3
  clear hr3
  go_wp2_with fail
  refine (T2.out _ K1.out).mono ?_
  rintro e W2 ⟨rfl, hb⟩
  have B2 := Lib.hid (B1.out.trans (hb.mono B1.out.size))
  have X2 := Lib.hid (X1.out.keep (keeps_below hb))
  have K2 := Lib.hid (keeps_below B2.out)
  clear hb p0 p1 p2 p3 p4
  obtain ⟨p0, p1, p2, p3, p4⟩ := X2.out
  by_cases hr4 : t2 = true
  · have HF : Hid (rr = false) := by show _ = _; rw [HE.out, hr4]; simp
    subst hr4
    go_wp2_with fail
    go_ret
    exact ⟨ret_b (by rw [HF.out]), B2.out⟩
  have hs4 : t2 = false := by cases t2 <;> simp_all
  subst hs4
  clear hr4
  go_wp2_with fail
  refine (T3.out _ K2.out).mono ?_
  rintro e W3 ⟨rfl, hb⟩
  have B3 := Lib.hid (B2.out.trans (hb.mono B2.out.size))
  have X3 := Lib.hid (X2.out.keep (keeps_below hb))
  have K3 := Lib.hid (keeps_below B3.out)
  clear hb p0 p1 p2 p3 p4
  obtain ⟨p0, p1, p2, p3, p4⟩ := X3.out
  by_cases hr5 : t3 = true
  · have HF : Hid (rr = false) := by show _ = _; rw [HE.out, hr5]; simp
    subst hr5
    go_wp2_with fail
    go_ret
    exact ⟨ret_b (by rw [HF.out]), B3.out⟩
  have hs5 : t3 = false := by cases t3 <;> simp_all
  subst hs5
  clear hr5
  have HE2 : Hid (rr = (decide (x.entry.length = x.procs.length) && (decide (n ≤ 1500) && (@decide (mainB ∈ x.procs) (Classical.propDecidable _) && @decide (EntOk x.entry x.ins) (Classical.propDecidable _))))) := by show _ = _; rw [HE.out]; simp
  clear HE
  by_cases hel : x.entry.length = x.procs.length
  rotate_left
  · have HF : Hid (rr = false) := by show _ = _; rw [HE2.out]; simp [hel]
    have hel2 : ¬ (x.entry.length : Int) = (x.procs.length : Int) := by omega
    go_wp2_with fail
    go_ret
    exact ⟨ret_b (by rw [HF.out]), B3.out⟩
  by_cases hil : n ≤ 1500
  rotate_left
  · have HF : Hid (rr = false) := by show _ = _; rw [HE2.out]; simp [hil]
    have hil2 : (1500 : Int) < (n : Int) := by omega
    have hel2 : (x.entry.length : Int) = (x.procs.length : Int) := by omega
    clear hel
    go_wp2_with fail
    go_ret
    exact ⟨ret_b (by rw [HF.out]), B3.out⟩
  have hil2 : ¬ (1500 : Int) < (n : Int) := by omega
  have hel2 : (x.entry.length : Int) = (x.procs.length : Int) := by omega
  have HEL := Lib.hid hel
  clear hel
  go_wp2_with fail
  refine (CM.out _ K3.out).mono ?_
  rintro e W4 ⟨z, rfl, hz, rfl⟩
  have HZ := Lib.hid (idxI_neg hz)
  clear hz
  by_cases hm : mainB ∈ x.procs
  rotate_left
  · have HF : Hid (rr = false) := by show _ = _; rw [HE2.out]; simp [hm]
    have hz : z < 0 := HZ.out.2 hm
    clear hm
    go_wp2_with fail
    go_ret
    exact ⟨ret_b (by rw [HF.out]), B3.out⟩
  have hz : ¬ z < 0 := fun h => HZ.out.1 h hm
  have HR : Hid (rr = @decide (EntOk x.entry x.ins) (Classical.propDecidable _)) := by show _ = _; rw [HE2.out]; simp [HEL.out, hil, hm]
  have HT : Hid (Ris x.entry n → (∀ (q : Nat) (hq : q < x.ins.length), (x.ins[q].op = 9 ↔ ((∃ (p : Nat) (h : p < x.entry.length), x.entry[p] = (q : Int) + 1) ∨ q + 1 = n))) → rr = true) := fun h h2 => by
    have hn := HNL.out
    subst hn
    have h3 : EntOk x.entry x.ins := ⟨h, h2⟩
    rw [HR.out]; simp [h3]
  have HN : Hid (¬ Ris x.entry n → rr = false) := fun h => by
    have hn := HNL.out
    subst hn
    have h3 : ¬ EntOk x.entry x.ins := fun h4 => h h4.1
    rw [HR.out]; simp [h3]
  have HN2 : Hid (∀ (q : Nat) (hq : q < x.ins.length), ¬ (x.ins[q].op = 9 ↔ ((∃ (p : Nat) (h : p < x.entry.length), x.entry[p] = (q : Int) + 1) ∨ q + 1 = n)) → rr = false) := fun q hq h => by
    have hn := HNL.out
    subst hn
    have h3 : ¬ EntOk x.entry x.ins := fun h4 => h (h4.2 q hq)
    rw [HR.out]; simp [h3]
  have hpos : 0 < x.entry.length := by rw [HEL.out]; exact List.length_pos_of_mem hm
  have HPOS := Lib.hid hpos
  have hilb : n ≤ 9223372036854775807 := by omega
  have hilB := Lib.hid hilb
  clear HR HE2 hm p0 p1 p2 p3 p4 hpos hilb hil HZ HEL C1 C2 C3 T1 T2 T3 CM X0 X1 X2 B0 B1 B2 K0 K1 K2 K3
  go_wp2_with fail
  clear hel2 hil2 hz
  go_loopw [3] (fun i wr => ∃ (j : Nat), j ≤ x.entry.length ∧ i = .int .i64 j ∧ Hid (∀ q, q < j → GoodE x.entry n q) ∧ Hid (Box5 wr w.heap.size (.slice ga x.globals.length gc) (.slice la x.locks.length lc) (.slice pa x.procs.length pc) (.slice ea x.entry.length ec) (.slice ia n ic)) ∧ Hid (Below w.heap.size w wr))
    (fun i _ => x.entry.length - (intOf i).toNat)
  case atStart => exact ⟨0, Nat.zero_le _, rfl, fun q h => by omega, X3.out, B3.out⟩
  case round =>
    obtain ⟨j, hj, rfl, hgood, hbx, hbe⟩ := hrel
    obtain ⟨p0, p1, p2, p3, p4⟩ := hbx.out
    by_cases hlt : j < x.entry.length
    · have HI := Lib.hid (H4.out.keep (keeps_below hbe.out))
      obtain ⟨a2, c2, e2, hmx, _, hk⟩ := HI.out
      simp at e2
      obtain ⟨rfl, rfl⟩ := e2
      obtain ⟨g, o, rfl, hc⟩ := hk (by omega)
      match j, hlt, hj, hgood with
      | 0, hlt, hj, hgood =>
        have c0 := hc 0 hlt
        rw [Nat.add_zero] at c0
        obtain ⟨z0, hz0⟩ : ∃ z0, z0 = x.entry[0] := ⟨_, rfl⟩
        rw [← hz0] at c0
        have HZ0 := Lib.hid hz0
        clear hc hk hz0
        by_cases hq : z0 = 0
        · subst hq
          by_cases hn : (n : Int) ≤ 0
          · have HF : Hid (rr = false) := HN.out (fun h => by have := h.below hlt; rw [← HZ0.out] at this; omega)
            go_wp2_with fail
            (try dsimp only [List.append])
            refine RegSeq.seq_begin (S := fun wx => wx.cell? ⟨w.heap.size, 3, none⟩ = some (.slice (some ⟨g, o, none⟩) x.entry.length ec) ∧ wx.cell? ⟨w.heap.size, 4, none⟩ = some (.slice ia n ic) ∧ wx.cell? ⟨g, o, none⟩ = some (.int .i64 0)) (by kernel_rfl) (by kernel_rfl) (by kernel_rfl) (⟨p3, p4, c0⟩) (fun hHeld => ?_)
            iterate 10 (((refine RegSeq.Seq.take' (v := ?_) (by rfl) (by kernel_rfl) ?_ hHeld ?_; rotate_left; (focus ((intro w hSw; (try dsimp only at hSw); go_simp) <;> with_reducible rfl))); simp only [Act.put, List.setIfInBounds_toArray, List.set_cons_zero, List.set_cons_succ, Nat.reduceAdd]))
            iterate 3 (((refine RegSeq.Seq.take' (v := ?_) (by rfl) (by kernel_rfl) ?_ hHeld ?_; rotate_left; (focus ((intro w hSw; (try dsimp only at hSw); go_simp) <;> with_reducible rfl))); simp only [Act.put, List.setIfInBounds_toArray, List.set_cons_zero, List.set_cons_succ, Nat.reduceAdd]))
            (refine RegSeq.Seq.skips hHeld [77, 78, 79, 80, 81, 82, 83, 84, 85, 86, 87, 88] _ _ (by kernel_rfl) ?_; simp only [RegSeq.skipped, List.length_cons, List.length_nil]; simp only [Act.put, List.setIfInBounds_toArray, List.set_cons_zero, List.set_cons_succ, Nat.reduceAdd])
            iterate 3 (((refine RegSeq.Seq.take' (v := ?_) (by rfl) (by kernel_rfl) ?_ hHeld ?_; rotate_left; (focus ((intro w hSw; (try dsimp only at hSw); go_simp) <;> with_reducible rfl))); simp only [Act.put, List.setIfInBounds_toArray, List.set_cons_zero, List.set_cons_succ, Nat.reduceAdd]))
            iterate 9 (((refine RegSeq.Seq.take' (v := ?_) (by rfl) (by kernel_rfl) ?_ hHeld ?_; rotate_left; (focus ((intro w hSw; (try dsimp only at hSw); go_simp) <;> with_reducible rfl))); simp only [Act.put, List.setIfInBounds_toArray, List.set_cons_zero, List.set_cons_succ, Nat.reduceAdd]))
            ((refine RegSeq.Seq.take' (v := ?_) (by rfl) (by kernel_rfl) ?_ hHeld ?_; rotate_left; (focus ((intro w hSw; (try dsimp only at hSw); go_simp) <;> with_reducible rfl))); simp only [Act.put, List.setIfInBounds_toArray, List.set_cons_zero, List.set_cons_succ, Nat.reduceAdd])
            refine RegSeq.Seq.done (by kernel_rfl) ?_
            clear hHeld
            go_wp2_with fail
            go_ret
            exact ⟨ret_b (by rw [HF.out]), hbe.out.drew⟩
          · have HG : Hid (∀ q, q < 0 + 1 → GoodE x.entry n q) := fun q h => by
              obtain rfl : q = 0 := by omega
              exact ⟨hlt, fun _ => HZ0.out.symm, fun m h => by omega, by rw [← HZ0.out]; omega⟩
            go_wp2_with fail
            (try dsimp only [List.append])
            refine RegSeq.seq_begin (S := fun wx => wx.cell? ⟨w.heap.size, 3, none⟩ = some (.slice (some ⟨g, o, none⟩) x.entry.length ec) ∧ wx.cell? ⟨w.heap.size, 4, none⟩ = some (.slice ia n ic) ∧ wx.cell? ⟨g, o, none⟩ = some (.int .i64 0)) (by kernel_rfl) (by kernel_rfl) (by kernel_rfl) (⟨p3, p4, c0⟩) (fun hHeld => ?_)
            iterate 10 (((refine RegSeq.Seq.take' (v := ?_) (by rfl) (by kernel_rfl) ?_ hHeld ?_; rotate_left; (focus ((intro w hSw; (try dsimp only at hSw); go_simp) <;> with_reducible rfl))); simp only [Act.put, List.setIfInBounds_toArray, List.set_cons_zero, List.set_cons_succ, Nat.reduceAdd]))
            iterate 3 (((refine RegSeq.Seq.take' (v := ?_) (by rfl) (by kernel_rfl) ?_ hHeld ?_; rotate_left; (focus ((intro w hSw; (try dsimp only at hSw); go_simp) <;> with_reducible rfl))); simp only [Act.put, List.setIfInBounds_toArray, List.set_cons_zero, List.set_cons_succ, Nat.reduceAdd]))
            (refine RegSeq.Seq.skips hHeld [77, 78, 79, 80, 81, 82, 83, 84, 85, 86, 87, 88] _ _ (by kernel_rfl) ?_; simp only [RegSeq.skipped, List.length_cons, List.length_nil]; simp only [Act.put, List.setIfInBounds_toArray, List.set_cons_zero, List.set_cons_succ, Nat.reduceAdd])
            iterate 3 (((refine RegSeq.Seq.take' (v := ?_) (by rfl) (by kernel_rfl) ?_ hHeld ?_; rotate_left; (focus ((intro w hSw; (try dsimp only at hSw); go_simp) <;> with_reducible rfl))); simp only [Act.put, List.setIfInBounds_toArray, List.set_cons_zero, List.set_cons_succ, Nat.reduceAdd]))
            iterate 9 (((refine RegSeq.Seq.take' (v := ?_) (by rfl) (by kernel_rfl) ?_ hHeld ?_; rotate_left; (focus ((intro w hSw; (try dsimp only at hSw); go_simp) <;> with_reducible rfl))); simp only [Act.put, List.setIfInBounds_toArray, List.set_cons_zero, List.set_cons_succ, Nat.reduceAdd]))
            ((refine RegSeq.Seq.take' (v := ?_) (by rfl) (by kernel_rfl) ?_ hHeld ?_; rotate_left; (focus ((intro w hSw; (try dsimp only at hSw); go_simp) <;> with_reducible rfl))); simp only [Act.put, List.setIfInBounds_toArray, List.set_cons_zero, List.set_cons_succ, Nat.reduceAdd])
            refine RegSeq.Seq.done (by kernel_rfl) ?_
            clear hHeld
            go_wp2_with fail
            go_roundw
            case rel => exact ⟨1, by omega, by go_num, HG.out, hbx.out.keep (keeps_drew _), hbe.out.drew⟩
            case measure => simp [intOf]; omega
        · have HF : Hid (rr = false) := HN.out (fun h => hq (by have := h.2.1; rw [← HZ0.out] at this; exact this))
          have hq1 : (z0 != 0) = true := by rw [bne_iff_ne]; exact hq
          clear hq
          go_wp2_with fail
          (try dsimp only [List.append])
          refine RegSeq.seq_begin (S := fun wx => wx.cell? ⟨w.heap.size, 3, none⟩ = some (.slice (some ⟨g, o, none⟩) x.entry.length ec) ∧ wx.cell? ⟨w.heap.size, 4, none⟩ = some (.slice ia n ic) ∧ wx.cell? ⟨g, o, none⟩ = some (.int .i64 z0)) (by kernel_rfl) (by kernel_rfl) (by kernel_rfl) (⟨p3, p4, c0⟩) (fun hHeld => ?_)
          iterate 10 (((refine RegSeq.Seq.take' (v := ?_) (by rfl) (by kernel_rfl) ?_ hHeld ?_; rotate_left; (focus ((intro w hSw; (try dsimp only at hSw); go_simp) <;> with_reducible rfl))); simp only [Act.put, List.setIfInBounds_toArray, List.set_cons_zero, List.set_cons_succ, Nat.reduceAdd]))
          (refine RegSeq.Seq.skips hHeld [74, 75, 76, 77, 78, 79, 80, 81, 82, 83, 84, 85, 86, 87, 88, 89] _ _ (by kernel_rfl) ?_; simp only [RegSeq.skipped, List.length_cons, List.length_nil]; simp only [Act.put, List.setIfInBounds_toArray, List.set_cons_zero, List.set_cons_succ, Nat.reduceAdd])
          iterate 2 (((refine RegSeq.Seq.take' (v := ?_) (by rfl) (by kernel_rfl) ?_ hHeld ?_; rotate_left; (focus ((intro w hSw; (try dsimp only at hSw); go_simp) <;> with_reducible rfl))); simp only [Act.put, List.setIfInBounds_toArray, List.set_cons_zero, List.set_cons_succ, Nat.reduceAdd]))
          (refine RegSeq.Seq.skips hHeld [92, 93, 94, 95, 96, 97, 98, 99, 100] _ _ (by kernel_rfl) ?_; simp only [RegSeq.skipped, List.length_cons, List.length_nil]; simp only [Act.put, List.setIfInBounds_toArray, List.set_cons_zero, List.set_cons_succ, Nat.reduceAdd])
          ((refine RegSeq.Seq.take' (v := ?_) (by rfl) (by kernel_rfl) ?_ hHeld ?_; rotate_left; (focus ((intro w hSw; (try dsimp only at hSw); go_simp) <;> with_reducible rfl))); simp only [Act.put, List.setIfInBounds_toArray, List.set_cons_zero, List.set_cons_succ, Nat.reduceAdd])
          refine RegSeq.Seq.done (by kernel_rfl) ?_
          clear hHeld
          go_wp2_with fail
          go_ret
          exact ⟨ret_b (by rw [HF.out]), hbe.out.drew⟩
      | m + 1, hlt, hj, hgood =>
        have c0 := hc (m + 1) hlt
        have c1 := hc m (by omega)
        obtain ⟨z0, hz0⟩ : ∃ z0, z0 = x.entry[m + 1] := ⟨_, rfl⟩
        obtain ⟨z1, hz1⟩ : ∃ z0, z0 = x.entry[m] := ⟨_, rfl⟩
        rw [← hz0] at c0
        rw [← hz1] at c1
        have HZ0 := Lib.hid hz0
        have HZ1 := Lib.hid hz1
        have e1 : ((m + 1 : Nat) : Int) - 1 = (m : Int) := by omega
        have e0 : (((m + 1 : Nat) : Int) == 0) = false := by rw [beq_eq_false_iff_ne]; omega
        have e3 : (0 : Int) < ((m + 1 : Nat) : Int) := by omega
        have hlt1 : m < x.entry.length := by omega
        have e4 : (0 : Int) ≤ (m : Int) + 1 := by omega
        have e5 : ¬ ((m : Int) + 1 = 0) := by omega
        have ew : IntKind.i64.wrap (m : Int) = (m : Int) := IntWalk.i64_in _ (by omega)
        clear hc hk hz0 hz1
        by_cases hq : z0 ≤ z1
        · have HF : Hid (rr = false) := HN.out (fun h => by have := h.lt (Nat.lt_succ_self m) hlt; rw [← HZ0.out, ← HZ1.out] at this; omega)
          go_wp2_with fail
          (try dsimp only [List.append])
          refine RegSeq.seq_begin (S := fun wx => wx.cell? ⟨w.heap.size, 3, none⟩ = some (.slice (some ⟨g, o, none⟩) x.entry.length ec) ∧ wx.cell? ⟨w.heap.size, 4, none⟩ = some (.slice ia n ic) ∧ wx.cell? ⟨g, o + (m + 1), none⟩ = some (.int .i64 z0) ∧ wx.cell? ⟨g, o + m, none⟩ = some (.int .i64 z1)) (by kernel_rfl) (by kernel_rfl) (by kernel_rfl) (⟨p3, p4, c0, c1⟩) (fun hHeld => ?_)
          iterate 3 (((refine RegSeq.Seq.take' (v := ?_) (by rfl) (by kernel_rfl) ?_ hHeld ?_; rotate_left; (focus ((intro w hSw; (try dsimp only at hSw); go_simp) <;> with_reducible rfl))); simp only [Act.put, List.setIfInBounds_toArray, List.set_cons_zero, List.set_cons_succ, Nat.reduceAdd]))
          (refine RegSeq.Seq.skips hHeld [67, 68, 69, 70, 71] _ _ (by kernel_rfl) ?_; simp only [RegSeq.skipped, List.length_cons, List.length_nil]; simp only [Act.put, List.setIfInBounds_toArray, List.set_cons_zero, List.set_cons_succ, Nat.reduceAdd])
          iterate 2 (((refine RegSeq.Seq.take' (v := ?_) (by rfl) (by kernel_rfl) ?_ hHeld ?_; rotate_left; (focus ((intro w hSw; (try dsimp only at hSw); go_simp) <;> with_reducible rfl))); simp only [Act.put, List.setIfInBounds_toArray, List.set_cons_zero, List.set_cons_succ, Nat.reduceAdd]))
          iterate 3 (((refine RegSeq.Seq.take' (v := ?_) (by rfl) (by kernel_rfl) ?_ hHeld ?_; rotate_left; (focus ((intro w hSw; (try dsimp only at hSw); go_simp) <;> with_reducible rfl))); simp only [Act.put, List.setIfInBounds_toArray, List.set_cons_zero, List.set_cons_succ, Nat.reduceAdd]))
          iterate 12 (((refine RegSeq.Seq.take' (v := ?_) (by rfl) (by kernel_rfl) ?_ hHeld ?_; rotate_left; (focus ((intro w hSw; (try dsimp only at hSw); go_simp) <;> with_reducible rfl))); simp only [Act.put, List.setIfInBounds_toArray, List.set_cons_zero, List.set_cons_succ, Nat.reduceAdd]))
          iterate 3 (((refine RegSeq.Seq.take' (v := ?_) (by rfl) (by kernel_rfl) ?_ hHeld ?_; rotate_left; (focus ((intro w hSw; (try dsimp only at hSw); go_simp) <;> with_reducible rfl))); simp only [Act.put, List.setIfInBounds_toArray, List.set_cons_zero, List.set_cons_succ, Nat.reduceAdd]))
          (refine RegSeq.Seq.skips hHeld [92, 93, 94, 95, 96, 97, 98, 99, 100] _ _ (by kernel_rfl) ?_; simp only [RegSeq.skipped, List.length_cons, List.length_nil]; simp only [Act.put, List.setIfInBounds_toArray, List.set_cons_zero, List.set_cons_succ, Nat.reduceAdd])
          ((refine RegSeq.Seq.take' (v := ?_) (by rfl) (by kernel_rfl) ?_ hHeld ?_; rotate_left; (focus ((intro w hSw; (try dsimp only at hSw); go_simp) <;> with_reducible rfl))); simp only [Act.put, List.setIfInBounds_toArray, List.set_cons_zero, List.set_cons_succ, Nat.reduceAdd])
          refine RegSeq.Seq.done (by kernel_rfl) ?_
          clear hHeld
          go_wp2_with fail
          go_ret
          exact ⟨ret_b (by rw [HF.out]), hbe.out.drew⟩
        · have hqd : decide (z0 ≤ z1) = false := decide_eq_false hq
          by_cases hn : (n : Int) ≤ z0
          · have HF : Hid (rr = false) := HN.out (fun h => by have := h.below hlt; rw [← HZ0.out] at this; omega)
            go_wp2_with fail
            (try dsimp only [List.append])
            refine RegSeq.seq_begin (S := fun wx => wx.cell? ⟨w.heap.size, 3, none⟩ = some (.slice (some ⟨g, o, none⟩) x.entry.length ec) ∧ wx.cell? ⟨w.heap.size, 4, none⟩ = some (.slice ia n ic) ∧ wx.cell? ⟨g, o + (m + 1), none⟩ = some (.int .i64 z0) ∧ wx.cell? ⟨g, o + m, none⟩ = some (.int .i64 z1)) (by kernel_rfl) (by kernel_rfl) (by kernel_rfl) (⟨p3, p4, c0, c1⟩) (fun hHeld => ?_)
            iterate 3 (((refine RegSeq.Seq.take' (v := ?_) (by rfl) (by kernel_rfl) ?_ hHeld ?_; rotate_left; (focus ((intro w hSw; (try dsimp only at hSw); go_simp) <;> with_reducible rfl))); simp only [Act.put, List.setIfInBounds_toArray, List.set_cons_zero, List.set_cons_succ, Nat.reduceAdd]))
            (refine RegSeq.Seq.skips hHeld [67, 68, 69, 70, 71] _ _ (by kernel_rfl) ?_; simp only [RegSeq.skipped, List.length_cons, List.length_nil]; simp only [Act.put, List.setIfInBounds_toArray, List.set_cons_zero, List.set_cons_succ, Nat.reduceAdd])
            iterate 2 (((refine RegSeq.Seq.take' (v := ?_) (by rfl) (by kernel_rfl) ?_ hHeld ?_; rotate_left; (focus ((intro w hSw; (try dsimp only at hSw); go_simp) <;> with_reducible rfl))); simp only [Act.put, List.setIfInBounds_toArray, List.set_cons_zero, List.set_cons_succ, Nat.reduceAdd]))
            iterate 3 (((refine RegSeq.Seq.take' (v := ?_) (by rfl) (by kernel_rfl) ?_ hHeld ?_; rotate_left; (focus ((intro w hSw; (try dsimp only at hSw); go_simp) <;> with_reducible rfl))); simp only [Act.put, List.setIfInBounds_toArray, List.set_cons_zero, List.set_cons_succ, Nat.reduceAdd]))
            iterate 12 (((refine RegSeq.Seq.take' (v := ?_) (by rfl) (by kernel_rfl) ?_ hHeld ?_; rotate_left; (focus ((intro w hSw; (try dsimp only at hSw); go_simp) <;> with_reducible rfl))); simp only [Act.put, List.setIfInBounds_toArray, List.set_cons_zero, List.set_cons_succ, Nat.reduceAdd]))
            iterate 3 (((refine RegSeq.Seq.take' (v := ?_) (by rfl) (by kernel_rfl) ?_ hHeld ?_; rotate_left; (focus ((intro w hSw; (try dsimp only at hSw); go_simp) <;> with_reducible rfl))); simp only [Act.put, List.setIfInBounds_toArray, List.set_cons_zero, List.set_cons_succ, Nat.reduceAdd]))
            iterate 9 (((refine RegSeq.Seq.take' (v := ?_) (by rfl) (by kernel_rfl) ?_ hHeld ?_; rotate_left; (focus ((intro w hSw; (try dsimp only at hSw); go_simp) <;> with_reducible rfl))); simp only [Act.put, List.setIfInBounds_toArray, List.set_cons_zero, List.set_cons_succ, Nat.reduceAdd]))
            ((refine RegSeq.Seq.take' (v := ?_) (by rfl) (by kernel_rfl) ?_ hHeld ?_; rotate_left; (focus ((intro w hSw; (try dsimp only at hSw); go_simp) <;> with_reducible rfl))); simp only [Act.put, List.setIfInBounds_toArray, List.set_cons_zero, List.set_cons_succ, Nat.reduceAdd])
            refine RegSeq.Seq.done (by kernel_rfl) ?_
            clear hHeld
            go_wp2_with fail
            go_ret
            exact ⟨ret_b (by rw [HF.out]), hbe.out.drew⟩
          · have HG : Hid (∀ q, q < m + 1 + 1 → GoodE x.entry n q) := fun q h => by
              rcases Nat.lt_or_ge q (m + 1) with h1 | h1
              · exact hgood.out q h1
              · obtain rfl : q = m + 1 := by omega
                refine ⟨hlt, fun e => by omega, fun m2 h => ?_, by rw [← HZ0.out]; omega⟩
                obtain rfl : m2 = m := by omega
                rw [← HZ0.out, ← HZ1.out]; omega
            go_wp2_with fail
            (try dsimp only [List.append])
            refine RegSeq.seq_begin (S := fun wx => wx.cell? ⟨w.heap.size, 3, none⟩ = some (.slice (some ⟨g, o, none⟩) x.entry.length ec) ∧ wx.cell? ⟨w.heap.size, 4, none⟩ = some (.slice ia n ic) ∧ wx.cell? ⟨g, o + (m + 1), none⟩ = some (.int .i64 z0) ∧ wx.cell? ⟨g, o + m, none⟩ = some (.int .i64 z1)) (by kernel_rfl) (by kernel_rfl) (by kernel_rfl) (⟨p3, p4, c0, c1⟩) (fun hHeld => ?_)
            iterate 3 (((refine RegSeq.Seq.take' (v := ?_) (by rfl) (by kernel_rfl) ?_ hHeld ?_; rotate_left; (focus ((intro w hSw; (try dsimp only at hSw); go_simp) <;> with_reducible rfl))); simp only [Act.put, List.setIfInBounds_toArray, List.set_cons_zero, List.set_cons_succ, Nat.reduceAdd]))
            (refine RegSeq.Seq.skips hHeld [67, 68, 69, 70, 71] _ _ (by kernel_rfl) ?_; simp only [RegSeq.skipped, List.length_cons, List.length_nil]; simp only [Act.put, List.setIfInBounds_toArray, List.set_cons_zero, List.set_cons_succ, Nat.reduceAdd])
            iterate 2 (((refine RegSeq.Seq.take' (v := ?_) (by rfl) (by kernel_rfl) ?_ hHeld ?_; rotate_left; (focus ((intro w hSw; (try dsimp only at hSw); go_simp) <;> with_reducible rfl))); simp only [Act.put, List.setIfInBounds_toArray, List.set_cons_zero, List.set_cons_succ, Nat.reduceAdd]))
            iterate 3 (((refine RegSeq.Seq.take' (v := ?_) (by rfl) (by kernel_rfl) ?_ hHeld ?_; rotate_left; (focus ((intro w hSw; (try dsimp only at hSw); go_simp) <;> with_reducible rfl))); simp only [Act.put, List.setIfInBounds_toArray, List.set_cons_zero, List.set_cons_succ, Nat.reduceAdd]))
            iterate 12 (((refine RegSeq.Seq.take' (v := ?_) (by rfl) (by kernel_rfl) ?_ hHeld ?_; rotate_left; (focus ((intro w hSw; (try dsimp only at hSw); go_simp) <;> with_reducible rfl))); simp only [Act.put, List.setIfInBounds_toArray, List.set_cons_zero, List.set_cons_succ, Nat.reduceAdd]))
            iterate 3 (((refine RegSeq.Seq.take' (v := ?_) (by rfl) (by kernel_rfl) ?_ hHeld ?_; rotate_left; (focus ((intro w hSw; (try dsimp only at hSw); go_simp) <;> with_reducible rfl))); simp only [Act.put, List.setIfInBounds_toArray, List.set_cons_zero, List.set_cons_succ, Nat.reduceAdd]))
            iterate 9 (((refine RegSeq.Seq.take' (v := ?_) (by rfl) (by kernel_rfl) ?_ hHeld ?_; rotate_left; (focus ((intro w hSw; (try dsimp only at hSw); go_simp) <;> with_reducible rfl))); simp only [Act.put, List.setIfInBounds_toArray, List.set_cons_zero, List.set_cons_succ, Nat.reduceAdd]))
            ((refine RegSeq.Seq.take' (v := ?_) (by rfl) (by kernel_rfl) ?_ hHeld ?_; rotate_left; (focus ((intro w hSw; (try dsimp only at hSw); go_simp) <;> with_reducible rfl))); simp only [Act.put, List.setIfInBounds_toArray, List.set_cons_zero, List.set_cons_succ, Nat.reduceAdd])
            refine RegSeq.Seq.done (by kernel_rfl) ?_
            clear hHeld
            go_wp2_with fail
            go_roundw
            case rel => exact ⟨m + 1 + 1, by omega, by go_num, HG.out, hbx.out.keep (keeps_drew _), hbe.out.drew⟩
            case measure => simp [intOf]; omega
    · have HRIS : Hid (Ris x.entry n) := ris_of HPOS.out (fun q h => hgood.out q (by omega))
      obtain ⟨w5, hw5⟩ : ∃ w0, w0 = wr := ⟨_, rfl⟩
      subst hw5
      go_wp2_with fail
      clear p0 p1 p2 p3 p4
      go_loopw [4] (fun i wr => ∃ (j : Nat), j ≤ n ∧ i = .int .i64 j ∧ Hid (∀ (q : Nat) (hq : q < x.ins.length), q < j → (x.ins[q].op = 9 ↔ ((∃ (p : Nat) (h : p < x.entry.length), x.entry[p] = (q : Int) + 1) ∨ q + 1 = n))) ∧ Hid (Box5 wr w.heap.size (.slice ga x.globals.length gc) (.slice la x.locks.length lc) (.slice pa x.procs.length pc) (.slice ea x.entry.length ec) (.slice ia n ic)) ∧ Hid (Below w.heap.size w wr))
        (fun i _ => n - (intOf i).toNat)
      case atStart => exact ⟨0, Nat.zero_le _, rfl, fun q _ h => by omega, hbx.out, hbe.out⟩
      case round =>
        obtain ⟨k, hk, rfl, hiff, hbx, hbe⟩ := hrel
        obtain ⟨p0, p1, p2, p3, p4⟩ := hbx.out
        by_cases hlt : k < n
        · have hlt2 : k < x.ins.length := by have := HNL.out; omega
          obtain ⟨_, a2, c2, e2, hk5⟩ := H5.out.keep (keeps_below hbe.out)
          simp at e2
          obtain ⟨rfl, hnn, rfl⟩ := e2
          clear hnn
          obtain ⟨g, o, rfl, hc⟩ := hk5 (by omega)
          obtain ⟨_, _, _, ta, tc, c0, _⟩ := hc k hlt2
          have CP : Hid (∀ wx, Below wr.heap.size wr wx → Calls Try.prog 37 #[.agg #[.slice ga x.globals.length gc, .slice la x.locks.length lc, .slice pa x.procs.length pc, .slice ea x.entry.length ec, .slice (some ⟨g, o, none⟩) n ic], .int .i64 (k : Int)] wx fun e w' => ∃ p : Nat, e = .returned (.int .i64 (p : Int)) ∧ IsP x.entry (k : Int) p ∧ Below wr.heap.size wr w') := fun wx hb =>
            (specKProc_any x.entry _ _ _ _ ea ec n (k : Int) wx ((H4.out.keep (keeps_below hbe.out)).keep (keeps_below hb)) HRIS.out (by omega)).mono fun e w' ⟨p, he, hp, h⟩ => ⟨p, he, hp, hb.trans (h.mono hb.size)⟩
          have CE : Hid (∀ (p : Nat) wx, p < x.entry.length → Below wr.heap.size wr wx → Calls Try.prog 14 #[.agg #[.slice ga x.globals.length gc, .slice la x.locks.length lc, .slice pa x.procs.length pc, .slice ea x.entry.length ec, .slice (some ⟨g, o, none⟩) n ic], .int .i64 (p : Int)] wx fun e w' => ∃ z, e = .returned (.int .i64 z) ∧ z = endI x.entry n p ∧ Below wr.heap.size wr w') := fun p wx hp hb =>
            (specKEnd_any x.entry _ _ _ ea _ ec n _ p wx ((H4.out.keep (keeps_below hbe.out)).keep (keeps_below hb)) HRIS.out hp hilB.out).mono fun e w' ⟨z, he, hz, h⟩ => ⟨z, he, hz, hb.trans (h.mono hb.size)⟩
          have KS : Hid (∀ wx, Below wr.heap.size wr wx → wx.cell? ⟨w.heap.size, 0, none⟩ = some (.slice ga x.globals.length gc) ∧ wx.cell? ⟨w.heap.size, 1, none⟩ = some (.slice la x.locks.length lc) ∧ wx.cell? ⟨w.heap.size, 2, none⟩ = some (.slice pa x.procs.length pc) ∧ wx.cell? ⟨w.heap.size, 3, none⟩ = some (.slice ea x.entry.length ec) ∧ wx.cell? ⟨w.heap.size, 4, none⟩ = some (.slice (some ⟨g, o, none⟩) n ic) ∧ wx.cell? ⟨g, o + k * 7, none⟩ = some (.int .i64 x.ins[k].op) ∧ Below wr.heap.size wr wx) := fun wx hb => by
            have hk := keeps_below hb
            exact ⟨hk _ _ p0, hk _ _ p1, hk _ _ p2, hk _ _ p3, hk _ _ p4, hk _ _ c0, hb⟩
          have b0 : Below wr.heap.size wr wr.drew := (Below.refl _ _).drew
          have HQ : Hid (∀ (p : Nat) (z : Int), IsP x.entry (k : Int) p → z = endI x.entry n p → (z = (k : Int) ↔ ((∃ (p : Nat) (h : p < x.entry.length), x.entry[p] = (k : Int) + 1) ∨ k + 1 = n))) := fun p z hp hz => by
            rw [hz]; exact endI_eq HRIS.out hlt hp
          have HNE : Hid (¬ (x.ins[k].op = 9 ↔ ((∃ (p : Nat) (h : p < x.entry.length), x.entry[p] = (k : Int) + 1) ∨ k + 1 = n)) → rr = false) := fun h => HN2.out k hlt2 h
          have HYE : Hid ((x.ins[k].op = 9 ↔ ((∃ (p : Nat) (h : p < x.entry.length), x.entry[p] = (k : Int) + 1) ∨ k + 1 = n)) → ∀ (q : Nat) (hq : q < x.ins.length), q < k + 1 → (x.ins[q].op = 9 ↔ ((∃ (p : Nat) (h : p < x.entry.length), x.entry[p] = (q : Int) + 1) ∨ q + 1 = n))) := fun h q hq h1 => by
            rcases Nat.lt_or_ge q k with h2 | h2
            · exact hiff.out q hq h2
            · obtain rfl : q = k := by omega
              exact h
          generalize ((∃ (p : Nat) (h : p < x.entry.length), x.entry[p] = (k : Int) + 1) ∨ k + 1 = n) = EN at HQ HNE HYE
          obtain ⟨op, hop⟩ : ∃ op, op = x.ins[k].op := ⟨_, rfl⟩
          rw [← hop] at KS HNE HYE
          have HOP := Lib.hid hop
          clear hc hk5 c0 hop
          by_cases h9 : op = 9
          · by_cases hen : EN
            · subst h9
              go_wp2_with fail
              clear p0 p1 p2 p3 p4
              go_region_held3 (fun wx => wx.cell? ⟨w.heap.size, 0, none⟩ = some (.slice ga x.globals.length gc) ∧ wx.cell? ⟨w.heap.size, 1, none⟩ = some (.slice la x.locks.length lc) ∧ wx.cell? ⟨w.heap.size, 2, none⟩ = some (.slice pa x.procs.length pc) ∧ wx.cell? ⟨w.heap.size, 3, none⟩ = some (.slice ea x.entry.length ec) ∧ wx.cell? ⟨w.heap.size, 4, none⟩ = some (.slice (some ⟨g, o, none⟩) n ic) ∧ wx.cell? ⟨g, o + k * 7, none⟩ = some (.int .i64 9) ∧ Below wr.heap.size wr wx)
                (exact KS.out _ (by assumption))
                (first
                | (go_at_call 37; (with_reducible refine (CP.out _ (by assumption)).mono ?_); rintro e w1 ⟨p, rfl, hp, b1⟩; have HP := Lib.hid hp; clear hp)
                | (go_at_call 14; (with_reducible refine (CE.out _ _ HP.out.lt (by assumption)).mono ?_); rintro e w2 ⟨z2, rfl, hz2, b2⟩; have hq2 := (HQ.out _ z2 HP.out hz2).2 hen; clear hz2; subst hq2))
              all_goals
                have HY := Lib.hid (HYE.out (by simp [hen]))
                have HB2 := Lib.hid (hbe.out.trans (b2.mono hbe.out.size))
                have HX2 := Lib.hid (hbx.out.keep (keeps_below b2))
                clear b1 b2
                go_wp2_with fail
                go_roundw
                case rel => exact ⟨k + 1, by omega, by go_num, HY.out, HX2.out, HB2.out⟩
                case measure => simp [intOf]; omega
            · subst h9
              go_wp2_with fail
              clear p0 p1 p2 p3 p4
              go_region_held3 (fun wx => wx.cell? ⟨w.heap.size, 0, none⟩ = some (.slice ga x.globals.length gc) ∧ wx.cell? ⟨w.heap.size, 1, none⟩ = some (.slice la x.locks.length lc) ∧ wx.cell? ⟨w.heap.size, 2, none⟩ = some (.slice pa x.procs.length pc) ∧ wx.cell? ⟨w.heap.size, 3, none⟩ = some (.slice ea x.entry.length ec) ∧ wx.cell? ⟨w.heap.size, 4, none⟩ = some (.slice (some ⟨g, o, none⟩) n ic) ∧ wx.cell? ⟨g, o + k * 7, none⟩ = some (.int .i64 9) ∧ Below wr.heap.size wr wx)
                (exact KS.out _ (by assumption))
                (first
                | (go_at_call 37; (with_reducible refine (CP.out _ (by assumption)).mono ?_); rintro e w1 ⟨p, rfl, hp, b1⟩; have HP := Lib.hid hp; clear hp)
                | (go_at_call 14; (with_reducible refine (CE.out _ _ HP.out.lt (by assumption)).mono ?_); rintro e w2 ⟨z2, rfl, hz2, b2⟩; have hq2 : ¬ z2 = (k : Int) := fun h => hen ((HQ.out _ z2 HP.out hz2).1 h); clear hz2; have hq3 := ne_true hq2; clear hq2))
              all_goals
                have HF : Hid (rr = false) := HNE.out (by simp [hen])
                have HB2 := Lib.hid (hbe.out.trans (b2.mono hbe.out.size))
                clear b1 b2
                go_wp2_with fail
                go_ret
                exact ⟨ret_b (by rw [HF.out]), HB2.out⟩
          · by_cases hen : EN
            · have h91 := ne_true h9
              go_wp2_with fail
              clear p0 p1 p2 p3 p4
              go_region_held3 (fun wx => wx.cell? ⟨w.heap.size, 0, none⟩ = some (.slice ga x.globals.length gc) ∧ wx.cell? ⟨w.heap.size, 1, none⟩ = some (.slice la x.locks.length lc) ∧ wx.cell? ⟨w.heap.size, 2, none⟩ = some (.slice pa x.procs.length pc) ∧ wx.cell? ⟨w.heap.size, 3, none⟩ = some (.slice ea x.entry.length ec) ∧ wx.cell? ⟨w.heap.size, 4, none⟩ = some (.slice (some ⟨g, o, none⟩) n ic) ∧ wx.cell? ⟨g, o + k * 7, none⟩ = some (.int .i64 op) ∧ Below wr.heap.size wr wx)
                (exact KS.out _ (by assumption))
                (first
                | (go_at_call 37; (with_reducible refine (CP.out _ (by assumption)).mono ?_); rintro e w1 ⟨p, rfl, hp, b1⟩; have HP := Lib.hid hp; clear hp)
                | (go_at_call 14; (with_reducible refine (CE.out _ _ HP.out.lt (by assumption)).mono ?_); rintro e w2 ⟨z2, rfl, hz2, b2⟩; have hq2 := (HQ.out _ z2 HP.out hz2).2 hen; clear hz2; subst hq2))
              all_goals
                have HF : Hid (rr = false) := HNE.out (by simp [h9, hen])
                have HB2 := Lib.hid (hbe.out.trans (b2.mono hbe.out.size))
                clear b1 b2
                go_wp2_with fail
                go_ret
                exact ⟨ret_b (by rw [HF.out]), HB2.out⟩
            · have h91 := ne_true h9
              go_wp2_with fail
              clear p0 p1 p2 p3 p4
              go_region_held3 (fun wx => wx.cell? ⟨w.heap.size, 0, none⟩ = some (.slice ga x.globals.length gc) ∧ wx.cell? ⟨w.heap.size, 1, none⟩ = some (.slice la x.locks.length lc) ∧ wx.cell? ⟨w.heap.size, 2, none⟩ = some (.slice pa x.procs.length pc) ∧ wx.cell? ⟨w.heap.size, 3, none⟩ = some (.slice ea x.entry.length ec) ∧ wx.cell? ⟨w.heap.size, 4, none⟩ = some (.slice (some ⟨g, o, none⟩) n ic) ∧ wx.cell? ⟨g, o + k * 7, none⟩ = some (.int .i64 op) ∧ Below wr.heap.size wr wx)
                (exact KS.out _ (by assumption))
                (first
                | (go_at_call 37; (with_reducible refine (CP.out _ (by assumption)).mono ?_); rintro e w1 ⟨p, rfl, hp, b1⟩; have HP := Lib.hid hp; clear hp)
                | (go_at_call 14; (with_reducible refine (CE.out _ _ HP.out.lt (by assumption)).mono ?_); rintro e w2 ⟨z2, rfl, hz2, b2⟩; have hq2 : ¬ z2 = (k : Int) := fun h => hen ((HQ.out _ z2 HP.out hz2).1 h); clear hz2; have hq3 := ne_true hq2; clear hq2))
              all_goals
                have HY := Lib.hid (HYE.out (by simp [h9, hen]))
                have HB2 := Lib.hid (hbe.out.trans (b2.mono hbe.out.size))
                have HX2 := Lib.hid (hbx.out.keep (keeps_below b2))
                clear b1 b2
                go_wp2_with fail
                go_roundw
                case rel => exact ⟨k + 1, by omega, by go_num, HY.out, HX2.out, HB2.out⟩
                case measure => simp [intOf]; omega
        · have HF : Hid (rr = true) := HT.out HRIS.out (fun q hq => hiff.out q hq (by have := HNL.out; omega))
          go_wp2_with fail
          go_ret
          exact ⟨ret_b (by rw [HF.out]), hbe.out⟩
end Go.Proofs.Ytofmccihehalcaa.Trm
