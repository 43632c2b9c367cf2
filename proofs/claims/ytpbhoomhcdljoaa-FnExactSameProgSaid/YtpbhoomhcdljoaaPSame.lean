/- The model's SameProg, walked. Conditions: both programs lie in memory. -/
import Derived.Test.YtpbhoomhcdljoaaChecked
import Derived.Test.YtpbhoomhcdljoaaPTrees
import Derived.Test.YtpbhoomhcdljoaaSSame
import Derived.Test.YtpbhoomhcdljoaaSameNs
import Derived.Test.YtpbhoomhcdljoaaRegSeq
import Derived.Deep.RegionHeld3
import Derived.OwnWalk
import Derived.WalkSmall
import Derived.Outline
namespace Go.Proofs.Ytpbhoomhcdljoaa.Trm
open Go.RowKit Own
def samePr (p q : PrT) : Bool := decide (p.name = q.name) && sameXL p.body q.body
def samePrs : List PrT → List PrT → Bool
  | [], [] => true
  | p :: ps, q :: qs => samePr p q && samePrs ps qs
  | [], _ :: _ => false
  | _ :: _, [] => false
theorem samePrs_len : ∀ {ps qs : List PrT}, ps.length ≠ qs.length → samePrs ps qs = false
  | [], [], h => absurd rfl h
  | p :: ps, q :: qs, h => by rw [samePrs, samePrs_len (by simpa using h)]; simp
  | [], _ :: _, _ => by rw [samePrs]
  | _ :: _, [], _ => by rw [samePrs]
theorem samePrs_drop {ps qs : List PrT} {i : Nat} (h : i < ps.length) (h2 : i < qs.length) : samePrs (ps.drop i) (qs.drop i) = (samePr ps[i] qs[i] && samePrs (ps.drop (i + 1)) (qs.drop (i + 1))) := by
  rw [List.drop_eq_getElem_cons h, List.drop_eq_getElem_cons h2, samePrs]
theorem samePrs_end {ps qs : List PrT} {i : Nat} (h : ps.length ≤ i) (h2 : qs.length ≤ i) : samePrs (ps.drop i) (qs.drop i) = true := by
  rw [List.drop_of_length_le h, List.drop_of_length_le h2, samePrs]
def sameP (x y : PTree) : Bool := sameNs x.globals y.globals && (sameNs x.locks y.locks && samePrs x.procs y.procs)
set_option linter.unusedSimpArgs false in
set_option maxRecDepth 20000 in
set_option maxHeartbeats 12800000 in
theorem specSameProg_any (x y : PTree) (v u : Value) (w : World) (hl : PLies w x v) (hm : PLies w y u) :
    Calls Try.prog 12 #[v, u] w fun e w' => e = .returned (.bool (sameP x y)) ∧ Below w.heap.size w w' := by
  obtain ⟨ga, gc, la, lc, pa, pc, rfl, h1, h2, hlen, pa', pc', e, hk⟩ := hl
  cases e
  obtain ⟨gb, gd, lb, ld, qa, qc, rfl, i1, i2, hlen2, qa', qc', e, hk2⟩ := hm
  cases e
  have HE : Hid (sameP x y = (sameNs x.globals y.globals && (sameNs x.locks y.locks && samePrs x.procs y.procs))) := rfl
  generalize x.procs = ps at hlen hk HE
  generalize y.procs = qs at hlen2 hk2 HE
  have HK := Lib.hid hk
  have HK2 := Lib.hid hk2
  have C1 := Lib.hid (fun w hk => specSameNs_any x.globals y.globals (.slice ga x.globals.length gc) (.slice gb y.globals.length gd) w (h1.1.keep hk) (i1.1.keep hk))
  have C2 := Lib.hid (fun w hk => specSameNs_any x.locks y.locks (.slice la x.locks.length lc) (.slice lb y.locks.length ld) w (h2.1.keep hk) (i2.1.keep hk))
  have X0 := Lib.hid ((Box3.new w (.slice ga x.globals.length gc) (.slice la x.locks.length lc) (.slice pa ps.length pc) 30).keep (keeps_alloc _ (.cells #[.slice gb y.globals.length gd, .slice lb y.locks.length ld, .slice qa qs.length qc] 30)))
  have Y0 := Lib.hid (Box3.new (w.alloc (.cells #[.slice ga x.globals.length gc, .slice la x.locks.length lc, .slice pa ps.length pc] 30)) (.slice gb y.globals.length gd) (.slice lb y.locks.length ld) (.slice qa qs.length qc) 30)
  have hsz0 : (w.alloc (.cells #[.slice ga x.globals.length gc, .slice la x.locks.length lc, .slice pa ps.length pc] 30)).heap.size = w.heap.size + 1 := by simp
  rw [hsz0] at Y0
  clear hk hk2 h1 h2 i1 i2 hsz0
  generalize sameP x y = rr at HE
  generalize sameNs x.globals y.globals = r1 at HE C1
  generalize sameNs x.locks y.locks = r2 at HE C2
  cases r1 with
  | false =>
    have HF : Hid (rr = false) := by show _ = _; rw [HE.out]; rfl
    clear HE
    go_enter Try.func12, Try.ntmps12
    go_wp2_with fail
    refine (C1.out _ ((keeps_alloc _ _).trans (keeps_alloc _ _))).mono ?_
    rintro e w1 ⟨rfl, hb⟩
    have B1 := Lib.hid (below_box1 (below_box1 hb))
    clear hb
    go_wp2
    go_ret
    exact ⟨ret_b (by rw [HF.out]), B1.out⟩
  | true =>
    go_enter Try.func12, Try.ntmps12
    go_wp2_with fail
    refine (C1.out _ ((keeps_alloc _ _).trans (keeps_alloc _ _))).mono ?_
    rintro e w1 ⟨rfl, hb⟩
    have B1 := Lib.hid (below_box1 (below_box1 hb))
    have K1 := Lib.hid (((keeps_alloc w _).trans (keeps_alloc _ _)).trans (keeps_below hb))
    have X1 := Lib.hid (X0.out.keep (keeps_below hb))
    have Y1 := Lib.hid (Y0.out.keep (keeps_below hb))
    obtain ⟨p0, p1, p2⟩ := X1.out
    obtain ⟨q0, q1, q2⟩ := Y1.out
    clear hb X0 Y0
    cases r2 with
    | false =>
      have HF : Hid (rr = false) := by show _ = _; rw [HE.out]; rfl
      clear HE
      go_wp2_with fail
      refine (C2.out _ K1.out).mono ?_
      rintro e w2 ⟨rfl, hb⟩
      have B2 := Lib.hid (B1.out.trans (hb.mono B1.out.size))
      clear hb
      go_wp2
      go_ret
      exact ⟨ret_b (by rw [HF.out]), B2.out⟩
    | true =>
      have HR : Hid (rr = samePrs ps qs) := by show _ = _; rw [HE.out]; rfl
      clear HE
      go_wp2_with fail
      refine (C2.out _ K1.out).mono ?_
      rintro e w2 ⟨rfl, hb⟩
      have B2 := Lib.hid (B1.out.trans (hb.mono B1.out.size))
      have X2 := Lib.hid (X1.out.keep (keeps_below hb))
      have Y2 := Lib.hid (Y1.out.keep (keeps_below hb))
      clear hb p0 p1 p2 q0 q1 q2
      obtain ⟨p0, p1, p2⟩ := X2.out
      obtain ⟨q0, q1, q2⟩ := Y2.out
      by_cases hq : ps.length = qs.length
      · have HQ := Lib.hid hq
        have hqq : ((ps.length : Int) != (qs.length : Int)) = false := by rw [hq]; simp
        clear hq
        go_wp2
        clear p0 p1 p2 q0 q1 q2
        go_loopw [5] (fun i wr => ∃ (j : Nat), j ≤ ps.length ∧ i = .int .i64 j ∧ Hid (rr = samePrs (ps.drop j) (qs.drop j)) ∧ Hid ((Box3 wr w.heap.size (.slice ga x.globals.length gc) (.slice la x.locks.length lc) (.slice pa ps.length pc) ∧ Box3 wr (w.heap.size + 1) (.slice gb y.globals.length gd) (.slice lb y.locks.length ld) (.slice qa qs.length qc))) ∧ Hid (Below w.heap.size w wr))
          (fun i _ => ps.length - (intOf i).toNat)
        case atStart => exact ⟨0, Nat.zero_le _, rfl, HR.out, ⟨X2.out, Y2.out⟩, B2.out⟩
        case round =>
          obtain ⟨j, hj, rfl, hsz, hbx, hbe⟩ := hrel
          obtain ⟨⟨p0, p1, p2⟩, ⟨q0, q1, q2⟩⟩ := hbx.out
          by_cases hlt : j < ps.length
          · have hlt2 : j < qs.length := by have := HQ.out; omega
            obtain ⟨g, o, rfl, hl⟩ := HK.out (by omega)
            obtain ⟨h, p, rfl, hm⟩ := HK2.out (by omega)
            obtain ⟨_, ba, bc, c0, c1, lb1⟩ := (hl j hlt).keep (keeps_below hbe.out)
            obtain ⟨_, da, dc, d0, d1, lb2⟩ := (hm j hlt2).keep (keeps_below hbe.out)
            have hd := samePrs_drop hlt hlt2
            rw [← hsz.out] at hd
            clear hl hm
            unfold samePr at hd
            generalize ps[j].name = s at c0 hd
            generalize qs[j].name = s' at d0 hd
            generalize ps[j].body = b at c1 lb1 hd
            generalize qs[j].body = b' at d1 lb2 hd
            have CB : Hid (∀ wx, Below wr.heap.size wr wx → Calls Try.prog 31 #[.slice ba b.length bc, .slice da b'.length dc] wx fun en w' => en = .returned (.bool (sameXL b b')) ∧ Below wr.heap.size wr w') :=
              fun wx hb => (specSames_any b b' _ _ wx (lb1.keep (keeps_below hb)) (lb2.keep (keeps_below hb))).mono fun e w' ⟨he, h⟩ => ⟨he, hb.trans (h.mono hb.size)⟩
            have KS : Hid (∀ wx, Below wr.heap.size wr wx → wx.cell? ⟨w.heap.size, 2, none⟩ = some (.slice (some ⟨g, o, none⟩) ps.length pc) ∧ wx.cell? ⟨w.heap.size + 1, 2, none⟩ = some (.slice (some ⟨h, p, none⟩) qs.length qc) ∧ wx.cell? ⟨g, o + j * 2, none⟩ = some (.string s) ∧ wx.cell? ⟨g, o + j * 2 + 1, none⟩ = some (.slice ba b.length bc) ∧ wx.cell? ⟨h, p + j * 2, none⟩ = some (.string s') ∧ wx.cell? ⟨h, p + j * 2 + 1, none⟩ = some (.slice da b'.length dc) ∧ Below wr.heap.size wr wx) := fun wx hb => by
              have hk := keeps_below hb
              exact ⟨hk _ _ p2, hk _ _ q2, hk _ _ c0, hk _ _ c1, hk _ _ d0, hk _ _ d1, hb⟩
            have HXK : Hid (∀ wx, Below wr.heap.size wr wx → (Box3 wx w.heap.size (.slice ga x.globals.length gc) (.slice la x.locks.length lc) (.slice (some ⟨g, o, none⟩) ps.length pc) ∧ Box3 wx (w.heap.size + 1) (.slice gb y.globals.length gd) (.slice lb y.locks.length ld) (.slice (some ⟨h, p, none⟩) qs.length qc))) := fun wx hb => ⟨hbx.out.1.keep (keeps_below hb), hbx.out.2.keep (keeps_below hb)⟩
            have b0 : Below wr.heap.size wr wr.drew := (Below.refl _ _).drew
            generalize sameXL b b' = r3 at hd CB
            clear lb1 lb2
            go_wp2_with fail
            clear p0 p1 p2 q0 q1 q2 c0 c1 d0 d1
            try dsimp only [List.append]
            refine RegSeq.seq_begin (S := fun wx => wx.cell? ⟨w.heap.size, 2, none⟩ = some (.slice (some ⟨g, o, none⟩) ps.length pc) ∧ wx.cell? ⟨w.heap.size + 1, 2, none⟩ = some (.slice (some ⟨h, p, none⟩) qs.length qc) ∧ wx.cell? ⟨g, o + j * 2, none⟩ = some (.string s) ∧ wx.cell? ⟨g, o + j * 2 + 1, none⟩ = some (.slice ba b.length bc) ∧ wx.cell? ⟨h, p + j * 2, none⟩ = some (.string s') ∧ wx.cell? ⟨h, p + j * 2 + 1, none⟩ = some (.slice da b'.length dc) ∧ Below wr.heap.size wr wx) (by kernel_rfl) (by kernel_rfl) (by kernel_rfl) (KS.out _ b0) (fun hHeld => ?_)
            iterate 12 (((refine RegSeq.Seq.take' (v := ?_) (by rfl) (by kernel_rfl) ?_ hHeld ?_; rotate_left; (focus ((intro w hSw; (try dsimp only at hSw); go_simp) <;> with_reducible rfl))); simp only [Act.put, List.setIfInBounds_toArray, List.set_cons_zero, List.set_cons_succ, Nat.reduceAdd]))
            by_cases hs : s = s'
            · have hqn : (s.toList != s'.toList) = false := by simp [hs]
              iterate 2 (((refine RegSeq.Seq.take' (v := ?_) (by rfl) (by kernel_rfl) ?_ hHeld ?_; rotate_left; (focus ((intro w hSw; (try dsimp only at hSw); go_simp) <;> with_reducible rfl))); simp only [Act.put, List.setIfInBounds_toArray, List.set_cons_zero, List.set_cons_succ, Nat.reduceAdd]))
              iterate 12 (((refine RegSeq.Seq.take' (v := ?_) (by rfl) (by kernel_rfl) ?_ hHeld ?_; rotate_left; (focus ((intro w hSw; (try dsimp only at hSw); go_simp) <;> with_reducible rfl))); simp only [Act.put, List.setIfInBounds_toArray, List.set_cons_zero, List.set_cons_succ, Nat.reduceAdd]))
              refine RegSeq.Seq.step' (by rfl) (by kernel_rfl) (by kernel_rfl) (fun K hK => ?_)
              go_simp
              go_at_call 31
              with_reducible refine (CB.out _ (by assumption)).mono ?_
              rintro e w3 ⟨rfl, bw3⟩
              refine hK.out _ _ (KS.out _ bw3) (fun hHeld => ?_)
              clear hK K
              simp only [Act.put, List.setIfInBounds_toArray, List.set_cons_zero, List.set_cons_succ, Nat.reduceAdd]
              cases r3 with
              | false =>
                have HF : Hid (rr = false) := by show _ = _; rw [hd]; simp
                clear hd
                iterate 2 (((refine RegSeq.Seq.take' (v := ?_) (by rfl) (by kernel_rfl) ?_ hHeld ?_; rotate_left; (focus ((intro w hSw; (try dsimp only at hSw); go_simp) <;> with_reducible rfl))); simp only [Act.put, List.setIfInBounds_toArray, List.set_cons_zero, List.set_cons_succ, Nat.reduceAdd]))
                refine RegSeq.Seq.done (by kernel_rfl) ?_
                have HB1 : Hid (Below w.heap.size w _) := hbe.out.trans (Below.mono (by first | assumption) hbe.out.size)
                clear hHeld
                go_wp2
                go_ret
                exact ⟨ret_b (by rw [HF.out]), HB1⟩
              | true =>
                have HF : Hid (rr = samePrs (ps.drop (j + 1)) (qs.drop (j + 1))) := by show _ = _; rw [hd]; simp [hs]
                clear hd
                iterate 2 (((refine RegSeq.Seq.take' (v := ?_) (by rfl) (by kernel_rfl) ?_ hHeld ?_; rotate_left; (focus ((intro w hSw; (try dsimp only at hSw); go_simp) <;> with_reducible rfl))); simp only [Act.put, List.setIfInBounds_toArray, List.set_cons_zero, List.set_cons_succ, Nat.reduceAdd]))
                refine RegSeq.Seq.done (by kernel_rfl) ?_
                have HB1 : Hid (Below w.heap.size w _) := hbe.out.trans (Below.mono (by first | assumption) hbe.out.size)
                have HX1 : Hid (Box3 _ w.heap.size (.slice ga x.globals.length gc) (.slice la x.locks.length lc) (.slice (some ⟨g, o, none⟩) ps.length pc) ∧ Box3 _ (w.heap.size + 1) (.slice gb y.globals.length gd) (.slice lb y.locks.length ld) (.slice (some ⟨h, p, none⟩) qs.length qc)) := HXK.out _ (by first | assumption)
                clear hHeld
                go_wp2
                go_roundw
                case rel => exact ⟨j + 1, by omega, by go_num, HF, HX1, HB1⟩
                case measure => simp [intOf]; omega
            · have hqn := bytes_ne hs
              have HF : Hid (rr = false) := by show _ = _; rw [hd]; simp [hs]
              clear hd hs
              iterate 2 (((refine RegSeq.Seq.take' (v := ?_) (by rfl) (by kernel_rfl) ?_ hHeld ?_; rotate_left; (focus ((intro w hSw; (try dsimp only at hSw); go_simp) <;> with_reducible rfl))); simp only [Act.put, List.setIfInBounds_toArray, List.set_cons_zero, List.set_cons_succ, Nat.reduceAdd]))
              (refine RegSeq.Seq.skips hHeld [50, 51, 52, 53, 54, 55, 56, 57, 58, 59, 60, 61, 62, 63] _ _ (by kernel_rfl) ?_; simp only [RegSeq.skipped, List.length_cons, List.length_nil]; simp only [Act.put, List.setIfInBounds_toArray, List.set_cons_zero, List.set_cons_succ, Nat.reduceAdd])
              ((refine RegSeq.Seq.take' (v := ?_) (by rfl) (by kernel_rfl) ?_ hHeld ?_; rotate_left; (focus ((intro w hSw; (try dsimp only at hSw); go_simp) <;> with_reducible rfl))); simp only [Act.put, List.setIfInBounds_toArray, List.set_cons_zero, List.set_cons_succ, Nat.reduceAdd])
              refine RegSeq.Seq.done (by kernel_rfl) ?_
              have HB1 : Hid (Below w.heap.size w _) := hbe.out.trans (Below.mono (by first | assumption) hbe.out.size)
              clear hHeld
              go_wp2
              go_ret
              exact ⟨ret_b (by rw [HF.out]), HB1⟩
          · have HF : Hid (rr = true) := by show _ = _; rw [hsz.out, samePrs_end (by omega) (by have := HQ.out; omega)]
            go_wp2
            go_ret
            exact ⟨ret_b (by rw [HF.out]), hbe.out⟩
      · have hqq : ((ps.length : Int) != (qs.length : Int)) = true := by simp; omega
        have HF : Hid (rr = false) := by show _ = _; rw [HR.out, samePrs_len hq]
        clear hq
        go_wp2
        go_ret
        exact ⟨ret_b (by rw [HF.out]), B2.out⟩
end Go.Proofs.Ytpbhoomhcdljoaa.Trm
