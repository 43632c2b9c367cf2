/- The model's SameStmts, walked. Conditions: both lists lie in memory. -/
import Derived.Test.YtpbhoomhcdljoaaChecked
import Derived.Test.YtpbhoomhcdljoaaSTrees
import Derived.Test.YtpbhoomhcdljoaaTermSame
import Derived.Test.YtpbhoomhcdljoaaRegSeq
import Derived.Deep.RegionHeld3
import Derived.WalkSmall
import Derived.Outline
namespace Go.Proofs.Ytpbhoomhcdljoaa.Trm
open Go.RowKit Own
mutual
def sameX : STree → STree → Bool
  | .node k s t b e, y => decide (k = y.kind) && decide (s = y.name) && sameT t y.term && sameXL b y.body && sameXL e y.els
def sameXL : List STree → List STree → Bool
  | [], [] => true
  | x :: xs, y :: ys => sameX x y && sameXL xs ys
  | [], _ :: _ => false
  | _ :: _, [] => false
end
theorem sameXL_len : ∀ {xs ys : List STree}, xs.length ≠ ys.length → sameXL xs ys = false
  | [], [], h => absurd rfl h
  | x :: xs, y :: ys, h => by rw [sameXL, sameXL_len (by simpa using h)]; simp
  | [], _ :: _, _ => by rw [sameXL]
  | _ :: _, [], _ => by rw [sameXL]
theorem sameXL_drop {xs ys : List STree} {i : Nat} (h : i < xs.length) (h2 : i < ys.length) : sameXL (xs.drop i) (ys.drop i) = (sameX xs[i] ys[i] && sameXL (xs.drop (i + 1)) (ys.drop (i + 1))) := by
  rw [List.drop_eq_getElem_cons h, List.drop_eq_getElem_cons h2, sameXL]
theorem sameXL_end {xs ys : List STree} {i : Nat} (h : xs.length ≤ i) (h2 : ys.length ≤ i) : sameXL (xs.drop i) (ys.drop i) = true := by
  rw [List.drop_of_length_le h, List.drop_of_length_le h2, sameXL]
def SameAll (xs : List STree) : Prop := ∀ (ys : List STree) (v u : Value) (w : World), SListAt w v xs → SListAt w u ys →
    Calls Try.prog 31 #[v, u] w fun e w' => e = .returned (.bool (sameXL xs ys)) ∧ Below w.heap.size w w'
set_option linter.unusedSimpArgs false in
set_option maxRecDepth 20000 in
set_option maxHeartbeats 25600000 in
theorem same_list (xs : List STree) (ih : ∀ x, x ∈ xs → SameAll x.body ∧ SameAll x.els) : SameAll xs := fun ys v u w hl hm => by
  obtain ⟨hlen, aa, cap, rfl, hk⟩ := hl
  obtain ⟨hlen2, bb, dap, rfl, hk2⟩ := hm
  have IH := Lib.hid ih
  have HK := Lib.hid hk
  have HK2 := Lib.hid hk2
  clear ih hk hk2
  by_cases hq : xs.length = ys.length
  · have HQ := Lib.hid hq
    have hqq : ((xs.length : Int) != (ys.length : Int)) = false := by rw [hq]; simp
    clear hq
    go_enter Try.func31, Try.ntmps31
    go_wp2
    go_loopw [5] (fun i wr => ∃ (j : Nat), j ≤ xs.length ∧ i = .int .i64 j ∧ Hid (sameXL xs ys = sameXL (xs.drop j) (ys.drop j)) ∧ Hid (Below w.heap.size w wr))
      (fun i _ => xs.length - (intOf i).toNat)
    case atStart => exact ⟨0, Nat.zero_le _, rfl, rfl, Below.refl _ _⟩
    case round =>
      obtain ⟨j, hj, rfl, hsz, hbe⟩ := hrel
      by_cases hlt : j < xs.length
      · have hlt2 : j < ys.length := by have := HQ.out; omega
        obtain ⟨g, o, rfl, hl⟩ := HK.out (by omega)
        obtain ⟨h, p, rfl, hm⟩ := HK2.out (by omega)
        obtain ⟨ta, tc, ba, bc, ea, ec, c0, c1, c2, c3, c4, c5, c6, c7, hl2⟩ := (hl.keep (keeps_below hbe.out)).at j hlt
        obtain ⟨ua, uc, da, dc, fa, fc, d0, d1, d2, d3, d4, d5, d6, d7, hm2⟩ := (hm.keep (keeps_below hbe.out)).at j hlt2
        obtain ⟨lt1, lb1, le1⟩ := hl2.lists
        obtain ⟨lt2, lb2, le2⟩ := hm2.lists
        have hd := sameXL_drop hlt hlt2
        rw [← hsz.out] at hd
        have hin := IH.out xs[j] (List.getElem_mem hlt)
        clear hl hm hl2 hm2
        generalize xs[j] = x at c0 c1 c2 c3 c4 c5 c6 c7 lt1 lb1 le1 hd hin
        generalize ys[j] = y at d0 d1 d2 d3 d4 d5 d6 d7 lt2 lb2 le2 hd
        obtain ⟨k, s, t, b, e⟩ := x
        obtain ⟨k', s', t', b', e'⟩ := y
        rw [sameX] at hd
        simp only [STree.kind, STree.name, STree.term, STree.body, STree.els] at c0 c1 c2 c3 c4 c5 c6 c7 lt1 lb1 le1 hd hin d0 d1 d2 d3 d4 d5 d6 d7 lt2 lb2 le2
        have CT : Hid (∀ wx, Below wr.heap.size wr wx → Calls Try.prog 49 #[.agg #[.int .i64 t.kind, .int .i64 t.num, .string t.name, .slice ta t.kids.length tc], .agg #[.int .i64 t'.kind, .int .i64 t'.num, .string t'.name, .slice ua t'.kids.length uc]] wx fun en w' => en = .returned (.bool (sameT t t')) ∧ Below wr.heap.size wr w') :=
          fun wx hb => (specSame_any t t' _ _ wx (lt1.keep (keeps_below hb)) (lt2.keep (keeps_below hb))).mono fun e w' ⟨he, h⟩ => ⟨he, hb.trans (h.mono hb.size)⟩
        have CB : Hid (∀ wx, Below wr.heap.size wr wx → Calls Try.prog 31 #[.slice ba b.length bc, .slice da b'.length dc] wx fun en w' => en = .returned (.bool (sameXL b b')) ∧ Below wr.heap.size wr w') :=
          fun wx hb => (hin.1 _ _ _ wx (lb1.keep (keeps_below hb)) (lb2.keep (keeps_below hb))).mono fun e w' ⟨he, h⟩ => ⟨he, hb.trans (h.mono hb.size)⟩
        have CE : Hid (∀ wx, Below wr.heap.size wr wx → Calls Try.prog 31 #[.slice ea e.length ec, .slice fa e'.length fc] wx fun en w' => en = .returned (.bool (sameXL e e')) ∧ Below wr.heap.size wr w') :=
          fun wx hb => (hin.2 _ _ _ wx (le1.keep (keeps_below hb)) (le2.keep (keeps_below hb))).mono fun e w' ⟨he, h⟩ => ⟨he, hb.trans (h.mono hb.size)⟩
        have KS : Hid (∀ wx, Below wr.heap.size wr wx → wx.cell? ⟨g, o + j * 8, none⟩ = some (.int .i64 k) ∧ wx.cell? ⟨g, o + j * 8 + 1, none⟩ = some (.string s) ∧ wx.cell? ⟨g, o + j * 8 + 2, none⟩ = some (.int .i64 t.kind) ∧ wx.cell? ⟨g, o + j * 8 + 3, none⟩ = some (.int .i64 t.num) ∧ wx.cell? ⟨g, o + j * 8 + 4, none⟩ = some (.string t.name) ∧ wx.cell? ⟨g, o + j * 8 + 5, none⟩ = some (.slice ta t.kids.length tc) ∧ wx.cell? ⟨g, o + j * 8 + 6, none⟩ = some (.slice ba b.length bc) ∧ wx.cell? ⟨g, o + j * 8 + 7, none⟩ = some (.slice ea e.length ec) ∧ wx.cell? ⟨h, p + j * 8, none⟩ = some (.int .i64 k') ∧ wx.cell? ⟨h, p + j * 8 + 1, none⟩ = some (.string s') ∧ wx.cell? ⟨h, p + j * 8 + 2, none⟩ = some (.int .i64 t'.kind) ∧ wx.cell? ⟨h, p + j * 8 + 3, none⟩ = some (.int .i64 t'.num) ∧ wx.cell? ⟨h, p + j * 8 + 4, none⟩ = some (.string t'.name) ∧ wx.cell? ⟨h, p + j * 8 + 5, none⟩ = some (.slice ua t'.kids.length uc) ∧ wx.cell? ⟨h, p + j * 8 + 6, none⟩ = some (.slice da b'.length dc) ∧ wx.cell? ⟨h, p + j * 8 + 7, none⟩ = some (.slice fa e'.length fc) ∧ Below wr.heap.size wr wx) := fun wx hb => by
          have hk := keeps_below hb
          exact ⟨hk _ _ c0, hk _ _ c1, hk _ _ c2, hk _ _ c3, hk _ _ c4, hk _ _ c5, hk _ _ c6, hk _ _ c7, hk _ _ d0, hk _ _ d1, hk _ _ d2, hk _ _ d3, hk _ _ d4, hk _ _ d5, hk _ _ d6, hk _ _ d7, hb⟩
        have b0 : Below wr.heap.size wr wr.drew := (Below.refl _ _).drew
        generalize sameT t t' = r1 at hd CT
        generalize sameXL b b' = r2 at hd CB
        generalize sameXL e e' = r3 at hd CE
        clear lt1 lb1 le1 lt2 lb2 le2 hin c0 c1 c2 c3 c4 c5 c6 c7 d0 d1 d2 d3 d4 d5 d6 d7
        go_wp2_with fail
        dsimp only [List.append]
        refine RegSeq.seq_begin (S := fun wx => wx.cell? ⟨g, o + j * 8, none⟩ = some (.int .i64 k) ∧ wx.cell? ⟨g, o + j * 8 + 1, none⟩ = some (.string s) ∧ wx.cell? ⟨g, o + j * 8 + 2, none⟩ = some (.int .i64 t.kind) ∧ wx.cell? ⟨g, o + j * 8 + 3, none⟩ = some (.int .i64 t.num) ∧ wx.cell? ⟨g, o + j * 8 + 4, none⟩ = some (.string t.name) ∧ wx.cell? ⟨g, o + j * 8 + 5, none⟩ = some (.slice ta t.kids.length tc) ∧ wx.cell? ⟨g, o + j * 8 + 6, none⟩ = some (.slice ba b.length bc) ∧ wx.cell? ⟨g, o + j * 8 + 7, none⟩ = some (.slice ea e.length ec) ∧ wx.cell? ⟨h, p + j * 8, none⟩ = some (.int .i64 k') ∧ wx.cell? ⟨h, p + j * 8 + 1, none⟩ = some (.string s') ∧ wx.cell? ⟨h, p + j * 8 + 2, none⟩ = some (.int .i64 t'.kind) ∧ wx.cell? ⟨h, p + j * 8 + 3, none⟩ = some (.int .i64 t'.num) ∧ wx.cell? ⟨h, p + j * 8 + 4, none⟩ = some (.string t'.name) ∧ wx.cell? ⟨h, p + j * 8 + 5, none⟩ = some (.slice ua t'.kids.length uc) ∧ wx.cell? ⟨h, p + j * 8 + 6, none⟩ = some (.slice da b'.length dc) ∧ wx.cell? ⟨h, p + j * 8 + 7, none⟩ = some (.slice fa e'.length fc) ∧ Below wr.heap.size wr wx) (by kernel_rfl) (by kernel_rfl) (by kernel_rfl) (KS.out _ b0) (fun hHeld => ?_)
        iterate 10 (((refine RegSeq.Seq.take' (v := ?_) (by rfl) (by kernel_rfl) ?_ hHeld ?_; rotate_left; (focus ((intro w hSw; (try dsimp only at hSw); go_simp) <;> with_reducible rfl))); simp only [Act.put, List.setIfInBounds_toArray, List.set_cons_zero, List.set_cons_succ, Nat.reduceAdd]))
        by_cases hk : k = k'
        · have hqk : (k != k') = false := by simp [hk]
          iterate 2 (((refine RegSeq.Seq.take' (v := ?_) (by rfl) (by kernel_rfl) ?_ hHeld ?_; rotate_left; (focus ((intro w hSw; (try dsimp only at hSw); go_simp) <;> with_reducible rfl))); simp only [Act.put, List.setIfInBounds_toArray, List.set_cons_zero, List.set_cons_succ, Nat.reduceAdd]))
          iterate 10 (((refine RegSeq.Seq.take' (v := ?_) (by rfl) (by kernel_rfl) ?_ hHeld ?_; rotate_left; (focus ((intro w hSw; (try dsimp only at hSw); go_simp) <;> with_reducible rfl))); simp only [Act.put, List.setIfInBounds_toArray, List.set_cons_zero, List.set_cons_succ, Nat.reduceAdd]))
          by_cases hs : s = s'
          · have hqn : (s.toList != s'.toList) = false := by simp [hs]
            iterate 3 (((refine RegSeq.Seq.take' (v := ?_) (by rfl) (by kernel_rfl) ?_ hHeld ?_; rotate_left; (focus ((intro w hSw; (try dsimp only at hSw); go_simp) <;> with_reducible rfl))); simp only [Act.put, List.setIfInBounds_toArray, List.set_cons_zero, List.set_cons_succ, Nat.reduceAdd]))
            iterate 10 (((refine RegSeq.Seq.take' (v := ?_) (by rfl) (by kernel_rfl) ?_ hHeld ?_; rotate_left; (focus ((intro w hSw; (try dsimp only at hSw); go_simp) <;> with_reducible rfl))); simp only [Act.put, List.setIfInBounds_toArray, List.set_cons_zero, List.set_cons_succ, Nat.reduceAdd]))
            refine RegSeq.Seq.step' (by rfl) (by kernel_rfl) (by kernel_rfl) (fun K hK => ?_)
            go_simp
            go_at_call 49
            with_reducible refine (CT.out _ (by assumption)).mono ?_
            rintro e w1 ⟨rfl, bw1⟩
            refine hK.out _ _ (KS.out _ bw1) (fun hHeld => ?_)
            clear hK K
            simp only [Act.put, List.setIfInBounds_toArray, List.set_cons_zero, List.set_cons_succ, Nat.reduceAdd]
            cases r1 with
            | false =>
              have HF : Hid (sameXL xs ys = false) := by show _ = _; rw [hd]; simp
              clear hd
              iterate 3 (((refine RegSeq.Seq.take' (v := ?_) (by rfl) (by kernel_rfl) ?_ hHeld ?_; rotate_left; (focus ((intro w hSw; (try dsimp only at hSw); go_simp) <;> with_reducible rfl))); simp only [Act.put, List.setIfInBounds_toArray, List.set_cons_zero, List.set_cons_succ, Nat.reduceAdd]))
              (refine RegSeq.Seq.skips hHeld [56, 57, 58, 59, 60, 61, 62, 63, 64, 65, 66, 67] _ _ (by kernel_rfl) ?_; simp only [RegSeq.skipped, List.length_cons, List.length_nil]; simp only [Act.put, List.setIfInBounds_toArray, List.set_cons_zero, List.set_cons_succ, Nat.reduceAdd])
              iterate 2 (((refine RegSeq.Seq.take' (v := ?_) (by rfl) (by kernel_rfl) ?_ hHeld ?_; rotate_left; (focus ((intro w hSw; (try dsimp only at hSw); go_simp) <;> with_reducible rfl))); simp only [Act.put, List.setIfInBounds_toArray, List.set_cons_zero, List.set_cons_succ, Nat.reduceAdd]))
              (refine RegSeq.Seq.skips hHeld [70, 71, 72, 73, 74, 75, 76, 77, 78, 79, 80, 81] _ _ (by kernel_rfl) ?_; simp only [RegSeq.skipped, List.length_cons, List.length_nil]; simp only [Act.put, List.setIfInBounds_toArray, List.set_cons_zero, List.set_cons_succ, Nat.reduceAdd])
              ((refine RegSeq.Seq.take' (v := ?_) (by rfl) (by kernel_rfl) ?_ hHeld ?_; rotate_left; (focus ((intro w hSw; (try dsimp only at hSw); go_simp) <;> with_reducible rfl))); simp only [Act.put, List.setIfInBounds_toArray, List.set_cons_zero, List.set_cons_succ, Nat.reduceAdd])
              refine RegSeq.Seq.done (by kernel_rfl) ?_
              have HB1 : Hid (Below w.heap.size w _) := hbe.out.trans (Below.mono (by first | assumption) hbe.out.size)
              clear hHeld
              go_wp2
              go_ret
              exact ⟨ret_b (by rw [HF.out]), HB1⟩
            | true =>
              iterate 3 (((refine RegSeq.Seq.take' (v := ?_) (by rfl) (by kernel_rfl) ?_ hHeld ?_; rotate_left; (focus ((intro w hSw; (try dsimp only at hSw); go_simp) <;> with_reducible rfl))); simp only [Act.put, List.setIfInBounds_toArray, List.set_cons_zero, List.set_cons_succ, Nat.reduceAdd]))
              iterate 10 (((refine RegSeq.Seq.take' (v := ?_) (by rfl) (by kernel_rfl) ?_ hHeld ?_; rotate_left; (focus ((intro w hSw; (try dsimp only at hSw); go_simp) <;> with_reducible rfl))); simp only [Act.put, List.setIfInBounds_toArray, List.set_cons_zero, List.set_cons_succ, Nat.reduceAdd]))
              refine RegSeq.Seq.step' (by rfl) (by kernel_rfl) (by kernel_rfl) (fun K hK => ?_)
              go_simp
              go_at_call 31
              with_reducible refine (CB.out _ (by assumption)).mono ?_
              rintro e w2 ⟨rfl, bw2⟩
              refine hK.out _ _ (KS.out _ bw2) (fun hHeld => ?_)
              clear hK K
              simp only [Act.put, List.setIfInBounds_toArray, List.set_cons_zero, List.set_cons_succ, Nat.reduceAdd]
              cases r2 with
              | false =>
                have HF : Hid (sameXL xs ys = false) := by show _ = _; rw [hd]; simp
                clear hd
                iterate 3 (((refine RegSeq.Seq.take' (v := ?_) (by rfl) (by kernel_rfl) ?_ hHeld ?_; rotate_left; (focus ((intro w hSw; (try dsimp only at hSw); go_simp) <;> with_reducible rfl))); simp only [Act.put, List.setIfInBounds_toArray, List.set_cons_zero, List.set_cons_succ, Nat.reduceAdd]))
                (refine RegSeq.Seq.skips hHeld [70, 71, 72, 73, 74, 75, 76, 77, 78, 79, 80, 81] _ _ (by kernel_rfl) ?_; simp only [RegSeq.skipped, List.length_cons, List.length_nil]; simp only [Act.put, List.setIfInBounds_toArray, List.set_cons_zero, List.set_cons_succ, Nat.reduceAdd])
                ((refine RegSeq.Seq.take' (v := ?_) (by rfl) (by kernel_rfl) ?_ hHeld ?_; rotate_left; (focus ((intro w hSw; (try dsimp only at hSw); go_simp) <;> with_reducible rfl))); simp only [Act.put, List.setIfInBounds_toArray, List.set_cons_zero, List.set_cons_succ, Nat.reduceAdd])
                refine RegSeq.Seq.done (by kernel_rfl) ?_
                have HB1 : Hid (Below w.heap.size w _) := hbe.out.trans (Below.mono (by first | assumption) hbe.out.size)
                clear hHeld
                go_wp2
                go_ret
                exact ⟨ret_b (by rw [HF.out]), HB1⟩
              | true =>
                iterate 3 (((refine RegSeq.Seq.take' (v := ?_) (by rfl) (by kernel_rfl) ?_ hHeld ?_; rotate_left; (focus ((intro w hSw; (try dsimp only at hSw); go_simp) <;> with_reducible rfl))); simp only [Act.put, List.setIfInBounds_toArray, List.set_cons_zero, List.set_cons_succ, Nat.reduceAdd]))
                iterate 10 (((refine RegSeq.Seq.take' (v := ?_) (by rfl) (by kernel_rfl) ?_ hHeld ?_; rotate_left; (focus ((intro w hSw; (try dsimp only at hSw); go_simp) <;> with_reducible rfl))); simp only [Act.put, List.setIfInBounds_toArray, List.set_cons_zero, List.set_cons_succ, Nat.reduceAdd]))
                refine RegSeq.Seq.step' (by rfl) (by kernel_rfl) (by kernel_rfl) (fun K hK => ?_)
                go_simp
                go_at_call 31
                with_reducible refine (CE.out _ (by assumption)).mono ?_
                rintro e w3 ⟨rfl, bw3⟩
                refine hK.out _ _ (KS.out _ bw3) (fun hHeld => ?_)
                clear hK K
                simp only [Act.put, List.setIfInBounds_toArray, List.set_cons_zero, List.set_cons_succ, Nat.reduceAdd]
                cases r3 with
                | false =>
                  have HF : Hid (sameXL xs ys = false) := by show _ = _; rw [hd]; simp
                  clear hd
                  iterate 2 (((refine RegSeq.Seq.take' (v := ?_) (by rfl) (by kernel_rfl) ?_ hHeld ?_; rotate_left; (focus ((intro w hSw; (try dsimp only at hSw); go_simp) <;> with_reducible rfl))); simp only [Act.put, List.setIfInBounds_toArray, List.set_cons_zero, List.set_cons_succ, Nat.reduceAdd]))
                  refine RegSeq.Seq.done (by kernel_rfl) ?_
                  have HB1 : Hid (Below w.heap.size w _) := hbe.out.trans (Below.mono (by first | assumption) hbe.out.size)
                  clear hHeld
                  go_wp2
                  go_ret
                  exact ⟨ret_b (by rw [HF.out]), HB1⟩
                | true =>
                  have HF : Hid (sameXL xs ys = sameXL (xs.drop (j + 1)) (ys.drop (j + 1))) := by show _ = _; rw [hd]; simp [hk, hs]
                  clear hd
                  iterate 2 (((refine RegSeq.Seq.take' (v := ?_) (by rfl) (by kernel_rfl) ?_ hHeld ?_; rotate_left; (focus ((intro w hSw; (try dsimp only at hSw); go_simp) <;> with_reducible rfl))); simp only [Act.put, List.setIfInBounds_toArray, List.set_cons_zero, List.set_cons_succ, Nat.reduceAdd]))
                  refine RegSeq.Seq.done (by kernel_rfl) ?_
                  have HB1 : Hid (Below w.heap.size w _) := hbe.out.trans (Below.mono (by first | assumption) hbe.out.size)
                  clear hHeld
                  go_wp2
                  go_roundw
                  case rel => exact ⟨j + 1, by omega, by go_num, HF, HB1⟩
                  case measure => simp [intOf]; omega
          · have hqn := bytes_ne hs
            have HF : Hid (sameXL xs ys = false) := by show _ = _; rw [hd]; simp [hs]
            clear hd hs
            iterate 3 (((refine RegSeq.Seq.take' (v := ?_) (by rfl) (by kernel_rfl) ?_ hHeld ?_; rotate_left; (focus ((intro w hSw; (try dsimp only at hSw); go_simp) <;> with_reducible rfl))); simp only [Act.put, List.setIfInBounds_toArray, List.set_cons_zero, List.set_cons_succ, Nat.reduceAdd]))
            (refine RegSeq.Seq.skips hHeld [42, 43, 44, 45, 46, 47, 48, 49, 50, 51, 52, 53] _ _ (by kernel_rfl) ?_; simp only [RegSeq.skipped, List.length_cons, List.length_nil]; simp only [Act.put, List.setIfInBounds_toArray, List.set_cons_zero, List.set_cons_succ, Nat.reduceAdd])
            iterate 2 (((refine RegSeq.Seq.take' (v := ?_) (by rfl) (by kernel_rfl) ?_ hHeld ?_; rotate_left; (focus ((intro w hSw; (try dsimp only at hSw); go_simp) <;> with_reducible rfl))); simp only [Act.put, List.setIfInBounds_toArray, List.set_cons_zero, List.set_cons_succ, Nat.reduceAdd]))
            (refine RegSeq.Seq.skips hHeld [56, 57, 58, 59, 60, 61, 62, 63, 64, 65, 66, 67] _ _ (by kernel_rfl) ?_; simp only [RegSeq.skipped, List.length_cons, List.length_nil]; simp only [Act.put, List.setIfInBounds_toArray, List.set_cons_zero, List.set_cons_succ, Nat.reduceAdd])
            iterate 2 (((refine RegSeq.Seq.take' (v := ?_) (by rfl) (by kernel_rfl) ?_ hHeld ?_; rotate_left; (focus ((intro w hSw; (try dsimp only at hSw); go_simp) <;> with_reducible rfl))); simp only [Act.put, List.setIfInBounds_toArray, List.set_cons_zero, List.set_cons_succ, Nat.reduceAdd]))
            (refine RegSeq.Seq.skips hHeld [70, 71, 72, 73, 74, 75, 76, 77, 78, 79, 80, 81] _ _ (by kernel_rfl) ?_; simp only [RegSeq.skipped, List.length_cons, List.length_nil]; simp only [Act.put, List.setIfInBounds_toArray, List.set_cons_zero, List.set_cons_succ, Nat.reduceAdd])
            ((refine RegSeq.Seq.take' (v := ?_) (by rfl) (by kernel_rfl) ?_ hHeld ?_; rotate_left; (focus ((intro w hSw; (try dsimp only at hSw); go_simp) <;> with_reducible rfl))); simp only [Act.put, List.setIfInBounds_toArray, List.set_cons_zero, List.set_cons_succ, Nat.reduceAdd])
            refine RegSeq.Seq.done (by kernel_rfl) ?_
            have HB1 : Hid (Below w.heap.size w _) := hbe.out.trans (Below.mono (by first | assumption) hbe.out.size)
            clear hHeld
            go_wp2
            go_ret
            exact ⟨ret_b (by rw [HF.out]), HB1⟩
        · have hqk : (k != k') = true := by simp [hk]
          have HF : Hid (sameXL xs ys = false) := by show _ = _; rw [hd]; simp [hk]
          clear hd hk
          iterate 2 (((refine RegSeq.Seq.take' (v := ?_) (by rfl) (by kernel_rfl) ?_ hHeld ?_; rotate_left; (focus ((intro w hSw; (try dsimp only at hSw); go_simp) <;> with_reducible rfl))); simp only [Act.put, List.setIfInBounds_toArray, List.set_cons_zero, List.set_cons_succ, Nat.reduceAdd]))
          (refine RegSeq.Seq.skips hHeld [29, 30, 31, 32, 33, 34, 35, 36, 37, 38, 39] _ _ (by kernel_rfl) ?_; simp only [RegSeq.skipped, List.length_cons, List.length_nil]; simp only [Act.put, List.setIfInBounds_toArray, List.set_cons_zero, List.set_cons_succ, Nat.reduceAdd])
          iterate 2 (((refine RegSeq.Seq.take' (v := ?_) (by rfl) (by kernel_rfl) ?_ hHeld ?_; rotate_left; (focus ((intro w hSw; (try dsimp only at hSw); go_simp) <;> with_reducible rfl))); simp only [Act.put, List.setIfInBounds_toArray, List.set_cons_zero, List.set_cons_succ, Nat.reduceAdd]))
          (refine RegSeq.Seq.skips hHeld [42, 43, 44, 45, 46, 47, 48, 49, 50, 51, 52, 53] _ _ (by kernel_rfl) ?_; simp only [RegSeq.skipped, List.length_cons, List.length_nil]; simp only [Act.put, List.setIfInBounds_toArray, List.set_cons_zero, List.set_cons_succ, Nat.reduceAdd])
          iterate 2 (((refine RegSeq.Seq.take' (v := ?_) (by rfl) (by kernel_rfl) ?_ hHeld ?_; rotate_left; (focus ((intro w hSw; (try dsimp only at hSw); go_simp) <;> with_reducible rfl))); simp only [Act.put, List.setIfInBounds_toArray, List.set_cons_zero, List.set_cons_succ, Nat.reduceAdd]))
          (refine RegSeq.Seq.skips hHeld [56, 57, 58, 59, 60, 61, 62, 63, 64, 65, 66, 67] _ _ (by kernel_rfl) ?_; simp only [RegSeq.skipped, List.length_cons, List.length_nil]; simp only [Act.put, List.setIfInBounds_toArray, List.set_cons_zero, List.set_cons_succ, Nat.reduceAdd])
          iterate 2 (((refine RegSeq.Seq.take' (v := ?_) (by rfl) (by kernel_rfl) ?_ hHeld ?_; rotate_left; (focus ((intro w hSw; (try dsimp only at hSw); go_simp) <;> with_reducible rfl))); simp only [Act.put, List.setIfInBounds_toArray, List.set_cons_zero, List.set_cons_succ, Nat.reduceAdd]))
          (refine RegSeq.Seq.skips hHeld [70, 71, 72, 73, 74, 75, 76, 77, 78, 79, 80, 81] _ _ (by kernel_rfl) ?_; simp only [RegSeq.skipped, List.length_cons, List.length_nil]; simp only [Act.put, List.setIfInBounds_toArray, List.set_cons_zero, List.set_cons_succ, Nat.reduceAdd])
          ((refine RegSeq.Seq.take' (v := ?_) (by rfl) (by kernel_rfl) ?_ hHeld ?_; rotate_left; (focus ((intro w hSw; (try dsimp only at hSw); go_simp) <;> with_reducible rfl))); simp only [Act.put, List.setIfInBounds_toArray, List.set_cons_zero, List.set_cons_succ, Nat.reduceAdd])
          refine RegSeq.Seq.done (by kernel_rfl) ?_
          have HB1 : Hid (Below w.heap.size w _) := hbe.out.trans (Below.mono (by first | assumption) hbe.out.size)
          clear hHeld
          go_wp2
          go_ret
          exact ⟨ret_b (by rw [HF.out]), HB1⟩
      · have HF : Hid (sameXL xs ys = true) := by show _ = _; rw [hsz.out, sameXL_end (by omega) (by have := HQ.out; omega)]
        go_wp2
        go_ret
        exact ⟨ret_b (by rw [HF.out]), hbe.out⟩
  · have HF : Hid (sameXL xs ys = false) := sameXL_len hq
    have hqq : ((xs.length : Int) != (ys.length : Int)) = true := by simp; omega
    clear hq
    go_enter Try.func31, Try.ntmps31
    go_wp2
    go_ret
    exact ⟨ret_b (by rw [HF.out]), Below.refl _ _⟩
theorem specSames_all : ∀ x : STree, SameAll x.body ∧ SameAll x.els := streeInd fun _ _ _ b e ihb ihe => ⟨same_list b ihb, same_list e ihe⟩
theorem specSames_any (xs : List STree) : SameAll xs := same_list xs fun x _ => specSames_all x
end Go.Proofs.Ytpbhoomhcdljoaa.Trm
