/- The program's own reading of one statement as one that is right, walked, by its kind. Conditions: it lies in rows that are not frozen; at most 6 kinds with statements are left. -/
import Derived.Test.YtmhhghdfgdhljaaWithin
import Derived.Test.YtmhhghdfgdhljaaNameImpl
namespace Go.Proofs.Ytmhhghdfgdhljaa.Trm
open Go.RowKit Own Lexs
theorem w_no {x : STree} {r : Nat} {w : World} {e : Ending} {w' : World} {u : Value} (h : rightX x r = false) (he : e = .returned (.tuple #[u, .bool false])) (hb : Below w.heap.size w w') (hi : IfV u := by first | exact Or.inl rfl | exact Or.inr ⟨_, _, rfl⟩) : WPost x r w e w' :=
  ⟨u, by rw [h]; exact he, ⟨(fun h2 => by rw [h] at h2; cases h2), hi⟩, hb⟩
theorem w_yes {x : STree} {r : Nat} {w : World} {e : Ending} {w' : World} {u : Value} (h : rightX x r = true) (hu : RV w.heap.size w' x u) (he : e = .returned (.tuple #[u, .bool true])) (hb : Below w.heap.size w w') : WPost x r w e w' :=
  ⟨u, by rw [h]; exact he, ⟨fun _ => hu, .inr hu.iface⟩, hb⟩
theorem dec_empty (s : ByteArray) : decide (s = ⟨#[]⟩) = decide (s.size = 0) := by
  by_cases h : s = ⟨#[]⟩
  · subst h; rfl
  · rw [decide_eq_false h, decide_eq_false]
    intro h2
    apply h
    apply ByteArray.ext
    exact Array.eq_empty_of_size_eq_zero h2
theorem dec_sum (n m : Nat) : decide (n + m = 0) = (decide (n = 0) && decide (m = 0)) := by
  rw [← Bool.decide_and]; congr 1; exact propext (by omega)
theorem oneB_eq (x : STree) : oneB x = oneV x.kind (decide (x.name.size = 0)) (isNm x.name.data.toList) (okB x.term) (sameT x.term zT) x.body.length x.els.length := by
  cases x; rw [oneB, dec_empty]; rfl
theorem rx_set {x : STree} {r : Nat} (h : x.kind = 1) : rightX x r = (okB x.term && (isNm x.name.data.toList && noLists x.body x.els)) := by
  rw [rightX_eq, oneB_eq, h]; unfold oneV noLists
  rw [if_pos rfl, dec_sum]
  cases okB x.term <;> cases isNm x.name.data.toList <;> simp
theorem rx_if {x : STree} {r : Nat} (h : x.kind = 2) : rightX x r = (blkB x r && rightXS x.els (r - 1)) := by
  rw [rightX_eq, oneB_eq, h]; unfold oneV blkB
  rw [if_neg (by decide), if_pos rfl]
  cases okB x.term <;> cases decide (x.name.size = 0) <;> cases decide (r ≠ 0) <;> simp
theorem rx_while {x : STree} {r : Nat} (h : x.kind = 3) : rightX x r = (blkB x r && decide (x.els.length = 0)) := by
  rw [rightX_eq, oneB_eq, h]; unfold oneV blkB
  rw [if_neg (by decide), if_neg (by decide), if_pos rfl]
  by_cases he : x.els.length = 0
  · rw [List.length_eq_zero_iff.1 he, rightXS]
    cases okB x.term <;> cases decide (x.name.size = 0) <;> cases decide (r ≠ 0) <;> simp
  · simp [he]
theorem rx_word {x : STree} {r : Nat} (h : x.kind = 4 ∨ x.kind = 5 ∨ x.kind = 6 ∨ x.kind = 7) : rightX x r = (isNm x.name.data.toList && (sameT x.term zT && noLists x.body x.els)) := by
  rw [rightX_eq, oneB_eq]; unfold oneV noLists
  rw [if_neg (by omega), if_neg (by omega), if_neg (by omega), if_pos h, dec_sum, decide_eq_true (show ¬ (x.kind = 2 ∨ x.kind = 3) by omega)]
  cases isNm x.name.data.toList <;> cases sameT x.term zT <;> simp
theorem rx_skip {x : STree} {r : Nat} (h : x.kind = 8) : rightX x r = (decide (x.name.size = 0) && (sameT x.term zT && noLists x.body x.els)) := by
  rw [rightX_eq, oneB_eq, h]; unfold oneV noLists
  rw [if_neg (by decide), if_neg (by decide), if_neg (by decide), if_neg (by decide), if_pos rfl, dec_sum]
  cases decide (x.name.size = 0) <;> cases sameT x.term zT <;> simp
theorem rx_none {x : STree} {r : Nat} (h : ¬ (1 ≤ x.kind ∧ x.kind ≤ 8)) : rightX x r = false := by
  rw [rightX_eq, oneB_eq]; unfold oneV
  rw [if_neg (by omega), if_neg (by omega), if_neg (by omega), if_neg (by omega), if_neg (by omega)]
  rfl
/-- The statement's box. -/
structure Boxed (x : STree) (ta ba ea : Option Addr) (tc bc ec : Nat) (w W1 : World) : Prop where
  b : Below w.heap.size w W1
  k : ∀ wx, Below W1.heap.size W1 wx → wx.cell? ⟨w.heap.size, 0, none⟩ = some (.int .i64 x.kind) ∧ wx.cell? ⟨w.heap.size, 1, none⟩ = some (.string x.name) ∧ wx.cell? ⟨w.heap.size, 2, none⟩ = some (.int .i64 x.term.kind) ∧ wx.cell? ⟨w.heap.size, 3, none⟩ = some (.int .i64 x.term.num) ∧ wx.cell? ⟨w.heap.size, 4, none⟩ = some (.string x.term.name) ∧ wx.cell? ⟨w.heap.size, 5, none⟩ = some (.slice ta x.term.kids.length tc) ∧ wx.cell? ⟨w.heap.size, 6, none⟩ = some (.slice ba x.body.length bc) ∧ wx.cell? ⟨w.heap.size, 7, none⟩ = some (.slice ea x.els.length ec) ∧ Below w.heap.size w wx
theorem boxed (x : STree) (ta ba ea : Option Addr) (tc bc ec : Nat) (w : World) : Boxed x ta ba ea tc bc ec w (w.alloc (.cells #[.int .i64 x.kind, .string x.name, .int .i64 x.term.kind, .int .i64 x.term.num, .string x.term.name, .slice ta x.term.kids.length tc, .slice ba x.body.length bc, .slice ea x.els.length ec] 50)) := by
  have bW : Below w.heap.size w (w.alloc (.cells #[.int .i64 x.kind, .string x.name, .int .i64 x.term.kind, .int .i64 x.term.num, .string x.term.name, .slice ta x.term.kids.length tc, .slice ba x.body.length bc, .slice ea x.els.length ec] 50)) := (Below.refl _ _).alloc (Nat.le_refl _) _
  refine ⟨bW, fun wx hb => ?_⟩
  have k := keeps_below hb
  exact ⟨k _ _ (by simp [go_sem]), k _ _ (by simp [go_sem]), k _ _ (by simp [go_sem]), k _ _ (by simp [go_sem]), k _ _ (by simp [go_sem]), k _ _ (by simp [go_sem]), k _ _ (by simp [go_sem]), k _ _ (by simp [go_sem]), bW.trans (hb.mono bW.size)⟩
theorem rv_set {lo : Nat} {w : World} {x : STree} (h : x.kind = 1) : RV lo w x (.iface 174 (.agg #[.string x.name, rtV x.term])) := by
  cases x with
  | node k s t b e =>
    have h : k = 1 := h
    unfold RV; rw [if_pos h]; rfl
theorem rv_if {lo : Nat} {w : World} {x : STree} {c1 c2 : Value} (h : x.kind = 2) (h1 : LV lo w x.body c1) (h2 : LV lo w x.els c2) : RV lo w x (.iface 180 (.agg #[rtV x.term, c1, c2])) := by
  obtain ⟨a, rfl, h1⟩ := h1
  obtain ⟨c, rfl, h2⟩ := h2
  cases x with
  | node k s t b e =>
    have h : k = 2 := h
    unfold RV; rw [if_neg (by omega), if_pos h]
    exact ⟨a, c, rfl, h1, h2⟩
theorem rv_while {lo : Nat} {w : World} {x : STree} {c1 : Value} (h : x.kind = 3) (h1 : LV lo w x.body c1) : RV lo w x (.iface 182 (.agg #[rtV x.term, c1])) := by
  obtain ⟨a, rfl, h1⟩ := h1
  cases x with
  | node k s t b e =>
    have h : k = 3 := h
    unfold RV; rw [if_neg (by omega), if_neg (by omega), if_pos h]
    exact ⟨a, rfl, h1⟩
theorem rv_skip {lo : Nat} {w : World} {x : STree} (h : x.kind = 8) : RV lo w x (.iface 184 (.agg #[])) := by
  cases x with
  | node k s t b e =>
    have h : k = 8 := h
    unfold RV; rw [if_neg (by omega), if_neg (by omega), if_neg (by omega), if_pos h]
theorem rv_word {lo : Nat} {w : World} {x : STree} (h : x.kind = 4 ∨ x.kind = 5 ∨ x.kind = 6 ∨ x.kind = 7) : RV lo w x (.iface 186 (.agg #[.string x.name, .string (wordB x.kind)])) := by
  cases x with
  | node k s t b e =>
    have h : k = 4 ∨ k = 5 ∨ k = 6 ∨ k = 7 := h
    unfold RV; rw [if_neg (by omega), if_neg (by omega), if_neg (by omega), if_neg (by omega)]; rfl
theorem blk_pos {x : STree} {r : Nat} (h : blkB x r = true) : 1 ≤ r := by
  unfold blkB at h
  simp only [Bool.and_eq_true, decide_eq_true_eq] at h
  omega
theorem wordB_some {k : Int} (h : k = 4 ∨ k = 5 ∨ k = 6 ∨ k = 7) : ¬ (wordB k).size = 0 := by
  rcases h with rfl | rfl | rfl | rfl <;> decide
end Go.Proofs.Ytmhhghdfgdhljaa.Trm
namespace Go.Proofs.Ytmhhghdfgdhljaa.Trm
open Go.RowKit Own Lexs
set_option linter.unusedSimpArgs false in
set_option maxRecDepth 20000 in
set_option maxHeartbeats 6400000 in
theorem within_set (x : STree) (v : Value) (w : World) (r : Nat) (_ : r ≤ 6) (_ : szX x ≤ 1048576) (hx : SB w x v) (hk : x.kind = 1) : Calls Try.prog 107 #[v, .int .i64 (r : Int)] w (WPost x r w) := by
  obtain ⟨_, hnm, ta, tc, ba, bc, ea, ec, rfl, hlt, hlf, hlb, hle⟩ := hx.parts
  have hzz := szX_eq x
  obtain ⟨W1, hW1⟩ : ∃ W1, W1 = w.alloc (.cells #[.int .i64 x.kind, .string x.name, .int .i64 x.term.kind, .int .i64 x.term.num, .string x.term.name, .slice ta x.term.kids.length tc, .slice ba x.body.length bc, .slice ea x.els.length ec] 50) := ⟨_, rfl⟩
  have BX := Lib.hid (by rw [hW1]; exact boxed x ta ba ea tc bc ec w : Boxed x ta ba ea tc bc ec w W1)
  have HW1 := Lib.hid hW1
  have CN : Hid (∀ wx, Below W1.heap.size W1 wx → Calls Try.prog 78 #[.string x.name] wx fun e w' => e = .returned (.bool (isNm x.name.data.toList)) ∧ Below W1.heap.size W1 w') := fun wx hb => (implIsName_any x.name wx hnm).mono fun e w' ⟨he, h⟩ => ⟨he, h ▸ hb⟩
  have CL : Hid (∀ wx, Below W1.heap.size W1 wx → Calls Try.prog 135 #[.agg #[.int .i64 x.kind, .string x.name, .int .i64 x.term.kind, .int .i64 x.term.num, .string x.term.name, .slice ta x.term.kids.length tc, .slice ba x.body.length bc, .slice ea x.els.length ec]] wx fun e w' => e = .returned (.bool (noLists x.body x.els)) ∧ Below W1.heap.size W1 w') := fun wx hb => (implNoLists_any x ta ba ea tc bc ec wx).mono fun e w' ⟨he, h⟩ => ⟨he, hb.trans (h.mono hb.size)⟩
  have CZ : Hid (∀ wx, Below W1.heap.size W1 wx → Calls Try.prog 129 #[.agg #[.int .i64 x.term.kind, .int .i64 x.term.num, .string x.term.name, .slice ta x.term.kids.length tc]] wx fun e w' => e = .returned (.bool (sameT x.term zT)) ∧ Below W1.heap.size W1 w') := fun wx hb => (implNoTerm_any x.term ta tc wx (hlt.keep (keeps_below (BX.out.k wx hb).2.2.2.2.2.2.2.2))).mono fun e w' ⟨he, h⟩ => ⟨he, hb.trans (h.mono hb.size)⟩
  have CT := Lib.hid (fun w2 hb => implRight_any x.term _ w2 6 (Nat.le_refl _) (hlt.keep (keeps_below (w' := w2) hb)))
  have HR := Lib.hid (rx_set (r := r) hk)
  have HO : Hid (okB x.term = rightB x.term 6) := rfl
  have HKD := Lib.hid hk
  have KS : Hid (∀ wx, Below W1.heap.size W1 wx → wx.cell? ⟨w.heap.size, 0, none⟩ = some (.int .i64 x.kind) ∧ wx.cell? ⟨w.heap.size, 1, none⟩ = some (.string x.name) ∧ wx.cell? ⟨w.heap.size, 2, none⟩ = some (.int .i64 x.term.kind) ∧ wx.cell? ⟨w.heap.size, 3, none⟩ = some (.int .i64 x.term.num) ∧ wx.cell? ⟨w.heap.size, 4, none⟩ = some (.string x.term.name) ∧ wx.cell? ⟨w.heap.size, 5, none⟩ = some (.slice ta x.term.kids.length tc) ∧ wx.cell? ⟨w.heap.size, 6, none⟩ = some (.slice ba x.body.length bc) ∧ wx.cell? ⟨w.heap.size, 7, none⟩ = some (.slice ea x.els.length ec) ∧ Below W1.heap.size W1 wx) := fun wx hb => ⟨(BX.out.k wx hb).1, (BX.out.k wx hb).2.1, (BX.out.k wx hb).2.2.1, (BX.out.k wx hb).2.2.2.1, (BX.out.k wx hb).2.2.2.2.1, (BX.out.k wx hb).2.2.2.2.2.1, (BX.out.k wx hb).2.2.2.2.2.2.1, (BX.out.k wx hb).2.2.2.2.2.2.2.1, hb⟩
  clear hx hlt hlf hlb hle hzz hnm hW1
  have hk1 : (x.kind == 1) = true := by simp [hk]
  clear hk
  go_enter Try.func107, Try.ntmps107
  go_wp2_with fail
  rw [← HW1.out]
  refine (CT.out _ BX.out.b).mono ?_
  rintro e w2 ⟨y, rfl, ⟨hy, hif⟩, hb2⟩
  have B2 := Lib.hid hb2
  have hb0 : Below W1.heap.size W1 w2.drew := hb2.drew
  generalize isNm x.name.data.toList = r1 at CN HR
  generalize noLists x.body x.els = r3 at CL HR
  clear hb2
  cases hq : rightB x.term 6 with
  | false =>
    have HF : Hid (rightX x r = false) := by show _ = _; rw [HR.out, HO.out, hq]; rfl
    clear hq hy
    rcases hif with rfl | ⟨ty, pv, rfl⟩
    all_goals
      go_wp2_with fail
      (try dsimp only [List.append])
      refine RegSeq.seq_begin (S := fun wx => wx.cell? ⟨w.heap.size, 0, none⟩ = some (.int .i64 x.kind) ∧ wx.cell? ⟨w.heap.size, 1, none⟩ = some (.string x.name) ∧ wx.cell? ⟨w.heap.size, 2, none⟩ = some (.int .i64 x.term.kind) ∧ wx.cell? ⟨w.heap.size, 3, none⟩ = some (.int .i64 x.term.num) ∧ wx.cell? ⟨w.heap.size, 4, none⟩ = some (.string x.term.name) ∧ wx.cell? ⟨w.heap.size, 5, none⟩ = some (.slice ta x.term.kids.length tc) ∧ wx.cell? ⟨w.heap.size, 6, none⟩ = some (.slice ba x.body.length bc) ∧ wx.cell? ⟨w.heap.size, 7, none⟩ = some (.slice ea x.els.length ec) ∧ Below W1.heap.size W1 wx) (by kernel_rfl) (by kernel_rfl) (by kernel_rfl) (KS.out _ hb0) (fun hHeld => ?_)
      iterate 8 (((refine RegSeq.Seq.take' (v := ?_) (by rfl) (by kernel_rfl) ?_ hHeld ?_; rotate_left; (focus ((intro w hSw; (try dsimp only at hSw); go_simp) <;> with_reducible rfl))); simp only [Act.put, List.setIfInBounds_toArray, List.set_cons_zero, List.set_cons_succ, Nat.reduceAdd]))
      (refine RegSeq.Seq.skips hHeld [32, 33, 34] _ _ (by kernel_rfl) ?_; simp only [RegSeq.skipped, List.length_cons, List.length_nil]; simp only [Act.put, List.setIfInBounds_toArray, List.set_cons_zero, List.set_cons_succ, Nat.reduceAdd])
      iterate 2 (((refine RegSeq.Seq.take' (v := ?_) (by rfl) (by kernel_rfl) ?_ hHeld ?_; rotate_left; (focus ((intro w hSw; (try dsimp only at hSw); go_simp) <;> with_reducible rfl))); simp only [Act.put, List.setIfInBounds_toArray, List.set_cons_zero, List.set_cons_succ, Nat.reduceAdd]))
      (refine RegSeq.Seq.skips hHeld [37, 38] _ _ (by kernel_rfl) ?_; simp only [RegSeq.skipped, List.length_cons, List.length_nil]; simp only [Act.put, List.setIfInBounds_toArray, List.set_cons_zero, List.set_cons_succ, Nat.reduceAdd])
      iterate 3 (((refine RegSeq.Seq.take' (v := ?_) (by rfl) (by kernel_rfl) ?_ hHeld ?_; rotate_left; (focus ((intro w hSw; (try dsimp only at hSw); go_simp) <;> with_reducible rfl))); simp only [Act.put, List.setIfInBounds_toArray, List.set_cons_zero, List.set_cons_succ, Nat.reduceAdd]))
      refine RegSeq.Seq.done (by kernel_rfl) ?_
      clear hHeld
      go_wp2
      go_ret2
      exact w_no HF.out rfl (BX.out.b.trans (Below.mono hb0 BX.out.b.size))
  | true =>
    obtain ⟨ty, pv, hi⟩ := rtV_iface x.term
    obtain rfl : y = .iface ty pv := (hy hq).trans hi
    have HI := Lib.hid hi
    have HQ := Lib.hid hq
    clear hq hy hif hi
    go_wp2_with fail
    (try dsimp only [List.append])
    refine RegSeq.seq_begin (S := fun wx => wx.cell? ⟨w.heap.size, 0, none⟩ = some (.int .i64 x.kind) ∧ wx.cell? ⟨w.heap.size, 1, none⟩ = some (.string x.name) ∧ wx.cell? ⟨w.heap.size, 2, none⟩ = some (.int .i64 x.term.kind) ∧ wx.cell? ⟨w.heap.size, 3, none⟩ = some (.int .i64 x.term.num) ∧ wx.cell? ⟨w.heap.size, 4, none⟩ = some (.string x.term.name) ∧ wx.cell? ⟨w.heap.size, 5, none⟩ = some (.slice ta x.term.kids.length tc) ∧ wx.cell? ⟨w.heap.size, 6, none⟩ = some (.slice ba x.body.length bc) ∧ wx.cell? ⟨w.heap.size, 7, none⟩ = some (.slice ea x.els.length ec) ∧ Below W1.heap.size W1 wx) (by kernel_rfl) (by kernel_rfl) (by kernel_rfl) (KS.out _ hb0) (fun hHeld => ?_)
    iterate 10 (((refine RegSeq.Seq.take' (v := ?_) (by rfl) (by kernel_rfl) ?_ hHeld ?_; rotate_left; (focus ((intro w hSw; (try dsimp only at hSw); go_simp) <;> with_reducible rfl))); simp only [Act.put, List.setIfInBounds_toArray, List.set_cons_zero, List.set_cons_succ, Nat.reduceAdd]))
    refine RegSeq.Seq.step' (by rfl) (by kernel_rfl) (by kernel_rfl) (fun K hK => ?_)
    go_simp
    go_at_call 78
    with_reducible refine (CN.out _ (by assumption)).mono ?_
    rintro e w3 ⟨rfl, bw3⟩
    refine hK.out _ _ (KS.out _ bw3) (fun hHeld => ?_)
    clear hK K
    simp only [Act.put, List.setIfInBounds_toArray, List.set_cons_zero, List.set_cons_succ, Nat.reduceAdd]
    cases r1 with
    | false =>
      have HF : Hid (rightX x r = false) := by show _ = _; rw [HR.out]; simp
      iterate 2 (((refine RegSeq.Seq.take' (v := ?_) (by rfl) (by kernel_rfl) ?_ hHeld ?_; rotate_left; (focus ((intro w hSw; (try dsimp only at hSw); go_simp) <;> with_reducible rfl))); simp only [Act.put, List.setIfInBounds_toArray, List.set_cons_zero, List.set_cons_succ, Nat.reduceAdd]))
      (refine RegSeq.Seq.skips hHeld [37, 38] _ _ (by kernel_rfl) ?_; simp only [RegSeq.skipped, List.length_cons, List.length_nil]; simp only [Act.put, List.setIfInBounds_toArray, List.set_cons_zero, List.set_cons_succ, Nat.reduceAdd])
      iterate 3 (((refine RegSeq.Seq.take' (v := ?_) (by rfl) (by kernel_rfl) ?_ hHeld ?_; rotate_left; (focus ((intro w hSw; (try dsimp only at hSw); go_simp) <;> with_reducible rfl))); simp only [Act.put, List.setIfInBounds_toArray, List.set_cons_zero, List.set_cons_succ, Nat.reduceAdd]))
      refine RegSeq.Seq.done (by kernel_rfl) ?_
      clear hHeld
      go_wp2
      go_ret2
      exact w_no HF.out rfl (BX.out.b.trans (Below.mono bw3 BX.out.b.size))
    | true =>
      iterate 3 (((refine RegSeq.Seq.take' (v := ?_) (by rfl) (by kernel_rfl) ?_ hHeld ?_; rotate_left; (focus ((intro w hSw; (try dsimp only at hSw); go_simp) <;> with_reducible rfl))); simp only [Act.put, List.setIfInBounds_toArray, List.set_cons_zero, List.set_cons_succ, Nat.reduceAdd]))
      refine RegSeq.Seq.step' (by rfl) (by kernel_rfl) (by kernel_rfl) (fun K hK => ?_)
      go_simp
      go_at_call 135
      with_reducible refine (CL.out _ (by assumption)).mono ?_
      rintro e w4 ⟨rfl, bw4⟩
      refine hK.out _ _ (KS.out _ bw4) (fun hHeld => ?_)
      clear hK K
      simp only [Act.put, List.setIfInBounds_toArray, List.set_cons_zero, List.set_cons_succ, Nat.reduceAdd]
      cases r3 with
      | false =>
        have HF : Hid (rightX x r = false) := by show _ = _; rw [HR.out]; simp
        iterate 3 (((refine RegSeq.Seq.take' (v := ?_) (by rfl) (by kernel_rfl) ?_ hHeld ?_; rotate_left; (focus ((intro w hSw; (try dsimp only at hSw); go_simp) <;> with_reducible rfl))); simp only [Act.put, List.setIfInBounds_toArray, List.set_cons_zero, List.set_cons_succ, Nat.reduceAdd]))
        refine RegSeq.Seq.done (by kernel_rfl) ?_
        clear hHeld
        go_wp2
        go_ret2
        exact w_no HF.out rfl (BX.out.b.trans (Below.mono bw4 BX.out.b.size))
      | true =>
        have HF : Hid (rightX x r = true) := by show _ = _; rw [HR.out, HO.out, HQ.out]; rfl
        have HV : Hid (∀ w', RV w.heap.size w' x (.iface 174 (.agg #[.string x.name, .iface ty pv]))) := fun w' => by
          rw [← HI.out]
          exact rv_set HKD.out
        iterate 3 (((refine RegSeq.Seq.take' (v := ?_) (by rfl) (by kernel_rfl) ?_ hHeld ?_; rotate_left; (focus ((intro w hSw; (try dsimp only at hSw); go_simp) <;> with_reducible rfl))); simp only [Act.put, List.setIfInBounds_toArray, List.set_cons_zero, List.set_cons_succ, Nat.reduceAdd]))
        refine RegSeq.Seq.done (by kernel_rfl) ?_
        clear hHeld
        go_wp2
        go_ret2
        exact w_yes HF.out (HV.out _) rfl (BX.out.b.trans (Below.mono bw4 BX.out.b.size))
end Go.Proofs.Ytmhhghdfgdhljaa.Trm
namespace Go.Proofs.Ytmhhghdfgdhljaa.Trm
open Go.RowKit Own Lexs
set_option linter.unusedSimpArgs false in
set_option maxRecDepth 20000 in
set_option maxHeartbeats 6400000 in
theorem within_if (x : STree) (ihb : LOk x.body) (ihe : LOk x.els) (v : Value) (w : World) (r : Nat) (hr : r ≤ 6) (hz : szX x ≤ 1048576) (hx : SB w x v) (hk : x.kind = 2) : Calls Try.prog 107 #[v, .int .i64 (r : Int)] w (WPost x r w) := by
  obtain ⟨_, hnm, ta, tc, ba, bc, ea, ec, rfl, hlt, hlf, hlb, hle⟩ := hx.parts
  have hzz := szX_eq x
  obtain ⟨W1, hW1⟩ : ∃ W1, W1 = w.alloc (.cells #[.int .i64 x.kind, .string x.name, .int .i64 x.term.kind, .int .i64 x.term.num, .string x.term.name, .slice ta x.term.kids.length tc, .slice ba x.body.length bc, .slice ea x.els.length ec] 50) := ⟨_, rfl⟩
  have BX := Lib.hid (by rw [hW1]; exact boxed x ta ba ea tc bc ec w : Boxed x ta ba ea tc bc ec w W1)
  have HW1 := Lib.hid hW1
  have HR := Lib.hid (rx_if (r := r) hk)
  have HKD := Lib.hid hk
  have CB := Lib.hid (fun w2 hb => implBlock_any x ihb _ w2 r hr hz (hx.below (w' := w2) hb))
  have CL := Lib.hid (fun w2 hb => ihe _ w2 (r - 1) (by omega) (by omega) (hle.below (w' := w2) hb))
  have KS : Hid (∀ wx, Below W1.heap.size W1 wx → wx.cell? ⟨w.heap.size, 0, none⟩ = some (.int .i64 x.kind) ∧ wx.cell? ⟨w.heap.size, 1, none⟩ = some (.string x.name) ∧ wx.cell? ⟨w.heap.size, 2, none⟩ = some (.int .i64 x.term.kind) ∧ wx.cell? ⟨w.heap.size, 3, none⟩ = some (.int .i64 x.term.num) ∧ wx.cell? ⟨w.heap.size, 4, none⟩ = some (.string x.term.name) ∧ wx.cell? ⟨w.heap.size, 5, none⟩ = some (.slice ta x.term.kids.length tc) ∧ wx.cell? ⟨w.heap.size, 6, none⟩ = some (.slice ba x.body.length bc) ∧ wx.cell? ⟨w.heap.size, 7, none⟩ = some (.slice ea x.els.length ec) ∧ Below W1.heap.size W1 wx) := fun wx hb => ⟨(BX.out.k wx hb).1, (BX.out.k wx hb).2.1, (BX.out.k wx hb).2.2.1, (BX.out.k wx hb).2.2.2.1, (BX.out.k wx hb).2.2.2.2.1, (BX.out.k wx hb).2.2.2.2.2.1, (BX.out.k wx hb).2.2.2.2.2.2.1, (BX.out.k wx hb).2.2.2.2.2.2.2.1, hb⟩
  have hk1 := ne_true (k := x.kind) (x := 1) (by omega)
  have hk2 : (x.kind == 2) = true := by simp [hk]
  clear hx hlt hlf hlb hle hzz hz hnm hW1 hk
  go_enter Try.func107, Try.ntmps107
  go_wp2_with fail
  rw [← HW1.out]
  refine (CB.out _ BX.out.b).mono ?_
  rintro e w2 ⟨c0, c1, rfl, ⟨hv, hif, a1, n1, m1, rfl⟩, hb2⟩
  have B2 := Lib.hid hb2
  obtain ⟨W3, hW3⟩ : ∃ W3, W3 = w2.alloc (.cells #[c0, .slice a1 n1 m1] 176) := ⟨_, rfl⟩
  have hb3 : Below W1.heap.size W1 W3 := by rw [hW3]; exact hb2.alloc hb2.size _
  have B3 := Lib.hid hb3
  have d0 : W3.cell? ⟨w2.heap.size, 0, none⟩ = some c0 := by rw [hW3]; simp [go_sem]
  have d1 : W3.cell? ⟨w2.heap.size, 1, none⟩ = some (.slice a1 n1 m1) := by rw [hW3]; simp [go_sem]
  have D3 := Lib.hid (And.intro d0 d1)
  have K3 : Hid (Keeps w2 W3) := by show Keeps _ _; rw [hW3]; exact keeps_alloc _ _
  have HW3 := Lib.hid hW3
  obtain ⟨q0, q1, q2, q3, q4, q5, q6, q7, _⟩ := KS.out _ hb3
  clear hb2 hW3 d0 d1
  cases hq : blkB x r with
  | false =>
    have HF : Hid (rightX x r = false) := by show _ = _; rw [HR.out, hq]; rfl
    clear hq hv
    rcases hif with rfl | ⟨ty, pv, rfl⟩
    all_goals
      go_wp2
      rw [← HW3.out]
      go_ret2
      exact w_no HF.out rfl (BX.out.b.trans (Below.mono B3.out BX.out.b.size))
  | true =>
    obtain ⟨hc0, hlv⟩ := hv hq
    have hr1 := blk_pos hq
    have hrn : ((r - 1 : Nat) : Int) = (r : Int) - 1 := by omega
    rw [hrn] at CL
    obtain ⟨ty, pv, hi⟩ := rtV_iface x.term
    have HI := Lib.hid hi
    obtain rfl : c0 = .iface ty pv := hc0.trans hi
    have HLV := Lib.hid hlv
    have HR2 : Hid (rightX x r = rightXS x.els (r - 1)) := by show _ = _; rw [HR.out, hq]; rfl
    clear hq hv hc0 hi hif hlv hrn q0 q1 q2 q3 q4 q5 q6
    rw [HW3.out] at q7
    go_wp2_with fail
    rw [← HW3.out]
    refine (CL.out _ (BX.out.b.trans (Below.mono B3.out BX.out.b.size))).mono ?_
    rintro e w4 ⟨hb4, hres⟩
    have HB4 := Lib.hid (BX.out.b.trans (Below.mono (B3.out.trans (hb4.mono B3.out.size)) BX.out.b.size))
    have k4 := keeps_below hb4
    have K4 := Lib.hid k4
    have r0 := k4 _ _ D3.out.1
    have r1 := k4 _ _ D3.out.2
    obtain ⟨D, hD⟩ : ∃ D, D = w2.heap.size := ⟨_, rfl⟩
    rw [← hD] at r0 r1 ⊢
    clear hb4 k4 hD q7
    rcases hres with ⟨ht, v, rfl, hlv2⟩ | ⟨ht, rfl⟩
    · obtain ⟨a2, rfl, _⟩ := id hlv2
      have HF : Hid (rightX x r = true) := by show _ = _; rw [HR2.out, ht]
      have HV : Hid (RV w.heap.size w4 x (.iface 180 (.agg #[.iface ty pv, .slice a1 n1 m1, .slice a2 x.els.length x.els.length]))) := by
        show RV _ _ _ _
        rw [← HI.out]
        exact rv_if HKD.out (HLV.out.keep BX.out.b.size (fun p u _ e => K4.out _ _ (K3.out _ _ e))) (hlv2.keep (Nat.le_trans BX.out.b.size B3.out.size) (fun _ _ _ h => h))
      clear ht hlv2
      go_wp2
      go_ret2
      exact w_yes HF.out HV.out rfl HB4.out
    · have HF : Hid (rightX x r = false) := by show _ = _; rw [HR2.out, ht]
      clear ht
      go_wp2
      go_ret2
      exact w_no HF.out rfl HB4.out
end Go.Proofs.Ytmhhghdfgdhljaa.Trm
namespace Go.Proofs.Ytmhhghdfgdhljaa.Trm
open Go.RowKit Own Lexs
set_option linter.unusedSimpArgs false in
set_option maxRecDepth 20000 in
set_option maxHeartbeats 6400000 in
theorem within_while (x : STree) (ihb : LOk x.body) (v : Value) (w : World) (r : Nat) (hr : r ≤ 6) (hz : szX x ≤ 1048576) (hx : SB w x v) (hk : x.kind = 3) : Calls Try.prog 107 #[v, .int .i64 (r : Int)] w (WPost x r w) := by
  obtain ⟨_, hnm, ta, tc, ba, bc, ea, ec, rfl, hlt, hlf, hlb, hle⟩ := hx.parts
  have hzz := szX_eq x
  obtain ⟨W1, hW1⟩ : ∃ W1, W1 = w.alloc (.cells #[.int .i64 x.kind, .string x.name, .int .i64 x.term.kind, .int .i64 x.term.num, .string x.term.name, .slice ta x.term.kids.length tc, .slice ba x.body.length bc, .slice ea x.els.length ec] 50) := ⟨_, rfl⟩
  have BX := Lib.hid (by rw [hW1]; exact boxed x ta ba ea tc bc ec w : Boxed x ta ba ea tc bc ec w W1)
  have HW1 := Lib.hid hW1
  have HR := Lib.hid (rx_while (r := r) hk)
  have HKD := Lib.hid hk
  have CB := Lib.hid (fun w2 hb => implBlock_any x ihb _ w2 r hr hz (hx.below (w' := w2) hb))
  have KS : Hid (∀ wx, Below W1.heap.size W1 wx → wx.cell? ⟨w.heap.size, 0, none⟩ = some (.int .i64 x.kind) ∧ wx.cell? ⟨w.heap.size, 1, none⟩ = some (.string x.name) ∧ wx.cell? ⟨w.heap.size, 2, none⟩ = some (.int .i64 x.term.kind) ∧ wx.cell? ⟨w.heap.size, 3, none⟩ = some (.int .i64 x.term.num) ∧ wx.cell? ⟨w.heap.size, 4, none⟩ = some (.string x.term.name) ∧ wx.cell? ⟨w.heap.size, 5, none⟩ = some (.slice ta x.term.kids.length tc) ∧ wx.cell? ⟨w.heap.size, 6, none⟩ = some (.slice ba x.body.length bc) ∧ wx.cell? ⟨w.heap.size, 7, none⟩ = some (.slice ea x.els.length ec) ∧ Below W1.heap.size W1 wx) := fun wx hb => ⟨(BX.out.k wx hb).1, (BX.out.k wx hb).2.1, (BX.out.k wx hb).2.2.1, (BX.out.k wx hb).2.2.2.1, (BX.out.k wx hb).2.2.2.2.1, (BX.out.k wx hb).2.2.2.2.2.1, (BX.out.k wx hb).2.2.2.2.2.2.1, (BX.out.k wx hb).2.2.2.2.2.2.2.1, hb⟩
  have hk1 := ne_true (k := x.kind) (x := 1) (by omega)
  have hk2 := ne_true (k := x.kind) (x := 2) (by omega)
  have hk3 : (x.kind == 3) = true := by simp [hk]
  clear hx hlt hlf hlb hle hzz hz hnm hW1 hk
  go_enter Try.func107, Try.ntmps107
  go_wp2_with fail
  rw [← HW1.out]
  refine (CB.out _ BX.out.b).mono ?_
  rintro e w2 ⟨c0, c1, rfl, ⟨hv, hif, a1, n1, m1, rfl⟩, hb2⟩
  have B2 := Lib.hid hb2
  obtain ⟨W3, hW3⟩ : ∃ W3, W3 = w2.alloc (.cells #[c0, .slice a1 n1 m1] 176) := ⟨_, rfl⟩
  have hb3 : Below W1.heap.size W1 W3 := by rw [hW3]; exact hb2.alloc hb2.size _
  have B3 := Lib.hid hb3
  have d0 : W3.cell? ⟨w2.heap.size, 0, none⟩ = some c0 := by rw [hW3]; simp [go_sem]
  have d1 : W3.cell? ⟨w2.heap.size, 1, none⟩ = some (.slice a1 n1 m1) := by rw [hW3]; simp [go_sem]
  have D3 := Lib.hid (And.intro d0 d1)
  have K3 : Hid (Keeps w2 W3) := by show Keeps _ _; rw [hW3]; exact keeps_alloc _ _
  have HW3 := Lib.hid hW3
  obtain ⟨q0, q1, q2, q3, q4, q5, q6, q7, _⟩ := KS.out _ hb3
  clear hb2 hW3 hb3
  cases hq : blkB x r with
  | false =>
    have HF : Hid (rightX x r = false) := by show _ = _; rw [HR.out, hq]; rfl
    clear hq hv
    rcases hif with rfl | ⟨ty, pv, rfl⟩
    · go_wp2_with fail
      rw [← HW3.out]
      obtain ⟨D, hD⟩ : ∃ D, D = w2.heap.size := ⟨_, rfl⟩
      rw [← hD] at d0 d1 ⊢
      clear hD
      (try dsimp only [List.append])
      refine RegSeq.seq_begin (S := fun wx => wx.cell? ⟨D, 0, none⟩ = some .nilIface ∧ wx.cell? ⟨D, 1, none⟩ = some (.slice a1 n1 m1) ∧ wx.cell? ⟨w.heap.size, 7, none⟩ = some (.slice ea x.els.length ec)) (by kernel_rfl) (by kernel_rfl) (by kernel_rfl) (And.intro d0 (And.intro d1 q7)) (fun hHeld => ?_)
      iterate 5 (((refine RegSeq.Seq.take' (v := ?_) (by rfl) (by kernel_rfl) ?_ hHeld ?_; rotate_left; (focus ((intro w hSw; (try dsimp only at hSw); go_simp) <;> with_reducible rfl))); simp only [Act.put, List.setIfInBounds_toArray, List.set_cons_zero, List.set_cons_succ, Nat.reduceAdd]))
      (refine RegSeq.Seq.skips hHeld [76, 77, 78, 79] _ _ (by kernel_rfl) ?_; simp only [RegSeq.skipped, List.length_cons, List.length_nil]; simp only [Act.put, List.setIfInBounds_toArray, List.set_cons_zero, List.set_cons_succ, Nat.reduceAdd])
      iterate 3 (((refine RegSeq.Seq.take' (v := ?_) (by rfl) (by kernel_rfl) ?_ hHeld ?_; rotate_left; (focus ((intro w hSw; (try dsimp only at hSw); go_simp) <;> with_reducible rfl))); simp only [Act.put, List.setIfInBounds_toArray, List.set_cons_zero, List.set_cons_succ, Nat.reduceAdd]))
      refine RegSeq.Seq.done (by kernel_rfl) ?_
      clear hHeld
      go_wp2
      go_ret2
      exact w_no HF.out rfl (BX.out.b.trans (Below.mono B3.out.drew BX.out.b.size))
    · go_wp2_with fail
      rw [← HW3.out]
      obtain ⟨D, hD⟩ : ∃ D, D = w2.heap.size := ⟨_, rfl⟩
      rw [← hD] at d0 d1 ⊢
      clear hD
      (try dsimp only [List.append])
      refine RegSeq.seq_begin (S := fun wx => wx.cell? ⟨D, 0, none⟩ = some (.iface ty pv) ∧ wx.cell? ⟨D, 1, none⟩ = some (.slice a1 n1 m1) ∧ wx.cell? ⟨w.heap.size, 7, none⟩ = some (.slice ea x.els.length ec)) (by kernel_rfl) (by kernel_rfl) (by kernel_rfl) (And.intro d0 (And.intro d1 q7)) (fun hHeld => ?_)
      iterate 5 (((refine RegSeq.Seq.take' (v := ?_) (by rfl) (by kernel_rfl) ?_ hHeld ?_; rotate_left; (focus ((intro w hSw; (try dsimp only at hSw); go_simp) <;> with_reducible rfl))); simp only [Act.put, List.setIfInBounds_toArray, List.set_cons_zero, List.set_cons_succ, Nat.reduceAdd]))
      (refine RegSeq.Seq.skips hHeld [76, 77, 78, 79] _ _ (by kernel_rfl) ?_; simp only [RegSeq.skipped, List.length_cons, List.length_nil]; simp only [Act.put, List.setIfInBounds_toArray, List.set_cons_zero, List.set_cons_succ, Nat.reduceAdd])
      iterate 3 (((refine RegSeq.Seq.take' (v := ?_) (by rfl) (by kernel_rfl) ?_ hHeld ?_; rotate_left; (focus ((intro w hSw; (try dsimp only at hSw); go_simp) <;> with_reducible rfl))); simp only [Act.put, List.setIfInBounds_toArray, List.set_cons_zero, List.set_cons_succ, Nat.reduceAdd]))
      refine RegSeq.Seq.done (by kernel_rfl) ?_
      clear hHeld
      go_wp2
      go_ret2
      exact w_no HF.out rfl (BX.out.b.trans (Below.mono B3.out.drew BX.out.b.size))
  | true =>
    obtain ⟨hc0, hlv⟩ := hv hq
    obtain ⟨ty, pv, hi⟩ := rtV_iface x.term
    have HI := Lib.hid hi
    obtain rfl : c0 = .iface ty pv := hc0.trans hi
    have HLV := Lib.hid hlv
    have HR2 : Hid (rightX x r = decide (x.els.length = 0)) := by show _ = _; rw [HR.out, hq]; rfl
    have HV : Hid (RV w.heap.size W3.drew x (.iface 182 (.agg #[.iface ty pv, .slice a1 n1 m1]))) := by
      show RV _ _ _ _
      rw [← HI.out]
      exact rv_while HKD.out ((HLV.out.keep BX.out.b.size (fun p u _ e => K3.out _ _ e)).keep (Nat.le_refl _) ((keeps_drew W3).from _))
    clear hq hv hc0 hi hif hlv
    by_cases hl : x.els.length = 0
    · have hql : ((x.els.length : Int) == 0) = true := by rw [hl]; rfl
      have HF : Hid (rightX x r = true) := by show _ = _; rw [HR2.out]; simp [hl]
      clear hl
      go_wp2_with fail
      rw [← HW3.out]
      obtain ⟨D, hD⟩ : ∃ D, D = w2.heap.size := ⟨_, rfl⟩
      rw [← hD] at d0 d1 ⊢
      clear hD
      (try dsimp only [List.append])
      refine RegSeq.seq_begin (S := fun wx => wx.cell? ⟨D, 0, none⟩ = some (.iface ty pv) ∧ wx.cell? ⟨D, 1, none⟩ = some (.slice a1 n1 m1) ∧ wx.cell? ⟨w.heap.size, 7, none⟩ = some (.slice ea x.els.length ec)) (by kernel_rfl) (by kernel_rfl) (by kernel_rfl) (And.intro d0 (And.intro d1 q7)) (fun hHeld => ?_)
      iterate 12 (((refine RegSeq.Seq.take' (v := ?_) (by rfl) (by kernel_rfl) ?_ hHeld ?_; rotate_left; (focus ((intro w hSw; (try dsimp only at hSw); go_simp) <;> with_reducible rfl))); simp only [Act.put, List.setIfInBounds_toArray, List.set_cons_zero, List.set_cons_succ, Nat.reduceAdd]))
      refine RegSeq.Seq.done (by kernel_rfl) ?_
      clear hHeld
      go_wp2
      go_ret2
      exact w_yes HF.out HV.out rfl (BX.out.b.trans (Below.mono B3.out.drew BX.out.b.size))
    · have hql : ((x.els.length : Int) == 0) = false := ne_true (by omega)
      have HF : Hid (rightX x r = false) := by show _ = _; rw [HR2.out]; simp [hl]
      clear hl
      go_wp2_with fail
      rw [← HW3.out]
      obtain ⟨D, hD⟩ : ∃ D, D = w2.heap.size := ⟨_, rfl⟩
      rw [← hD] at d0 d1 ⊢
      clear hD
      (try dsimp only [List.append])
      refine RegSeq.seq_begin (S := fun wx => wx.cell? ⟨D, 0, none⟩ = some (.iface ty pv) ∧ wx.cell? ⟨D, 1, none⟩ = some (.slice a1 n1 m1) ∧ wx.cell? ⟨w.heap.size, 7, none⟩ = some (.slice ea x.els.length ec)) (by kernel_rfl) (by kernel_rfl) (by kernel_rfl) (And.intro d0 (And.intro d1 q7)) (fun hHeld => ?_)
      iterate 12 (((refine RegSeq.Seq.take' (v := ?_) (by rfl) (by kernel_rfl) ?_ hHeld ?_; rotate_left; (focus ((intro w hSw; (try dsimp only at hSw); go_simp) <;> with_reducible rfl))); simp only [Act.put, List.setIfInBounds_toArray, List.set_cons_zero, List.set_cons_succ, Nat.reduceAdd]))
      refine RegSeq.Seq.done (by kernel_rfl) ?_
      clear hHeld
      go_wp2
      go_ret2
      exact w_no HF.out rfl (BX.out.b.trans (Below.mono B3.out.drew BX.out.b.size))
end Go.Proofs.Ytmhhghdfgdhljaa.Trm
namespace Go.Proofs.Ytmhhghdfgdhljaa.Trm
open Go.RowKit Own Lexs
set_option linter.unusedSimpArgs false in
set_option maxRecDepth 20000 in
set_option maxHeartbeats 6400000 in
theorem within_skip (x : STree) (v : Value) (w : World) (r : Nat) (_ : r ≤ 6) (_ : szX x ≤ 1048576) (hx : SB w x v) (hk : x.kind = 8) : Calls Try.prog 107 #[v, .int .i64 (r : Int)] w (WPost x r w) := by
  obtain ⟨_, hnm, ta, tc, ba, bc, ea, ec, rfl, hlt, hlf, hlb, hle⟩ := hx.parts
  have hzz := szX_eq x
  obtain ⟨W1, hW1⟩ : ∃ W1, W1 = w.alloc (.cells #[.int .i64 x.kind, .string x.name, .int .i64 x.term.kind, .int .i64 x.term.num, .string x.term.name, .slice ta x.term.kids.length tc, .slice ba x.body.length bc, .slice ea x.els.length ec] 50) := ⟨_, rfl⟩
  have BX := Lib.hid (by rw [hW1]; exact boxed x ta ba ea tc bc ec w : Boxed x ta ba ea tc bc ec w W1)
  have HW1 := Lib.hid hW1
  have CN : Hid (∀ wx, Below W1.heap.size W1 wx → Calls Try.prog 78 #[.string x.name] wx fun e w' => e = .returned (.bool (isNm x.name.data.toList)) ∧ Below W1.heap.size W1 w') := fun wx hb => (implIsName_any x.name wx hnm).mono fun e w' ⟨he, h⟩ => ⟨he, h ▸ hb⟩
  have CL : Hid (∀ wx, Below W1.heap.size W1 wx → Calls Try.prog 135 #[.agg #[.int .i64 x.kind, .string x.name, .int .i64 x.term.kind, .int .i64 x.term.num, .string x.term.name, .slice ta x.term.kids.length tc, .slice ba x.body.length bc, .slice ea x.els.length ec]] wx fun e w' => e = .returned (.bool (noLists x.body x.els)) ∧ Below W1.heap.size W1 w') := fun wx hb => (implNoLists_any x ta ba ea tc bc ec wx).mono fun e w' ⟨he, h⟩ => ⟨he, hb.trans (h.mono hb.size)⟩
  have CZ : Hid (∀ wx, Below W1.heap.size W1 wx → Calls Try.prog 129 #[.agg #[.int .i64 x.term.kind, .int .i64 x.term.num, .string x.term.name, .slice ta x.term.kids.length tc]] wx fun e w' => e = .returned (.bool (sameT x.term zT)) ∧ Below W1.heap.size W1 w') := fun wx hb => (implNoTerm_any x.term ta tc wx (hlt.keep (keeps_below (BX.out.k wx hb).2.2.2.2.2.2.2.2))).mono fun e w' ⟨he, h⟩ => ⟨he, hb.trans (h.mono hb.size)⟩
  have HR := Lib.hid (rx_skip (r := r) hk)
  have HV : Hid (∀ w', RV w.heap.size w' x (.iface 184 (.agg #[]))) := fun w' => rv_skip hk
  have KS : Hid (∀ wx, Below W1.heap.size W1 wx → wx.cell? ⟨w.heap.size, 0, none⟩ = some (.int .i64 x.kind) ∧ wx.cell? ⟨w.heap.size, 1, none⟩ = some (.string x.name) ∧ wx.cell? ⟨w.heap.size, 2, none⟩ = some (.int .i64 x.term.kind) ∧ wx.cell? ⟨w.heap.size, 3, none⟩ = some (.int .i64 x.term.num) ∧ wx.cell? ⟨w.heap.size, 4, none⟩ = some (.string x.term.name) ∧ wx.cell? ⟨w.heap.size, 5, none⟩ = some (.slice ta x.term.kids.length tc) ∧ wx.cell? ⟨w.heap.size, 6, none⟩ = some (.slice ba x.body.length bc) ∧ wx.cell? ⟨w.heap.size, 7, none⟩ = some (.slice ea x.els.length ec) ∧ Below W1.heap.size W1 wx) := fun wx hb => ⟨(BX.out.k wx hb).1, (BX.out.k wx hb).2.1, (BX.out.k wx hb).2.2.1, (BX.out.k wx hb).2.2.2.1, (BX.out.k wx hb).2.2.2.2.1, (BX.out.k wx hb).2.2.2.2.2.1, (BX.out.k wx hb).2.2.2.2.2.2.1, (BX.out.k wx hb).2.2.2.2.2.2.2.1, hb⟩
  have hk1 := ne_true (k := x.kind) (x := 1) (by omega)
  have hk2 := ne_true (k := x.kind) (x := 2) (by omega)
  have hk3 := ne_true (k := x.kind) (x := 3) (by omega)
  have hk8 : (x.kind == 8) = true := by simp [hk]
  have b00 : Below W1.heap.size W1 W1 := Below.refl _ _
  clear hx hlt hlf hlb hle hzz hnm hW1 hk
  generalize sameT x.term zT = r2 at CZ HR
  generalize noLists x.body x.els = r3 at CL HR
  by_cases hs : x.name.size = 0
  · have he := empty_true hs
    have HR2 : Hid (rightX x r = (r2 && r3)) := by show _ = _; rw [HR.out]; simp [hs]
    clear hs
    go_enter Try.func107, Try.ntmps107
    go_wp2_with fail
    rw [← HW1.out]
    refine (CZ.out _ b00).mono ?_
    rintro e w3 ⟨rfl, b3⟩
    obtain ⟨q0, q1, q2, q3, q4, q5, q6, q7, _⟩ := KS.out _ b3
    cases r2 with
    | false =>
      have HF : Hid (rightX x r = false) := by show _ = _; rw [HR2.out]; rfl
      go_wp2
      go_ret2
      exact w_no HF.out rfl (BX.out.b.trans (Below.mono b3 BX.out.b.size))
    | true =>
      go_wp2_with fail
      refine (CL.out _ b3).mono ?_
      rintro e w4 ⟨rfl, b4⟩
      cases r3 with
      | false =>
        have HF : Hid (rightX x r = false) := by show _ = _; rw [HR2.out]; rfl
        go_wp2
        go_ret2
        exact w_no HF.out rfl (BX.out.b.trans (Below.mono b4 BX.out.b.size))
      | true =>
        have HF : Hid (rightX x r = true) := by show _ = _; rw [HR2.out]; rfl
        go_wp2
        go_ret2
        exact w_yes HF.out (HV.out _) rfl (BX.out.b.trans (Below.mono b4 BX.out.b.size))
  · have he := empty_false hs
    have HF : Hid (rightX x r = false) := by show _ = _; rw [HR.out]; simp [hs]
    clear hs
    go_enter Try.func107, Try.ntmps107
    go_wp2
    rw [← HW1.out]
    go_ret2
    exact w_no HF.out rfl BX.out.b
end Go.Proofs.Ytmhhghdfgdhljaa.Trm
namespace Go.Proofs.Ytmhhghdfgdhljaa.Trm
open Go.RowKit Own Lexs
set_option linter.unusedSimpArgs false in
set_option maxRecDepth 20000 in
set_option maxHeartbeats 6400000 in
theorem within_word (x : STree) (v : Value) (w : World) (r : Nat) (_ : r ≤ 6) (_ : szX x ≤ 1048576) (hx : SB w x v) (hk : x.kind = 4 ∨ x.kind = 5 ∨ x.kind = 6 ∨ x.kind = 7) : Calls Try.prog 107 #[v, .int .i64 (r : Int)] w (WPost x r w) := by
  obtain ⟨_, hnm, ta, tc, ba, bc, ea, ec, rfl, hlt, hlf, hlb, hle⟩ := hx.parts
  have hzz := szX_eq x
  obtain ⟨W1, hW1⟩ : ∃ W1, W1 = w.alloc (.cells #[.int .i64 x.kind, .string x.name, .int .i64 x.term.kind, .int .i64 x.term.num, .string x.term.name, .slice ta x.term.kids.length tc, .slice ba x.body.length bc, .slice ea x.els.length ec] 50) := ⟨_, rfl⟩
  have BX := Lib.hid (by rw [hW1]; exact boxed x ta ba ea tc bc ec w : Boxed x ta ba ea tc bc ec w W1)
  have HW1 := Lib.hid hW1
  have CN : Hid (∀ wx, Below W1.heap.size W1 wx → Calls Try.prog 78 #[.string x.name] wx fun e w' => e = .returned (.bool (isNm x.name.data.toList)) ∧ Below W1.heap.size W1 w') := fun wx hb => (implIsName_any x.name wx hnm).mono fun e w' ⟨he, h⟩ => ⟨he, h ▸ hb⟩
  have CL : Hid (∀ wx, Below W1.heap.size W1 wx → Calls Try.prog 135 #[.agg #[.int .i64 x.kind, .string x.name, .int .i64 x.term.kind, .int .i64 x.term.num, .string x.term.name, .slice ta x.term.kids.length tc, .slice ba x.body.length bc, .slice ea x.els.length ec]] wx fun e w' => e = .returned (.bool (noLists x.body x.els)) ∧ Below W1.heap.size W1 w') := fun wx hb => (implNoLists_any x ta ba ea tc bc ec wx).mono fun e w' ⟨he, h⟩ => ⟨he, hb.trans (h.mono hb.size)⟩
  have CZ : Hid (∀ wx, Below W1.heap.size W1 wx → Calls Try.prog 129 #[.agg #[.int .i64 x.term.kind, .int .i64 x.term.num, .string x.term.name, .slice ta x.term.kids.length tc]] wx fun e w' => e = .returned (.bool (sameT x.term zT)) ∧ Below W1.heap.size W1 w') := fun wx hb => (implNoTerm_any x.term ta tc wx (hlt.keep (keeps_below (BX.out.k wx hb).2.2.2.2.2.2.2.2))).mono fun e w' ⟨he, h⟩ => ⟨he, hb.trans (h.mono hb.size)⟩
  have CW := Lib.hid (fun w2 => implWord_any x.kind w2)
  have HR := Lib.hid (rx_word (r := r) hk)
  have HWE := Lib.hid (empty_false (wordB_some hk))
  have HV : Hid (∀ w', RV w.heap.size w' x (.iface 186 (.agg #[.string x.name, .string (wordB x.kind)]))) := fun w' => rv_word hk
  have KS : Hid (∀ wx, Below W1.heap.size W1 wx → wx.cell? ⟨w.heap.size, 0, none⟩ = some (.int .i64 x.kind) ∧ wx.cell? ⟨w.heap.size, 1, none⟩ = some (.string x.name) ∧ wx.cell? ⟨w.heap.size, 2, none⟩ = some (.int .i64 x.term.kind) ∧ wx.cell? ⟨w.heap.size, 3, none⟩ = some (.int .i64 x.term.num) ∧ wx.cell? ⟨w.heap.size, 4, none⟩ = some (.string x.term.name) ∧ wx.cell? ⟨w.heap.size, 5, none⟩ = some (.slice ta x.term.kids.length tc) ∧ wx.cell? ⟨w.heap.size, 6, none⟩ = some (.slice ba x.body.length bc) ∧ wx.cell? ⟨w.heap.size, 7, none⟩ = some (.slice ea x.els.length ec) ∧ Below W1.heap.size W1 wx) := fun wx hb => ⟨(BX.out.k wx hb).1, (BX.out.k wx hb).2.1, (BX.out.k wx hb).2.2.1, (BX.out.k wx hb).2.2.2.1, (BX.out.k wx hb).2.2.2.2.1, (BX.out.k wx hb).2.2.2.2.2.1, (BX.out.k wx hb).2.2.2.2.2.2.1, (BX.out.k wx hb).2.2.2.2.2.2.2.1, hb⟩
  have hk1 := ne_true (k := x.kind) (x := 1) (by omega)
  have hk2 := ne_true (k := x.kind) (x := 2) (by omega)
  have hk3 := ne_true (k := x.kind) (x := 3) (by omega)
  have hk8 := ne_true (k := x.kind) (x := 8) (by omega)
  have b00 : Below W1.heap.size W1 W1 := Below.refl _ _
  clear hx hlt hlf hlb hle hzz hnm hW1 hk
  generalize wordB x.kind = wd at CW HWE HV
  have hwe := HWE.out
  go_enter Try.func107, Try.ntmps107
  go_wp2_with fail
  rw [← HW1.out]
  refine (CW.out _).mono ?_
  rintro e w2 ⟨rfl, rfl⟩
  have hb0 : Below W1.heap.size W1 W1.drew := b00.drew
  generalize isNm x.name.data.toList = r1 at CN HR
  generalize sameT x.term zT = r2 at CZ HR
  generalize noLists x.body x.els = r3 at CL HR
  go_wp2_with fail
  (try dsimp only [List.append])
  refine RegSeq.seq_begin (S := fun wx => wx.cell? ⟨w.heap.size, 0, none⟩ = some (.int .i64 x.kind) ∧ wx.cell? ⟨w.heap.size, 1, none⟩ = some (.string x.name) ∧ wx.cell? ⟨w.heap.size, 2, none⟩ = some (.int .i64 x.term.kind) ∧ wx.cell? ⟨w.heap.size, 3, none⟩ = some (.int .i64 x.term.num) ∧ wx.cell? ⟨w.heap.size, 4, none⟩ = some (.string x.term.name) ∧ wx.cell? ⟨w.heap.size, 5, none⟩ = some (.slice ta x.term.kids.length tc) ∧ wx.cell? ⟨w.heap.size, 6, none⟩ = some (.slice ba x.body.length bc) ∧ wx.cell? ⟨w.heap.size, 7, none⟩ = some (.slice ea x.els.length ec) ∧ Below W1.heap.size W1 wx) (by kernel_rfl) (by kernel_rfl) (by kernel_rfl) (KS.out _ hb0) (fun hHeld => ?_)
  iterate 9 (((refine RegSeq.Seq.take' (v := ?_) (by rfl) (by kernel_rfl) ?_ hHeld ?_; rotate_left; (focus ((intro w hSw; (try dsimp only at hSw); go_simp) <;> with_reducible rfl))); simp only [Act.put, List.setIfInBounds_toArray, List.set_cons_zero, List.set_cons_succ, Nat.reduceAdd]))
  iterate 2 (((refine RegSeq.Seq.take' (v := ?_) (by rfl) (by kernel_rfl) ?_ hHeld ?_; rotate_left; (focus ((intro w hSw; (try dsimp only at hSw); go_simp) <;> with_reducible rfl))); simp only [Act.put, List.setIfInBounds_toArray, List.set_cons_zero, List.set_cons_succ, Nat.reduceAdd]))
  refine RegSeq.Seq.step' (by rfl) (by kernel_rfl) (by kernel_rfl) (fun K hK => ?_)
  go_simp
  go_at_call 78
  with_reducible refine (CN.out _ (by assumption)).mono ?_
  rintro e w3 ⟨rfl, bw3⟩
  refine hK.out _ _ (KS.out _ bw3) (fun hHeld => ?_)
  clear hK K
  simp only [Act.put, List.setIfInBounds_toArray, List.set_cons_zero, List.set_cons_succ, Nat.reduceAdd]
  cases r1 with
  | false =>
    have HF : Hid (rightX x r = false) := by show _ = _; rw [HR.out]; rfl
    iterate 2 (((refine RegSeq.Seq.take' (v := ?_) (by rfl) (by kernel_rfl) ?_ hHeld ?_; rotate_left; (focus ((intro w hSw; (try dsimp only at hSw); go_simp) <;> with_reducible rfl))); simp only [Act.put, List.setIfInBounds_toArray, List.set_cons_zero, List.set_cons_succ, Nat.reduceAdd]))
    (refine RegSeq.Seq.skips hHeld [114, 115, 116] _ _ (by kernel_rfl) ?_; simp only [RegSeq.skipped, List.length_cons, List.length_nil]; simp only [Act.put, List.setIfInBounds_toArray, List.set_cons_zero, List.set_cons_succ, Nat.reduceAdd])
    iterate 2 (((refine RegSeq.Seq.take' (v := ?_) (by rfl) (by kernel_rfl) ?_ hHeld ?_; rotate_left; (focus ((intro w hSw; (try dsimp only at hSw); go_simp) <;> with_reducible rfl))); simp only [Act.put, List.setIfInBounds_toArray, List.set_cons_zero, List.set_cons_succ, Nat.reduceAdd]))
    (refine RegSeq.Seq.skips hHeld [119, 120] _ _ (by kernel_rfl) ?_; simp only [RegSeq.skipped, List.length_cons, List.length_nil]; simp only [Act.put, List.setIfInBounds_toArray, List.set_cons_zero, List.set_cons_succ, Nat.reduceAdd])
    iterate 3 (((refine RegSeq.Seq.take' (v := ?_) (by rfl) (by kernel_rfl) ?_ hHeld ?_; rotate_left; (focus ((intro w hSw; (try dsimp only at hSw); go_simp) <;> with_reducible rfl))); simp only [Act.put, List.setIfInBounds_toArray, List.set_cons_zero, List.set_cons_succ, Nat.reduceAdd]))
    refine RegSeq.Seq.done (by kernel_rfl) ?_
    clear hHeld
    go_wp2
    go_ret2
    exact w_no HF.out rfl (BX.out.b.trans (Below.mono bw3 BX.out.b.size))
  | true =>
    iterate 4 (((refine RegSeq.Seq.take' (v := ?_) (by rfl) (by kernel_rfl) ?_ hHeld ?_; rotate_left; (focus ((intro w hSw; (try dsimp only at hSw); go_simp) <;> with_reducible rfl))); simp only [Act.put, List.setIfInBounds_toArray, List.set_cons_zero, List.set_cons_succ, Nat.reduceAdd]))
    refine RegSeq.Seq.step' (by rfl) (by kernel_rfl) (by kernel_rfl) (fun K hK => ?_)
    go_simp
    go_at_call 129
    with_reducible refine (CZ.out _ (by assumption)).mono ?_
    rintro e w4 ⟨rfl, bw4⟩
    refine hK.out _ _ (KS.out _ bw4) (fun hHeld => ?_)
    clear hK K
    simp only [Act.put, List.setIfInBounds_toArray, List.set_cons_zero, List.set_cons_succ, Nat.reduceAdd]
    cases r2 with
    | false =>
      have HF : Hid (rightX x r = false) := by show _ = _; rw [HR.out]; rfl
      iterate 2 (((refine RegSeq.Seq.take' (v := ?_) (by rfl) (by kernel_rfl) ?_ hHeld ?_; rotate_left; (focus ((intro w hSw; (try dsimp only at hSw); go_simp) <;> with_reducible rfl))); simp only [Act.put, List.setIfInBounds_toArray, List.set_cons_zero, List.set_cons_succ, Nat.reduceAdd]))
      (refine RegSeq.Seq.skips hHeld [119, 120] _ _ (by kernel_rfl) ?_; simp only [RegSeq.skipped, List.length_cons, List.length_nil]; simp only [Act.put, List.setIfInBounds_toArray, List.set_cons_zero, List.set_cons_succ, Nat.reduceAdd])
      iterate 3 (((refine RegSeq.Seq.take' (v := ?_) (by rfl) (by kernel_rfl) ?_ hHeld ?_; rotate_left; (focus ((intro w hSw; (try dsimp only at hSw); go_simp) <;> with_reducible rfl))); simp only [Act.put, List.setIfInBounds_toArray, List.set_cons_zero, List.set_cons_succ, Nat.reduceAdd]))
      refine RegSeq.Seq.done (by kernel_rfl) ?_
      clear hHeld
      go_wp2
      go_ret2
      exact w_no HF.out rfl (BX.out.b.trans (Below.mono bw4 BX.out.b.size))
    | true =>
      iterate 3 (((refine RegSeq.Seq.take' (v := ?_) (by rfl) (by kernel_rfl) ?_ hHeld ?_; rotate_left; (focus ((intro w hSw; (try dsimp only at hSw); go_simp) <;> with_reducible rfl))); simp only [Act.put, List.setIfInBounds_toArray, List.set_cons_zero, List.set_cons_succ, Nat.reduceAdd]))
      refine RegSeq.Seq.step' (by rfl) (by kernel_rfl) (by kernel_rfl) (fun K hK => ?_)
      go_simp
      go_at_call 135
      with_reducible refine (CL.out _ (by assumption)).mono ?_
      rintro e w5 ⟨rfl, bw5⟩
      refine hK.out _ _ (KS.out _ bw5) (fun hHeld => ?_)
      clear hK K
      simp only [Act.put, List.setIfInBounds_toArray, List.set_cons_zero, List.set_cons_succ, Nat.reduceAdd]
      cases r3 with
      | false =>
        have HF : Hid (rightX x r = false) := by show _ = _; rw [HR.out]; rfl
        iterate 3 (((refine RegSeq.Seq.take' (v := ?_) (by rfl) (by kernel_rfl) ?_ hHeld ?_; rotate_left; (focus ((intro w hSw; (try dsimp only at hSw); go_simp) <;> with_reducible rfl))); simp only [Act.put, List.setIfInBounds_toArray, List.set_cons_zero, List.set_cons_succ, Nat.reduceAdd]))
        refine RegSeq.Seq.done (by kernel_rfl) ?_
        clear hHeld
        go_wp2
        go_ret2
        exact w_no HF.out rfl (BX.out.b.trans (Below.mono bw5 BX.out.b.size))
      | true =>
        have HF : Hid (rightX x r = true) := by show _ = _; rw [HR.out]; rfl
        iterate 3 (((refine RegSeq.Seq.take' (v := ?_) (by rfl) (by kernel_rfl) ?_ hHeld ?_; rotate_left; (focus ((intro w hSw; (try dsimp only at hSw); go_simp) <;> with_reducible rfl))); simp only [Act.put, List.setIfInBounds_toArray, List.set_cons_zero, List.set_cons_succ, Nat.reduceAdd]))
        refine RegSeq.Seq.done (by kernel_rfl) ?_
        clear hHeld
        go_wp2
        go_ret2
        exact w_yes HF.out (HV.out _) rfl (BX.out.b.trans (Below.mono bw5 BX.out.b.size))
end Go.Proofs.Ytmhhghdfgdhljaa.Trm
namespace Go.Proofs.Ytmhhghdfgdhljaa.Trm
open Go.RowKit Own Lexs
set_option linter.unusedSimpArgs false in
set_option maxRecDepth 20000 in
set_option maxHeartbeats 6400000 in
theorem within_none (x : STree) (v : Value) (w : World) (r : Nat) (_ : r ≤ 6) (_ : szX x ≤ 1048576) (hx : SB w x v) (hk : ¬ (1 ≤ x.kind ∧ x.kind ≤ 8)) : Calls Try.prog 107 #[v, .int .i64 (r : Int)] w (WPost x r w) := by
  obtain ⟨_, hnm, ta, tc, ba, bc, ea, ec, rfl, hlt, hlf, hlb, hle⟩ := hx.parts
  have hzz := szX_eq x
  obtain ⟨W1, hW1⟩ : ∃ W1, W1 = w.alloc (.cells #[.int .i64 x.kind, .string x.name, .int .i64 x.term.kind, .int .i64 x.term.num, .string x.term.name, .slice ta x.term.kids.length tc, .slice ba x.body.length bc, .slice ea x.els.length ec] 50) := ⟨_, rfl⟩
  have BX := Lib.hid (by rw [hW1]; exact boxed x ta ba ea tc bc ec w : Boxed x ta ba ea tc bc ec w W1)
  have HW1 := Lib.hid hW1
  have CN : Hid (∀ wx, Below W1.heap.size W1 wx → Calls Try.prog 78 #[.string x.name] wx fun e w' => e = .returned (.bool (isNm x.name.data.toList)) ∧ Below W1.heap.size W1 w') := fun wx hb => (implIsName_any x.name wx hnm).mono fun e w' ⟨he, h⟩ => ⟨he, h ▸ hb⟩
  have CL : Hid (∀ wx, Below W1.heap.size W1 wx → Calls Try.prog 135 #[.agg #[.int .i64 x.kind, .string x.name, .int .i64 x.term.kind, .int .i64 x.term.num, .string x.term.name, .slice ta x.term.kids.length tc, .slice ba x.body.length bc, .slice ea x.els.length ec]] wx fun e w' => e = .returned (.bool (noLists x.body x.els)) ∧ Below W1.heap.size W1 w') := fun wx hb => (implNoLists_any x ta ba ea tc bc ec wx).mono fun e w' ⟨he, h⟩ => ⟨he, hb.trans (h.mono hb.size)⟩
  have CZ : Hid (∀ wx, Below W1.heap.size W1 wx → Calls Try.prog 129 #[.agg #[.int .i64 x.term.kind, .int .i64 x.term.num, .string x.term.name, .slice ta x.term.kids.length tc]] wx fun e w' => e = .returned (.bool (sameT x.term zT)) ∧ Below W1.heap.size W1 w') := fun wx hb => (implNoTerm_any x.term ta tc wx (hlt.keep (keeps_below (BX.out.k wx hb).2.2.2.2.2.2.2.2))).mono fun e w' ⟨he, h⟩ => ⟨he, hb.trans (h.mono hb.size)⟩
  have CW := Lib.hid (fun w2 => implWord_any x.kind w2)
  have HF : Hid (rightX x r = false) := rx_none (by omega)
  have HWE := Lib.hid (empty_true (p := wordB x.kind) (by rw [wordB_none (by omega)]; rfl))
  have KS : Hid (∀ wx, Below W1.heap.size W1 wx → wx.cell? ⟨w.heap.size, 0, none⟩ = some (.int .i64 x.kind) ∧ wx.cell? ⟨w.heap.size, 1, none⟩ = some (.string x.name) ∧ wx.cell? ⟨w.heap.size, 2, none⟩ = some (.int .i64 x.term.kind) ∧ wx.cell? ⟨w.heap.size, 3, none⟩ = some (.int .i64 x.term.num) ∧ wx.cell? ⟨w.heap.size, 4, none⟩ = some (.string x.term.name) ∧ wx.cell? ⟨w.heap.size, 5, none⟩ = some (.slice ta x.term.kids.length tc) ∧ wx.cell? ⟨w.heap.size, 6, none⟩ = some (.slice ba x.body.length bc) ∧ wx.cell? ⟨w.heap.size, 7, none⟩ = some (.slice ea x.els.length ec) ∧ Below W1.heap.size W1 wx) := fun wx hb => ⟨(BX.out.k wx hb).1, (BX.out.k wx hb).2.1, (BX.out.k wx hb).2.2.1, (BX.out.k wx hb).2.2.2.1, (BX.out.k wx hb).2.2.2.2.1, (BX.out.k wx hb).2.2.2.2.2.1, (BX.out.k wx hb).2.2.2.2.2.2.1, (BX.out.k wx hb).2.2.2.2.2.2.2.1, hb⟩
  have hk1 := ne_true (k := x.kind) (x := 1) (by omega)
  have hk2 := ne_true (k := x.kind) (x := 2) (by omega)
  have hk3 := ne_true (k := x.kind) (x := 3) (by omega)
  have hk8 := ne_true (k := x.kind) (x := 8) (by omega)
  have b00 : Below W1.heap.size W1 W1 := Below.refl _ _
  clear hx hlt hlf hlb hle hzz hnm hW1 hk
  generalize wordB x.kind = wd at CW HWE
  have hwe := HWE.out
  go_enter Try.func107, Try.ntmps107
  go_wp2_with fail
  rw [← HW1.out]
  refine (CW.out _).mono ?_
  rintro e w2 ⟨rfl, rfl⟩
  have hb0 : Below W1.heap.size W1 W1.drew := b00.drew
  go_wp2_with fail
  (try dsimp only [List.append])
  refine RegSeq.seq_begin (S := fun wx => wx.cell? ⟨w.heap.size, 0, none⟩ = some (.int .i64 x.kind) ∧ wx.cell? ⟨w.heap.size, 1, none⟩ = some (.string x.name) ∧ wx.cell? ⟨w.heap.size, 2, none⟩ = some (.int .i64 x.term.kind) ∧ wx.cell? ⟨w.heap.size, 3, none⟩ = some (.int .i64 x.term.num) ∧ wx.cell? ⟨w.heap.size, 4, none⟩ = some (.string x.term.name) ∧ wx.cell? ⟨w.heap.size, 5, none⟩ = some (.slice ta x.term.kids.length tc) ∧ wx.cell? ⟨w.heap.size, 6, none⟩ = some (.slice ba x.body.length bc) ∧ wx.cell? ⟨w.heap.size, 7, none⟩ = some (.slice ea x.els.length ec) ∧ Below W1.heap.size W1 wx) (by kernel_rfl) (by kernel_rfl) (by kernel_rfl) (KS.out _ hb0) (fun hHeld => ?_)
  iterate 9 (((refine RegSeq.Seq.take' (v := ?_) (by rfl) (by kernel_rfl) ?_ hHeld ?_; rotate_left; (focus ((intro w hSw; (try dsimp only at hSw); go_simp) <;> with_reducible rfl))); simp only [Act.put, List.setIfInBounds_toArray, List.set_cons_zero, List.set_cons_succ, Nat.reduceAdd]))
  (refine RegSeq.Seq.skips hHeld [109, 110, 111] _ _ (by kernel_rfl) ?_; simp only [RegSeq.skipped, List.length_cons, List.length_nil]; simp only [Act.put, List.setIfInBounds_toArray, List.set_cons_zero, List.set_cons_succ, Nat.reduceAdd])
  iterate 2 (((refine RegSeq.Seq.take' (v := ?_) (by rfl) (by kernel_rfl) ?_ hHeld ?_; rotate_left; (focus ((intro w hSw; (try dsimp only at hSw); go_simp) <;> with_reducible rfl))); simp only [Act.put, List.setIfInBounds_toArray, List.set_cons_zero, List.set_cons_succ, Nat.reduceAdd]))
  (refine RegSeq.Seq.skips hHeld [114, 115, 116] _ _ (by kernel_rfl) ?_; simp only [RegSeq.skipped, List.length_cons, List.length_nil]; simp only [Act.put, List.setIfInBounds_toArray, List.set_cons_zero, List.set_cons_succ, Nat.reduceAdd])
  iterate 2 (((refine RegSeq.Seq.take' (v := ?_) (by rfl) (by kernel_rfl) ?_ hHeld ?_; rotate_left; (focus ((intro w hSw; (try dsimp only at hSw); go_simp) <;> with_reducible rfl))); simp only [Act.put, List.setIfInBounds_toArray, List.set_cons_zero, List.set_cons_succ, Nat.reduceAdd]))
  (refine RegSeq.Seq.skips hHeld [119, 120] _ _ (by kernel_rfl) ?_; simp only [RegSeq.skipped, List.length_cons, List.length_nil]; simp only [Act.put, List.setIfInBounds_toArray, List.set_cons_zero, List.set_cons_succ, Nat.reduceAdd])
  iterate 3 (((refine RegSeq.Seq.take' (v := ?_) (by rfl) (by kernel_rfl) ?_ hHeld ?_; rotate_left; (focus ((intro w hSw; (try dsimp only at hSw); go_simp) <;> with_reducible rfl))); simp only [Act.put, List.setIfInBounds_toArray, List.set_cons_zero, List.set_cons_succ, Nat.reduceAdd]))
  refine RegSeq.Seq.done (by kernel_rfl) ?_
  clear hHeld
  go_wp2
  go_ret2
  exact w_no HF.out rfl (BX.out.b.trans (Below.mono hb0 BX.out.b.size))
end Go.Proofs.Ytmhhghdfgdhljaa.Trm
