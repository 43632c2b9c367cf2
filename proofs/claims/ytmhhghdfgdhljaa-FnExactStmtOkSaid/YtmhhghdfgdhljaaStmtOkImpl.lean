/- The program's StmtOk, walked. Conditions: the statement lies in rows that are not frozen; it has at most 2 to the 20 statements, kids and bytes within it. -/
import Derived.Test.YtmhhghdfgdhljaaWithinAny
import Derived.Test.YtmhhghdfgdhljaaCountInImpl
namespace Go.Proofs.Ytmhhghdfgdhljaa.Trm
open Go.RowKit Own Lexs
/-- A list of one statement, laid anew, lies both ways. -/
theorem one_sb {w : World} {x : STree} {v : Value} (h : SB w x v) : ∃ cs, v = .agg cs ∧ ∀ T, SListF (w.alloc (.cells cs T)) (.slice (some ⟨w.heap.size, 0, none⟩) 1 1) [x] := by
  obtain ⟨ta, tc, ba, bc, ea, ec, rfl⟩ := h.l.shape
  refine ⟨_, rfl, fun T => ⟨by simp, _, 1, rfl, fun _ => ⟨w.heap.size, 0, rfl, ⟨_, _, heap_alloc_new _ _⟩, ⟨ta, tc, ba, bc, ea, ec, ?_, ?_, ?_, ?_, ?_, ?_, ?_, ?_, h.f.keep (keepF_below ((Below.refl _ _).alloc (Nat.le_refl _) _))⟩, trivial⟩⟩⟩ <;> simp [go_sem]
/-- What the reading of one statement by itself hands back. -/
def OPost (x : STree) (w : World) (e : Ending) (w' : World) : Prop := ∃ u, e = .returned (.tuple #[u, .bool (okXS [x])]) ∧ ((okXS [x] = true → RV w.heap.size w' x u) ∧ IfV u) ∧ Below w.heap.size w w'
theorem ok_one (x : STree) : okXS [x] = (decide (cntXS [x] ≤ 60) && rightX x 6) := by unfold okXS; rw [rightXS, rightXS, Bool.and_true]
theorem implStmtOf_any (x : STree) (v : Value) (w : World) (hz : szX x ≤ 1048576) (hx : SB w x v) :
    Calls Try.prog 66 #[v] w (OPost x w) := by
  have hcnt : cntXS [x] ≤ 1100000 := by
    have := cntX_le x
    simp only [cntXS]; omega
  have hsh := hx.l.shape
  have C : Hid (∀ W, Below w.heap.size w W → W.heap.size = w.heap.size + 1 → ∀ cs, v = .agg cs → Calls Try.prog 70 #[.slice (some ⟨w.heap.size + 1, 0, none⟩) 1 1] (W.alloc (.cells cs 50)) fun e w' => e = .returned (.int .i64 (cntXS [x] : Int)) ∧ Below W.heap.size W w') := fun W hk hn cs e => by
    rw [← hn]
    obtain ⟨cs', e', h⟩ := one_sb (hx.below hk)
    rw [e] at e'
    cases e'
    refine (Cn.implCount_any [x] _ _ hcnt (h 50)).mono ?_
    rintro e w1 ⟨rfl, hb⟩
    exact ⟨rfl, below_box1 hb⟩
  have CW := Lib.hid (fun w2 hb => within_any x v w2 6 (Nat.le_refl _) (by omega) (hx.below (w' := w2) hb))
  have HO := Lib.hid (ok_one x)
  obtain ⟨ta, tc, ba, bc, ea, ec, rfl⟩ := hsh
  obtain ⟨W1, hW1⟩ : ∃ W1, W1 = w.alloc (.cells #[.int .i64 x.kind, .string x.name, .int .i64 x.term.kind, .int .i64 x.term.num, .string x.term.name, .slice ta x.term.kids.length tc, .slice ba x.body.length bc, .slice ea x.els.length ec] 50) := ⟨_, rfl⟩
  have BX := Lib.hid (by rw [hW1]; exact boxed x ta ba ea tc bc ec w : Boxed x ta ba ea tc bc ec w W1)
  have hn1 : W1.heap.size = w.heap.size + 1 := by rw [hW1]; simp
  have HN1 := Lib.hid hn1
  have HW1 := Lib.hid hW1
  clear hx hz hW1 hn1
  by_cases hc : cntXS [x] ≤ 60
  · have HE : Hid (okXS [x] = rightX x 6) := by show _ = _; rw [HO.out]; simp [hc]
    have hq : ¬ (60 : Int) < (cntXS [x] : Int) := by omega
    generalize cntXS [x] = n at C hq
    clear hc hcnt
    go_enter Try.func66, Try.ntmps66
    go_wp2_with fail
    rw [← HW1.out]
    refine (C.out W1 BX.out.b HN1.out _ rfl).mono ?_
    rintro e w1 ⟨rfl, hb1⟩
    have B1 := Lib.hid (BX.out.b.trans (hb1.mono BX.out.b.size))
    obtain ⟨p0, p1, p2, p3, p4, p5, p6, p7, _⟩ := BX.out.k _ hb1
    clear hb1
    go_wp2_with fail
    refine (CW.out _ B1.out).mono ?_
    rintro e w2 ⟨u, rfl, ⟨hu, hif⟩, hb2⟩
    have B2 := Lib.hid (B1.out.trans (hb2.mono B1.out.size))
    have HU : Hid (okXS [x] = true → RV w.heap.size w2 x u) := fun h => (hu (by rw [← HE.out]; exact h)).keep B1.out.size (fun _ _ _ h => h)
    have HIF := Lib.hid hif
    clear hb2 hu hif p0 p1 p2 p3 p4 p5 p6 p7
    go_wp2
    go_ret2
    exact ⟨_, by rw [HE.out]; rfl, ⟨HU.out, HIF.out⟩, B2.out⟩
  · have HE : Hid (okXS [x] = false) := by show _ = _; rw [HO.out]; simp [hc]
    have hq : (60 : Int) < (cntXS [x] : Int) := by omega
    generalize cntXS [x] = n at C hq
    clear hc hcnt
    go_enter Try.func66, Try.ntmps66
    go_wp2_with fail
    rw [← HW1.out]
    refine (C.out W1 BX.out.b HN1.out _ rfl).mono ?_
    rintro e w1 ⟨rfl, hb1⟩
    have B1 := Lib.hid (BX.out.b.trans (hb1.mono BX.out.b.size))
    clear hb1
    go_wp2
    go_ret2
    exact ⟨.nilIface, by rw [HE.out]; rfl, ⟨(fun h => by rw [HE.out] at h; cases h), .inl rfl⟩, B1.out⟩
theorem implStmtOk_any (x : STree) (v : Value) (w : World) (hz : szX x ≤ 1048576) (hx : SB w x v) :
    Calls Try.prog 23 #[v] w fun e w' => e = .returned (.bool (okXS [x])) ∧ Below w.heap.size w w' := by
  have C := Lib.hid (fun w2 hb => implStmtOf_any x v w2 hz (hx.below (w' := w2) hb))
  obtain ⟨ta, tc, ba, bc, ea, ec, rfl⟩ := hx.l.shape
  clear hx hz
  go_enter Try.func23, Try.ntmps23
  go_wp2_with fail
  refine (C.out _ ((Below.refl _ _).alloc (Nat.le_refl _) _)).mono ?_
  rintro e w1 ⟨u, rfl, _, hb⟩
  have HB := Lib.hid (below_box1 hb)
  clear hb
  go_wp2
  go_ret
  exact ⟨rfl, HB.out⟩
end Go.Proofs.Ytmhhghdfgdhljaa.Trm
