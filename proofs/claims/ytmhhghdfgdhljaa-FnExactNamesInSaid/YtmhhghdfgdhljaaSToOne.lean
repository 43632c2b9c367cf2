/- The laws' copy of one statement, walked. Conditions: the statement lies in memory; it has at most 2 to the 20 names and statements at once. -/
import Derived.Test.YtmhhghdfgdhljaaSTo
namespace Go.Proofs.Ytmhhghdfgdhljaa.Trm
open Go.RowKit Own
/-- A statement's block of eight cells, known whole. -/
def Row8 (w : World) (b : Nat) (c0 c1 c2 c3 c4 c5 c6 c7 : Value) : Prop := w.heap[b]? = some (.cells #[c0, c1, c2, c3, c4, c5, c6, c7] 50 (0, 0))
theorem Row8.cells {w : World} {b : Nat} {c0 c1 c2 c3 c4 c5 c6 c7 : Value} (h : Row8 w b c0 c1 c2 c3 c4 c5 c6 c7) : Box8 w b c0 c1 c2 c3 c4 c5 c6 c7 := by
  unfold Row8 at h
  refine ⟨?_, ?_, ?_, ?_, ?_, ?_, ?_, ?_⟩ <;> (rw [cell_of_row w b _ _ _ _ h]; rfl)
theorem Row8.free {w : World} {b : Nat} {c0 c1 c2 c3 c4 c5 c6 c7 : Value} (h : Row8 w b c0 c1 c2 c3 c4 c5 c6 c7) (j : Nat) : w.frozen? ⟨b, j, none⟩ = false := frozen_of_row w b j _ _ h
theorem Row8.below {w w' : World} {b B : Nat} {c0 c1 c2 c3 c4 c5 c6 c7 : Value} (h : Row8 w b c0 c1 c2 c3 c4 c5 c6 c7) (hb : Below B w w') (hlt : b < B) : Row8 w' b c0 c1 c2 c3 c4 c5 c6 c7 := (hb.block b hlt).trans h
theorem Row8.other {w : World} {b q i : Nat} {v c0 c1 c2 c3 c4 c5 c6 c7 : Value} (h : Row8 w b c0 c1 c2 c3 c4 c5 c6 c7) (hn : b ≠ q) : Row8 (w.setCell ⟨q, i, none⟩ v) b c0 c1 c2 c3 c4 c5 c6 c7 := (heap_setCell_other w _ b v hn).trans h
theorem Row8.put {w : World} {b i : Nat} {v c0 c1 c2 c3 c4 c5 c6 c7 : Value} (h : Row8 w b c0 c1 c2 c3 c4 c5 c6 c7) : (w.setCell ⟨b, i, none⟩ v).heap[b]? = some (.cells (#[c0, c1, c2, c3, c4, c5, c6, c7].setIfInBounds i v) 50 (0, 0)) := heap_setCell_same w b i _ _ v h
theorem top_at (w : World) (o : Obj) (k : Nat) (h : k = w.heap.size) : (w.alloc o).heap[k]? = some o := by subst h; exact heap_alloc_new w o
set_option maxRecDepth 20000 in
set_option maxHeartbeats 1600000 in
theorem toStmt_any : ∀ x : STree, ToXOk x := streeInd fun k s t b e ihb ihe v w hz hl => by
  obtain ⟨h1, h2, h3, h4, ta, tc, ba, bc, ea, ec, rfl, h5, h6, h7⟩ := hl
  rw [szX] at hz
  have CT := Lib.hid (fun w hk => toTerm_any t _ w (by omega) (h5.keep hk))
  have CB := Lib.hid (fun w hk => toXS_any b ihb (.slice ba b.length bc) w (by omega) (SListAt.keep ⟨h3, _, _, rfl, h6⟩ hk))
  have CE := Lib.hid (fun w hk => toXS_any e ihe (.slice ea e.length ec) w (by omega) (SListAt.keep ⟨h4, _, _, rfl, h7⟩ hk))
  have H1 := Lib.hid h1
  have H2 := Lib.hid h2
  obtain ⟨W, hW⟩ : ∃ W, W = ((w.alloc (.cells #[.int .i64 k, .string s, .int .i64 t.kind, .int .i64 t.num, .string t.name, .slice ta t.kids.length tc, .slice ba b.length bc, .slice ea e.length ec] 42)).alloc (.cells #[.int .i64 0, .string ⟨#[]⟩, .int .i64 0, .int .i64 0, .string ⟨#[]⟩, .slice none 0 0, .slice none 0 0, .slice none 0 0] 50)).alloc (.cells #[.int .i64 k, .string s, .int .i64 0, .int .i64 0, .string ⟨#[]⟩, .slice none 0 0, .slice none 0 0, .slice none 0 0] 50) := ⟨_, rfl⟩
  have hWs : W.heap.size = w.heap.size + 1 + 1 + 1 := by rw [hW]; simp
  have kW : Keeps w W := by rw [hW]; exact ((keeps_alloc _ _).trans (keeps_alloc _ _)).trans (keeps_alloc _ _)
  have bW : Below w.heap.size w W := by rw [hW]; exact (((Below.refl _ _).alloc (Nat.le_refl _) _).alloc (by simp) _).alloc (by simp; omega) _
  have XW : Box8 W w.heap.size (.int .i64 k) (.string s) (.int .i64 t.kind) (.int .i64 t.num) (.string t.name) (.slice ta t.kids.length tc) (.slice ba b.length bc) (.slice ea e.length ec) := by
    rw [hW]
    exact (Box8.new w _ _ _ _ _ _ _ _ _).keep ((keeps_alloc _ _).trans (keeps_alloc _ _))
  have RW : Row8 W (w.heap.size + 1) (.int .i64 0) (.string ⟨#[]⟩) (.int .i64 0) (.int .i64 0) (.string ⟨#[]⟩) (.slice none 0 0) (.slice none 0 0) (.slice none 0 0) := by
    rw [hW]
    exact (heap_alloc_old _ _ (by simp)).trans (top_at _ _ _ (by simp))
  have OW : Row8 W (w.heap.size + 1 + 1) (.int .i64 k) (.string s) (.int .i64 0) (.int .i64 0) (.string ⟨#[]⟩) (.slice none 0 0) (.slice none 0 0) (.slice none 0 0) := by
    rw [hW]
    exact top_at _ _ _ (by simp)
  have HW := Lib.hid hW
  have HWs := Lib.hid hWs
  have KW := Lib.hid kW
  have BW := Lib.hid bW
  have XW' := Lib.hid XW
  have RW' := Lib.hid RW
  have OW' := Lib.hid OW
  clear ihb ihe h1 h2 h5 h6 h7 hz hW hWs kW bW XW RW OW
  go_enter Try.func22, Try.ntmps22
  go_wp2_with fail
  rw [← HW.out]
  refine (CT.out W KW.out).mono ?_
  rintro e1 w1 ⟨v1, rfl, ho1, hb1⟩
  obtain ⟨va, vc, rfl⟩ := ho1.shape
  have HO1 := Lib.hid ho1
  have HB1 := Lib.hid hb1
  have X1 := Lib.hid (XW'.out.keep (keeps_below hb1))
  have R1 := Lib.hid (RW'.out.below hb1 (by rw [HWs.out]; omega))
  have O1 := Lib.hid (OW'.out.below hb1 (by rw [HWs.out]; omega))
  obtain ⟨x0, x1, x2, x3, x4, x5, x6, x7⟩ := X1.out
  obtain ⟨o0, o1, o2, o3, o4, o5, o6, o7⟩ := O1.out.cells
  have f2 := O1.out.free 2
  have f3 := O1.out.free 3
  have f4 := O1.out.free 4
  have f5 := O1.out.free 5
  clear ho1 hb1
  go_wp2_with fail
  obtain ⟨W2, hW2⟩ : ∃ W2, W2 = (((w1.setCell ⟨w.heap.size + 1 + 1, 2, none⟩ (.int .i64 t.kind)).setCell ⟨w.heap.size + 1 + 1, 3, none⟩ (.int .i64 t.num)).setCell ⟨w.heap.size + 1 + 1, 4, none⟩ (.string t.name)).setCell ⟨w.heap.size + 1 + 1, 5, none⟩ (.slice va t.kids.length vc) := ⟨_, rfl⟩
  rw [← hW2]
  have hs2 : W2.heap.size = w1.heap.size := by rw [hW2]; simp
  have hsw1 : w.heap.size + 1 + 1 + 1 ≤ w1.heap.size := by have := HB1.out.size; rw [HWs.out] at this; exact this
  have B2 : Below w.heap.size w W2 := by
    rw [hW2]
    exact ((((BW.out.trans (HB1.out.mono BW.out.size)).setCell (by simp; omega) _).setCell (by simp; omega) _).setCell (by simp; omega) _).setCell (by simp; omega) _
  have O2 : Row8 W2 (w.heap.size + 1 + 1) (.int .i64 k) (.string s) (.int .i64 t.kind) (.int .i64 t.num) (.string t.name) (.slice va t.kids.length vc) (.slice none 0 0) (.slice none 0 0) := by
    rw [hW2]
    exact Row8.put (i := 5) (Row8.put (i := 4) (Row8.put (i := 3) (Row8.put (i := 2) O1.out)))
  have R2 : Row8 W2 (w.heap.size + 1) (.int .i64 0) (.string ⟨#[]⟩) (.int .i64 0) (.int .i64 0) (.string ⟨#[]⟩) (.slice none 0 0) (.slice none 0 0) (.slice none 0 0) := by
    rw [hW2]
    exact (((R1.out.other (by omega)).other (by omega)).other (by omega)).other (by omega)
  have S2 : ∀ q, w.heap.size + 1 + 1 < q → W2.heap[q]? = w1.heap[q]? := fun q hq => by
    rw [hW2, heap_setCell_other _ _ _ _ (by simp; omega), heap_setCell_other _ _ _ _ (by simp; omega), heap_setCell_other _ _ _ _ (by simp; omega), heap_setCell_other _ _ _ _ (by simp; omega)]
  have X2 : Box8 W2 w.heap.size (.int .i64 k) (.string s) (.int .i64 t.kind) (.int .i64 t.num) (.string t.name) (.slice ta t.kids.length tc) (.slice ba b.length bc) (.slice ea e.length ec) := by
    have h : W2.heap[w.heap.size]? = w1.heap[w.heap.size]? := by
      rw [hW2, heap_setCell_other _ _ _ _ (by simp; omega), heap_setCell_other _ _ _ _ (by simp; omega), heap_setCell_other _ _ _ _ (by simp; omega), heap_setCell_other _ _ _ _ (by simp; omega)]
    have hc : ∀ j, W2.cell? ⟨w.heap.size, j, none⟩ = w1.cell? ⟨w.heap.size, j, none⟩ := fun j => World.cell?_of_block h
    exact ⟨(hc 0).trans x0, (hc 1).trans x1, (hc 2).trans x2, (hc 3).trans x3, (hc 4).trans x4, (hc 5).trans x5, (hc 6).trans x6, (hc 7).trans x7⟩
  have HS2 := Lib.hid hs2
  have HB2 := Lib.hid B2
  have HO2 := Lib.hid O2
  have HR2 := Lib.hid R2
  have HSm2 := Lib.hid S2
  have HX2 := Lib.hid X2
  have K2 := Lib.hid (keeps_below B2)
  clear hs2 B2 O2 R2 S2 X2 hW2 x0 x1 x2 x3 x4 x5 x6 x7 o0 o1 o2 o3 o4 o5 o6 o7 f2 f3 f4 f5
  refine (CB.out W2 K2.out).mono ?_
  rintro e2 w3 ⟨bv, rfl, ho3, hb3⟩
  have hlt3 : w.heap.size + 1 + 1 < W2.heap.size := by rw [HS2.out]; omega
  have O3 := Lib.hid (HO2.out.below hb3 hlt3)
  have R3 := Lib.hid (HR2.out.below hb3 (by omega))
  have X3 := Lib.hid (HX2.out.keep (keeps_below hb3))
  have HO3 := Lib.hid ho3
  have HB3 := Lib.hid hb3
  obtain ⟨_, bva, bvc, rfl, _⟩ := ho3.list
  obtain ⟨x0, x1, x2, x3, x4, x5, x6, x7⟩ := X3.out
  obtain ⟨o0, o1, o2, o3, o4, o5, o6, o7⟩ := O3.out.cells
  have f6 := O3.out.free 6
  clear ho3 hb3
  go_wp2_with fail
  obtain ⟨W4, hW4⟩ : ∃ W4, W4 = w3.setCell ⟨w.heap.size + 1 + 1, 6, none⟩ (.slice bva b.length bvc) := ⟨_, rfl⟩
  rw [← hW4]
  have hs4 : W4.heap.size = w3.heap.size := by rw [hW4]; simp
  have hsw3 : W2.heap.size ≤ w3.heap.size := HB3.out.size
  have B4 : Below w.heap.size w W4 := by
    rw [hW4]
    exact (HB2.out.trans (HB3.out.mono HB2.out.size)).setCell (by simp; omega) _
  have O4 : Row8 W4 (w.heap.size + 1 + 1) (.int .i64 k) (.string s) (.int .i64 t.kind) (.int .i64 t.num) (.string t.name) (.slice va t.kids.length vc) (.slice bva b.length bvc) (.slice none 0 0) := by
    rw [hW4]
    exact Row8.put (i := 6) O3.out
  have R4 : Row8 W4 (w.heap.size + 1) (.int .i64 0) (.string ⟨#[]⟩) (.int .i64 0) (.int .i64 0) (.string ⟨#[]⟩) (.slice none 0 0) (.slice none 0 0) (.slice none 0 0) := by
    rw [hW4]
    exact R3.out.other (by omega)
  have S4 : ∀ q, w.heap.size + 1 + 1 < q → W4.heap[q]? = w3.heap[q]? := fun q hq => by
    rw [hW4, heap_setCell_other _ _ _ _ (by simp; omega)]
  have X4 : Box8 W4 w.heap.size (.int .i64 k) (.string s) (.int .i64 t.kind) (.int .i64 t.num) (.string t.name) (.slice ta t.kids.length tc) (.slice ba b.length bc) (.slice ea e.length ec) := by
    have h : W4.heap[w.heap.size]? = w3.heap[w.heap.size]? := by rw [hW4, heap_setCell_other _ _ _ _ (by simp; omega)]
    have hc : ∀ j, W4.cell? ⟨w.heap.size, j, none⟩ = w3.cell? ⟨w.heap.size, j, none⟩ := fun j => World.cell?_of_block h
    exact ⟨(hc 0).trans x0, (hc 1).trans x1, (hc 2).trans x2, (hc 3).trans x3, (hc 4).trans x4, (hc 5).trans x5, (hc 6).trans x6, (hc 7).trans x7⟩
  have HS4 := Lib.hid hs4
  have HB4 := Lib.hid B4
  have HO4 := Lib.hid O4
  have HR4 := Lib.hid R4
  have HSm4 := Lib.hid S4
  have HX4 := Lib.hid X4
  have K4 := Lib.hid (keeps_below B4)
  clear hs4 B4 O4 R4 S4 X4 hW4 x0 x1 x2 x3 x4 x5 x6 x7 o0 o1 o2 o3 o4 o5 o6 o7 f6
  refine (CE.out W4 K4.out).mono ?_
  rintro e3 w5 ⟨ev, rfl, ho5, hb5⟩
  have hlt5 : w.heap.size + 1 + 1 < W4.heap.size := by rw [HS4.out]; omega
  have O5 := Lib.hid (HO4.out.below hb5 hlt5)
  have R5 := Lib.hid (HR4.out.below hb5 (by omega))
  have HO5 := Lib.hid ho5
  have HB5 := Lib.hid hb5
  obtain ⟨_, eva, evc, rfl, _⟩ := ho5.list
  obtain ⟨o0, o1, o2, o3, o4, o5, o6, o7⟩ := O5.out.cells
  obtain ⟨r0, r1, r2, r3, r4, r5, r6, r7⟩ := R5.out.cells
  have f7 := O5.out.free 7
  have g0 := R5.out.free 0
  have g1 := R5.out.free 1
  have g2 := R5.out.free 2
  have g3 := R5.out.free 3
  have g4 := R5.out.free 4
  have g5 := R5.out.free 5
  have g6 := R5.out.free 6
  have g7 := R5.out.free 7
  have hsw5 : W4.heap.size ≤ w5.heap.size := HB5.out.size
  clear ho5 hb5
  go_wp2
  refine bodyPost_ret (v := .agg #[.int .i64 k, .string s, .int .i64 t.kind, .int .i64 t.num, .string t.name, .slice va t.kids.length vc, .slice bva b.length bvc, .slice eva e.length evc]) (by simp [results, Try.results22, go_sem, r0, r1, r2, r3, r4, r5, r6, r7]) rfl ⟨_, rfl, ?_, ?_⟩
  · have e24 := HS2.out
    have e44 := HS4.out
    refine SOwns.mk (x := .node k s t b e) (m1 := w1.heap.size) (m2 := w3.heap.size) H1.out H2.out ?_ ?_ ?_
    · refine Owns.wide (lo := W.heap.size) (by rw [HWs.out]; omega) (Nat.le_refl _) (Owns.same (fun q h1 h2 => ?_) HO1.out)
      rw [HWs.out] at h1
      rw [heap_setCell_other _ _ _ _ (by simp; omega), heap_setCell_other _ _ _ _ (by simp; omega), heap_setCell_other _ _ _ _ (by simp; omega), heap_setCell_other _ _ _ _ (by simp; omega), heap_setCell_other _ _ _ _ (by simp; omega), heap_setCell_other _ _ _ _ (by simp; omega), heap_setCell_other _ _ _ _ (by simp; omega), heap_setCell_other _ _ _ _ (by simp; omega), heap_setCell_other _ _ _ _ (by simp; omega)]
      rw [HB5.out.block q (by omega), HSm4.out q (by omega), HB3.out.block q (by omega), HSm2.out q (by omega)]
    · refine SOwnsK.wide (lo := W2.heap.size) (by omega) (Nat.le_refl _) (SOwnsK.same (fun q h1 h2 => ?_) HO3.out)
      rw [heap_setCell_other _ _ _ _ (by simp; omega), heap_setCell_other _ _ _ _ (by simp; omega), heap_setCell_other _ _ _ _ (by simp; omega), heap_setCell_other _ _ _ _ (by simp; omega), heap_setCell_other _ _ _ _ (by simp; omega), heap_setCell_other _ _ _ _ (by simp; omega), heap_setCell_other _ _ _ _ (by simp; omega), heap_setCell_other _ _ _ _ (by simp; omega), heap_setCell_other _ _ _ _ (by simp; omega)]
      rw [HB5.out.block q (by omega), HSm4.out q (by omega)]
    · refine SOwnsK.wide (lo := W4.heap.size) (by omega) (by simp) (SOwnsK.same (fun q h1 h2 => ?_) HO5.out)
      rw [heap_setCell_other _ _ _ _ (by simp; omega), heap_setCell_other _ _ _ _ (by simp; omega), heap_setCell_other _ _ _ _ (by simp; omega), heap_setCell_other _ _ _ _ (by simp; omega), heap_setCell_other _ _ _ _ (by simp; omega), heap_setCell_other _ _ _ _ (by simp; omega), heap_setCell_other _ _ _ _ (by simp; omega), heap_setCell_other _ _ _ _ (by simp; omega), heap_setCell_other _ _ _ _ (by simp; omega)]
  · exact (((((((((HB4.out.trans (HB5.out.mono HB4.out.size)).setCell (by simp; omega) _).setCell (by simp) _).setCell (by simp) _).setCell (by simp) _).setCell (by simp) _).setCell (by simp) _).setCell (by simp) _).setCell (by simp) _).setCell (by simp) _
end Go.Proofs.Ytmhhghdfgdhljaa.Trm
