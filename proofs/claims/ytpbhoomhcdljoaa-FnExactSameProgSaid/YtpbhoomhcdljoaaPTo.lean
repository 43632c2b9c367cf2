/- The laws' copies of procedures and programs, walked. Conditions: they lie in memory, at most 2 to the 20 in all. -/
import Derived.Test.YtpbhoomhcdljoaaPOwn
import Derived.Test.YtpbhoomhcdljoaaPSize
import Derived.Test.YtpbhoomhcdljoaaSToOne
namespace Go.Proofs.Ytpbhoomhcdljoaa.Trm
open Go.RowKit Own
theorem infoProc : (Try.prog.info? 47).map (fun i => (i.zero, i.size, i.bytes)) = some (some (.agg #[.string ⟨#[]⟩, .slice none 0 0]), 2, 40) := by kernel_rfl
/-- A block of two cells that is not frozen, whatever its type. -/
def Row2 (w : World) (b : Nat) (c0 c1 : Value) : Prop := w.heap[b]? = some (.cells #[c0, c1] 47 (0, 0))
theorem Row2.cells {w : World} {b : Nat} {c0 c1 : Value} (h : Row2 w b c0 c1) : Box2 w b c0 c1 := by
  unfold Row2 at h
  refine ⟨?_, ?_⟩ <;> simp [World.cell?, h]
theorem Row2.free {w : World} {b : Nat} {c0 c1 : Value} (h : Row2 w b c0 c1) (j : Nat) : w.frozen? ⟨b, j, none⟩ = false := frozen_of_row w b j _ _ h
theorem Row2.below {w w' : World} {b B : Nat} {c0 c1 : Value} (h : Row2 w b c0 c1) (hb : Below B w w') (hlt : b < B) : Row2 w' b c0 c1 := (hb.block b hlt).trans h
theorem Row2.other {w : World} {b q i : Nat} {v c0 c1 : Value} (h : Row2 w b c0 c1) (hn : b ≠ q) : Row2 (w.setCell ⟨q, i, none⟩ v) b c0 c1 := (heap_setCell_other w _ b v hn).trans h
theorem toProc_any (p : PrT) (v : Value) (w : World) (hz : szPr p ≤ 1048576) (hl : PrLies w p v) :
    Calls Try.prog 42 #[v] w fun e w' => ∃ u, e = .returned u ∧ PrOwn w' w.heap.size p u ∧ Below w.heap.size w w' := by
  obtain ⟨h1, ba, bc, rfl, h6⟩ := hl
  unfold szPr at hz
  have CB := Lib.hid (fun w hk => toXS_any p.body (fun x _ => toStmt_any x) (.slice ba p.body.length bc) w (by omega) (h6.keep hk))
  have H1 := Lib.hid h1
  obtain ⟨W, hW⟩ : ∃ W, W = ((w.alloc (.cells #[.string p.name, .slice ba p.body.length bc] 60)).alloc (.cells #[.string ⟨#[]⟩, .slice none 0 0] 47)).alloc (.cells #[.string p.name, .slice none 0 0] 47) := ⟨_, rfl⟩
  have hWs : W.heap.size = w.heap.size + 1 + 1 + 1 := by rw [hW]; simp
  have kW : Keeps w W := by rw [hW]; exact ((keeps_alloc _ _).trans (keeps_alloc _ _)).trans (keeps_alloc _ _)
  have bW : Below w.heap.size w W := by rw [hW]; exact (((Below.refl _ _).alloc (Nat.le_refl _) _).alloc (by simp) _).alloc (by simp; omega) _
  have RW : Row2 W (w.heap.size + 1) (.string ⟨#[]⟩) (.slice none 0 0) := by
    rw [hW]
    exact (heap_alloc_old _ _ (by simp)).trans (top_at _ _ _ (by simp))
  have OW : Row2 W (w.heap.size + 1 + 1) (.string p.name) (.slice none 0 0) := by
    rw [hW]
    exact top_at _ _ _ (by simp)
  have HW := Lib.hid hW
  have HWs := Lib.hid hWs
  have KW := Lib.hid kW
  have BW := Lib.hid bW
  have RW' := Lib.hid RW
  have OW' := Lib.hid OW
  clear h1 h6 hz hW hWs kW bW RW OW
  go_enter Try.func42, Try.ntmps42
  go_wp2_with fail
  rw [← HW.out]
  refine (CB.out W KW.out).mono ?_
  rintro e1 w1 ⟨v1, rfl, ho1, hb1⟩
  obtain ⟨_, va, vc, rfl, _⟩ := ho1.list
  have HO1 := Lib.hid ho1
  have HB1 := Lib.hid hb1
  have R1 := Lib.hid (RW'.out.below hb1 (by rw [HWs.out]; omega))
  have O1 := Lib.hid (OW'.out.below hb1 (by rw [HWs.out]; omega))
  obtain ⟨o0, o1⟩ := O1.out.cells
  obtain ⟨r0, r1⟩ := R1.out.cells
  have f1 := O1.out.free 1
  have g0 := R1.out.free 0
  have g1 := R1.out.free 1
  have hsw := HB1.out.size
  rw [HWs.out] at hsw
  clear ho1 hb1
  go_wp2
  refine bodyPost_ret (v := .agg #[.string p.name, .slice va p.body.length vc]) (by simp [results, Try.results42, go_sem, r0, r1]) rfl ⟨_, rfl, ?_, ?_⟩
  · refine ⟨H1.out, va, vc, W.heap.size, w1.heap.size, rfl, by rw [HWs.out]; omega, by simp, SOwnsK.same (fun q q1 q2 => ?_) HO1.out⟩
    rw [HWs.out] at q1
    rw [heap_setCell_other _ _ _ _ (by simp; omega), heap_setCell_other _ _ _ _ (by simp; omega), heap_setCell_other _ _ _ _ (by simp; omega)]
  · exact ((((BW.out.trans (HB1.out.mono BW.out.size)).setCell (by simp; omega) _).setCell (by simp) _).setCell (by simp) _)
theorem row_some2 {w : World} {lo : Nat} {e : TypeId} {g cap n j : Nat} {xs : List Value} (h : w.ownsRow lo e 2 (.slice (some ⟨g, 0, none⟩) n cap) n xs) (hj : j < n * 2) : ∃ u, w.cell? ⟨g, j, none⟩ = some u := by
  refine ⟨xs[j]'(by rw [h.1]; exact hj), ?_⟩
  rw [h.cellAt j hj]; simp
theorem set2 : ∀ (ys : List Value) (z0 z1 v0 v1 : Value) (r : List Value) (j : Nat), ys.length = j → ((ys ++ z0 :: z1 :: r).set j v0).set (j + 1) v1 = ys ++ [v0, v1] ++ r
  | [], _, _, _, _, _, _, h => by subst h; rfl
  | y :: ys, z0, z1, v0, v1, r, j, h => by
    subst h
    have e := set2 ys z0 z1 v0 v1 r ys.length rfl
    simp only [List.cons_append, List.length_cons, List.set_cons_succ] at e ⊢
    rw [e]
theorem row_put2 {w : World} {lo : Nat} {e : TypeId} {g cap n k : Nat} {ys zs : List Value} (h : w.ownsRow lo e 2 (.slice (some ⟨g, 0, none⟩) n cap) n (ys ++ zs)) (hy : ys.length = k * 2) (hk : k < n) (v0 v1 : Value) :
    ∃ zs2, ((w.setCell ⟨g, k * 2, none⟩ v0).setCell ⟨g, k * 2 + 1, none⟩ v1).ownsRow lo e 2 (.slice (some ⟨g, 0, none⟩) n cap) n (ys ++ [v0, v1] ++ zs2) ∧
      w.grownBy ((w.setCell ⟨g, k * 2, none⟩ v0).setCell ⟨g, k * 2 + 1, none⟩ v1) (some g) := by
  have hl := h.1
  rw [List.length_append, hy] at hl
  obtain ⟨z0, z1, r, rfl⟩ : ∃ z0 z1 r, zs = z0 :: z1 :: r := by
    match zs, hl with
    | z0 :: z1 :: r, _ => exact ⟨z0, z1, r, rfl⟩
    | [], hl => exact absurd hl (by simp; omega)
    | [_], hl => exact absurd hl (by simp; omega)
  have a0 := h.stored (k * 2) v0
  have a1 := a0.1.stored (k * 2 + 1) v1
  refine ⟨r, ?_, a0.2.trans a1.2⟩
  have := a1.1
  rw [set2 ys z0 z1 v0 v1 r (k * 2) hy] at this
  exact this
set_option maxHeartbeats 800000 in
theorem toPrs_any (xs : List PrT) (v : Value) (w : World) (hsz : xs.length + szPrs xs ≤ 1048576) (hl : PrsAt w v xs) :
    Calls Try.prog 25 #[v] w fun e w' => ∃ kv, e = .returned kv ∧ PrsOwn w' w.heap.size xs kv ∧ Below w.heap.size w w' := by
  obtain ⟨hlen0, aa, cap, rfl, hk⟩ := hl
  obtain ⟨i0, hi, hz0, hz1, hz2⟩ := info_parts infoProc
  have HK := Lib.hid hk
  have HZ := Lib.hid hsz
  have hlen : xs.length ≤ 1048576 := by omega
  clear hk hsz hlen0
  go_enter Try.func25, Try.ntmps25
  go_wp2_with (at_make; refine wpList_make_full _ rfl (.tmp 6) (.tmp 6) 28 rfl w.heap.size 47 i0 _ 2 Try.underlying28 hi hz0 hz1 .i64 .i64 _ _ xs.length rfl rfl rfl rfl (by rw [hz2]; omega) (by unfold maxLen; omega) (Nat.le_refl _) ?_)
  intro w1 hown hg
  have HO := Lib.hid hown
  have HG := Lib.hid hg
  clear hown hg
  go_wp2
  go_loopw [4] (fun i wr => ∃ (k : Nat) (ys zs : List Value), k ≤ xs.length ∧ i = .int .i64 k ∧ Hid (ys.length = k * 2) ∧ Hid (wr.ownsRow w.heap.size 47 2 (.slice (some ⟨w.heap.size, 0, none⟩) xs.length xs.length) xs.length (ys ++ zs)) ∧ Hid (PrOwnL wr (w.heap.size + 1) (xs.take k) ys) ∧ Hid (Below w.heap.size w wr))
    (fun i _ => xs.length - (intOf i).toNat)
  case atStart => exact ⟨0, [], _, Nat.zero_le _, rfl, rfl, HO.out, rfl, below_noneL HG.out⟩
  case round =>
    obtain ⟨k, ys, zs, hk, rfl, hy, hrow, hol, hbe⟩ := hrel
    by_cases hlt : k < xs.length
    · obtain ⟨g, o, rfl, hl⟩ := HK.out (by omega)
      obtain ⟨h0, ba, bc, c0, c1, hl2⟩ := (hl k hlt).keep (keeps_below hbe.out)
      have C := Lib.hid (toProc_any xs[k] _ wr (by have := szPrs_mem (List.getElem_mem hlt); have := HZ.out; omega) ⟨h0, ba, bc, rfl, hl2⟩)
      clear hl hl2
      go_wp2_with fail
      refine C.out.mono ?_
      rintro e w2 ⟨v2, rfl, how, hb2⟩
      obtain ⟨_, va, vc, _, _, rfl, _⟩ := id how
      have HOw := Lib.hid how
      have HB2 := Lib.hid hb2
      have R2 := Lib.hid (row_below hrow.out hb2)
      clear how hb2 c0 c1
      have f0 := R2.out.frozenAt (k * 2)
      have f1 := R2.out.frozenAt (k * 2 + 1)
      obtain ⟨u0, s0⟩ := row_some2 R2.out (j := k * 2) (by omega)
      obtain ⟨u1, s1⟩ := row_some2 R2.out (j := k * 2 + 1) (by omega)
      obtain ⟨zs2, hr4, hg4⟩ := row_put2 R2.out hy.out hlt (.string xs[k].name) (.slice va xs[k].body.length vc)
      have HR4 := Lib.hid hr4
      have HG4 := Lib.hid hg4
      clear hr4 hg4
      go_wp2
      go_roundw
      case rel =>
        refine ⟨k + 1, ys ++ [Value.string xs[k].name, Value.slice va xs[k].body.length vc], zs2, by omega, by go_num, ?_, HR4.out, ?_, ?_⟩
        · show _ = _
          rw [List.length_append, hy.out]; simp; omega
        · have hlt0 : w.heap.size < wr.heap.size := (hrow.out.lt _ rfl).2
          have e1 : List.take (k + 1) xs = List.take k xs ++ [xs[k]] := List.take_succ_eq_append_getElem hlt
          have hst : Stays (w.heap.size + 1) w2 ((w2.setCell ⟨w.heap.size, k * 2, none⟩ (.string xs[k].name)).setCell ⟨w.heap.size, k * 2 + 1, none⟩ (.slice va xs[k].body.length vc)) := (Stays.set (by omega)).trans (Stays.set (by omega))
          rw [e1]
          exact PrOwnL.snoc ((HOw.out.wide (by omega)).keep hst) ((hol.out.keep (Stays.of HB2.out)).keep hst)
        · exact (hbe.out.trans (HB2.out.mono hbe.out.size)).grown HG4.out (Nat.le_trans hbe.out.size HB2.out.size) (fun b hb => by cases hb; exact Nat.le_refl _)
      case measure => simp [intOf]; omega
    · obtain rfl : k = xs.length := by omega
      have hz : zs = [] := List.eq_nil_of_length_eq_zero (by have := hrow.out.1; rw [List.length_append, hy.out] at this; omega)
      have HZS := Lib.hid hz
      clear hz
      go_wp2
      go_ret
      have h1 := hrow.out
      have h2 := hol.out
      rw [HZS.out, List.append_nil] at h1
      rw [List.take_length] at h2
      exact ⟨_, rfl, ⟨ys, h1, h2.wide (by omega)⟩, hbe.out⟩
/-- A block of three cells. -/
def Row3 (w : World) (b : Nat) (c0 c1 c2 : Value) : Prop := w.heap[b]? = some (.cells #[c0, c1, c2] 30 (0, 0))
theorem Row3.cells {w : World} {b : Nat} {c0 c1 c2 : Value} (h : Row3 w b c0 c1 c2) : Box3 w b c0 c1 c2 := by
  unfold Row3 at h
  refine ⟨?_, ?_, ?_⟩ <;> simp [World.cell?, h]
theorem Row3.free {w : World} {b : Nat} {c0 c1 c2 : Value} (h : Row3 w b c0 c1 c2) (j : Nat) : w.frozen? ⟨b, j, none⟩ = false := frozen_of_row w b j _ _ h
theorem Row3.below {w w' : World} {b B : Nat} {c0 c1 c2 : Value} (h : Row3 w b c0 c1 c2) (hb : Below B w w') (hlt : b < B) : Row3 w' b c0 c1 c2 := (hb.block b hlt).trans h
theorem Row3.other {w : World} {b q i : Nat} {v c0 c1 c2 : Value} (h : Row3 w b c0 c1 c2) (hn : b ≠ q) : Row3 (w.setCell ⟨q, i, none⟩ v) b c0 c1 c2 := (heap_setCell_other w _ b v hn).trans h
theorem Row3.put {w : World} {b i : Nat} {v c0 c1 c2 : Value} (h : Row3 w b c0 c1 c2) : (w.setCell ⟨b, i, none⟩ v).heap[b]? = some (.cells (#[c0, c1, c2].setIfInBounds i v) 30 (0, 0)) := heap_setCell_same w b i _ _ v h
/-- Names in a row of the call's own. -/
def NRow (w : World) (base : Nat) (ss : List ByteArray) (v : Value) : Prop := w.ownsRow base 9 1 v ss.length (strV ss)
theorem NRow.keep {w w' : World} {base : Nat} {ss : List ByteArray} {v : Value} (h : NRow w base ss v) (hs : Stays base w w') : NRow w' base ss v := row_same h (fun b hb => hs.2 b (h.lt b hb).1 (h.lt b hb).2)
theorem NRow.shape {w : World} {base : Nat} {ss : List ByteArray} {v : Value} (h : NRow w base ss v) : ∃ a c, v = .slice a ss.length c := by
  obtain ⟨a, c, e, _⟩ := row_shape h
  exact ⟨a, c, e⟩
set_option maxHeartbeats 1600000 in
theorem toProg_any (x : PTree) (v : Value) (w : World) (hz : szP x ≤ 1048576) (hl : PLies w x v) :
    Calls Try.prog 9 #[v] w fun e w' => ∃ u, e = .returned u ∧ POwn w' x u ∧ Below w.heap.size w w' := by
  obtain ⟨ga, gc, la, lc, pa, pc, rfl, h1, h2, h3⟩ := hl
  unfold szP at hz
  have C1 := Lib.hid (fun w hk => toStrings_any x.globals (.slice ga x.globals.length gc) w (h1.1.keep hk) (by omega))
  have C2 := Lib.hid (fun w hk => toStrings_any x.locks (.slice la x.locks.length lc) w (h2.1.keep hk) (by omega))
  have C3 := Lib.hid (fun w hk => toPrs_any x.procs (.slice pa x.procs.length pc) w (by omega) (h3.keep hk))
  have N1 := Lib.hid h1.2
  have N2 := Lib.hid h2.2
  obtain ⟨W, hW⟩ : ∃ W, W = ((w.alloc (.cells #[.slice ga x.globals.length gc, .slice la x.locks.length lc, .slice pa x.procs.length pc] 25)).alloc (.cells #[.slice none 0 0, .slice none 0 0, .slice none 0 0] 30)).alloc (.cells #[.slice none 0 0, .slice none 0 0, .slice none 0 0] 30) := ⟨_, rfl⟩
  have hWs : W.heap.size = w.heap.size + 1 + 1 + 1 := by rw [hW]; simp
  have kW : Keeps w W := by rw [hW]; exact ((keeps_alloc _ _).trans (keeps_alloc _ _)).trans (keeps_alloc _ _)
  have bW : Below w.heap.size w W := by rw [hW]; exact (((Below.refl _ _).alloc (Nat.le_refl _) _).alloc (by simp) _).alloc (by simp; omega) _
  have XW : Box3 W w.heap.size (.slice ga x.globals.length gc) (.slice la x.locks.length lc) (.slice pa x.procs.length pc) := by
    rw [hW]
    exact (Box3.new w _ _ _ _).keep ((keeps_alloc _ _).trans (keeps_alloc _ _))
  have RW : Row3 W (w.heap.size + 1) (.slice none 0 0) (.slice none 0 0) (.slice none 0 0) := by
    rw [hW]
    exact (heap_alloc_old _ _ (by simp)).trans (top_at _ _ _ (by simp))
  have OW : Row3 W (w.heap.size + 1 + 1) (.slice none 0 0) (.slice none 0 0) (.slice none 0 0) := by
    rw [hW]
    exact top_at _ _ _ (by simp)
  have HW := Lib.hid hW
  have HWs := Lib.hid hWs
  have KW := Lib.hid kW
  have BW := Lib.hid bW
  have XW' := Lib.hid XW
  have RW' := Lib.hid RW
  have OW' := Lib.hid OW
  clear h1 h2 h3 hz hW hWs kW bW XW RW OW
  go_enter Try.func9, Try.ntmps9
  go_wp2_with fail
  rw [← HW.out]
  refine (C1.out W KW.out).mono ?_
  rintro e1 w1 ⟨v1, rfl, ho1, hb1⟩
  have HO1 : Hid (NRow w1 (w.heap.size + 1 + 1 + 1) x.globals v1) := by show NRow _ _ _ _; have := ho1; rw [HWs.out] at this; exact this
  obtain ⟨va, vc, rfl⟩ := HO1.out.shape
  have HB1 := Lib.hid hb1
  have X1 := Lib.hid (XW'.out.keep (keeps_below hb1))
  have R1 := Lib.hid (RW'.out.below hb1 (by rw [HWs.out]; omega))
  have O1 := Lib.hid (OW'.out.below hb1 (by rw [HWs.out]; omega))
  have hsw1 : w.heap.size + 1 + 1 + 1 ≤ w1.heap.size := by have := hb1.size; rw [HWs.out] at this; exact this
  obtain ⟨x0, x1, x2⟩ := X1.out
  obtain ⟨o0, o1, o2⟩ := O1.out.cells
  have f0 := O1.out.free 0
  clear ho1 hb1
  go_wp2_with fail
  obtain ⟨W2, hW2⟩ : ∃ W2, W2 = w1.setCell ⟨w.heap.size + 1 + 1, 0, none⟩ (.slice va x.globals.length vc) := ⟨_, rfl⟩
  rw [← hW2]
  have HS2 : Hid (Stays (w.heap.size + 1 + 1 + 1) w1 W2) := by rw [hW2]; exact Stays.set (by omega)
  have B2 : Hid (Below w.heap.size w W2) := by rw [hW2]; exact (BW.out.trans (HB1.out.mono BW.out.size)).setCell (by simp; omega) _
  have O2 : Hid (Row3 W2 (w.heap.size + 1 + 1) (.slice va x.globals.length vc) (.slice none 0 0) (.slice none 0 0)) := by rw [hW2]; exact Row3.put (i := 0) O1.out
  have R2 : Hid (Row3 W2 (w.heap.size + 1) (.slice none 0 0) (.slice none 0 0) (.slice none 0 0)) := by rw [hW2]; exact R1.out.other (by omega)
  have X2 : Hid (Box3 W2 w.heap.size (.slice ga x.globals.length gc) (.slice la x.locks.length lc) (.slice pa x.procs.length pc)) := by
    have h : W2.heap[w.heap.size]? = w1.heap[w.heap.size]? := by rw [hW2, heap_setCell_other _ _ _ _ (by simp; omega)]
    have hc : ∀ j, W2.cell? ⟨w.heap.size, j, none⟩ = w1.cell? ⟨w.heap.size, j, none⟩ := fun j => World.cell?_of_block h
    exact ⟨(hc 0).trans x0, (hc 1).trans x1, (hc 2).trans x2⟩
  have hs2 : W2.heap.size = w1.heap.size := by rw [hW2]; simp
  have M2 := Lib.hid (HO1.out.keep HS2.out)
  clear hW2 x0 x1 x2 o0 o1 o2 f0
  refine (C2.out W2 (keeps_below B2.out)).mono ?_
  rintro e2 w3 ⟨v3, rfl, ho3, hb3⟩
  have HO3 : Hid (NRow w3 (w.heap.size + 1 + 1 + 1) x.locks v3) := World.ownsRow.mono ho3 (by omega)
  obtain ⟨ua, uc, rfl⟩ := HO3.out.shape
  have M3 := Lib.hid (M2.out.keep (Stays.of hb3))
  have HB3 := Lib.hid hb3
  have X3 := Lib.hid (X2.out.keep (keeps_below hb3))
  have R3 := Lib.hid (R2.out.below hb3 (by omega))
  have O3 := Lib.hid (O2.out.below hb3 (by omega))
  have hsw3 : w.heap.size + 1 + 1 + 1 ≤ w3.heap.size := by have := hb3.size; omega
  obtain ⟨x0, x1, x2⟩ := X3.out
  obtain ⟨o0, o1, o2⟩ := O3.out.cells
  have f1 := O3.out.free 1
  clear ho3 hb3
  go_wp2_with fail
  obtain ⟨W4, hW4⟩ : ∃ W4, W4 = w3.setCell ⟨w.heap.size + 1 + 1, 1, none⟩ (.slice ua x.locks.length uc) := ⟨_, rfl⟩
  rw [← hW4]
  have HS4 : Hid (Stays (w.heap.size + 1 + 1 + 1) w3 W4) := by rw [hW4]; exact Stays.set (by omega)
  have B4 : Hid (Below w.heap.size w W4) := by rw [hW4]; exact (B2.out.trans (HB3.out.mono B2.out.size)).setCell (by simp; omega) _
  have O4 : Hid (Row3 W4 (w.heap.size + 1 + 1) (.slice va x.globals.length vc) (.slice ua x.locks.length uc) (.slice none 0 0)) := by rw [hW4]; exact Row3.put (i := 1) O3.out
  have R4 : Hid (Row3 W4 (w.heap.size + 1) (.slice none 0 0) (.slice none 0 0) (.slice none 0 0)) := by rw [hW4]; exact R3.out.other (by omega)
  have X4 : Hid (Box3 W4 w.heap.size (.slice ga x.globals.length gc) (.slice la x.locks.length lc) (.slice pa x.procs.length pc)) := by
    have h : W4.heap[w.heap.size]? = w3.heap[w.heap.size]? := by rw [hW4, heap_setCell_other _ _ _ _ (by simp; omega)]
    have hc : ∀ j, W4.cell? ⟨w.heap.size, j, none⟩ = w3.cell? ⟨w.heap.size, j, none⟩ := fun j => World.cell?_of_block h
    exact ⟨(hc 0).trans x0, (hc 1).trans x1, (hc 2).trans x2⟩
  have hs4 : W4.heap.size = w3.heap.size := by rw [hW4]; simp
  have M4 := Lib.hid (M3.out.keep HS4.out)
  have L4 := Lib.hid (HO3.out.keep HS4.out)
  clear hW4 x0 x1 x2 o0 o1 o2 f1
  refine (C3.out W4 (keeps_below B4.out)).mono ?_
  rintro e3 w5 ⟨v5, rfl, ho5, hb5⟩
  obtain ⟨_, ta, tc, rfl, _⟩ := ho5.free
  have M5 := Lib.hid (M4.out.keep (Stays.of hb5))
  have L5 := Lib.hid (L4.out.keep (Stays.of hb5))
  have HO5 := Lib.hid ho5
  have HB5 := Lib.hid hb5
  have R5 := Lib.hid (R4.out.below hb5 (by omega))
  have O5 := Lib.hid (O4.out.below hb5 (by omega))
  have hsw5 : w.heap.size + 1 + 1 + 1 ≤ w5.heap.size := by have := hb5.size; omega
  obtain ⟨o0, o1, o2⟩ := O5.out.cells
  obtain ⟨r0, r1, r2⟩ := R5.out.cells
  have f2 := O5.out.free 2
  have g0 := R5.out.free 0
  have g1 := R5.out.free 1
  have g2 := R5.out.free 2
  clear ho5 hb5
  go_wp2
  refine bodyPost_ret (v := .agg #[.slice va x.globals.length vc, .slice ua x.locks.length uc, .slice ta x.procs.length tc]) (by simp [results, Try.results9, go_sem, r0, r1, r2]) rfl ⟨_, rfl, ⟨va, vc, ua, uc, ta, tc, rfl, ⟨strs_of_row (base := w.heap.size + 1 + 1 + 1) (M5.out.keep ?_), N1.out⟩, ⟨strs_of_row (base := w.heap.size + 1 + 1 + 1) (L5.out.keep ?_), N2.out⟩, (HO5.out.keep ?_).free⟩, ?_⟩
  · exact (((Stays.set (by omega)).trans (Stays.set (by omega))).trans (Stays.set (by omega))).trans (Stays.set (by omega))
  · exact (((Stays.set (by omega)).trans (Stays.set (by omega))).trans (Stays.set (by omega))).trans (Stays.set (by omega))
  · exact (((Stays.set (by omega)).trans (Stays.set (by omega))).trans (Stays.set (by omega))).trans (Stays.set (by omega))
  · exact ((((B4.out.trans (HB5.out.mono B4.out.size)).setCell (by simp; omega) _).setCell (by simp) _).setCell (by simp) _).setCell (by simp) _
end Go.Proofs.Ytpbhoomhcdljoaa.Trm
