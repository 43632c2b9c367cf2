/- The laws' copy of a term, walked. Conditions: the term lies in memory; it has at most 2 to the 20 kids at once. -/
import Derived.Test.YtofmccihehalcaaGreatChecked
import Derived.Test.YtofmccihehalcaaGreatTermOwn
import Derived.Test.YtofmccihehalcaaGreatTermSize
import Derived.OwnWalk
import Derived.WalkSmall
import Derived.Outline
namespace Go.Proofs.YtofmccihehalcaaGreat.Trm
open Go.RowKit Own
theorem infoTerm : (Tryz.prog.info? 45).map (fun i => (i.zero, i.size, i.bytes)) = some (some (.agg #[.int .i64 0, .int .i64 0, .string ⟨#[]⟩, .slice none 0 0]), 4, 56) := by kernel_rfl
def ToOk (t : Tree) : Prop := ∀ (v : Value) (w : World), szT t ≤ 1048576 → Lies w t v →
    Calls Tryz.prog 132 #[v] w fun e w' => ∃ v', e = .returned v' ∧ Owns w' w.heap.size w'.heap.size t v' ∧ Below w.heap.size w w'
theorem below_none {w w' : World} (h : w.grownBy w' none) : Below w.heap.size w w' := ⟨h.os, h.tape, h.output, h.size, fun k hk => h.block k hk (by simp)⟩
theorem szS_mem : ∀ {ks : List Tree} {t : Tree}, t ∈ ks → szT t ≤ szS ks
  | a :: r, t, h => by
    rw [szS]
    rcases List.mem_cons.1 h with rfl | h
    · omega
    · have := szS_mem h; omega
theorem szT_le {ks : List Tree} {t : Tree} (h : t ∈ ks) (hz : ks.length + szS ks ≤ 1048576) : szT t ≤ 1048576 := by
  have := szS_mem h; omega
theorem row_below {w w' : World} {lo : Nat} {e : TypeId} {size : Nat} {v : Value} {n : Nat} {xs : List Value} (h : w.ownsRow lo e size v n xs) (hb : Below w.heap.size w w') : w'.ownsRow lo e size v n xs :=
  row_same h fun b hb' => hb.block b (h.lt b hb').2
theorem Owns.shape {w : World} {lo hi : Nat} {t : Tree} {v : Value} (h : Owns w lo hi t v) : ∃ a cap, v = .agg #[.int .i64 t.kind, .int .i64 t.num, .string t.name, .slice a t.kids.length cap] := by
  obtain ⟨_, _, _, _, a, cap, e, _⟩ := h.lies.parts
  exact ⟨a, cap, e⟩
theorem row_some {w : World} {lo : Nat} {e : TypeId} {g cap n j : Nat} {xs : List Value} (h : w.ownsRow lo e 4 (.slice (some ⟨g, 0, none⟩) n cap) n xs) (hj : j < n * 4) : ∃ u, w.cell? ⟨g, j, none⟩ = some u := by
  refine ⟨xs[j]'(by rw [h.1]; exact hj), ?_⟩
  rw [h.cellAt j hj]; simp
theorem set4 : ∀ (ys : List Value) (z0 z1 z2 z3 v0 v1 v2 v3 : Value) (r : List Value) (j : Nat), ys.length = j → ((((ys ++ z0 :: z1 :: z2 :: z3 :: r).set j v0).set (j + 1) v1).set (j + 2) v2).set (j + 3) v3 = ys ++ [v0, v1, v2, v3] ++ r
  | [], _, _, _, _, _, _, _, _, _, _, h => by subst h; rfl
  | y :: ys, z0, z1, z2, z3, v0, v1, v2, v3, r, j, h => by
    subst h
    have e := set4 ys z0 z1 z2 z3 v0 v1 v2 v3 r ys.length rfl
    show ((((y :: (ys ++ z0 :: z1 :: z2 :: z3 :: r)).set (ys.length + 1) v0).set (ys.length + 1 + 1) v1).set (ys.length + 2 + 1) v2).set (ys.length + 3 + 1) v3 = _
    simp only [List.set_cons_succ]
    rw [e]
    simp
theorem row_put4 {w : World} {lo : Nat} {e : TypeId} {g cap n k : Nat} {ys zs : List Value} (h : w.ownsRow lo e 4 (.slice (some ⟨g, 0, none⟩) n cap) n (ys ++ zs)) (hy : ys.length = k * 4) (hk : k < n) (v0 v1 v2 v3 : Value) :
    ∃ zs2, ((((w.setCell ⟨g, k * 4, none⟩ v0).setCell ⟨g, k * 4 + 1, none⟩ v1).setCell ⟨g, k * 4 + 2, none⟩ v2).setCell ⟨g, k * 4 + 3, none⟩ v3).ownsRow lo e 4 (.slice (some ⟨g, 0, none⟩) n cap) n (ys ++ [v0, v1, v2, v3] ++ zs2) ∧
      w.grownBy ((((w.setCell ⟨g, k * 4, none⟩ v0).setCell ⟨g, k * 4 + 1, none⟩ v1).setCell ⟨g, k * 4 + 2, none⟩ v2).setCell ⟨g, k * 4 + 3, none⟩ v3) (some g) := by
  have hl := h.1
  rw [List.length_append, hy] at hl
  match zs, hl, h with
  | z0 :: z1 :: z2 :: z3 :: r, _, h =>
    have a0 := h.stored (k * 4) v0
    have a1 := a0.1.stored (k * 4 + 1) v1
    have a2 := a1.1.stored (k * 4 + 2) v2
    have a3 := a2.1.stored (k * 4 + 3) v3
    refine ⟨r, ?_, a0.2.trans (a1.2.trans (a2.2.trans a3.2))⟩
    have := a3.1
    rw [set4 ys z0 z1 z2 z3 v0 v1 v2 v3 r (k * 4) hy] at this
    exact this
  | [], hl, _ => exact absurd hl (by simp; omega)
  | [_], hl, _ => exact absurd hl (by simp; omega)
  | [_, _], hl, _ => exact absurd hl (by simp; omega)
  | [_, _, _], hl, _ => exact absurd hl (by simp; omega)
theorem toS_any (ks : List Tree) (ih : ∀ t, t ∈ ks → ToOk t) (aa : Option Addr) (cap : Nat) (w : World) (hsz : ks.length + szS ks ≤ 1048576) (hk : 0 < ks.length → ∃ g o, aa = some ⟨g, o, none⟩ ∧ LiesL w g o ks) :
    Calls Tryz.prog 161 #[.slice aa ks.length cap] w fun e w' => ∃ kv, e = .returned kv ∧ OwnsK w' w.heap.size w'.heap.size ks kv ∧ Below w.heap.size w w' := by
  obtain ⟨i0, hi, hz0, hz1, hz2⟩ := info_parts infoTerm
  have IH := Lib.hid ih
  have HK := Lib.hid hk
  have HZ := Lib.hid hsz
  have hlen : ks.length ≤ 1048576 := by omega
  clear ih hk hsz
  go_enter Tryz.func161, Tryz.ntmps161
  go_wp2_with (at_make; refine wpList_make_full _ rfl (.tmp 6) (.tmp 6) 43 rfl w.heap.size 45 i0 _ 4 Tryz.underlying43 hi hz0 hz1 .i64 .i64 _ _ ks.length rfl rfl rfl rfl (by rw [hz2]; omega) (by unfold maxLen; omega) (Nat.le_refl _) ?_)
  intro w1 hown hg
  have HO := Lib.hid hown
  have HG := Lib.hid hg
  clear hown hg
  go_wp2
  go_loopw [4] (fun i wr => ∃ (k : Nat) (ys zs : List Value), k ≤ ks.length ∧ i = .int .i64 k ∧ Hid (ys.length = k * 4) ∧ Hid (wr.ownsRow w.heap.size 45 4 (.slice (some ⟨w.heap.size, 0, none⟩) ks.length ks.length) ks.length (ys ++ zs)) ∧ Hid (OwnsL wr (w.heap.size + 1) wr.heap.size (ks.take k) ys) ∧ Hid (Below w.heap.size w wr))
    (fun i _ => ks.length - (intOf i).toNat)
  case atStart => exact ⟨0, [], _, Nat.zero_le _, rfl, rfl, HO.out, ⟨rfl, by have := HO.out.lt _ rfl; omega⟩, below_none HG.out⟩
  case round =>
    obtain ⟨k, ys, zs, hk, rfl, hy, hrow, hol, hbe⟩ := hrel
    by_cases hlt : k < ks.length
    · obtain ⟨g, o, rfl, hl⟩ := HK.out (by omega)
      obtain ⟨ka, kc, c0, c1, c2, c3, hl2⟩ := (hl.keep (keeps_below hbe.out)).at k hlt
      have C := Lib.hid (IH.out ks[k] (List.getElem_mem hlt) _ wr (szT_le (List.getElem_mem hlt) HZ.out) hl2)
      clear hl hl2
      go_wp2_with fail
      refine C.out.mono ?_
      rintro e w2 ⟨v2, rfl, how, hb2⟩
      obtain ⟨va, vc, rfl⟩ := how.shape
      have HOw := Lib.hid how
      have HB2 := Lib.hid hb2
      have R2 := Lib.hid (row_below hrow.out hb2)
      clear how hb2
      have f0 := R2.out.frozenAt (k * 4)
      have f1 := R2.out.frozenAt (k * 4 + 1)
      have f2 := R2.out.frozenAt (k * 4 + 2)
      have f3 := R2.out.frozenAt (k * 4 + 3)
      obtain ⟨u0, s0⟩ := row_some R2.out (j := k * 4) (by omega)
      obtain ⟨u1, s1⟩ := row_some R2.out (j := k * 4 + 1) (by omega)
      obtain ⟨u2, s2⟩ := row_some R2.out (j := k * 4 + 2) (by omega)
      obtain ⟨u3, s3⟩ := row_some R2.out (j := k * 4 + 3) (by omega)
      obtain ⟨zs2, hr4, hg4⟩ := row_put4 R2.out hy.out hlt (.int .i64 ks[k].kind) (.int .i64 ks[k].num) (.string ks[k].name) (.slice va ks[k].kids.length vc)
      have HR4 := Lib.hid hr4
      have HG4 := Lib.hid hg4
      clear hr4 hg4
      go_wp2
      go_roundw
      case rel =>
        refine ⟨k + 1, ys ++ cellsT ks[k] (.slice va ks[k].kids.length vc), zs2, by omega, by go_num, ?_, HR4.out, ?_, ?_⟩
        · show _ = _
          rw [List.length_append, hy.out]; simp [cellsT]; omega
        · have hlt0 : w.heap.size < wr.heap.size := (hrow.out.lt _ rfl).2
          have e1 : List.take (k + 1) ks = List.take k ks ++ [ks[k]] := List.take_succ_eq_append_getElem hlt
          rw [e1]
          refine OwnsL.snoc (mid := wr.heap.size) (OwnsL.same (fun b h1 h2 => ?_) hol.out) (Owns.same (fun b h1 h2 => ?_) (HOw.out.wide (Nat.le_refl _) HG4.out.size))
          · exact (HG4.out.block b (Nat.lt_of_lt_of_le h2 HB2.out.size) (by simp; omega)).trans (HB2.out.block b h2)
          · exact HG4.out.block b (by simpa using h2) (by simp; omega)
        · exact (hbe.out.trans (HB2.out.mono hbe.out.size)).grown HG4.out (Nat.le_trans hbe.out.size HB2.out.size) (fun b hb => by cases hb; exact Nat.le_refl _)
      case measure => simp [intOf]; omega
    · obtain rfl : k = ks.length := by omega
      have hz : zs = [] := List.eq_nil_of_length_eq_zero (by have := hrow.out.1; rw [List.length_append, hy.out] at this; omega)
      have HZS := Lib.hid hz
      clear hz
      go_wp2
      go_ret
      have h1 := hrow.out
      have h2 := hol.out
      rw [HZS.out, List.append_nil] at h1
      rw [List.take_length] at h2
      exact ⟨_, rfl, ⟨ys, w.heap.size + 1, h1, by omega, fun b hb => by cases hb; exact Nat.lt_succ_self _, h2⟩, hbe.out⟩
theorem toTerm_any : ∀ t : Tree, ToOk t := treeInd fun k n s ks ih v w hz hl => by
  obtain ⟨h1, h2, h3, h4, aa, cap, rfl, h5⟩ := hl
  have hz2 : ks.length + szS ks ≤ 1048576 := by rw [szT] at hz; omega
  have C := Lib.hid (fun w => toS_any ks ih aa cap w hz2)
  have H5 := Lib.hid h5
  have H1 := Lib.hid h1
  have H2 := Lib.hid h2
  clear ih h5 hz hz2 h1 h2
  go_enter Tryz.func132, Tryz.ntmps132
  go_wp2_with fail
  refine (C.out _ (fun h => by obtain ⟨g, o, e, hl⟩ := H5.out h; exact ⟨g, o, e, hl.keep (((keeps_alloc _ _).trans (keeps_alloc _ _)).trans (keeps_alloc _ _))⟩)).mono ?_
  rintro e w1 ⟨kv, rfl, hok, hb1⟩
  have HOK := Lib.hid hok
  have HB1 := Lib.hid hb1
  obtain ⟨xs, m, hrow, _⟩ := hok
  obtain ⟨va, vc, rfl, _⟩ := lies_of_row hrow
  have hz : w.heap.size + 2 < w1.heap.size := by have := hb1.size; simp at this; omega
  obtain ⟨hc, hf⟩ := bcell hb1
  clear hrow hb1
  go_wp2
  refine bodyPost_ret (v := .agg #[.int .i64 k, .int .i64 n, .string s, .slice va ks.length vc]) (by simp [results, Tryz.results132, go_sem, hc]) rfl ⟨_, rfl, ?_, ?_⟩
  · refine Owns.mk (t := .node k n s ks) H1.out H2.out h3 ?_
    refine OwnsK.wide (by simp; omega) (by simp) (OwnsK.same (fun b h1 h2 => ?_) HOK.out)
    simp at h1
    rw [heap_setCell_other _ _ _ _ (by simp; omega), heap_setCell_other _ _ _ _ (by simp; omega), heap_setCell_other _ _ _ _ (by simp; omega), heap_setCell_other _ _ _ _ (by simp; omega), heap_setCell_other _ _ _ _ (by simp; omega)]
  · exact ((((((((Below.refl w.heap.size w).alloc (Nat.le_refl _) _).alloc (by simp) _).alloc (by simp; omega) _).trans (HB1.out.mono (by simp; omega))).setCell (by simp; omega) _).setCell (by simp) _).setCell (by simp) _).setCell (by simp) _ |>.setCell (by simp) _
/-- A call of the copy, told from the worlds that the boxes were laid in. -/
theorem to_at (t : Tree) (v : Value) (w W x : World) (hl : Lies w t v) (hz : szT t ≤ 1048576) (h1 : Keeps w W) (h2 : Keeps W x) (h3 : Below w.heap.size w x) :
    Calls Tryz.prog 132 #[v] x fun e w' => ∃ v', e = .returned v' ∧ Lies w' t v' ∧ Keeps x w' ∧ Keeps W w' ∧ Below w.heap.size w w' :=
  (toTerm_any t v x hz (hl.keep (h1.trans h2))).mono fun _ _ ⟨v', he, ho, hb⟩ => ⟨v', he, ho.lies, keeps_below hb, h2.trans (keeps_below hb), h3.trans (hb.mono h3.size)⟩
end Go.Proofs.YtofmccihehalcaaGreat.Trm
