/- The laws' copy of a statement, walked. Conditions: the statement lies in memory; it has at most 2 to the 20 names and statements at once. -/
import Derived.Test.YtmhhghdfgdhljaaChecked
import Derived.Test.YtmhhghdfgdhljaaSOwn
import Derived.Test.YtmhhghdfgdhljaaSSize
import Derived.OwnWalk
import Derived.WalkSmall
import Derived.Outline
namespace Go.Proofs.Ytmhhghdfgdhljaa.Trm
open Go.RowKit Own
theorem infoStmt : (Try.prog.info? 50).map (fun i => (i.zero, i.size, i.bytes)) = some (some (.agg #[.int .i64 0, .string ⟨#[]⟩, .int .i64 0, .int .i64 0, .string ⟨#[]⟩, .slice none 0 0, .slice none 0 0, .slice none 0 0]), 8, 128) := by kernel_rfl
def ToXOk (x : STree) : Prop := ∀ (v : Value) (w : World), szX x ≤ 1048576 → SLies w x v →
    Calls Try.prog 22 #[v] w fun e w' => ∃ v', e = .returned v' ∧ SOwns w' w.heap.size w'.heap.size x v' ∧ Below w.heap.size w w'
theorem row_some8 {w : World} {lo : Nat} {e : TypeId} {g cap n j : Nat} {xs : List Value} (h : w.ownsRow lo e 8 (.slice (some ⟨g, 0, none⟩) n cap) n xs) (hj : j < n * 8) : ∃ u, w.cell? ⟨g, j, none⟩ = some u := by
  refine ⟨xs[j]'(by rw [h.1]; exact hj), ?_⟩
  rw [h.cellAt j hj]; simp
theorem set8 : ∀ (ys : List Value) (z0 z1 z2 z3 z4 z5 z6 z7 v0 v1 v2 v3 v4 v5 v6 v7 : Value) (r : List Value) (j : Nat), ys.length = j → ((((((((ys ++ z0 :: z1 :: z2 :: z3 :: z4 :: z5 :: z6 :: z7 :: r).set j v0).set (j + 1) v1).set (j + 2) v2).set (j + 3) v3).set (j + 4) v4).set (j + 5) v5).set (j + 6) v6).set (j + 7) v7 = ys ++ [v0, v1, v2, v3, v4, v5, v6, v7] ++ r
  | [], _, _, _, _, _, _, _, _, _, _, _, _, _, _, _, _, _, _, h => by subst h; rfl
  | y :: ys, z0, z1, z2, z3, z4, z5, z6, z7, v0, v1, v2, v3, v4, v5, v6, v7, r, j, h => by
    subst h
    have e := set8 ys z0 z1 z2 z3 z4 z5 z6 z7 v0 v1 v2 v3 v4 v5 v6 v7 r ys.length rfl
    simp only [List.cons_append, List.length_cons, List.set_cons_succ, Nat.add_right_comm _ 1] at e ⊢
    rw [e]
theorem row_put8 {w : World} {lo : Nat} {e : TypeId} {g cap n k : Nat} {ys zs : List Value} (h : w.ownsRow lo e 8 (.slice (some ⟨g, 0, none⟩) n cap) n (ys ++ zs)) (hy : ys.length = k * 8) (hk : k < n) (v0 v1 v2 v3 v4 v5 v6 v7 : Value) :
    ∃ zs2, ((((((((w.setCell ⟨g, k * 8, none⟩ v0).setCell ⟨g, k * 8 + 1, none⟩ v1).setCell ⟨g, k * 8 + 2, none⟩ v2).setCell ⟨g, k * 8 + 3, none⟩ v3).setCell ⟨g, k * 8 + 4, none⟩ v4).setCell ⟨g, k * 8 + 5, none⟩ v5).setCell ⟨g, k * 8 + 6, none⟩ v6).setCell ⟨g, k * 8 + 7, none⟩ v7).ownsRow lo e 8 (.slice (some ⟨g, 0, none⟩) n cap) n (ys ++ [v0, v1, v2, v3, v4, v5, v6, v7] ++ zs2) ∧
      w.grownBy ((((((((w.setCell ⟨g, k * 8, none⟩ v0).setCell ⟨g, k * 8 + 1, none⟩ v1).setCell ⟨g, k * 8 + 2, none⟩ v2).setCell ⟨g, k * 8 + 3, none⟩ v3).setCell ⟨g, k * 8 + 4, none⟩ v4).setCell ⟨g, k * 8 + 5, none⟩ v5).setCell ⟨g, k * 8 + 6, none⟩ v6).setCell ⟨g, k * 8 + 7, none⟩ v7) (some g) := by
  have hl := h.1
  rw [List.length_append, hy] at hl
  obtain ⟨z0, z1, z2, z3, z4, z5, z6, z7, r, rfl⟩ : ∃ z0 z1 z2 z3 z4 z5 z6 z7 r, zs = z0 :: z1 :: z2 :: z3 :: z4 :: z5 :: z6 :: z7 :: r := by
    match zs, hl with
    | z0 :: z1 :: z2 :: z3 :: z4 :: z5 :: z6 :: z7 :: r, _ => exact ⟨z0, z1, z2, z3, z4, z5, z6, z7, r, rfl⟩
    | [], hl => exact absurd hl (by simp; omega)
    | [_], hl => exact absurd hl (by simp; omega)
    | [_, _], hl => exact absurd hl (by simp; omega)
    | [_, _, _], hl => exact absurd hl (by simp; omega)
    | [_, _, _, _], hl => exact absurd hl (by simp; omega)
    | [_, _, _, _, _], hl => exact absurd hl (by simp; omega)
    | [_, _, _, _, _, _], hl => exact absurd hl (by simp; omega)
    | [_, _, _, _, _, _, _], hl => exact absurd hl (by simp; omega)
  have a0 := h.stored (k * 8) v0
  have a1 := a0.1.stored (k * 8 + 1) v1
  have a2 := a1.1.stored (k * 8 + 2) v2
  have a3 := a2.1.stored (k * 8 + 3) v3
  have a4 := a3.1.stored (k * 8 + 4) v4
  have a5 := a4.1.stored (k * 8 + 5) v5
  have a6 := a5.1.stored (k * 8 + 6) v6
  have a7 := a6.1.stored (k * 8 + 7) v7
  refine ⟨r, ?_, a0.2.trans (a1.2.trans (a2.2.trans (a3.2.trans (a4.2.trans (a5.2.trans (a6.2.trans (a7.2)))))))⟩
  have := a7.1
  rw [set8 ys z0 z1 z2 z3 z4 z5 z6 z7 v0 v1 v2 v3 v4 v5 v6 v7 r (k * 8) hy] at this
  exact this
set_option maxHeartbeats 1600000 in
theorem toXS_any (xs : List STree) (ih : ∀ x, x ∈ xs → ToXOk x) (v : Value) (w : World) (hsz : xs.length + szXS xs ≤ 1048576) (hl : SListAt w v xs) :
    Calls Try.prog 27 #[v] w fun e w' => ∃ kv, e = .returned kv ∧ SOwnsK w' w.heap.size w'.heap.size xs kv ∧ Below w.heap.size w w' := by
  obtain ⟨hlen0, aa, cap, rfl, hk⟩ := hl
  obtain ⟨i0, hi, hz0, hz1, hz2⟩ := info_parts infoStmt
  have IH := Lib.hid ih
  have HK := Lib.hid hk
  have HZ := Lib.hid hsz
  have hlen : xs.length ≤ 1048576 := by omega
  clear ih hk hsz hlen0
  go_enter Try.func27, Try.ntmps27
  go_wp2_with (at_make; refine wpList_make_full _ rfl (.tmp 6) (.tmp 6) 48 rfl w.heap.size 50 i0 _ 8 Try.underlying48 hi hz0 hz1 .i64 .i64 _ _ xs.length rfl rfl rfl rfl (by rw [hz2]; omega) (by unfold maxLen; omega) (Nat.le_refl _) ?_)
  intro w1 hown hg
  have HO := Lib.hid hown
  have HG := Lib.hid hg
  clear hown hg
  go_wp2
  go_loopw [4] (fun i wr => ∃ (k : Nat) (ys zs : List Value), k ≤ xs.length ∧ i = .int .i64 k ∧ Hid (ys.length = k * 8) ∧ Hid (wr.ownsRow w.heap.size 50 8 (.slice (some ⟨w.heap.size, 0, none⟩) xs.length xs.length) xs.length (ys ++ zs)) ∧ Hid (SOwnsL wr (w.heap.size + 1) wr.heap.size (xs.take k) ys) ∧ Hid (Below w.heap.size w wr))
    (fun i _ => xs.length - (intOf i).toNat)
  case atStart => exact ⟨0, [], _, Nat.zero_le _, rfl, rfl, HO.out, ⟨rfl, by have := HO.out.lt _ rfl; omega⟩, below_none HG.out⟩
  case round =>
    obtain ⟨k, ys, zs, hk, rfl, hy, hrow, hol, hbe⟩ := hrel
    by_cases hlt : k < xs.length
    · obtain ⟨g, o, rfl, hl⟩ := HK.out (by omega)
      obtain ⟨ta, tc, ba, bc, ea, ec, c0, c1, c2, c3, c4, c5, c6, c7, hl2⟩ := (hl.keep (keeps_below hbe.out)).at k hlt
      have C := Lib.hid (IH.out xs[k] (List.getElem_mem hlt) _ wr (by have := szXS_mem (List.getElem_mem hlt); have := HZ.out; omega) hl2)
      clear hl hl2
      go_wp2_with fail
      refine C.out.mono ?_
      rintro e w2 ⟨v2, rfl, how, hb2⟩
      obtain ⟨va, vc, vb, vd, ve, vf, rfl⟩ := how.lies.shape
      have HOw := Lib.hid how
      have HB2 := Lib.hid hb2
      have R2 := Lib.hid (row_below hrow.out hb2)
      clear how hb2 c0 c1 c2 c3 c4 c5 c6 c7
      have f0 := R2.out.frozenAt (k * 8)
      have f1 := R2.out.frozenAt (k * 8 + 1)
      have f2 := R2.out.frozenAt (k * 8 + 2)
      have f3 := R2.out.frozenAt (k * 8 + 3)
      have f4 := R2.out.frozenAt (k * 8 + 4)
      have f5 := R2.out.frozenAt (k * 8 + 5)
      have f6 := R2.out.frozenAt (k * 8 + 6)
      have f7 := R2.out.frozenAt (k * 8 + 7)
      obtain ⟨u0, s0⟩ := row_some8 R2.out (j := k * 8) (by omega)
      obtain ⟨u1, s1⟩ := row_some8 R2.out (j := k * 8 + 1) (by omega)
      obtain ⟨u2, s2⟩ := row_some8 R2.out (j := k * 8 + 2) (by omega)
      obtain ⟨u3, s3⟩ := row_some8 R2.out (j := k * 8 + 3) (by omega)
      obtain ⟨u4, s4⟩ := row_some8 R2.out (j := k * 8 + 4) (by omega)
      obtain ⟨u5, s5⟩ := row_some8 R2.out (j := k * 8 + 5) (by omega)
      obtain ⟨u6, s6⟩ := row_some8 R2.out (j := k * 8 + 6) (by omega)
      obtain ⟨u7, s7⟩ := row_some8 R2.out (j := k * 8 + 7) (by omega)
      obtain ⟨zs2, hr4, hg4⟩ := row_put8 R2.out hy.out hlt (.int .i64 xs[k].kind) (.string xs[k].name) (.int .i64 xs[k].term.kind) (.int .i64 xs[k].term.num) (.string xs[k].term.name) (.slice va xs[k].term.kids.length vc) (.slice vb xs[k].body.length vd) (.slice ve xs[k].els.length vf)
      have HR4 := Lib.hid hr4
      have HG4 := Lib.hid hg4
      clear hr4 hg4
      go_wp2
      go_roundw
      case rel =>
        refine ⟨k + 1, ys ++ cellsX xs[k] (.slice va xs[k].term.kids.length vc) (.slice vb xs[k].body.length vd) (.slice ve xs[k].els.length vf), zs2, by omega, by go_num, ?_, HR4.out, ?_, ?_⟩
        · show _ = _
          rw [List.length_append, hy.out]; simp [cellsX]; omega
        · have hlt0 : w.heap.size < wr.heap.size := (hrow.out.lt _ rfl).2
          have e1 : List.take (k + 1) xs = List.take k xs ++ [xs[k]] := List.take_succ_eq_append_getElem hlt
          rw [e1]
          refine SOwnsL.snoc (mid := wr.heap.size) (SOwnsL.same (fun b h1 h2 => ?_) hol.out) (SOwns.same (fun b h1 h2 => ?_) (HOw.out.wide (Nat.le_refl _) HG4.out.size))
          · exact (HG4.out.block b (Nat.lt_of_lt_of_le h2 HB2.out.size) (by simp; omega)).trans (HB2.out.block b h2)
          · exact HG4.out.block b (by simpa using h2) (by simp; omega)
        · exact (hbe.out.trans (HB2.out.mono hbe.out.size)).grown HG4.out (Nat.le_trans hbe.out.size HB2.out.size) (fun b hb => by cases hb; exact Nat.le_refl _)
      case measure => simp [intOf]; omega
    · obtain rfl : k = xs.length := by omega
      have hz : zs = [] := List.eq_nil_of_length_eq_zero (by have := hrow.out.1; rw [List.length_append, hy.out] at this; omega)
      have HZS := Lib.hid hz
      clear hz
      go_wp2
      go_ret
      have h1 := hrow.out
      have h2 := hol.out
      rw [HZS.out, List.append_nil] at h1
      rw [List.take_length] at h2
      exact ⟨_, rfl, ⟨ys, w.heap.size + 1, h1, by omega, fun b hb => by cases hb; exact Nat.lt_succ_self _, h2⟩, hbe.out⟩
end Go.Proofs.Ytmhhghdfgdhljaa.Trm
