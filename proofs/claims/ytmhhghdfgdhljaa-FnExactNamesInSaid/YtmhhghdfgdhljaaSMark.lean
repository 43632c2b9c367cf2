/- The laws' marks over statements that the call owns, walked. Conditions: the statements lie in rows of the call's own, the rows apart. -/
import Derived.Test.YtmhhghdfgdhljaaTermMark
import Derived.Test.YtmhhghdfgdhljaaSOwn
import Derived.Test.YtmhhghdfgdhljaaSTo
import Derived.Test.YtmhhghdfgdhljaaSSize
namespace Go.Proofs.Ytmhhghdfgdhljaa.Trm
open Go.RowKit Own
mutual
def mkX : STree → Nat
  | .node _ _ t b e => 5 + 3 * cntT t + mkXS b + mkXS e
def mkXS : List STree → Nat
  | [] => 0
  | x :: xs => mkX x + mkXS xs
end
theorem mkX_eq (x : STree) : mkX x = 5 + 3 * cntT x.term + mkXS x.body + mkXS x.els := by cases x; rfl
mutual
theorem mkX_le : ∀ x : STree, mkX x ≤ 5 + 5 * szX x
  | .node k s t b e => by
    rw [mkX, szX]
    have := mkXS_le b
    have := mkXS_le e
    have := cntT_le t
    omega
theorem mkXS_le : ∀ xs : List STree, mkXS xs ≤ 5 * (xs.length + szXS xs)
  | [] => by simp [mkXS]
  | x :: xs => by
    rw [mkXS, szXS, List.length_cons]
    have := mkX_le x
    have := mkXS_le xs
    omega
end
theorem mkXS_drop {xs : List STree} {i : Nat} (h : i < xs.length) : mkXS (xs.drop i) = mkX xs[i] + mkXS (xs.drop (i + 1)) := by rw [List.drop_eq_getElem_cons h, mkXS]
theorem mkXS_end {xs : List STree} {i : Nat} (h : xs.length ≤ i) : mkXS (xs.drop i) = 0 := by rw [List.drop_of_length_le h, mkXS]
def MarkSOk (xs : List STree) : Prop := ∀ (v : Value) (w : World) (lo hi k : Nat), 1 ≤ k → k + mkXS xs ≤ 4611686018427387904 → hi ≤ w.heap.size → SOwnsK w lo hi xs v →
    Calls Try.prog 31 #[v, .int .i64 (k : Int)] w fun e w' => e = .returned (.int .i64 ((k + mkXS xs : Nat) : Int)) ∧ Marks lo hi w w'
theorem mid_at {w : World} {lo : Nat} {g n cap : Nat} {pre zs rest : List Value} {z : Value} (h : w.ownsRow lo 50 8 (.slice (some ⟨g, 0, none⟩) n cap) n (pre ++ zs ++ z :: rest)) {j i : Nat} (hp : pre.length = j * 8) (hz : zs.length = i) (hj : j < n) (hi : i < 8) : w.cell? ⟨g, j * 8 + i, none⟩ = some z := by
  rw [h.cellAt (j * 8 + i) (by omega), List.getElem?_append_right (by simp; omega)]
  have : j * 8 + i - (pre ++ zs).length = 0 := by rw [List.length_append]; omega
  rw [this]; rfl
theorem mid_set {w : World} {lo : Nat} {g n cap : Nat} {pre zs rest : List Value} {z : Value} (u : Value) (h : w.ownsRow lo 50 8 (.slice (some ⟨g, 0, none⟩) n cap) n (pre ++ zs ++ z :: rest)) {j i : Nat} (hp : pre.length = j * 8) (hz : zs.length = i) :
    (w.setCell ⟨g, j * 8 + i, none⟩ u).ownsRow lo 50 8 (.slice (some ⟨g, 0, none⟩) n cap) n (pre ++ (zs ++ [u]) ++ rest) ∧ w.grownBy (w.setCell ⟨g, j * 8 + i, none⟩ u) (some g) := by
  obtain ⟨h1, h2⟩ := h.stored (j * 8 + i) u
  rw [set_mid _ _ _ _ _ (by rw [List.length_append]; omega)] at h1
  rw [List.append_assoc pre zs [u]] at h1
  exact ⟨h1, h2⟩
theorem mid_next {w : World} {lo : Nat} {v : Value} {n : Nat} {pre zs rest : List Value} {z : Value} (h : w.ownsRow lo 50 8 v n (pre ++ zs ++ z :: rest)) : w.ownsRow lo 50 8 v n (pre ++ (zs ++ [z]) ++ rest) := by
  rw [show pre ++ (zs ++ [z]) ++ rest = pre ++ zs ++ z :: rest from by simp]; exact h
set_option maxHeartbeats 3200000 in
theorem markS_list (xs : List STree) (ih : ∀ x, x ∈ xs → MarkSOk x.body ∧ MarkSOk x.els) : MarkSOk xs := fun v w lo hi k hk1 hkb hhi hok => by
  obtain ⟨cs, m, hrow, hlm, hbm, hol⟩ := hok
  have hlen : xs.length ≤ 9223372036854775807 := by obtain ⟨_, _, _, hn, _⟩ := slies_of_row hrow; exact hn
  have IH := Lib.hid ih
  obtain ⟨aa, cap, rfl, haa⟩ := row_shape hrow
  have HB := Lib.hid hkb
  have HA := Lib.hid haa
  have HR := Lib.hid hrow
  have HL : Hid (SOwnsL w m hi (xs.drop 0) cs) := hol
  have HM := Lib.hid hbm
  have HHI := Lib.hid hhi
  clear ih hrow hol hbm haa
  go_enter Try.func31, Try.ntmps31
  go_wp2
  go_loopw [1, 5] (fun x i wr => ∃ (j kk mj : Nat) (pre rest : List Value), j ≤ xs.length ∧ i = .int .i64 j ∧ x = .int .i64 kk ∧ 1 ≤ kk ∧ kk ≤ 4611686018427387904 ∧ Hid (kk + mkXS (xs.drop j) = k + mkXS xs) ∧ Hid (pre.length = j * 8) ∧ Hid (m ≤ mj) ∧ Hid (wr.ownsRow lo 50 8 (.slice aa xs.length cap) xs.length (pre ++ rest)) ∧ Hid (SOwnsL wr mj hi (xs.drop j) rest) ∧ Hid (Marks lo hi w wr))
    (fun _ i _ => xs.length - (intOf i).toNat)
  case atStart => exact ⟨0, k, m, [], cs, Nat.zero_le _, rfl, rfl, hk1, by omega, rfl, rfl, Nat.le_refl _, HR.out, HL.out, Marks.refl _ _ _⟩
  case round =>
    obtain ⟨j, kk, mj, pre, rest, hj, rfl, rfl, hk2, hk3, hsum, hpre, hmj, hrow, hol, hmk⟩ := hrel
    by_cases hlt : j < xs.length
    · obtain ⟨g, rfl⟩ := HA.out (by omega)
      have hd := mkXS_drop hlt
      rw [mkX_eq] at hd
      have hol2 := hol.out
      rw [List.drop_eq_getElem_cons hlt] at hol2
      obtain ⟨kv, bv, ev, rest2, mid, rfl, hmm, how, hol3⟩ := hol2
      have hgm : g < m := HM.out g rfl
      have hmh := hol3.le
      have hsw := hmk.out.size
      have hgj : g < mj := by have := hmj.out; omega
      obtain ⟨_, _, kv2, bv2, ev2, m1, m2, e3, hot, hob, hoe⟩ := how.parts
      have e4 : kv = kv2 ∧ bv = bv2 ∧ ev = ev2 := by unfold aggX at e3; simpa using e3
      obtain ⟨rfl, rfl, rfl⟩ := e4
      obtain ⟨_, _, _, kv4, e5, hok⟩ := hot.parts
      have e6 : kv = kv4 := by unfold aggT at e5; simpa using e5
      subst e6
      have hl1 := hot.le
      have hl2 := hob.le
      have hl3 := hoe.le
      obtain ⟨ta, tc, rfl⟩ : ∃ a c, kv = .slice a xs[j].term.kids.length c := by obtain ⟨_, _, r, _⟩ := id hok; obtain ⟨a, c, e, _⟩ := row_shape r; exact ⟨a, c, e⟩
      obtain ⟨ba, bc, rfl⟩ : ∃ a c, bv = .slice a xs[j].body.length c := by obtain ⟨_, _, r, _⟩ := id hob; obtain ⟨a, c, e, _⟩ := row_shape r; exact ⟨a, c, e⟩
      obtain ⟨ea, ec, rfl⟩ : ∃ a c, ev = .slice a xs[j].els.length c := by obtain ⟨_, _, r, _⟩ := id hoe; obtain ⟨a, c, e, _⟩ := row_shape r; exact ⟨a, c, e⟩
      have r0 := hrow.out
      rw [show ∀ (a b c : Value), pre ++ (cellsX xs[j] a b c ++ rest2) = pre ++ [] ++ Value.int .i64 xs[j].kind :: (Value.string xs[j].name :: Value.int .i64 xs[j].term.kind :: Value.int .i64 xs[j].term.num :: Value.string xs[j].term.name :: a :: b :: c :: rest2) from fun a b c => by simp [cellsX]] at r0
      have f0 := r0.frozenAt (j * 8 + 0)
      have q0 := mid_at r0 hpre.out (i := 0) rfl hlt (by omega)
      obtain ⟨r1, g1⟩ := mid_set (.int .i64 (kk : Int)) r0 hpre.out (i := 0) rfl
      simp only [Nat.add_zero] at f0 q0 r1 g1
      have R1 := Lib.hid r1
      have G1 := Lib.hid g1
      have CT := Lib.hid (fun w => markText_any (kk + 1) w (by omega) (by omega))
      have CT2 := Lib.hid (fun w => markText_any (kk + 4) w (by omega) (by omega))
      rw [show ((kk + 1 : Nat) : Int) = (kk : Int) + 1 from by omega] at CT
      rw [show ((kk + 4 : Nat) : Int) = (kk : Int) + 1 + 1 + 1 + 1 from by omega] at CT2
      have HSum : Hid (kk + 5 + 3 * cntT xs[j].term + mkXS xs[j].body + mkXS xs[j].els + mkXS (xs.drop (j + 1)) = k + mkXS xs) := by show _ = _; have := hsum.out; omega
      have hkb2 : kk + 5 + 3 * cntT xs[j].term + mkXS xs[j].body + mkXS xs[j].els ≤ 4611686018427387904 := by have := HSum.out; have := HB.out; omega
      have CK := Lib.hid (fun w hi2 h => markTerms_any xs[j].term (.slice ta xs[j].term.kids.length tc) w mj hi2 (kk + 5) (by omega) (by omega) h)
      rw [show ((kk + 5 : Nat) : Int) = (kk : Int) + 1 + 1 + 1 + 1 + 1 from by omega] at CK
      have hin := IH.out xs[j] (List.getElem_mem hlt)
      have CB := Lib.hid (fun w hi2 h => hin.1 (.slice ba xs[j].body.length bc) w m1 hi2 (kk + 5 + 3 * cntT xs[j].term) (by omega) (by omega) h)
      have CE := Lib.hid (fun w hi2 h => hin.2 (.slice ea xs[j].els.length ec) w m2 hi2 (kk + 5 + 3 * cntT xs[j].term + mkXS xs[j].body) (by omega) (by omega) h)
      have HOK := Lib.hid hok
      have HOB := Lib.hid hob
      have HOE := Lib.hid hoe
      have HOL3 := Lib.hid hol3
      have HLE := Lib.hid (And.intro hl1 (And.intro hl2 (And.intro hl3 (And.intro hmh hgj))))
      have HSZ : Hid (hi ≤ wr.heap.size) := Nat.le_trans HHI.out hsw
      clear hd r0 r1 g1 hok hob hoe hol3 how hot hin e3 e5 hl1 hl2 hl3 hsum hol
      go_wp2_with fail
      refine (CT.out _).mono ?_
      rintro e w2 ⟨rfl, hg2⟩
      have R2 := Lib.hid (R1.out.kept hg2 (.inr (by simp [Value.ownBlock])))
      have G2 := Lib.hid (G1.out.trans (grown_but hg2 (some g)))
      obtain ⟨r3, g3⟩ := mid_set (.string (markB (kk + 1))) R2.out hpre.out (i := 1) rfl
      obtain ⟨r4, g4⟩ := mid_set (.int .i64 ((kk : Int) + 1 + 1)) r3 hpre.out (i := 2) rfl
      obtain ⟨r5, g5⟩ := mid_set (.int .i64 ((kk : Int) + 1 + 1 + 1)) r4 hpre.out (i := 3) rfl
      have q1 := mid_at R2.out hpre.out (i := 1) rfl hlt (by omega)
      have q2 := mid_at r3 hpre.out (i := 2) rfl hlt (by omega)
      have q3 := mid_at r4 hpre.out (i := 3) rfl hlt (by omega)
      have f1 := R2.out.frozenAt (j * 8 + 1)
      have f2 := r3.frozenAt (j * 8 + 2)
      have f3 := r4.frozenAt (j * 8 + 3)
      have R5 := Lib.hid r5
      have G5 := Lib.hid (G2.out.trans (g3.trans (g4.trans g5)))
      clear r3 r4 r5 g3 g4 g5 hg2 f0 q0
      go_wp2_with fail
      refine (CT2.out _).mono ?_
      rintro e w3 ⟨rfl, hg3⟩
      have R6 := Lib.hid (R5.out.kept hg3 (.inr (by simp [Value.ownBlock])))
      have G6 := Lib.hid (G5.out.trans (grown_but hg3 (some g)))
      obtain ⟨r7, g7⟩ := mid_set (.string (markB (kk + 4))) R6.out hpre.out (i := 4) rfl
      have q4 := mid_at R6.out hpre.out (i := 4) rfl hlt (by omega)
      have f4 := R6.out.frozenAt (j * 8 + 4)
      have R7 := Lib.hid r7
      have G7 := Lib.hid (G6.out.trans g7)
      obtain ⟨W7, hW7⟩ : ∃ W7, W7 = w3.setCell ⟨g, j * 8 + 4, none⟩ (.string (markB (kk + 4))) := ⟨_, rfl⟩
      rw [← hW7] at R7 G7
      have HW7 := Lib.hid hW7
      have x5 := mid_at R7.out hpre.out (i := 5) rfl hlt (by omega)
      rw [HW7.out] at x5
      have hsa : Hid (∀ b, mj ≤ b → b < hi → W7.heap[b]? = wr.heap[b]?) := fun b h1 h2 => G7.out.block b (by have := HSZ.out; omega) (by have := HLE.out; simp; omega)
      have HG7 : Hid (hi ≤ W7.heap.size) := Nat.le_trans HSZ.out G7.out.size
      clear r7 g7 hg3 q1 q2 q3 f1 f2 f3 hW7
      go_wp2_with fail
      rw [← HW7.out]
      refine (CK.out _ m1 (by have := HLE.out; have := HG7.out; omega) (HOK.out.same (fun b h1 h2 => hsa.out b h1 (by have := HLE.out; omega)))).mono ?_
      rintro e w8 ⟨rfl, hm8⟩
      have HM8 := Lib.hid hm8
      have hg8 : g < W7.heap.size := (R7.out.lt g rfl).2
      have R8 := Lib.hid (row_same R7.out (w' := w8) (fun b hb => by cases hb; exact HM8.out.block g hg8 (.inl HLE.out.2.2.2.2)))
      have x6 := mid_at (mid_next R8.out) hpre.out (i := 6) rfl hlt (by omega)
      have hsb : Hid (∀ b, m1 ≤ b → b < hi → w8.heap[b]? = wr.heap[b]?) := fun b h1 h2 => (HM8.out.block b (by have := HG7.out; omega) (.inr h1)).trans (hsa.out b (by have := HLE.out; omega) h2)
      have HG8 : Hid (hi ≤ w8.heap.size) := Nat.le_trans HG7.out HM8.out.size
      clear hm8 x5 q4 f4
      go_wp2_with fail
      refine (CB.out _ m2 (by have := HLE.out; have := HG8.out; omega) (HOB.out.same (fun b h1 h2 => hsb.out b h1 (by have := HLE.out; omega)))).mono ?_
      rintro e w9 ⟨rfl, hm9⟩
      have HM9 := Lib.hid hm9
      have hg9 : g < w8.heap.size := (R8.out.lt g rfl).2
      have R9 := Lib.hid (row_same R8.out (w' := w9) (fun b hb => by cases hb; exact HM9.out.block g hg9 (.inl (by have := HLE.out; omega))))
      have x7 := mid_at (mid_next (mid_next R9.out)) hpre.out (i := 7) rfl hlt (by omega)
      have hsc : Hid (∀ b, m2 ≤ b → b < hi → w9.heap[b]? = wr.heap[b]?) := fun b h1 h2 => (HM9.out.block b (by have := HG8.out; omega) (.inr h1)).trans (hsb.out b (by have := HLE.out; omega) h2)
      have HG9 : Hid (hi ≤ w9.heap.size) := Nat.le_trans HG8.out HM9.out.size
      clear hm9 x6
      go_wp2_with fail
      refine (CE.out _ mid (by have := HLE.out; have := HG9.out; omega) (HOE.out.same (fun b h1 h2 => hsc.out b h1 (by have := HLE.out; omega)))).mono ?_
      rintro e w10 ⟨rfl, hm10⟩
      have HM10 := Lib.hid hm10
      have hg10 : g < w9.heap.size := (R9.out.lt g rfl).2
      have R10 := Lib.hid (row_same R9.out (w' := w10) (fun b hb => by cases hb; exact HM10.out.block g hg10 (.inl (by have := HLE.out; omega))))
      have L10 : Hid (SOwnsL w10 mid hi (xs.drop (j + 1)) rest2) := HOL3.out.same (fun b h1 h2 => (HM10.out.block b (by have := HG9.out; omega) (.inr h1)).trans (hsc.out b (by have := HLE.out; omega) h2))
      have HMk : Hid (Marks lo hi w w10) := (hmk.out.trans (Marks.of_grown G7.out (fun b hb => by cases hb; exact ⟨(R7.out.lt g rfl).1, by have := HLE.out; omega⟩))).trans (((HM8.out.wide (by have := HLE.out; have := (R7.out.lt g rfl).1; omega) (by have := HLE.out; omega)).trans (HM9.out.wide (by have := HLE.out; have := (R7.out.lt g rfl).1; omega) (by have := HLE.out; omega))).trans (HM10.out.wide (by have := HLE.out; have := (R7.out.lt g rfl).1; omega) (by have := HLE.out; omega)))
      clear hm10 x7
      go_wp2
      go_roundw
      case rel =>
        refine ⟨j + 1, kk + 5 + 3 * cntT xs[j].term + mkXS xs[j].body + mkXS xs[j].els, mid, pre ++ [Value.int .i64 (kk : Int), Value.string (markB (kk + 1)), Value.int .i64 ((kk : Int) + 1 + 1), Value.int .i64 ((kk : Int) + 1 + 1 + 1), Value.string (markB (kk + 4)), .slice ta xs[j].term.kids.length tc, .slice ba xs[j].body.length bc, .slice ea xs[j].els.length ec], rest2, by omega, by go_num, rfl, by omega, hkb2, HSum, ?_, ?_, ?_, L10.out, HMk.out⟩
        · show List.length _ = _
          rw [List.length_append, hpre.out]; simp; omega
        · show m ≤ mid
          have := hmj.out; have := HLE.out; omega
        · have := R10.out
          show World.ownsRow _ _ _ _ _ _ _
          simpa using this
      case measure => simp [intOf]; omega
    · have HS : Hid (kk = k + mkXS xs) := by show _ = _; have := hsum.out; rw [mkXS_end (by omega)] at this; omega
      go_wp2
      go_ret
      exact ⟨by rw [HS.out]; rfl, hmk.out⟩
theorem markS_all : ∀ x : STree, MarkSOk x.body ∧ MarkSOk x.els := streeInd fun _ _ _ b e ihb ihe => ⟨markS_list b ihb, markS_list e ihe⟩
theorem markS_any (xs : List STree) : MarkSOk xs := markS_list xs fun x _ => markS_all x
end Go.Proofs.Ytmhhghdfgdhljaa.Trm
