/- The laws' marks over a term that the call owns, walked. Conditions: the term lies in rows of the call's own, the rows apart. -/
import Derived.Test.YtmhhghdfgdhljaaChecked
import Derived.Test.YtmhhghdfgdhljaaTermOwn
import Derived.Test.YtmhhghdfgdhljaaTermTo
import Derived.Test.YtmhhghdfgdhljaaListEq
import Derived.Test.YtmhhghdfgdhljaaMarkText
import Derived.WalkSmall
import Derived.Outline
namespace Go.Proofs.Ytmhhghdfgdhljaa.Trm
open Go.RowKit Own
mutual
def cntT : Tree → Nat
  | .node _ _ _ ks => cntS ks
def cntS : List Tree → Nat
  | [] => 0
  | t :: ts => 1 + cntT t + cntS ts
end
theorem cntT_eq (t : Tree) : cntT t = cntS t.kids := by cases t; rfl
mutual
theorem cntT_le : ∀ t : Tree, cntT t ≤ szT t
  | .node k n s ks => by
    rw [cntT, szT]
    have := cntS_le ks
    omega
theorem cntS_le : ∀ ks : List Tree, cntS ks ≤ ks.length + szS ks
  | [] => by simp [cntS]
  | t :: ts => by
    rw [cntS, szS, List.length_cons]
    have := cntT_le t
    have := cntS_le ts
    omega
end
theorem cntS_drop {ks : List Tree} {i : Nat} (h : i < ks.length) : cntS (ks.drop i) = 1 + cntT ks[i] + cntS (ks.drop (i + 1)) := by rw [List.drop_eq_getElem_cons h, cntS]
theorem cntS_end {ks : List Tree} {i : Nat} (h : ks.length ≤ i) : cntS (ks.drop i) = 0 := by rw [List.drop_of_length_le h, cntS]
/-- What is written lies between two blocks. -/
structure Marks (lo hi : Nat) (w w' : World) : Prop where
  os : w'.os = w.os
  tape : w'.tape = w.tape
  output : w'.output = w.output
  size : w.heap.size ≤ w'.heap.size
  block : ∀ k, k < w.heap.size → (k < lo ∨ hi ≤ k) → w'.heap[k]? = w.heap[k]?
theorem Marks.refl (lo hi : Nat) (w : World) : Marks lo hi w w := ⟨rfl, rfl, rfl, Nat.le_refl _, fun _ _ _ => rfl⟩
theorem Marks.trans {lo hi : Nat} {a b c : World} (h : Marks lo hi a b) (k : Marks lo hi b c) : Marks lo hi a c :=
  ⟨k.os.trans h.os, k.tape.trans h.tape, k.output.trans h.output, Nat.le_trans h.size k.size, fun i hi' ho => (k.block i (Nat.lt_of_lt_of_le hi' h.size) ho).trans (h.block i hi' ho)⟩
theorem Marks.wide {lo hi lo' hi' : Nat} {w w' : World} (h : Marks lo hi w w') (h1 : lo' ≤ lo) (h2 : hi ≤ hi') : Marks lo' hi' w w' :=
  ⟨h.os, h.tape, h.output, h.size, fun k hk ho => h.block k hk (by omega)⟩
theorem Marks.of_grown {lo hi : Nat} {w w' : World} {row : Option Nat} (h : w.grownBy w' row) (hr : ∀ b, row = some b → lo ≤ b ∧ b < hi) : Marks lo hi w w' :=
  ⟨h.os, h.tape, h.output, h.size, fun k hk ho => h.block k hk (fun e => by have := hr k e.symm; omega)⟩
theorem Marks.below {lo hi : Nat} {w w' : World} (h : Marks lo hi w w') (hl : lo ≤ w.heap.size) : Below lo w w' :=
  ⟨h.os, h.tape, h.output, h.size, fun k hk => h.block k (by omega) (.inl hk)⟩
def MarkOk (t : Tree) : Prop := ∀ (kv : Value) (w : World) (lo hi k : Nat), 1 ≤ k → k + 3 * cntT t ≤ 4611686018427387904 → hi ≤ w.heap.size → OwnsK w lo hi t.kids kv →
    Calls Try.prog 73 #[kv, .int .i64 (k : Int)] w fun e w' => e = .returned (.int .i64 ((k + 3 * cntT t : Nat) : Int)) ∧ Marks lo hi w w'
theorem wrap_nat (a : Nat) (h : a ≤ 4611686018427387904) : IntKind.i64.wrap (a : Int) = a := IntWalk.i64_in _ (by omega)
set_option maxHeartbeats 1600000 in
theorem markTerms_any : ∀ t : Tree, MarkOk t := treeInd fun tk tn ts ks ih kv w lo hi k hk1 hkb hhi hok => by
  obtain ⟨xs, m, hrow, hlm, hbm, hol⟩ := hok
  have hlen : ks.length ≤ 9223372036854775807 := by have := row_small hrow; unfold maxLen at this; exact this
  have IH := Lib.hid ih
  have HC : Hid (cntT (.node tk tn ts ks) = cntS (ks.drop 0)) := by show _ = _; rw [cntT]; rfl
  obtain ⟨aa, cap, rfl, haa⟩ := row_shape hrow
  rw [HC.out] at hkb ⊢
  have HB := Lib.hid hkb
  have HA := Lib.hid haa
  have HR := Lib.hid hrow
  have HL : Hid (OwnsL w m hi (ks.drop 0) xs) := hol
  have HM := Lib.hid hbm
  obtain ⟨C, hC⟩ : ∃ C, C = cntS (ks.drop 0) := ⟨_, rfl⟩
  rw [← hC] at hkb HB ⊢
  have HCC := Lib.hid hC
  simp only [Tree.kids] at HR HA hrow ⊢
  clear ih hrow hol hbm haa hC
  go_enter Try.func73, Try.ntmps73
  go_wp2
  go_loopw [1, 5] (fun x i wr => ∃ (j kk mj : Nat) (pre rest : List Value), j ≤ ks.length ∧ i = .int .i64 j ∧ x = .int .i64 kk ∧ 1 ≤ kk ∧ kk ≤ 4611686018427387904 ∧ Hid (kk + 3 * cntS (ks.drop j) = k + 3 * C) ∧ Hid (pre.length = j * 4) ∧ Hid (m ≤ mj) ∧ Hid (wr.ownsRow lo 47 4 (.slice aa ks.length cap) ks.length (pre ++ rest)) ∧ Hid (OwnsL wr mj hi (ks.drop j) rest) ∧ Hid (Marks lo hi w wr))
    (fun _ i _ => ks.length - (intOf i).toNat)
  case atStart => exact ⟨0, k, m, [], xs, Nat.zero_le _, rfl, rfl, hk1, by omega, by show _ = _; rw [HCC.out], rfl, Nat.le_refl _, HR.out, HL.out, Marks.refl _ _ _⟩
  case round =>
    obtain ⟨j, kk, mj, pre, rest, hj, rfl, rfl, hk2, hk3, hsum, hpre, hmj, hrow, hol, hmk⟩ := hrel
    by_cases hlt : j < ks.length
    · obtain ⟨g, rfl⟩ := HA.out (by omega)
      have hd := cntS_drop hlt
      have hol2 := hol.out
      rw [List.drop_eq_getElem_cons hlt] at hol2
      obtain ⟨kv2, rest2, mid, rfl, hmm, how, hol3⟩ := hol2
      have hgm : g < m := HM.out g rfl
      have hmh := hol3.le
      have hsw := hmk.out.size
      obtain ⟨_, _, _, kv3, e3, hok3⟩ := how.parts
      have e4 : kv2 = kv3 := by unfold aggT at e3; simpa using e3
      subst e4
      obtain ⟨xs3, m3, hrow3, hrest3⟩ := id hok3
      obtain ⟨ka, kc, rfl, _⟩ := row_shape hrow3
      have f0 := hrow.out.frozenAt (j * 4)
      have f1 := hrow.out.frozenAt (j * 4 + 1)
      have q0 : wr.cell? ⟨g, j * 4, none⟩ = some (.int .i64 ks[j].kind) := by rw [hrow.out.cellAt (j * 4) (by omega), List.getElem?_append_right (by rw [hpre.out]; omega), hpre.out, Nat.sub_self]; rfl
      have q1 : wr.cell? ⟨g, j * 4 + 1, none⟩ = some (.int .i64 ks[j].num) := by rw [hrow.out.cellAt (j * 4 + 1) (by omega), List.getElem?_append_right (by rw [hpre.out]; omega), hpre.out, Nat.add_sub_cancel_left]; rfl
      obtain ⟨ra, ga⟩ := hrow.out.stored (j * 4) (.int .i64 (kk : Int))
      rw [show pre ++ (cellsT ks[j] (.slice ka ks[j].kids.length kc) ++ rest2) = pre ++ Value.int .i64 ks[j].kind :: (Value.int .i64 ks[j].num :: Value.string ks[j].name :: Value.slice ka ks[j].kids.length kc :: rest2) from rfl, set_mid _ _ _ _ _ hpre.out] at ra
      obtain ⟨rb, gb⟩ := ra.stored (j * 4 + 1) (.int .i64 ((kk : Int) + 1))
      rw [set_mid _ _ _ _ _ (by rw [List.length_append, hpre.out]; rfl)] at rb
      have RB := Lib.hid rb
      have GB := Lib.hid (ga.trans gb)
      have CT := Lib.hid (fun w => markText_any (kk + 2) w (by omega) (by omega))
      have e2 : ((kk + 2 : Nat) : Int) = (kk : Int) + 1 + 1 := by omega
      rw [e2] at CT
      have HSum : Hid (kk + 3 + 3 * cntT ks[j] + 3 * cntS (ks.drop (j + 1)) = k + 3 * C) := by show _ = _; have := hsum.out; omega
      have hkb2 : kk + 3 + 3 * cntT ks[j] ≤ 4611686018427387904 := by have := HSum.out; have := HB.out; omega
      have CM := Lib.hid (fun w hi2 h => IH.out ks[j] (List.getElem_mem hlt) (.slice ka ks[j].kids.length kc) w mj hi2 (kk + 3) (by omega) (by omega) h)
      have e3b : ((kk + 3 : Nat) : Int) = (kk : Int) + 1 + 1 + 1 := by omega
      rw [e3b] at CM
      have HOK3 := Lib.hid hok3
      have HOL3 := Lib.hid hol3
      have f1b := ra.frozenAt (j * 4 + 1)
      obtain ⟨z1, q1b⟩ := row_some ra (j := j * 4 + 1) (by omega)
      clear hd e2 e3 e3b ra rb ga gb hok3 hol3 how hrest3 hrow3
      go_wp2_with fail
      refine (CT.out _).mono ?_
      rintro e w2 ⟨rfl, hg2⟩
      have R2 := Lib.hid (RB.out.kept hg2 (.inr (by simp [Value.ownBlock])))
      have G2 := Lib.hid (GB.out.trans (grown_but hg2 (some g)))
      have f2 := R2.out.frozenAt (j * 4 + 2)
      obtain ⟨z2, q2⟩ := row_some R2.out (j := j * 4 + 2) (by omega)
      obtain ⟨rd, gd⟩ := R2.out.stored (j * 4 + 2) (.string (markB (kk + 2)))
      rw [set_mid _ _ _ _ _ (by rw [List.length_append, List.length_append, hpre.out]; rfl)] at rd
      have RD := Lib.hid rd
      have GD := Lib.hid (G2.out.trans gd)
      have q3 : (w2.setCell ⟨g, j * 4 + 2, none⟩ (.string (markB (kk + 2)))).cell? ⟨g, j * 4 + 3, none⟩ = some (.slice ka ks[j].kids.length kc) := by
        rw [rd.cellAt (j * 4 + 3) (by omega), List.getElem?_append_right (by simp [hpre.out])]
        simp [hpre.out]
      have hsz2 : wr.heap.size ≤ (w2.setCell ⟨g, j * 4 + 2, none⟩ (.string (markB (kk + 2)))).heap.size := GD.out.size
      have hsame : ∀ b, m ≤ b → b < hi → (w2.setCell ⟨g, j * 4 + 2, none⟩ (.string (markB (kk + 2)))).heap[b]? = wr.heap[b]? := fun b h1 h2 => GD.out.block b (by omega) (by simp; omega)
      have HSA := Lib.hid hsame
      have D := Lib.hid (CM.out _ mid (Nat.le_trans hmh (Nat.le_trans hhi (Nat.le_trans hsw hsz2))) (HOK3.out.same (fun b h1 h2 => hsame b (Nat.le_trans hmj.out h1) (by omega))))
      clear rd gd hsame
      go_wp2_with fail
      refine D.out.mono ?_
      rintro e w3 ⟨rfl, hm3⟩
      have HM3 := Lib.hid hm3
      have hlt3 : g < (w2.setCell ⟨g, j * 4 + 2, none⟩ (.string (markB (kk + 2)))).heap.size := (RD.out.lt g rfl).2
      have hgj : g < mj := by have := hmj.out; omega
      have R3 := Lib.hid (row_same RD.out (w' := w3) (fun b hb => by cases hb; exact HM3.out.block g hlt3 (.inl hgj)))
      have L3 : Hid (OwnsL w3 mid hi (ks.drop (j + 1)) rest2) := HOL3.out.same (fun b h1 h2 => (HM3.out.block b (by omega) (.inr h1)).trans (HSA.out b (by have := hmj.out; omega) h2))
      have HMk : Hid (Marks lo hi w w3) := (hmk.out.trans (Marks.of_grown GD.out (fun b hb => by cases hb; exact ⟨(RD.out.lt g rfl).1, by omega⟩))).trans (HM3.out.wide (by have := hmj.out; omega) hmh)
      clear hm3
      go_wp2
      go_roundw
      case rel => exact ⟨j + 1, kk + 3 + 3 * cntT ks[j], mid, pre ++ [Value.int .i64 (kk : Int)] ++ [Value.int .i64 ((kk : Int) + 1)] ++ [Value.string (markB (kk + 2))] ++ [Value.slice ka ks[j].kids.length kc], rest2, by omega, by go_num, rfl, by omega, hkb2, HSum, by show List.length _ = _; rw [List.length_append, List.length_append, List.length_append, List.length_append, hpre.out]; simp; omega, by show _ ≤ _; have := hmj.out; omega, by show World.ownsRow _ _ _ _ _ _ _; have := R3.out; rw [show ∀ (A : List Value) (c : Value) (r : List Value), A ++ c :: r = (A ++ [c]) ++ r from fun A c r => by simp] at this; exact this, L3.out, HMk.out⟩
      case measure => simp [intOf]; omega
    · have HS : Hid (kk = k + 3 * C) := by show _ = _; have := hsum.out; rw [cntS_end (by omega)] at this; omega
      go_wp2
      go_ret
      exact ⟨by rw [HS.out]; rfl, hmk.out⟩
end Go.Proofs.Ytmhhghdfgdhljaa.Trm
