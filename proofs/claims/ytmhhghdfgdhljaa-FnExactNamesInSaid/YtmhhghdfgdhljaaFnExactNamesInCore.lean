/- The law of NamesIn out of two contracts, walked. Conditions: the argument reads as a list of statements; both sides answer the same list, in new memory. -/
import Derived.Test.YtmhhghdfgdhljaaSSize
import Derived.Test.YtmhhghdfgdhljaaSToOne
import Derived.Test.YtmhhghdfgdhljaaSEq
import Derived.Test.YtmhhghdfgdhljaaSMark
import Derived.Test.YtmhhghdfgdhljaaStrMarks
import Derived.Test.YtmhhghdfgdhljaaListEq
namespace Go.Proofs.Ytmhhghdfgdhljaa.FnExactNamesInW
open Go.RowKit Own Trm
def Lists (rs : List ByteArray) (w : World) (e : Ending) (w' : World) : Prop := ∃ ov, e = .returned ov ∧ w'.ownsRow w.heap.size 9 1 ov rs.length (strV rs) ∧ Below w.heap.size w w'
theorem row_up {w w' : World} {base : Nat} {e : TypeId} {size : Nat} {v : Value} {n : Nat} {xs : List Value} (h : w.ownsRow base e size v n xs) (hb : Below w.heap.size w w') : w'.ownsRow base e size v n xs := row_below h hb
theorem row_marks {w w' : World} {base : Nat} {e : TypeId} {size : Nat} {v : Value} {n lo hi : Nat} {xs : List Value} (h : w.ownsRow base e size v n xs) (hm : Marks lo hi w w') (ho : ∀ b, v.ownBlock = some b → b < lo ∨ hi ≤ b) : w'.ownsRow base e size v n xs :=
  row_same h fun b hb => hm.block b (h.lt b hb).2 (ho b hb)
theorem row_other {w w' : World} {base : Nat} {e : TypeId} {size : Nat} {v : Value} {n : Nat} {xs : List Value} {g : Option Nat} (h : w.ownsRow base e size v n xs) (hg : w.grownBy w' g) (ho : ∀ b, v.ownBlock = some b → g ≠ some b) : w'.ownsRow base e size v n xs :=
  row_same h fun b hb => hg.block b (h.lt b hb).2 (fun e1 => ho b hb e1.symm)
set_option maxHeartbeats 1600000 in
theorem core (xs : List STree) (kd : Int) (v : Value) (w : World) (rs : List ByteArray) (hl : SListAt w v xs) (hz : xs.length + szXS xs ≤ 1048576)
    (c1 : ∀ v w, SListAt w v xs → Calls Try.prog 26 #[v, .int .i64 kd] w (Lists rs w))
    (c2 : ∀ v w l1 h1, SOwnsK w l1 h1 xs v → Calls Try.prog 28 #[v, .int .i64 kd] w (Lists rs w))
    (cm : ∀ v b w, w.ownsRow b 9 1 v rs.length (strV rs) → Calls Try.prog 32 #[v, .int .i64 1] w fun e w' => e = .returned (.int .i64 (1 + (rs.length : Int))) ∧ w'.ownsRow b 9 1 v rs.length (strV (marks 1 rs.length)) ∧ w.grownBy w' v.ownBlock)
    (ch : ∀ v b w, w.ownsRow b 9 1 v rs.length (strV (marks 1 rs.length)) → Calls Try.prog 33 #[v, .int .i64 1] w fun e w' => e = .returned (.int .i64 (1 + (rs.length : Int))) ∧ w.grownBy w' none) :
    Calls Try.prog 7 #[v, .int .i64 kd] w fun e w' => e = .returned (.bool true) ∧ Below w.heap.size w w' := by
  have C1 := Lib.hid c1
  have C2 := Lib.hid c2
  have CM := Lib.hid cm
  have CH := Lib.hid ch
  have CS := Lib.hid (szXS_any xs (fun x _ => szStmt_any x) v w 1048576 (by omega) hl)
  have CT := Lib.hid (fun y hk => toXS_any xs (fun x _ => toStmt_any x) v y hz (hl.keep hk))
  have CE := Lib.hid (eqXS_any xs (fun x _ => eqStmt_any x))
  have CK := Lib.hid (fun v w lo hi hh ho => markS_any xs v w lo hi 1 (Nat.le_refl _) (by have := mkXS_le xs; omega) hh ho)
  have HZ := Lib.hid (leftR_yes hz)
  have hcn : (0 : Int) ≤ ((1 + mkXS xs : Nat) : Int) := by omega
  have hz2 : 0 ≤ ((1048576 - (xs.length + szXS xs) : Nat) : Int) := by omega
  obtain ⟨_, aa, cap, rfl, _⟩ := hl
  clear c1 c2 cm ch hz
  go_enter Try.func7, Try.ntmps7
  go_wp2_with fail
  refine CS.out.mono ?_
  rintro e w1 ⟨rfl, B1⟩
  rw [HZ.out]
  go_wp2_with fail
  refine (CT.out _ (keeps_below B1)).mono ?_
  rintro e w2 ⟨v2, rfl, o2, hb⟩
  have L2 := Lib.hid o2.list
  obtain ⟨_, a2, k2, rfl, _⟩ := o2.list
  have B2 := Lib.hid (B1.trans (hb.mono B1.size))
  clear B1 hb o2
  go_wp2_with fail
  refine (C1.out _ _ L2.out).mono ?_
  rintro e w3 ⟨sv, rfl, r3, hb⟩
  have B3 := Lib.hid (B2.out.trans (hb.mono B2.out.size))
  have R3 := Lib.hid r3
  clear hb r3
  go_wp2_with fail
  refine (CT.out _ (keeps_below B3.out)).mono ?_
  rintro e w4 ⟨v4, rfl, o4, hb⟩
  have O4 := Lib.hid o4
  obtain ⟨_, a4, k4, rfl, _⟩ := o4.list
  have H34 := Lib.hid hb
  have B4 := Lib.hid (B3.out.trans (hb.mono B3.out.size))
  have HW3 : Hid (w.heap.size ≤ w3.heap.size) := B3.out.size
  clear o4 hb
  go_wp2_with fail
  refine (C2.out _ _ _ _ O4.out).mono ?_
  rintro e w6 ⟨gv, rfl, r6, hb⟩
  have H46 := Lib.hid hb
  have H36 := Lib.hid (H34.out.trans (H46.out.mono H34.out.size))
  have S6 := Lib.hid (row_up R3.out H36.out)
  have G6 := Lib.hid r6
  have B6 := Lib.hid (B4.out.trans (hb.mono B4.out.size))
  clear r6 hb
  go_wp2_with fail
  refine (eqStrs_at _ _ rs _ (strs_of_row G6.out) (strs_of_row S6.out)).mono ?_
  rintro e w7 ⟨rfl, hb⟩
  have H67 := Lib.hid hb
  have B7 := Lib.hid (B6.out.trans (hb.mono B6.out.size))
  clear hb
  go_wp2_with fail
  refine (CT.out _ (keeps_below B7.out)).mono ?_
  rintro e w14 ⟨v14, rfl, o14, h14⟩
  have L14 := Lib.hid o14.list
  have M14 := Lib.hid (((O4.out.list.keep (keeps_below H46.out)).keep (keeps_below H67.out)).keep (keeps_below h14))
  obtain ⟨_, a14, k14, rfl, _⟩ := o14.list
  have H714 := Lib.hid h14
  clear o14 h14
  go_wp2_with fail
  refine (CE.out _ _ _ M14.out L14.out).mono ?_
  rintro e w8 ⟨rfl, hb⟩
  have H68 := Lib.hid (H67.out.trans ((H714.out.trans (hb.mono H714.out.size)).mono H67.out.size))
  have H48 := Lib.hid (H46.out.trans (H68.out.mono H46.out.size))
  have B8 := Lib.hid (B6.out.trans (H68.out.mono B6.out.size))
  have G8 := Lib.hid (row_up G6.out H68.out)
  have S8 := Lib.hid (row_up S6.out H68.out)
  have O8 := Lib.hid (O4.out.same (fun b _ h2 => H48.out.block b h2))
  clear hb
  go_wp2_with fail
  refine (CK.out _ _ w3.heap.size w4.heap.size H48.out.size O8.out).mono ?_
  rintro e w9 ⟨rfl, hm⟩
  have B9 := Lib.hid (B8.out.trans ((hm.below (Nat.le_trans H34.out.size H48.out.size)).mono HW3.out))
  have G9 := Lib.hid (row_marks G8.out hm (fun b hb => .inr (G6.out.lt b hb).1))
  have S9 := Lib.hid (row_marks S8.out hm (fun b hb => .inl (R3.out.lt b hb).2))
  clear hm
  go_wp2_with fail
  refine (eqStrs_at _ _ rs _ (strs_of_row G9.out) (strs_of_row S9.out)).mono ?_
  rintro e w10 ⟨rfl, hb⟩
  have B10 := Lib.hid (B9.out.trans (hb.mono B9.out.size))
  have G10 := Lib.hid (row_up G9.out hb)
  have S10 := Lib.hid (row_up S9.out hb)
  clear hb
  go_wp2_with fail
  refine (CM.out _ _ _ G10.out).mono ?_
  rintro e w11 ⟨rfl, m11, hg⟩
  have M11 := Lib.hid m11
  have B11 := Lib.hid (B10.out.grown hg B10.out.size (fun b hb => Nat.le_trans (Nat.le_trans HW3.out H34.out.size) (G6.out.lt b hb).1))
  have S11 := Lib.hid (row_other S10.out hg (fun b hb e1 => by have := (G6.out.lt b e1).1; have := (R3.out.lt b hb).2; have := H34.out.size; omega))
  clear m11 hg
  go_wp2_with fail
  refine (CH.out _ _ _ M11.out).mono ?_
  rintro e w12 ⟨rfl, hg⟩
  have M12 := Lib.hid (row_other M11.out hg (fun _ _ h => by cases h))
  have S12 := Lib.hid (row_other S11.out hg (fun _ _ h => by cases h))
  have B12 := Lib.hid (B11.out.grown hg B11.out.size (fun _ h => by cases h))
  clear hg
  go_wp2_with fail
  refine (CT.out _ (keeps_below B12.out)).mono ?_
  rintro e w13 ⟨v13, rfl, o13, hb⟩
  have O13 := Lib.hid o13
  obtain ⟨_, a13, k13, rfl, _⟩ := o13.list
  have M13 := Lib.hid (row_up M12.out hb)
  have S13 := Lib.hid (row_up S12.out hb)
  have B13 := Lib.hid (B12.out.trans (hb.mono B12.out.size))
  clear o13 hb
  go_wp2_with fail
  refine (C2.out _ _ _ _ O13.out).mono ?_
  rintro e w15 ⟨hv, rfl, r15, hb⟩
  have M15 := Lib.hid (row_up M13.out hb)
  have S15 := Lib.hid (row_up S13.out hb)
  have R15 := Lib.hid r15
  have B15 := Lib.hid (B13.out.trans (hb.mono B13.out.size))
  clear hb r15
  go_wp2_with fail
  refine (eqStrs_at _ _ rs _ (strs_of_row R15.out) (strs_of_row S15.out)).mono ?_
  rintro e w16 ⟨rfl, hb⟩
  have M16 := Lib.hid (row_up M15.out hb)
  have B16 := Lib.hid (B15.out.trans (hb.mono B15.out.size))
  clear hb
  go_wp2_with fail
  refine (CH.out _ _ _ M16.out).mono ?_
  rintro e w17 ⟨rfl, hg⟩
  have B17 := Lib.hid (B16.out.grown hg B16.out.size (fun _ h => by cases h))
  clear hg
  go_wp2_with fail
  go_ret
  exact ⟨rfl, B17.out⟩
theorem big_arg (xs : List STree) (kd : Int) (v : Value) (w : World) (hl : SListAt w v xs) (hz : 1048576 < xs.length + szXS xs) :
    Calls Try.prog 7 #[v, .int .i64 kd] w fun e w' => e = .returned (.bool true) ∧ Below w.heap.size w w' := by
  have CS := Lib.hid (szXS_any xs (fun x _ => szStmt_any x) v w 1048576 (by omega) hl)
  have HZ := Lib.hid (leftR_no hz)
  obtain ⟨_, aa, cap, rfl, _⟩ := hl
  clear hz
  go_enter Try.func7, Try.ntmps7
  go_wp2_with fail
  refine CS.out.mono ?_
  rintro e w1 ⟨rfl, hb⟩
  rw [HZ.out]
  have B1 := Lib.hid hb
  clear hb
  go_wp2
  go_ret
  exact ⟨rfl, B1.out⟩
end Go.Proofs.Ytmhhghdfgdhljaa.FnExactNamesInW
