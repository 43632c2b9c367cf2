/- The law of ReadsOf out of two contracts, walked. Conditions: the argument reads as a term; both sides answer the same list, in new memory. -/
import Derived.Test.YtokmghhnifdcpaaTermSize
import Derived.Test.YtokmghhnifdcpaaTermTo
import Derived.Test.YtokmghhnifdcpaaTermEq
import Derived.Test.YtokmghhnifdcpaaTermMark
import Derived.Test.YtokmghhnifdcpaaListCalls
import Derived.Test.YtokmghhnifdcpaaStrMarks
import Derived.Deep.DeepCutAuto
namespace Go.Proofs.Ytokmghhnifdcpaa.FnExactReadsOfW
open Go.RowKit Own Trm
def Lists (rs : List ByteArray) (w : World) (e : Ending) (w' : World) : Prop := ∃ ov, e = .returned ov ∧ w'.ownsRow w.heap.size 9 1 ov rs.length (strV rs) ∧ Below w.heap.size w w'
theorem row_up {w w' : World} {base : Nat} {e : TypeId} {size : Nat} {v : Value} {n : Nat} {xs : List Value} (h : w.ownsRow base e size v n xs) (hb : Below w.heap.size w w') : w'.ownsRow base e size v n xs := row_below h hb
theorem row_marks {w w' : World} {base : Nat} {e : TypeId} {size : Nat} {v : Value} {n lo hi : Nat} {xs : List Value} (h : w.ownsRow base e size v n xs) (hm : Marks lo hi w w') (ho : ∀ b, v.ownBlock = some b → b < lo ∨ hi ≤ b) : w'.ownsRow base e size v n xs :=
  row_same h fun b hb => hm.block b (h.lt b hb).2 (ho b hb)
theorem row_other {w w' : World} {base : Nat} {e : TypeId} {size : Nat} {v : Value} {n : Nat} {xs : List Value} {g : Option Nat} (h : w.ownsRow base e size v n xs) (hg : w.grownBy w' g) (ho : ∀ b, v.ownBlock = some b → g ≠ some b) : w'.ownsRow base e size v n xs :=
  row_same h fun b hb => hg.block b (h.lt b hb).2 (fun e1 => ho b hb e1.symm)
set_option maxHeartbeats 1600000 in
theorem core (t : Tree) (vt : Value) (w : World) (rs : List ByteArray) (hlt : Lies w t vt) (hz : szT t ≤ 1048576)
    (c1 : ∀ v w, Lies w t v → Calls Try.prog 17 #[v] w (Lists rs w))
    (c2 : ∀ v w, Lies w t v → Calls Try.prog 12 #[v] w (Lists rs w))
    (cm : ∀ v b w, w.ownsRow b 9 1 v rs.length (strV rs) → Calls Try.prog 30 #[v, .int .i64 1] w fun e w' => e = .returned (.int .i64 (1 + (rs.length : Int))) ∧ w'.ownsRow b 9 1 v rs.length (strV (marks 1 rs.length)) ∧ w.grownBy w' v.ownBlock)
    (ch : ∀ v b w, w.ownsRow b 9 1 v rs.length (strV (marks 1 rs.length)) → Calls Try.prog 31 #[v, .int .i64 1] w fun e w' => e = .returned (.int .i64 (1 + (rs.length : Int))) ∧ w.grownBy w' none) :
    Calls Try.prog 7 #[vt] w fun e w' => e = .returned (.bool true) ∧ Below w.heap.size w w' := by
  have C1 := Lib.hid c1
  have C2 := Lib.hid c2
  have CM := Lib.hid cm
  have CH := Lib.hid ch
  have CS := Lib.hid (fun w hk => szTerm_any t vt w 1048576 (by omega) (hlt.keep hk))
  have CT := Lib.hid (fun x hk => toTerm_any t vt x hz (hlt.keep hk))
  have CE := Lib.hid (eqTerm_any t)
  have CK := Lib.hid (fun v w lo hi hh => markTerm_any t v w lo hi 1 (Nat.le_refl _) (by have := cntT_le t; omega) hh)
  have HZ := Lib.hid (leftR_yes hz)
  have hcn : (0 : Int) ≤ ((1 + 3 * cntT t : Nat) : Int) := by omega
  obtain ⟨_, _, _, _, aa, cap, rfl, _⟩ := hlt.parts
  have hz2 : 0 ≤ ((1048576 - szT t : Nat) : Int) := by omega
  clear c1 c2 cm ch hlt hz
  have X0 := Lib.hid (Box4.new w (.int .i64 t.kind) (.int .i64 t.num) (.string t.name) (.slice aa t.kids.length cap) 39)
  obtain ⟨W, hW⟩ : ∃ W, W = w.alloc (.cells #[.int .i64 t.kind, .int .i64 t.num, .string t.name, .slice aa t.kids.length cap] 39) := ⟨_, rfl⟩
  rw [← hW] at X0
  have kW : Keeps w W := by rw [hW]; exact keeps_alloc _ _
  have BW : Hid (Below w.heap.size w W) := by rw [hW]; exact (Below.refl _ _).alloc (Nat.le_refl _) _
  have HW := Lib.hid hW
  clear hW
  go_enter Try.func7, Try.ntmps7
  go_wp2_with fail
  rw [← HW.out]
  refine (CS.out _ kW).mono ?_
  rintro e w1 ⟨rfl, B1⟩
  rw [HZ.out]
  obtain ⟨p0, p1, p2, p3⟩ := X0.out.keep (keeps_below B1)
  go_wp2_with fail
  refine (CT.out _ (kW.trans (keeps_below B1))).mono ?_
  rintro e w2 ⟨v2, rfl, o2, hb⟩
  have B2 := B1.trans (hb.mono B1.size)
  have l2 := o2.lies
  clear p0 p1 p2 p3 B1 hb o2
  go_wp2_with fail
  refine (C1.out _ _ l2).mono ?_
  rintro e w3 ⟨sv, rfl, r3, hb⟩
  have B3 := B2.trans (hb.mono B2.size)
  have R3 := Lib.hid r3
  clear l2 B2 hb r3
  obtain ⟨p0, p1, p2, p3⟩ := X0.out.keep (keeps_below B3)
  go_wp2_with fail
  refine (CT.out _ (kW.trans (keeps_below B3))).mono ?_
  rintro e w4 ⟨v4, rfl, o4, hb⟩
  obtain ⟨xa, xc, rfl⟩ := o4.shape
  have O4 := Lib.hid o4
  have H34 := Lib.hid hb
  have B4 := B3.trans (hb.mono B3.size)
  have X4 := Lib.hid (Box4.new w4 (.int .i64 t.kind) (.int .i64 t.num) (.string t.name) (.slice xa t.kids.length xc) 26)
  have A4 := Lib.hid ((Below.refl w4.heap.size w4).alloc (Nat.le_refl _) (.cells #[.int .i64 t.kind, .int .i64 t.num, .string t.name, .slice xa t.kids.length xc] 26))
  have B5 := Lib.hid (B4.trans (A4.out.mono B4.size))
  have HW3 : Hid (W.heap.size ≤ w3.heap.size) := B3.size
  clear p0 p1 p2 p3 B3 o4 hb B4
  go_wp2_with fail
  refine (C2.out _ _ (O4.out.lies.keep (keeps_below A4.out))).mono ?_
  rintro e w6 ⟨gv, rfl, r6, hb⟩
  have H46 := Lib.hid (A4.out.trans (hb.mono A4.out.size))
  have H36 := Lib.hid (H34.out.trans (H46.out.mono H34.out.size))
  have S6 := Lib.hid (row_up R3.out H36.out)
  have G6 := Lib.hid r6
  have X6 := Lib.hid (X4.out.keep (keeps_below hb))
  have B6 := Lib.hid (B5.out.trans (hb.mono B5.out.size))
  clear r6 hb
  go_wp2_with fail
  refine (eqStrs_at _ _ rs _ (strs_of_row G6.out) (strs_of_row S6.out)).mono ?_
  rintro e w7 ⟨rfl, hb⟩
  have H67 := Lib.hid hb
  have B7 := Lib.hid (B6.out.trans (hb.mono B6.out.size))
  clear hb
  go_wp2_with fail
  go_cut [31] (fun s31 wx => s31 = .bool false ∧ Below w7.heap.size w7 wx)
  case first =>
    obtain ⟨p0, p1, p2, p3⟩ := X6.out.keep (keeps_below H67.out)
    obtain ⟨q0, q1, q2, q3⟩ := X0.out.keep (keeps_below B7.out)
    have k13 : Keeps w w7.drew := (kW.trans (keeps_below B7.out)).trans (keeps_drew _)
    have l13 : Lies w7.drew t _ := ((O4.out.lies.keep (keeps_below H46.out)).keep (keeps_below H67.out)).keep (keeps_drew _)
    go_region_with (first
      | (go_at_call 21; (with_reducible refine (CT.out _ (by assumption)).mono ?_); rintro e w14 ⟨v14, rfl, o14, h14⟩; have l14 := o14.lies; obtain ⟨r0, r1, r2, r3⟩ := ((X6.out.keep (keeps_below H67.out)).keep (keeps_drew _)).keep (keeps_below h14))
      | (go_at_call 22; refine (CE.out _ _ _ (l13.keep (keeps_below h14)) l14).mono ?_; rintro e w15 ⟨rfl, hb⟩))
    all_goals
      go_wp2_with fail
      go_meet
      exact ⟨rfl, (below_of_drew h14).trans (hb.mono h14.size)⟩
  case rest =>
    obtain ⟨rfl, h8⟩ := hcut
    have H68 := Lib.hid (H67.out.trans (h8.mono H67.out.size))
    have H48 := Lib.hid (H46.out.trans (H68.out.mono H46.out.size))
    have B8 := Lib.hid (B7.out.trans (h8.mono B7.out.size))
    have G8 := Lib.hid (row_up G6.out H68.out)
    have S8 := Lib.hid (row_up S6.out H68.out)
    have O8 := Lib.hid (O4.out.same (fun b _ h2 => H48.out.block b h2))
    obtain ⟨p0, p1, p2, p3⟩ := X6.out.keep (keeps_below H68.out)
    clear h8
    go_wp2_with fail
    refine (CK.out _ _ w3.heap.size w4.heap.size H48.out.size O8.out).mono ?_
    rintro e w9 ⟨rfl, hm⟩
    have H9 := Lib.hid hm
    have B9 := Lib.hid (B8.out.trans ((hm.below (Nat.le_trans H34.out.size H48.out.size)).mono HW3.out))
    have G9 := Lib.hid (row_marks G8.out hm (fun b hb => .inr (Nat.le_trans A4.out.size (G6.out.lt b hb).1)))
    have S9 := Lib.hid (row_marks S8.out hm (fun b hb => .inl (R3.out.lt b hb).2))
    clear hm p0 p1 p2 p3
    go_wp2_with fail
    refine (eqStrs_at _ _ rs _ (strs_of_row G9.out) (strs_of_row S9.out)).mono ?_
    rintro e w10 ⟨rfl, hb⟩
    have B10 := Lib.hid (B9.out.trans (hb.mono B9.out.size))
    have G10 := Lib.hid (row_up G9.out hb)
    have S10 := Lib.hid (row_up S9.out hb)
    clear hb
    go_wp2_with fail
    refine (CM.out _ _ _ G10.out).mono ?_
    rintro e w11 ⟨rfl, m11, hg⟩
    have M11 := Lib.hid m11
    have B11 := Lib.hid (B10.out.grown hg B10.out.size (fun b hb => Nat.le_trans (Nat.le_trans HW3.out (Nat.le_trans H34.out.size A4.out.size)) (G6.out.lt b hb).1))
    have S11 := Lib.hid (row_other S10.out hg (fun b hb e1 => by have := (G6.out.lt b e1).1; have := (R3.out.lt b hb).2; have := H34.out.size; have := A4.out.size; omega))
    clear m11 hg
    go_wp2_with fail
    refine (CH.out _ _ _ M11.out).mono ?_
    rintro e w12 ⟨rfl, hg⟩
    have M12 := Lib.hid (row_other M11.out hg (fun _ _ h => by cases h))
    have S12 := Lib.hid (row_other S11.out hg (fun _ _ h => by cases h))
    have B12 := Lib.hid (B11.out.grown hg B11.out.size (fun _ h => by cases h))
    clear hg
    obtain ⟨p0, p1, p2, p3⟩ := X0.out.keep (keeps_below B12.out)
    go_wp2_with fail
    refine (CT.out _ (kW.trans (keeps_below B12.out))).mono ?_
    rintro e w13 ⟨v13, rfl, o13, hb⟩
    have l13 := o13.lies
    have M13 := Lib.hid (row_up M12.out hb)
    have S13 := Lib.hid (row_up S12.out hb)
    have B13 := Lib.hid (B12.out.trans (hb.mono B12.out.size))
    clear o13 hb p0 p1 p2 p3
    go_wp2_with fail
    refine (C2.out _ _ l13).mono ?_
    rintro e w14 ⟨hv, rfl, r14, hb⟩
    have M14 := Lib.hid (row_up M13.out hb)
    have S14 := Lib.hid (row_up S13.out hb)
    have R14 := Lib.hid r14
    have B14 := Lib.hid (B13.out.trans (hb.mono B13.out.size))
    clear l13 hb r14
    go_wp2_with fail
    refine (eqStrs_at _ _ rs _ (strs_of_row R14.out) (strs_of_row S14.out)).mono ?_
    rintro e w15 ⟨rfl, hb⟩
    have M15 := Lib.hid (row_up M14.out hb)
    have B15 := Lib.hid (B14.out.trans (hb.mono B14.out.size))
    clear hb
    go_wp2_with fail
    refine (CH.out _ _ _ M15.out).mono ?_
    rintro e w16 ⟨rfl, hg⟩
    have B16 := Lib.hid (B15.out.grown hg B15.out.size (fun _ h => by cases h))
    clear hg
    go_wp2_with fail
    go_ret
    exact ⟨rfl, BW.out.trans (B16.out.mono BW.out.size)⟩
theorem big_arg (t : Tree) (v : Value) (w : World) (hl : Lies w t v) (hz : 1048576 < szT t) :
    Calls Try.prog 7 #[v] w fun e w' => e = .returned (.bool true) ∧ Below w.heap.size w w' := by
  have CS := Lib.hid (fun w hk => szTerm_any t v w 1048576 (by omega) (hl.keep hk))
  have HZ := Lib.hid (leftR_no hz)
  obtain ⟨_, _, _, _, aa, cap, rfl, _⟩ := hl.parts
  clear hl hz
  go_enter Try.func7, Try.ntmps7
  go_wp2_with fail
  refine (CS.out _ (keeps_alloc _ _)).mono ?_
  rintro e w1 ⟨rfl, hb⟩
  rw [HZ.out]
  have B1 := Lib.hid (below_box1 hb)
  clear hb
  go_wp2
  go_ret
  exact ⟨rfl, B1.out⟩
end Go.Proofs.Ytokmghhnifdcpaa.FnExactReadsOfW
