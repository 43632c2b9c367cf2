/- The program's TermText, walked. Conditions: the term lies in memory; it has at most 2 to the 20 kids and bytes; the library's table of powers of ten holds them. -/
import Derived.Test.YtmhhghdfgdhljaaGreatDoorTextMath
import Derived.Test.YtmhhghdfgdhljaaGreatDoorRightSwitch
import Derived.Test.YtmhhghdfgdhljaaGreatDoorDecimalImpl
import Derived.Deep.RegionHeld3
namespace Go.Proofs.YtmhhghdfgdhljaaGreatDoor.Trm
open Go.RowKit Own Decimals
def TextI (t : Tree) : Prop := ∀ (w : World) (r : Nat), rightB t r = true → szT t ≤ 1048576 → Pows w →
    Calls Tryz.prog 146 #[rtV t] w fun e w' => e = .returned (.string (txB t)) ∧ Below w.heap.size w w'
theorem ret_s {a b : ByteArray} (h : a = b) : Ending.returned (.string a) = .returned (.string b) := by rw [h]
set_option maxHeartbeats 400000 in
theorem textI_num (n : Int) (s : ByteArray) (ks : List Tree) (w : World) (h0 : 0 ≤ n) (h1 : n ≤ 1000000000) (hp : Pows w) :
    Calls Tryz.prog 146 #[rtV (.node 1 n s ks)] w fun e w' => e = .returned (.string (txB (.node 1 n s ks))) ∧ Below w.heap.size w w' := by
  have HR : Hid (txB (.node 1 n s ks) = ⟨(Lib.itoa n).toArray⟩) := txB_num _ _ _
  have C := Lib.hid (implDecimal_any n (w.alloc (.cells #[.int .i64 n] 203)) (by omega) (by omega) (hp.below ((Below.refl _ _).alloc (Nat.le_refl _) _)))
  have as1 := as_num_num
  rw [rtV_num]
  clear hp
  go_enter Tryz.func146, Tryz.ntmps146
  go_wp2_with fail
  refine C.out.mono ?_
  rintro e w1 ⟨rfl, hb⟩
  have B1 := Lib.hid (below_box1 hb)
  clear hb
  go_wp2
  go_ret
  exact ⟨ret_s HR.out.symm, B1.out⟩
set_option maxHeartbeats 400000 in
theorem textI_var (n : Int) (s : ByteArray) (ks : List Tree) (w : World) :
    Calls Tryz.prog 146 #[rtV (.node 2 n s ks)] w fun e w' => e = .returned (.string (txB (.node 2 n s ks))) ∧ Below w.heap.size w w' := by
  have HR : Hid (txB (.node 2 n s ks) = s) := txB_var _ _ _
  have as1 := as_var_num
  have as2 := as_var_var
  rw [rtV_var]
  go_enter Tryz.func146, Tryz.ntmps146
  go_wp2
  go_ret
  exact ⟨ret_s HR.out.symm, (Below.refl _ _).alloc (Nat.le_refl _) _⟩
set_option maxHeartbeats 800000 in
theorem textI_not (n : Int) (s : ByteArray) (a : Tree) (ih : TextI a) (w : World) (r : Nat) (hr : rightB a r = true) (hz : szT a ≤ 1048576) (hp : Pows w) :
    Calls Tryz.prog 146 #[rtV (.node 8 n s [a])] w fun e w' => e = .returned (.string (txB (.node 8 n s [a]))) ∧ Below w.heap.size w w' := by
  have HR : Hid (txB (.node 8 n s [a]) = ⟨#[40, 110, 111, 116, 32]⟩ ++ txB a ++ ⟨#[41]⟩) := txB_not _ _ _
  have hsz := txB_size a r hr
  obtain ⟨ty, pv, hi⟩ := rtV_iface a
  have C := Lib.hid (ih (w.alloc (.cells #[.iface ty pv] 210)) r hr hz (hp.below ((Below.refl _ _).alloc (Nat.le_refl _) _)))
  rw [hi] at C
  rw [rtV_not (by simp)]
  simp only [List.getElem_cons_zero]
  rw [hi]
  generalize txB a = xa at HR C hsz
  have hsz2 : xa.size ≤ 30000000 := by omega
  have as1 := as_not_num
  have as2 := as_not_var
  have as3 := as_not_not
  clear ih hr hp hi hsz hz
  go_enter Tryz.func146, Tryz.ntmps146
  go_wp2_with fail
  refine C.out.mono ?_
  rintro e w1 ⟨rfl, hb⟩
  have B1 := Lib.hid (below_box1 hb)
  clear hb
  have ad1 : ∀ w, (Op.stringOp .add ⟨#[40, 110, 111, 116, 32]⟩ xa).run Tryz.prog w = .ok (.string (⟨#[40, 110, 111, 116, 32]⟩ ++ xa)) w := fun w => run_string_add_sum w _ _ (by have : ByteArray.size ⟨#[40, 110, 111, 116, 32]⟩ = 5 := rfl; omega)
  have ad2 : ∀ w, (Op.stringOp .add (⟨#[40, 110, 111, 116, 32]⟩ ++ xa) ⟨#[41]⟩).run Tryz.prog w = .ok (.string (⟨#[40, 110, 111, 116, 32]⟩ ++ xa ++ ⟨#[41]⟩)) w := fun w => run_string_add_sum w _ _ (by rw [ByteArray.size_append]; have : ByteArray.size ⟨#[40, 110, 111, 116, 32]⟩ = 5 := rfl; have : ByteArray.size ⟨#[41]⟩ = 1 := rfl; omega)
  go_wp2
  go_ret
  exact ⟨ret_s HR.out.symm, B1.out⟩
set_option maxHeartbeats 1600000 in
theorem textI_pair (k n : Int) (s : ByteArray) (a b : Tree) (hk1 : k ≠ 1) (hk2 : k ≠ 2) (hk8 : k ≠ 8) (iha : TextI a) (ihb : TextI b) (w : World) (r : Nat) (hra : rightB a r = true) (hrb : rightB b r = true) (hza : szT a ≤ 1048576) (hzb : szT b ≤ 1048576) (hp : Pows w) :
    Calls Tryz.prog 146 #[rtV (.node k n s [a, b])] w fun e w' => e = .returned (.string (txB (.node k n s [a, b]))) ∧ Below w.heap.size w w' := by
  have HR : Hid (txB (.node k n s [a, b]) = ⟨#[40]⟩ ++ txB a ++ ⟨#[32]⟩ ++ pairSg k ++ ⟨#[32]⟩ ++ txB b ++ ⟨#[41]⟩) := txB_pair hk1 hk2 hk8
  have hsa := txB_size a r hra
  have hsb := txB_size b r hrb
  have hsk := pairSg_size k
  obtain ⟨ty, pv, hi⟩ := rtV_iface a
  obtain ⟨ty2, pv2, hi2⟩ := rtV_iface b
  obtain ⟨W, hW⟩ : ∃ W, W = w.alloc (.cells #[.int .i64 k, .iface ty pv, .iface ty2 pv2] 212) := ⟨_, rfl⟩
  have bW : Below w.heap.size w W := by rw [hW]; exact (Below.refl _ _).alloc (Nat.le_refl _) _
  have PW : Pows W := hp.below bW
  have XK : Hid (∀ w', Below W.heap.size W w' → w'.cell? ⟨w.heap.size, 0, none⟩ = some (.int .i64 k) ∧ w'.cell? ⟨w.heap.size, 1, none⟩ = some (.iface ty pv) ∧ w'.cell? ⟨w.heap.size, 2, none⟩ = some (.iface ty2 pv2) ∧ Below W.heap.size W w') := by
    intro w' hb
    have hk := keeps_below hb
    refine ⟨hk _ _ ?_, hk _ _ ?_, hk _ _ ?_, hb⟩ <;> rw [hW] <;> simp [go_sem]
  have CA : Hid (∀ w', Below W.heap.size W w' → Calls Tryz.prog 146 #[.iface ty pv] w' fun e w'' => e = .returned (.string (txB a)) ∧ Below W.heap.size W w'') := by
    intro w' hb
    have := iha w' r hra hza (PW.below hb)
    rw [hi] at this
    exact this.mono fun e w'' ⟨he, h⟩ => ⟨he, hb.trans (h.mono hb.size)⟩
  have CB : Hid (∀ w', Below W.heap.size W w' → Calls Tryz.prog 146 #[.iface ty2 pv2] w' fun e w'' => e = .returned (.string (txB b)) ∧ Below W.heap.size W w'') := by
    intro w' hb
    have := ihb w' r hrb hzb (PW.below hb)
    rw [hi2] at this
    exact this.mono fun e w'' ⟨he, h⟩ => ⟨he, hb.trans (h.mono hb.size)⟩
  have CP : Hid (∀ w', Below W.heap.size W w' → Calls Tryz.prog 175 #[.int .i64 k] w' fun e w'' => e = .returned (.string (pairSg k)) ∧ Below W.heap.size W w'') :=
    fun w' hb => (implPairSign_any k w').mono fun e w'' ⟨he, h⟩ => ⟨he, h ▸ hb⟩
  rw [rtV_pair hk1 hk2 hk8 (by simp)]
  simp only [List.getElem_cons_zero, List.getElem_cons_succ]
  rw [hi, hi2]
  generalize txB a = xa at HR CA hsa
  generalize txB b = xb at HR CB hsb
  generalize pairSg k = xk at HR CP hsk
  have z1 : ByteArray.size ⟨#[40]⟩ = 1 := rfl
  have z2 : ByteArray.size ⟨#[32]⟩ = 1 := rfl
  have z3 : ByteArray.size ⟨#[41]⟩ = 1 := rfl
  have ad1 : ∀ w, (Op.stringOp .add ⟨#[40]⟩ xa).run Tryz.prog w = .ok (.string (⟨#[40]⟩ ++ xa)) w := fun w => run_string_add_sum w _ _ (by omega)
  have ad2 : ∀ w, (Op.stringOp .add (⟨#[40]⟩ ++ xa) ⟨#[32]⟩).run Tryz.prog w = .ok (.string (⟨#[40]⟩ ++ xa ++ ⟨#[32]⟩)) w := fun w => run_string_add_sum w _ _ (by simp only [ByteArray.size_append]; omega)
  have ad3 : ∀ w, (Op.stringOp .add (⟨#[40]⟩ ++ xa ++ ⟨#[32]⟩) xk).run Tryz.prog w = .ok (.string (⟨#[40]⟩ ++ xa ++ ⟨#[32]⟩ ++ xk)) w := fun w => run_string_add_sum w _ _ (by simp only [ByteArray.size_append]; omega)
  have ad4 : ∀ w, (Op.stringOp .add (⟨#[40]⟩ ++ xa ++ ⟨#[32]⟩ ++ xk) ⟨#[32]⟩).run Tryz.prog w = .ok (.string (⟨#[40]⟩ ++ xa ++ ⟨#[32]⟩ ++ xk ++ ⟨#[32]⟩)) w := fun w => run_string_add_sum w _ _ (by simp only [ByteArray.size_append]; omega)
  have ad5 : ∀ w, (Op.stringOp .add (⟨#[40]⟩ ++ xa ++ ⟨#[32]⟩ ++ xk ++ ⟨#[32]⟩) xb).run Tryz.prog w = .ok (.string (⟨#[40]⟩ ++ xa ++ ⟨#[32]⟩ ++ xk ++ ⟨#[32]⟩ ++ xb)) w := fun w => run_string_add_sum w _ _ (by simp only [ByteArray.size_append]; omega)
  have ad6 : ∀ w, (Op.stringOp .add (⟨#[40]⟩ ++ xa ++ ⟨#[32]⟩ ++ xk ++ ⟨#[32]⟩ ++ xb) ⟨#[41]⟩).run Tryz.prog w = .ok (.string (⟨#[40]⟩ ++ xa ++ ⟨#[32]⟩ ++ xk ++ ⟨#[32]⟩ ++ xb ++ ⟨#[41]⟩)) w := fun w => run_string_add_sum w _ _ (by simp only [ByteArray.size_append]; omega)
  have HW := Lib.hid hW
  have HB := Lib.hid bW
  have as1 := as_pair_num
  have as2 := as_pair_var
  have as3 := as_pair_not
  have as4 := as_pair_pair
  clear iha ihb hra hrb hza hzb hi hi2 hk1 hk2 hk8 hW bW PW hp hsa hsb hsk z1 z2 z3
  go_enter Tryz.func146, Tryz.ntmps146
  go_wp2_with fail
  rw [← HW.out]
  have b0 : Below W.heap.size W W.drew := (Below.refl _ _).drew
  obtain ⟨q0, q1, q2, _⟩ := XK.out _ b0
  go_region_held3 (fun wx => wx.cell? ⟨w.heap.size, 0, none⟩ = some (.int .i64 k) ∧ wx.cell? ⟨w.heap.size, 1, none⟩ = some (.iface ty pv) ∧ wx.cell? ⟨w.heap.size, 2, none⟩ = some (.iface ty2 pv2) ∧ Below W.heap.size W wx)
    (exact XK.out _ (by assumption))
    (first
    | (go_at_call 146; (with_reducible refine (CA.out _ (by assumption)).mono ?_); rintro e w1 ⟨rfl, b1⟩)
    | (go_at_call 146; (with_reducible refine (CB.out _ (by assumption)).mono ?_); rintro e w2 ⟨rfl, b2⟩)
    | (go_at_call 175; (with_reducible refine (CP.out _ (by assumption)).mono ?_); rintro e w3 ⟨rfl, b3⟩))
  all_goals
    go_wp2_with fail
    go_ret
    exact ⟨ret_s HR.out.symm, HB.out.trans (Below.mono (by assumption) HB.out.size)⟩
theorem implText_any : ∀ t : Tree, TextI t := treeInd fun k n s ks ih w r h hz hp => by
  rcases right_cases h with ⟨rfl, h0, h1⟩ | rfl | ⟨rfl, a, rfl, ha⟩ | ⟨h1, h2, h8, _, _, a, b, rfl, ha, hb⟩
  · exact textI_num n s ks w h0 h1 hp
  · exact textI_var n s ks w
  · rw [szT, szS, szS] at hz
    exact textI_not n s a (ih a (by simp)) w _ ha (by omega) hp
  · rw [szT, szS, szS, szS] at hz
    exact textI_pair k n s a b h1 h2 h8 (ih a (by simp)) (ih b (by simp)) w _ ha hb (by omega) (by omega) hp
/-- What TermText answers. -/
def textT (t : Tree) : ByteArray := if okB t = true then txB t else ⟨#[]⟩
set_option maxHeartbeats 400000 in
theorem implTermText_any (t : Tree) (v : Value) (w : World) (hl : Lies w t v) (hz : szT t ≤ 1048576) (hp : Pows w) :
    Calls Tryz.prog 101 #[v] w fun e w' => e = .returned (.string (textT t)) ∧ Below w.heap.size w w' := by
  have C := Lib.hid (implRight_any t v (w.alloc (.cells v.cells 43)) 6 (by omega) (hl.keep (keeps_alloc _ _)))
  obtain ⟨aa, cap, rfl⟩ := hl.shape
  have X0 := Lib.hid (Box4.new w (.int .i64 t.kind) (.int .i64 t.num) (.string t.name) (.slice aa t.kids.length cap) 43)
  obtain ⟨p0, p1, p2, p3⟩ := X0.out
  obtain ⟨ty, pv, hi⟩ := rtV_iface t
  have HI := Lib.hid hi
  have HP := Lib.hid hp
  clear hl hi hp
  cases hb : rightB t 6 with
  | false =>
    have HR : Hid (textT t = ⟨#[]⟩) := by show _ = _; unfold textT okB; rw [hb]; rfl
    unfold RightPost at C
    rw [hb] at C
    clear hb
    go_enter Tryz.func101, Tryz.ntmps101
    go_wp2_with fail
    refine C.out.mono ?_
    rintro e w1 ⟨x, rfl, _, hb1⟩
    have B1 := Lib.hid (below_box1 hb1)
    clear hb1
    go_wp2
    go_ret
    exact ⟨ret_s HR.out.symm, B1.out⟩
  | true =>
    have HR : Hid (textT t = txB t) := by show _ = _; unfold textT okB; rw [hb]; rfl
    have D := Lib.hid (fun w h => implText_any t w 6 hb hz h)
    rw [HI.out] at D
    unfold RightPost at C
    rw [hb, HI.out] at C
    clear hb
    go_enter Tryz.func101, Tryz.ntmps101
    go_wp2_with fail
    refine C.out.mono ?_
    rintro e w1 ⟨x, rfl, hx, hb1⟩
    obtain rfl : x = .iface ty pv := hx.1 trivial
    have B1 := Lib.hid (below_box1 hb1)
    clear hb1 hx
    go_wp2_with fail
    refine (D.out _ (HP.out.below B1.out)).mono ?_
    rintro e w2 ⟨rfl, hb⟩
    have B2 := Lib.hid (B1.out.trans (hb.mono B1.out.size))
    clear hb
    go_wp2
    go_ret
    exact ⟨ret_s HR.out.symm, B2.out⟩
end Go.Proofs.YtmhhghdfgdhljaaGreatDoor.Trm
