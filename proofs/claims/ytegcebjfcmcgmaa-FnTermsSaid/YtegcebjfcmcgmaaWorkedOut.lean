/- The program's Worked, walked. Conditions: the term lies in memory, as do the names and the values. -/
import Derived.Test.YtegcebjfcmcgmaaWorkedImpl
import Derived.Test.YtegcebjfcmcgmaaRightSwitch
import Derived.Deep.RegionHeld3
namespace Go.Proofs.Ytegcebjfcmcgmaa.Trm
open Go.RowKit Own Lexs
def WorkI (ns : List ByteArray) (vs : List Int) (t : Tree) : Prop := ∀ (nv vv : Value) (w : World) (r : Nat), rightB t r = true → InI t.num → StrsAt w ns nv → IntsAt w vs vv →
    Calls Try.prog 47 #[rtV t, nv, vv] w fun e w' => e = .returned (.int .i64 (workT ns vs t)) ∧ Below w.heap.size w w'
set_option maxHeartbeats 400000 in
theorem workI_num (ns : List ByteArray) (vs : List Int) (n : Int) (s : ByteArray) (ks : List Tree) (nv vv : Value) (w : World) (h2 : InI n) :
    Calls Try.prog 47 #[rtV (.node 1 n s ks), nv, vv] w fun e w' => e = .returned (.int .i64 (workT ns vs (.node 1 n s ks))) ∧ Below w.heap.size w w' := by
  have C := Lib.hid (fun w => implRem_any n w h2)
  have HR : Hid (workT ns vs (.node 1 n s ks) = mod3 n) := by show _ = _; rw [workT, if_pos rfl]
  rw [rtV_num]
  have as1 := as_num_num
  clear h2
  go_enter Try.func47, Try.ntmps47
  go_wp2_with fail
  refine (C.out _).mono ?_
  rintro e w1 ⟨rfl, rfl⟩
  go_wp2
  go_ret
  exact ⟨ret_i HR.out.symm, (Below.refl _ _).alloc (Nat.le_refl _) _⟩
set_option maxHeartbeats 400000 in
theorem workI_var (ns : List ByteArray) (vs : List Int) (n : Int) (s : ByteArray) (ks : List Tree) (nv vv : Value) (w : World) (hn : StrsAt w ns nv) (hv : IntsAt w vs vv) :
    Calls Try.prog 47 #[rtV (.node 2 n s ks), nv, vv] w fun e w' => e = .returned (.int .i64 (workT ns vs (.node 2 n s ks))) ∧ Below w.heap.size w w' := by
  have HR : Hid (workT ns vs (.node 2 n s ks) = lookV ns vs s) := by show _ = _; rw [workT, if_neg (by decide), if_pos rfl]
  have C := Lib.hid (implValue_any ns vs s nv vv (w.alloc (.cells #[.string s] 110)) (hn.keep (keeps_alloc _ _)) (hv.keep (keeps_alloc _ _)))
  have CM := Lib.hid implRem_any
  obtain ⟨na, nc, rfl, hn1, _⟩ := hn
  obtain ⟨va, vc, rfl, hv1, _⟩ := hv
  rw [rtV_var]
  have as1 := as_var_num
  have as2 := as_var_var
  go_enter Try.func47, Try.ntmps47
  go_wp2_with fail
  refine C.out.mono ?_
  rintro e w1 ⟨x, rfl, hx, hi, rfl⟩
  have HX := Lib.hid hx
  clear hx
  go_wp2_with fail
  refine (CM.out _ _ hi).mono ?_
  rintro e w2 ⟨rfl, rfl⟩
  go_wp2
  go_ret
  exact ⟨ret_i (by rw [HR.out, HX.out]), (Below.refl _ _).alloc (Nat.le_refl _) _⟩
theorem Lies.nums {w : World} {t : Tree} {v : Value} (h : Lies w t v) : InI t.num := h.parts.2.1
mutual
/-- All the numbers in a tree are ints. -/
def NumsT : Tree → Prop | .node _ n _ ks => InI n ∧ NumsL ks
def NumsL : List Tree → Prop | [] => True | t :: ts => NumsT t ∧ NumsL ts
end
theorem NumsL.mem : ∀ {ks : List Tree}, NumsL ks → ∀ t, t ∈ ks → NumsT t
  | [], _, t, ht => by cases ht
  | a :: ks, h, t, ht => by
    rcases List.mem_cons.1 ht with e | e
    · rw [e]; exact h.1
    · exact NumsL.mem h.2 t e
mutual
theorem Lies.numsT {w : World} : ∀ {t : Tree} {v : Value}, Lies w t v → NumsT t
  | .node k n s ks, v, h => by
    obtain ⟨_, h2, _, _, a, cap, rfl, h5⟩ := h
    refine ⟨h2, ?_⟩
    cases ks with
    | nil => trivial
    | cons t ts =>
      obtain ⟨g, o, _, h6⟩ := h5 (by simp)
      exact LiesL.numsL h6
theorem LiesL.numsL {w : World} : ∀ {ts : List Tree} {g o : Nat}, LiesL w g o ts → NumsL ts
  | [], _, _, _ => trivial
  | t :: ts, g, o, h => by
    obtain ⟨⟨a, cap, c0, c1, c2, c3, hl⟩, hr⟩ := h
    exact ⟨Lies.numsT hl, LiesL.numsL hr⟩
end
def WorkJ (ns : List ByteArray) (vs : List Int) (t : Tree) : Prop := ∀ (nv vv : Value) (w : World) (r : Nat), rightB t r = true → NumsT t → StrsAt w ns nv → IntsAt w vs vv →
    Calls Try.prog 47 #[rtV t, nv, vv] w fun e w' => e = .returned (.int .i64 (workT ns vs t)) ∧ Below w.heap.size w w'
set_option maxHeartbeats 400000 in
theorem workI_not (ns : List ByteArray) (vs : List Int) (n : Int) (s : ByteArray) (ks : List Tree) (ih : ∀ t, t ∈ ks → WorkJ ns vs t) (nv vv : Value) (w : World) (r : Nat) (hr : rightB (.node 8 n s ks) r = true) (hm : NumsT (.node 8 n s ks)) (hn : StrsAt w ns nv) (hv : IntsAt w vs vv) :
    Calls Try.prog 47 #[rtV (.node 8 n s ks), nv, vv] w fun e w' => e = .returned (.int .i64 (workT ns vs (.node 8 n s ks))) ∧ Below w.heap.size w w' := by
  obtain ⟨_, _, hn0, hs0, hlen, _, hrk⟩ := right_parts hr (by decide) (by decide)
  have hl1 : 0 < ks.length := by have : manyK 8 = 1 := rfl; omega
  have hmem := List.getElem_mem hl1
  have HR : Hid (workT ns vs (.node 8 n s ks) = yesI (workT ns vs ks[0] == 0)) := by show _ = _; rw [workT, if_neg (by decide), if_neg (by decide), if_pos rfl, workL_at 0 hl1]; rfl
  obtain ⟨ty, pv, hi⟩ := rtV_iface ks[0]
  have C := Lib.hid (ih ks[0] hmem nv vv (w.alloc (.cells #[.iface ty pv] 116)) (r - 1) (hrk _ hmem) (hm.2.mem _ hmem) (hn.keep (keeps_alloc _ _)) (hv.keep (keeps_alloc _ _)))
  rw [hi] at C
  rw [rtV_not hl1, hi]
  obtain ⟨na, nc, rfl, hn1, _⟩ := hn
  obtain ⟨va, vc, rfl, hv1, _⟩ := hv
  have CY := Lib.hid implOne_any
  have as1 := as_not_num
  have as2 := as_not_var
  have as3 := as_not_not
  clear ih hr hrk hlen hn0 hs0 hi hm hmem
  go_enter Try.func47, Try.ntmps47
  go_wp2_with fail
  refine C.out.mono ?_
  rintro e w1 ⟨rfl, hb⟩
  have B1 := Lib.hid (below_box1 hb)
  clear hb
  go_wp2_with fail
  refine (CY.out _ _).mono ?_
  rintro e w2 ⟨rfl, rfl⟩
  go_wp2
  go_ret
  exact ⟨ret_i HR.out.symm, B1.out⟩
set_option maxHeartbeats 800000 in
theorem workI_pair (ns : List ByteArray) (vs : List Int) (k n : Int) (s : ByteArray) (ks : List Tree) (ih : ∀ t, t ∈ ks → WorkJ ns vs t) (hk1 : k ≠ 1) (hk2 : k ≠ 2) (hk8 : k ≠ 8) (nv vv : Value) (w : World) (r : Nat) (hr : rightB (.node k n s ks) r = true) (hm : NumsT (.node k n s ks)) (hn : StrsAt w ns nv) (hv : IntsAt w vs vv) :
    Calls Try.prog 47 #[rtV (.node k n s ks), nv, vv] w fun e w' => e = .returned (.int .i64 (workT ns vs (.node k n s ks))) ∧ Below w.heap.size w w' := by
  obtain ⟨hk3, hk9, hn0, hs0, hlen, _, hrk⟩ := right_parts hr hk1 hk2
  rw [many_other hk8] at hlen
  have hl1 : 0 < ks.length := by omega
  have hl3 : 1 < ks.length := by omega
  have HR : Hid (workT ns vs (.node k n s ks) = opW k (workT ns vs ks[0]) (workT ns vs ks[1])) := by show _ = _; rw [workT, if_neg hk1, if_neg hk2, if_neg hk8, workL_at 0 hl1, workL_at 1 hl3]
  have ra := workT_range ns vs ks[0]
  have rb := workT_range ns vs ks[1]
  obtain ⟨ty, pv, hi⟩ := rtV_iface ks[0]
  obtain ⟨ty2, pv2, hi2⟩ := rtV_iface ks[1]
  obtain ⟨W, hW⟩ : ∃ W, W = w.alloc (.cells #[.int .i64 k, .iface ty pv, .iface ty2 pv2] 118) := ⟨_, rfl⟩
  have kW : Keeps w W := by rw [hW]; exact keeps_alloc _ _
  have bW : Below w.heap.size w W := by rw [hW]; exact (Below.refl _ _).alloc (Nat.le_refl _) _
  have CA : Hid (∀ w', Keeps W w' → Below w.heap.size w w' → Calls Try.prog 47 #[.iface ty pv, nv, vv] w' fun e w'' => e = .returned (.int .i64 (workT ns vs ks[0])) ∧ Keeps W w'' ∧ Below w.heap.size w w'') := by
    intro w' hk hb
    have := ih ks[0] (List.getElem_mem hl1) nv vv w' (r - 1) (hrk _ (List.getElem_mem hl1)) (hm.2.mem _ (List.getElem_mem hl1)) (hn.keep (kW.trans hk)) (hv.keep (kW.trans hk))
    rw [hi] at this
    exact this.mono fun e w'' ⟨he, h⟩ => ⟨he, hk.trans (keeps_below h), hb.trans (h.mono hb.size)⟩
  have CB : Hid (∀ w', Keeps W w' → Below w.heap.size w w' → Calls Try.prog 47 #[.iface ty2 pv2, nv, vv] w' fun e w'' => e = .returned (.int .i64 (workT ns vs ks[1])) ∧ Keeps W w'' ∧ Below w.heap.size w w'') := by
    intro w' hk hb
    have := ih ks[1] (List.getElem_mem hl3) nv vv w' (r - 1) (hrk _ (List.getElem_mem hl3)) (hm.2.mem _ (List.getElem_mem hl3)) (hn.keep (kW.trans hk)) (hv.keep (kW.trans hk))
    rw [hi2] at this
    exact this.mono fun e w'' ⟨he, h⟩ => ⟨he, hk.trans (keeps_below h), hb.trans (h.mono hb.size)⟩
  have XK : Hid (∀ w', Keeps W w' → w'.cell? ⟨w.heap.size, 0, none⟩ = some (.int .i64 k) ∧ w'.cell? ⟨w.heap.size, 1, none⟩ = some (.iface ty pv) ∧ w'.cell? ⟨w.heap.size, 2, none⟩ = some (.iface ty2 pv2)) := by
    intro w' hk
    refine ⟨hk _ _ ?_, hk _ _ ?_, hk _ _ ?_⟩ <;> rw [hW] <;> simp [go_sem]
  have HW := Lib.hid hW
  generalize workT ns vs ks[0] = a at HR ra CA
  generalize workT ns vs ks[1] = b at HR rb CB
  have CP := Lib.hid (fun w => implPairW_any k a b w (by omega) ra rb)
  rw [rtV_pair hk1 hk2 hk8 hl3, hi, hi2]
  obtain ⟨na, nc, rfl, hn1, _⟩ := hn
  obtain ⟨va, vc, rfl, hv1, _⟩ := hv
  have as1 := as_pair_num
  have as2 := as_pair_var
  have as3 := as_pair_not
  have as4 := as_pair_pair
  clear ih hr hrk hlen hn0 hs0 hi hi2 hm hk1 hk2 hk8 hk3 hk9 hl1 hl3 ra rb hW kW
  go_enter Try.func47, Try.ntmps47
  go_wp2_with fail
  rw [← HW.out]
  have k0 : Keeps W W.drew := keeps_drew _
  have b0 : Below w.heap.size w W.drew := bW.drew
  obtain ⟨c0, c1, c2⟩ := XK.out _ k0
  go_region_held3 (fun wx => wx.cell? ⟨w.heap.size, 0, none⟩ = some (.int .i64 k) ∧ wx.cell? ⟨w.heap.size, 1, none⟩ = some (.iface ty pv) ∧ wx.cell? ⟨w.heap.size, 2, none⟩ = some (.iface ty2 pv2) ∧ Keeps W wx ∧ Below w.heap.size w wx)
    (refine ⟨?_, ?_, ?_, ?_, ?_⟩ <;> assumption)
    (first
    | (go_at_call 47; (with_reducible refine (CA.out _ (by assumption) (by assumption)).mono ?_); rintro e w1 ⟨rfl, k1, b1⟩; obtain ⟨d0, d1, d2⟩ := XK.out _ k1)
    | (go_at_call 47; (with_reducible refine (CB.out _ (by assumption) (by assumption)).mono ?_); rintro e w2 ⟨rfl, k2, b2⟩; obtain ⟨f0, f1, f2⟩ := XK.out _ k2)
    | (go_at_call 78; refine (CP.out _).mono ?_; rintro e w9 ⟨rfl, rfl⟩))
  all_goals
    go_wp2_with fail
    go_ret
    exact ⟨ret_i HR.out.symm, by assumption⟩
theorem implWork_any (ns : List ByteArray) (vs : List Int) : ∀ t : Tree, WorkJ ns vs t := treeInd fun k n s ks ih nv vv w r hr hm hn hv => by
  by_cases h1 : k = 1
  · subst h1; exact workI_num ns vs n s ks nv vv w hm.1
  · by_cases h2 : k = 2
    · subst h2; exact workI_var ns vs n s ks nv vv w hn hv
    · by_cases h8 : k = 8
      · subst h8; exact workI_not ns vs n s ks ih nv vv w r hr hm hn hv
      · exact workI_pair ns vs k n s ks ih h1 h2 h8 nv vv w r hr hm hn hv
set_option maxHeartbeats 400000 in
theorem implWorked_any (ns : List ByteArray) (vs : List Int) (t : Tree) (v nv vv : Value) (w : World) (hl : Lies w t v) (hn : StrsAt w ns nv) (hv : IntsAt w vs vv) :
    Calls Try.prog 12 #[v, nv, vv] w fun e w' => e = .returned (.int .i64 (workedT ns vs t)) ∧ Below w.heap.size w w' := by
  have C := Lib.hid (implRight_any t v (w.alloc (.cells v.cells 26)) 6 (by omega) (hl.keep (keeps_alloc _ _)))
  have HM := Lib.hid hl.numsT
  have HN := Lib.hid hn
  have HV := Lib.hid hv
  obtain ⟨aa, cap, rfl⟩ := hl.shape
  obtain ⟨na, nc, rfl, hn1, _⟩ := hn
  obtain ⟨va, vc, rfl, hv1, _⟩ := hv
  have X0 := Lib.hid (Box4.new w (.int .i64 t.kind) (.int .i64 t.num) (.string t.name) (.slice aa t.kids.length cap) 26)
  obtain ⟨p0, p1, p2, p3⟩ := X0.out
  obtain ⟨ty, pv, hi⟩ := rtV_iface t
  have HI := Lib.hid hi
  clear hl hi
  cases hb : rightB t 6 with
  | false =>
    have HR : Hid (workedT ns vs t = 0) := by show _ = _; unfold workedT okB; rw [hb]; rfl
    unfold RightPost at C
    rw [hb] at C
    clear hb
    go_enter Try.func12, Try.ntmps12
    go_wp2_with fail
    refine C.out.mono ?_
    rintro e w1 ⟨x, rfl, _, hb1⟩
    have B1 := Lib.hid (below_box1 hb1)
    clear hb1
    go_wp2
    go_ret
    exact ⟨ret_i HR.out.symm, B1.out⟩
  | true =>
    have HR : Hid (workedT ns vs t = workT ns vs t) := by show _ = _; unfold workedT okB; rw [hb]; rfl
    have D := Lib.hid (fun w h1 h2 => implWork_any ns vs t (.slice na ns.length nc) (.slice va vs.length vc) w 6 hb HM.out h1 h2)
    rw [HI.out] at D
    unfold RightPost at C
    rw [hb, HI.out] at C
    clear hb
    go_enter Try.func12, Try.ntmps12
    go_wp2_with fail
    refine C.out.mono ?_
    rintro e w1 ⟨x, rfl, hx, hb1⟩
    obtain rfl : x = .iface ty pv := hx trivial
    have K1 := Lib.hid ((keeps_alloc w _).trans (keeps_below hb1))
    have B1 := Lib.hid (below_box1 hb1)
    clear hb1 hx
    go_wp2_with fail
    refine (D.out _ (HN.out.keep K1.out) (HV.out.keep K1.out)).mono ?_
    rintro e w2 ⟨rfl, hb⟩
    have B2 := Lib.hid (B1.out.trans (hb.mono B1.out.size))
    clear hb
    go_wp2
    go_ret
    exact ⟨ret_i HR.out.symm, B2.out⟩
end Go.Proofs.Ytegcebjfcmcgmaa.Trm
