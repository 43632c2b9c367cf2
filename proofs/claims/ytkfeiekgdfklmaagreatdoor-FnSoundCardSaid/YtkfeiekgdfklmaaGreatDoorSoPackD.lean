/- The program's isNoTerm, walked. Conditions: the term lies in memory. With what it stands on, in one text. -/
import Derived.Test.YtkfeiekgdfklmaaGreatDoorChecked
import Derived.Test.YtkfeiekgdfklmaaGreatDoorTermRight
import Derived.Test.YtkfeiekgdfklmaaGreatDoorNameImpl
import Derived.BigQuiet
import Derived.OwnWalk
import Derived.WalkSmall
import Derived.Outline
import Derived.Test.YtkfeiekgdfklmaaGreatDoorTermTo
import Derived.Test.YtkfeiekgdfklmaaGreatDoorTermSame
import Derived.Test.YtkfeiekgdfklmaaGreatDoorZeroT
/- The program's own reading of a term as one that is right, walked. Conditions: the term lies in memory; at most 6 kinds with kids are left. -/
namespace Go.Proofs.YtkfeiekgdfklmaaGreatDoor.Trm
open Go.RowKit Own Lexs
mutual
/-- A right term's value. -/
def rtV : Tree → Value
  | .node k n s ks =>
    if k = 1 then .iface 208 (.agg #[.int .i64 n])
    else if k = 2 then .iface 210 (.agg #[.string s])
    else if k = 8 then .iface 215 (.agg #[(rtL ks)[0]?.getD .nilIface])
    else .iface 217 (.agg #[.int .i64 k, (rtL ks)[0]?.getD .nilIface, (rtL ks)[1]?.getD .nilIface])
def rtL : List Tree → List Value
  | [] => []
  | t :: ts => rtV t :: rtL ts
end
theorem rtL_map : ∀ ks : List Tree, rtL ks = ks.map rtV
  | [] => rfl
  | t :: ts => by rw [rtL, rtL_map ts]; rfl
theorem rtV_num (n : Int) (s : ByteArray) (ks : List Tree) : rtV (.node 1 n s ks) = .iface 208 (.agg #[.int .i64 n]) := by rw [rtV, if_pos rfl]
theorem rtV_var (n : Int) (s : ByteArray) (ks : List Tree) : rtV (.node 2 n s ks) = .iface 210 (.agg #[.string s]) := by rw [rtV, if_neg (by decide), if_pos rfl]
theorem rtV_not {n : Int} {s : ByteArray} {ks : List Tree} (h : 0 < ks.length) : rtV (.node 8 n s ks) = .iface 215 (.agg #[rtV ks[0]]) := by
  rw [rtV, if_neg (by decide), if_neg (by decide), if_pos rfl, rtL_map]; simp [h]
theorem rtV_pair {k n : Int} {s : ByteArray} {ks : List Tree} (h1 : k ≠ 1) (h2 : k ≠ 2) (h8 : k ≠ 8) (h : 1 < ks.length) : rtV (.node k n s ks) = .iface 217 (.agg #[.int .i64 k, rtV (ks[0]'(by omega)), rtV ks[1]]) := by
  rw [rtV, if_neg h1, if_neg h2, if_neg h8, rtL_map]; simp [h, show 0 < ks.length from by omega]
/-- A callee that leaves the world as it is, in a quiet region. -/
theorem quiet_eq {P : Program} {f : FuncId} {args : Array Value} {w : World} {n : Nat} {v : Value}
    (h : Calls P f args (w.drewN n) fun e w' => e = .returned v ∧ w.drewN n = w') : Calls P f args (w.drewN n) fun e w'' => e = .returned v ∧ ∃ m, w'' = w.drewN m :=
  h.mono fun _ _ ⟨he, hm⟩ => ⟨he, n, hm.symm⟩
/-- An interface's value. -/
def IfV (x : Value) : Prop := x = .nilIface ∨ ∃ ty pv, x = .iface ty pv
/-- What the reading hands back. -/
def RightPost (t : Tree) (r : Nat) (w : World) (e : Ending) (w' : World) : Prop := ∃ x, e = .returned (.tuple #[x, .bool (rightB t r)]) ∧ ((rightB t r = true → x = rtV t) ∧ IfV x) ∧ Below w.heap.size w w'
def RightI (t : Tree) : Prop := ∀ (v : Value) (w : World) (r : Nat), r ≤ 6 → Lies w t v →
    Calls Tryz.prog 156 #[v, .int .i64 (r : Int)] w (RightPost t r w)
theorem rightPost_no {t : Tree} {r : Nat} {w : World} {e : Ending} {w' : World} {x : Value} (h : rightB t r = false) (he : e = .returned (.tuple #[x, .bool false])) (hb : Below w.heap.size w w') (hi : IfV x := by first | exact Or.inl rfl | exact Or.inr ⟨_, _, rfl⟩) : RightPost t r w e w' :=
  ⟨x, by rw [h]; exact he, ⟨(fun h2 => by rw [h] at h2; cases h2), hi⟩, hb⟩
theorem rightPost_yes {t : Tree} {r : Nat} {w : World} {e : Ending} {w' : World} {x : Value} (h : rightB t r = true) (hx : x = rtV t) (he : e = .returned (.tuple #[x, .bool true])) (hb : Below w.heap.size w w') (hi : IfV x := by first | exact Or.inl rfl | exact Or.inr ⟨_, _, rfl⟩) : RightPost t r w e w' :=
  ⟨x, by rw [h]; exact he, ⟨fun _ => hx, hi⟩, hb⟩
theorem below_drewNR {w w' : World} {B : Nat} (h : Below B w w') (m : Nat) : Below B w (w'.drewN m) := ⟨h.os, h.tape, h.output, h.size, h.block⟩
set_option maxHeartbeats 800000 in
theorem rightI_num (n : Int) (s : ByteArray) (ks : List Tree) (v : Value) (w : World) (r : Nat) (hl : Lies w (.node 1 n s ks) v) :
    Calls Tryz.prog 156 #[v, .int .i64 (r : Int)] w (RightPost (.node 1 n s ks) r w) := by
  obtain ⟨h1, h2, h3, h4, aa, cap, rfl, h5⟩ := hl
  clear h5 h1 h2
  have HR : Hid (rightB (.node 1 n s ks) r = (decide (0 ≤ n) && decide (n ≤ 1000000000) && decide (s.size = 0) && decide (ks.length = 0))) := by show _ = _; rw [rightB, if_pos rfl]
  by_cases hn : 0 ≤ n
  · have d1 : decide (0 ≤ n) = true := by simpa using hn
    by_cases hn2 : n ≤ 1000000000
    · have d2 : decide (n ≤ 1000000000) = true := by simpa using hn2
      by_cases hs : s.size = 0
      · have he := empty_true hs
        have HS := Lib.hid hs
        clear hs
        by_cases hk : ks.length = 0
        · have HQ : Hid (rightB (.node 1 n s ks) r = true) := by show _ = _; rw [HR.out]; simp [HS.out, hk, hn, hn2]
          have hk2 : ((ks.length : Int) == 0) = true := by rw [hk]; rfl
          clear hk hn hn2
          go_enter Tryz.func156, Tryz.ntmps156
          go_wp2
          go_quiet (fail)
          go_wp2
          go_ret2
          exact rightPost_yes (x := .iface 208 (.agg #[.int .i64 n])) HQ.out (rtV_num _ _ _).symm rfl (below_drewNR ((Below.refl _ _).alloc (Nat.le_refl _) _) _)
        · have HQ : Hid (rightB (.node 1 n s ks) r = false) := by show _ = _; rw [HR.out]; simp [hk]
          have hk2 := ne_true (k := (ks.length : Int)) (x := 0) (by omega)
          clear hk hn hn2
          go_enter Tryz.func156, Tryz.ntmps156
          go_wp2
          go_quiet (fail)
          go_wp2
          go_ret2
          exact rightPost_no HQ.out rfl (below_drewNR ((Below.refl _ _).alloc (Nat.le_refl _) _) _)
      · have HQ : Hid (rightB (.node 1 n s ks) r = false) := by show _ = _; rw [HR.out]; simp [hs]
        have he := empty_false hs
        clear hs hn hn2
        go_enter Tryz.func156, Tryz.ntmps156
        go_wp2
        go_quiet (fail)
        go_wp2
        go_ret2
        exact rightPost_no HQ.out rfl (below_drewNR ((Below.refl _ _).alloc (Nat.le_refl _) _) _)
    · have d2 : decide (n ≤ 1000000000) = false := by simpa using hn2
      have HQ : Hid (rightB (.node 1 n s ks) r = false) := by show _ = _; rw [HR.out]; simp [hn2]
      clear hn hn2
      go_enter Tryz.func156, Tryz.ntmps156
      go_wp2
      go_quiet (fail)
      go_wp2
      go_ret2
      exact rightPost_no HQ.out rfl (below_drewNR ((Below.refl _ _).alloc (Nat.le_refl _) _) _)
  · have d1 : decide (0 ≤ n) = false := by simpa using hn
    have HQ : Hid (rightB (.node 1 n s ks) r = false) := by show _ = _; rw [HR.out]; simp [hn]
    clear hn
    go_enter Tryz.func156, Tryz.ntmps156
    go_wp2
    go_quiet (fail)
    go_wp2
    go_ret2
    exact rightPost_no HQ.out rfl (below_drewNR ((Below.refl _ _).alloc (Nat.le_refl _) _) _)
set_option maxHeartbeats 800000 in
theorem rightI_var (n : Int) (s : ByteArray) (ks : List Tree) (v : Value) (w : World) (r : Nat) (hl : Lies w (.node 2 n s ks) v) (hsz : s.size ≤ 9223372036854775807) :
    Calls Tryz.prog 156 #[v, .int .i64 (r : Int)] w (RightPost (.node 2 n s ks) r w) := by
  obtain ⟨h1, h2, h3, h4, aa, cap, rfl, h5⟩ := hl
  clear h5 h1 h2
  have HR : Hid (rightB (.node 2 n s ks) r = (decide (n = 0) && isNm s.data.toList && decide (ks.length = 0))) := by show _ = _; rw [rightB, if_neg (by decide), if_pos rfl]
  by_cases hn : n = 0
  · subst hn
    have CN := Lib.hid (fun w => implIsName_any s w hsz)
    cases hb : isNm s.data.toList with
    | false =>
      have HQ : Hid (rightB (.node 2 0 s ks) r = false) := by show _ = _; rw [HR.out, hb]; simp
      rw [hb] at CN
      clear hb
      go_enter Tryz.func156, Tryz.ntmps156
      go_wp2
      go_quiet ((go_at_call 95; exact quiet_eq (CN.out _)))
      go_wp2
      go_ret2
      exact rightPost_no HQ.out rfl (below_drewNR ((Below.refl _ _).alloc (Nat.le_refl _) _) _)
    | true =>
      rw [hb] at CN
      by_cases hk : ks.length = 0
      · have HQ : Hid (rightB (.node 2 0 s ks) r = true) := by show _ = _; rw [HR.out, hb]; simp [hk]
        have hk2 : ((ks.length : Int) == 0) = true := by rw [hk]; rfl
        clear hk hb
        go_enter Tryz.func156, Tryz.ntmps156
        go_wp2
        go_quiet ((go_at_call 95; exact quiet_eq (CN.out _)))
        go_wp2
        go_ret2
        exact rightPost_yes (x := .iface 210 (.agg #[.string s])) HQ.out (rtV_var _ _ _).symm rfl (below_drewNR ((Below.refl _ _).alloc (Nat.le_refl _) _) _)
      · have HQ : Hid (rightB (.node 2 0 s ks) r = false) := by show _ = _; rw [HR.out]; simp [hk]
        have hk2 := ne_true (k := (ks.length : Int)) (x := 0) (by omega)
        clear hk hb
        go_enter Tryz.func156, Tryz.ntmps156
        go_wp2
        go_quiet ((go_at_call 95; exact quiet_eq (CN.out _)))
        go_wp2
        go_ret2
        exact rightPost_no HQ.out rfl (below_drewNR ((Below.refl _ _).alloc (Nat.le_refl _) _) _)
  · have hn2 := ne_true hn
    have HQ : Hid (rightB (.node 2 n s ks) r = false) := by show _ = _; rw [HR.out]; simp [hn]
    clear hn
    go_enter Tryz.func156, Tryz.ntmps156
    go_wp2
    go_quiet (fail)
    go_wp2
    go_ret2
    exact rightPost_no HQ.out rfl (below_drewNR ((Below.refl _ _).alloc (Nat.le_refl _) _) _)
end Go.Proofs.YtkfeiekgdfklmaaGreatDoor.Trm
/- The program's reading of a term's kids, walked. Conditions: the term lies in memory; at most 6 kinds with kids are left; the kids' own reading answers as it should. -/
namespace Go.Proofs.YtkfeiekgdfklmaaGreatDoor.Trm
open Go.RowKit Own Lexs
theorem set_midK (ys : List Value) (z : Value) (zs : List Value) (u : Value) (j : Nat) (h : ys.length = j) : (ys ++ z :: zs).set j u = (ys ++ [u]) ++ zs := by
  subst h
  rw [List.set_append_right _ _ (Nat.le_refl _), Nat.sub_self, List.set_cons_zero]
  simp
theorem infoRight : (Tryz.prog.info? 179).map (fun i => (i.zero, i.size, i.bytes)) = some (some .nilIface, 1, 16) := by kernel_rfl
theorem rtV_iface : ∀ t : Tree, ∃ ty pv, rtV t = .iface ty pv
  | .node k n s ks => by
    rw [rtV]
    by_cases h1 : k = 1
    · rw [if_pos h1]; exact ⟨_, _, rfl⟩
    · by_cases h2 : k = 2
      · rw [if_neg h1, if_pos h2]; exact ⟨_, _, rfl⟩
      · by_cases h8 : k = 8
        · rw [if_neg h1, if_neg h2, if_pos h8]; exact ⟨_, _, rfl⟩
        · rw [if_neg h1, if_neg h2, if_neg h8]; exact ⟨_, _, rfl⟩
def KidsPost (ks : List Tree) (r : Nat) (w : World) (e : Ending) (w' : World) : Prop := Below w.heap.size w w' ∧ ((rightS ks r = true ∧ ∃ g, e = .returned (.tuple #[.slice (some ⟨g, 0, none⟩) ks.length ks.length, .bool true]) ∧ ∀ (i : Nat) (h : i < ks.length), w'.cell? ⟨g, i, none⟩ = some (rtV ks[i])) ∨ (rightS ks r = false ∧ e = .returned (.tuple #[.slice none 0 0, .bool false])))
def KidsNo (w : World) (e : Ending) (w' : World) : Prop := e = .returned (.tuple #[.slice none 0 0, .bool false]) ∧ Below w.heap.size w w'
set_option maxHeartbeats 800000 in
theorem rightKids_bad (k n m : Int) (s : ByteArray) (ks : List Tree) (aa : Option Addr) (cap r : Nat) (w : World) (_hlen : ks.length ≤ 9223372036854775807) (h : ¬ (n = 0 ∧ s.size = 0 ∧ (ks.length : Int) = m ∧ r ≠ 0)) :
    Calls Tryz.prog 179 #[.agg #[.int .i64 k, .int .i64 n, .string s, .slice aa ks.length cap], .int .i64 m, .int .i64 (r : Int)] w (KidsNo w) := by
  by_cases hn : n = 0
  · by_cases hs : s.size = 0
    · by_cases hm : (ks.length : Int) = m
      · have hr : r = 0 := Decidable.byContradiction fun hr => h ⟨hn, hs, hm, hr⟩
        subst hr hn
        have he := empty_true hs
        have hq : ((ks.length : Int) != m) = false := by simp [hm]
        clear hm hs h
        go_enter Tryz.func179, Tryz.ntmps179
        go_wp2
        go_ret2
        exact ⟨rfl, (Below.refl _ _).alloc (Nat.le_refl _) _⟩
      · have hq : ((ks.length : Int) != m) = true := by simp [hm]
        subst hn
        have he := empty_true hs
        clear hm hs h
        go_enter Tryz.func179, Tryz.ntmps179
        go_wp2
        go_ret2
        exact ⟨rfl, (Below.refl _ _).alloc (Nat.le_refl _) _⟩
    · subst hn
      have he := empty_false hs
      clear hs h
      go_enter Tryz.func179, Tryz.ntmps179
      go_wp2
      go_ret2
      exact ⟨rfl, (Below.refl _ _).alloc (Nat.le_refl _) _⟩
  · have hq : (n != 0) = true := by simp [hn]
    clear hn h
    go_enter Tryz.func179, Tryz.ntmps179
    go_wp2
    go_ret2
    exact ⟨rfl, (Below.refl _ _).alloc (Nat.le_refl _) _⟩
set_option maxHeartbeats 1600000 in
theorem rightKids_go (k : Int) (s : ByteArray) (ks : List Tree) (ih : ∀ t, t ∈ ks → RightI t) (aa : Option Addr) (cap r : Nat) (w : World) (hlen : ks.length ≤ 2) (hr0 : r ≠ 0) (hr : r ≤ 6) (hs : s.size = 0) (hk : 0 < ks.length → ∃ g o, aa = some ⟨g, o, none⟩ ∧ LiesL w g o ks) :
    Calls Tryz.prog 179 #[.agg #[.int .i64 k, .int .i64 0, .string s, .slice aa ks.length cap], .int .i64 (ks.length : Int), .int .i64 (r : Int)] w (KidsPost ks (r - 1) w) := by
  obtain ⟨i0, hi, hz0, hz1, hz2⟩ := info_parts infoRight
  have IH := Lib.hid ih
  have HK := Lib.hid hk
  have he := empty_true hs
  have hrz : ((r : Int) == 0) = false := ne_true (by omega)
  have HE := Lib.hid (show ((r - 1 : Nat) : Int) = (r : Int) - 1 from by omega)
  have hr1 : 0 < r := by omega
  clear ih hk hs hr0
  go_enter Tryz.func179, Tryz.ntmps179
  go_wp2_with (at_make; refine wpList_make_full _ rfl (.tmp 32) (.tmp 32) 211 rfl (w.heap.size + 1) 179 i0 _ 1 Tryz.underlying211 hi hz0 hz1 .i64 .i64 _ _ ks.length rfl rfl rfl rfl (by rw [hz2]; omega) (by unfold maxLen; omega) (by simp) ?_)
  intro w1 hown hg
  have HO := Lib.hid hown
  have B1 := Lib.hid (((Below.refl w.heap.size w).alloc (Nat.le_refl _) _).grown hg (by simp) (fun b hb => by cases hb))
  have X1 := Lib.hid ((Box4.new w (.int .i64 k) (.int .i64 0) (.string s) (.slice aa ks.length cap) 34).keep (keeps_below (below_none hg)))
  clear hown hg
  obtain ⟨p0, p1, p2, p3⟩ := X1.out
  go_wp2
  go_loopw [37] (fun i wr => ∃ (j : Nat) (zs : List Value), j ≤ ks.length ∧ i = .int .i64 j ∧ Hid (rightS ks (r - 1) = rightS (ks.drop j) (r - 1)) ∧ Hid (wr.ownsRow (w.heap.size + 1) 179 1 (.slice (some ⟨w.heap.size + 1, 0, none⟩) ks.length ks.length) ks.length ((ks.take j).map rtV ++ zs)) ∧ Hid (Below w.heap.size w wr))
    (fun i _ => ks.length - (intOf i).toNat)
  case atStart => exact ⟨0, _, Nat.zero_le _, rfl, rfl, Lib.hid (by simpa using HO.out), B1.out⟩
  case round =>
    obtain ⟨j, zs, hj, rfl, hsz, hrow, hbe⟩ := hrel
    by_cases hlt : j < ks.length
    · obtain ⟨g, o, rfl, hl⟩ := HK.out (by omega)
      obtain ⟨ka, kc, c0, c1, c2, c3, hl2⟩ := (hl.keep (keeps_below hbe.out)).at j hlt
      have C := Lib.hid (IH.out ks[j] (List.getElem_mem hlt) _ (wr.alloc (.cells #[.int .i64 ks[j].kind, .int .i64 ks[j].num, .string ks[j].name, .slice ka ks[j].kids.length kc] 34)) (r - 1) (by omega) (hl2.keep (keeps_alloc _ _)))
      have hd := rightS_at (r := r - 1) hlt
      rw [HE.out] at C
      clear hl hl2
      go_wp2_with fail
      refine C.out.mono ?_
      rintro e w2 ⟨x, rfl, hx, hb2⟩
      have HB2 := Lib.hid (hbe.out.trans ((below_box1 hb2).mono hbe.out.size))
      have R2 := Lib.hid (row_below hrow.out (below_box1 hb2))
      clear hb2
      cases hq2 : rightB ks[j] (r - 1) with
      | false =>
        have HS2 : Hid (rightS ks (r - 1) = false) := by show _ = _; rw [hsz.out, hd, hq2]; rfl
        clear hq2 hd hx
        go_wp2
        go_ret2
        exact ⟨HB2.out, .inr ⟨HS2.out, rfl⟩⟩
      | true =>
        obtain ⟨ty, pv, hi2⟩ := rtV_iface ks[j]
        obtain rfl : x = .iface ty pv := (hx.1 hq2).trans hi2
        have HX := Lib.hid hi2
        clear hi2
        have HS2 : Hid (rightS ks (r - 1) = rightS (ks.drop (j + 1)) (r - 1)) := by show rightS ks (r - 1) = _; rw [hsz.out, hd, hq2]; rfl
        clear hq2 hd hx
        have hls := R2.out.1
        simp only [List.length_append, List.length_map, List.length_take] at hls
        obtain ⟨z, zs2, rfl⟩ : ∃ z zs2, zs = z :: zs2 := by
          cases zs with
          | nil => simp at hls; omega
          | cons z r => exact ⟨z, r, rfl⟩
        have f0 := R2.out.frozenAt j
        obtain ⟨u0, s0⟩ : ∃ u, w2.cell? ⟨w.heap.size + 1, j, none⟩ = some u := ⟨_, (R2.out.cellAt j (by omega)).trans (List.getElem?_eq_getElem (by rw [R2.out.1]; omega))⟩
        obtain ⟨hr2, hg2⟩ := R2.out.stored j (.iface ty pv)
        rw [set_midK _ _ _ _ j (by simp; omega)] at hr2
        have HR2 : Hid ((w2.setCell ⟨w.heap.size + 1, j, none⟩ (.iface ty pv)).ownsRow (w.heap.size + 1) 179 1 (.slice (some ⟨w.heap.size + 1, 0, none⟩) ks.length ks.length) ks.length ((ks.take (j + 1)).map rtV ++ zs2)) := by
          have e : (ks.take (j + 1)).map rtV = (ks.take j).map rtV ++ [rtV ks[j]] := by rw [List.take_succ_eq_append_getElem hlt]; simp only [List.map_append, List.map_cons, List.map_nil]
          rw [e, HX.out]
          exact hr2
        have HB3 := Lib.hid (HB2.out.grown hg2 HB2.out.size (fun b hb => by cases hb; omega))
        clear hls hr2 hg2
        go_wp2
        go_roundw
        case rel => exact ⟨j + 1, zs2, by omega, by go_num, HS2, HR2, HB3⟩
        case measure => simp [intOf]; omega
    · obtain rfl : j = ks.length := by omega
      have h1 := hrow.out
      rw [List.take_length] at h1
      have hz : zs = [] := by have := h1.1; simpa using this
      rw [hz, List.append_nil] at h1
      have H1 := Lib.hid h1
      have HS2 : Hid (rightS ks (r - 1) = true) := by show _ = _; rw [hsz.out, rightS_end (by omega)]
      clear h1 hz
      go_wp2
      go_ret2
      exact ⟨hbe.out, .inl ⟨HS2.out, _, rfl, fun i hi => by rw [H1.out.cellAt i (by omega)]; simp [hi]⟩⟩
end Go.Proofs.YtkfeiekgdfklmaaGreatDoor.Trm
/- The program's own reading of any term as one that is right, and TermOk, walked. Conditions: the term lies in memory; at most 6 kinds with kids are left. -/
namespace Go.Proofs.YtkfeiekgdfklmaaGreatDoor.Trm
open Go.RowKit Own Lexs
/-- What stands between two kids. -/
def pairSg (k : Int) : ByteArray := if k = 3 then ⟨#[43]⟩ else if k = 4 then ⟨#[45]⟩ else if k = 5 then ⟨#[42]⟩ else if k = 6 then ⟨#[60]⟩ else if k = 7 then ⟨#[61, 61]⟩ else if k = 9 then ⟨#[97, 110, 100]⟩ else ⟨#[]⟩
theorem pairSg_some {k : Int} (h1 : 3 ≤ k) (h2 : k ≤ 9) (h8 : k ≠ 8) : ¬ (pairSg k).size = 0 := by
  rcases (by omega : k = 3 ∨ k = 4 ∨ k = 5 ∨ k = 6 ∨ k = 7 ∨ k = 9) with rfl | rfl | rfl | rfl | rfl | rfl <;> decide
theorem pairSg_none {k : Int} (h : ¬ (3 ≤ k ∧ k ≤ 9)) : (pairSg k).size = 0 := by
  unfold pairSg
  rw [if_neg (by omega), if_neg (by omega), if_neg (by omega), if_neg (by omega), if_neg (by omega), if_neg (by omega)]; rfl
theorem implPairSign_any (k : Int) (w : World) : Calls Tryz.prog 180 #[.int .i64 k] w fun e w' => e = .returned (.string (pairSg k)) ∧ w = w' := by
  by_cases h : k = 3 ∨ k = 4 ∨ k = 5 ∨ k = 6 ∨ k = 7 ∨ k = 9
  · rcases h with rfl | rfl | rfl | rfl | rfl | rfl
    all_goals
      go_enter Tryz.func180, Tryz.ntmps180
      go_wp2
      go_ret
      exact ⟨rfl, rfl⟩
  · have e3 := ne_true (k := k) (x := 3) (by omega)
    have e4 := ne_true (k := k) (x := 4) (by omega)
    have e5 := ne_true (k := k) (x := 5) (by omega)
    have e6 := ne_true (k := k) (x := 6) (by omega)
    have e7 := ne_true (k := k) (x := 7) (by omega)
    have e9 := ne_true (k := k) (x := 9) (by omega)
    have HS : Hid (pairSg k = ⟨#[]⟩) := by
      show _ = _
      unfold pairSg
      rw [if_neg (by omega), if_neg (by omega), if_neg (by omega), if_neg (by omega), if_neg (by omega), if_neg (by omega)]
    clear h
    go_enter Tryz.func180, Tryz.ntmps180
    go_wp2
    go_ret
    exact ⟨by rw [HS.out]; rfl, rfl⟩
set_option maxHeartbeats 1600000 in
theorem rightI_not (n : Int) (s : ByteArray) (ks : List Tree) (ih : ∀ t, t ∈ ks → RightI t) (v : Value) (w : World) (r : Nat) (hr : r ≤ 6) (hl : Lies w (.node 8 n s ks) v) :
    Calls Tryz.prog 156 #[v, .int .i64 (r : Int)] w (RightPost (.node 8 n s ks) r w) := by
  obtain ⟨h1, h2, h3, h4, aa, cap, rfl, h5⟩ := hl
  have HR : Hid (rightB (.node 8 n s ks) r = (decide (n = 0) && decide (s.size = 0) && decide ((ks.length : Int) = 1) && decide (r ≠ 0) && rightS ks (r - 1))) := by
    show _ = _; rw [rightB, if_neg (by decide), if_neg (by decide)]; simp [manyK]
  have X0 := Lib.hid (Box4.new w (.int .i64 8) (.int .i64 n) (.string s) (.slice aa ks.length cap) 34)
  obtain ⟨p0, p1, p2, p3⟩ := X0.out
  by_cases hg : n = 0 ∧ s.size = 0 ∧ (ks.length : Int) = 1 ∧ r ≠ 0
  · obtain ⟨rfl, hs, hm, hr0⟩ := hg
    obtain ⟨a, rfl⟩ : ∃ a, ks = [a] := by
      match ks, hm with
      | [a], _ => exact ⟨a, rfl⟩
      | [], h => simp at h
      | a :: b :: c, h => simp at h; omega
    have HR2 : Hid (rightB (.node 8 0 s [a]) r = rightS [a] (r - 1)) := by show _ = _; rw [HR.out]; simp [hs, hr0]
    have C := Lib.hid (rightKids_go 8 s [a] ih aa cap r (w.alloc (.cells #[.int .i64 8, .int .i64 0, .string s, .slice aa [a].length cap] 34)) (by simp) hr0 hr hs (fun hp => by obtain ⟨g, o, rfl, hl⟩ := h5 hp; exact ⟨g, o, rfl, hl.keep (keeps_alloc _ _)⟩))
    obtain ⟨ty, pv, hi⟩ := rtV_iface a
    have HI := Lib.hid hi
    simp only [List.length_cons, List.length_nil] at p3 C ⊢
    clear h1 h2 h3 h4 h5 ih hi hs hm hr0
    go_enter Tryz.func156, Tryz.ntmps156
    go_wp2_with fail
    refine C.out.mono ?_
    rintro e w1 ⟨hb, hc⟩
    have B1 := Lib.hid (below_box1 hb)
    clear hb
    rcases hc with ⟨hs1, g, rfl, hcell⟩ | ⟨hs1, rfl⟩
    · have c0 : w1.cell? ⟨g, 0, none⟩ = some (.iface ty pv) := by rw [← HI.out]; exact hcell 0 (by simp)
      have HQ : Hid (rightB (.node 8 0 s [a]) r = true) := by show _ = _; rw [HR2.out, hs1]
      clear hs1 hcell
      go_wp2
      go_ret2
      exact rightPost_yes (x := .iface 215 (.agg #[.iface ty pv])) HQ.out (by rw [rtV_not (by simp), ← HI.out]; rfl) rfl B1.out
    · have HQ : Hid (rightB (.node 8 0 s [a]) r = false) := by show _ = _; rw [HR2.out, hs1]
      clear hs1
      go_wp2
      go_ret2
      exact rightPost_no HQ.out rfl B1.out
  · have HQ : Hid (rightB (.node 8 n s ks) r = false) := by
      show _ = _; rw [HR.out, Bool.eq_false_iff]; intro hh
      simp only [Bool.and_eq_true, decide_eq_true_eq] at hh
      exact hg ⟨hh.1.1.1.1, hh.1.1.1.2, hh.1.1.2, hh.1.2⟩
    have C := Lib.hid (rightKids_bad 8 n 1 s ks aa cap r (w.alloc (.cells #[.int .i64 8, .int .i64 n, .string s, .slice aa ks.length cap] 34)) h4 hg)
    clear h1 h2 h3 h4 h5 ih hg
    go_enter Tryz.func156, Tryz.ntmps156
    go_wp2_with fail
    refine C.out.mono ?_
    rintro e w1 ⟨rfl, hb⟩
    have B1 := Lib.hid (below_box1 hb)
    clear hb
    go_wp2
    go_ret2
    exact rightPost_no HQ.out rfl B1.out
set_option maxHeartbeats 1600000 in
theorem rightI_pair (k n : Int) (s : ByteArray) (ks : List Tree) (ih : ∀ t, t ∈ ks → RightI t) (hk1 : k ≠ 1) (hk2 : k ≠ 2) (hk8 : k ≠ 8) (hk : 3 ≤ k ∧ k ≤ 9) (v : Value) (w : World) (r : Nat) (hr : r ≤ 6) (hl : Lies w (.node k n s ks) v) :
    Calls Tryz.prog 156 #[v, .int .i64 (r : Int)] w (RightPost (.node k n s ks) r w) := by
  obtain ⟨h1, h2, h3, h4, aa, cap, rfl, h5⟩ := hl
  have HR : Hid (rightB (.node k n s ks) r = (decide (n = 0) && decide (s.size = 0) && decide ((ks.length : Int) = 2) && decide (r ≠ 0) && rightS ks (r - 1))) := by
    show _ = _; rw [rightB, if_neg hk1, if_neg hk2]; simp [many_other hk8, hk]
  have X0 := Lib.hid (Box4.new w (.int .i64 k) (.int .i64 n) (.string s) (.slice aa ks.length cap) 34)
  obtain ⟨p0, p1, p2, p3⟩ := X0.out
  have e1 := ne_true hk1
  have e2 := ne_true hk2
  have e8 := ne_true hk8
  have CP := Lib.hid (implPairSign_any k)
  have hq := empty_false (pairSg_some hk.1 hk.2 hk8)
  generalize pairSg k = sg at CP hq
  by_cases hg : n = 0 ∧ s.size = 0 ∧ (ks.length : Int) = 2 ∧ r ≠ 0
  · obtain ⟨rfl, hs, hm, hr0⟩ := hg
    obtain ⟨a, b, rfl⟩ : ∃ a b, ks = [a, b] := by
      match ks, hm with
      | [a, b], _ => exact ⟨a, b, rfl⟩
      | [], h => simp at h
      | [a], h => simp at h
      | a :: b :: c :: d, h => simp at h; omega
    have HR2 : Hid (rightB (.node k 0 s [a, b]) r = rightS [a, b] (r - 1)) := by show _ = _; rw [HR.out]; simp [hs, hr0]
    have C := Lib.hid (rightKids_go k s [a, b] ih aa cap r (w.alloc (.cells #[.int .i64 k, .int .i64 0, .string s, .slice aa [a, b].length cap] 34)) (by simp) hr0 hr hs (fun hp => by obtain ⟨g, o, rfl, hl⟩ := h5 hp; exact ⟨g, o, rfl, hl.keep (keeps_alloc _ _)⟩))
    obtain ⟨ty, pv, hi⟩ := rtV_iface a
    obtain ⟨ty2, pv2, hi2⟩ := rtV_iface b
    have HI := Lib.hid hi
    have HI2 := Lib.hid hi2
    have HX : Hid (.iface 217 (.agg #[.int .i64 k, .iface ty pv, .iface ty2 pv2]) = rtV (.node k 0 s [a, b])) := by
      show _ = _; rw [rtV_pair hk1 hk2 hk8 (by simp), ← hi, ← hi2]; rfl
    simp only [List.length_cons, List.length_nil] at p3 C ⊢
    clear h1 h2 h3 h4 h5 ih hi hi2 hs hm hr0 hk1 hk2 hk8 hk
    go_enter Tryz.func156, Tryz.ntmps156
    go_wp2_with fail
    refine (CP.out _).mono ?_
    rintro e w1 ⟨rfl, rfl⟩
    go_wp2_with fail
    refine C.out.mono ?_
    rintro e w1 ⟨hb, hc⟩
    obtain ⟨q0, q1, q2, q3⟩ := X0.out.keep (keeps_below hb)
    have B1 := Lib.hid (below_box1 hb)
    clear hb
    rcases hc with ⟨hs1, g, rfl, hcell⟩ | ⟨hs1, rfl⟩
    · have c0 : w1.cell? ⟨g, 0, none⟩ = some (.iface ty pv) := by rw [← HI.out]; exact hcell 0 (by simp)
      have c1 : w1.cell? ⟨g, 1, none⟩ = some (.iface ty2 pv2) := by rw [← HI2.out]; exact hcell 1 (by simp)
      have HQ : Hid (rightB (.node k 0 s [a, b]) r = true) := by show _ = _; rw [HR2.out, hs1]
      clear hs1 hcell
      go_wp2
      go_quiet (fail)
      go_wp2
      go_ret2
      exact rightPost_yes (x := .iface 217 (.agg #[.int .i64 k, .iface ty pv, .iface ty2 pv2])) HQ.out HX.out rfl (below_drewNR B1.out _)
    · have HQ : Hid (rightB (.node k 0 s [a, b]) r = false) := by show _ = _; rw [HR2.out, hs1]
      clear hs1
      go_wp2
      go_ret2
      exact rightPost_no HQ.out rfl B1.out
  · have HQ : Hid (rightB (.node k n s ks) r = false) := by
      show _ = _; rw [HR.out, Bool.eq_false_iff]; intro hh
      simp only [Bool.and_eq_true, decide_eq_true_eq] at hh
      exact hg ⟨hh.1.1.1.1, hh.1.1.1.2, hh.1.1.2, hh.1.2⟩
    have C := Lib.hid (rightKids_bad k n 2 s ks aa cap r (w.alloc (.cells #[.int .i64 k, .int .i64 n, .string s, .slice aa ks.length cap] 34)) h4 hg)
    clear h1 h2 h3 h4 h5 ih hg hk1 hk2 hk8 hk
    go_enter Tryz.func156, Tryz.ntmps156
    go_wp2_with fail
    refine (CP.out _).mono ?_
    rintro e w1 ⟨rfl, rfl⟩
    go_wp2_with fail
    refine C.out.mono ?_
    rintro e w1 ⟨rfl, hb⟩
    have B1 := Lib.hid (below_box1 hb)
    clear hb
    go_wp2
    go_ret2
    exact rightPost_no HQ.out rfl B1.out
set_option maxHeartbeats 800000 in
theorem rightI_none (k n : Int) (s : ByteArray) (ks : List Tree) (hk1 : k ≠ 1) (hk2 : k ≠ 2) (hk8 : k ≠ 8) (hk : ¬ (3 ≤ k ∧ k ≤ 9)) (v : Value) (w : World) (r : Nat) (hl : Lies w (.node k n s ks) v) :
    Calls Tryz.prog 156 #[v, .int .i64 (r : Int)] w (RightPost (.node k n s ks) r w) := by
  obtain ⟨h1, h2, h3, h4, aa, cap, rfl, h5⟩ := hl
  have HQ : Hid (rightB (.node k n s ks) r = false) := by
    show _ = _; rw [rightB, if_neg hk1, if_neg hk2, Bool.eq_false_iff]; intro hh
    simp only [Bool.and_eq_true, decide_eq_true_eq] at hh
    exact hk ⟨hh.1.1.1.1.1.1, hh.1.1.1.1.1.2⟩
  have e1 := ne_true hk1
  have e2 := ne_true hk2
  have e8 := ne_true hk8
  have CP := Lib.hid (implPairSign_any k)
  have hq := empty_true (pairSg_none hk)
  generalize pairSg k = sg at CP hq
  clear h1 h2 h5 hk hk1 hk2 hk8
  go_enter Tryz.func156, Tryz.ntmps156
  go_wp2_with fail
  refine (CP.out _).mono ?_
  rintro e w1 ⟨rfl, rfl⟩
  go_wp2
  go_ret2
  exact rightPost_no HQ.out rfl ((Below.refl _ _).alloc (Nat.le_refl _) _)
theorem implRight_any : ∀ t : Tree, RightI t := treeInd fun k n s ks ih v w r hr hl => by
  by_cases h1 : k = 1
  · subst h1; exact rightI_num n s ks v w r hl
  · by_cases h2 : k = 2
    · subst h2; exact rightI_var n s ks v w r hl hl.2.2.1
    · by_cases h8 : k = 8
      · subst h8; exact rightI_not n s ks ih v w r hr hl
      · by_cases h : 3 ≤ k ∧ k ≤ 9
        · exact rightI_pair k n s ks ih h1 h2 h8 h v w r hr hl
        · exact rightI_none k n s ks h1 h2 h8 h v w r hl
end Go.Proofs.YtkfeiekgdfklmaaGreatDoor.Trm
/- The program's isNoTerm, walked. Conditions: the term lies in memory. -/
namespace Go.Proofs.YtkfeiekgdfklmaaGreatDoor.Trm
open Go.RowKit Own
def aloneZ (t : Tree) : Bool := decide (t.kind = 0) && (decide (t.num = 0) && decide (t.name.size = 0))
theorem sameT_zT (t : Tree) : sameT t zT = (aloneZ t && decide (t.kids.length = 0)) := by
  cases t with
  | node k n s ks =>
    rw [sameT]
    show (decide (k = 0) && decide (n = 0) && decide (s = ⟨#[]⟩) && decide (ks.length = 0) && sameL ks []) = _
    have e : sameL ks [] = true := by cases ks <;> rfl
    rw [e]
    have hs : s = ⟨#[]⟩ ↔ s.size = 0 := ⟨fun h => by rw [h]; rfl, fun h => ByteArray.ext (Array.eq_empty_of_size_eq_zero h)⟩
    by_cases h1 : s.size = 0 <;> by_cases h2 : ks = [] <;> by_cases h3 : k = 0 <;> by_cases h4 : n = 0 <;> simp [aloneZ, Tree.kind, Tree.num, Tree.name, Tree.kids, hs, h1, h2, h3, h4]
theorem implAloneZ_any (t : Tree) (a : Option Addr) (c : Nat) (w : World) :
    Calls Tryz.prog 175 #[.agg #[.int .i64 t.kind, .int .i64 t.num, .string t.name, .slice a t.kids.length c], .agg #[.int .i64 0, .int .i64 0, .string ⟨#[]⟩, .slice none 0 0]] w fun e w' => e = .returned (.bool (aloneZ t)) ∧ Below w.heap.size w w' := by
  obtain ⟨k, n, s, ks⟩ := t
  have HR : Hid (aloneZ (.node k n s ks) = (decide (k = 0) && (decide (n = 0) && decide (s.size = 0)))) := rfl
  simp only [Tree.kind, Tree.num, Tree.name, Tree.kids]
  generalize aloneZ (.node k n s ks) = rr at HR ⊢
  by_cases hk : k = 0
  · subst hk
    by_cases hn : n = 0
    · subst hn
      by_cases hs : s.size = 0
      · have hq := empty_true hs
        have HS := Lib.hid hs
        clear hs
        go_enter Tryz.func175, Tryz.ntmps175
        go_wp2
        go_ret
        exact ⟨ret_b (by rw [HR.out, decide_eq_true HS.out]; rfl), ((Below.refl _ _).alloc (Nat.le_refl _) _).alloc (by simp) _⟩
      · have hq := empty_false hs
        have HS := Lib.hid hs
        clear hs
        go_enter Tryz.func175, Tryz.ntmps175
        go_wp2
        go_ret
        exact ⟨ret_b (by rw [HR.out, decide_eq_false HS.out]; rfl), ((Below.refl _ _).alloc (Nat.le_refl _) _).alloc (by simp) _⟩
    · have hq : (n == 0) = false := by simp [hn]
      have HN := Lib.hid hn
      clear hn
      go_enter Tryz.func175, Tryz.ntmps175
      go_wp2
      go_ret
      exact ⟨ret_b (by rw [HR.out]; simp [HN.out]), ((Below.refl _ _).alloc (Nat.le_refl _) _).alloc (by simp) _⟩
  · have hq : (k == 0) = false := by simp [hk]
    have HK := Lib.hid hk
    clear hk
    go_enter Tryz.func175, Tryz.ntmps175
    go_wp2
    go_ret
    exact ⟨ret_b (by rw [HR.out]; simp [HK.out]), ((Below.refl _ _).alloc (Nat.le_refl _) _).alloc (by simp) _⟩
theorem implNoTerm_any (t : Tree) (a : Option Addr) (c : Nat) (w : World) (hl : Lies w t (.agg #[.int .i64 t.kind, .int .i64 t.num, .string t.name, .slice a t.kids.length c])) :
    Calls Tryz.prog 150 #[.agg #[.int .i64 t.kind, .int .i64 t.num, .string t.name, .slice a t.kids.length c]] w fun e w' => e = .returned (.bool (sameT t zT)) ∧ Below w.heap.size w w' := by
  have CA := Lib.hid (fun w => implAloneZ_any t a c w)
  have hlen := hl.parts.2.2.2.1
  have HR := Lib.hid (sameT_zT t)
  have X0 := Lib.hid (Box4.new w (.int .i64 t.kind) (.int .i64 t.num) (.string t.name) (.slice a t.kids.length c) 34)
  clear hl
  generalize sameT t zT = rr at HR
  generalize aloneZ t = ra at CA HR
  go_enter Tryz.func150, Tryz.ntmps150
  go_wp2_with fail
  refine (CA.out _).mono ?_
  rintro e w1 ⟨rfl, hb⟩
  have HB := Lib.hid (below_box1 hb)
  obtain ⟨p0, p1, p2, p3⟩ := X0.out.keep (keeps_below hb)
  clear hb
  cases ra with
  | false =>
    have HF : Hid (rr = false) := by show _ = _; rw [HR.out]; rfl
    go_wp2
    go_ret
    exact ⟨ret_b (by rw [HF.out]), HB.out⟩
  | true =>
    by_cases h0 : t.kids.length = 0
    · have HF : Hid (rr = true) := by show _ = _; rw [HR.out]; simp [h0]
      have h1 : ((t.kids.length : Int) == 0) = true := by simp [h0]
      clear h0
      go_wp2
      go_ret
      exact ⟨ret_b (by rw [HF.out]), HB.out⟩
    · have HF : Hid (rr = false) := by show _ = _; rw [HR.out]; simp [h0]
      have h1 : ((t.kids.length : Int) == 0) = false := by rw [beq_eq_false_iff_ne]; omega
      clear h0
      go_wp2
      go_ret
      exact ⟨ret_b (by rw [HF.out]), HB.out⟩
end Go.Proofs.YtkfeiekgdfklmaaGreatDoor.Trm
