/- The program's SameTerm, walked. Conditions: both terms lie in rows that are not frozen; the first has at most 2 to the 20 kids and bytes. With what it stands on, in one text. -/
import Derived.Test.YtibkmcfinkadhaaGreatDoorChecked
import Derived.Test.YtibkmcfinkadhaaGreatDoorTermRight
import Derived.Test.YtibkmcfinkadhaaGreatDoorNameImpl
import Derived.BigQuiet
import Derived.OwnWalk
import Derived.WalkSmall
import Derived.Outline
import Derived.Test.YtibkmcfinkadhaaGreatDoorTermTo
import Derived.Test.YtibkmcfinkadhaaGreatDoorTermOwn
import Derived.Maps.OwnOps
import Derived.LaidEql
import Derived.Laws.StructEq
import Derived.ChangeKeysEq
import Derived.Test.YtibkmcfinkadhaaGreatDoorFreeT
import Derived.Lib.Hide
import Derived.Test.YtibkmcfinkadhaaGreatDoorTermSame
import Derived.Test.YtibkmcfinkadhaaGreatDoorTermSize
import Derived.Test.YtibkmcfinkadhaaGreatDoorStrCells
import Derived.Deep.RegionHeld3
import Derived.Deep.DeepCutAuto
/- The program's own reading of a term as one that is right, walked. Conditions: the term lies in memory; at most 6 kinds with kids are left. -/
namespace Go.Proofs.YtibkmcfinkadhaaGreatDoor.Trm
open Go.RowKit Own Lexs
mutual
/-- A right term's value. -/
def rtV : Tree → Value
  | .node k n s ks =>
    if k = 1 then .iface 185 (.agg #[.int .i64 n])
    else if k = 2 then .iface 186 (.agg #[.string s])
    else if k = 8 then .iface 191 (.agg #[(rtL ks)[0]?.getD .nilIface])
    else .iface 193 (.agg #[.int .i64 k, (rtL ks)[0]?.getD .nilIface, (rtL ks)[1]?.getD .nilIface])
def rtL : List Tree → List Value
  | [] => []
  | t :: ts => rtV t :: rtL ts
end
theorem rtL_map : ∀ ks : List Tree, rtL ks = ks.map rtV
  | [] => rfl
  | t :: ts => by rw [rtL, rtL_map ts]; rfl
theorem rtV_num (n : Int) (s : ByteArray) (ks : List Tree) : rtV (.node 1 n s ks) = .iface 185 (.agg #[.int .i64 n]) := by rw [rtV, if_pos rfl]
theorem rtV_var (n : Int) (s : ByteArray) (ks : List Tree) : rtV (.node 2 n s ks) = .iface 186 (.agg #[.string s]) := by rw [rtV, if_neg (by decide), if_pos rfl]
theorem rtV_not {n : Int} {s : ByteArray} {ks : List Tree} (h : 0 < ks.length) : rtV (.node 8 n s ks) = .iface 191 (.agg #[rtV ks[0]]) := by
  rw [rtV, if_neg (by decide), if_neg (by decide), if_pos rfl, rtL_map]; simp [h]
theorem rtV_pair {k n : Int} {s : ByteArray} {ks : List Tree} (h1 : k ≠ 1) (h2 : k ≠ 2) (h8 : k ≠ 8) (h : 1 < ks.length) : rtV (.node k n s ks) = .iface 193 (.agg #[.int .i64 k, rtV (ks[0]'(by omega)), rtV ks[1]]) := by
  rw [rtV, if_neg h1, if_neg h2, if_neg h8, rtL_map]; simp [h, show 0 < ks.length from by omega]
/-- A callee that leaves the world as it is, in a quiet region. -/
theorem quiet_eq {P : Program} {f : FuncId} {args : Array Value} {w : World} {n : Nat} {v : Value}
    (h : Calls P f args (w.drewN n) fun e w' => e = .returned v ∧ w.drewN n = w') : Calls P f args (w.drewN n) fun e w'' => e = .returned v ∧ ∃ m, w'' = w.drewN m :=
  h.mono fun _ _ ⟨he, hm⟩ => ⟨he, n, hm.symm⟩
/-- An interface's value. -/
def IfV (x : Value) : Prop := x = .nilIface ∨ ∃ ty pv, x = .iface ty pv
/-- What the reading hands back. -/
def RightPost (t : Tree) (r : Nat) (w : World) (e : Ending) (w' : World) : Prop := ∃ x, e = .returned (.tuple #[x, .bool (rightB t r)]) ∧ ((rightB t r = true → x = rtV t) ∧ IfV x) ∧ Below w.heap.size w w'
def RightI (t : Tree) : Prop := ∀ (v : Value) (w : World) (r : Nat), r ≤ 6 → Lies w t v →
    Calls Tryz.prog 100 #[v, .int .i64 (r : Int)] w (RightPost t r w)
theorem rightPost_no {t : Tree} {r : Nat} {w : World} {e : Ending} {w' : World} {x : Value} (h : rightB t r = false) (he : e = .returned (.tuple #[x, .bool false])) (hb : Below w.heap.size w w') (hi : IfV x := by first | exact Or.inl rfl | exact Or.inr ⟨_, _, rfl⟩) : RightPost t r w e w' :=
  ⟨x, by rw [h]; exact he, ⟨(fun h2 => by rw [h] at h2; cases h2), hi⟩, hb⟩
theorem rightPost_yes {t : Tree} {r : Nat} {w : World} {e : Ending} {w' : World} {x : Value} (h : rightB t r = true) (hx : x = rtV t) (he : e = .returned (.tuple #[x, .bool true])) (hb : Below w.heap.size w w') (hi : IfV x := by first | exact Or.inl rfl | exact Or.inr ⟨_, _, rfl⟩) : RightPost t r w e w' :=
  ⟨x, by rw [h]; exact he, ⟨fun _ => hx, hi⟩, hb⟩
theorem below_drewNR {w w' : World} {B : Nat} (h : Below B w w') (m : Nat) : Below B w (w'.drewN m) := ⟨h.os, h.tape, h.output, h.size, h.block⟩
set_option maxHeartbeats 800000 in
theorem rightI_num (n : Int) (s : ByteArray) (ks : List Tree) (v : Value) (w : World) (r : Nat) (hl : Lies w (.node 1 n s ks) v) :
    Calls Tryz.prog 100 #[v, .int .i64 (r : Int)] w (RightPost (.node 1 n s ks) r w) := by
  obtain ⟨h1, h2, h3, h4, aa, cap, rfl, h5⟩ := hl
  clear h5 h1 h2
  have HR : Hid (rightB (.node 1 n s ks) r = (decide (0 ≤ n) && decide (n ≤ 1000000000) && decide (s.size = 0) && decide (ks.length = 0))) := by show _ = _; rw [rightB, if_pos rfl]
  by_cases hn : 0 ≤ n
  · have d1 : decide (0 ≤ n) = true := by simpa using hn
    by_cases hn2 : n ≤ 1000000000
    · have d2 : decide (n ≤ 1000000000) = true := by simpa using hn2
      by_cases hs : s.size = 0
      · have he := empty_true hs
        have HS := Lib.hid hs
        clear hs
        by_cases hk : ks.length = 0
        · have HQ : Hid (rightB (.node 1 n s ks) r = true) := by show _ = _; rw [HR.out]; simp [HS.out, hk, hn, hn2]
          have hk2 : ((ks.length : Int) == 0) = true := by rw [hk]; rfl
          clear hk hn hn2
          go_enter Tryz.func100, Tryz.ntmps100
          go_wp2
          go_quiet (fail)
          go_wp2
          go_ret2
          exact rightPost_yes (x := .iface 185 (.agg #[.int .i64 n])) HQ.out (rtV_num _ _ _).symm rfl (below_drewNR ((Below.refl _ _).alloc (Nat.le_refl _) _) _)
        · have HQ : Hid (rightB (.node 1 n s ks) r = false) := by show _ = _; rw [HR.out]; simp [hk]
          have hk2 := ne_true (k := (ks.length : Int)) (x := 0) (by omega)
          clear hk hn hn2
          go_enter Tryz.func100, Tryz.ntmps100
          go_wp2
          go_quiet (fail)
          go_wp2
          go_ret2
          exact rightPost_no HQ.out rfl (below_drewNR ((Below.refl _ _).alloc (Nat.le_refl _) _) _)
      · have HQ : Hid (rightB (.node 1 n s ks) r = false) := by show _ = _; rw [HR.out]; simp [hs]
        have he := empty_false hs
        clear hs hn hn2
        go_enter Tryz.func100, Tryz.ntmps100
        go_wp2
        go_quiet (fail)
        go_wp2
        go_ret2
        exact rightPost_no HQ.out rfl (below_drewNR ((Below.refl _ _).alloc (Nat.le_refl _) _) _)
    · have d2 : decide (n ≤ 1000000000) = false := by simpa using hn2
      have HQ : Hid (rightB (.node 1 n s ks) r = false) := by show _ = _; rw [HR.out]; simp [hn2]
      clear hn hn2
      go_enter Tryz.func100, Tryz.ntmps100
      go_wp2
      go_quiet (fail)
      go_wp2
      go_ret2
      exact rightPost_no HQ.out rfl (below_drewNR ((Below.refl _ _).alloc (Nat.le_refl _) _) _)
  · have d1 : decide (0 ≤ n) = false := by simpa using hn
    have HQ : Hid (rightB (.node 1 n s ks) r = false) := by show _ = _; rw [HR.out]; simp [hn]
    clear hn
    go_enter Tryz.func100, Tryz.ntmps100
    go_wp2
    go_quiet (fail)
    go_wp2
    go_ret2
    exact rightPost_no HQ.out rfl (below_drewNR ((Below.refl _ _).alloc (Nat.le_refl _) _) _)
set_option maxHeartbeats 800000 in
theorem rightI_var (n : Int) (s : ByteArray) (ks : List Tree) (v : Value) (w : World) (r : Nat) (hl : Lies w (.node 2 n s ks) v) (hsz : s.size ≤ 9223372036854775807) :
    Calls Tryz.prog 100 #[v, .int .i64 (r : Int)] w (RightPost (.node 2 n s ks) r w) := by
  obtain ⟨h1, h2, h3, h4, aa, cap, rfl, h5⟩ := hl
  clear h5 h1 h2
  have HR : Hid (rightB (.node 2 n s ks) r = (decide (n = 0) && isNm s.data.toList && decide (ks.length = 0))) := by show _ = _; rw [rightB, if_neg (by decide), if_pos rfl]
  by_cases hn : n = 0
  · subst hn
    have CN := Lib.hid (fun w => implIsName_any s w hsz)
    cases hb : isNm s.data.toList with
    | false =>
      have HQ : Hid (rightB (.node 2 0 s ks) r = false) := by show _ = _; rw [HR.out, hb]; simp
      rw [hb] at CN
      clear hb
      go_enter Tryz.func100, Tryz.ntmps100
      go_wp2
      go_quiet ((go_at_call 54; exact quiet_eq (CN.out _)))
      go_wp2
      go_ret2
      exact rightPost_no HQ.out rfl (below_drewNR ((Below.refl _ _).alloc (Nat.le_refl _) _) _)
    | true =>
      rw [hb] at CN
      by_cases hk : ks.length = 0
      · have HQ : Hid (rightB (.node 2 0 s ks) r = true) := by show _ = _; rw [HR.out, hb]; simp [hk]
        have hk2 : ((ks.length : Int) == 0) = true := by rw [hk]; rfl
        clear hk hb
        go_enter Tryz.func100, Tryz.ntmps100
        go_wp2
        go_quiet ((go_at_call 54; exact quiet_eq (CN.out _)))
        go_wp2
        go_ret2
        exact rightPost_yes (x := .iface 186 (.agg #[.string s])) HQ.out (rtV_var _ _ _).symm rfl (below_drewNR ((Below.refl _ _).alloc (Nat.le_refl _) _) _)
      · have HQ : Hid (rightB (.node 2 0 s ks) r = false) := by show _ = _; rw [HR.out]; simp [hk]
        have hk2 := ne_true (k := (ks.length : Int)) (x := 0) (by omega)
        clear hk hb
        go_enter Tryz.func100, Tryz.ntmps100
        go_wp2
        go_quiet ((go_at_call 54; exact quiet_eq (CN.out _)))
        go_wp2
        go_ret2
        exact rightPost_no HQ.out rfl (below_drewNR ((Below.refl _ _).alloc (Nat.le_refl _) _) _)
  · have hn2 := ne_true hn
    have HQ : Hid (rightB (.node 2 n s ks) r = false) := by show _ = _; rw [HR.out]; simp [hn]
    clear hn
    go_enter Tryz.func100, Tryz.ntmps100
    go_wp2
    go_quiet (fail)
    go_wp2
    go_ret2
    exact rightPost_no HQ.out rfl (below_drewNR ((Below.refl _ _).alloc (Nat.le_refl _) _) _)
end Go.Proofs.YtibkmcfinkadhaaGreatDoor.Trm
/- The program's reading of a term's kids, walked. Conditions: the term lies in memory; at most 6 kinds with kids are left; the kids' own reading answers as it should. -/
namespace Go.Proofs.YtibkmcfinkadhaaGreatDoor.Trm
open Go.RowKit Own Lexs
theorem set_midK (ys : List Value) (z : Value) (zs : List Value) (u : Value) (j : Nat) (h : ys.length = j) : (ys ++ z :: zs).set j u = (ys ++ [u]) ++ zs := by
  subst h
  rw [List.set_append_right _ _ (Nat.le_refl _), Nat.sub_self, List.set_cons_zero]
  simp
theorem infoRight : (Tryz.prog.info? 160).map (fun i => (i.zero, i.size, i.bytes)) = some (some .nilIface, 1, 16) := by kernel_rfl
theorem rtV_iface : ∀ t : Tree, ∃ ty pv, rtV t = .iface ty pv
  | .node k n s ks => by
    rw [rtV]
    by_cases h1 : k = 1
    · rw [if_pos h1]; exact ⟨_, _, rfl⟩
    · by_cases h2 : k = 2
      · rw [if_neg h1, if_pos h2]; exact ⟨_, _, rfl⟩
      · by_cases h8 : k = 8
        · rw [if_neg h1, if_neg h2, if_pos h8]; exact ⟨_, _, rfl⟩
        · rw [if_neg h1, if_neg h2, if_neg h8]; exact ⟨_, _, rfl⟩
def KidsPost (ks : List Tree) (r : Nat) (w : World) (e : Ending) (w' : World) : Prop := Below w.heap.size w w' ∧ ((rightS ks r = true ∧ ∃ g, e = .returned (.tuple #[.slice (some ⟨g, 0, none⟩) ks.length ks.length, .bool true]) ∧ ∀ (i : Nat) (h : i < ks.length), w'.cell? ⟨g, i, none⟩ = some (rtV ks[i])) ∨ (rightS ks r = false ∧ e = .returned (.tuple #[.slice none 0 0, .bool false])))
def KidsNo (w : World) (e : Ending) (w' : World) : Prop := e = .returned (.tuple #[.slice none 0 0, .bool false]) ∧ Below w.heap.size w w'
set_option maxHeartbeats 800000 in
theorem rightKids_bad (k n m : Int) (s : ByteArray) (ks : List Tree) (aa : Option Addr) (cap r : Nat) (w : World) (_hlen : ks.length ≤ 9223372036854775807) (h : ¬ (n = 0 ∧ s.size = 0 ∧ (ks.length : Int) = m ∧ r ≠ 0)) :
    Calls Tryz.prog 110 #[.agg #[.int .i64 k, .int .i64 n, .string s, .slice aa ks.length cap], .int .i64 m, .int .i64 (r : Int)] w (KidsNo w) := by
  by_cases hn : n = 0
  · by_cases hs : s.size = 0
    · by_cases hm : (ks.length : Int) = m
      · have hr : r = 0 := Decidable.byContradiction fun hr => h ⟨hn, hs, hm, hr⟩
        subst hr hn
        have he := empty_true hs
        have hq : ((ks.length : Int) != m) = false := by simp [hm]
        clear hm hs h
        go_enter Tryz.func110, Tryz.ntmps110
        go_wp2
        go_ret2
        exact ⟨rfl, (Below.refl _ _).alloc (Nat.le_refl _) _⟩
      · have hq : ((ks.length : Int) != m) = true := by simp [hm]
        subst hn
        have he := empty_true hs
        clear hm hs h
        go_enter Tryz.func110, Tryz.ntmps110
        go_wp2
        go_ret2
        exact ⟨rfl, (Below.refl _ _).alloc (Nat.le_refl _) _⟩
    · subst hn
      have he := empty_false hs
      clear hs h
      go_enter Tryz.func110, Tryz.ntmps110
      go_wp2
      go_ret2
      exact ⟨rfl, (Below.refl _ _).alloc (Nat.le_refl _) _⟩
  · have hq : (n != 0) = true := by simp [hn]
    clear hn h
    go_enter Tryz.func110, Tryz.ntmps110
    go_wp2
    go_ret2
    exact ⟨rfl, (Below.refl _ _).alloc (Nat.le_refl _) _⟩
set_option maxHeartbeats 1600000 in
theorem rightKids_go (k : Int) (s : ByteArray) (ks : List Tree) (ih : ∀ t, t ∈ ks → RightI t) (aa : Option Addr) (cap r : Nat) (w : World) (hlen : ks.length ≤ 2) (hr0 : r ≠ 0) (hr : r ≤ 6) (hs : s.size = 0) (hk : 0 < ks.length → ∃ g o, aa = some ⟨g, o, none⟩ ∧ LiesL w g o ks) :
    Calls Tryz.prog 110 #[.agg #[.int .i64 k, .int .i64 0, .string s, .slice aa ks.length cap], .int .i64 (ks.length : Int), .int .i64 (r : Int)] w (KidsPost ks (r - 1) w) := by
  obtain ⟨i0, hi, hz0, hz1, hz2⟩ := info_parts infoRight
  have IH := Lib.hid ih
  have HK := Lib.hid hk
  have he := empty_true hs
  have hrz : ((r : Int) == 0) = false := ne_true (by omega)
  have HE := Lib.hid (show ((r - 1 : Nat) : Int) = (r : Int) - 1 from by omega)
  have hr1 : 0 < r := by omega
  clear ih hk hs hr0
  go_enter Tryz.func110, Tryz.ntmps110
  go_wp2_with (at_make; refine wpList_make_full _ rfl (.tmp 32) (.tmp 32) 187 rfl (w.heap.size + 1) 160 i0 _ 1 Tryz.underlying187 hi hz0 hz1 .i64 .i64 _ _ ks.length rfl rfl rfl rfl (by rw [hz2]; omega) (by unfold maxLen; omega) (by simp) ?_)
  intro w1 hown hg
  have HO := Lib.hid hown
  have B1 := Lib.hid (((Below.refl w.heap.size w).alloc (Nat.le_refl _) _).grown hg (by simp) (fun b hb => by cases hb))
  have X1 := Lib.hid ((Box4.new w (.int .i64 k) (.int .i64 0) (.string s) (.slice aa ks.length cap) 34).keep (keeps_below (below_none hg)))
  clear hown hg
  obtain ⟨p0, p1, p2, p3⟩ := X1.out
  go_wp2
  go_loopw [37] (fun i wr => ∃ (j : Nat) (zs : List Value), j ≤ ks.length ∧ i = .int .i64 j ∧ Hid (rightS ks (r - 1) = rightS (ks.drop j) (r - 1)) ∧ Hid (wr.ownsRow (w.heap.size + 1) 160 1 (.slice (some ⟨w.heap.size + 1, 0, none⟩) ks.length ks.length) ks.length ((ks.take j).map rtV ++ zs)) ∧ Hid (Below w.heap.size w wr))
    (fun i _ => ks.length - (intOf i).toNat)
  case atStart => exact ⟨0, _, Nat.zero_le _, rfl, rfl, Lib.hid (by simpa using HO.out), B1.out⟩
  case round =>
    obtain ⟨j, zs, hj, rfl, hsz, hrow, hbe⟩ := hrel
    by_cases hlt : j < ks.length
    · obtain ⟨g, o, rfl, hl⟩ := HK.out (by omega)
      obtain ⟨ka, kc, c0, c1, c2, c3, hl2⟩ := (hl.keep (keeps_below hbe.out)).at j hlt
      have C := Lib.hid (IH.out ks[j] (List.getElem_mem hlt) _ (wr.alloc (.cells #[.int .i64 ks[j].kind, .int .i64 ks[j].num, .string ks[j].name, .slice ka ks[j].kids.length kc] 34)) (r - 1) (by omega) (hl2.keep (keeps_alloc _ _)))
      have hd := rightS_at (r := r - 1) hlt
      rw [HE.out] at C
      clear hl hl2
      go_wp2_with fail
      refine C.out.mono ?_
      rintro e w2 ⟨x, rfl, hx, hb2⟩
      have HB2 := Lib.hid (hbe.out.trans ((below_box1 hb2).mono hbe.out.size))
      have R2 := Lib.hid (row_below hrow.out (below_box1 hb2))
      clear hb2
      cases hq2 : rightB ks[j] (r - 1) with
      | false =>
        have HS2 : Hid (rightS ks (r - 1) = false) := by show _ = _; rw [hsz.out, hd, hq2]; rfl
        clear hq2 hd hx
        go_wp2
        go_ret2
        exact ⟨HB2.out, .inr ⟨HS2.out, rfl⟩⟩
      | true =>
        obtain ⟨ty, pv, hi2⟩ := rtV_iface ks[j]
        obtain rfl : x = .iface ty pv := (hx.1 hq2).trans hi2
        have HX := Lib.hid hi2
        clear hi2
        have HS2 : Hid (rightS ks (r - 1) = rightS (ks.drop (j + 1)) (r - 1)) := by show rightS ks (r - 1) = _; rw [hsz.out, hd, hq2]; rfl
        clear hq2 hd hx
        have hls := R2.out.1
        simp only [List.length_append, List.length_map, List.length_take] at hls
        obtain ⟨z, zs2, rfl⟩ : ∃ z zs2, zs = z :: zs2 := by
          cases zs with
          | nil => simp at hls; omega
          | cons z r => exact ⟨z, r, rfl⟩
        have f0 := R2.out.frozenAt j
        obtain ⟨u0, s0⟩ : ∃ u, w2.cell? ⟨w.heap.size + 1, j, none⟩ = some u := ⟨_, (R2.out.cellAt j (by omega)).trans (List.getElem?_eq_getElem (by rw [R2.out.1]; omega))⟩
        obtain ⟨hr2, hg2⟩ := R2.out.stored j (.iface ty pv)
        rw [set_midK _ _ _ _ j (by simp; omega)] at hr2
        have HR2 : Hid ((w2.setCell ⟨w.heap.size + 1, j, none⟩ (.iface ty pv)).ownsRow (w.heap.size + 1) 160 1 (.slice (some ⟨w.heap.size + 1, 0, none⟩) ks.length ks.length) ks.length ((ks.take (j + 1)).map rtV ++ zs2)) := by
          have e : (ks.take (j + 1)).map rtV = (ks.take j).map rtV ++ [rtV ks[j]] := by rw [List.take_succ_eq_append_getElem hlt]; simp only [List.map_append, List.map_cons, List.map_nil]
          rw [e, HX.out]
          exact hr2
        have HB3 := Lib.hid (HB2.out.grown hg2 HB2.out.size (fun b hb => by cases hb; omega))
        clear hls hr2 hg2
        go_wp2
        go_roundw
        case rel => exact ⟨j + 1, zs2, by omega, by go_num, HS2, HR2, HB3⟩
        case measure => simp [intOf]; omega
    · obtain rfl : j = ks.length := by omega
      have h1 := hrow.out
      rw [List.take_length] at h1
      have hz : zs = [] := by have := h1.1; simpa using this
      rw [hz, List.append_nil] at h1
      have H1 := Lib.hid h1
      have HS2 : Hid (rightS ks (r - 1) = true) := by show _ = _; rw [hsz.out, rightS_end (by omega)]
      clear h1 hz
      go_wp2
      go_ret2
      exact ⟨hbe.out, .inl ⟨HS2.out, _, rfl, fun i hi => by rw [H1.out.cellAt i (by omega)]; simp [hi]⟩⟩
end Go.Proofs.YtibkmcfinkadhaaGreatDoor.Trm
/- The program's own reading of any term as one that is right, and TermOk, walked. Conditions: the term lies in memory; at most 6 kinds with kids are left. -/
namespace Go.Proofs.YtibkmcfinkadhaaGreatDoor.Trm
open Go.RowKit Own Lexs
/-- What stands between two kids. -/
def pairSg (k : Int) : ByteArray := if k = 3 then ⟨#[43]⟩ else if k = 4 then ⟨#[45]⟩ else if k = 5 then ⟨#[42]⟩ else if k = 6 then ⟨#[60]⟩ else if k = 7 then ⟨#[61, 61]⟩ else if k = 9 then ⟨#[97, 110, 100]⟩ else ⟨#[]⟩
theorem pairSg_some {k : Int} (h1 : 3 ≤ k) (h2 : k ≤ 9) (h8 : k ≠ 8) : ¬ (pairSg k).size = 0 := by
  rcases (by omega : k = 3 ∨ k = 4 ∨ k = 5 ∨ k = 6 ∨ k = 7 ∨ k = 9) with rfl | rfl | rfl | rfl | rfl | rfl <;> decide
theorem pairSg_none {k : Int} (h : ¬ (3 ≤ k ∧ k ≤ 9)) : (pairSg k).size = 0 := by
  unfold pairSg
  rw [if_neg (by omega), if_neg (by omega), if_neg (by omega), if_neg (by omega), if_neg (by omega), if_neg (by omega)]; rfl
theorem implPairSign_any (k : Int) (w : World) : Calls Tryz.prog 111 #[.int .i64 k] w fun e w' => e = .returned (.string (pairSg k)) ∧ w = w' := by
  by_cases h : k = 3 ∨ k = 4 ∨ k = 5 ∨ k = 6 ∨ k = 7 ∨ k = 9
  · rcases h with rfl | rfl | rfl | rfl | rfl | rfl
    all_goals
      go_enter Tryz.func111, Tryz.ntmps111
      go_wp2
      go_ret
      exact ⟨rfl, rfl⟩
  · have e3 := ne_true (k := k) (x := 3) (by omega)
    have e4 := ne_true (k := k) (x := 4) (by omega)
    have e5 := ne_true (k := k) (x := 5) (by omega)
    have e6 := ne_true (k := k) (x := 6) (by omega)
    have e7 := ne_true (k := k) (x := 7) (by omega)
    have e9 := ne_true (k := k) (x := 9) (by omega)
    have HS : Hid (pairSg k = ⟨#[]⟩) := by
      show _ = _
      unfold pairSg
      rw [if_neg (by omega), if_neg (by omega), if_neg (by omega), if_neg (by omega), if_neg (by omega), if_neg (by omega)]
    clear h
    go_enter Tryz.func111, Tryz.ntmps111
    go_wp2
    go_ret
    exact ⟨by rw [HS.out]; rfl, rfl⟩
set_option maxHeartbeats 1600000 in
theorem rightI_not (n : Int) (s : ByteArray) (ks : List Tree) (ih : ∀ t, t ∈ ks → RightI t) (v : Value) (w : World) (r : Nat) (hr : r ≤ 6) (hl : Lies w (.node 8 n s ks) v) :
    Calls Tryz.prog 100 #[v, .int .i64 (r : Int)] w (RightPost (.node 8 n s ks) r w) := by
  obtain ⟨h1, h2, h3, h4, aa, cap, rfl, h5⟩ := hl
  have HR : Hid (rightB (.node 8 n s ks) r = (decide (n = 0) && decide (s.size = 0) && decide ((ks.length : Int) = 1) && decide (r ≠ 0) && rightS ks (r - 1))) := by
    show _ = _; rw [rightB, if_neg (by decide), if_neg (by decide)]; simp [manyK]
  have X0 := Lib.hid (Box4.new w (.int .i64 8) (.int .i64 n) (.string s) (.slice aa ks.length cap) 34)
  obtain ⟨p0, p1, p2, p3⟩ := X0.out
  by_cases hg : n = 0 ∧ s.size = 0 ∧ (ks.length : Int) = 1 ∧ r ≠ 0
  · obtain ⟨rfl, hs, hm, hr0⟩ := hg
    obtain ⟨a, rfl⟩ : ∃ a, ks = [a] := by
      match ks, hm with
      | [a], _ => exact ⟨a, rfl⟩
      | [], h => simp at h
      | a :: b :: c, h => simp at h; omega
    have HR2 : Hid (rightB (.node 8 0 s [a]) r = rightS [a] (r - 1)) := by show _ = _; rw [HR.out]; simp [hs, hr0]
    have C := Lib.hid (rightKids_go 8 s [a] ih aa cap r (w.alloc (.cells #[.int .i64 8, .int .i64 0, .string s, .slice aa [a].length cap] 34)) (by simp) hr0 hr hs (fun hp => by obtain ⟨g, o, rfl, hl⟩ := h5 hp; exact ⟨g, o, rfl, hl.keep (keeps_alloc _ _)⟩))
    obtain ⟨ty, pv, hi⟩ := rtV_iface a
    have HI := Lib.hid hi
    simp only [List.length_cons, List.length_nil] at p3 C ⊢
    clear h1 h2 h3 h4 h5 ih hi hs hm hr0
    go_enter Tryz.func100, Tryz.ntmps100
    go_wp2_with fail
    refine C.out.mono ?_
    rintro e w1 ⟨hb, hc⟩
    have B1 := Lib.hid (below_box1 hb)
    clear hb
    rcases hc with ⟨hs1, g, rfl, hcell⟩ | ⟨hs1, rfl⟩
    · have c0 : w1.cell? ⟨g, 0, none⟩ = some (.iface ty pv) := by rw [← HI.out]; exact hcell 0 (by simp)
      have HQ : Hid (rightB (.node 8 0 s [a]) r = true) := by show _ = _; rw [HR2.out, hs1]
      clear hs1 hcell
      go_wp2
      go_ret2
      exact rightPost_yes (x := .iface 191 (.agg #[.iface ty pv])) HQ.out (by rw [rtV_not (by simp), ← HI.out]; rfl) rfl B1.out
    · have HQ : Hid (rightB (.node 8 0 s [a]) r = false) := by show _ = _; rw [HR2.out, hs1]
      clear hs1
      go_wp2
      go_ret2
      exact rightPost_no HQ.out rfl B1.out
  · have HQ : Hid (rightB (.node 8 n s ks) r = false) := by
      show _ = _; rw [HR.out, Bool.eq_false_iff]; intro hh
      simp only [Bool.and_eq_true, decide_eq_true_eq] at hh
      exact hg ⟨hh.1.1.1.1, hh.1.1.1.2, hh.1.1.2, hh.1.2⟩
    have C := Lib.hid (rightKids_bad 8 n 1 s ks aa cap r (w.alloc (.cells #[.int .i64 8, .int .i64 n, .string s, .slice aa ks.length cap] 34)) h4 hg)
    clear h1 h2 h3 h4 h5 ih hg
    go_enter Tryz.func100, Tryz.ntmps100
    go_wp2_with fail
    refine C.out.mono ?_
    rintro e w1 ⟨rfl, hb⟩
    have B1 := Lib.hid (below_box1 hb)
    clear hb
    go_wp2
    go_ret2
    exact rightPost_no HQ.out rfl B1.out
set_option maxHeartbeats 1600000 in
theorem rightI_pair (k n : Int) (s : ByteArray) (ks : List Tree) (ih : ∀ t, t ∈ ks → RightI t) (hk1 : k ≠ 1) (hk2 : k ≠ 2) (hk8 : k ≠ 8) (hk : 3 ≤ k ∧ k ≤ 9) (v : Value) (w : World) (r : Nat) (hr : r ≤ 6) (hl : Lies w (.node k n s ks) v) :
    Calls Tryz.prog 100 #[v, .int .i64 (r : Int)] w (RightPost (.node k n s ks) r w) := by
  obtain ⟨h1, h2, h3, h4, aa, cap, rfl, h5⟩ := hl
  have HR : Hid (rightB (.node k n s ks) r = (decide (n = 0) && decide (s.size = 0) && decide ((ks.length : Int) = 2) && decide (r ≠ 0) && rightS ks (r - 1))) := by
    show _ = _; rw [rightB, if_neg hk1, if_neg hk2]; simp [many_other hk8, hk]
  have X0 := Lib.hid (Box4.new w (.int .i64 k) (.int .i64 n) (.string s) (.slice aa ks.length cap) 34)
  obtain ⟨p0, p1, p2, p3⟩ := X0.out
  have e1 := ne_true hk1
  have e2 := ne_true hk2
  have e8 := ne_true hk8
  have CP := Lib.hid (implPairSign_any k)
  have hq := empty_false (pairSg_some hk.1 hk.2 hk8)
  generalize pairSg k = sg at CP hq
  by_cases hg : n = 0 ∧ s.size = 0 ∧ (ks.length : Int) = 2 ∧ r ≠ 0
  · obtain ⟨rfl, hs, hm, hr0⟩ := hg
    obtain ⟨a, b, rfl⟩ : ∃ a b, ks = [a, b] := by
      match ks, hm with
      | [a, b], _ => exact ⟨a, b, rfl⟩
      | [], h => simp at h
      | [a], h => simp at h
      | a :: b :: c :: d, h => simp at h; omega
    have HR2 : Hid (rightB (.node k 0 s [a, b]) r = rightS [a, b] (r - 1)) := by show _ = _; rw [HR.out]; simp [hs, hr0]
    have C := Lib.hid (rightKids_go k s [a, b] ih aa cap r (w.alloc (.cells #[.int .i64 k, .int .i64 0, .string s, .slice aa [a, b].length cap] 34)) (by simp) hr0 hr hs (fun hp => by obtain ⟨g, o, rfl, hl⟩ := h5 hp; exact ⟨g, o, rfl, hl.keep (keeps_alloc _ _)⟩))
    obtain ⟨ty, pv, hi⟩ := rtV_iface a
    obtain ⟨ty2, pv2, hi2⟩ := rtV_iface b
    have HI := Lib.hid hi
    have HI2 := Lib.hid hi2
    have HX : Hid (.iface 193 (.agg #[.int .i64 k, .iface ty pv, .iface ty2 pv2]) = rtV (.node k 0 s [a, b])) := by
      show _ = _; rw [rtV_pair hk1 hk2 hk8 (by simp), ← hi, ← hi2]; rfl
    simp only [List.length_cons, List.length_nil] at p3 C ⊢
    clear h1 h2 h3 h4 h5 ih hi hi2 hs hm hr0 hk1 hk2 hk8 hk
    go_enter Tryz.func100, Tryz.ntmps100
    go_wp2_with fail
    refine (CP.out _).mono ?_
    rintro e w1 ⟨rfl, rfl⟩
    go_wp2_with fail
    refine C.out.mono ?_
    rintro e w1 ⟨hb, hc⟩
    obtain ⟨q0, q1, q2, q3⟩ := X0.out.keep (keeps_below hb)
    have B1 := Lib.hid (below_box1 hb)
    clear hb
    rcases hc with ⟨hs1, g, rfl, hcell⟩ | ⟨hs1, rfl⟩
    · have c0 : w1.cell? ⟨g, 0, none⟩ = some (.iface ty pv) := by rw [← HI.out]; exact hcell 0 (by simp)
      have c1 : w1.cell? ⟨g, 1, none⟩ = some (.iface ty2 pv2) := by rw [← HI2.out]; exact hcell 1 (by simp)
      have HQ : Hid (rightB (.node k 0 s [a, b]) r = true) := by show _ = _; rw [HR2.out, hs1]
      clear hs1 hcell
      go_wp2
      go_quiet (fail)
      go_wp2
      go_ret2
      exact rightPost_yes (x := .iface 193 (.agg #[.int .i64 k, .iface ty pv, .iface ty2 pv2])) HQ.out HX.out rfl (below_drewNR B1.out _)
    · have HQ : Hid (rightB (.node k 0 s [a, b]) r = false) := by show _ = _; rw [HR2.out, hs1]
      clear hs1
      go_wp2
      go_ret2
      exact rightPost_no HQ.out rfl B1.out
  · have HQ : Hid (rightB (.node k n s ks) r = false) := by
      show _ = _; rw [HR.out, Bool.eq_false_iff]; intro hh
      simp only [Bool.and_eq_true, decide_eq_true_eq] at hh
      exact hg ⟨hh.1.1.1.1, hh.1.1.1.2, hh.1.1.2, hh.1.2⟩
    have C := Lib.hid (rightKids_bad k n 2 s ks aa cap r (w.alloc (.cells #[.int .i64 k, .int .i64 n, .string s, .slice aa ks.length cap] 34)) h4 hg)
    clear h1 h2 h3 h4 h5 ih hg hk1 hk2 hk8 hk
    go_enter Tryz.func100, Tryz.ntmps100
    go_wp2_with fail
    refine (CP.out _).mono ?_
    rintro e w1 ⟨rfl, rfl⟩
    go_wp2_with fail
    refine C.out.mono ?_
    rintro e w1 ⟨rfl, hb⟩
    have B1 := Lib.hid (below_box1 hb)
    clear hb
    go_wp2
    go_ret2
    exact rightPost_no HQ.out rfl B1.out
set_option maxHeartbeats 800000 in
theorem rightI_none (k n : Int) (s : ByteArray) (ks : List Tree) (hk1 : k ≠ 1) (hk2 : k ≠ 2) (hk8 : k ≠ 8) (hk : ¬ (3 ≤ k ∧ k ≤ 9)) (v : Value) (w : World) (r : Nat) (hl : Lies w (.node k n s ks) v) :
    Calls Tryz.prog 100 #[v, .int .i64 (r : Int)] w (RightPost (.node k n s ks) r w) := by
  obtain ⟨h1, h2, h3, h4, aa, cap, rfl, h5⟩ := hl
  have HQ : Hid (rightB (.node k n s ks) r = false) := by
    show _ = _; rw [rightB, if_neg hk1, if_neg hk2, Bool.eq_false_iff]; intro hh
    simp only [Bool.and_eq_true, decide_eq_true_eq] at hh
    exact hk ⟨hh.1.1.1.1.1.1, hh.1.1.1.1.1.2⟩
  have e1 := ne_true hk1
  have e2 := ne_true hk2
  have e8 := ne_true hk8
  have CP := Lib.hid (implPairSign_any k)
  have hq := empty_true (pairSg_none hk)
  generalize pairSg k = sg at CP hq
  clear h1 h2 h5 hk hk1 hk2 hk8
  go_enter Tryz.func100, Tryz.ntmps100
  go_wp2_with fail
  refine (CP.out _).mono ?_
  rintro e w1 ⟨rfl, rfl⟩
  go_wp2
  go_ret2
  exact rightPost_no HQ.out rfl ((Below.refl _ _).alloc (Nat.le_refl _) _)
theorem implRight_any : ∀ t : Tree, RightI t := treeInd fun k n s ks ih v w r hr hl => by
  by_cases h1 : k = 1
  · subst h1; exact rightI_num n s ks v w r hl
  · by_cases h2 : k = 2
    · subst h2; exact rightI_var n s ks v w r hl hl.2.2.1
    · by_cases h8 : k = 8
      · subst h8; exact rightI_not n s ks ih v w r hr hl
      · by_cases h : 3 ≤ k ∧ k ≤ 9
        · exact rightI_pair k n s ks ih h1 h2 h8 h v w r hr hl
        · exact rightI_none k n s ks h1 h2 h8 h v w r hl
end Go.Proofs.YtibkmcfinkadhaaGreatDoor.Trm
/- Maps whose keys are held against each other by their type's own rule: what a look-up tells, and a store. Conditions: each says its own. -/
namespace Go.Proofs.YtibkmcfinkadhaaGreatDoor.Km
open Go.RowKit Own
open Classical
/-- Keys of a type that is held against another of its kind part by part. -/
structure KeyT (T : TypeId) (KOk : World → Value → Prop) : Prop where
  eq : ∀ w k k', KOk w k → KOk w k' → ∃ c, (Op.equal T k k').run Tryz.prog w = .ok c w ∧ (c = true ↔ k = k')
  chk : ∀ w k b, KOk w k → (Instr.checkKey b 10000 T k).run Tryz.prog w = .ok () w
  now : ∃ D, Tryz.prog.underlying T = some D ∧ ∀ a b, Instr.sameNow D a b = none
  stay : ∀ w k, KOk w k → Instr.sameBits 10000 k k = true
/-- What lies at a key. -/
noncomputable def lookK : List MapEntry → Value → Option Value
  | [], _ => none
  | e :: es, k => if e.key = k then some e.val else lookK es k
theorem look_none {k : Value} : ∀ {es : List MapEntry}, (∀ x, x ∈ es → x.key ≠ k) → lookK es k = none
  | [], _ => rfl
  | e :: es, h => by rw [lookK, if_neg (h e (by simp)), look_none fun x hx => h x (by simp [hx])]
theorem look_some {k v : Value} : ∀ {es : List MapEntry}, lookK es k = some v → ∃ x, x ∈ es ∧ x.key = k ∧ x.val = v
  | [], h => by cases h
  | e :: es, h => by
    rw [lookK] at h
    split at h
    · rename_i h1
      exact ⟨e, by simp, h1, by simpa using h⟩
    · obtain ⟨x, h1, h2⟩ := look_some h
      exact ⟨x, by simp [h1], h2⟩
theorem look_snoc {k : Value} (x : MapEntry) : ∀ {es : List MapEntry}, lookK es x.key = none → lookK (es ++ [x]) k = if x.key = k then some x.val else lookK es k
  | [], _ => by simp [lookK]
  | e :: es, h => by
    rw [lookK] at h
    split at h
    · cases h
    · rename_i h1
      rw [List.cons_append, lookK, lookK, look_snoc x h]
      by_cases h2 : e.key = k
      · rw [if_pos h2, if_pos h2, if_neg (fun h3 => h1 (h2.trans h3.symm))]
      · rw [if_neg h2, if_neg h2]
def MetK (KOk : World → Value → Prop) (w : World) (es : List MapEntry) : Prop := ∀ x, x ∈ es → KOk w x.key
/-- An entry's value turned. -/
def turn (es : List MapEntry) (j : Nat) (v : Value) : List MapEntry := es.modify j fun e => { e with val := v }
theorem run_asking {T : TypeId} {KOk : World → Value → Prop} (kt : KeyT T KOk) {w : World} {k : Value} (hk : KOk w k) : ∀ (es : List MapEntry) (i : Nat), MetK KOk w es →
    ∃ r, (Instr.findAsking T k es i).run Tryz.prog w = .ok r w ∧ ((r = none ∧ lookK es k = none) ∨ (∃ j v, r = some (i + j, v) ∧ lookK es k = some v ∧ (∃ e, es[j]? = some e ∧ e.key = k) ∧ ∀ u k', lookK (turn es j u) k' = if k = k' then some u else lookK es k'))
  | [], i, _ => ⟨none, by simp [Instr.findAsking], .inl ⟨rfl, rfl⟩⟩
  | e :: es, i, h => by
    obtain ⟨c, hc, hiff⟩ := kt.eq w k e.key hk (h e (by simp))
    cases c with
    | true =>
      have he := hiff.1 rfl
      refine ⟨some (i, e.val), ?_, .inr ⟨0, e.val, by simp, ?_, ⟨e, rfl, he.symm⟩, fun u k' => ?_⟩⟩
      · rw [Instr.findAsking]; simp [hc]
      · rw [lookK, if_pos he.symm]
      · unfold turn
        rw [List.modify_cons, if_pos rfl, lookK, lookK, ← he]
        by_cases h2 : k = k'
        · rw [if_pos h2, if_pos h2]
        · rw [if_neg h2, if_neg h2, if_neg h2]
    | false =>
      have he : ¬ k = e.key := fun h2 => by have := hiff.2 h2; cases this
      obtain ⟨r, hr, hres⟩ := run_asking kt hk es (i + 1) (fun x hx => h x (by simp [hx]))
      refine ⟨r, ?_, ?_⟩
      · rw [Instr.findAsking]; simp [hc, hr]
      · have he2 : ¬ e.key = k := fun h2 => he h2.symm
        rcases hres with ⟨rfl, h1⟩ | ⟨j, v, rfl, h1, ⟨e', h2, h3⟩, h4⟩
        · exact .inl ⟨rfl, by rw [lookK, if_neg he2]; exact h1⟩
        · refine .inr ⟨j + 1, v, by rw [show i + (j + 1) = i + 1 + j from by omega], by rw [lookK, if_neg he2]; exact h1, ⟨e', by simpa using h2, h3⟩, fun u k' => ?_⟩
          have h5 := h4 u k'
          unfold turn at h5 ⊢
          rw [List.modify_cons, if_neg (by omega), show j + 1 - 1 = j from by omega, lookK, lookK, h5]
          by_cases h6 : e.key = k'
          · rw [if_pos h6, if_pos h6, if_neg (fun h7 => he (h7.trans h6.symm))]
          · rw [if_neg h6, if_neg h6]
theorem run_findKey {T : TypeId} {KOk : World → Value → Prop} (kt : KeyT T KOk) {w : World} {k : Value} (hk : KOk w k) (es : List MapEntry) (h : MetK KOk w es) :
    ∃ r, (Instr.findKey T k es).run Tryz.prog w = .ok r w ∧ ((r = none ∧ lookK es k = none) ∨ (∃ j v, r = some (j, v) ∧ lookK es k = some v ∧ (∃ e, es[j]? = some e ∧ e.key = k) ∧ ∀ u k', lookK (turn es j u) k' = if k = k' then some u else lookK es k')) := by
  obtain ⟨D, hD, hnow⟩ := kt.now
  cases es with
  | nil => exact ⟨none, by simp [Instr.findKey, run_underlying hD, Instr.findNow], .inl ⟨rfl, rfl⟩⟩
  | cons e es =>
    obtain ⟨r, hr, hres⟩ := run_asking kt hk (e :: es) 0 h
    refine ⟨r, ?_, ?_⟩
    · simp [Instr.findKey, run_underlying hD, Instr.findNow, hnow, hr]
    · simpa using hres
/-- What lies at a key, or nothing of its kind. -/
theorem run_look {T M E : TypeId} {KOk : World → Value → Prop} (kt : KeyT T KOk) (hM : Tryz.prog.underlying M = some (.map T E)) {z : Value} (hz : ∀ w, (zeroValue E).run Tryz.prog w = .ok z w) {w : World} {b : Nat} {es : Array MapEntry} {clock : Nat} {k : Value} (hb : w.heap[b]? = some (.map es clock)) (h : MetK KOk w es.toList) (hk : KOk w k) :
    (Instr.lookup M (.map (some b)) k false).run Tryz.prog w = .ok ((lookK es.toList k).getD z) w ∧ (Instr.lookup M (.map (some b)) k true).run Tryz.prog w = .ok (.tuple #[(lookK es.toList k).getD z, .bool (lookK es.toList k).isSome]) w := by
  obtain ⟨r, hr, hres⟩ := run_findKey kt hk es.toList h
  have hc := kt.chk w k es.isEmpty hk
  have hg : (getObj b).run Tryz.prog w = .ok (.map es clock) w := MapKept.run_getObj_map hb
  rcases hres with ⟨rfl, hn⟩ | ⟨j, v, rfl, hn, _⟩
  · rw [hn]
    constructor <;> simp [Instr.lookup, run_underlying hM, hg, hc, hr, hz]
  · rw [hn]
    constructor <;> simp [Instr.lookup, run_underlying hM, hg, hc, hr]
/-- A store. -/
theorem run_put {T M E : TypeId} {KOk : World → Value → Prop} (kt : KeyT T KOk) (hM : Tryz.prog.underlying M = some (.map T E)) {w : World} {b : Nat} {es : Array MapEntry} {clock : Nat} {k : Value} (v : Value) (hb : w.heap[b]? = some (.map es clock)) (h : MetK KOk w es.toList) (hk : KOk w k) :
    ∃ w' es' clock', (Instr.mapUpdate M (.map (some b)) k v).run Tryz.prog w = .ok () w' ∧ w'.heap[b]? = some (.map es' clock') ∧ (∀ k', lookK es'.toList k' = if k = k' then some v else lookK es.toList k') ∧ (∀ x, x ∈ es'.toList → x.key = k ∨ ∃ y, y ∈ es.toList ∧ y.key = x.key) ∧ w.grownBy w' (some b) := by
  obtain ⟨r, hr, hres⟩ := run_findKey kt hk es.toList h
  have hc := kt.chk w k false hk
  have hg : (getObj b).run Tryz.prog w = .ok (.map es clock) w := MapKept.run_getObj_map hb
  have grown : ∀ o, w.grownBy (ChangeMaps.setBlock w b o) (some b) := fun o => ⟨rfl, rfl, rfl, by simp [ChangeMaps.setBlock], fun i _ hi => ChangeMaps.heap_setBlock_other hb _ (fun e => hi (by rw [e]))⟩
  rcases hres with ⟨rfl, hn⟩ | ⟨j, v0, rfl, hn, ⟨e, he, hek⟩, ht⟩
  · refine ⟨ChangeMaps.setBlock w b (.map (es.push { key := k, val := v, born := clock }) (clock + 1)), _, _, ?_, ChangeMaps.heap_setBlock_same hb _, fun k' => ?_, fun x hx => ?_, grown _⟩
    · simp [Instr.mapUpdate, run_underlying hM, hg, hc, hr, MapKept.run_setObj_map _ hb, ChangeMaps.setBlock]
    · rw [Array.toList_push]
      exact look_snoc _ hn
    · rw [Array.toList_push] at hx
      rcases List.mem_append.1 hx with hx | hx
      · exact .inr ⟨x, hx, rfl⟩
      · obtain rfl : x = _ := by simpa using hx
        exact .inl rfl
  · have hj : j < es.size := by
      rcases Nat.lt_or_ge j es.toList.length with h1 | h1
      · simpa using h1
      · rw [List.getElem?_eq_none h1] at he; cases he
    have he2 : es[j]? = some e := by rw [← he]; simp
    have hst : (Instr.keyThatStays k k).run Tryz.prog w = .ok k w := by unfold Instr.keyThatStays; rw [if_pos (kt.stay w k hk)]; rfl
    have e1 : (es.modify j fun e => { e with key := k, val := v }).toList = turn es.toList j v := by
      unfold turn
      rw [Array.toList_modify]
      refine List.ext_getElem? fun i => ?_
      rw [List.getElem?_modify, List.getElem?_modify]
      by_cases hi : j = i
      · subst hi
        rw [he]
        simp [← hek]
      · simp [hi]
    refine ⟨ChangeMaps.setBlock w b (.map (es.modify j fun e => { e with key := k, val := v }) clock), _, _, ?_, ChangeMaps.heap_setBlock_same hb _, fun k' => ?_, fun x hx => ?_, grown _⟩
    · simp [Instr.mapUpdate, run_underlying hM, hg, hc, hr, he2, hek, hst, MapKept.run_setObj_map _ hb, ChangeMaps.setBlock]
    · rw [e1]; exact ht v k'
    · rw [Array.toList_modify] at hx
      obtain ⟨i, hi⟩ := List.mem_iff_getElem?.1 hx
      rw [List.getElem?_modify] at hi
      by_cases hi2 : j = i
      · subst hi2
        rw [he] at hi
        simp at hi
        rw [← hi]
        exact .inl rfl
      · simp [hi2] at hi
        exact .inr ⟨x, List.mem_iff_getElem?.2 ⟨i, by simpa using hi⟩, rfl⟩
theorem at_look {T M E : TypeId} {KOk : World → Value → Prop} (kt : KeyT T KOk) (hM : Tryz.prog.underlying M = some (.map T E)) {z : Value} (hz : ∀ w, (zeroValue E).run Tryz.prog w = .ok z w) {w : World} {ops : Array Oper} {rest : List Oper} {o : Oper} {a : Act} {Q : Exit → Act → World → Prop}
    (hg : o.guard = none) (m x : Operand) (hop : o.op = Op.lookup M m x false) {b : Nat} {es : Array MapEntry} {clock : Nat} {k : Value}
    (hm : a.eval m = .map (some b)) (hx : a.eval x = k) (hb : w.heap[b]? = some (.map es clock)) (h : MetK KOk w es.toList) (hk : KOk w k)
    (hK : wpList Tryz.prog ops Q rest (a.put o.dst ((lookK es.toList k).getD z)) w) :
    wpList Tryz.prog ops Q (o :: rest) a w := by
  refine wpList_plain hg fun K' hK' => ?_
  have hrun := (run_look kt hM hz hb h hk).1
  unfold Oper.wp
  simp [execOp, hop, hm, hx, hrun, Result.andThen]
  exact hK' _ _ hK
theorem at_look2 {T M E : TypeId} {KOk : World → Value → Prop} (kt : KeyT T KOk) (hM : Tryz.prog.underlying M = some (.map T E)) {z : Value} (hz : ∀ w, (zeroValue E).run Tryz.prog w = .ok z w) {w : World} {ops : Array Oper} {rest : List Oper} {o : Oper} {a : Act} {Q : Exit → Act → World → Prop}
    (hg : o.guard = none) (m x : Operand) (hop : o.op = Op.lookup M m x true) {b : Nat} {es : Array MapEntry} {clock : Nat} {k : Value}
    (hm : a.eval m = .map (some b)) (hx : a.eval x = k) (hb : w.heap[b]? = some (.map es clock)) (h : MetK KOk w es.toList) (hk : KOk w k)
    (hK : wpList Tryz.prog ops Q rest (a.put o.dst (.tuple #[(lookK es.toList k).getD z, .bool (lookK es.toList k).isSome])) w) :
    wpList Tryz.prog ops Q (o :: rest) a w := by
  refine wpList_plain hg fun K' hK' => ?_
  have hrun := (run_look kt hM hz hb h hk).2
  unfold Oper.wp
  simp [execOp, hop, hm, hx, hrun, Result.andThen]
  exact hK' _ _ hK
theorem at_put {T M E : TypeId} {KOk : World → Value → Prop} (kt : KeyT T KOk) (hM : Tryz.prog.underlying M = some (.map T E)) {w : World} {ops : Array Oper} {rest : List Oper} {o : Oper} {a : Act} {Q : Exit → Act → World → Prop}
    (hg : o.guard = none) (m x y : Operand) (hop : o.op = Op.mapUpdate M m x y) {b : Nat} {es : Array MapEntry} {clock : Nat} {k v : Value}
    (hm : a.eval m = .map (some b)) (hx : a.eval x = k) (hy : a.eval y = v) (hb : w.heap[b]? = some (.map es clock)) (h : MetK KOk w es.toList) (hk : KOk w k)
    (hK : ∀ (w' : World) (es' : Array MapEntry) (clock' : Nat), w'.heap[b]? = some (.map es' clock') → (∀ k', lookK es'.toList k' = if k = k' then some v else lookK es.toList k') → (∀ x, x ∈ es'.toList → x.key = k ∨ ∃ y, y ∈ es.toList ∧ y.key = x.key) → w.grownBy w' (some b) → wpList Tryz.prog ops Q rest (a.put o.dst (.tuple #[])) w') :
    wpList Tryz.prog ops Q (o :: rest) a w := by
  refine wpList_plain hg fun K' hK' => ?_
  obtain ⟨w', es', clock', hrun, h3, h4, h5, h6⟩ := run_put kt hM v hb h hk
  unfold Oper.wp
  simp [execOp, hop, hm, hx, hy, hrun, Result.andThen]
  exact hK' _ _ (hK w' es' clock' h3 h4 h5 h6)
end Go.Proofs.YtibkmcfinkadhaaGreatDoor.Km
/- Where a list lies, as a key of the program's: two of them held against each other, and what the program reckons of a list. Conditions: the lists lie in rows that are not frozen. -/
namespace Go.Proofs.YtibkmcfinkadhaaGreatDoor.SpT
open Go.RowKit Own Trm Km
def spV (a : Option Addr) (n : Nat) : Value := .agg #[.pointer a, .int .i64 (n : Int)]
def prV (a b : Option Addr) (n m : Nat) : Value := .agg #[.pointer a, .int .i64 (n : Int), .pointer b, .int .i64 (m : Int)]
def FreeO (w : World) (a : Option Addr) : Prop := ∀ p, a = some p → FreeB w p.block
theorem FreeO.keep {w w' : World} {a : Option Addr} (hk : KeepF w w') (h : FreeO w a) : FreeO w' a := fun p e => (h p e).keep hk
theorem infoE : (Tryz.prog.info? 34).map (fun i => i.size) = some 4 := by kernel_rfl
theorem run_ptr_eq (d : Nat) {a b : Option Addr} {w : World} (ha : FreeO w a) (hb : FreeO w b) : (Op.equalIn (d + 1) 204 (.pointer a) (.pointer b)).run Tryz.prog w = .ok (decide (a = b)) w := by
  obtain ⟨j, hj, hs⟩ := Option.map_eq_some_iff.1 infoE
  cases a with
  | none => cases b <;> simp [Op.equalIn, run_underlying Tryz.underlying204]
  | some p =>
    cases b with
    | none => simp [Op.equalIn, run_underlying Tryz.underlying204]
    | some q =>
      obtain ⟨ca, ta, ha⟩ := ha p rfl
      obtain ⟨cb, tb, hb⟩ := hb q rfl
      by_cases h : p = q
      · subst h
        simp [Op.equalIn, run_underlying Tryz.underlying204, sizeOf, typeInfo, hj, run_sameAddr_same]
      · simp [Op.equalIn, run_underlying Tryz.underlying204, sizeOf, typeInfo, hj, hs, run_sameAddr_other w h ha hb, h]
theorem run_spot_eq (d : Nat) {a b : Option Addr} {n m : Nat} {w : World} (ha : FreeO w a) (hb : FreeO w b) : (Op.equalIn (d + 2) 206 (spV a n) (spV b m)).run Tryz.prog w = .ok (decide (a = b ∧ n = m)) w := by
  have hS : Tryz.prog.underlying 206 = some (.struct (Tryz.prog.fieldsOf 206)) := by kernel_rfl
  have hp : Tryz.prog.stoodInHeld 206 = false := by kernel_rfl
  have e1 := run_ptr_eq d ha hb
  unfold spV
  rw [show d + 2 = (d + 1) + 1 from rfl, run_equalIn_agg w (d + 1) 206 _ _ hS hp]
  simp only [Program.fieldsOf, Tryz.underlying206]
  have hr : decide (a = b ∧ n = m) = (decide (a = b) && decide (n = m)) := by simp
  rw [hr]
  generalize decide (a = b) = c at e1
  by_cases h : n = m
  · subst h
    cases c <;> simp [Op.eqFields, go_sem, e1]
  · have h2 : ¬ (n : Int) = m := by omega
    cases c <;> simp [Op.eqFields, go_sem, e1, h, h2]
def SpOk (w : World) (k : Value) : Prop := ∃ a n, k = spV a n ∧ FreeO w a
def PrOk (w : World) (k : Value) : Prop := ∃ a b n m, k = prV a b n m ∧ FreeO w a ∧ FreeO w b
theorem spV_iff {a b : Option Addr} {n m : Nat} : spV a n = spV b m ↔ (a = b ∧ n = m) := by
  unfold spV
  simp only [Value.agg.injEq, Array.mk.injEq, List.cons.injEq, Value.pointer.injEq, Value.int.injEq, true_and, and_true]
  constructor <;> intro ⟨h1, h2⟩ <;> exact ⟨h1, by omega⟩
theorem prV_iff {a b a' b' : Option Addr} {n m n' m' : Nat} : prV a b n m = prV a' b' n' m' ↔ (a = a' ∧ n = n' ∧ b = b' ∧ m = m') := by
  unfold prV
  simp only [Value.agg.injEq, Array.mk.injEq, List.cons.injEq, Value.pointer.injEq, Value.int.injEq, true_and, and_true]
  constructor <;> intro ⟨h1, h2, h3, h4⟩ <;> exact ⟨h1, by omega, h3, by omega⟩
theorem spot_key : KeyT 206 SpOk where
  eq w k k' h h' := by
    obtain ⟨a, n, rfl, ha⟩ := h
    obtain ⟨b, m, rfl, hb⟩ := h'
    refine ⟨_, run_spot_eq 9998 ha hb, ?_⟩
    rw [spV_iff]; simp
  chk w k b h := by
    obtain ⟨a, n, rfl, _⟩ := h
    kernel_rfl
  now := ⟨_, Tryz.underlying206, fun _ _ => rfl⟩
  stay w k h := by
    obtain ⟨a, n, rfl, _⟩ := h
    simp [Instr.sameBits, spV]
theorem pair_key : KeyT 208 PrOk where
  eq w k k' h h' := by
    obtain ⟨a, b, n, m, rfl, ha, hb⟩ := h
    obtain ⟨a', b', n', m', rfl, ha', hb'⟩ := h'
    have hi : ∃ i, Tryz.prog.info? 206 = some i := Option.isSome_iff_exists.1 (by kernel_rfl)
    obtain ⟨i, hi⟩ := hi
    have hc : Tryz.prog.cellsOf 206 = 2 := by kernel_rfl
    refine ⟨decide (a = a' ∧ n = n') && decide (b = b' ∧ m = m'), ?_, by rw [prV_iff]; simp [and_assoc]⟩
    show (Op.equalIn (9999 + 1) _ _ _).run _ _ = _
    unfold prV
    rw [run_equalIn_array w 9999 _ _ Tryz.underlying208 hi, hc]
    have e1 : (Op.equalIn 9999 206 (.agg #[.pointer a, .int .i64 (n : Int)]) (.agg #[.pointer a', .int .i64 (n' : Int)])).run Tryz.prog w = _ := run_spot_eq 9997 ha ha'
    have e2 : (Op.equalIn 9999 206 (.agg #[.pointer b, .int .i64 (m : Int)]) (.agg #[.pointer b', .int .i64 (m' : Int)])).run Tryz.prog w = _ := run_spot_eq 9997 hb hb'
    have p0 : ∀ (x y : Option Addr) (u v : Int), (part 206 #[.pointer x, .int .i64 u, .pointer y, .int .i64 v] 0).run Tryz.prog w = .ok (.agg #[.pointer x, .int .i64 u]) w := fun x y u v => by kernel_rfl
    have p1 : ∀ (x y : Option Addr) (u v : Int), (part 206 #[.pointer x, .int .i64 u, .pointer y, .int .i64 v] 2).run Tryz.prog w = .ok (.agg #[.pointer y, .int .i64 v]) w := fun x y u v => by kernel_rfl
    generalize decide (a = a' ∧ n = n') = c1 at e1
    generalize decide (b = b' ∧ m = m') = c2 at e2
    rw [show List.range 2 = [0, 1] from rfl]
    simp only [Op.eqItems, Sem.run_bind, Nat.zero_mul, Nat.one_mul, p0, e1, Result.andThen_ok]
    cases c1 <;> cases c2 <;> simp [p1, e2]
  chk w k b h := by
    obtain ⟨_, _, n, m, rfl, _⟩ := h
    kernel_rfl
  now := ⟨_, Tryz.underlying208, fun _ _ => rfl⟩
  stay w k h := by
    obtain ⟨_, _, n, m, rfl, _⟩ := h
    simp [Instr.sameBits, prV]
/-- Where a list lies. -/
def spotA : Value → Option Addr
  | .slice a (_ + 1) _ => a
  | _ => none
def spotN : Value → Nat
  | .slice _ n _ => n
  | _ => 0
theorem implSpot_any (a : Option Addr) (n c : Nat) (hn : n ≤ 9223372036854775807) (ha : 0 < n → ∃ g o, a = some ⟨g, o, none⟩) (w : World) :
    Calls Tryz.prog 119 #[.slice a n c] w fun e w' => e = .returned (spV (spotA (.slice a n c)) n) ∧ Below w.heap.size w w' := by
  rcases Nat.eq_zero_or_pos n with h | h
  · subst h
    clear ha hn
    go_enter Tryz.func119, Tryz.ntmps119
    go_wp2
    refine bodyPost_ret (v := spV none 0) (by simp [results, Tryz.results119, go_sem, spV]) rfl ⟨rfl, ?_⟩
    exact (Below.refl _ _).alloc (Nat.le_refl _) _
  · obtain ⟨g, o, rfl⟩ := ha h
    obtain ⟨k, rfl⟩ : ∃ k, n = k + 1 := ⟨n - 1, by omega⟩
    have hq : (((k + 1 : Nat) : Int) == 0) = false := by simp; omega
    clear ha h
    go_enter Tryz.func119, Tryz.ntmps119
    go_wp2
    refine bodyPost_ret (v := spV (some ⟨g, o, none⟩) (k + 1)) (by simp [results, Tryz.results119, go_sem, spV]) rfl ⟨rfl, ?_⟩
    exact (Below.refl _ _).alloc (Nat.le_refl _) _
theorem freeO_of {w : World} {v : Value} {xs : List Tree} (h : ListF w v xs) : FreeO w (spotA v) := fun p e => by
  obtain ⟨_, a, c, rfl, hf⟩ := h
  cases hx : xs.length with
  | zero => rw [hx] at e; simp [spotA] at e
  | succ n =>
    obtain ⟨g, o, rfl, f, _⟩ := hf (by omega)
    rw [hx] at e
    simp [spotA] at e
    rw [← e]; exact f
/-- Lists that lie at one spot are one. -/
theorem spot_det {w : World} {v u : Value} {xs ys : List Tree} (h : ListF w v xs) (h2 : ListF w u ys) (e : spotA v = spotA u) (hl : xs.length = ys.length) : xs = ys := by
  obtain ⟨_, a, c, rfl, hf⟩ := h
  obtain ⟨_, b, d, rfl, hf2⟩ := h2
  cases hx : xs.length with
  | zero => rw [List.length_eq_zero_iff.1 hx, List.length_eq_zero_iff.1 (by omega : ys.length = 0)]
  | succ n =>
    obtain ⟨g, o, rfl, _, h1⟩ := hf (by omega)
    obtain ⟨g', o', rfl, _, h2⟩ := hf2 (by omega)
    rw [← hl, hx] at e
    simp [spotA] at e
    obtain ⟨rfl, rfl⟩ := e
    exact LiesLF.det h1 h2 hl
end Go.Proofs.YtibkmcfinkadhaaGreatDoor.SpT
/- When two lists are the same part by part, told by a heap of pairs of lists that are looked at one by one, each once. Without conditions: no Go text is spoken of here. -/
namespace Go.Proofs.YtibkmcfinkadhaaGreatDoor.Lg
/-- What stands in lists, and the lists within it. -/
structure Kd (α : Type) where
  sh : α → α → Bool
  wi : α → List (List α)
  dp : α → α → Bool
  nd : α → Nat
  many : Nat
variable {α : Type} (K : Kd α)
def DeepP (p : List α × List α) : Prop := p.1.length = p.2.length ∧ ∀ i (h : i < p.1.length) (h2 : i < p.2.length), K.dp p.1[i] p.2[i] = true
def ShalP (p : List α × List α) : Prop := p.1.length = p.2.length ∧ ∀ i (h : i < p.1.length) (h2 : i < p.2.length), K.sh p.1[i] p.2[i] = true
def ndL : List α → Nat
  | [] => 0
  | x :: xs => K.nd x + ndL xs
def wtS : List (List α) → Nat
  | [] => 0
  | l :: r => 1 + ndL K l + wtS r
structure Kd.Ok : Prop where
  len : ∀ x, (K.wi x).length = K.many
  nd : ∀ x, K.nd x = wtS K (K.wi x)
  dp : ∀ x y, K.dp x y = true ↔ (K.sh x y = true ∧ ∀ j (h : j < (K.wi x).length) (h2 : j < (K.wi y).length), DeepP K ((K.wi x)[j], (K.wi y)[j]))
  ind : ∀ P : α → Prop, (∀ x, (∀ l, l ∈ K.wi x → ∀ y, y ∈ l → P y) → P x) → ∀ x, P x
variable {K}
theorem deep_shal (ok : K.Ok) {p : List α × List α} (h : DeepP K p) : ShalP K p := ⟨h.1, fun i h1 h2 => ((ok.dp _ _).1 (h.2 i h1 h2)).1⟩
/-- A pair of lists within the elements at i. -/
def kid (K : Kd α) (p : List α × List α) (i j : Nat) : List α × List α :=
  ((p.1[i]?.bind fun x => (K.wi x)[j]?).getD [], (p.2[i]?.bind fun x => (K.wi x)[j]?).getD [])
theorem kid_eq {p : List α × List α} {i j : Nat} (h1 : i < p.1.length) (h2 : i < p.2.length) (h3 : j < (K.wi p.1[i]).length) (h4 : j < (K.wi p.2[i]).length) : kid K p i j = ((K.wi p.1[i])[j], (K.wi p.2[i])[j]) := by
  unfold kid
  rw [List.getElem?_eq_getElem h1, List.getElem?_eq_getElem h2]
  simp only [Option.bind_some]
  rw [List.getElem?_eq_getElem h3, List.getElem?_eq_getElem h4]
  rfl
theorem deep_kid (ok : K.Ok) {p : List α × List α} (h : DeepP K p) {i j : Nat} (h1 : i < p.1.length) (hj : j < K.many) : DeepP K (kid K p i j) := by
  have h2 : i < p.2.length := by rw [← h.1]; exact h1
  have h3 : j < (K.wi p.1[i]).length := by rw [ok.len]; exact hj
  have h4 : j < (K.wi p.2[i]).length := by rw [ok.len]; exact hj
  rw [kid_eq h1 h2 h3 h4]
  exact ((ok.dp _ _).1 (h.2 i h1 h2)).2 j h3 h4
/-- Looked at, and all within it is met or to be looked at. -/
def Shut (K : Kd α) (ms es : List (List α × List α)) (p : List α × List α) : Prop := ShalP K p ∧ ∀ i j, i < p.1.length → j < K.many → kid K p i j ∈ ms ∨ kid K p i j ∈ es
theorem Shut.imp {ms es ms' es' : List (List α × List α)} {p : List α × List α} (h : Shut K ms es p) (hi : ∀ q, q ∈ ms ∨ q ∈ es → q ∈ ms' ∨ q ∈ es') : Shut K ms' es' p := ⟨h.1, fun i j h1 h2 => hi _ (h.2 i j h1 h2)⟩
theorem shut_deep (ok : K.Ok) {ms : List (List α × List α)} (hs : ∀ p, p ∈ ms → Shut K ms [] p) (p : List α × List α) (h : p ∈ ms) : DeepP K p := by
  have key : ∀ x : α, ∀ p, p ∈ ms → ∀ i (h1 : i < p.1.length) (h2 : i < p.2.length), p.1[i] = x → K.dp p.1[i] p.2[i] = true := by
    refine ok.ind _ fun x ih p hp i h1 h2 hx => ?_
    have sp := hs p hp
    refine (ok.dp _ _).2 ⟨sp.1.2 i h1 h2, fun j h3 h4 => ?_⟩
    have hm := (sp.2 i j h1 (by rw [← ok.len]; exact h3)).resolve_right (by simp)
    rw [kid_eq h1 h2 h3 h4] at hm
    have sk := hs _ hm
    refine ⟨sk.1.1, fun i' h5 h6 => ?_⟩
    exact ih ((K.wi p.1[i])[j]) (by rw [← hx]; exact List.getElem_mem h3) _ (List.getElem_mem h5) _ hm i' h5 h6 rfl
  exact ⟨(hs p h).1.1, fun i h1 h2 => key _ p h i h1 h2 rfl⟩
structure Gh (K : Kd α) (root : List α × List α) (ms es : List (List α × List α)) : Prop where
  rt : root ∈ ms ∨ root ∈ es
  sound : DeepP K root → ∀ p, p ∈ es → DeepP K p
  shut : ∀ p, p ∈ ms → Shut K ms es p
structure Gi (K : Kd α) (root : List α × List α) (ms es : List (List α × List α)) (c : List α × List α) (i j : Nat) : Prop where
  rt : root ∈ ms ∨ root ∈ es
  sound : DeepP K root → (∀ p, p ∈ es → DeepP K p) ∧ DeepP K c
  shut : ∀ p, p ∈ ms → p = c ∨ Shut K ms es p
  shal : ShalP K c
  kids : ∀ i' j', i' < c.1.length → j' < K.many → (i' < i ∨ (i' = i ∧ j' < j)) → kid K c i' j' ∈ ms ∨ kid K c i' j' ∈ es
theorem Gh.start (r : List α × List α) : Gh K r [] [r] := ⟨.inr (by simp), fun h p hp => by simp at hp; rw [hp]; exact h, fun p hp => by cases hp⟩
theorem mem_snoc {es : List (List α × List α)} {c q : List α × List α} : q ∈ es ++ [c] ↔ q ∈ es ∨ q = c := by simp
theorem Gh.skip {r c : List α × List α} {ms es : List (List α × List α)} (h : Gh K r ms (es ++ [c])) (hc : c ∈ ms) : Gh K r ms es := by
  have hi : ∀ q, q ∈ ms ∨ q ∈ es ++ [c] → q ∈ ms ∨ q ∈ es := fun q hq => by
    rcases hq with hq | hq
    · exact .inl hq
    · rcases mem_snoc.1 hq with hq | rfl
      · exact .inr hq
      · exact .inl hc
  exact ⟨hi _ h.rt, fun hr p hp => h.sound hr p (mem_snoc.2 (.inl hp)), fun p hp => (h.shut p hp).imp hi⟩
theorem Gh.no (ok : K.Ok) {r c : List α × List α} {ms es : List (List α × List α)} (h : Gh K r ms (es ++ [c])) (hc : ¬ ShalP K c) : ¬ DeepP K r := fun hr => hc (deep_shal ok (h.sound hr c (mem_snoc.2 (.inr rfl))))
theorem Gh.begin {r c : List α × List α} {ms es : List (List α × List α)} (h : Gh K r ms (es ++ [c])) (hc : ShalP K c) : Gi K r (c :: ms) es c 0 0 := by
  have hi : ∀ q, q ∈ ms ∨ q ∈ es ++ [c] → q ∈ c :: ms ∨ q ∈ es := fun q hq => by
    rcases hq with hq | hq
    · exact .inl (List.mem_cons_of_mem _ hq)
    · rcases mem_snoc.1 hq with hq | rfl
      · exact .inr hq
      · exact .inl (List.mem_cons_self ..)
  refine ⟨hi _ h.rt, fun hr => ⟨fun p hp => h.sound hr p (mem_snoc.2 (.inl hp)), h.sound hr c (mem_snoc.2 (.inr rfl))⟩, fun p hp => ?_, hc, fun i' j' _ _ hlt => by omega⟩
  rcases List.mem_cons.1 hp with rfl | hp
  · exact .inl rfl
  · exact .inr ((h.shut p hp).imp hi)
theorem Gi.push (ok : K.Ok) {r c : List α × List α} {ms es : List (List α × List α)} {i j : Nat} (h : Gi K r ms es c i j) (h1 : i < c.1.length) (hj : j < K.many) : Gi K r ms (es ++ [kid K c i j]) c i (j + 1) := by
  have hi : ∀ q, q ∈ ms ∨ q ∈ es → q ∈ ms ∨ q ∈ es ++ [kid K c i j] := fun q hq => hq.imp id (fun hq => mem_snoc.2 (.inl hq))
  refine ⟨hi _ h.rt, fun hr => ⟨fun p hp => ?_, (h.sound hr).2⟩, fun p hp => (h.shut p hp).imp id (fun hs => hs.imp hi), h.shal, fun i' j' a b hlt => ?_⟩
  · rcases mem_snoc.1 hp with hp | rfl
    · exact (h.sound hr).1 p hp
    · exact deep_kid ok (h.sound hr).2 h1 hj
  · by_cases he : i' = i ∧ j' = j
    · obtain ⟨rfl, rfl⟩ := he
      exact .inr (mem_snoc.2 (.inr rfl))
    · exact hi _ (h.kids i' j' a b (by omega))
theorem Gi.next {r c : List α × List α} {ms es : List (List α × List α)} {i j : Nat} (h : Gi K r ms es c i j) (hj : K.many ≤ j) : Gi K r ms es c (i + 1) 0 :=
  ⟨h.rt, h.sound, h.shut, h.shal, fun i' j' a b hlt => h.kids i' j' a b (by omega)⟩
theorem Gi.done {r c : List α × List α} {ms es : List (List α × List α)} {i : Nat} (h : Gi K r ms es c i 0) (hi : c.1.length ≤ i) : Gh K r ms es :=
  ⟨h.rt, fun hr => (h.sound hr).1, fun p hp => by
    rcases h.shut p hp with rfl | hs
    · exact ⟨h.shal, fun i' j' a b => h.kids i' j' a b (by omega)⟩
    · exact hs⟩
theorem Gh.yes (ok : K.Ok) {r : List α × List α} {ms : List (List α × List α)} (h : Gh K r ms []) : DeepP K r :=
  shut_deep ok h.shut r (h.rt.resolve_right (by simp))
/-- How much is to be done. -/
def wt (K : Kd α) : List (List α × List α) → Nat
  | [] => 0
  | p :: r => 1 + ndL K p.1 + wt K r
theorem wt_snoc : ∀ (es : List (List α × List α)) (c : List α × List α), wt K (es ++ [c]) = wt K es + (1 + ndL K c.1)
  | [], c => by simp [wt]
  | p :: r, c => by simp only [List.cons_append, wt, wt_snoc r c]; omega
theorem wt_len : ∀ es : List (List α × List α), es.length ≤ wt K es
  | [] => by simp [wt]
  | p :: r => by have := wt_len r; simp only [List.length_cons, wt]; omega
theorem ndL_drop {l : List α} {i : Nat} (h : i < l.length) : ndL K (l.drop i) = K.nd l[i] + ndL K (l.drop (i + 1)) := by rw [List.drop_eq_getElem_cons h, ndL]
theorem ndL_end {l : List α} {i : Nat} (h : l.length ≤ i) : ndL K (l.drop i) = 0 := by rw [List.drop_of_length_le h, ndL]
theorem wtS_drop {l : List (List α)} {i : Nat} (h : i < l.length) : wtS K (l.drop i) = 1 + ndL K l[i] + wtS K (l.drop (i + 1)) := by rw [List.drop_eq_getElem_cons h, wtS]
theorem wtS_end {l : List (List α)} {i : Nat} (h : l.length ≤ i) : wtS K (l.drop i) = 0 := by rw [List.drop_of_length_le h, wtS]
theorem least_is {p : Nat → Prop} : ∀ n, p n → ∃ m, p m ∧ ∀ k, p k → m ≤ k := by
  intro n
  induction n using Nat.strongRecOn with
  | ind n ih =>
    intro h
    by_cases hc : ∃ k, k < n ∧ p k
    · obtain ⟨k, hk, hp⟩ := hc
      exact ih k hk hp
    · exact ⟨n, h, fun k hk => Nat.le_of_not_lt fun hl => hc ⟨k, hl, hk⟩⟩
open Classical in
/-- The least number of a kind. -/
noncomputable def leastN (p : Nat → Prop) : Nat := if h : ∃ m, p m ∧ ∀ k, p k → m ≤ k then Classical.choose h else 0
theorem leastN_le {p : Nat → Prop} {m : Nat} (h : p m) : leastN p ≤ m := by
  have hx := least_is m h
  unfold leastN
  rw [dif_pos hx]
  exact (Classical.choose_spec hx).2 m h
theorem leastN_at {p : Nat → Prop} (h : ∃ n, p n) : p (leastN p) := by
  obtain ⟨n, hn⟩ := h
  have hx := least_is n hn
  unfold leastN
  rw [dif_pos hx]
  exact (Classical.choose_spec hx).1
end Go.Proofs.YtibkmcfinkadhaaGreatDoor.Lg
/- Terms as things that stand in lists: what makes two of them the same. Without conditions. -/
namespace Go.Proofs.YtibkmcfinkadhaaGreatDoor.Trm
open Go.RowKit Own
/-- The same, but for what their kids are. -/
def shal (t u : Tree) : Bool := decide (t.kind = u.kind) && decide (t.num = u.num) && decide (t.name = u.name)
mutual
def kdT : Tree → Nat | .node _ _ _ ks => 1 + kdL ks
def kdL : List Tree → Nat | [] => 0 | t :: ts => kdT t + kdL ts
end
def KT : Lg.Kd Tree where
  sh := shal
  wi t := [t.kids]
  dp := sameT
  nd := kdT
  many := 1
theorem sameT_parts (t u : Tree) : sameT t u = (shal t u && decide (t.kids.length = u.kids.length) && sameL t.kids u.kids) := by
  cases t with
  | node k n s ks => rw [sameT]; rfl
theorem sameL_iff : ∀ {ks us : List Tree}, ks.length = us.length → (sameL ks us = true ↔ ∀ i (h : i < ks.length) (h2 : i < us.length), sameT ks[i] us[i] = true)
  | [], [], _ => by simp [sameL]
  | t :: ts, u :: us, h => by
    rw [sameL, Bool.and_eq_true, sameL_iff (ks := ts) (us := us) (by simpa using h)]
    constructor
    · intro ⟨h1, h2⟩ i hi hi2
      cases i with
      | zero => exact h1
      | succ i => exact h2 i (by simpa using hi) (by simpa using hi2)
    · intro h
      exact ⟨h 0 (by simp) (by simp), fun i hi hi2 => h (i + 1) (by simpa using hi) (by simpa using hi2)⟩
  | [], _ :: _, h => by simp at h
  | _ :: _, [], h => by simp at h
theorem ndL_kt : ∀ l : List Tree, Lg.ndL KT l = kdL l
  | [] => rfl
  | t :: ts => by rw [Lg.ndL, kdL, ndL_kt ts]; rfl
theorem KT_ok : KT.Ok where
  len _ := rfl
  nd t := by
    show kdT t = Lg.wtS KT [t.kids]
    rw [Lg.wtS, Lg.wtS, ndL_kt]
    cases t with
    | node k n s ks => rw [kdT]; rfl
  dp t u := by
    show sameT t u = true ↔ shal t u = true ∧ _
    rw [sameT_parts, Bool.and_eq_true, Bool.and_eq_true]
    constructor
    · intro ⟨⟨h1, h2⟩, h3⟩
      refine ⟨h1, fun j hj hj2 => ?_⟩
      obtain rfl : j = 0 := by have : j < 1 := hj; omega
      exact ⟨of_decide_eq_true h2, (sameL_iff (of_decide_eq_true h2)).1 h3⟩
    · intro ⟨h1, h2⟩
      have h := h2 0 (Nat.zero_lt_one) (Nat.zero_lt_one)
      exact ⟨⟨h1, decide_eq_true h.1⟩, (sameL_iff h.1).2 h.2⟩
  ind P h := treeInd fun k n s ks ih => h _ fun l hl y hy => by
    obtain rfl : l = ks := by simpa [KT, Tree.kids] using hl
    exact ih y hy
mutual
theorem kdT_le : ∀ t : Tree, kdT t ≤ 1 + szT t
  | .node k n s ks => by rw [kdT, szT]; have := kdL_le ks; omega
theorem kdL_le : ∀ ks : List Tree, kdL ks ≤ ks.length + szS ks
  | [] => by simp [kdL]
  | t :: ts => by rw [kdL, szS]; have := kdT_le t; have := kdL_le ts; simp; omega
end
/-- The pair of one-element lists. -/
theorem deep_one {t u : Tree} : Lg.DeepP KT ([t], [u]) ↔ sameT t u = true := by
  constructor
  · intro h; exact h.2 0 (by simp) (by simp)
  · intro h
    refine ⟨rfl, fun i h1 h2 => ?_⟩
    obtain rfl : i = 0 := by simpa using h1
    exact h
end Go.Proofs.YtibkmcfinkadhaaGreatDoor.Trm
/- Two lists of terms held against each other but for what is within them, walked; the lists within one. Conditions: both lists lie in rows that are not frozen. -/
namespace Go.Proofs.YtibkmcfinkadhaaGreatDoor.SpT
open Go.RowKit Own Trm Km
set_option maxHeartbeats 1600000 in
theorem implShal_any (t t2 : Tree) (a b : Option Addr) (c d : Nat) (w : World) :
    Calls Tryz.prog 117 #[.agg #[.int .i64 t.kind, .int .i64 t.num, .string t.name, .slice a t.kids.length c], .agg #[.int .i64 t2.kind, .int .i64 t2.num, .string t2.name, .slice b t2.kids.length d]] w fun e w' => e = .returned (.bool (shal t t2)) ∧ Below w.heap.size w w' := by
  have HR : Hid (shal t t2 = (decide (t.kind = t2.kind) && decide (t.num = t2.num) && decide (t.name = t2.name))) := rfl
  obtain ⟨k, n, s, ks⟩ := t
  obtain ⟨k', n', s', ks'⟩ := t2
  simp only [Tree.kind, Tree.num, Tree.name, Tree.kids] at HR ⊢
  by_cases hk : k = k'
  · subst hk
    by_cases hn : n = n'
    · subst hn
      by_cases hs : s = s'
      · subst hs
        go_enter Tryz.func117, Tryz.ntmps117
        go_wp2
        go_ret
        exact ⟨ret_b (by rw [HR.out]; simp), ((Below.refl _ _).alloc (Nat.le_refl _) _).alloc (by simp) _⟩
      · have hq := bytes_ne hs
        have HS := Lib.hid hs
        clear hs
        go_enter Tryz.func117, Tryz.ntmps117
        go_wp2
        go_ret
        exact ⟨ret_b (by rw [HR.out]; simp [HS.out]), ((Below.refl _ _).alloc (Nat.le_refl _) _).alloc (by simp) _⟩
    · have hq : (n == n') = false := by simp [hn]
      have HN := Lib.hid hn
      clear hn
      go_enter Tryz.func117, Tryz.ntmps117
      go_wp2
      go_ret
      exact ⟨ret_b (by rw [HR.out]; simp [HN.out]), ((Below.refl _ _).alloc (Nat.le_refl _) _).alloc (by simp) _⟩
  · have hq : (k == k') = false := by simp [hk]
    have HK := Lib.hid hk
    clear hk
    go_enter Tryz.func117, Tryz.ntmps117
    go_wp2
    go_ret
    exact ⟨ret_b (by rw [HR.out]; simp [HK.out]), ((Below.refl _ _).alloc (Nat.le_refl _) _).alloc (by simp) _⟩

/-- The lists within one, as values. -/
def CellsIn (w : World) (g : Nat) (vs : List Value) : Prop := ∀ j (_ : j < vs.length), w.cell? ⟨g, j, none⟩ = some (vs[j])
structure ListsIn (V : World) (x : Tree) (vs : List Value) : Prop where
  len : vs.length = 1
  at' : ∀ j (h : j < vs.length) (h2 : j < (KT.wi x).length), ListF V vs[j] (KT.wi x)[j]
theorem CellsIn.keep {w w' : World} {g : Nat} {vs : List Value} (hk : ∀ p u, p.block = g → w.cell? p = some u → w'.cell? p = some u) (h : CellsIn w g vs) : CellsIn w' g vs := fun j hj => hk _ _ rfl (h j hj)
abbrev inVs (x : Tree) (ka : Option Addr) (kc : Nat) : List Value := [.slice ka x.kids.length kc]
theorem lists_in {V : World} (x : Tree) {ka : Option Addr} {kc : Nat} (hl : ListF V (.slice ka x.kids.length kc) x.kids) : ListsIn V x (inVs x ka kc) := by
  refine ⟨rfl, fun j hj h2 => ?_⟩
  obtain rfl : j = 0 := by simpa using hj
  exact hl
theorem implWithin_any (x : Tree) (ka : Option Addr) (kc : Nat) (w : World) :
    Calls Tryz.prog 118 #[.agg #[.int .i64 x.kind, .int .i64 x.num, .string x.name, .slice ka x.kids.length kc]] w fun e w' => ∃ g, e = .returned (.slice (some ⟨g, 0, none⟩) 1 1) ∧ Below w.heap.size w w' ∧ w.heap.size ≤ g ∧ g < w'.heap.size ∧ CellsIn w' g (inVs x ka kc) := by
  go_enter Tryz.func118, Tryz.ntmps118
  go_wp2
  go_ret
  refine ⟨_, rfl, ((Below.refl _ _).alloc (Nat.le_refl _) _).alloc (by simp) _, by simp, by simp, fun j hj => ?_⟩
  obtain rfl : j = 0 := by simpa using hj
  simp [go_sem]
def shB : List Tree → List Tree → Bool
  | x :: xs, y :: ys => KT.sh x y && shB xs ys
  | _, _ => true
theorem shB_drop {xs ys : List Tree} {i : Nat} (h : i < xs.length) (h2 : i < ys.length) : shB (xs.drop i) (ys.drop i) = (KT.sh xs[i] ys[i] && shB (xs.drop (i + 1)) (ys.drop (i + 1))) := by
  rw [List.drop_eq_getElem_cons h, List.drop_eq_getElem_cons h2, shB]
theorem shB_end {xs ys : List Tree} {i : Nat} (h : xs.length ≤ i) : shB (xs.drop i) (ys.drop i) = true := by
  rw [List.drop_of_length_le h, shB]; simp
theorem shB_iff : ∀ {xs ys : List Tree}, xs.length = ys.length → (shB xs ys = true ↔ ∀ i (h : i < xs.length) (h2 : i < ys.length), KT.sh xs[i] ys[i] = true)
  | [], [], _ => by simp [shB]
  | x :: xs, y :: ys, hl => by
    rw [shB, Bool.and_eq_true, shB_iff (xs := xs) (ys := ys) (by simpa using hl)]
    constructor
    · intro ⟨h1, h2⟩ i hi hi2
      cases i with
      | zero => exact h1
      | succ i => exact h2 i (by simpa using hi) (by simpa using hi2)
    · intro h
      exact ⟨h 0 (by simp) (by simp), fun i hi hi2 => h (i + 1) (by simpa using hi) (by simpa using hi2)⟩
  | [], _ :: _, hl => by simp at hl
  | _ :: _, [], hl => by simp at hl
def shP (p : List Tree × List Tree) : Bool := decide (p.1.length = p.2.length) && shB p.1 p.2
theorem shP_iff (p : List Tree × List Tree) : shP p = true ↔ Lg.ShalP KT p := by
  unfold shP Lg.ShalP
  rw [Bool.and_eq_true, decide_eq_true_eq]
  constructor
  · intro ⟨h1, h2⟩; exact ⟨h1, (shB_iff h1).1 h2⟩
  · intro ⟨h1, h2⟩; exact ⟨h1, (shB_iff h1).2 h2⟩
set_option maxHeartbeats 1600000 in
theorem implEqF_any (p : List Tree × List Tree) (va vb : Value) (w : World) (ha : ListF w va p.1) (hb : ListF w vb p.2) :
    Calls Tryz.prog 120 #[va, vb, .func (.func 117) #[] #[]] w fun e w' => e = .returned (.bool (shP p)) ∧ Below w.heap.size w w' := by
  obtain ⟨ts, us⟩ := p
  obtain ⟨ha1, aa, ac, rfl, ha2⟩ := ha
  obtain ⟨hb1, ba, bc, rfl, hb2⟩ := hb
  simp only at ha1 ha2 hb1 hb2 ⊢
  have HA := Lib.hid ha2
  have HB := Lib.hid hb2
  have HR : Hid (shP (ts, us) = (decide (ts.length = us.length) && shB ts us)) := rfl
  clear ha2 hb2
  by_cases hl : ts.length = us.length
  · have HL := Lib.hid hl
    have hq : ((ts.length : Int) != (us.length : Int)) = false := by rw [hl]; simp
    have HR2 : Hid (shP (ts, us) = shB ts us) := by show _ = _; rw [HR.out]; simp [hl]
    clear hl
    go_enter Tryz.func120, Tryz.ntmps120
    go_wp2
    go_loopw [17] (fun i wr => ∃ j : Nat, j ≤ ts.length ∧ i = .int .i64 j ∧ Hid (shP (ts, us) = shB (ts.drop j) (us.drop j)) ∧ Hid (Below w.heap.size w wr))
      (fun i _ => ts.length - (intOf i).toNat)
    case atStart => exact ⟨0, Nat.zero_le _, rfl, HR2.out, Below.refl _ _⟩
    case round =>
      obtain ⟨j, hj, rfl, hsz, hbe⟩ := hrel
      by_cases hlt : j < ts.length
      · have hlt2 : j < us.length := by have := HL.out; omega
        obtain ⟨g, o, rfl, f1, l1⟩ := HA.out (by omega)
        obtain ⟨h, q, rfl, f2, l2⟩ := HB.out (by omega)
        have kf := keepF_below hbe.out
        obtain ⟨ka, kc, c0, c1, c2, c3, _⟩ := (l1.keep kf f1).at j hlt
        obtain ⟨la, lc, d0, d1, d2, d3, _⟩ := (l2.keep kf f2).at j hlt2
        have C := Lib.hid (fun (w2 : World) (_ : Below wr.heap.size wr w2) => implShal_any ts[j] us[j] ka la kc lc w2)
        have hd : shB (ts.drop j) (us.drop j) = (shal ts[j] us[j] && shB (ts.drop (j + 1)) (us.drop (j + 1))) := shB_drop hlt hlt2
        have ke := keeps_alloc wr (.cells #[.int .i64 ts[j].kind, .int .i64 ts[j].num, .string ts[j].name, .slice ka ts[j].kids.length kc] 34)
        have e0 := ke _ _ d0
        have e1 := ke _ _ d1
        have e2 := ke _ _ d2
        have e3 := ke _ _ d3
        clear l1 l2 f1 f2 kf ke d0 d1 d2 d3
        cases hq2 : shal ts[j] us[j] with
        | false =>
          have HS2 : Hid (shP (ts, us) = false) := by show _ = _; rw [hsz.out, hd, hq2]; rfl
          rw [hq2] at C
          clear hq2 hd
          go_wp2_with fail
          refine (C.out _ (((Below.refl _ _).alloc (Nat.le_refl _) _).alloc (by simp) _)).mono ?_
          rintro e w1 ⟨rfl, hb1⟩
          have HB1 := Lib.hid hb1
          clear hb1
          go_wp2
          go_ret
          exact ⟨ret_b (by rw [HS2.out]), hbe.out.trans ((below_box1 (below_box1 HB1.out)).mono hbe.out.size)⟩
        | true =>
          have HS2 : Hid (shP (ts, us) = shB (ts.drop (j + 1)) (us.drop (j + 1))) := by show shP (ts, us) = _; rw [hsz.out, hd, hq2]; rfl
          rw [hq2] at C
          clear hq2 hd
          go_wp2_with fail
          refine (C.out _ (((Below.refl _ _).alloc (Nat.le_refl _) _).alloc (by simp) _)).mono ?_
          rintro e w1 ⟨rfl, hb1⟩
          have HB1 := Lib.hid (below_box1 (below_box1 hb1))
          clear hb1
          go_wp2
          go_roundw
          case rel => exact ⟨j + 1, by omega, by go_num, HS2, hbe.out.trans (HB1.out.mono hbe.out.size)⟩
          case measure => simp [intOf]; omega
      · have HS2 : Hid (shP (ts, us) = true) := by show _ = _; rw [hsz.out, shB_end (by omega)]
        go_wp2
        go_ret
        exact ⟨ret_b (by rw [HS2.out]), hbe.out⟩
  · have hq : ((ts.length : Int) != (us.length : Int)) = true := by simp; omega
    have HL := Lib.hid hl
    clear hl
    go_enter Tryz.func120, Tryz.ntmps120
    go_wp2
    go_ret
    exact ⟨ret_b (by rw [HR.out]; simp [HL.out]), Below.refl _ _⟩
end Go.Proofs.YtibkmcfinkadhaaGreatDoor.SpT
/- The heap of pairs of lists and the map of those that were met, while terms are held against each other. Without conditions. -/
namespace Go.Proofs.YtibkmcfinkadhaaGreatDoor.SpT
open Go.RowKit Own Trm Km
abbrev PairL := List Tree × List Tree
theorem infoPair : (Tryz.prog.info? 202).map (fun i => (i.zero, i.size, i.bytes)) = some (some (.agg #[.slice none 0 0, .slice none 0 0]), 2, 48) := by kernel_rfl
def small (_ : List Tree) : Prop := True
theorem small_kid {l : List Tree} {x : Tree} {m : List Tree} (_ : small l) (_ : x ∈ l) (_ : m ∈ KT.wi x) : small m := trivial
structure Ent where
  va : Value
  vb : Value
  p : PairL
structure Ent.ok (V : World) (e : Ent) : Prop where
  a : ListF V e.va e.p.1
  b : ListF V e.vb e.p.2
  s : small e.p.1
def entV : List Ent → List Value
  | [] => []
  | e :: es => e.va :: e.vb :: entV es
theorem entV_len : ∀ es : List Ent, (entV es).length = es.length * 2
  | [] => rfl
  | e :: es => by simp only [entV, List.length_cons, entV_len es]; omega
theorem entV_snoc : ∀ (es : List Ent) (e : Ent), entV (es ++ [e]) = entV es ++ [e.va, e.vb]
  | [], _ => rfl
  | a :: es, e => by simp only [List.cons_append, entV, entV_snoc es e]
/-- A key of the map is of a pair that was met. -/
def KeyOf (V : World) (ms : List PairL) (k : Value) : Prop := ∃ (va vb : Value) (p : PairL), k = prV (spotA va) (spotA vb) p.1.length p.2.length ∧ ListF V va p.1 ∧ ListF V vb p.2 ∧ p ∈ ms
def MapInv (V : World) (M : Nat) (ms : List PairL) (wr : World) : Prop := ∃ es clock, wr.heap[M]? = some (.map es clock) ∧ MetK PrOk V es.toList ∧ ∀ k v, lookK es.toList k = some v → v = .bool true ∧ KeyOf V ms k
/-- The place: the map's block is none that keeps lists; both are newer than the call's world. -/
structure Ctx (V w : World) (M : Nat) : Prop where
  map : ∃ es clock, V.heap[M]? = some (Obj.map es clock)
  hM : w.heap.size ≤ M
  hV : w.heap.size ≤ V.heap.size
structure WInv (V w : World) (M : Nat) (ms : List PairL) (wr : World) : Prop where
  keep : KeepF V wr
  below : Below w.heap.size w wr
  map : MapInv V M ms wr
  size : V.heap.size ≤ wr.heap.size
theorem Ctx.lt {V w : World} {M : Nat} (c : Ctx V w M) : M < V.heap.size := by obtain ⟨es, k, h⟩ := c.map; exact heap_lt h
theorem WInv.grown {V w : World} {M : Nat} {ms : List PairL} {wr w' : World} {row : Option Nat} (c : Ctx V w M) (h : WInv V w M ms wr) (hg : wr.grownBy w' row) (hr : ∀ b, row = some b → V.heap.size ≤ b) : WInv V w M ms w' where
  keep := fun b cs T z e => by
    have hb := heap_lt e
    rw [hg.block b (Nat.lt_of_lt_of_le hb h.size) (fun e2 => by have := hr b e2.symm; omega)]
    exact h.keep b cs T z e
  below := h.below.grown hg h.below.size (fun b hb => Nat.le_trans c.hV (hr b hb))
  map := by
    obtain ⟨es, k, h1, h2⟩ := h.map
    refine ⟨es, k, ?_, h2⟩
    rw [hg.block M (heap_lt h1) (fun e2 => by have := hr M e2.symm; have := c.lt; omega)]
    exact h1
  size := Nat.le_trans h.size hg.size
theorem WInv.alloc {V w : World} {M : Nat} {ms : List PairL} {wr : World} (c : Ctx V w M) (h : WInv V w M ms wr) (o : Obj) : WInv V w M ms (wr.alloc o) := h.grown c (World.grownBy_alloc wr o none) (fun b hb => by cases hb)
theorem WInv.belowW {V w : World} {M : Nat} {ms : List PairL} {wr w' : World} (c : Ctx V w M) (h : WInv V w M ms wr) (hb : Below wr.heap.size wr w') : WInv V w M ms w' :=
  h.grown (row := none) c ⟨hb.os, hb.tape, hb.output, hb.size, fun k hk _ => hb.block k hk⟩ (fun b hb => by cases hb)
theorem PrOk.keep {V wr : World} {k : Value} (hk : KeepF V wr) (h : PrOk V k) : PrOk wr k := by
  obtain ⟨a, b, n, m, e, h1, h2⟩ := h
  exact ⟨a, b, n, m, e, h1.keep hk, h2.keep hk⟩
theorem key_ok {V : World} {va vb : Value} {p : PairL} (h1 : ListF V va p.1) (h2 : ListF V vb p.2) : PrOk V (prV (spotA va) (spotA vb) p.1.length p.2.length) := ⟨_, _, _, _, rfl, freeO_of h1, freeO_of h2⟩
theorem KeyOf.mono {V : World} {ms : List PairL} {q : PairL} {k : Value} (h : KeyOf V ms k) : KeyOf V (q :: ms) k := by
  obtain ⟨va, vb, p, h1, h2, h3, h4⟩ := h
  exact ⟨va, vb, p, h1, h2, h3, List.mem_cons_of_mem _ h4⟩
/-- A key that was met is of a pair that was met. -/
theorem key_met {V : World} {ms : List PairL} {va vb : Value} {p : PairL} (h : KeyOf V ms (prV (spotA va) (spotA vb) p.1.length p.2.length)) (h1 : ListF V va p.1) (h2 : ListF V vb p.2) : p ∈ ms := by
  obtain ⟨ua, ub, q, e, h3, h4, h5⟩ := h
  rw [prV_iff] at e
  have e1 := spot_det h1 h3 e.1 e.2.1
  have e2 := spot_det h2 h4 e.2.2.1 e.2.2.2
  have : p = q := Prod.ext e1 e2
  rw [this]; exact h5
/-- What is stored of the map. -/
theorem WInv.meet {V w : World} {M : Nat} {ms : List PairL} {wr w' : World} (c : Ctx V w M) (h : WInv V w M ms wr) (hg : wr.grownBy w' (some M)) {es es' : Array MapEntry} {k' : Nat} (hk : MetK PrOk V es.toList) (hl : ∀ k v, lookK es.toList k = some v → v = .bool true ∧ KeyOf V ms k) {va vb : Value} {p : PairL} (h1 : ListF V va p.1) (h2 : ListF V vb p.2)
    (h3 : w'.heap[M]? = some (.map es' k')) (h4 : ∀ k', lookK es'.toList k' = @ite _ (prV (spotA va) (spotA vb) p.1.length p.2.length = k') (Classical.propDecidable _) (some (Value.bool true)) (lookK es.toList k')) (h5 : ∀ x, x ∈ es'.toList → x.key = prV (spotA va) (spotA vb) p.1.length p.2.length ∨ ∃ y, y ∈ es.toList ∧ y.key = x.key) : WInv V w M (p :: ms) w' where
  keep := fun b cs T z e => by
    have hb := heap_lt e
    rw [hg.block b (Nat.lt_of_lt_of_le hb h.size) (fun e2 => by obtain ⟨es0, k0, h0⟩ := c.map; simp at e2; rw [e2, h0] at e; simp at e)]
    exact h.keep b cs T z e
  below := h.below.grown hg h.below.size (fun b hb => by cases hb; exact c.hM)
  map := ⟨es', k', h3, fun x hx => by
    rcases h5 x hx with e | ⟨y, hy, e⟩
    · rw [e]; exact key_ok h1 h2
    · rw [← e]; exact hk y hy, fun k v hv => by
    rw [h4] at hv
    by_cases hc : prV (spotA va) (spotA vb) p.1.length p.2.length = k
    · rw [if_pos hc] at hv
      exact ⟨by simpa using hv.symm, va, vb, p, hc.symm, h1, h2, List.mem_cons_self ..⟩
    · rw [if_neg hc] at hv
      exact ⟨(hl k v hv).1, (hl k v hv).2.mono⟩⟩
  size := Nat.le_trans h.size hg.size
theorem row_prefix {w : World} {base : Nat} {e : TypeId} {size n n' cap : Nat} {a : Option Addr} {xs ys : List Value} (h : w.ownsRow base e size (.slice a (n + n') cap) (n + n') (xs ++ ys)) (hx : xs.length = n * size) (hn : 0 < n') : w.ownsRow base e size (.slice a n cap) n xs := by
  refine ⟨hx, ?_⟩
  rcases h.2 with ⟨e1, e2⟩ | ⟨g, cap', cur, e1, h1, h2, h3, h4, h5, h6⟩
  · omega
  · simp at e1
    obtain ⟨rfl, rfl⟩ := e1
    refine .inr ⟨g, cap, cur, rfl, h1, h2, by omega, h4, h5, ?_⟩
    have := congrArg (List.take (n * size)) h6
    rw [List.take_take, List.take_append_of_le_length (by omega), List.take_of_length_le (l := xs) (by omega)] at this
    rw [← this]
    congr 1
    have : n * size ≤ (n + n') * size := Nat.mul_le_mul_right _ (by omega)
    omega
theorem row_cap {w : World} {base : Nat} {e : TypeId} {size n m cap : Nat} {a : Option Addr} {xs : List Value} (h : w.ownsRow base e size (.slice a m cap) n xs) : n ≤ cap := by
  rcases h.2 with ⟨e1, e2⟩ | ⟨g, cap', cur, e1, h1, h2, h3, _⟩
  · omega
  · simp at e1
    omega
theorem blk_at {W : World} {b : Nat} {o o' : Obj} (hb : b < W.heap.size) (h : W.heap[b]? = some o) : (W.alloc o').heap[b]? = some o := by
  rw [((Below.refl W.heap.size W).alloc (Nat.le_refl _) o').block b hb]; exact h
theorem cell_noMap {w : World} {b M : Nat} {i : Nat} {u : Value} {es : Array MapEntry} {k : Nat} (h : w.cell? ⟨b, i, none⟩ = some u) (hm : w.heap[M]? = some (.map es k)) : b ≠ M := fun e => by
  subst e
  simp [World.cell?, hm] at h
theorem cell_grown {w w' : World} {row : Option Nat} {b i : Nat} {u : Value} (h : w.cell? ⟨b, i, none⟩ = some u) (hg : w.grownBy w' row) (hn : some b ≠ row) : w'.cell? ⟨b, i, none⟩ = some u := by
  rw [World.cell?_of_block (hg.block b (cell_lt h) hn)]; exact h
theorem two_cells (a b : Option Addr) (n m c d : Nat) : ∀ u ∈ [Value.slice a n c, Value.slice b m d], u.oneCell' = true := by
  intro u hu
  simp at hu
  rcases hu with rfl | rfl <;> rfl
theorem last_of {α : Type} : ∀ (l : List α), l ≠ [] → ∃ l' e, l = l' ++ [e]
  | [], h => absurd rfl h
  | [a], _ => ⟨[], a, rfl⟩
  | a :: b :: r, _ => by
    obtain ⟨l', e, h⟩ := last_of (b :: r) (by simp)
    exact ⟨a :: l', e, by rw [h]; rfl⟩
/-- What the loops keep. -/
def RelO (V w : World) (M : Nat) (r : PairL) (n : Nat) (x : Value) (wr : World) : Prop :=
  ∃ (es : List Ent) (ms : List PairL), Lg.Gh KT r ms (es.map Ent.p) ∧ Lg.wt KT (es.map Ent.p) = n ∧ n ≤ 3000000 ∧ (∀ e, e ∈ es → e.ok V) ∧ wr.ownsRow V.heap.size 202 2 x es.length (entV es) ∧ WInv V w M ms wr
structure RelI (V w : World) (M : Nat) (r : PairL) (e : Ent) (n b i j rest : Nat) (x : Value) (wr : World) (es : List Ent) (ms : List PairL) : Prop where
  gi : Lg.Gi KT r ms (es.map Ent.p) e.p i j
  wt : Lg.wt KT (es.map Ent.p) + rest < n
  ok : ∀ e, e ∈ es → e.ok V
  row : wr.ownsRow V.heap.size 202 2 x es.length (entV es)
  inv : WInv V w M ms wr
  c0 : wr.cell? ⟨b, 0, none⟩ = some e.va
  c1 : wr.cell? ⟨b, 1, none⟩ = some e.vb
  nb : x.ownBlock ≠ some b
theorem start (w V : World) (p : PairL) (va vb : Value) (hz : Lg.wt KT [p] ≤ 3000000) (ha : ListF w va p.1) (hb : ListF w vb p.2) (hs : small p.1) (hV : V = w.alloc (.map #[] 0)) :
    Ctx V w w.heap.size ∧ V.heap.size = w.heap.size + 1 ∧ ∃ m, RelO V w w.heap.size p m (.slice (some ⟨w.heap.size + 1, 0, none⟩) 1 1) (V.alloc (.cells #[va, vb] 202)) := by
  have hn : V.heap.size = w.heap.size + 1 := by rw [hV]; simp
  have bV : Below w.heap.size w V := by rw [hV]; exact (Below.refl _ _).alloc (Nat.le_refl _) _
  have m1 : V.heap[w.heap.size]? = some (.map #[] 0) := by rw [hV]; exact heap_alloc_new _ _
  have cx : Ctx V w w.heap.size := ⟨⟨_, _, m1⟩, Nat.le_refl _, by omega⟩
  refine ⟨cx, hn, _, [⟨va, vb, p⟩], [], Lg.Gh.start _, rfl, hz, ?_, ?_, ?_⟩
  · intro e he
    simp at he
    subst he
    exact ⟨ha.keep (keepF_below bV), hb.keep (keepF_below bV), hs⟩
  · obtain ⟨_, aa, ac, e1, _⟩ := ha
    obtain ⟨_, ba, bc, e2, _⟩ := hb
    have := World.ownsRow_lit (base := V.heap.size) (size := 2) (e := 202) V #[va, vb] 1 (Nat.le_refl _) (by decide) rfl
    rw [hn] at this
    rw [hn]
    exact this
  · exact WInv.alloc cx ⟨fun _ _ _ _ h => h, bV, ⟨#[], 0, m1, fun x hx => by simp at hx, fun k v h => by simp [lookK] at h⟩, Nat.le_refl _⟩ _
end Go.Proofs.YtibkmcfinkadhaaGreatDoor.SpT
/- The program's holding of lists of terms against each other, walked. Conditions: both lists lie in rows that are not frozen; there is no more to do than 3 millions. -/
namespace Go.Proofs.YtibkmcfinkadhaaGreatDoor.SpT
open Go.RowKit Own Trm Km
theorem below_al {W wx : World} (h : Below W.heap.size W wx) (o : Obj) : Below W.heap.size W (wx.alloc o) := h.alloc h.size _
theorem kid_two {p : PairL} {i j : Nat} (h1 : i < p.1.length) (h2 : i < p.2.length) (h3 : j < (KT.wi p.1[i]).length) (h4 : j < (KT.wi p.2[i]).length) : Lg.kid KT p i j = ((KT.wi p.1[i])[j], (KT.wi p.2[i])[j]) := Lg.kid_eq h1 h2 h3 h4
/-- Four cells that may be written. -/
structure Four (w : World) (b : Nat) : Prop where
  out : w.cell? ⟨b, 0, none⟩ = some (.pointer none) ∧ w.cell? ⟨b, 1, none⟩ = some (.int .i64 0) ∧ w.cell? ⟨b, 2, none⟩ = some (.pointer none) ∧ w.cell? ⟨b, 3, none⟩ = some (.int .i64 0) ∧ w.frozen? ⟨b, 0, none⟩ = false ∧ w.frozen? ⟨b, 1, none⟩ = false ∧ w.frozen? ⟨b, 2, none⟩ = false ∧ w.frozen? ⟨b, 3, none⟩ = false
theorem Four.new (w : World) : Four (w.alloc (.cells #[.pointer none, .int .i64 0, .pointer none, .int .i64 0] 208)) w.heap.size := ⟨by refine ⟨?_, ?_, ?_, ?_, ?_, ?_, ?_, ?_⟩ <;> simp [go_sem]⟩
theorem Four.newd (w : World) : Four (w.alloc (.cells #[.pointer none, .int .i64 0, .pointer none, .int .i64 0] 208)).drew w.heap.size := ⟨(Four.new w).out⟩
theorem below_set4 {W w0 wx : World} (h : Below W.heap.size W wx) (h0 : Below W.heap.size W w0) (a b c d : Value) : Below W.heap.size W ((((wx.setCell ⟨w0.heap.size, 0, none⟩ a).setCell ⟨w0.heap.size, 1, none⟩ b).setCell ⟨w0.heap.size, 2, none⟩ c).setCell ⟨w0.heap.size, 3, none⟩ d) :=
  (((h.setCell h0.size _).setCell h0.size _).setCell h0.size _).setCell h0.size _
theorem set4_cells {w : World} {B : Nat} (h : Four w B) (a b c d : Value) : ((((w.setCell ⟨B, 0, none⟩ a).setCell ⟨B, 1, none⟩ b).setCell ⟨B, 2, none⟩ c).setCell ⟨B, 3, none⟩ d).cell? ⟨B, 0, none⟩ = some a ∧ ((((w.setCell ⟨B, 0, none⟩ a).setCell ⟨B, 1, none⟩ b).setCell ⟨B, 2, none⟩ c).setCell ⟨B, 3, none⟩ d).cell? ⟨B, 1, none⟩ = some b ∧ ((((w.setCell ⟨B, 0, none⟩ a).setCell ⟨B, 1, none⟩ b).setCell ⟨B, 2, none⟩ c).setCell ⟨B, 3, none⟩ d).cell? ⟨B, 2, none⟩ = some c ∧ ((((w.setCell ⟨B, 0, none⟩ a).setCell ⟨B, 1, none⟩ b).setCell ⟨B, 2, none⟩ c).setCell ⟨B, 3, none⟩ d).cell? ⟨B, 3, none⟩ = some d := by
  obtain ⟨q0, q1, q2, q3, _⟩ := h.out
  refine ⟨?_, ?_, ?_, ?_⟩ <;> simp [go_sem, q0, q1, q2, q3]
theorem al4_cells (w : World) (a b c d : Value) : (w.alloc (.cells #[a, b, c, d] 208)).cell? ⟨w.heap.size, 0, none⟩ = some a ∧ (w.alloc (.cells #[a, b, c, d] 208)).cell? ⟨w.heap.size, 1, none⟩ = some b ∧ (w.alloc (.cells #[a, b, c, d] 208)).cell? ⟨w.heap.size, 2, none⟩ = some c ∧ (w.alloc (.cells #[a, b, c, d] 208)).cell? ⟨w.heap.size, 3, none⟩ = some d := by
  refine ⟨?_, ?_, ?_, ?_⟩ <;> simp [go_sem]
theorem Four.keep {w w' : World} {b : Nat} (h : Four w b) (hb : Below w.heap.size w w') : Four w' b := by
  obtain ⟨q0, q1, q2, q3, z0, z1, z2, z3⟩ := h.out
  have hl := cell_lt q0
  have k := keeps_below hb
  exact ⟨k _ _ q0, k _ _ q1, k _ _ q2, k _ _ q3, (hb.frozen (p := ⟨b, 0, none⟩) hl).trans z0, (hb.frozen (p := ⟨b, 1, none⟩) hl).trans z1, (hb.frozen (p := ⟨b, 2, none⟩) hl).trans z2, (hb.frozen (p := ⟨b, 3, none⟩) hl).trans z3⟩
theorem ret_yes {r : PairL} (h : Lg.DeepP KT r) : ∃ c, Ending.returned (.bool true) = .returned (.bool c) ∧ (c = true ↔ Lg.DeepP KT r) := ⟨true, rfl, ⟨fun _ => h, fun _ => rfl⟩⟩
theorem ret_no {r : PairL} (h : ¬ Lg.DeepP KT r) : ∃ c, Ending.returned (.bool false) = .returned (.bool c) ∧ (c = true ↔ Lg.DeepP KT r) := ⟨false, rfl, ⟨fun h2 => absurd h2 (by simp), fun h2 => absurd h2 h⟩⟩
theorem own_not {w : World} {base : Nat} {e : TypeId} {size n : Nat} {v : Value} {xs : List Value} (h : w.ownsRow base e size v n xs) : v.ownBlock ≠ some w.heap.size := fun e => by have := (h.lt _ e).2; omega
set_option maxRecDepth 20000 in
set_option maxHeartbeats 3200000 in
theorem implLists_any (p : PairL) (va vb : Value) (w : World) (hz : Lg.wt KT [p] ≤ 3000000) (ha : ListF w va p.1) (hb : ListF w vb p.2) (hs : small p.1) :
    Calls Tryz.prog 116 #[va, vb, .func (.func 117) #[] #[], .func (.func 118) #[] #[]] w fun e w' => (∃ c, e = .returned (.bool c) ∧ (c = true ↔ Lg.DeepP KT p)) ∧ Below w.heap.size w w' := by
  obtain ⟨i0, hi, hz0, hz1, hz2⟩ := info_parts infoPair
  obtain ⟨V, hV⟩ : ∃ V, V = w.alloc (.map #[] 0) := ⟨_, rfl⟩
  obtain ⟨cx, hVs, m0, hst⟩ := start w V p va vb hz ha hb hs hV
  have CX := Lib.hid cx
  have HV := Lib.hid hV
  have HVs := Lib.hid hVs
  have HST := Lib.hid hst
  obtain ⟨_, aa, ac, rfl, _⟩ := ha
  obtain ⟨_, ba, bc, rfl, _⟩ := hb
  have hmm := @run_makeMap Tryz.prog
  clear hz hs hV hVs hst cx
  go_enter Tryz.func116, Tryz.ntmps116
  go_wp2
  go_loopw [10] (fun x wr => ∃ n, RelO V w w.heap.size p n x wr) (fun x wr => Lg.leastN fun n => RelO V w w.heap.size p n x wr)
  case atStart => rw [← HV.out]; exact ⟨m0, HST.out⟩
  case round =>
    have hR := Lg.leastN_at hrel
    obtain ⟨n0, hn0⟩ : ∃ n0, n0 = Lg.leastN fun n => RelO V w w.heap.size p n u10 wr := ⟨_, rfl⟩
    rw [← hn0] at hR
    have HN0 := Lib.hid hn0
    obtain ⟨es, ms, hgh, hwt, hnb, hok, hrow, hwi⟩ := hR
    have HNBD := Lib.hid hnb
    obtain ⟨oa, oc, rfl, hoa⟩ := row_shape hrow
    by_cases hes : es = []
    · subst hes
      have HQ : Hid (Lg.DeepP KT p) := hgh.yes KT_ok
      have HB := Lib.hid hwi.below
      clear hrel hn0 hgh hwt hnb hok hrow hwi hoa
      simp only [List.length_nil]
      go_wp2
      go_ret
      exact ⟨ret_yes HQ.out, HB.out⟩
    · obtain ⟨es, ⟨va, vb, ts, us⟩, rfl⟩ := last_of es hes
      obtain ⟨g, rfl⟩ := hoa (by simp)
      have hw2 := Lg.wt_snoc (K := KT) (es.map Ent.p) (ts, us)
      have hK : es.length ≤ 3000000 := by
        have := Lg.wt_len (K := KT) (es.map Ent.p)
        simp at hw2 hwt this
        omega
      rw [List.length_append, List.length_singleton, entV_snoc] at hrow
      have hcap : es.length ≤ oc := by have := row_cap hrow; omega
      have c0 : wr.cell? ⟨g, es.length * 2, none⟩ = some va := by
        rw [hrow.cellAt (es.length * 2) (by omega)]; simp [entV_len]
      have c1 : wr.cell? ⟨g, es.length * 2 + 1, none⟩ = some vb := by
        rw [hrow.cellAt (es.length * 2 + 1) (by omega), List.getElem?_append_right (by rw [entV_len]; omega), entV_len]; simp
      have okE : Ent.ok V ⟨va, vb, ts, us⟩ := hok _ (by simp)
      have HOE := Lib.hid okE
      obtain ⟨va1, vaa, vac, rfl, vaf⟩ : ListF V va ts := okE.a
      obtain ⟨vb1, vba, vbc, rfl, vbf⟩ : ListF V vb us := okE.b
      have HFA := Lib.hid vaf
      have HFB := Lib.hid vbf
      have hpre := row_prefix (n := es.length) (n' := 1) (xs := entV es) hrow (entV_len es) (by omega)
      have HPRE := Lib.hid hpre
      have hok' : Hid (∀ e, e ∈ es → e.ok V) := fun e he => hok e (by simp [he])
      have HWI := Lib.hid hwi
      have HGH : Hid (Lg.Gh KT p ms (es.map Ent.p ++ [(ts, us)])) := by show Lg.Gh _ _ _ _; simpa using hgh
      have HWT : Hid (n0 = Lg.wt KT (es.map Ent.p) + (1 + Lg.ndL KT ts)) := by show _ = _; rw [← hwt, List.map_append]; exact hw2
      clear hrel hn0 hgh hwt hnb hok hrow hwi hoa hw2 hes vaf vbf hpre okE
      simp only [List.length_append, List.length_singleton]
      clear hmm
      have HI := Lib.hid hi
      have HZ0 := Lib.hid hz0
      have HZ1 := Lib.hid hz1
      have HZ2 := Lib.hid hz2
      clear hi hz0 hz1 hz2
      obtain ⟨K, hKe⟩ : ∃ K, K = es.length := ⟨_, rfl⟩
      have HK := Lib.hid hKe
      rw [← hKe] at hK c0 c1 hcap ⊢
      clear hKe
      -- the lists, laid anew
      obtain ⟨W1, hW1⟩ : ∃ W1, W1 = wr.alloc (.cells #[.slice vaa ts.length vac, .slice vba us.length vbc] 202) := ⟨_, rfl⟩
      have I1 : Hid (WInv V w w.heap.size ms W1) := by show WInv _ _ _ _ _; rw [hW1]; exact HWI.out.alloc CX.out _
      have R1 : Hid (W1.ownsRow V.heap.size 202 2 (.slice (some ⟨g, 0, none⟩) K oc) K (entV es)) := by show World.ownsRow _ _ _ _ _ _ _; rw [hW1, HK.out]; exact HPRE.out.alloc _
      have b0 : W1.cell? ⟨wr.heap.size, 0, none⟩ = some (.slice vaa ts.length vac) := by rw [hW1]; simp [go_sem]
      have b1 : W1.cell? ⟨wr.heap.size, 1, none⟩ = some (.slice vba us.length vbc) := by rw [hW1]; simp [go_sem]
      have NB : Hid ((Value.slice (some ⟨g, 0, none⟩) K oc).ownBlock ≠ some wr.heap.size) := by
        show _ ≠ _
        rw [HK.out]
        exact own_not HPRE.out
      have HW1 := Lib.hid hW1
      obtain ⟨B, hB⟩ : ∃ B, B = wr.heap.size := ⟨_, rfl⟩
      have HB := Lib.hid hB
      rw [← hB] at b0 b1 NB
      have BB := Lib.hid (And.intro b0 b1)
      have CA := Lib.hid (fun w2 => implSpot_any vaa ts.length vac va1 (fun h => by obtain ⟨g, o, e, _⟩ := HFA.out h; exact ⟨g, o, e⟩) w2)
      have CB := Lib.hid (fun w2 => implSpot_any vba us.length vbc vb1 (fun h => by obtain ⟨g, o, e, _⟩ := HFB.out h; exact ⟨g, o, e⟩) w2)
      clear hW1 hB b0 b1
      go_wp2_with fail
      rw [← HW1.out, ← HB.out]
      go_cut [12] (fun s12 wx => ∃ b, s12 = .pointer (some ⟨b, 0, none⟩) ∧ (wx.cell? ⟨b, 0, none⟩ = some (.pointer (spotA (.slice vaa ts.length vac))) ∧ wx.cell? ⟨b, 1, none⟩ = some (.int .i64 (ts.length : Int)) ∧ wx.cell? ⟨b, 2, none⟩ = some (.pointer (spotA (.slice vba us.length vbc))) ∧ wx.cell? ⟨b, 3, none⟩ = some (.int .i64 (us.length : Int))) ∧ Below W1.heap.size W1 wx)
      case first =>
        have hb0 : Below W1.heap.size W1 W1.drew := (Below.refl _ _).drew
        have KS : Hid (∀ wx, Below W1.heap.size W1 wx → wx.cell? ⟨B, 0, none⟩ = some (.slice vaa ts.length vac) ∧ wx.cell? ⟨B, 1, none⟩ = some (.slice vba us.length vbc) ∧ Below W1.heap.size W1 wx) := fun wx hb => ⟨keeps_below hb _ _ BB.out.1, keeps_below hb _ _ BB.out.2, hb⟩
        have CA2 : Hid (∀ wx, Below W1.heap.size W1 wx → Calls Tryz.prog 119 #[.slice vaa ts.length vac] wx fun e w' => e = .returned (.agg #[.pointer (spotA (.slice vaa ts.length vac)), .int .i64 (ts.length : Int)]) ∧ Below W1.heap.size W1 w') := fun wx hb => (CA.out wx).mono fun e w' ⟨he, h⟩ => ⟨he, hb.trans (h.mono hb.size)⟩
        have CB2 : Hid (∀ wx, Below W1.heap.size W1 wx → Calls Tryz.prog 119 #[.slice vba us.length vbc] wx fun e w' => e = .returned (.agg #[.pointer (spotA (.slice vba us.length vbc)), .int .i64 (us.length : Int)]) ∧ Below W1.heap.size W1 w') := fun wx hb => (CB.out wx).mono fun e w' ⟨he, h⟩ => ⟨he, hb.trans (h.mono hb.size)⟩
        have CA5 : Hid (∀ wx b, Below W1.heap.size W1 wx → Four wx b → Calls Tryz.prog 119 #[.slice vaa ts.length vac] wx fun e w' => e = .returned (.agg #[.pointer (spotA (.slice vaa ts.length vac)), .int .i64 (ts.length : Int)]) ∧ Below W1.heap.size W1 w' ∧ Four w' b) := fun wx b hb hf => (CA.out _).mono fun e w' ⟨he, h⟩ => ⟨he, hb.trans (h.mono hb.size), hf.keep h⟩
        have CB5 : Hid (∀ wx b, Below W1.heap.size W1 wx → Four wx b → Calls Tryz.prog 119 #[.slice vba us.length vbc] wx fun e w' => e = .returned (.agg #[.pointer (spotA (.slice vba us.length vbc)), .int .i64 (us.length : Int)]) ∧ Below W1.heap.size W1 w' ∧ Four w' b) := fun wx b hb hf => (CB.out _).mono fun e w' ⟨he, h⟩ => ⟨he, hb.trans (h.mono hb.size), hf.keep h⟩
        go_region_held3 (fun wx => wx.cell? ⟨B, 0, none⟩ = some (.slice vaa ts.length vac) ∧ wx.cell? ⟨B, 1, none⟩ = some (.slice vba us.length vbc) ∧ Below W1.heap.size W1 wx)
          (exact KS.out _ (by first | assumption | exact (below_al (Below.refl _ _) _).drew | (refine below_al ?_ _; assumption) | (refine below_set4 ?_ ?_ _ _ _ _ <;> first | assumption | exact Below.refl _ _)))
          (first
          | (go_at_call 119; (with_reducible refine (CA5.out _ _ (by first | assumption | exact (below_al (Below.refl _ _) _).drew | (refine below_al ?_ _; assumption)) (by first | assumption | exact Four.newd _ | exact Four.new _)).mono ?_); rintro e w1 ⟨rfl, h1, f1⟩)
          | (go_at_call 119; (with_reducible refine (CA2.out _ (by assumption)).mono ?_); rintro e w1 ⟨rfl, h1⟩)
          | (go_at_call 119; (with_reducible refine (CB5.out _ _ (by first | assumption | exact (below_al (Below.refl _ _) _).drew | (refine below_al ?_ _; assumption)) (by first | assumption | exact Four.newd _ | exact Four.new _)).mono ?_); rintro e w2 ⟨rfl, h2, f2⟩; obtain ⟨q0, q1, q2, q3, z0, z1, z2, z3⟩ := f2.out)
          | (go_at_call 119; (with_reducible refine (CB2.out _ (by assumption)).mono ?_); rintro e w2 ⟨rfl, h2⟩))
        all_goals
          go_wp2_with fail
          go_meet
          first
          | exact ⟨_, rfl, set4_cells f2 _ _ _ _, below_set4 h2 (by first | assumption | exact Below.refl _ _) _ _ _ _⟩
          | exact ⟨_, rfl, al4_cells _ _ _ _ _, below_al h2 _⟩
      case rest =>
        obtain ⟨b, rfl, ⟨s0, s1, s2, s3⟩, hbe⟩ := hcut
        have I2 := Lib.hid (I1.out.belowW CX.out hbe)
        have R2 := Lib.hid (row_below R1.out hbe)
        have X2 : Hid (wc.cell? ⟨B, 0, none⟩ = some (.slice vaa ts.length vac) ∧ wc.cell? ⟨B, 1, none⟩ = some (.slice vba us.length vbc)) := ⟨keeps_below hbe _ _ BB.out.1, keeps_below hbe _ _ BB.out.2⟩
        obtain ⟨me, mk, hm1, hm2, hm3⟩ := I2.out.map
        have HM1 := Lib.hid hm1
        have HM2 := Lib.hid hm2
        have HM3 := Lib.hid hm3
        have hpk : PrOk wc (prV (spotA (.slice vaa ts.length vac)) (spotA (.slice vba us.length vbc)) ts.length us.length) := PrOk.keep I2.out.keep (key_ok HOE.out.a HOE.out.b)
        have hmk : MetK PrOk wc me.toList := fun x hx => PrOk.keep I2.out.keep (hm2 x hx)
        have hrun := (run_look pair_key Tryz.underlying201 (z := .bool false) (fun w => by kernel_rfl) hm1 hmk hpk).1
        clear hm1 hm2 hm3 hbe
        cases hlk : lookK me.toList (prV (spotA (.slice vaa ts.length vac)) (spotA (.slice vba us.length vbc)) ts.length us.length) with
        | some v =>
          obtain ⟨rfl, hkey⟩ := HM3.out _ _ hlk
          have HQ := Lib.hid (HGH.out.skip (key_met (p := (ts, us)) hkey HOE.out.a HOE.out.b))
          rw [hlk] at hrun
          simp only [Option.getD_some] at hrun
          unfold prV at hrun
          clear hlk hkey hmk hpk
          go_wp2
          go_roundw
          case rel => exact ⟨_, es, ms, HQ.out, rfl, by have := HWT.out; have := HNBD.out; omega, hok'.out, by have := R2.out; rw [HK.out] at this; rw [HK.out]; exact this, I2.out⟩
          case measure =>
            have h1 := HN0.out
            have h2 := HWT.out
            simp only [List.length_append, List.length_singleton, ← HK.out] at h1
            refine Nat.lt_of_le_of_lt (Lg.leastN_le ⟨es, ms, HQ.out, rfl, by have := HNBD.out; omega, hok'.out, by have := R2.out; rw [HK.out] at this; rw [HK.out]; exact this, I2.out⟩) (by rw [← h1]; omega)
        | none =>
          rw [hlk] at hrun
          simp only [Option.getD_none] at hrun
          obtain ⟨w5, es5, ck5, hrun5, m5, l5, k5, g5⟩ := run_put pair_key Tryz.underlying201 (.bool true) HM1.out hmk hpk
          unfold prV at hrun hrun5
          have I5 : Hid (WInv V w w.heap.size ((ts, us) :: ms) w5) := WInv.meet (p := (ts, us)) CX.out I2.out g5 HM2.out HM3.out HOE.out.a HOE.out.b m5 l5 k5
          have R5 : Hid (w5.ownsRow V.heap.size 202 2 (.slice (some ⟨g, 0, none⟩) K oc) K (entV es)) := row_same R2.out fun b hb => g5.block b (R2.out.lt b hb).2 (fun e => by cases e; have := (R2.out.lt _ hb).1; have := CX.out.lt; omega)
          obtain ⟨x0, x1⟩ : w5.cell? ⟨B, 0, none⟩ = some (.slice vaa ts.length vac) ∧ w5.cell? ⟨B, 1, none⟩ = some (.slice vba us.length vbc) :=
            ⟨cell_grown X2.out.1 g5 (fun e => cell_noMap X2.out.1 HM1.out (by cases e; rfl)), cell_grown X2.out.2 g5 (fun e => cell_noMap X2.out.1 HM1.out (by cases e; rfl))⟩
          have X5 := Lib.hid (And.intro x0 x1)
          have CE := Lib.hid (implEqF_any (ts, us) _ _ w5 (HOE.out.a.keep I5.out.keep) (HOE.out.b.keep I5.out.keep))
          clear hlk hmk hpk m5 l5 k5 g5
          cases hq : shP (ts, us) with
          | false =>
            have HQ : Hid (¬ Lg.DeepP KT p) := HGH.out.no KT_ok (fun h => by rw [(shP_iff _).2 h] at hq; cases hq)
            rw [hq] at CE
            clear hq
            go_wp2_with fail
            refine CE.out.mono ?_
            rintro e w6 ⟨rfl, hb⟩
            have I6 := Lib.hid (I5.out.belowW CX.out hb)
            clear hb x0 x1
            go_wp2
            go_ret
            exact ⟨ret_no HQ.out, I6.out.below⟩
          | true =>
            have HGI := Lib.hid (HGH.out.begin ((shP_iff _).1 hq))
            rw [hq] at CE
            clear hq
            go_wp2_with fail
            refine CE.out.mono ?_
            rintro e w6 ⟨rfl, hb⟩
            have I6 := Lib.hid (I5.out.belowW CX.out hb)
            have R6 := Lib.hid (row_below R5.out hb)
            have X6 : Hid (w6.cell? ⟨B, 0, none⟩ = some (.slice vaa ts.length vac) ∧ w6.cell? ⟨B, 1, none⟩ = some (.slice vba us.length vbc)) := ⟨keeps_below hb _ _ X5.out.1, keeps_below hb _ _ X5.out.2⟩
            clear hb x0 x1
            obtain ⟨x0, x1⟩ := X6.out
            go_wp2
            go_loopw [10, 58] (fun x i wy => ∃ (j : Nat) (es : List Ent) (ms : List PairL), j ≤ ts.length ∧ i = .int .i64 j ∧ RelI V w w.heap.size p ⟨.slice vaa ts.length vac, .slice vba us.length vbc, (ts, us)⟩ n0 B j 0 (Lg.ndL KT (ts.drop j)) x wy es ms)
              (fun _ i _ => ts.length - (intOf i).toNat)
            case atStart => exact ⟨0, es, _, Nat.zero_le _, rfl, HGI.out, by have := HWT.out; simp only [List.drop_zero]; omega, hok'.out, by have := R6.out; rw [HK.out] at this; rw [HK.out]; exact this, I6.out, x0, x1, NB.out⟩
            case round =>
              obtain ⟨j, es2, ms2, hj, rfl, hri⟩ := hrel
              have HRI := Lib.hid hri
              have HLEN : Hid (ts.length = us.length) := hri.gi.shal.1
              obtain ⟨y0, y1⟩ : wr.cell? ⟨B, 0, none⟩ = some (.slice vaa ts.length vac) ∧ wr.cell? ⟨B, 1, none⟩ = some (.slice vba us.length vbc) := ⟨hri.c0, hri.c1⟩
              clear x0 x1 hri
              by_cases hlt : j < ts.length
              · have hlt2 : j < us.length := by have := HLEN.out; omega
                obtain ⟨g1, o1, rfl, f1, l1⟩ := HFA.out (by omega)
                obtain ⟨g2, o2, rfl, f2, l2⟩ := HFB.out (by omega)
                obtain ⟨ka, kc, p0, p1, p2, p3, lk⟩ := l1.at j hlt
                obtain ⟨la, lc, q0, q1, q2, q3, lm⟩ := l2.at j hlt2
                rw [← f1.cell HRI.out.inv.keep] at p0 p1 p2 p3
                rw [← f2.cell HRI.out.inv.keep] at q0 q1 q2 q3
                have LA := Lib.hid (lists_in ts[j] lk.kids)
                have LB := Lib.hid (lists_in us[j] lm.kids)
                have CB := Lib.hid (implWithin_any us[j] la lc wr)
                have CA := Lib.hid (implWithin_any ts[j] ka kc)
                have HP := Lib.hid (And.intro p0 (And.intro p1 (And.intro p2 p3)))
                generalize hvs : inVs ts[j] ka kc = vs at LA CA
                generalize hus : inVs us[j] la lc = ws at LB CB
                have HVs2 := Lib.hid hvs
                have HUs2 := Lib.hid hus
                clear l1 l2 f1 f2 lk lm hvs hus
                go_wp2_with fail
                refine CB.out.mono ?_
                rintro e w7 ⟨G2, rfl, hb7, h7, h7b, hc7⟩
                have k7 := keeps_below hb7
                have B7 := Lib.hid hb7
                have N7 := Lib.hid (And.intro h7 h7b)
                have C7 := Lib.hid hc7
                obtain ⟨z0, z1⟩ := And.intro (k7 _ _ y0) (k7 _ _ y1)
                obtain ⟨p0, p1, p2, p3⟩ := HP.out
                replace p0 := k7 _ _ p0
                replace p1 := k7 _ _ p1
                replace p2 := k7 _ _ p2
                replace p3 := k7 _ _ p3
                clear q0 q1 q2 q3
                clear hb7 h7 h7b hc7 y0 y1 k7
                go_wp2_with fail
                refine (CA.out w7).mono ?_
                rintro e w8 ⟨G1, rfl, hb8, h8, h8b, hc8⟩
                have B8 := Lib.hid (B7.out.trans (hb8.mono B7.out.size))
                have C8 := Lib.hid (C7.out.keep (w' := w8) (fun p u _ e => keeps_below hb8 p u e))
                have D8 := Lib.hid hc8
                have N8 : Hid (wr.heap.size ≤ G1 ∧ wr.heap.size ≤ G2) := ⟨Nat.le_trans B7.out.size h8, N7.out.1⟩
                have Z8 : Hid (w8.cell? ⟨B, 0, none⟩ = some (.slice (some ⟨g1, o1, none⟩) ts.length vac) ∧ w8.cell? ⟨B, 1, none⟩ = some (.slice (some ⟨g2, o2, none⟩) us.length vbc)) := ⟨keeps_below hb8 _ _ z0, keeps_below hb8 _ _ z1⟩
                have RI8 : Hid (RelI V w w.heap.size p ⟨.slice (some ⟨g1, o1, none⟩) ts.length vac, .slice (some ⟨g2, o2, none⟩) us.length vbc, (ts, us)⟩ n0 B j 0 (Lg.ndL KT (ts.drop j)) u10 w8 es2 ms2) :=
                  ⟨HRI.out.gi, HRI.out.wt, HRI.out.ok, row_below HRI.out.row B8.out, HRI.out.inv.belowW CX.out B8.out, Z8.out.1, Z8.out.2, HRI.out.nb⟩
                have NX : Hid (u10.ownBlock ≠ some G1 ∧ u10.ownBlock ≠ some G2) := ⟨fun e => by have := (HRI.out.row.lt _ e).2; have := N8.out.1; omega, fun e => by have := (HRI.out.row.lt _ e).2; have := N8.out.2; omega⟩
                clear hb8 h8 h8b hc8 z0 z1
                have HWL := Lib.hid (KT_ok.len ts[j])
                have HWL2 := Lib.hid (KT_ok.len us[j])
                have HND := Lib.hid (Lg.ndL_drop (K := KT) hlt)
                have HNX := Lib.hid (KT_ok.nd ts[j])
                obtain ⟨D, hD⟩ : ∃ D, D = w8.heap.size := ⟨_, rfl⟩
                have HD := Lib.hid hD
                clear hD
                go_wp2
                go_loopw [10, 76] (fun x i wz => ∃ (k : Nat) (es : List Ent) (ms : List PairL), k ≤ 1 ∧ i = .int .i64 k ∧ RelI V w w.heap.size p ⟨.slice (some ⟨g1, o1, none⟩) ts.length vac, .slice (some ⟨g2, o2, none⟩) us.length vbc, (ts, us)⟩ n0 B j k (Lg.wtS KT ((KT.wi ts[j]).drop k) + Lg.ndL KT (ts.drop (j + 1))) x wz es ms ∧ Hid (CellsIn wz G1 vs ∧ CellsIn wz G2 ws) ∧ Hid (x.ownBlock ≠ some G1 ∧ x.ownBlock ≠ some G2))
                  (fun _ i _ => 1 - (intOf i).toNat)
                case atStart => exact ⟨0, es2, ms2, Nat.zero_le _, rfl, ⟨RI8.out.gi, by have h1 := RI8.out.wt; have h2 := HND.out; have h3 := HNX.out; simp only [List.drop_zero]; omega, RI8.out.ok, RI8.out.row, RI8.out.inv, RI8.out.c0, RI8.out.c1, RI8.out.nb⟩, ⟨D8.out, C8.out⟩, NX.out⟩
                case round =>
                  obtain ⟨k, es3, ms3, hk, rfl, hri, hcc, hnx⟩ := hrel
                  have HR3 := Lib.hid hri
                  clear hri
                  by_cases hkl : k < 1
                  · have hk1 : k < vs.length := by rw [LA.out.len]; exact hkl
                    have hk2 : k < ws.length := by rw [LB.out.len]; exact hkl
                    have hw1 : k < (KT.wi ts[j]).length := by rw [HWL.out]; exact hkl
                    have hw2 : k < (KT.wi us[j]).length := by rw [HWL2.out]; exact hkl
                    have la := LA.out.at' k hk1 hw1
                    have lb := LB.out.at' k hk2 hw2
                    have m1 := hcc.out.1 k hk1
                    have m2 := hcc.out.2 k hk2
                    have hkd := Lib.hid (kid_two (p := (ts, us)) hlt hlt2 hw1 hw2)
                    have hwd := Lib.hid (Lg.wtS_drop (K := KT) hw1)
                    have hmem := Lib.hid (List.getElem_mem hw1)
                    generalize (KT.wi ts[j])[k] = ta at la hkd hwd hmem
                    generalize (KT.wi us[j])[k] = tb at lb hkd
                    generalize vs[k] = v1 at la m1
                    generalize ws[k] = v2 at lb m2
                    have LKA := Lib.hid la
                    have LKB := Lib.hid lb
                    obtain ⟨_, ra, rc, rfl, _⟩ := la
                    obtain ⟨_, qa, qc, rfl, _⟩ := lb
                    have R5 := Lib.hid HR3.out.row
                    have I5 := Lib.hid HR3.out.inv
                    have hle : es3.length ≤ 3000000 := by
                      have h1 := Lg.wt_len (K := KT) (es3.map Ent.p)
                      rw [List.length_map] at h1
                      have := HR3.out.wt
                      have := HNBD.out
                      omega
                    have hVs5 : V.heap.size ≤ wr.heap.size := I5.out.size
                    have hkI : (k : Int) < 1 := by omega
                    clear hk1 hk2 hw1 hw2 hj
                    go_wp2_with (at_builtin; refine wpList_append_lies _ rfl (.tmp 81) (.tmp 88) 203 rfl V.heap.size 202 i0 (.agg #[.slice none 0 0, .slice none 0 0]) 2 48 Tryz.underlying203 HI.out HZ0.out HZ1.out HZ2.out rfl (by decide) u10 es3.length _ rfl (R5.out.alloc _) ⟨wr.heap.size, 0, none⟩ 1 1 [.slice ra ta.length rc, .slice qa tb.length qc] rfl rfl (World.news_of_block (heap_alloc_new _ _)) (two_cells _ _ _ _ _ _) (by decide) (by unfold maxLen; omega) (by omega) (by simp; omega) _ rfl ?_)
                    intro g6 cap6 w6 hown6 hg6 hat6 hlt6
                    have I6 := Lib.hid ((I5.out.alloc CX.out _).grown CX.out hg6 (fun b hb => (R5.out.lt b hb).1))
                    have hG1 : G1 < wr.heap.size := cell_lt m1
                    have hG2 : G2 < wr.heap.size := cell_lt m2
                    have hB5 : B < wr.heap.size := cell_lt HR3.out.c0
                    have kg : ∀ X, X < wr.heap.size → u10.ownBlock ≠ some X → ∀ (i : Nat) (u : Value), wr.cell? ⟨X, i, none⟩ = some u → w6.cell? ⟨X, i, none⟩ = some u := fun X _ hn i u h => cell_grown (keeps_alloc _ _ _ _ h) hg6 (fun e => hn e.symm)
                    have CC6 : Hid (CellsIn w6 G1 vs ∧ CellsIn w6 G2 ws) := ⟨fun i h => kg G1 hG1 hnx.out.1 i _ (hcc.out.1 i h), fun i h => kg G2 hG2 hnx.out.2 i _ (hcc.out.2 i h)⟩
                    have hn6 : ∀ X, X < wr.heap.size → u10.ownBlock ≠ some X → (Value.slice (some ⟨g6, 0, none⟩) (es3.length + 1) cap6).ownBlock ≠ some X := fun X hX hn e => by
                      have e2 : g6 = X := by simpa [Value.ownBlock] using e
                      rcases hat6 with h | h
                      · exact hn (by rw [h, e2])
                      · (try simp at h); omega
                    have NX6 : Hid ((Value.slice (some ⟨g6, 0, none⟩) (es3.length + 1) cap6).ownBlock ≠ some G1 ∧ (Value.slice (some ⟨g6, 0, none⟩) (es3.length + 1) cap6).ownBlock ≠ some G2) := ⟨hn6 G1 hG1 hnx.out.1, hn6 G2 hG2 hnx.out.2⟩
                    have RI6 : Hid (RelI V w w.heap.size p ⟨.slice (some ⟨g1, o1, none⟩) ts.length vac, .slice (some ⟨g2, o2, none⟩) us.length vbc, (ts, us)⟩ n0 B j (k + 1) (Lg.wtS KT ((KT.wi ts[j]).drop (k + 1)) + Lg.ndL KT (ts.drop (j + 1))) (.slice (some ⟨g6, 0, none⟩) (es3.length + 1) cap6) w6 (es3 ++ [(⟨.slice ra ta.length rc, .slice qa tb.length qc, (ta, tb)⟩ : Ent)]) ms3) := by
                      refine ⟨?_, ?_, ?_, ?_, I6.out, kg B hB5 HR3.out.nb 0 _ HR3.out.c0, kg B hB5 HR3.out.nb 1 _ HR3.out.c1, hn6 B hB5 HR3.out.nb⟩
                      · have h1 := HR3.out.gi.push KT_ok hlt (show k < KT.many from hkl)
                        have h2 := hkd.out
                        try simp only at h1 h2
                        rw [h2] at h1
                        rw [List.map_append]
                        exact h1
                      · have h1 := HR3.out.wt
                        have h2 := hwd.out
                        rw [List.map_append]
                        show Lg.wt _ (_ ++ [(ta, tb)]) + _ < _
                        rw [Lg.wt_snoc]
                        try simp only
                        omega
                      · intro e he
                        rcases List.mem_append.1 he with h | h
                        · exact HR3.out.ok e h
                        · simp at h
                          subst h
                          exact ⟨LKA.out, LKB.out, small_kid HOE.out.s (List.getElem_mem hlt) hmem.out⟩
                      · rw [entV_snoc, List.length_append]
                        exact hown6
                    clear hown6 hg6 hat6 hlt6 kg hn6 m1 m2
                    go_wp2
                    go_roundw
                    case rel => exact ⟨k + 1, _, ms3, by omega, by go_num, RI6.out, CC6, NX6⟩
                    case measure => simp [intOf]; omega
                  · have HQ : Hid (RelI V w w.heap.size p ⟨.slice (some ⟨g1, o1, none⟩) ts.length vac, .slice (some ⟨g2, o2, none⟩) us.length vbc, (ts, us)⟩ n0 B (j + 1) 0 (Lg.ndL KT (ts.drop (j + 1))) u10 wr es3 ms3) :=
                      ⟨HR3.out.gi.next (by show 1 ≤ k; omega), by have h1 := HR3.out.wt; have h2 : Lg.wtS KT ((KT.wi ts[j]).drop k) = 0 := Lg.wtS_end (by rw [HWL.out]; show 1 ≤ k; omega); omega, HR3.out.ok, HR3.out.row, HR3.out.inv, HR3.out.c0, HR3.out.c1, HR3.out.nb⟩
                    go_wp2
                    go_roundw
                    case rel => exact ⟨j + 1, es3, ms3, by omega, by go_num, HQ.out⟩
                    case measure => simp [intOf]; omega
              · have HQ := Lib.hid (HRI.out.gi.done (by show ts.length ≤ j; omega))
                have HW7 : Hid (Lg.wt KT (es2.map Ent.p) < n0) := by have := HRI.out.wt; show _ < _; omega
                go_wp2
                go_roundw
                case rel => exact ⟨_, es2, ms2, HQ.out, rfl, by have := HW7.out; have := HNBD.out; omega, HRI.out.ok, HRI.out.row, HRI.out.inv⟩
                case measure =>
                  have h1 := HW7.out
                  rw [HN0.out] at h1
                  simp only [List.length_append, List.length_singleton, ← HK.out] at h1
                  refine Nat.lt_of_le_of_lt (Lg.leastN_le ⟨es2, ms2, HQ.out, rfl, by have := HW7.out; have := HNBD.out; omega, HRI.out.ok, HRI.out.row, HRI.out.inv⟩) h1
end Go.Proofs.YtibkmcfinkadhaaGreatDoor.SpT
/- The program's SameTerm, walked. Conditions: both terms lie in rows that are not frozen; the first has at most 2 to the 20 kids and bytes. -/
namespace Go.Proofs.YtibkmcfinkadhaaGreatDoor.Trm
open Go.RowKit Own
/-- A list of one term, laid anew. -/
theorem one_list {V : World} {g : Nat} {k n : Int} {s : ByteArray} {ks : List Tree} {a : Option Addr} {c : Nat} {T : TypeId} (hb : V.heap[g]? = some (.cells #[.int .i64 k, .int .i64 n, .string s, .slice a ks.length c] T (0, 0))) (hl : LiesF V (.node k n s ks) (.agg #[.int .i64 k, .int .i64 n, .string s, .slice a ks.length c])) : ListF V (.slice (some ⟨g, 0, none⟩) 1 1) [.node k n s ks] := by
  refine ⟨by simp, some ⟨g, 0, none⟩, 1, rfl, fun _ => ⟨g, 0, rfl, ⟨_, _, hb⟩, ⟨a, c, ?_, ?_, ?_, ?_, hl⟩, trivial⟩⟩ <;> simp [World.cell?, hb, Tree.kind, Tree.num, Tree.name, Tree.kids]
theorem two_lists {w V : World} {k n k' n' : Int} {s s' : ByteArray} {ks ks' : List Tree} {aa ba : Option Addr} {ac bc : Nat} (h1 : LiesF w (.node k n s ks) (.agg #[.int .i64 k, .int .i64 n, .string s, .slice aa ks.length ac])) (h2 : LiesF w (.node k' n' s' ks') (.agg #[.int .i64 k', .int .i64 n', .string s', .slice ba ks'.length bc]))
    (hV : V = (((w.alloc (.cells #[.int .i64 k, .int .i64 n, .string s, .slice aa ks.length ac] 34)).alloc (.cells #[.int .i64 k', .int .i64 n', .string s', .slice ba ks'.length bc] 34)).alloc (.cells #[.int .i64 k, .int .i64 n, .string s, .slice aa ks.length ac] 34)).alloc (.cells #[.int .i64 k', .int .i64 n', .string s', .slice ba ks'.length bc] 34)) :
    ListF V (.slice (some ⟨w.heap.size + 1 + 1, 0, none⟩) 1 1) [.node k n s ks] ∧ ListF V (.slice (some ⟨w.heap.size + 1 + 1 + 1, 0, none⟩) 1 1) [.node k' n' s' ks'] ∧ Below w.heap.size w V := by
  have bV : Below w.heap.size w V := by
    rw [hV]
    exact ((((Below.refl _ _).alloc (Nat.le_refl _) _).alloc (by simp) _).alloc (by simp <;> omega) _).alloc (by simp <;> omega) _
  have m2 : V.heap[w.heap.size + 1 + 1]? = some (.cells #[.int .i64 k, .int .i64 n, .string s, .slice aa ks.length ac] 34 (0, 0)) := by
    rw [hV]
    exact SpT.blk_at (by simp) (by have := heap_alloc_new ((w.alloc (.cells #[.int .i64 k, .int .i64 n, .string s, .slice aa ks.length ac] 34)).alloc (.cells #[.int .i64 k', .int .i64 n', .string s', .slice ba ks'.length bc] 34)) (.cells #[.int .i64 k, .int .i64 n, .string s, .slice aa ks.length ac] 34); simpa using this)
  have m3 : V.heap[w.heap.size + 1 + 1 + 1]? = some (.cells #[.int .i64 k', .int .i64 n', .string s', .slice ba ks'.length bc] 34 (0, 0)) := by
    rw [hV]
    have := heap_alloc_new (((w.alloc (.cells #[.int .i64 k, .int .i64 n, .string s, .slice aa ks.length ac] 34)).alloc (.cells #[.int .i64 k', .int .i64 n', .string s', .slice ba ks'.length bc] 34)).alloc (.cells #[.int .i64 k, .int .i64 n, .string s, .slice aa ks.length ac] 34)) (.cells #[.int .i64 k', .int .i64 n', .string s', .slice ba ks'.length bc] 34)
    simpa using this
  exact ⟨one_list m2 (h1.keep (keepF_below bV)), one_list m3 (h2.keep (keepF_below bV)), bV⟩
theorem implSame_any (t u : Tree) (v x : Value) (w : World) (hz : szT t ≤ 1048576) (h1 : LiesF w t v) (h2 : LiesF w u x) :
    Calls Tryz.prog 112 #[v, x] w fun e w' => e = .returned (.bool (sameT t u)) ∧ Below w.heap.size w w' := by
  have hdp := Lib.hid (deep_one (t := t) (u := u))
  have hwt : Lg.wt KT [([t], [u])] ≤ 3000000 := by
    have := kdT_le t
    have h2 := ndL_kt [t]
    simp only [Lg.wt]
    rw [h2]
    simp only [kdL]
    omega
  obtain ⟨k, n, s, ks⟩ := t
  obtain ⟨k', n', s', ks'⟩ := u
  have L1 := h1
  have L2 := h2
  obtain ⟨_, aa, ac, rfl, _⟩ := h1
  obtain ⟨_, ba, bc, rfl, _⟩ := h2
  obtain ⟨V, hV⟩ : ∃ V, V = (((w.alloc (.cells #[.int .i64 k, .int .i64 n, .string s, .slice aa ks.length ac] 34)).alloc (.cells #[.int .i64 k', .int .i64 n', .string s', .slice ba ks'.length bc] 34)).alloc (.cells #[.int .i64 k, .int .i64 n, .string s, .slice aa ks.length ac] 34)).alloc (.cells #[.int .i64 k', .int .i64 n', .string s', .slice ba ks'.length bc] 34) := ⟨_, rfl⟩
  obtain ⟨l1, l2, bV⟩ := two_lists L1 L2 hV
  have HV := Lib.hid hV
  have HB := Lib.hid bV
  have C := Lib.hid (SpT.implLists_any ([.node k n s ks], [.node k' n' s' ks']) _ _ V hwt l1 l2 trivial)
  clear L1 L2 hV l1 l2 bV hwt hz
  go_enter Tryz.func112, Tryz.ntmps112
  go_wp2_with fail
  rw [← HV.out]
  refine C.out.mono ?_
  rintro e w1 ⟨⟨c, rfl, hc⟩, hb⟩
  have HE : Hid (c = sameT (.node k n s ks) (.node k' n' s' ks')) := by
    show _ = _
    have h := hc.trans hdp.out
    cases c <;> cases hs : sameT (.node k n s ks) (.node k' n' s' ks') <;> simp [hs] at h ⊢
  have HB1 := Lib.hid (HB.out.trans (hb.mono HB.out.size))
  clear hc hb
  go_wp2
  go_ret
  exact ⟨ret_b HE.out, HB1.out⟩
end Go.Proofs.YtibkmcfinkadhaaGreatDoor.Trm
