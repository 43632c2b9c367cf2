/- The program's own reading of a term as one that is right, walked. Conditions: the term lies in memory; at most 6 kinds with kids are left. -/
import Derived.Test.YtmhhghdfgdhljaaGreatDoorChecked
import Derived.Test.YtmhhghdfgdhljaaGreatDoorTermRight
import Derived.Test.YtmhhghdfgdhljaaGreatDoorNameImpl
import Derived.BigQuiet
import Derived.OwnWalk
import Derived.WalkSmall
import Derived.Outline
namespace Go.Proofs.YtmhhghdfgdhljaaGreatDoor.Trm
open Go.RowKit Own Lexs
mutual
/-- A right term's value. -/
def rtV : Tree → Value
  | .node k n s ks =>
    if k = 1 then .iface 203 (.agg #[.int .i64 n])
    else if k = 2 then .iface 205 (.agg #[.string s])
    else if k = 8 then .iface 210 (.agg #[(rtL ks)[0]?.getD .nilIface])
    else .iface 212 (.agg #[.int .i64 k, (rtL ks)[0]?.getD .nilIface, (rtL ks)[1]?.getD .nilIface])
def rtL : List Tree → List Value
  | [] => []
  | t :: ts => rtV t :: rtL ts
end
theorem rtL_map : ∀ ks : List Tree, rtL ks = ks.map rtV
  | [] => rfl
  | t :: ts => by rw [rtL, rtL_map ts]; rfl
theorem rtV_num (n : Int) (s : ByteArray) (ks : List Tree) : rtV (.node 1 n s ks) = .iface 203 (.agg #[.int .i64 n]) := by rw [rtV, if_pos rfl]
theorem rtV_var (n : Int) (s : ByteArray) (ks : List Tree) : rtV (.node 2 n s ks) = .iface 205 (.agg #[.string s]) := by rw [rtV, if_neg (by decide), if_pos rfl]
theorem rtV_not {n : Int} {s : ByteArray} {ks : List Tree} (h : 0 < ks.length) : rtV (.node 8 n s ks) = .iface 210 (.agg #[rtV ks[0]]) := by
  rw [rtV, if_neg (by decide), if_neg (by decide), if_pos rfl, rtL_map]; simp [h]
theorem rtV_pair {k n : Int} {s : ByteArray} {ks : List Tree} (h1 : k ≠ 1) (h2 : k ≠ 2) (h8 : k ≠ 8) (h : 1 < ks.length) : rtV (.node k n s ks) = .iface 212 (.agg #[.int .i64 k, rtV (ks[0]'(by omega)), rtV ks[1]]) := by
  rw [rtV, if_neg h1, if_neg h2, if_neg h8, rtL_map]; simp [h, show 0 < ks.length from by omega]
/-- A callee that leaves the world as it is, in a quiet region. -/
theorem quiet_eq {P : Program} {f : FuncId} {args : Array Value} {w : World} {n : Nat} {v : Value}
    (h : Calls P f args (w.drewN n) fun e w' => e = .returned v ∧ w.drewN n = w') : Calls P f args (w.drewN n) fun e w'' => e = .returned v ∧ ∃ m, w'' = w.drewN m :=
  h.mono fun _ _ ⟨he, hm⟩ => ⟨he, n, hm.symm⟩
/-- An interface's value. -/
def IfV (x : Value) : Prop := x = .nilIface ∨ ∃ ty pv, x = .iface ty pv
/-- What the reading hands back. -/
def RightPost (t : Tree) (r : Nat) (w : World) (e : Ending) (w' : World) : Prop := ∃ x, e = .returned (.tuple #[x, .bool (rightB t r)]) ∧ ((rightB t r = true → x = rtV t) ∧ IfV x) ∧ Below w.heap.size w w'
def RightI (t : Tree) : Prop := ∀ (v : Value) (w : World) (r : Nat), r ≤ 6 → Lies w t v →
    Calls Tryz.prog 145 #[v, .int .i64 (r : Int)] w (RightPost t r w)
theorem rightPost_no {t : Tree} {r : Nat} {w : World} {e : Ending} {w' : World} {x : Value} (h : rightB t r = false) (he : e = .returned (.tuple #[x, .bool false])) (hb : Below w.heap.size w w') (hi : IfV x := by first | exact Or.inl rfl | exact Or.inr ⟨_, _, rfl⟩) : RightPost t r w e w' :=
  ⟨x, by rw [h]; exact he, ⟨(fun h2 => by rw [h] at h2; cases h2), hi⟩, hb⟩
theorem rightPost_yes {t : Tree} {r : Nat} {w : World} {e : Ending} {w' : World} {x : Value} (h : rightB t r = true) (hx : x = rtV t) (he : e = .returned (.tuple #[x, .bool true])) (hb : Below w.heap.size w w') (hi : IfV x := by first | exact Or.inl rfl | exact Or.inr ⟨_, _, rfl⟩) : RightPost t r w e w' :=
  ⟨x, by rw [h]; exact he, ⟨fun _ => hx, hi⟩, hb⟩
theorem below_drewNR {w w' : World} {B : Nat} (h : Below B w w') (m : Nat) : Below B w (w'.drewN m) := ⟨h.os, h.tape, h.output, h.size, h.block⟩
set_option maxHeartbeats 800000 in
theorem rightI_num (n : Int) (s : ByteArray) (ks : List Tree) (v : Value) (w : World) (r : Nat) (hl : Lies w (.node 1 n s ks) v) :
    Calls Tryz.prog 145 #[v, .int .i64 (r : Int)] w (RightPost (.node 1 n s ks) r w) := by
  obtain ⟨h1, h2, h3, h4, aa, cap, rfl, h5⟩ := hl
  clear h5 h1 h2
  have HR : Hid (rightB (.node 1 n s ks) r = (decide (0 ≤ n) && decide (n ≤ 1000000000) && decide (s.size = 0) && decide (ks.length = 0))) := by show _ = _; rw [rightB, if_pos rfl]
  by_cases hn : 0 ≤ n
  · have d1 : decide (0 ≤ n) = true := by simpa using hn
    by_cases hn2 : n ≤ 1000000000
    · have d2 : decide (n ≤ 1000000000) = true := by simpa using hn2
      by_cases hs : s.size = 0
      · have he := empty_true hs
        have HS := Lib.hid hs
        clear hs
        by_cases hk : ks.length = 0
        · have HQ : Hid (rightB (.node 1 n s ks) r = true) := by show _ = _; rw [HR.out]; simp [HS.out, hk, hn, hn2]
          have hk2 : ((ks.length : Int) == 0) = true := by rw [hk]; rfl
          clear hk hn hn2
          go_enter Tryz.func145, Tryz.ntmps145
          go_wp2
          go_quiet (fail)
          go_wp2
          go_ret2
          exact rightPost_yes (x := .iface 203 (.agg #[.int .i64 n])) HQ.out (rtV_num _ _ _).symm rfl (below_drewNR ((Below.refl _ _).alloc (Nat.le_refl _) _) _)
        · have HQ : Hid (rightB (.node 1 n s ks) r = false) := by show _ = _; rw [HR.out]; simp [hk]
          have hk2 := ne_true (k := (ks.length : Int)) (x := 0) (by omega)
          clear hk hn hn2
          go_enter Tryz.func145, Tryz.ntmps145
          go_wp2
          go_quiet (fail)
          go_wp2
          go_ret2
          exact rightPost_no HQ.out rfl (below_drewNR ((Below.refl _ _).alloc (Nat.le_refl _) _) _)
      · have HQ : Hid (rightB (.node 1 n s ks) r = false) := by show _ = _; rw [HR.out]; simp [hs]
        have he := empty_false hs
        clear hs hn hn2
        go_enter Tryz.func145, Tryz.ntmps145
        go_wp2
        go_quiet (fail)
        go_wp2
        go_ret2
        exact rightPost_no HQ.out rfl (below_drewNR ((Below.refl _ _).alloc (Nat.le_refl _) _) _)
    · have d2 : decide (n ≤ 1000000000) = false := by simpa using hn2
      have HQ : Hid (rightB (.node 1 n s ks) r = false) := by show _ = _; rw [HR.out]; simp [hn2]
      clear hn hn2
      go_enter Tryz.func145, Tryz.ntmps145
      go_wp2
      go_quiet (fail)
      go_wp2
      go_ret2
      exact rightPost_no HQ.out rfl (below_drewNR ((Below.refl _ _).alloc (Nat.le_refl _) _) _)
  · have d1 : decide (0 ≤ n) = false := by simpa using hn
    have HQ : Hid (rightB (.node 1 n s ks) r = false) := by show _ = _; rw [HR.out]; simp [hn]
    clear hn
    go_enter Tryz.func145, Tryz.ntmps145
    go_wp2
    go_quiet (fail)
    go_wp2
    go_ret2
    exact rightPost_no HQ.out rfl (below_drewNR ((Below.refl _ _).alloc (Nat.le_refl _) _) _)
set_option maxHeartbeats 800000 in
theorem rightI_var (n : Int) (s : ByteArray) (ks : List Tree) (v : Value) (w : World) (r : Nat) (hl : Lies w (.node 2 n s ks) v) (hsz : s.size ≤ 9223372036854775807) :
    Calls Tryz.prog 145 #[v, .int .i64 (r : Int)] w (RightPost (.node 2 n s ks) r w) := by
  obtain ⟨h1, h2, h3, h4, aa, cap, rfl, h5⟩ := hl
  clear h5 h1 h2
  have HR : Hid (rightB (.node 2 n s ks) r = (decide (n = 0) && isNm s.data.toList && decide (ks.length = 0))) := by show _ = _; rw [rightB, if_neg (by decide), if_pos rfl]
  by_cases hn : n = 0
  · subst hn
    have CN := Lib.hid (fun w => implIsName_any s w hsz)
    cases hb : isNm s.data.toList with
    | false =>
      have HQ : Hid (rightB (.node 2 0 s ks) r = false) := by show _ = _; rw [HR.out, hb]; simp
      rw [hb] at CN
      clear hb
      go_enter Tryz.func145, Tryz.ntmps145
      go_wp2
      go_quiet ((go_at_call 90; exact quiet_eq (CN.out _)))
      go_wp2
      go_ret2
      exact rightPost_no HQ.out rfl (below_drewNR ((Below.refl _ _).alloc (Nat.le_refl _) _) _)
    | true =>
      rw [hb] at CN
      by_cases hk : ks.length = 0
      · have HQ : Hid (rightB (.node 2 0 s ks) r = true) := by show _ = _; rw [HR.out, hb]; simp [hk]
        have hk2 : ((ks.length : Int) == 0) = true := by rw [hk]; rfl
        clear hk hb
        go_enter Tryz.func145, Tryz.ntmps145
        go_wp2
        go_quiet ((go_at_call 90; exact quiet_eq (CN.out _)))
        go_wp2
        go_ret2
        exact rightPost_yes (x := .iface 205 (.agg #[.string s])) HQ.out (rtV_var _ _ _).symm rfl (below_drewNR ((Below.refl _ _).alloc (Nat.le_refl _) _) _)
      · have HQ : Hid (rightB (.node 2 0 s ks) r = false) := by show _ = _; rw [HR.out]; simp [hk]
        have hk2 := ne_true (k := (ks.length : Int)) (x := 0) (by omega)
        clear hk hb
        go_enter Tryz.func145, Tryz.ntmps145
        go_wp2
        go_quiet ((go_at_call 90; exact quiet_eq (CN.out _)))
        go_wp2
        go_ret2
        exact rightPost_no HQ.out rfl (below_drewNR ((Below.refl _ _).alloc (Nat.le_refl _) _) _)
  · have hn2 := ne_true hn
    have HQ : Hid (rightB (.node 2 n s ks) r = false) := by show _ = _; rw [HR.out]; simp [hn]
    clear hn
    go_enter Tryz.func145, Tryz.ntmps145
    go_wp2
    go_quiet (fail)
    go_wp2
    go_ret2
    exact rightPost_no HQ.out rfl (below_drewNR ((Below.refl _ _).alloc (Nat.le_refl _) _) _)
end Go.Proofs.YtmhhghdfgdhljaaGreatDoor.Trm
