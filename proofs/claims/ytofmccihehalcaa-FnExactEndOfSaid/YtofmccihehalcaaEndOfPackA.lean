/- Rows of numbers put together and held against each other by the library, walked. Conditions: the rows lie in memory; each has at most 2 to the 20 numbers. With what it stands on, in one text. -/
import Derived.Test.YtofmccihehalcaaChecked
import Derived.Test.YtofmccihehalcaaKTrees
import Derived.Test.YtofmccihehalcaaTermSame
import Derived.Test.YtofmccihehalcaaTermRight
import Derived.WalkSmall
import Derived.Outline
import Derived.Test.YtofmccihehalcaaZeroT
import Derived.Test.YtofmccihehalcaaNameImpl
import Derived.BigQuiet
import Derived.OwnWalk
import Derived.Test.YtofmccihehalcaaTermOwn
import Derived.Test.YtofmccihehalcaaTermSize
import Derived.Test.YtofmccihehalcaaIndexImpl
import Derived.Test.YtofmccihehalcaaTermReads
import Derived.Test.YtofmccihehalcaaKIn
import Derived.Test.YtofmccihehalcaaKProc
import Derived.Test.YtofmccihehalcaaPlaceI
import Derived.Deep.RegionHeld3
import Derived.Test.YtofmccihehalcaaMovesD
import Derived.Maps.AppendAt
import Derived.Laws.AppendOwnNone
import Derived.Test.YtofmccihehalcaaLists
import Derived.Lib.AppendZeros
/- What the program tells of an Op, walked. Without conditions. -/
namespace Go.Proofs.Ytofmccihehalcaa.Trm
open Go.RowKit Go.Proofs.Ytofmccihehalcaa.Own
def opWord (k : Int) : ByteArray := if k = 1 then ⟨#[115, 101, 116]⟩ else if k = 2 then ⟨#[116, 101, 115, 116]⟩ else if k = 3 then ⟨#[106, 117, 109, 112]⟩ else if k = 4 then ⟨#[99, 97, 108, 108]⟩ else if k = 5 then ⟨#[115, 112, 97, 119, 110]⟩ else if k = 6 then ⟨#[108, 111, 99, 107]⟩ else if k = 7 then ⟨#[117, 110, 108, 111, 99, 107]⟩ else if k = 8 then ⟨#[115, 107, 105, 112]⟩ else if k = 9 then ⟨#[101, 110, 100]⟩ else ⟨#[]⟩
theorem opWord_none {k : Int} (h : ¬ (1 ≤ k ∧ k ≤ 9)) : opWord k = ⟨#[]⟩ := by
  unfold opWord
  repeat rw [if_neg (by omega)]
theorem ret_sK {a b : ByteArray} (h : a = b) : Ending.returned (.string a) = .returned (.string b) := by rw [h]
theorem implWordK_any (k : Int) (w : World) :
    Calls Try.prog 46 #[.int .i64 k] w fun e w' => e = .returned (.string (opWord k)) ∧ w = w' := by
  by_cases h : 1 ≤ k ∧ k ≤ 9
  · have h2 : k = 1 ∨ k = 2 ∨ k = 3 ∨ k = 4 ∨ k = 5 ∨ k = 6 ∨ k = 7 ∨ k = 8 ∨ k = 9 := by omega
    clear h
    rcases h2 with rfl | rfl | rfl | rfl | rfl | rfl | rfl | rfl | rfl
    all_goals
      go_enter Try.func46, Try.ntmps46
      go_wp2
      go_ret
      exact ⟨rfl, rfl⟩
  · have HW := Lib.hid (opWord_none h)
    have h1 := ne_true (k := k) (x := 1) (by omega)
    have h2 := ne_true (k := k) (x := 2) (by omega)
    have h3 := ne_true (k := k) (x := 3) (by omega)
    have h4 := ne_true (k := k) (x := 4) (by omega)
    have h5 := ne_true (k := k) (x := 5) (by omega)
    have h6 := ne_true (k := k) (x := 6) (by omega)
    have h7 := ne_true (k := k) (x := 7) (by omega)
    have h8 := ne_true (k := k) (x := 8) (by omega)
    have h9 := ne_true (k := k) (x := 9) (by omega)
    clear h
    go_enter Try.func46, Try.ntmps46
    go_wp2
    go_ret
    exact ⟨ret_sK (by rw [HW.out]), rfl⟩
def namedV (gv lv pv : Value) (k : Int) : Value := if k = 1 then gv else if k = 6 ∨ k = 7 then lv else if k = 4 ∨ k = 5 then pv else .slice none 0 0
def hasArg (k : Int) : Bool := decide (k = 1 ∨ k = 6 ∨ k = 7 ∨ k = 4 ∨ k = 5)
theorem ret_nb {u v : Value} {a b : Bool} (h : u = v) (h2 : a = b) : Ending.returned (.tuple #[u, .bool a]) = .returned (.tuple #[v, .bool b]) := by rw [h, h2]
theorem implNamed_any (k : Int) (a0 b0 c0 : Option Addr) (a1 a2 b1 b2 c1 c2 : Nat) (ev iv : Value) (w : World) :
    Calls Try.prog 61 #[.int .i64 k, .agg #[.slice a0 a1 a2, .slice b0 b1 b2, .slice c0 c1 c2, ev, iv]] w fun e w' => e = .returned (.tuple #[namedV (.slice a0 a1 a2) (.slice b0 b1 b2) (.slice c0 c1 c2) k, .bool (hasArg k)]) ∧ Below w.heap.size w w' := by
  have HB := Lib.hid ((Below.refl w.heap.size w).alloc (Nat.le_refl _) (.cells #[.slice a0 a1 a2, .slice b0 b1 b2, .slice c0 c1 c2, ev, iv] 31))
  by_cases h : k = 1 ∨ k = 6 ∨ k = 7 ∨ k = 4 ∨ k = 5
  · rcases h with rfl | rfl | rfl | rfl | rfl
    all_goals
      go_enter Try.func61, Try.ntmps61
      go_wp2
      go_ret2
      exact ⟨rfl, HB.out⟩
  · have HN : Hid (namedV (.slice a0 a1 a2) (.slice b0 b1 b2) (.slice c0 c1 c2) k = .slice none 0 0) := by
      show _ = _
      unfold namedV
      rw [if_neg (by omega), if_neg (by omega), if_neg (by omega)]
    have HA : Hid (hasArg k = false) := decide_eq_false h
    have h1 := ne_true (k := k) (x := 1) (by omega)
    have h6 := ne_true (k := k) (x := 6) (by omega)
    have h7 := ne_true (k := k) (x := 7) (by omega)
    have h4 := ne_true (k := k) (x := 4) (by omega)
    have h5 := ne_true (k := k) (x := 5) (by omega)
    clear h
    go_enter Try.func61, Try.ntmps61
    go_wp2
    go_ret2
    exact ⟨ret_nb HN.out.symm HA.out.symm, HB.out⟩
def isTermK (k : Int) : Bool := decide (k = 1 ∨ k = 2)
def isToK (k : Int) : Bool := decide (k = 2 ∨ k = 3)
theorem implHasTerm_any (k : Int) (w : World) :
    Calls Try.prog 62 #[.int .i64 k] w fun e w' => e = .returned (.bool (isTermK k)) ∧ w = w' := by
  by_cases h : k = 1 ∨ k = 2
  · rcases h with rfl | rfl
    all_goals
      go_enter Try.func62, Try.ntmps62
      go_wp2
      go_ret
      exact ⟨rfl, rfl⟩
  · have HA : Hid (isTermK k = false) := decide_eq_false h
    have h1 := ne_true (k := k) (x := 1) (by omega)
    have h2 := ne_true (k := k) (x := 2) (by omega)
    clear h
    go_enter Try.func62, Try.ntmps62
    go_wp2
    go_ret
    exact ⟨ret_b (by rw [HA.out]), rfl⟩
theorem implHasTo_any (k : Int) (w : World) :
    Calls Try.prog 66 #[.int .i64 k] w fun e w' => e = .returned (.bool (isToK k)) ∧ w = w' := by
  by_cases h : k = 2 ∨ k = 3
  · rcases h with rfl | rfl
    all_goals
      go_enter Try.func66, Try.ntmps66
      go_wp2
      go_ret
      exact ⟨rfl, rfl⟩
  · have HA : Hid (isToK k = false) := decide_eq_false h
    have h1 := ne_true (k := k) (x := 2) (by omega)
    have h2 := ne_true (k := k) (x := 3) (by omega)
    clear h
    go_enter Try.func66, Try.ntmps66
    go_wp2
    go_ret
    exact ⟨ret_b (by rw [HA.out]), rfl⟩
end Go.Proofs.Ytofmccihehalcaa.Trm
/- The program's isNoTerm, walked. Conditions: the term lies in memory. -/
namespace Go.Proofs.Ytofmccihehalcaa.Trm
open Go.RowKit Go.Proofs.Ytofmccihehalcaa.Own
def aloneZ (t : Tree) : Bool := decide (t.kind = 0) && (decide (t.num = 0) && decide (t.name.size = 0))
theorem sameT_zT (t : Tree) : sameT t zT = (aloneZ t && decide (t.kids.length = 0)) := by
  cases t with
  | node k n s ks =>
    rw [sameT]
    show (decide (k = 0) && decide (n = 0) && decide (s = ⟨#[]⟩) && decide (ks.length = 0) && sameL ks []) = _
    have e : sameL ks [] = true := by cases ks <;> rfl
    rw [e]
    have hs : s = ⟨#[]⟩ ↔ s.size = 0 := ⟨fun h => by rw [h]; rfl, fun h => ByteArray.ext (Array.eq_empty_of_size_eq_zero h)⟩
    by_cases h1 : s.size = 0 <;> by_cases h2 : ks = [] <;> by_cases h3 : k = 0 <;> by_cases h4 : n = 0 <;> simp [aloneZ, Tree.kind, Tree.num, Tree.name, Tree.kids, hs, h1, h2, h3, h4]
theorem implAloneZ_any (t : Tree) (a : Option Addr) (c : Nat) (w : World) :
    Calls Try.prog 71 #[.agg #[.int .i64 t.kind, .int .i64 t.num, .string t.name, .slice a t.kids.length c], .agg #[.int .i64 0, .int .i64 0, .string ⟨#[]⟩, .slice none 0 0]] w fun e w' => e = .returned (.bool (aloneZ t)) ∧ Below w.heap.size w w' := by
  obtain ⟨k, n, s, ks⟩ := t
  have HR : Hid (aloneZ (.node k n s ks) = (decide (k = 0) && (decide (n = 0) && decide (s.size = 0)))) := rfl
  simp only [Tree.kind, Tree.num, Tree.name, Tree.kids]
  generalize aloneZ (.node k n s ks) = rr at HR ⊢
  by_cases hk : k = 0
  · subst hk
    by_cases hn : n = 0
    · subst hn
      by_cases hs : s.size = 0
      · have hq := empty_true hs
        have HS := Lib.hid hs
        clear hs
        go_enter Try.func71, Try.ntmps71
        go_wp2
        go_ret
        exact ⟨ret_b (by rw [HR.out, decide_eq_true HS.out]; rfl), ((Below.refl _ _).alloc (Nat.le_refl _) _).alloc (by simp) _⟩
      · have hq := empty_false hs
        have HS := Lib.hid hs
        clear hs
        go_enter Try.func71, Try.ntmps71
        go_wp2
        go_ret
        exact ⟨ret_b (by rw [HR.out, decide_eq_false HS.out]; rfl), ((Below.refl _ _).alloc (Nat.le_refl _) _).alloc (by simp) _⟩
    · have hq : (n == 0) = false := by simp [hn]
      have HN := Lib.hid hn
      clear hn
      go_enter Try.func71, Try.ntmps71
      go_wp2
      go_ret
      exact ⟨ret_b (by rw [HR.out]; simp [HN.out]), ((Below.refl _ _).alloc (Nat.le_refl _) _).alloc (by simp) _⟩
  · have hq : (k == 0) = false := by simp [hk]
    have HK := Lib.hid hk
    clear hk
    go_enter Try.func71, Try.ntmps71
    go_wp2
    go_ret
    exact ⟨ret_b (by rw [HR.out]; simp [HK.out]), ((Below.refl _ _).alloc (Nat.le_refl _) _).alloc (by simp) _⟩
theorem implNoTerm_any (t : Tree) (a : Option Addr) (c : Nat) (w : World) (hl : Lies w t (.agg #[.int .i64 t.kind, .int .i64 t.num, .string t.name, .slice a t.kids.length c])) :
    Calls Try.prog 63 #[.agg #[.int .i64 t.kind, .int .i64 t.num, .string t.name, .slice a t.kids.length c]] w fun e w' => e = .returned (.bool (sameT t zT)) ∧ Below w.heap.size w w' := by
  have CA := Lib.hid (fun w => implAloneZ_any t a c w)
  have hlen := hl.parts.2.2.2.1
  have HR := Lib.hid (sameT_zT t)
  have X0 := Lib.hid (Box4.new w (.int .i64 t.kind) (.int .i64 t.num) (.string t.name) (.slice a t.kids.length c) 55)
  clear hl
  generalize sameT t zT = rr at HR
  generalize aloneZ t = ra at CA HR
  go_enter Try.func63, Try.ntmps63
  go_wp2_with fail
  refine (CA.out _).mono ?_
  rintro e w1 ⟨rfl, hb⟩
  have HB := Lib.hid (below_box1 hb)
  obtain ⟨p0, p1, p2, p3⟩ := X0.out.keep (keeps_below hb)
  clear hb
  cases ra with
  | false =>
    have HF : Hid (rr = false) := by show _ = _; rw [HR.out]; rfl
    go_wp2
    go_ret
    exact ⟨ret_b (by rw [HF.out]), HB.out⟩
  | true =>
    by_cases h0 : t.kids.length = 0
    · have HF : Hid (rr = true) := by show _ = _; rw [HR.out]; simp [h0]
      have h1 : ((t.kids.length : Int) == 0) = true := by simp [h0]
      clear h0
      go_wp2
      go_ret
      exact ⟨ret_b (by rw [HF.out]), HB.out⟩
    · have HF : Hid (rr = false) := by show _ = _; rw [HR.out]; simp [h0]
      have h1 : ((t.kids.length : Int) == 0) = false := by rw [beq_eq_false_iff_ne]; omega
      clear h0
      go_wp2
      go_ret
      exact ⟨ret_b (by rw [HF.out]), HB.out⟩
end Go.Proofs.Ytofmccihehalcaa.Trm
/- The program's own reading of a term as one that is right, walked. Conditions: the term lies in memory; at most 6 kinds with kids are left. -/
namespace Go.Proofs.Ytofmccihehalcaa.Trm
open Go.RowKit Go.Proofs.Ytofmccihehalcaa.Own Lexs
mutual
/-- A right term's value. -/
def rtV : Tree → Value
  | .node k n s ks =>
    if k = 1 then .iface 93 (.agg #[.int .i64 n])
    else if k = 2 then .iface 95 (.agg #[.string s])
    else if k = 8 then .iface 100 (.agg #[(rtL ks)[0]?.getD .nilIface])
    else .iface 103 (.agg #[.int .i64 k, (rtL ks)[0]?.getD .nilIface, (rtL ks)[1]?.getD .nilIface])
def rtL : List Tree → List Value
  | [] => []
  | t :: ts => rtV t :: rtL ts
end
theorem rtL_map : ∀ ks : List Tree, rtL ks = ks.map rtV
  | [] => rfl
  | t :: ts => by rw [rtL, rtL_map ts]; rfl
theorem rtV_num (n : Int) (s : ByteArray) (ks : List Tree) : rtV (.node 1 n s ks) = .iface 93 (.agg #[.int .i64 n]) := by rw [rtV, if_pos rfl]
theorem rtV_var (n : Int) (s : ByteArray) (ks : List Tree) : rtV (.node 2 n s ks) = .iface 95 (.agg #[.string s]) := by rw [rtV, if_neg (by decide), if_pos rfl]
theorem rtV_not {n : Int} {s : ByteArray} {ks : List Tree} (h : 0 < ks.length) : rtV (.node 8 n s ks) = .iface 100 (.agg #[rtV ks[0]]) := by
  rw [rtV, if_neg (by decide), if_neg (by decide), if_pos rfl, rtL_map]; simp [h]
theorem rtV_pair {k n : Int} {s : ByteArray} {ks : List Tree} (h1 : k ≠ 1) (h2 : k ≠ 2) (h8 : k ≠ 8) (h : 1 < ks.length) : rtV (.node k n s ks) = .iface 103 (.agg #[.int .i64 k, rtV (ks[0]'(by omega)), rtV ks[1]]) := by
  rw [rtV, if_neg h1, if_neg h2, if_neg h8, rtL_map]; simp [h, show 0 < ks.length from by omega]
/-- A callee that leaves the world as it is, in a quiet region. -/
theorem quiet_eq {P : Program} {f : FuncId} {args : Array Value} {w : World} {n : Nat} {v : Value}
    (h : Calls P f args (w.drewN n) fun e w' => e = .returned v ∧ w.drewN n = w') : Calls P f args (w.drewN n) fun e w'' => e = .returned v ∧ ∃ m, w'' = w.drewN m :=
  h.mono fun _ _ ⟨he, hm⟩ => ⟨he, n, hm.symm⟩
/-- An interface's value. -/
def IfV (x : Value) : Prop := x = .nilIface ∨ ∃ ty pv, x = .iface ty pv
/-- What the reading hands back. -/
def RightPost (t : Tree) (r : Nat) (w : World) (e : Ending) (w' : World) : Prop := ∃ x, e = .returned (.tuple #[x, .bool (rightB t r)]) ∧ ((rightB t r = true → x = rtV t) ∧ IfV x) ∧ Below w.heap.size w w'
def RightI (t : Tree) : Prop := ∀ (v : Value) (w : World) (r : Nat), r ≤ 6 → Lies w t v →
    Calls Try.prog 72 #[v, .int .i64 (r : Int)] w (RightPost t r w)
theorem rightPost_no {t : Tree} {r : Nat} {w : World} {e : Ending} {w' : World} {x : Value} (h : rightB t r = false) (he : e = .returned (.tuple #[x, .bool false])) (hb : Below w.heap.size w w') (hi : IfV x := by first | exact Or.inl rfl | exact Or.inr ⟨_, _, rfl⟩) : RightPost t r w e w' :=
  ⟨x, by rw [h]; exact he, ⟨(fun h2 => by rw [h] at h2; cases h2), hi⟩, hb⟩
theorem rightPost_yes {t : Tree} {r : Nat} {w : World} {e : Ending} {w' : World} {x : Value} (h : rightB t r = true) (hx : x = rtV t) (he : e = .returned (.tuple #[x, .bool true])) (hb : Below w.heap.size w w') (hi : IfV x := by first | exact Or.inl rfl | exact Or.inr ⟨_, _, rfl⟩) : RightPost t r w e w' :=
  ⟨x, by rw [h]; exact he, ⟨fun _ => hx, hi⟩, hb⟩
theorem below_drewNR {w w' : World} {B : Nat} (h : Below B w w') (m : Nat) : Below B w (w'.drewN m) := ⟨h.os, h.tape, h.output, h.size, h.block⟩
set_option maxHeartbeats 800000 in
theorem rightI_num (n : Int) (s : ByteArray) (ks : List Tree) (v : Value) (w : World) (r : Nat) (hl : Lies w (.node 1 n s ks) v) :
    Calls Try.prog 72 #[v, .int .i64 (r : Int)] w (RightPost (.node 1 n s ks) r w) := by
  obtain ⟨h1, h2, h3, h4, aa, cap, rfl, h5⟩ := hl
  clear h5 h1 h2
  have HR : Hid (rightB (.node 1 n s ks) r = (decide (0 ≤ n) && decide (n ≤ 1000000000) && decide (s.size = 0) && decide (ks.length = 0))) := by show _ = _; rw [rightB, if_pos rfl]
  by_cases hn : 0 ≤ n
  · have d1 : decide (0 ≤ n) = true := by simpa using hn
    by_cases hn2 : n ≤ 1000000000
    · have d2 : decide (n ≤ 1000000000) = true := by simpa using hn2
      by_cases hs : s.size = 0
      · have he := empty_true hs
        have HS := Lib.hid hs
        clear hs
        by_cases hk : ks.length = 0
        · have HQ : Hid (rightB (.node 1 n s ks) r = true) := by show _ = _; rw [HR.out]; simp [HS.out, hk, hn, hn2]
          have hk2 : ((ks.length : Int) == 0) = true := by rw [hk]; rfl
          clear hk hn hn2
          go_enter Try.func72, Try.ntmps72
          go_wp2
          go_quiet (fail)
          go_wp2
          go_ret2
          exact rightPost_yes (x := .iface 93 (.agg #[.int .i64 n])) HQ.out (rtV_num _ _ _).symm rfl (below_drewNR ((Below.refl _ _).alloc (Nat.le_refl _) _) _)
        · have HQ : Hid (rightB (.node 1 n s ks) r = false) := by show _ = _; rw [HR.out]; simp [hk]
          have hk2 := ne_true (k := (ks.length : Int)) (x := 0) (by omega)
          clear hk hn hn2
          go_enter Try.func72, Try.ntmps72
          go_wp2
          go_quiet (fail)
          go_wp2
          go_ret2
          exact rightPost_no HQ.out rfl (below_drewNR ((Below.refl _ _).alloc (Nat.le_refl _) _) _)
      · have HQ : Hid (rightB (.node 1 n s ks) r = false) := by show _ = _; rw [HR.out]; simp [hs]
        have he := empty_false hs
        clear hs hn hn2
        go_enter Try.func72, Try.ntmps72
        go_wp2
        go_quiet (fail)
        go_wp2
        go_ret2
        exact rightPost_no HQ.out rfl (below_drewNR ((Below.refl _ _).alloc (Nat.le_refl _) _) _)
    · have d2 : decide (n ≤ 1000000000) = false := by simpa using hn2
      have HQ : Hid (rightB (.node 1 n s ks) r = false) := by show _ = _; rw [HR.out]; simp [hn2]
      clear hn hn2
      go_enter Try.func72, Try.ntmps72
      go_wp2
      go_quiet (fail)
      go_wp2
      go_ret2
      exact rightPost_no HQ.out rfl (below_drewNR ((Below.refl _ _).alloc (Nat.le_refl _) _) _)
  · have d1 : decide (0 ≤ n) = false := by simpa using hn
    have HQ : Hid (rightB (.node 1 n s ks) r = false) := by show _ = _; rw [HR.out]; simp [hn]
    clear hn
    go_enter Try.func72, Try.ntmps72
    go_wp2
    go_quiet (fail)
    go_wp2
    go_ret2
    exact rightPost_no HQ.out rfl (below_drewNR ((Below.refl _ _).alloc (Nat.le_refl _) _) _)
set_option maxHeartbeats 800000 in
theorem rightI_var (n : Int) (s : ByteArray) (ks : List Tree) (v : Value) (w : World) (r : Nat) (hl : Lies w (.node 2 n s ks) v) (hsz : s.size ≤ 9223372036854775807) :
    Calls Try.prog 72 #[v, .int .i64 (r : Int)] w (RightPost (.node 2 n s ks) r w) := by
  obtain ⟨h1, h2, h3, h4, aa, cap, rfl, h5⟩ := hl
  clear h5 h1 h2
  have HR : Hid (rightB (.node 2 n s ks) r = (decide (n = 0) && isNm s.data.toList && decide (ks.length = 0))) := by show _ = _; rw [rightB, if_neg (by decide), if_pos rfl]
  by_cases hn : n = 0
  · subst hn
    have CN := Lib.hid (fun w => implIsName_any s w hsz)
    cases hb : isNm s.data.toList with
    | false =>
      have HQ : Hid (rightB (.node 2 0 s ks) r = false) := by show _ = _; rw [HR.out, hb]; simp
      rw [hb] at CN
      clear hb
      go_enter Try.func72, Try.ntmps72
      go_wp2
      go_quiet ((go_at_call 42; exact quiet_eq (CN.out _)))
      go_wp2
      go_ret2
      exact rightPost_no HQ.out rfl (below_drewNR ((Below.refl _ _).alloc (Nat.le_refl _) _) _)
    | true =>
      rw [hb] at CN
      by_cases hk : ks.length = 0
      · have HQ : Hid (rightB (.node 2 0 s ks) r = true) := by show _ = _; rw [HR.out, hb]; simp [hk]
        have hk2 : ((ks.length : Int) == 0) = true := by rw [hk]; rfl
        clear hk hb
        go_enter Try.func72, Try.ntmps72
        go_wp2
        go_quiet ((go_at_call 42; exact quiet_eq (CN.out _)))
        go_wp2
        go_ret2
        exact rightPost_yes (x := .iface 95 (.agg #[.string s])) HQ.out (rtV_var _ _ _).symm rfl (below_drewNR ((Below.refl _ _).alloc (Nat.le_refl _) _) _)
      · have HQ : Hid (rightB (.node 2 0 s ks) r = false) := by show _ = _; rw [HR.out]; simp [hk]
        have hk2 := ne_true (k := (ks.length : Int)) (x := 0) (by omega)
        clear hk hb
        go_enter Try.func72, Try.ntmps72
        go_wp2
        go_quiet ((go_at_call 42; exact quiet_eq (CN.out _)))
        go_wp2
        go_ret2
        exact rightPost_no HQ.out rfl (below_drewNR ((Below.refl _ _).alloc (Nat.le_refl _) _) _)
  · have hn2 := ne_true hn
    have HQ : Hid (rightB (.node 2 n s ks) r = false) := by show _ = _; rw [HR.out]; simp [hn]
    clear hn
    go_enter Try.func72, Try.ntmps72
    go_wp2
    go_quiet (fail)
    go_wp2
    go_ret2
    exact rightPost_no HQ.out rfl (below_drewNR ((Below.refl _ _).alloc (Nat.le_refl _) _) _)
end Go.Proofs.Ytofmccihehalcaa.Trm
/- The laws' copy of a term, walked. Conditions: the term lies in memory; it has at most 2 to the 20 kids at once. -/
namespace Go.Proofs.Ytofmccihehalcaa.Trm
open Go.RowKit Go.Proofs.Ytofmccihehalcaa.Own
theorem infoTerm : (Try.prog.info? 55).map (fun i => (i.zero, i.size, i.bytes)) = some (some (.agg #[.int .i64 0, .int .i64 0, .string ⟨#[]⟩, .slice none 0 0]), 4, 56) := by kernel_rfl
def ToOk (t : Tree) : Prop := ∀ (v : Value) (w : World), szT t ≤ 1048576 → Lies w t v →
    Calls Try.prog 41 #[v] w fun e w' => ∃ v', e = .returned v' ∧ Owns w' w.heap.size w'.heap.size t v' ∧ Below w.heap.size w w'
theorem below_none {w w' : World} (h : w.grownBy w' none) : Below w.heap.size w w' := ⟨h.os, h.tape, h.output, h.size, fun k hk => h.block k hk (by simp)⟩
theorem szS_mem : ∀ {ks : List Tree} {t : Tree}, t ∈ ks → szT t ≤ szS ks
  | a :: r, t, h => by
    rw [szS]
    rcases List.mem_cons.1 h with rfl | h
    · omega
    · have := szS_mem h; omega
theorem szT_le {ks : List Tree} {t : Tree} (h : t ∈ ks) (hz : ks.length + szS ks ≤ 1048576) : szT t ≤ 1048576 := by
  have := szS_mem h; omega
theorem row_below {w w' : World} {lo : Nat} {e : TypeId} {size : Nat} {v : Value} {n : Nat} {xs : List Value} (h : w.ownsRow lo e size v n xs) (hb : Below w.heap.size w w') : w'.ownsRow lo e size v n xs :=
  row_same h fun b hb' => hb.block b (h.lt b hb').2
theorem Owns.shape {w : World} {lo hi : Nat} {t : Tree} {v : Value} (h : Owns w lo hi t v) : ∃ a cap, v = .agg #[.int .i64 t.kind, .int .i64 t.num, .string t.name, .slice a t.kids.length cap] := by
  obtain ⟨_, _, _, _, a, cap, e, _⟩ := h.lies.parts
  exact ⟨a, cap, e⟩
theorem row_some {w : World} {lo : Nat} {e : TypeId} {g cap n j : Nat} {xs : List Value} (h : w.ownsRow lo e 4 (.slice (some ⟨g, 0, none⟩) n cap) n xs) (hj : j < n * 4) : ∃ u, w.cell? ⟨g, j, none⟩ = some u := by
  refine ⟨xs[j]'(by rw [h.1]; exact hj), ?_⟩
  rw [h.cellAt j hj]; simp
theorem set4 : ∀ (ys : List Value) (z0 z1 z2 z3 v0 v1 v2 v3 : Value) (r : List Value) (j : Nat), ys.length = j → ((((ys ++ z0 :: z1 :: z2 :: z3 :: r).set j v0).set (j + 1) v1).set (j + 2) v2).set (j + 3) v3 = ys ++ [v0, v1, v2, v3] ++ r
  | [], _, _, _, _, _, _, _, _, _, _, h => by subst h; rfl
  | y :: ys, z0, z1, z2, z3, v0, v1, v2, v3, r, j, h => by
    subst h
    have e := set4 ys z0 z1 z2 z3 v0 v1 v2 v3 r ys.length rfl
    show ((((y :: (ys ++ z0 :: z1 :: z2 :: z3 :: r)).set (ys.length + 1) v0).set (ys.length + 1 + 1) v1).set (ys.length + 2 + 1) v2).set (ys.length + 3 + 1) v3 = _
    simp only [List.set_cons_succ]
    rw [e]
    simp
theorem row_put4 {w : World} {lo : Nat} {e : TypeId} {g cap n k : Nat} {ys zs : List Value} (h : w.ownsRow lo e 4 (.slice (some ⟨g, 0, none⟩) n cap) n (ys ++ zs)) (hy : ys.length = k * 4) (hk : k < n) (v0 v1 v2 v3 : Value) :
    ∃ zs2, ((((w.setCell ⟨g, k * 4, none⟩ v0).setCell ⟨g, k * 4 + 1, none⟩ v1).setCell ⟨g, k * 4 + 2, none⟩ v2).setCell ⟨g, k * 4 + 3, none⟩ v3).ownsRow lo e 4 (.slice (some ⟨g, 0, none⟩) n cap) n (ys ++ [v0, v1, v2, v3] ++ zs2) ∧
      w.grownBy ((((w.setCell ⟨g, k * 4, none⟩ v0).setCell ⟨g, k * 4 + 1, none⟩ v1).setCell ⟨g, k * 4 + 2, none⟩ v2).setCell ⟨g, k * 4 + 3, none⟩ v3) (some g) := by
  have hl := h.1
  rw [List.length_append, hy] at hl
  match zs, hl, h with
  | z0 :: z1 :: z2 :: z3 :: r, _, h =>
    have a0 := h.stored (k * 4) v0
    have a1 := a0.1.stored (k * 4 + 1) v1
    have a2 := a1.1.stored (k * 4 + 2) v2
    have a3 := a2.1.stored (k * 4 + 3) v3
    refine ⟨r, ?_, a0.2.trans (a1.2.trans (a2.2.trans a3.2))⟩
    have := a3.1
    rw [set4 ys z0 z1 z2 z3 v0 v1 v2 v3 r (k * 4) hy] at this
    exact this
  | [], hl, _ => exact absurd hl (by simp; omega)
  | [_], hl, _ => exact absurd hl (by simp; omega)
  | [_, _], hl, _ => exact absurd hl (by simp; omega)
  | [_, _, _], hl, _ => exact absurd hl (by simp; omega)
theorem toS_any (ks : List Tree) (ih : ∀ t, t ∈ ks → ToOk t) (aa : Option Addr) (cap : Nat) (w : World) (hsz : ks.length + szS ks ≤ 1048576) (hk : 0 < ks.length → ∃ g o, aa = some ⟨g, o, none⟩ ∧ LiesL w g o ks) :
    Calls Try.prog 56 #[.slice aa ks.length cap] w fun e w' => ∃ kv, e = .returned kv ∧ OwnsK w' w.heap.size w'.heap.size ks kv ∧ Below w.heap.size w w' := by
  obtain ⟨i0, hi, hz0, hz1, hz2⟩ := info_parts infoTerm
  have IH := Lib.hid ih
  have HK := Lib.hid hk
  have HZ := Lib.hid hsz
  have hlen : ks.length ≤ 1048576 := by omega
  clear ih hk hsz
  go_enter Try.func56, Try.ntmps56
  go_wp2_with (at_make; refine wpList_make_full _ rfl (.tmp 6) (.tmp 6) 53 rfl w.heap.size 55 i0 _ 4 Try.underlying53 hi hz0 hz1 .i64 .i64 _ _ ks.length rfl rfl rfl rfl (by rw [hz2]; omega) (by unfold maxLen; omega) (Nat.le_refl _) ?_)
  intro w1 hown hg
  have HO := Lib.hid hown
  have HG := Lib.hid hg
  clear hown hg
  go_wp2
  go_loopw [4] (fun i wr => ∃ (k : Nat) (ys zs : List Value), k ≤ ks.length ∧ i = .int .i64 k ∧ Hid (ys.length = k * 4) ∧ Hid (wr.ownsRow w.heap.size 55 4 (.slice (some ⟨w.heap.size, 0, none⟩) ks.length ks.length) ks.length (ys ++ zs)) ∧ Hid (OwnsL wr (w.heap.size + 1) wr.heap.size (ks.take k) ys) ∧ Hid (Below w.heap.size w wr))
    (fun i _ => ks.length - (intOf i).toNat)
  case atStart => exact ⟨0, [], _, Nat.zero_le _, rfl, rfl, HO.out, ⟨rfl, by have := HO.out.lt _ rfl; omega⟩, below_none HG.out⟩
  case round =>
    obtain ⟨k, ys, zs, hk, rfl, hy, hrow, hol, hbe⟩ := hrel
    by_cases hlt : k < ks.length
    · obtain ⟨g, o, rfl, hl⟩ := HK.out (by omega)
      obtain ⟨ka, kc, c0, c1, c2, c3, hl2⟩ := (hl.keep (keeps_below hbe.out)).at k hlt
      have C := Lib.hid (IH.out ks[k] (List.getElem_mem hlt) _ wr (szT_le (List.getElem_mem hlt) HZ.out) hl2)
      clear hl hl2
      go_wp2_with fail
      refine C.out.mono ?_
      rintro e w2 ⟨v2, rfl, how, hb2⟩
      obtain ⟨va, vc, rfl⟩ := how.shape
      have HOw := Lib.hid how
      have HB2 := Lib.hid hb2
      have R2 := Lib.hid (row_below hrow.out hb2)
      clear how hb2
      have f0 := R2.out.frozenAt (k * 4)
      have f1 := R2.out.frozenAt (k * 4 + 1)
      have f2 := R2.out.frozenAt (k * 4 + 2)
      have f3 := R2.out.frozenAt (k * 4 + 3)
      obtain ⟨u0, s0⟩ := row_some R2.out (j := k * 4) (by omega)
      obtain ⟨u1, s1⟩ := row_some R2.out (j := k * 4 + 1) (by omega)
      obtain ⟨u2, s2⟩ := row_some R2.out (j := k * 4 + 2) (by omega)
      obtain ⟨u3, s3⟩ := row_some R2.out (j := k * 4 + 3) (by omega)
      obtain ⟨zs2, hr4, hg4⟩ := row_put4 R2.out hy.out hlt (.int .i64 ks[k].kind) (.int .i64 ks[k].num) (.string ks[k].name) (.slice va ks[k].kids.length vc)
      have HR4 := Lib.hid hr4
      have HG4 := Lib.hid hg4
      clear hr4 hg4
      go_wp2
      go_roundw
      case rel =>
        refine ⟨k + 1, ys ++ cellsT ks[k] (.slice va ks[k].kids.length vc), zs2, by omega, by go_num, ?_, HR4.out, ?_, ?_⟩
        · show _ = _
          rw [List.length_append, hy.out]; simp [cellsT]; omega
        · have hlt0 : w.heap.size < wr.heap.size := (hrow.out.lt _ rfl).2
          have e1 : List.take (k + 1) ks = List.take k ks ++ [ks[k]] := List.take_succ_eq_append_getElem hlt
          rw [e1]
          refine OwnsL.snoc (mid := wr.heap.size) (OwnsL.same (fun b h1 h2 => ?_) hol.out) (Owns.same (fun b h1 h2 => ?_) (HOw.out.wide (Nat.le_refl _) HG4.out.size))
          · exact (HG4.out.block b (Nat.lt_of_lt_of_le h2 HB2.out.size) (by simp; omega)).trans (HB2.out.block b h2)
          · exact HG4.out.block b (by simpa using h2) (by simp; omega)
        · exact (hbe.out.trans (HB2.out.mono hbe.out.size)).grown HG4.out (Nat.le_trans hbe.out.size HB2.out.size) (fun b hb => by cases hb; exact Nat.le_refl _)
      case measure => simp [intOf]; omega
    · obtain rfl : k = ks.length := by omega
      have hz : zs = [] := List.eq_nil_of_length_eq_zero (by have := hrow.out.1; rw [List.length_append, hy.out] at this; omega)
      have HZS := Lib.hid hz
      clear hz
      go_wp2
      go_ret
      have h1 := hrow.out
      have h2 := hol.out
      rw [HZS.out, List.append_nil] at h1
      rw [List.take_length] at h2
      exact ⟨_, rfl, ⟨ys, w.heap.size + 1, h1, by omega, fun b hb => by cases hb; exact Nat.lt_succ_self _, h2⟩, hbe.out⟩
theorem toTerm_any : ∀ t : Tree, ToOk t := treeInd fun k n s ks ih v w hz hl => by
  obtain ⟨h1, h2, h3, h4, aa, cap, rfl, h5⟩ := hl
  have hz2 : ks.length + szS ks ≤ 1048576 := by rw [szT] at hz; omega
  have C := Lib.hid (fun w => toS_any ks ih aa cap w hz2)
  have H5 := Lib.hid h5
  have H1 := Lib.hid h1
  have H2 := Lib.hid h2
  clear ih h5 hz hz2 h1 h2
  go_enter Try.func41, Try.ntmps41
  go_wp2_with fail
  refine (C.out _ (fun h => by obtain ⟨g, o, e, hl⟩ := H5.out h; exact ⟨g, o, e, hl.keep (((keeps_alloc _ _).trans (keeps_alloc _ _)).trans (keeps_alloc _ _))⟩)).mono ?_
  rintro e w1 ⟨kv, rfl, hok, hb1⟩
  have HOK := Lib.hid hok
  have HB1 := Lib.hid hb1
  obtain ⟨xs, m, hrow, _⟩ := hok
  obtain ⟨va, vc, rfl, _⟩ := lies_of_row hrow
  have hz : w.heap.size + 2 < w1.heap.size := by have := hb1.size; simp at this; omega
  obtain ⟨hc, hf⟩ := bcell hb1
  clear hrow hb1
  go_wp2
  refine bodyPost_ret (v := .agg #[.int .i64 k, .int .i64 n, .string s, .slice va ks.length vc]) (by simp [results, Try.results41, go_sem, hc]) rfl ⟨_, rfl, ?_, ?_⟩
  · refine Owns.mk (t := .node k n s ks) H1.out H2.out h3 ?_
    refine OwnsK.wide (by simp; omega) (by simp) (OwnsK.same (fun b h1 h2 => ?_) HOK.out)
    simp at h1
    rw [heap_setCell_other _ _ _ _ (by simp; omega), heap_setCell_other _ _ _ _ (by simp; omega), heap_setCell_other _ _ _ _ (by simp; omega), heap_setCell_other _ _ _ _ (by simp; omega), heap_setCell_other _ _ _ _ (by simp; omega)]
  · exact ((((((((Below.refl w.heap.size w).alloc (Nat.le_refl _) _).alloc (by simp) _).alloc (by simp; omega) _).trans (HB1.out.mono (by simp; omega))).setCell (by simp; omega) _).setCell (by simp) _).setCell (by simp) _).setCell (by simp) _ |>.setCell (by simp) _
/-- A call of the copy, told from the worlds that the boxes were laid in. -/
theorem to_at (t : Tree) (v : Value) (w W x : World) (hl : Lies w t v) (hz : szT t ≤ 1048576) (h1 : Keeps w W) (h2 : Keeps W x) (h3 : Below w.heap.size w x) :
    Calls Try.prog 41 #[v] x fun e w' => ∃ v', e = .returned v' ∧ Lies w' t v' ∧ Keeps x w' ∧ Keeps W w' ∧ Below w.heap.size w w' :=
  (toTerm_any t v x hz (hl.keep (h1.trans h2))).mono fun _ _ ⟨v', he, ho, hb⟩ => ⟨v', he, ho.lies, keeps_below hb, h2.trans (keeps_below hb), h3.trans (hb.mono h3.size)⟩
end Go.Proofs.Ytofmccihehalcaa.Trm
/- The program's reading of a term's kids, walked. Conditions: the term lies in memory; at most 6 kinds with kids are left; the kids' own reading answers as it should. -/
namespace Go.Proofs.Ytofmccihehalcaa.Trm
open Go.RowKit Go.Proofs.Ytofmccihehalcaa.Own Lexs
theorem set_midK (ys : List Value) (z : Value) (zs : List Value) (u : Value) (j : Nat) (h : ys.length = j) : (ys ++ z :: zs).set j u = (ys ++ [u]) ++ zs := by
  subst h
  rw [List.set_append_right _ _ (Nat.le_refl _), Nat.sub_self, List.set_cons_zero]
  simp
theorem infoRight : (Try.prog.info? 88).map (fun i => (i.zero, i.size, i.bytes)) = some (some .nilIface, 1, 16) := by kernel_rfl
theorem rtV_iface : ∀ t : Tree, ∃ ty pv, rtV t = .iface ty pv
  | .node k n s ks => by
    rw [rtV]
    by_cases h1 : k = 1
    · rw [if_pos h1]; exact ⟨_, _, rfl⟩
    · by_cases h2 : k = 2
      · rw [if_neg h1, if_pos h2]; exact ⟨_, _, rfl⟩
      · by_cases h8 : k = 8
        · rw [if_neg h1, if_neg h2, if_pos h8]; exact ⟨_, _, rfl⟩
        · rw [if_neg h1, if_neg h2, if_neg h8]; exact ⟨_, _, rfl⟩
def KidsPost (ks : List Tree) (r : Nat) (w : World) (e : Ending) (w' : World) : Prop := Below w.heap.size w w' ∧ ((rightS ks r = true ∧ ∃ g, e = .returned (.tuple #[.slice (some ⟨g, 0, none⟩) ks.length ks.length, .bool true]) ∧ ∀ (i : Nat) (h : i < ks.length), w'.cell? ⟨g, i, none⟩ = some (rtV ks[i])) ∨ (rightS ks r = false ∧ e = .returned (.tuple #[.slice none 0 0, .bool false])))
def KidsNo (w : World) (e : Ending) (w' : World) : Prop := e = .returned (.tuple #[.slice none 0 0, .bool false]) ∧ Below w.heap.size w w'
set_option maxHeartbeats 800000 in
theorem rightKids_bad (k n m : Int) (s : ByteArray) (ks : List Tree) (aa : Option Addr) (cap r : Nat) (w : World) (_hlen : ks.length ≤ 9223372036854775807) (h : ¬ (n = 0 ∧ s.size = 0 ∧ (ks.length : Int) = m ∧ r ≠ 0)) :
    Calls Try.prog 76 #[.agg #[.int .i64 k, .int .i64 n, .string s, .slice aa ks.length cap], .int .i64 m, .int .i64 (r : Int)] w (KidsNo w) := by
  by_cases hn : n = 0
  · by_cases hs : s.size = 0
    · by_cases hm : (ks.length : Int) = m
      · have hr : r = 0 := Decidable.byContradiction fun hr => h ⟨hn, hs, hm, hr⟩
        subst hr hn
        have he := empty_true hs
        have hq : ((ks.length : Int) != m) = false := by simp [hm]
        clear hm hs h
        go_enter Try.func76, Try.ntmps76
        go_wp2
        go_ret2
        exact ⟨rfl, (Below.refl _ _).alloc (Nat.le_refl _) _⟩
      · have hq : ((ks.length : Int) != m) = true := by simp [hm]
        subst hn
        have he := empty_true hs
        clear hm hs h
        go_enter Try.func76, Try.ntmps76
        go_wp2
        go_ret2
        exact ⟨rfl, (Below.refl _ _).alloc (Nat.le_refl _) _⟩
    · subst hn
      have he := empty_false hs
      clear hs h
      go_enter Try.func76, Try.ntmps76
      go_wp2
      go_ret2
      exact ⟨rfl, (Below.refl _ _).alloc (Nat.le_refl _) _⟩
  · have hq : (n != 0) = true := by simp [hn]
    clear hn h
    go_enter Try.func76, Try.ntmps76
    go_wp2
    go_ret2
    exact ⟨rfl, (Below.refl _ _).alloc (Nat.le_refl _) _⟩
set_option maxHeartbeats 1600000 in
theorem rightKids_go (k : Int) (s : ByteArray) (ks : List Tree) (ih : ∀ t, t ∈ ks → RightI t) (aa : Option Addr) (cap r : Nat) (w : World) (hlen : ks.length ≤ 2) (hr0 : r ≠ 0) (hr : r ≤ 6) (hs : s.size = 0) (hk : 0 < ks.length → ∃ g o, aa = some ⟨g, o, none⟩ ∧ LiesL w g o ks) :
    Calls Try.prog 76 #[.agg #[.int .i64 k, .int .i64 0, .string s, .slice aa ks.length cap], .int .i64 (ks.length : Int), .int .i64 (r : Int)] w (KidsPost ks (r - 1) w) := by
  obtain ⟨i0, hi, hz0, hz1, hz2⟩ := info_parts infoRight
  have IH := Lib.hid ih
  have HK := Lib.hid hk
  have he := empty_true hs
  have hrz : ((r : Int) == 0) = false := ne_true (by omega)
  have HE := Lib.hid (show ((r - 1 : Nat) : Int) = (r : Int) - 1 from by omega)
  have hr1 : 0 < r := by omega
  clear ih hk hs hr0
  go_enter Try.func76, Try.ntmps76
  go_wp2_with (at_make; refine wpList_make_full _ rfl (.tmp 32) (.tmp 32) 96 rfl (w.heap.size + 1) 88 i0 _ 1 Try.underlying96 hi hz0 hz1 .i64 .i64 _ _ ks.length rfl rfl rfl rfl (by rw [hz2]; omega) (by unfold maxLen; omega) (by simp) ?_)
  intro w1 hown hg
  have HO := Lib.hid hown
  have B1 := Lib.hid (((Below.refl w.heap.size w).alloc (Nat.le_refl _) _).grown hg (by simp) (fun b hb => by cases hb))
  have X1 := Lib.hid ((Box4.new w (.int .i64 k) (.int .i64 0) (.string s) (.slice aa ks.length cap) 55).keep (keeps_below (below_none hg)))
  clear hown hg
  obtain ⟨p0, p1, p2, p3⟩ := X1.out
  go_wp2
  go_loopw [37] (fun i wr => ∃ (j : Nat) (zs : List Value), j ≤ ks.length ∧ i = .int .i64 j ∧ Hid (rightS ks (r - 1) = rightS (ks.drop j) (r - 1)) ∧ Hid (wr.ownsRow (w.heap.size + 1) 88 1 (.slice (some ⟨w.heap.size + 1, 0, none⟩) ks.length ks.length) ks.length ((ks.take j).map rtV ++ zs)) ∧ Hid (Below w.heap.size w wr))
    (fun i _ => ks.length - (intOf i).toNat)
  case atStart => exact ⟨0, _, Nat.zero_le _, rfl, rfl, Lib.hid (by simpa using HO.out), B1.out⟩
  case round =>
    obtain ⟨j, zs, hj, rfl, hsz, hrow, hbe⟩ := hrel
    by_cases hlt : j < ks.length
    · obtain ⟨g, o, rfl, hl⟩ := HK.out (by omega)
      obtain ⟨ka, kc, c0, c1, c2, c3, hl2⟩ := (hl.keep (keeps_below hbe.out)).at j hlt
      have C := Lib.hid (IH.out ks[j] (List.getElem_mem hlt) _ (wr.alloc (.cells #[.int .i64 ks[j].kind, .int .i64 ks[j].num, .string ks[j].name, .slice ka ks[j].kids.length kc] 55)) (r - 1) (by omega) (hl2.keep (keeps_alloc _ _)))
      have hd := rightS_at (r := r - 1) hlt
      rw [HE.out] at C
      clear hl hl2
      go_wp2_with fail
      refine C.out.mono ?_
      rintro e w2 ⟨x, rfl, hx, hb2⟩
      have HB2 := Lib.hid (hbe.out.trans ((below_box1 hb2).mono hbe.out.size))
      have R2 := Lib.hid (row_below hrow.out (below_box1 hb2))
      clear hb2
      cases hq2 : rightB ks[j] (r - 1) with
      | false =>
        have HS2 : Hid (rightS ks (r - 1) = false) := by show _ = _; rw [hsz.out, hd, hq2]; rfl
        clear hq2 hd hx
        go_wp2
        go_ret2
        exact ⟨HB2.out, .inr ⟨HS2.out, rfl⟩⟩
      | true =>
        obtain ⟨ty, pv, hi2⟩ := rtV_iface ks[j]
        obtain rfl : x = .iface ty pv := (hx.1 hq2).trans hi2
        have HX := Lib.hid hi2
        clear hi2
        have HS2 : Hid (rightS ks (r - 1) = rightS (ks.drop (j + 1)) (r - 1)) := by show rightS ks (r - 1) = _; rw [hsz.out, hd, hq2]; rfl
        clear hq2 hd hx
        have hls := R2.out.1
        simp only [List.length_append, List.length_map, List.length_take] at hls
        obtain ⟨z, zs2, rfl⟩ : ∃ z zs2, zs = z :: zs2 := by
          cases zs with
          | nil => simp at hls; omega
          | cons z r => exact ⟨z, r, rfl⟩
        have f0 := R2.out.frozenAt j
        obtain ⟨u0, s0⟩ : ∃ u, w2.cell? ⟨w.heap.size + 1, j, none⟩ = some u := ⟨_, (R2.out.cellAt j (by omega)).trans (List.getElem?_eq_getElem (by rw [R2.out.1]; omega))⟩
        obtain ⟨hr2, hg2⟩ := R2.out.stored j (.iface ty pv)
        rw [set_midK _ _ _ _ j (by simp; omega)] at hr2
        have HR2 : Hid ((w2.setCell ⟨w.heap.size + 1, j, none⟩ (.iface ty pv)).ownsRow (w.heap.size + 1) 88 1 (.slice (some ⟨w.heap.size + 1, 0, none⟩) ks.length ks.length) ks.length ((ks.take (j + 1)).map rtV ++ zs2)) := by
          have e : (ks.take (j + 1)).map rtV = (ks.take j).map rtV ++ [rtV ks[j]] := by rw [List.take_succ_eq_append_getElem hlt]; simp only [List.map_append, List.map_cons, List.map_nil]
          rw [e, HX.out]
          exact hr2
        have HB3 := Lib.hid (HB2.out.grown hg2 HB2.out.size (fun b hb => by cases hb; omega))
        clear hls hr2 hg2
        go_wp2
        go_roundw
        case rel => exact ⟨j + 1, zs2, by omega, by go_num, HS2, HR2, HB3⟩
        case measure => simp [intOf]; omega
    · obtain rfl : j = ks.length := by omega
      have h1 := hrow.out
      rw [List.take_length] at h1
      have hz : zs = [] := by have := h1.1; simpa using this
      rw [hz, List.append_nil] at h1
      have H1 := Lib.hid h1
      have HS2 : Hid (rightS ks (r - 1) = true) := by show _ = _; rw [hsz.out, rightS_end (by omega)]
      clear h1 hz
      go_wp2
      go_ret2
      exact ⟨hbe.out, .inl ⟨HS2.out, _, rfl, fun i hi => by rw [H1.out.cellAt i (by omega)]; simp [hi]⟩⟩
end Go.Proofs.Ytofmccihehalcaa.Trm
/- The program's own reading of any term as one that is right, and TermOk, walked. Conditions: the term lies in memory; at most 6 kinds with kids are left. -/
namespace Go.Proofs.Ytofmccihehalcaa.Trm
open Go.RowKit Go.Proofs.Ytofmccihehalcaa.Own Lexs
/-- What stands between two kids. -/
def pairSg (k : Int) : ByteArray := if k = 3 then ⟨#[43]⟩ else if k = 4 then ⟨#[45]⟩ else if k = 5 then ⟨#[42]⟩ else if k = 6 then ⟨#[60]⟩ else if k = 7 then ⟨#[61, 61]⟩ else if k = 9 then ⟨#[97, 110, 100]⟩ else ⟨#[]⟩
theorem pairSg_some {k : Int} (h1 : 3 ≤ k) (h2 : k ≤ 9) (h8 : k ≠ 8) : ¬ (pairSg k).size = 0 := by
  rcases (by omega : k = 3 ∨ k = 4 ∨ k = 5 ∨ k = 6 ∨ k = 7 ∨ k = 9) with rfl | rfl | rfl | rfl | rfl | rfl <;> decide
theorem pairSg_none {k : Int} (h : ¬ (3 ≤ k ∧ k ≤ 9)) : (pairSg k).size = 0 := by
  unfold pairSg
  rw [if_neg (by omega), if_neg (by omega), if_neg (by omega), if_neg (by omega), if_neg (by omega), if_neg (by omega)]; rfl
theorem implPairSign_any (k : Int) (w : World) : Calls Try.prog 77 #[.int .i64 k] w fun e w' => e = .returned (.string (pairSg k)) ∧ w = w' := by
  by_cases h : k = 3 ∨ k = 4 ∨ k = 5 ∨ k = 6 ∨ k = 7 ∨ k = 9
  · rcases h with rfl | rfl | rfl | rfl | rfl | rfl
    all_goals
      go_enter Try.func77, Try.ntmps77
      go_wp2
      go_ret
      exact ⟨rfl, rfl⟩
  · have e3 := ne_true (k := k) (x := 3) (by omega)
    have e4 := ne_true (k := k) (x := 4) (by omega)
    have e5 := ne_true (k := k) (x := 5) (by omega)
    have e6 := ne_true (k := k) (x := 6) (by omega)
    have e7 := ne_true (k := k) (x := 7) (by omega)
    have e9 := ne_true (k := k) (x := 9) (by omega)
    have HS : Hid (pairSg k = ⟨#[]⟩) := by
      show _ = _
      unfold pairSg
      rw [if_neg (by omega), if_neg (by omega), if_neg (by omega), if_neg (by omega), if_neg (by omega), if_neg (by omega)]
    clear h
    go_enter Try.func77, Try.ntmps77
    go_wp2
    go_ret
    exact ⟨by rw [HS.out]; rfl, rfl⟩
set_option maxHeartbeats 1600000 in
theorem rightI_not (n : Int) (s : ByteArray) (ks : List Tree) (ih : ∀ t, t ∈ ks → RightI t) (v : Value) (w : World) (r : Nat) (hr : r ≤ 6) (hl : Lies w (.node 8 n s ks) v) :
    Calls Try.prog 72 #[v, .int .i64 (r : Int)] w (RightPost (.node 8 n s ks) r w) := by
  obtain ⟨h1, h2, h3, h4, aa, cap, rfl, h5⟩ := hl
  have HR : Hid (rightB (.node 8 n s ks) r = (decide (n = 0) && decide (s.size = 0) && decide ((ks.length : Int) = 1) && decide (r ≠ 0) && rightS ks (r - 1))) := by
    show _ = _; rw [rightB, if_neg (by decide), if_neg (by decide)]; simp [manyK]
  have X0 := Lib.hid (Box4.new w (.int .i64 8) (.int .i64 n) (.string s) (.slice aa ks.length cap) 55)
  obtain ⟨p0, p1, p2, p3⟩ := X0.out
  by_cases hg : n = 0 ∧ s.size = 0 ∧ (ks.length : Int) = 1 ∧ r ≠ 0
  · obtain ⟨rfl, hs, hm, hr0⟩ := hg
    obtain ⟨a, rfl⟩ : ∃ a, ks = [a] := by
      match ks, hm with
      | [a], _ => exact ⟨a, rfl⟩
      | [], h => simp at h
      | a :: b :: c, h => simp at h; omega
    have HR2 : Hid (rightB (.node 8 0 s [a]) r = rightS [a] (r - 1)) := by show _ = _; rw [HR.out]; simp [hs, hr0]
    have C := Lib.hid (rightKids_go 8 s [a] ih aa cap r (w.alloc (.cells #[.int .i64 8, .int .i64 0, .string s, .slice aa [a].length cap] 55)) (by simp) hr0 hr hs (fun hp => by obtain ⟨g, o, rfl, hl⟩ := h5 hp; exact ⟨g, o, rfl, hl.keep (keeps_alloc _ _)⟩))
    obtain ⟨ty, pv, hi⟩ := rtV_iface a
    have HI := Lib.hid hi
    simp only [List.length_cons, List.length_nil] at p3 C ⊢
    clear h1 h2 h3 h4 h5 ih hi hs hm hr0
    go_enter Try.func72, Try.ntmps72
    go_wp2_with fail
    refine C.out.mono ?_
    rintro e w1 ⟨hb, hc⟩
    have B1 := Lib.hid (below_box1 hb)
    clear hb
    rcases hc with ⟨hs1, g, rfl, hcell⟩ | ⟨hs1, rfl⟩
    · have c0 : w1.cell? ⟨g, 0, none⟩ = some (.iface ty pv) := by rw [← HI.out]; exact hcell 0 (by simp)
      have HQ : Hid (rightB (.node 8 0 s [a]) r = true) := by show _ = _; rw [HR2.out, hs1]
      clear hs1 hcell
      go_wp2
      go_ret2
      exact rightPost_yes (x := .iface 100 (.agg #[.iface ty pv])) HQ.out (by rw [rtV_not (by simp), ← HI.out]; rfl) rfl B1.out
    · have HQ : Hid (rightB (.node 8 0 s [a]) r = false) := by show _ = _; rw [HR2.out, hs1]
      clear hs1
      go_wp2
      go_ret2
      exact rightPost_no HQ.out rfl B1.out
  · have HQ : Hid (rightB (.node 8 n s ks) r = false) := by
      show _ = _; rw [HR.out, Bool.eq_false_iff]; intro hh
      simp only [Bool.and_eq_true, decide_eq_true_eq] at hh
      exact hg ⟨hh.1.1.1.1, hh.1.1.1.2, hh.1.1.2, hh.1.2⟩
    have C := Lib.hid (rightKids_bad 8 n 1 s ks aa cap r (w.alloc (.cells #[.int .i64 8, .int .i64 n, .string s, .slice aa ks.length cap] 55)) h4 hg)
    clear h1 h2 h3 h4 h5 ih hg
    go_enter Try.func72, Try.ntmps72
    go_wp2_with fail
    refine C.out.mono ?_
    rintro e w1 ⟨rfl, hb⟩
    have B1 := Lib.hid (below_box1 hb)
    clear hb
    go_wp2
    go_ret2
    exact rightPost_no HQ.out rfl B1.out
set_option maxHeartbeats 1600000 in
theorem rightI_pair (k n : Int) (s : ByteArray) (ks : List Tree) (ih : ∀ t, t ∈ ks → RightI t) (hk1 : k ≠ 1) (hk2 : k ≠ 2) (hk8 : k ≠ 8) (hk : 3 ≤ k ∧ k ≤ 9) (v : Value) (w : World) (r : Nat) (hr : r ≤ 6) (hl : Lies w (.node k n s ks) v) :
    Calls Try.prog 72 #[v, .int .i64 (r : Int)] w (RightPost (.node k n s ks) r w) := by
  obtain ⟨h1, h2, h3, h4, aa, cap, rfl, h5⟩ := hl
  have HR : Hid (rightB (.node k n s ks) r = (decide (n = 0) && decide (s.size = 0) && decide ((ks.length : Int) = 2) && decide (r ≠ 0) && rightS ks (r - 1))) := by
    show _ = _; rw [rightB, if_neg hk1, if_neg hk2]; simp [many_other hk8, hk]
  have X0 := Lib.hid (Box4.new w (.int .i64 k) (.int .i64 n) (.string s) (.slice aa ks.length cap) 55)
  obtain ⟨p0, p1, p2, p3⟩ := X0.out
  have e1 := ne_true hk1
  have e2 := ne_true hk2
  have e8 := ne_true hk8
  have CP := Lib.hid (implPairSign_any k)
  have hq := empty_false (pairSg_some hk.1 hk.2 hk8)
  generalize pairSg k = sg at CP hq
  by_cases hg : n = 0 ∧ s.size = 0 ∧ (ks.length : Int) = 2 ∧ r ≠ 0
  · obtain ⟨rfl, hs, hm, hr0⟩ := hg
    obtain ⟨a, b, rfl⟩ : ∃ a b, ks = [a, b] := by
      match ks, hm with
      | [a, b], _ => exact ⟨a, b, rfl⟩
      | [], h => simp at h
      | [a], h => simp at h
      | a :: b :: c :: d, h => simp at h; omega
    have HR2 : Hid (rightB (.node k 0 s [a, b]) r = rightS [a, b] (r - 1)) := by show _ = _; rw [HR.out]; simp [hs, hr0]
    have C := Lib.hid (rightKids_go k s [a, b] ih aa cap r (w.alloc (.cells #[.int .i64 k, .int .i64 0, .string s, .slice aa [a, b].length cap] 55)) (by simp) hr0 hr hs (fun hp => by obtain ⟨g, o, rfl, hl⟩ := h5 hp; exact ⟨g, o, rfl, hl.keep (keeps_alloc _ _)⟩))
    obtain ⟨ty, pv, hi⟩ := rtV_iface a
    obtain ⟨ty2, pv2, hi2⟩ := rtV_iface b
    have HI := Lib.hid hi
    have HI2 := Lib.hid hi2
    have HX : Hid (.iface 103 (.agg #[.int .i64 k, .iface ty pv, .iface ty2 pv2]) = rtV (.node k 0 s [a, b])) := by
      show _ = _; rw [rtV_pair hk1 hk2 hk8 (by simp), ← hi, ← hi2]; rfl
    simp only [List.length_cons, List.length_nil] at p3 C ⊢
    clear h1 h2 h3 h4 h5 ih hi hi2 hs hm hr0 hk1 hk2 hk8 hk
    go_enter Try.func72, Try.ntmps72
    go_wp2_with fail
    refine (CP.out _).mono ?_
    rintro e w1 ⟨rfl, rfl⟩
    go_wp2_with fail
    refine C.out.mono ?_
    rintro e w1 ⟨hb, hc⟩
    obtain ⟨q0, q1, q2, q3⟩ := X0.out.keep (keeps_below hb)
    have B1 := Lib.hid (below_box1 hb)
    clear hb
    rcases hc with ⟨hs1, g, rfl, hcell⟩ | ⟨hs1, rfl⟩
    · have c0 : w1.cell? ⟨g, 0, none⟩ = some (.iface ty pv) := by rw [← HI.out]; exact hcell 0 (by simp)
      have c1 : w1.cell? ⟨g, 1, none⟩ = some (.iface ty2 pv2) := by rw [← HI2.out]; exact hcell 1 (by simp)
      have HQ : Hid (rightB (.node k 0 s [a, b]) r = true) := by show _ = _; rw [HR2.out, hs1]
      clear hs1 hcell
      go_wp2
      go_quiet (fail)
      go_wp2
      go_ret2
      exact rightPost_yes (x := .iface 103 (.agg #[.int .i64 k, .iface ty pv, .iface ty2 pv2])) HQ.out HX.out rfl (below_drewNR B1.out _)
    · have HQ : Hid (rightB (.node k 0 s [a, b]) r = false) := by show _ = _; rw [HR2.out, hs1]
      clear hs1
      go_wp2
      go_ret2
      exact rightPost_no HQ.out rfl B1.out
  · have HQ : Hid (rightB (.node k n s ks) r = false) := by
      show _ = _; rw [HR.out, Bool.eq_false_iff]; intro hh
      simp only [Bool.and_eq_true, decide_eq_true_eq] at hh
      exact hg ⟨hh.1.1.1.1, hh.1.1.1.2, hh.1.1.2, hh.1.2⟩
    have C := Lib.hid (rightKids_bad k n 2 s ks aa cap r (w.alloc (.cells #[.int .i64 k, .int .i64 n, .string s, .slice aa ks.length cap] 55)) h4 hg)
    clear h1 h2 h3 h4 h5 ih hg hk1 hk2 hk8 hk
    go_enter Try.func72, Try.ntmps72
    go_wp2_with fail
    refine (CP.out _).mono ?_
    rintro e w1 ⟨rfl, rfl⟩
    go_wp2_with fail
    refine C.out.mono ?_
    rintro e w1 ⟨rfl, hb⟩
    have B1 := Lib.hid (below_box1 hb)
    clear hb
    go_wp2
    go_ret2
    exact rightPost_no HQ.out rfl B1.out
set_option maxHeartbeats 800000 in
theorem rightI_none (k n : Int) (s : ByteArray) (ks : List Tree) (hk1 : k ≠ 1) (hk2 : k ≠ 2) (hk8 : k ≠ 8) (hk : ¬ (3 ≤ k ∧ k ≤ 9)) (v : Value) (w : World) (r : Nat) (hl : Lies w (.node k n s ks) v) :
    Calls Try.prog 72 #[v, .int .i64 (r : Int)] w (RightPost (.node k n s ks) r w) := by
  obtain ⟨h1, h2, h3, h4, aa, cap, rfl, h5⟩ := hl
  have HQ : Hid (rightB (.node k n s ks) r = false) := by
    show _ = _; rw [rightB, if_neg hk1, if_neg hk2, Bool.eq_false_iff]; intro hh
    simp only [Bool.and_eq_true, decide_eq_true_eq] at hh
    exact hk ⟨hh.1.1.1.1.1.1, hh.1.1.1.1.1.2⟩
  have e1 := ne_true hk1
  have e2 := ne_true hk2
  have e8 := ne_true hk8
  have CP := Lib.hid (implPairSign_any k)
  have hq := empty_true (pairSg_none hk)
  generalize pairSg k = sg at CP hq
  clear h1 h2 h5 hk hk1 hk2 hk8
  go_enter Try.func72, Try.ntmps72
  go_wp2_with fail
  refine (CP.out _).mono ?_
  rintro e w1 ⟨rfl, rfl⟩
  go_wp2
  go_ret2
  exact rightPost_no HQ.out rfl ((Below.refl _ _).alloc (Nat.le_refl _) _)
theorem implRight_any : ∀ t : Tree, RightI t := treeInd fun k n s ks ih v w r hr hl => by
  by_cases h1 : k = 1
  · subst h1; exact rightI_num n s ks v w r hl
  · by_cases h2 : k = 2
    · subst h2; exact rightI_var n s ks v w r hl hl.2.2.1
    · by_cases h8 : k = 8
      · subst h8; exact rightI_not n s ks ih v w r hr hl
      · by_cases h : 3 ≤ k ∧ k ≤ 9
        · exact rightI_pair k n s ks ih h1 h2 h8 h v w r hr hl
        · exact rightI_none k n s ks h1 h2 h8 h v w r hl
end Go.Proofs.Ytofmccihehalcaa.Trm
/- The program's TermOk, walked. Conditions: the term lies in memory. -/
namespace Go.Proofs.Ytofmccihehalcaa.Trm
open Go.RowKit Go.Proofs.Ytofmccihehalcaa.Own Lexs
theorem implTermOk_any (t : Tree) (v : Value) (w : World) (hl : Lies w t v) :
    Calls Try.prog 65 #[v] w fun e w' => e = .returned (.bool (okB t)) ∧ Below w.heap.size w w' := by
  have C := Lib.hid (implRight_any t v (w.alloc (.cells v.cells 55)) 6 (by omega) (hl.keep (keeps_alloc _ _)))
  obtain ⟨aa, cap, rfl⟩ := hl.shape
  have X0 := Lib.hid (Box4.new w (.int .i64 t.kind) (.int .i64 t.num) (.string t.name) (.slice aa t.kids.length cap) 55)
  obtain ⟨p0, p1, p2, p3⟩ := X0.out
  clear hl
  go_enter Try.func65, Try.ntmps65
  go_wp2_with fail
  refine C.out.mono ?_
  rintro e w1 ⟨x, rfl, _, hb⟩
  have B1 := Lib.hid (below_box1 hb)
  clear hb
  go_wp2
  go_ret
  exact ⟨rfl, B1.out⟩
end Go.Proofs.Ytofmccihehalcaa.Trm
/- The library's question whether a text is in a row of texts, walked. Conditions: the row lies in memory. -/
namespace Go.Proofs.Ytofmccihehalcaa.Trm
open Go.RowKit Go.Proofs.Ytofmccihehalcaa.Own
theorem implHas_yes (ns : List ByteArray) (s : ByteArray) (nv : Value) (w : World) (hn : StrsAt w ns nv) (h : s ∈ ns) :
    Calls Try.prog 78 #[nv, .string s] w fun e w' => e = .returned (.bool true) ∧ Hid (w' = w) := by
  have C := Lib.hid (implIndex_any ns s nv w hn)
  obtain ⟨na, nc, rfl, hn1, hn2⟩ := hn
  have HM := Lib.hid h
  clear hn2 h
  go_enter Try.func78, Try.ntmps78
  go_wp2_with fail
  refine C.out.mono ?_
  rintro e w1 ⟨x, rfl, hx, rfl⟩
  rcases hx with ⟨i, hi, rfl, he, hf⟩ | ⟨rfl, hf⟩
  · clear he hf
    go_wp2
    go_ret
    exact ⟨rfl, rfl⟩
  · obtain ⟨j, hj, e⟩ := List.mem_iff_getElem.1 HM.out
    exact absurd e (hf j hj)
theorem implHas_no (ns : List ByteArray) (s : ByteArray) (nv : Value) (w : World) (hn : StrsAt w ns nv) (h : ¬ s ∈ ns) :
    Calls Try.prog 78 #[nv, .string s] w fun e w' => e = .returned (.bool false) ∧ Hid (w' = w) := by
  have C := Lib.hid (implIndex_any ns s nv w hn)
  obtain ⟨na, nc, rfl, hn1, hn2⟩ := hn
  have HM := Lib.hid h
  clear hn2 h
  go_enter Try.func78, Try.ntmps78
  go_wp2_with fail
  refine C.out.mono ?_
  rintro e w1 ⟨x, rfl, hx, rfl⟩
  rcases hx with ⟨i, hi, rfl, he, hf⟩ | ⟨rfl, hf⟩
  · exact absurd (he ▸ List.getElem_mem hi) HM.out
  · clear hf
    go_wp2
    go_ret
    exact ⟨rfl, rfl⟩
end Go.Proofs.Ytofmccihehalcaa.Trm
/- What a right term's type switch finds. Without conditions. -/
namespace Go.Proofs.Ytofmccihehalcaa.Trm
open Go.RowKit Go.Proofs.Ytofmccihehalcaa.Own Lexs
theorem as_num_num (W : World) (v : Value) : (Instr.typeAssert (.iface 93 v) 88 93 true).run Try.prog W = .ok (.tuple #[v, .bool true]) W := by kernel_rfl
theorem as_num_var (W : World) (v : Value) : (Instr.typeAssert (.iface 93 v) 88 95 true).run Try.prog W = .ok (.tuple #[.agg #[.string ⟨#[]⟩], .bool false]) W := by kernel_rfl
theorem as_num_not (W : World) (v : Value) : (Instr.typeAssert (.iface 93 v) 88 100 true).run Try.prog W = .ok (.tuple #[.agg #[.nilIface], .bool false]) W := by kernel_rfl
theorem as_num_pair (W : World) (v : Value) : (Instr.typeAssert (.iface 93 v) 88 103 true).run Try.prog W = .ok (.tuple #[.agg #[.int .i64 0, .nilIface, .nilIface], .bool false]) W := by kernel_rfl
theorem as_var_num (W : World) (v : Value) : (Instr.typeAssert (.iface 95 v) 88 93 true).run Try.prog W = .ok (.tuple #[.agg #[.int .i64 0], .bool false]) W := by kernel_rfl
theorem as_var_var (W : World) (v : Value) : (Instr.typeAssert (.iface 95 v) 88 95 true).run Try.prog W = .ok (.tuple #[v, .bool true]) W := by kernel_rfl
theorem as_var_not (W : World) (v : Value) : (Instr.typeAssert (.iface 95 v) 88 100 true).run Try.prog W = .ok (.tuple #[.agg #[.nilIface], .bool false]) W := by kernel_rfl
theorem as_var_pair (W : World) (v : Value) : (Instr.typeAssert (.iface 95 v) 88 103 true).run Try.prog W = .ok (.tuple #[.agg #[.int .i64 0, .nilIface, .nilIface], .bool false]) W := by kernel_rfl
theorem as_not_num (W : World) (v : Value) : (Instr.typeAssert (.iface 100 v) 88 93 true).run Try.prog W = .ok (.tuple #[.agg #[.int .i64 0], .bool false]) W := by kernel_rfl
theorem as_not_var (W : World) (v : Value) : (Instr.typeAssert (.iface 100 v) 88 95 true).run Try.prog W = .ok (.tuple #[.agg #[.string ⟨#[]⟩], .bool false]) W := by kernel_rfl
theorem as_not_not (W : World) (v : Value) : (Instr.typeAssert (.iface 100 v) 88 100 true).run Try.prog W = .ok (.tuple #[v, .bool true]) W := by kernel_rfl
theorem as_not_pair (W : World) (v : Value) : (Instr.typeAssert (.iface 100 v) 88 103 true).run Try.prog W = .ok (.tuple #[.agg #[.int .i64 0, .nilIface, .nilIface], .bool false]) W := by kernel_rfl
theorem as_pair_num (W : World) (v : Value) : (Instr.typeAssert (.iface 103 v) 88 93 true).run Try.prog W = .ok (.tuple #[.agg #[.int .i64 0], .bool false]) W := by kernel_rfl
theorem as_pair_var (W : World) (v : Value) : (Instr.typeAssert (.iface 103 v) 88 95 true).run Try.prog W = .ok (.tuple #[.agg #[.string ⟨#[]⟩], .bool false]) W := by kernel_rfl
theorem as_pair_not (W : World) (v : Value) : (Instr.typeAssert (.iface 103 v) 88 100 true).run Try.prog W = .ok (.tuple #[.agg #[.nilIface], .bool false]) W := by kernel_rfl
theorem as_pair_pair (W : World) (v : Value) : (Instr.typeAssert (.iface 103 v) 88 103 true).run Try.prog W = .ok (.tuple #[v, .bool true]) W := by kernel_rfl
end Go.Proofs.Ytofmccihehalcaa.Trm
/- The program's ReadsOf, walked. Conditions: the term lies in memory that is older than the list; it has at most 2 to the 20 kids and bytes. -/
namespace Go.Proofs.Ytofmccihehalcaa.Trm
open Go.RowKit Go.Proofs.Ytofmccihehalcaa.Own Lexs
/-! ### The terms within a right one -/
/-- What the method kids of a right term leaves. -/
def KidsOf (ks : List Tree) (w : World) (e : Ending) (w' : World) : Prop :=
  ∃ a, e = .returned (.slice a ks.length ks.length) ∧ Below w.heap.size w w' ∧ (0 < ks.length → ∃ g, a = some ⟨g, 0, none⟩ ∧ w.heap.size ≤ g ∧ ∀ i (h : i < ks.length), w'.cell? ⟨g, i, none⟩ = some (rtV ks[i]))
theorem kids_num (n : Int) (w : World) : Calls Try.prog 94 #[.agg #[.int .i64 n]] w (KidsOf [] w) := by
  go_enter Try.func94, Try.ntmps94
  go_wp2
  go_ret
  exact ⟨none, rfl, (Below.refl _ _).alloc (Nat.le_refl _) _, fun h => by simp at h⟩
theorem kids_var (s : ByteArray) (w : World) : Calls Try.prog 95 #[.agg #[.string s]] w (KidsOf [] w) := by
  go_enter Try.func95, Try.ntmps95
  go_wp2
  go_ret
  exact ⟨none, rfl, (Below.refl _ _).alloc (Nat.le_refl _) _, fun h => by simp at h⟩
theorem kids_not (a : Tree) (w : World) : Calls Try.prog 96 #[.agg #[rtV a]] w (KidsOf [a] w) := by
  obtain ⟨ty, pv, hi⟩ := rtV_iface a
  have HI := Lib.hid hi
  rw [hi]
  clear hi
  go_enter Try.func96, Try.ntmps96
  go_wp2
  go_ret
  refine ⟨some ⟨w.heap.size + 1, 0, none⟩, rfl, ((Below.refl _ _).alloc (Nat.le_refl _) _).alloc (by simp) _, fun _ => ⟨_, rfl, by omega, fun i h => ?_⟩⟩
  obtain rfl : i = 0 := by simpa using h
  simp [go_sem, HI.out]
theorem kids_pair (k : Int) (a b : Tree) (w : World) : Calls Try.prog 97 #[.agg #[.int .i64 k, rtV a, rtV b]] w (KidsOf [a, b] w) := by
  obtain ⟨ty, pv, hi⟩ := rtV_iface a
  obtain ⟨ty2, pv2, hi2⟩ := rtV_iface b
  have HI := Lib.hid hi
  have HI2 := Lib.hid hi2
  rw [hi, hi2]
  clear hi hi2
  go_enter Try.func97, Try.ntmps97
  go_wp2
  go_ret
  refine ⟨some ⟨w.heap.size + 1, 0, none⟩, rfl, ((Below.refl _ _).alloc (Nat.le_refl _) _).alloc (by simp) _, fun _ => ⟨_, rfl, by omega, fun i h => ?_⟩⟩
  have h2 : i < 2 := h
  match i, h2 with
  | 0, _ => simp [go_sem, HI.out]
  | 1, _ => simp [go_sem, HI2.out]
theorem mth_num (W : World) (v : Value) : (method 222 93 v "loop.example/g00966/impl.kids").run Try.prog W = .ok (94, v) W := by kernel_rfl
theorem mth_var (W : World) (v : Value) : (method 222 95 v "loop.example/g00966/impl.kids").run Try.prog W = .ok (95, v) W := by kernel_rfl
theorem mth_not (W : World) (v : Value) : (method 222 100 v "loop.example/g00966/impl.kids").run Try.prog W = .ok (96, v) W := by kernel_rfl
theorem mth_pair (W : World) (v : Value) : (method 222 103 v "loop.example/g00966/impl.kids").run Try.prog W = .ok (97, v) W := by kernel_rfl
/-! ### The names -/
/-- Cells of another block stay. -/
theorem Moves.cell {w w' : World} {v v' : Value} {g : Nat} (h : Moves w v w' v') (hg : g < w.heap.size) (hn : v.ownBlock ≠ some g) : (∀ i, w'.cell? ⟨g, i, none⟩ = w.cell? ⟨g, i, none⟩) ∧ v'.ownBlock ≠ some g := by
  have hb : w'.heap[g]? = w.heap[g]? := h.1.block g hg (fun e => hn e.symm)
  refine ⟨fun j => World.cell?_of_block hb, fun e => ?_⟩
  rcases h.2 with h2 | h2
  · exact hn (h2 ▸ e)
  · have := h2 g e; omega
theorem Moves.ofBelow {w w' : World} (h : Below w.heap.size w w') (v : Value) : Moves w v w' v := ⟨⟨h.os, h.tape, h.output, h.size, fun i hi _ => h.block i hi⟩, .inl rfl⟩
def ReadsI (t : Tree) : Prop := ∀ (ov : Value) (w0 w : World) (acc : List ByteArray) (r : Nat), rightB t r = true → acc.length + 1 + szT t ≤ 2000000 → Below w0.heap.size w0 w → w.ownsRow w0.heap.size 9 1 ov acc.length (strV acc) →
    Calls Try.prog 73 #[ov, rtV t] w fun e w' => ∃ ov', e = .returned ov' ∧ w'.ownsRow w0.heap.size 9 1 ov' (readsT t acc).length (strV (readsT t acc)) ∧ Moves w ov w' ov'
set_option maxHeartbeats 800000 in
/-- A right term that is no name: what is asked of its dynamic type stands among the hypotheses. -/
theorem readsI_more (ks : List Tree) (ih : ∀ t, t ∈ ks → ReadsI t) (ty : TypeId) (pv : Value) (kf : FuncId) (has : ∀ W, (Instr.typeAssert (.iface ty pv) 88 95 true).run Try.prog W = .ok (.tuple #[.agg #[.string ⟨#[]⟩], .bool false]) W)
    (hm : ∀ W, (method 222 ty pv "loop.example/g00966/impl.kids").run Try.prog W = .ok (kf, pv) W) (hcf : ∀ W, (callFunc kf #[pv]).run Try.prog W = .ok (.enter kf #[pv]) W) (hc : ∀ w, Calls Try.prog kf #[pv] w (KidsOf ks w)) (r : Nat) (hr : ∀ t, t ∈ ks → rightB t r = true)
    (ov : Value) (w0 w : World) (acc : List ByteArray) (ha : acc.length + ks.length + szS ks ≤ 2000000) (hbe : Below w0.heap.size w0 w) (hown : w.ownsRow w0.heap.size 9 1 ov acc.length (strV acc)) :
    Calls Try.prog 73 #[ov, .iface ty pv] w fun e w' => ∃ ov', e = .returned ov' ∧ w'.ownsRow w0.heap.size 9 1 ov' (readsL ks acc).length (strV (readsL ks acc)) ∧ Moves w ov w' ov' := by
  have HO := Lib.hid hown
  have HB := Lib.hid hbe
  have IH := Lib.hid ih
  have HC := Lib.hid hc
  have HRK := Lib.hid hr
  have HA := Lib.hid ha
  have hkl : ks.length ≤ 2000000 := by omega
  have hbs : w0.heap.size ≤ w.heap.size := hbe.size
  clear hown hbe ih hc hr ha
  go_enter Try.func73, Try.ntmps73
  go_wp2_with fail
  refine (HC.out _).mono ?_
  rintro e w1 ⟨ka, rfl, hb1, hk⟩
  have M1 := Lib.hid ((Moves.alloc w _ ov).trans (Moves.ofBelow hb1 ov))
  have R1 := Lib.hid (row_below (HO.out.alloc _) hb1)
  have HK : Hid (0 < ks.length → ∃ g, ka = some ⟨g, 0, none⟩ ∧ g < w1.heap.size ∧ ov.ownBlock ≠ some g ∧ ∀ i (h : i < ks.length), w1.cell? ⟨g, i, none⟩ = some (rtV ks[i])) := fun hp => by
    obtain ⟨g, rfl, hg, hcell⟩ := hk hp
    exact ⟨g, rfl, cell_lt (hcell 0 hp), fun e => by have := (HO.out.lt g e).2; simp at hg; omega, hcell⟩
  clear hb1 hk
  go_wp2
  go_loopw [0, 30] (fun x i wr => ∃ (j : Nat) (ac : List ByteArray), j ≤ ks.length ∧ i = .int .i64 j ∧ Hid (readsL ks acc = readsL (ks.drop j) ac) ∧ Hid (ac.length + (ks.length - j) + szS (ks.drop j) ≤ 2000000) ∧ Hid (wr.ownsRow w0.heap.size 9 1 x ac.length (strV ac)) ∧ Hid (Moves w ov wr x) ∧ Hid (0 < ks.length → ∃ g, ka = some ⟨g, 0, none⟩ ∧ g < wr.heap.size ∧ x.ownBlock ≠ some g ∧ ∀ i (h : i < ks.length), wr.cell? ⟨g, i, none⟩ = some (rtV ks[i])))
    (fun _ i _ => ks.length - (intOf i).toNat)
  case atStart => exact ⟨0, acc, Nat.zero_le _, rfl, rfl, HA.out, R1.out, M1.out, HK.out⟩
  case round =>
    obtain ⟨j, ac, hj, rfl, hsz, hz, hrow, hmv, hkk⟩ := hrel
    by_cases hlt : j < ks.length
    · obtain ⟨g, rfl, hg, hn, hcell⟩ := hkk.out (by omega)
      have hbr := hmv.out.below HB.out HO.out
      have hd := szS_drop hlt
      have C := Lib.hid (IH.out ks[j] (List.getElem_mem hlt) u0 w0 wr ac r (HRK.out _ (List.getElem_mem hlt)) (by have := hz.out; omega) hbr hrow.out)
      have c0 := hcell j hlt
      obtain ⟨ty1, pv1, hi⟩ := rtV_iface ks[j]
      rw [hi] at c0 C
      have HN := Lib.hid hn
      have HC2 := Lib.hid hcell
      have HS : Hid (readsL ks acc = readsL (ks.drop (j + 1)) (readsT ks[j] ac)) := by show readsL ks acc = _; rw [hsz.out, List.drop_eq_getElem_cons hlt, readsL]
      have HZ2 : Hid ((readsT ks[j] ac).length + (ks.length - (j + 1)) + szS (ks.drop (j + 1)) ≤ 2000000) := by show _ ≤ _; have := hz.out; have := readsT_le ks[j] ac; omega
      clear hd hbr hi hn hcell
      go_wp2_with fail
      refine C.out.mono ?_
      rintro e w2 ⟨ov1, rfl, hrow1, hmv1⟩
      have HR1 := Lib.hid hrow1
      have HK1 : Hid (0 < ks.length → ∃ g', some (⟨g, 0, none⟩ : Addr) = some ⟨g', 0, none⟩ ∧ g' < w2.heap.size ∧ ov1.ownBlock ≠ some g' ∧ ∀ i (h : i < ks.length), w2.cell? ⟨g', i, none⟩ = some (rtV ks[i])) := fun _ => by
        obtain ⟨h1, h2⟩ := hmv1.cell hg HN.out
        exact ⟨g, rfl, Nat.lt_of_lt_of_le hg hmv1.1.size, h2, fun i h => (h1 i).trans (HC2.out i h)⟩
      have HM1 := Lib.hid (hmv.out.trans hmv1)
      clear hrow1 hmv1
      go_wp2
      go_roundw
      case rel => exact ⟨j + 1, readsT ks[j] ac, by omega, by go_num, HS, HZ2, HR1.out, HM1.out, HK1.out⟩
      case measure => simp [intOf]; omega
    · have HS : Hid (readsL ks acc = ac) := by show _ = _; rw [hsz.out, List.drop_of_length_le (by omega), readsL]
      go_wp2
      go_ret
      exact ⟨_, rfl, by rw [HS.out]; exact hrow.out, hmv.out⟩
theorem cf_num (v : Value) (W : World) : (callFunc 94 #[v]).run Try.prog W = .ok (.enter 94 #[v]) W := by kernel_rfl
theorem cf_not (v : Value) (W : World) : (callFunc 96 #[v]).run Try.prog W = .ok (.enter 96 #[v]) W := by kernel_rfl
theorem cf_pair (v : Value) (W : World) : (callFunc 97 #[v]).run Try.prog W = .ok (.enter 97 #[v]) W := by kernel_rfl
set_option maxHeartbeats 800000 in
theorem readsI_var (s : ByteArray) (ov : Value) (w0 w : World) (acc : List ByteArray) (ha : acc.length + 1 ≤ 2000000) (hbe : Below w0.heap.size w0 w) (hown : w.ownsRow w0.heap.size 9 1 ov acc.length (strV acc)) :
    Calls Try.prog 73 #[ov, .iface 95 (.agg #[.string s])] w fun e w' => ∃ ov', e = .returned ov' ∧ w'.ownsRow w0.heap.size 9 1 ov' (addN acc s).length (strV (addN acc s)) ∧ Moves w ov w' ov' := by
  obtain ⟨i0, hi, hz0, hz1, hz2⟩ := info_parts infoStrR
  obtain ⟨oa, oc, rfl, hoa⟩ := row_shape hown
  have HO := Lib.hid hown
  have hbs : w0.heap.size ≤ w.heap.size := hbe.size
  have as1 := as_var_var
  have m1 := mth_var
  clear hown hoa hbe
  by_cases hm : s ∈ acc
  · have HR : Hid (addN acc s = acc) := addN_in hm
    have C := Lib.hid (implHas_yes acc s (.slice oa acc.length oc) (w.alloc (.cells #[.string s] 95)) (strs_of_row (HO.out.alloc _)) hm)
    clear hm
    go_enter Try.func73, Try.ntmps73
    go_wp2_with fail
    refine C.out.mono ?_
    rintro e w1 ⟨rfl, hw1⟩
    have R1 : Hid (w1.ownsRow w0.heap.size 9 1 (.slice oa acc.length oc) acc.length (strV acc)) := by show World.ownsRow _ _ _ _ _ _ _; rw [hw1.out]; exact HO.out.alloc _
    have M1 : Hid (Moves w (.slice oa acc.length oc) w1 (.slice oa acc.length oc)) := by show Moves _ _ _ _; rw [hw1.out]; exact Moves.alloc _ _ _
    clear hw1
    go_wp2_with fail
    refine (kids_var s _).mono ?_
    rintro e w2 ⟨ka, rfl, hb2, _⟩
    have R2 := Lib.hid (row_below R1.out hb2)
    have M2 := Lib.hid (M1.out.trans (Moves.ofBelow hb2 _))
    clear hb2
    go_wp2
    go_loopw [0, 30] (fun x i wr => x = .slice oa acc.length oc ∧ i = .int .i64 0 ∧ wr = w2) (fun _ _ _ => 0)
    case atStart => exact ⟨rfl, rfl, rfl⟩
    case round =>
      obtain ⟨rfl, rfl, rfl⟩ := hrel
      go_wp2
      go_ret
      exact ⟨_, rfl, by rw [HR.out]; exact R2.out, M2.out⟩
  · have HR : Hid (addN acc s = acc ++ [s]) := addN_out hm
    have C := Lib.hid (implHas_no acc s (.slice oa acc.length oc) (w.alloc (.cells #[.string s] 95)) (strs_of_row (HO.out.alloc _)) hm)
    clear hm
    go_enter Try.func73, Try.ntmps73
    go_wp2_with fail
    refine C.out.mono ?_
    rintro e w1 ⟨rfl, hw1⟩
    have R1 : Hid (w1.ownsRow w0.heap.size 9 1 (.slice oa acc.length oc) acc.length (strV acc)) := by show World.ownsRow _ _ _ _ _ _ _; rw [hw1.out]; exact HO.out.alloc _
    have M1 : Hid (Moves w (.slice oa acc.length oc) w1 (.slice oa acc.length oc)) := by show Moves _ _ _ _; rw [hw1.out]; exact Moves.alloc _ _ _
    have p0 : w1.cell? ⟨w.heap.size, 0, none⟩ = some (.string s) := by rw [hw1.out]; simp [go_sem]
    clear hw1
    go_wp2_with (at_builtin; refine wpList_append_lies _ rfl (.tmp 22) (.tmp 25) 22 rfl w0.heap.size 9 i0 (.string ⟨#[]⟩) 1 16 Try.underlying22 hi hz0 hz1 hz2 rfl (by decide) (.slice oa acc.length oc) acc.length _ rfl (R1.out.alloc _) ⟨w1.heap.size, 0, none⟩ 1 1 [.string s] rfl rfl (World.news_of_block (heap_alloc_new _ _)) (one_textR _) (by decide) (by unfold maxLen; omega) (by omega) (by have := M1.out.1.size; simp; omega) _ rfl ?_)
    intro g1 cap1 w2 hown1 hg1 hat1 hlt1
    have R2 : Hid (w2.ownsRow w0.heap.size 9 1 (.slice (some ⟨g1, 0, none⟩) (acc.length + 1) cap1) (acc.length + 1) (strV (acc ++ [s]))) := by
      show World.ownsRow _ _ _ _ _ _ _
      simpa [strV] using hown1
    have M2 : Hid (Moves w (.slice oa acc.length oc) w2 (.slice (some ⟨g1, 0, none⟩) (acc.length + 1) cap1)) := by
      refine M1.out.trans ((Moves.alloc _ _ _).trans ⟨hg1, ?_⟩)
      rcases hat1 with h | h
      · exact .inl h.symm
      · exact .inr fun k hk => by cases hk; simp; omega
    clear hown1 hg1 hat1 hlt1 p0
    go_wp2_with fail
    refine (kids_var s _).mono ?_
    rintro e w3 ⟨ka, rfl, hb3, _⟩
    have R3 := Lib.hid (row_below R2.out hb3)
    have M3 := Lib.hid (M2.out.trans (Moves.ofBelow hb3 _))
    clear hb3
    go_wp2
    go_loopw [0, 30] (fun x i wr => x = .slice (some ⟨g1, 0, none⟩) (acc.length + 1) cap1 ∧ i = .int .i64 0 ∧ wr = w3) (fun _ _ _ => 0)
    case atStart => exact ⟨rfl, rfl, rfl⟩
    case round =>
      obtain ⟨rfl, rfl, rfl⟩ := hrel
      go_wp2
      go_ret
      exact ⟨_, rfl, by rw [HR.out]; simpa using R3.out, M3.out⟩
theorem rightS_memR : ∀ {ks : List Tree} {r : Nat}, rightS ks r = true → ∀ t, t ∈ ks → rightB t r = true
  | [], _, _, t, ht => by cases ht
  | a :: ks, r, h, t, ht => by
    rw [rightS, Bool.and_eq_true] at h
    rcases List.mem_cons.1 ht with e | e
    · rw [e]; exact h.1
    · exact rightS_memR h.2 t e
theorem right_partsR {k n : Int} {s : ByteArray} {ks : List Tree} {r : Nat} (h : rightB (.node k n s ks) r = true) (h1 : k ≠ 1) (h2 : k ≠ 2) : 3 ≤ k ∧ k ≤ 9 ∧ n = 0 ∧ s.size = 0 ∧ (ks.length : Int) = manyK k ∧ r ≠ 0 ∧ ∀ t, t ∈ ks → rightB t (r - 1) = true := by
  rw [rightB, if_neg h1, if_neg h2] at h
  simp only [Bool.and_eq_true, decide_eq_true_eq] at h
  obtain ⟨⟨⟨⟨⟨⟨a, b⟩, c⟩, d⟩, e⟩, f⟩, g⟩ := h
  exact ⟨a, b, c, d, e, f, rightS_memR g⟩
theorem right_noKids {k n : Int} {s : ByteArray} {ks : List Tree} {r : Nat} (h : rightB (.node k n s ks) r = true) (hk : k = 1 ∨ k = 2) : ks = [] := by
  rcases hk with rfl | rfl
  · rw [rightB, if_pos rfl] at h
    simp only [Bool.and_eq_true, decide_eq_true_eq] at h
    exact List.length_eq_zero_iff.1 h.2
  · rw [rightB, if_neg (by decide), if_pos rfl] at h
    simp only [Bool.and_eq_true, decide_eq_true_eq] at h
    exact List.length_eq_zero_iff.1 h.2
theorem implReads_any : ∀ t : Tree, ReadsI t := treeInd fun k n s ks ih ov w0 w acc r hr ha hbe hown => by
  by_cases h2 : k = 2
  · subst h2
    rw [rtV_var, readsT, if_pos rfl]
    exact readsI_var s ov w0 w acc (by omega) hbe hown
  · rw [readsT, if_neg h2]
    rw [szT] at ha
    by_cases h1 : k = 1
    · subst h1
      obtain rfl := right_noKids hr (.inl rfl)
      rw [rtV_num]
      exact readsI_more [] ih _ _ _ (fun W => as_num_var W _) (fun W => mth_num W _) (fun W => cf_num _ W) (fun w => kids_num n w) (r - 1) (fun t ht => by cases ht) ov w0 w acc (by omega) hbe hown
    · obtain ⟨hk3, hk9, hn0, hs0, hlen, _, hrk⟩ := right_partsR hr h1 h2
      by_cases h8 : k = 8
      · subst h8
        have e1 : ks.length = 1 := by have : manyK 8 = 1 := rfl; omega
        rw [rtV_not (by omega)]
        match ks, e1 with
        | [a], _ => exact readsI_more [a] ih _ _ _ (fun W => as_not_var W _) (fun W => mth_not W _) (fun W => cf_not _ W) (fun w => kids_not a w) (r - 1) hrk ov w0 w acc (by omega) hbe hown
      · rw [many_other h8] at hlen
        have e2 : ks.length = 2 := by omega
        rw [rtV_pair h1 h2 h8 (by omega)]
        match ks, e2 with
        | [a, b], _ => exact readsI_more [a, b] ih _ _ _ (fun W => as_pair_var W _) (fun W => mth_pair W _) (fun W => cf_pair _ W) (fun w => kids_pair k a b w) (r - 1) hrk ov w0 w acc (by omega) hbe hown
set_option maxHeartbeats 400000 in
theorem implReadsOf_any (t : Tree) (v : Value) (w : World) (hl : Lies w t v) (hz : szT t ≤ 1048576) :
    Calls Try.prog 64 #[v] w fun e w' => ∃ ov, e = .returned ov ∧ w'.ownsRow w.heap.size 9 1 ov (readsOfT t).length (strV (readsOfT t)) ∧ Below w.heap.size w w' := by
  have C := Lib.hid (implRight_any t v (w.alloc (.cells v.cells 55)) 6 (by omega) (hl.keep (keeps_alloc _ _)))
  obtain ⟨aa, cap, rfl⟩ := hl.shape
  have X0 := Lib.hid (Box4.new w (.int .i64 t.kind) (.int .i64 t.num) (.string t.name) (.slice aa t.kids.length cap) 55)
  obtain ⟨p0, p1, p2, p3⟩ := X0.out
  obtain ⟨ty, pv, hi⟩ := rtV_iface t
  have HI := Lib.hid hi
  clear hl hi
  cases hb : rightB t 6 with
  | false =>
    have HR : Hid (readsOfT t = []) := by show _ = _; unfold readsOfT okB; rw [hb]; rfl
    unfold RightPost at C
    rw [hb] at C
    clear hb
    go_enter Try.func64, Try.ntmps64
    go_wp2_with fail
    refine C.out.mono ?_
    rintro e w1 ⟨x, rfl, _, hb1⟩
    have B1 := Lib.hid (below_box1 hb1)
    clear hb1
    go_wp2
    go_ret
    exact ⟨_, rfl, by rw [HR.out]; exact World.ownsRow_nil _ _ _ _, B1.out⟩
  | true =>
    have HR : Hid (readsOfT t = readsT t []) := by show _ = _; unfold readsOfT okB; rw [hb]; rfl
    have D := Lib.hid (fun w1 hbe => implReads_any t (.slice none 0 0) w w1 [] 6 hb (by simp; omega) hbe (World.ownsRow_nil _ _ _ _))
    rw [HI.out] at D
    unfold RightPost at C
    rw [hb, HI.out] at C
    clear hb
    go_enter Try.func64, Try.ntmps64
    go_wp2_with fail
    refine C.out.mono ?_
    rintro e w1 ⟨x, rfl, hx, hb1⟩
    obtain rfl : x = .iface ty pv := hx.1 trivial
    have B1 := Lib.hid (below_box1 hb1)
    clear hb1 hx
    go_wp2_with fail
    refine (D.out _ B1.out).mono ?_
    rintro e w2 ⟨ov, rfl, hrow, hmv⟩
    have HRow := Lib.hid hrow
    have HB2 := Lib.hid (hmv.below B1.out (World.ownsRow_nil (size := 1) w1 w.heap.size 9))
    clear hrow hmv
    go_wp2
    go_ret
    exact ⟨_, rfl, by rw [HR.out]; exact HRow.out, HB2.out⟩
end Go.Proofs.Ytofmccihehalcaa.Trm
/- What the program asks of an instruction's fields, walked. Conditions: the code lies in memory. -/
namespace Go.Proofs.Ytofmccihehalcaa.Trm
open Go.RowKit Go.Proofs.Ytofmccihehalcaa.Own
def argB (x : KTree) (y : InsT) : Bool := decide (0 ≤ y.arg ∧ y.arg ≤ mostI x y.op)
theorem argB_no {x : KTree} {y : InsT} (h : ¬ (y.op = 1 ∨ y.op = 6 ∨ y.op = 7 ∨ y.op = 4 ∨ y.op = 5)) : argB x y = decide (y.arg = 0) := by
  unfold argB mostI
  rw [if_neg (by omega), if_neg (by omega), if_neg (by omega)]
  by_cases h0 : y.arg = 0
  · simp [h0]
  · simp [h0]; omega
theorem argB_yes {x : KTree} {y : InsT} {m : Nat} {k : Int} (hk : y.op = k) (hm : mostI x k = (m : Int) - 1) : argB x y = (decide (0 ≤ y.arg) && decide (y.arg < (m : Int))) := by
  unfold argB
  rw [hk, hm]
  by_cases h0 : 0 ≤ y.arg
  · by_cases h1 : y.arg < (m : Int)
    · simp [h0, h1]; omega
    · simp [h1]; omega
  · simp [h0]
set_option maxHeartbeats 800000 in
theorem implArg_any (x : KTree) (y : InsT) (ga la pa ea ia ta : Option Addr) (gc lc pc ec ic n tc : Nat) (w : World) :
    Calls Try.prog 47 #[.agg #[.slice ga x.globals.length gc, .slice la x.locks.length lc, .slice pa x.procs.length pc, .slice ea x.entry.length ec, .slice ia n ic], .agg #[.int .i64 y.op, .int .i64 y.arg, .int .i64 y.term.kind, .int .i64 y.term.num, .string y.term.name, .slice ta y.term.kids.length tc, .int .i64 y.to]] w fun e w' => e = .returned (.bool (argB x y)) ∧ Below w.heap.size w w' := by
  have X0 := Lib.hid ((Box7.new (w.alloc (.cells #[.slice ga x.globals.length gc, .slice la x.locks.length lc, .slice pa x.procs.length pc, .slice ea x.entry.length ec, .slice ia n ic] 31)) (.int .i64 y.op) (.int .i64 y.arg) (.int .i64 y.term.kind) (.int .i64 y.term.num) (.string y.term.name) (.slice ta y.term.kids.length tc) (.int .i64 y.to) 57))
  obtain ⟨W1, hW1⟩ : ∃ W, W = (w.alloc (.cells #[.slice ga x.globals.length gc, .slice la x.locks.length lc, .slice pa x.procs.length pc, .slice ea x.entry.length ec, .slice ia n ic] 31)).alloc (.cells #[.int .i64 y.op, .int .i64 y.arg, .int .i64 y.term.kind, .int .i64 y.term.num, .string y.term.name, .slice ta y.term.kids.length tc, .int .i64 y.to] 57) := ⟨_, rfl⟩
  have hs1 : (w.alloc (.cells #[.slice ga x.globals.length gc, .slice la x.locks.length lc, .slice pa x.procs.length pc, .slice ea x.entry.length ec, .slice ia n ic] 31)).heap.size = w.heap.size + 1 := by simp
  have B1 : Hid (Below w.heap.size w W1) := by rw [hW1]; exact ((Below.refl w.heap.size w).alloc (Nat.le_refl _) _).alloc (by simp) _
  rw [← hW1, hs1] at X0
  have HW1 := Lib.hid hW1
  have CN := Lib.hid (fun w => implNamed_any y.op ga la pa x.globals.length gc x.locks.length lc x.procs.length pc (.slice ea x.entry.length ec) (.slice ia n ic) w)
  clear hW1 hs1
  by_cases hk : y.op = 1 ∨ y.op = 6 ∨ y.op = 7 ∨ y.op = 4 ∨ y.op = 5
  · obtain ⟨m, c, a, HV, HB⟩ : ∃ (m c : Nat) (a : Option Addr), Hid (namedV (.slice ga x.globals.length gc) (.slice la x.locks.length lc) (.slice pa x.procs.length pc) y.op = .slice a m c) ∧ Hid (argB x y = (decide (0 ≤ y.arg) && decide (y.arg < (m : Int)))) := by
      rcases hk with h | h | h | h | h
      · exact ⟨_, _, _, by rw [h]; rfl, argB_yes h rfl⟩
      · exact ⟨_, _, _, by rw [h]; rfl, argB_yes h rfl⟩
      · exact ⟨_, _, _, by rw [h]; rfl, argB_yes h rfl⟩
      · exact ⟨_, _, _, by rw [h]; rfl, argB_yes h rfl⟩
      · exact ⟨_, _, _, by rw [h]; rfl, argB_yes h rfl⟩
    have HH : Hid (hasArg y.op = true) := decide_eq_true hk
    rw [HV.out, HH.out] at CN
    generalize argB x y = rr at HB
    clear hk
    go_enter Try.func47, Try.ntmps47
    go_wp2_with fail
    rw [← HW1.out]
    refine (CN.out _).mono ?_
    rintro e w2 ⟨rfl, hb⟩
    have B2 := Lib.hid (B1.out.trans (hb.mono B1.out.size))
    obtain ⟨p0, p1, p2, p3, p4, p5, p6⟩ := X0.out.keep (keeps_below hb)
    clear hb
    by_cases h0 : 0 ≤ y.arg
    · by_cases h1 : y.arg < (m : Int)
      · have HF : Hid (rr = true) := by show _ = _; rw [HB.out]; simp [h0, h1]
        go_wp2
        go_ret
        exact ⟨ret_b (by rw [HF.out]), B2.out⟩
      · have HF : Hid (rr = false) := by show _ = _; rw [HB.out]; simp [h1]
        go_wp2
        go_ret
        exact ⟨ret_b (by rw [HF.out]; exact decide_eq_false (by omega)), B2.out⟩
    · have HF : Hid (rr = false) := by show _ = _; rw [HB.out]; simp [h0]
      go_wp2
      go_ret
      exact ⟨ret_b (by rw [HF.out]), B2.out⟩
  · have HB := Lib.hid (argB_no (x := x) hk)
    have HH : Hid (hasArg y.op = false) := decide_eq_false hk
    rw [HH.out] at CN
    generalize argB x y = rr at HB
    generalize namedV (.slice ga x.globals.length gc) (.slice la x.locks.length lc) (.slice pa x.procs.length pc) y.op = nv at CN
    clear hk
    go_enter Try.func47, Try.ntmps47
    go_wp2_with fail
    rw [← HW1.out]
    refine (CN.out _).mono ?_
    rintro e w2 ⟨rfl, hb⟩
    have B2 := Lib.hid (B1.out.trans (hb.mono B1.out.size))
    obtain ⟨p0, p1, p2, p3, p4, p5, p6⟩ := X0.out.keep (keeps_below hb)
    clear hb
    by_cases h0 : y.arg = 0
    · have HF : Hid (rr = true) := by show _ = _; rw [HB.out]; simp [h0]
      go_wp2
      go_ret
      exact ⟨ret_b (by rw [HF.out]), B2.out⟩
    · have HF : Hid (rr = false) := by show _ = _; rw [HB.out]; simp [h0]
      have h1 := ne_true h0
      clear h0
      go_wp2
      go_ret
      exact ⟨ret_b (by rw [HF.out]), B2.out⟩
theorem readsIn_drop {gs ss : List ByteArray} {i : Nat} (h : i < ss.length) : readsIn gs (ss.drop i) = (@decide (ss[i] ∈ gs) (Classical.propDecidable _) && readsIn gs (ss.drop (i + 1))) := by
  unfold readsIn
  rw [List.drop_eq_getElem_cons h, List.all_cons]
theorem readsIn_end {gs ss : List ByteArray} {i : Nat} (h : ss.length ≤ i) : readsIn gs (ss.drop i) = true := by
  unfold readsIn; rw [List.drop_of_length_le h]; rfl
theorem termB_no {x : KTree} {y : InsT} (h : ¬ (y.op = 1 ∨ y.op = 2)) : termB x y = sameT y.term zT := by unfold termB; rw [if_neg h]
theorem termB_yes {x : KTree} {y : InsT} (h : y.op = 1 ∨ y.op = 2) : termB x y = (okB y.term && readsIn x.globals (readsOfT y.term)) := by unfold termB; rw [if_pos h]
set_option maxHeartbeats 1600000 in
theorem implTermK_any (x : KTree) (y : InsT) (ga la pa ea ia ta : Option Addr) (gc lc pc ec ic n tc : Nat) (w : World) (hg : NamesAt w x.globals (.slice ga x.globals.length gc)) (hy : Lies w y.term (.agg #[.int .i64 y.term.kind, .int .i64 y.term.num, .string y.term.name, .slice ta y.term.kids.length tc])) (hz : szT y.term ≤ 1048576) :
    Calls Try.prog 48 #[.agg #[.slice ga x.globals.length gc, .slice la x.locks.length lc, .slice pa x.procs.length pc, .slice ea x.entry.length ec, .slice ia n ic], .agg #[.int .i64 y.op, .int .i64 y.arg, .int .i64 y.term.kind, .int .i64 y.term.num, .string y.term.name, .slice ta y.term.kids.length tc, .int .i64 y.to]] w fun e w' => e = .returned (.bool (termB x y)) ∧ Below w.heap.size w w' := by
  have X0 := Lib.hid ((Box7.new (w.alloc (.cells #[.slice ga x.globals.length gc, .slice la x.locks.length lc, .slice pa x.procs.length pc, .slice ea x.entry.length ec, .slice ia n ic] 31)) (.int .i64 y.op) (.int .i64 y.arg) (.int .i64 y.term.kind) (.int .i64 y.term.num) (.string y.term.name) (.slice ta y.term.kids.length tc) (.int .i64 y.to) 57))
  have Y0 := Lib.hid ((Box5.new w (.slice ga x.globals.length gc) (.slice la x.locks.length lc) (.slice pa x.procs.length pc) (.slice ea x.entry.length ec) (.slice ia n ic) 31).keep (keeps_alloc _ (.cells #[.int .i64 y.op, .int .i64 y.arg, .int .i64 y.term.kind, .int .i64 y.term.num, .string y.term.name, .slice ta y.term.kids.length tc, .int .i64 y.to] 57)))
  obtain ⟨W1, hW1⟩ : ∃ W, W = (w.alloc (.cells #[.slice ga x.globals.length gc, .slice la x.locks.length lc, .slice pa x.procs.length pc, .slice ea x.entry.length ec, .slice ia n ic] 31)).alloc (.cells #[.int .i64 y.op, .int .i64 y.arg, .int .i64 y.term.kind, .int .i64 y.term.num, .string y.term.name, .slice ta y.term.kids.length tc, .int .i64 y.to] 57) := ⟨_, rfl⟩
  have hs1 : (w.alloc (.cells #[.slice ga x.globals.length gc, .slice la x.locks.length lc, .slice pa x.procs.length pc, .slice ea x.entry.length ec, .slice ia n ic] 31)).heap.size = w.heap.size + 1 := by simp
  have B1 : Hid (Below w.heap.size w W1) := by rw [hW1]; exact ((Below.refl w.heap.size w).alloc (Nat.le_refl _) _).alloc (by simp) _
  rw [← hW1, hs1] at X0
  rw [← hW1] at Y0
  have HW1 := Lib.hid hW1
  have CT := Lib.hid (fun w => implHasTerm_any y.op w)
  have CZ := Lib.hid (fun wx hb => implNoTerm_any y.term ta tc wx (hy.keep (keeps_below (w' := wx) hb)))
  have CR := Lib.hid (fun wx hb => implReadsOf_any y.term _ wx (hy.keep (keeps_below (w' := wx) hb)) hz)
  have CO := Lib.hid (fun wx hb => implTermOk_any y.term _ wx (hy.keep (keeps_below (w' := wx) hb)))
  have CP := Lib.hid (fun s wx hb => implPlace_any x.globals s _ wx (hg.1.keep (keeps_below (w' := wx) hb)))
  obtain ⟨q0, q1, q2, q3, q4, q5, q6⟩ := X0.out
  clear hW1 hs1 hg hy hz
  by_cases hk : y.op = 1 ∨ y.op = 2
  · have HB := Lib.hid (termB_yes (x := x) hk)
    have HH : Hid (isTermK y.op = true) := decide_eq_true hk
    rw [HH.out] at CT
    generalize termB x y = rr at HB
    clear hk
    go_enter Try.func48, Try.ntmps48
    go_wp2_with fail
    rw [← HW1.out]
    refine (CT.out _).mono ?_
    rintro e w2 ⟨rfl, rfl⟩
    go_wp2_with fail
    refine (CR.out _ B1.out).mono ?_
    rintro e w3 ⟨ov, rfl, hrow, hb⟩
    obtain ⟨oa, oc, rfl, hoa⟩ := row_shape hrow
    have HA := Lib.hid hoa
    have HROW := Lib.hid hrow
    have B3 := Lib.hid (B1.out.trans (hb.mono B1.out.size))
    have X3 := Lib.hid (X0.out.keep (keeps_below hb))
    have Y3 := Lib.hid (Y0.out.keep (keeps_below hb))
    have hsm := row_small hrow
    unfold maxLen at hsm
    clear hb hrow hoa q0 q1 q2 q3 q4 q5 q6
    generalize readsOfT y.term = rs at HB HA HROW hsm
    go_wp2_with fail
    go_loopw [18] (fun i wr => ∃ (j : Nat), j ≤ rs.length ∧ i = .int .i64 j ∧ Hid (rr = (okB y.term && readsIn x.globals (rs.drop j))) ∧ wr = w3)
      (fun i _ => rs.length - (intOf i).toNat)
    case atStart => exact ⟨0, Nat.zero_le _, rfl, HB.out, rfl⟩
    case round =>
      obtain ⟨j, hj, rfl, hrr, rfl⟩ := hrel
      obtain ⟨p0, p1, p2, p3, p4⟩ := Y3.out
      by_cases hlt : j < rs.length
      · obtain ⟨g, rfl⟩ := HA.out (by omega)
        have c0 := row_cell HROW.out j hlt
        have hd := readsIn_drop (gs := x.globals) hlt
        obtain ⟨s, hs⟩ : ∃ s, s = rs[j] := ⟨_, rfl⟩
        rw [← hs] at c0 hd
        by_cases hm : s ∈ x.globals
        · have HS : Hid (rr = (okB y.term && readsIn x.globals (rs.drop (j + 1)))) := by show _ = _; rw [hrr.out, hd]; simp [hm]
          have HX : Hid (∀ z, IdxI x.globals s z → ¬ z < 0) := fun z hz h => (idxI_neg hz).1 h hm
          clear hd hs hm
          go_wp2_with fail
          refine (CP.out _ _ B3.out).mono ?_
          rintro e w4 ⟨z, rfl, hz, rfl⟩
          have hz0 := HX.out z hz
          clear hz
          go_wp2_with fail
          go_roundw
          case rel => exact ⟨j + 1, by omega, by go_num, HS, by first | rfl | trivial⟩
          case measure => simp [intOf]; omega
        · have HF : Hid (rr = false) := by show _ = _; rw [hrr.out, hd]; simp [hm]
          have HX : Hid (∀ z, IdxI x.globals s z → z < 0) := fun z hz => (idxI_neg hz).2 hm
          clear hd hs hm
          go_wp2_with fail
          refine (CP.out _ _ B3.out).mono ?_
          rintro e w4 ⟨z, rfl, hz, rfl⟩
          have hz0 := HX.out z hz
          clear hz
          go_wp2_with fail
          go_ret
          exact ⟨ret_b (by rw [HF.out]), B3.out⟩
      · have HF : Hid (rr = okB y.term) := by show _ = _; rw [hrr.out, readsIn_end (by omega)]; simp
        obtain ⟨q0, q1, q2, q3, q4, q5, q6⟩ := X3.out
        go_wp2_with fail
        refine (CO.out _ B3.out).mono ?_
        rintro e w4 ⟨rfl, hb⟩
        have B4 := Lib.hid (B3.out.trans (hb.mono B3.out.size))
        clear hb
        go_wp2_with fail
        go_ret
        exact ⟨ret_b (by rw [HF.out]), B4.out⟩
  · have HB := Lib.hid (termB_no (x := x) hk)
    have HH : Hid (isTermK y.op = false) := decide_eq_false hk
    rw [HH.out] at CT
    generalize termB x y = rr at HB
    clear hk
    go_enter Try.func48, Try.ntmps48
    go_wp2_with fail
    rw [← HW1.out]
    refine (CT.out _).mono ?_
    rintro e w2 ⟨rfl, rfl⟩
    go_wp2_with fail
    refine (CZ.out _ B1.out).mono ?_
    rintro e w3 ⟨rfl, hb⟩
    have B3 := Lib.hid (B1.out.trans (hb.mono B1.out.size))
    clear hb
    go_wp2_with fail
    go_ret
    exact ⟨ret_b (by rw [HB.out]), B3.out⟩
theorem toB_iff {es : List Int} {n i : Nat} {to z1 z2 : Int} (hr : Ris es n) (hi : i < n) (h1 : ProcI es n to z1) (h2 : ProcI es n (i : Int) z2) : z1 = z2 ↔ toB es n i to = true := by
  have h2 : ∃ p : Nat, z2 = (p : Int) ∧ IsP es i p := by
    rcases h2 with ⟨_, _, h⟩ | ⟨h, _⟩
    · exact h
    · exact absurd ⟨by omega, by omega⟩ h
  obtain ⟨p, rfl, hp⟩ := h2
  have hd : toB es n i to = true ↔ (to < (n : Int) ∧ ∃ p, IsP es (i : Int) p ∧ IsP es to p) := by unfold toB; simp only [decide_eq_true_eq]
  rw [hd]
  constructor
  · rintro rfl
    rcases h1 with ⟨_, h4, q, e, hq⟩ | ⟨_, e⟩
    · obtain rfl : p = q := by omega
      exact ⟨h4, p, hp, hq⟩
    · omega
  · rintro ⟨h4, q, hq, hq2⟩
    obtain rfl := hq.uni hr hp
    obtain ⟨hl, hle, _⟩ := id hq2
    have := hr.nonneg hl
    rcases h1 with ⟨_, _, q, rfl, hq⟩ | ⟨h5, _⟩
    · rw [hq.uni hr hq2]
    · exact absurd ⟨by omega, h4⟩ h5
noncomputable def toBB (x : KTree) (n i : Nat) (y : InsT) : Bool := if y.op = 2 ∨ y.op = 3 then toB x.entry n i y.to else decide (y.to = 0)
set_option maxHeartbeats 1600000 in
theorem implTo_any (x : KTree) (i : Nat) (ga la pa ea ia : Option Addr) (gc lc pc ec ic n : Nat) (w : World) (hi : i < x.ins.length) (he : IntsAt w x.entry (.slice ea x.entry.length ec)) (hI : IsAt w (.slice ia n ic) x.ins) (hr : Ris x.entry n) :
    Calls Try.prog 49 #[.agg #[.slice ga x.globals.length gc, .slice la x.locks.length lc, .slice pa x.procs.length pc, .slice ea x.entry.length ec, .slice ia n ic], .int .i64 (i : Int)] w fun e w' => e = .returned (.bool (toBB x n i x.ins[i])) ∧ Below w.heap.size w w' := by
  obtain ⟨_, a2, c2, e2, hk5⟩ := hI
  simp at e2
  obtain ⟨rfl, hn, rfl⟩ := e2
  have HNL := Lib.hid hn
  obtain ⟨g, o, rfl, hc⟩ := hk5 (by omega)
  obtain ⟨_, _, _, ta, tc, c0, c1, c2, c3, c4, c5, c6, _⟩ := hc i hi
  have hin : i < n := by omega
  obtain ⟨y, hy⟩ : ∃ y, y = x.ins[i] := ⟨_, rfl⟩
  rw [← hy] at c0 c1 c2 c3 c4 c5 c6 ⊢
  have CT := Lib.hid (fun w => implHasTo_any y.op w)
  obtain ⟨W1, hW1⟩ : ∃ W, W = (w.alloc (.cells #[.slice ga x.globals.length gc, .slice la x.locks.length lc, .slice pa x.procs.length pc, .slice ea x.entry.length ec, .slice (some ⟨g, o, none⟩) n ic] 31)).alloc (.cells #[.int .i64 y.op, .int .i64 y.arg, .int .i64 y.term.kind, .int .i64 y.term.num, .string y.term.name, .slice ta y.term.kids.length tc, .int .i64 y.to] 57) := ⟨_, rfl⟩
  have hs1 : (w.alloc (.cells #[.slice ga x.globals.length gc, .slice la x.locks.length lc, .slice pa x.procs.length pc, .slice ea x.entry.length ec, .slice (some ⟨g, o, none⟩) n ic] 31)).heap.size = w.heap.size + 1 := by simp
  have B1 : Hid (Below w.heap.size w W1) := by rw [hW1]; exact ((Below.refl w.heap.size w).alloc (Nat.le_refl _) _).alloc (by simp) _
  have X0 := Lib.hid ((Box7.new (w.alloc (.cells #[.slice ga x.globals.length gc, .slice la x.locks.length lc, .slice pa x.procs.length pc, .slice ea x.entry.length ec, .slice (some ⟨g, o, none⟩) n ic] 31)) (.int .i64 y.op) (.int .i64 y.arg) (.int .i64 y.term.kind) (.int .i64 y.term.num) (.string y.term.name) (.slice ta y.term.kids.length tc) (.int .i64 y.to) 57))
  have Y0 := Lib.hid ((Box5.new w (.slice ga x.globals.length gc) (.slice la x.locks.length lc) (.slice pa x.procs.length pc) (.slice ea x.entry.length ec) (.slice (some ⟨g, o, none⟩) n ic) 31).keep (keeps_alloc _ (.cells #[.int .i64 y.op, .int .i64 y.arg, .int .i64 y.term.kind, .int .i64 y.term.num, .string y.term.name, .slice ta y.term.kids.length tc, .int .i64 y.to] 57)))
  rw [← hW1, hs1] at X0
  rw [← hW1] at Y0
  have HW1 := Lib.hid hW1
  have k0 := keeps_alloc w (.cells #[.slice ga x.globals.length gc, .slice la x.locks.length lc, .slice pa x.procs.length pc, .slice ea x.entry.length ec, .slice (some ⟨g, o, none⟩) n ic] 31)
  replace c0 := k0 _ _ c0
  replace c1 := k0 _ _ c1
  replace c2 := k0 _ _ c2
  replace c3 := k0 _ _ c3
  replace c4 := k0 _ _ c4
  replace c5 := k0 _ _ c5
  replace c6 := k0 _ _ c6
  have CP : Hid (∀ (a : Int) wx, Below W1.heap.size W1 wx → Calls Try.prog 67 #[.agg #[.slice ga x.globals.length gc, .slice la x.locks.length lc, .slice pa x.procs.length pc, .slice ea x.entry.length ec, .slice (some ⟨g, o, none⟩) n ic], .int .i64 a] wx fun e w' => ∃ z : Int, e = .returned (.int .i64 z) ∧ ProcI x.entry n a z ∧ Below W1.heap.size W1 w') := fun a wx hb =>
    (implKProc_any x.entry _ _ _ ea _ ec n ic a wx (he.keep (keeps_below (B1.out.trans (hb.mono B1.out.size)))) hr).mono fun e w' ⟨z, he, hz, h⟩ => ⟨z, he, hz, hb.trans (h.mono hb.size)⟩
  clear hc hk5 hn hW1 hs1 k0 hy
  by_cases hk : y.op = 2 ∨ y.op = 3
  · have HB : Hid (toBB x n i y = toB x.entry n i y.to) := by show _ = _; unfold toBB; rw [if_pos hk]
    have HI := Lib.hid (fun z1 z2 h1 h2 => toB_iff (to := y.to) (z1 := z1) (z2 := z2) hr hin h1 h2)
    have HH : Hid (isToK y.op = true) := decide_eq_true hk
    rw [HH.out] at CT
    generalize toBB x n i y = rr at HB
    generalize toB x.entry n i y.to = tb at HB HI
    have KS : Hid (∀ wx, Below W1.heap.size W1 wx → wx.cell? ⟨w.heap.size, 0, none⟩ = some (.slice ga x.globals.length gc) ∧ wx.cell? ⟨w.heap.size, 1, none⟩ = some (.slice la x.locks.length lc) ∧ wx.cell? ⟨w.heap.size, 2, none⟩ = some (.slice pa x.procs.length pc) ∧ wx.cell? ⟨w.heap.size, 3, none⟩ = some (.slice ea x.entry.length ec) ∧ wx.cell? ⟨w.heap.size, 4, none⟩ = some (.slice (some ⟨g, o, none⟩) n ic) ∧ wx.cell? ⟨w.heap.size + 1, 6, none⟩ = some (.int .i64 y.to) ∧ Below W1.heap.size W1 wx) := fun wx hb => by
      obtain ⟨p0, p1, p2, p3, p4⟩ := Y0.out.keep (keeps_below hb)
      obtain ⟨_, _, _, _, _, _, q6⟩ := X0.out.keep (keeps_below hb)
      exact ⟨p0, p1, p2, p3, p4, q6, hb⟩
    have b0 : Below W1.heap.size W1 W1.drew := (Below.refl _ _).drew
    clear hk
    go_enter Try.func49, Try.ntmps49
    go_wp2_with fail
    rw [← HW1.out]
    refine (CT.out _).mono ?_
    rintro e w2 ⟨rfl, rfl⟩
    clear c0 c1 c2 c3 c4 c5 c6
    go_wp2_with fail
    go_region_held3 (fun wx => wx.cell? ⟨w.heap.size, 0, none⟩ = some (.slice ga x.globals.length gc) ∧ wx.cell? ⟨w.heap.size, 1, none⟩ = some (.slice la x.locks.length lc) ∧ wx.cell? ⟨w.heap.size, 2, none⟩ = some (.slice pa x.procs.length pc) ∧ wx.cell? ⟨w.heap.size, 3, none⟩ = some (.slice ea x.entry.length ec) ∧ wx.cell? ⟨w.heap.size, 4, none⟩ = some (.slice (some ⟨g, o, none⟩) n ic) ∧ wx.cell? ⟨w.heap.size + 1, 6, none⟩ = some (.int .i64 y.to) ∧ Below W1.heap.size W1 wx)
      (exact KS.out _ (by assumption))
      (first
      | (go_at_call 67; (with_reducible refine (CP.out y.to _ (by assumption)).mono ?_); rintro e w3 ⟨z1, rfl, hz1, b1⟩; have HZ1 := Lib.hid hz1; clear hz1)
      | (go_at_call 67; (with_reducible refine (CP.out (i : Int) _ (by assumption)).mono ?_); rintro e w4 ⟨z2, rfl, hz2, b2⟩; have HZ2 := Lib.hid hz2; clear hz2))
    all_goals
      have hq := HI.out z1 z2 HZ1.out HZ2.out
      have B4 := Lib.hid (B1.out.trans (b2.mono B1.out.size))
      have B3 := Lib.hid (B1.out.trans (b1.mono B1.out.size))
      clear b1 b2 HZ1 HZ2
      by_cases hz : z1 = z2
      · have HF : Hid (rr = true) := by show _ = _; rw [HB.out]; exact hq.1 hz
        clear hq
        subst hz
        go_wp2_with fail
        go_ret
        exact ⟨ret_b (by rw [HF.out]; exact beq_self_eq_true _), by first | exact B4.out | exact B3.out⟩
      · have HF : Hid (rr = false) := by show _ = _; rw [HB.out]; exact Bool.eq_false_iff.2 (fun h => hz (hq.2 h))
        clear hq
        have h1 := ne_true hz
        clear hz
        go_wp2_with fail
        go_ret
        exact ⟨ret_b (by rw [HF.out]; exact h1), by first | exact B4.out | exact B3.out⟩
  · have HB : Hid (toBB x n i y = decide (y.to = 0)) := by show _ = _; unfold toBB; rw [if_neg hk]
    have HH : Hid (isToK y.op = false) := decide_eq_false hk
    rw [HH.out] at CT
    generalize toBB x n i y = rr at HB
    clear hk
    go_enter Try.func49, Try.ntmps49
    go_wp2_with fail
    rw [← HW1.out]
    refine (CT.out _).mono ?_
    rintro e w2 ⟨rfl, rfl⟩
    obtain ⟨p0, p1, p2, p3, p4, p5, p6⟩ := X0.out
    clear c0 c1 c2 c3 c4 c5 c6
    by_cases h0 : y.to = 0
    · have HF : Hid (rr = true) := by show _ = _; rw [HB.out]; simp [h0]
      go_wp2
      go_ret
      exact ⟨ret_b (by rw [HF.out]), B1.out⟩
    · have HF : Hid (rr = false) := by show _ = _; rw [HB.out]; simp [h0]
      have h1 := ne_true h0
      clear h0
      go_wp2
      go_ret
      exact ⟨ret_b (by rw [HF.out]), B1.out⟩
end Go.Proofs.Ytofmccihehalcaa.Trm
/- The program's hasRightIns, walked. Conditions: the code lies in memory, its entries and ends as they should be; at most 2 to the 20 names and terms. -/
namespace Go.Proofs.Ytofmccihehalcaa.Trm
open Go.RowKit Go.Proofs.Ytofmccihehalcaa.Own
theorem opWord_some {k : Int} (h : 1 ≤ k ∧ k ≤ 9) : (opWord k).toList.isEmpty = false := by
  have h2 : k = 1 ∨ k = 2 ∨ k = 3 ∨ k = 4 ∨ k = 5 ∨ k = 6 ∨ k = 7 ∨ k = 8 ∨ k = 9 := by omega
  rcases h2 with rfl | rfl | rfl | rfl | rfl | rfl | rfl | rfl | rfl <;> exact empty_false (by decide)
theorem okIn_eq (x : KTree) (n i : Nat) (y : InsT) (hn : n = x.ins.length) : okIn x i y = (decide (1 ≤ y.op ∧ y.op ≤ 9) && (argB x y && (termB x y && toBB x n i y))) := by
  subst hn; rfl
set_option maxRecDepth 20000 in
set_option maxHeartbeats 6400000 in
theorem implInsOk_any (x : KTree) (ga la pa ea ia : Option Addr) (gc lc pc ec ic n : Nat) (w : World) (hg : NamesAt w x.globals (.slice ga x.globals.length gc)) (he : IntsAt w x.entry (.slice ea x.entry.length ec)) (hI : IsAt w (.slice ia n ic) x.ins) (hr : Ris x.entry n) (hz : szIs x.ins ≤ 1048576) :
    Calls Try.prog 31 #[.agg #[.slice ga x.globals.length gc, .slice la x.locks.length lc, .slice pa x.procs.length pc, .slice ea x.entry.length ec, .slice ia n ic]] w fun e w' => e = .returned (.bool (okIns x 0 x.ins)) ∧ Below w.heap.size w w' := by
  have HII := Lib.hid hI
  obtain ⟨hlm, a2, c2, e2, hk5⟩ := hI
  simp at e2
  obtain ⟨rfl, hn, rfl⟩ := e2
  have hnm : n ≤ 9223372036854775807 := by omega
  have HNL := Lib.hid hn
  have HI5 : Hid (0 < n → ∃ g o, ia = some ⟨g, o, none⟩ ∧ ∀ i (h : i < x.ins.length), IElem w g (o + i * 7) x.ins[i]) := fun h => hk5 (by omega)
  have HG := Lib.hid hg
  have HE := Lib.hid he
  have HR := Lib.hid hr
  have HZ := Lib.hid hz
  have HB0 : Hid (okIns x 0 x.ins = okIns x 0 (x.ins.drop 0)) := rfl
  generalize okIns x 0 x.ins = rr at HB0
  have X0 := Lib.hid (Box5.new w (.slice ga x.globals.length gc) (.slice la x.locks.length lc) (.slice pa x.procs.length pc) (.slice ea x.entry.length ec) (.slice ia n ic) 31)
  have B0 := Lib.hid ((Below.refl w.heap.size w).alloc (Nat.le_refl _) (.cells #[.slice ga x.globals.length gc, .slice la x.locks.length lc, .slice pa x.procs.length pc, .slice ea x.entry.length ec, .slice ia n ic] 31))
  clear hg he hr hz hk5 hn hlm
  obtain ⟨p0, p1, p2, p3, p4⟩ := X0.out
  go_enter Try.func31, Try.ntmps31
  go_wp2_with fail
  clear p0 p1 p2 p3 p4
  go_loopw [8] (fun i wr => ∃ (j : Nat), j ≤ n ∧ i = .int .i64 j ∧ Hid (rr = okIns x j (x.ins.drop j)) ∧ Hid (Box5 wr w.heap.size (.slice ga x.globals.length gc) (.slice la x.locks.length lc) (.slice pa x.procs.length pc) (.slice ea x.entry.length ec) (.slice ia n ic)) ∧ Hid (Below w.heap.size w wr))
    (fun i _ => n - (intOf i).toNat)
  case atStart => exact ⟨0, Nat.zero_le _, rfl, HB0.out, X0.out, B0.out⟩
  case round =>
    obtain ⟨j, hj, rfl, hrr, hbx, hbe⟩ := hrel
    have hsw : w.heap.size ≤ wr.heap.size := hbe.out.size
    by_cases hlt : j < n
    · have HII2 := Lib.hid (HII.out.keep (keeps_below hbe.out))
      obtain ⟨g, o, rfl, hc⟩ := HI5.out (by omega)
      have hlt2 : j < x.ins.length := by have := HNL.out; omega
      obtain ⟨_, _, _, ta, tc, c0, c1, c2, c3, c4, c5, c6, hlt3⟩ := (hc j hlt2).keep (keeps_below hbe.out)
      have hd := okIns_drop (x := x) hlt2
      have hzt : szT x.ins[j].term ≤ 1048576 := by have := szIs_mem (List.getElem_mem hlt2); have := HZ.out; unfold szI at *; omega
      rw [okIn_eq x n j x.ins[j] HNL.out] at hd
      have CO := Lib.hid (fun wx (hb : Below w.heap.size w wx) => implTo_any x j ga la pa ea (some ⟨g, o, none⟩) gc lc pc ec ic n wx hlt2 (HE.out.keep (keeps_below hb)) (HII.out.keep (keeps_below hb)) HR.out)
      obtain ⟨y, hy⟩ : ∃ y, y = x.ins[j] := ⟨_, rfl⟩
      rw [← hy] at c0 c1 c2 c3 c4 c5 c6 hd hlt3 hzt CO
      have HD : Hid (rr = ((decide (1 ≤ y.op ∧ y.op ≤ 9) && (argB x y && (termB x y && toBB x n j y))) && okIns x (j + 1) (x.ins.drop (j + 1)))) := by show _ = _; rw [hrr.out, hd]
      have CW := Lib.hid (fun w => implWordK_any y.op w)
      have CA := Lib.hid (fun w => implArg_any x y ga la pa ea (some ⟨g, o, none⟩) ta gc lc pc ec ic n tc w)
      have CT := Lib.hid (fun wx (hb : Below wr.heap.size wr wx) => implTermK_any x y ga la pa ea (some ⟨g, o, none⟩) ta gc lc pc ec ic n tc wx (HG.out.keep (keeps_below (hbe.out.trans (hb.mono hsw)))) (hlt3.keep (keeps_below hb)) hzt)
      obtain ⟨W2, hW2⟩ : ∃ W, W = wr.alloc (.cells #[.int .i64 y.op, .int .i64 y.arg, .int .i64 y.term.kind, .int .i64 y.term.num, .string y.term.name, .slice ta y.term.kids.length tc, .int .i64 y.to] 57) := ⟨_, rfl⟩
      have b2 : Below wr.heap.size wr W2 := by rw [hW2]; exact (Below.refl _ _).alloc (Nat.le_refl _) _
      have X2 : Hid (Box7 W2 wr.heap.size (.int .i64 y.op) (.int .i64 y.arg) (.int .i64 y.term.kind) (.int .i64 y.term.num) (.string y.term.name) (.slice ta y.term.kids.length tc) (.int .i64 y.to)) := by rw [hW2]; exact Box7.new wr _ _ _ _ _ _ _ _
      have Y2 : Hid (Box5 W2 w.heap.size (.slice ga x.globals.length gc) (.slice la x.locks.length lc) (.slice pa x.procs.length pc) (.slice ea x.entry.length ec) (.slice (some ⟨g, o, none⟩) n ic)) := hbx.out.keep (keeps_below b2)
      have B2 := Lib.hid b2
      have HW2 := Lib.hid hW2
      obtain ⟨p0, p1, p2, p3, p4⟩ := hbx.out
      clear hc hy hd hlt3 hzt hW2 b2
      generalize argB x y = rA at HD CA
      generalize termB x y = rT at HD CT
      generalize toBB x n j y = rO at HD CO
      by_cases h9 : 1 ≤ y.op ∧ y.op ≤ 9
      · have hwe := opWord_some h9
        have HD2 : Hid (rr = ((rA && (rT && rO)) && okIns x (j + 1) (x.ins.drop (j + 1)))) := by show _ = _; rw [HD.out]; simp [h9]
        generalize opWord y.op = wd at CW hwe
        clear HD h9
        go_wp2_with fail
        rw [← HW2.out]
        refine (CW.out _).mono ?_
        rintro e w3 ⟨rfl, rfl⟩
        clear c0 c1 c2 c3 c4 c5 c6 p0 p1 p2 p3 p4
        obtain ⟨p0, p1, p2, p3, p4⟩ := Y2.out
        obtain ⟨q0, q1, q2, q3, q4, q5, q6⟩ := X2.out
        go_wp2_with fail
        refine (CA.out _).mono ?_
        rintro e w4 ⟨rfl, hb4⟩
        have B4 := Lib.hid (B2.out.trans (hb4.mono B2.out.size))
        have X4 := Lib.hid (X2.out.keep (keeps_below hb4))
        have Y4 := Lib.hid (Y2.out.keep (keeps_below hb4))
        have T4 := Lib.hid (hbe.out.trans (B4.out.mono hsw))
        clear hb4 p0 p1 p2 p3 p4 q0 q1 q2 q3 q4 q5 q6 X2 Y2
        obtain ⟨p0, p1, p2, p3, p4⟩ := Y4.out
        obtain ⟨q0, q1, q2, q3, q4, q5, q6⟩ := X4.out
        cases rA with
        | false =>
          have HF : Hid (rr = false) := by show _ = _; rw [HD2.out]; rfl
          go_wp2_with fail
          go_ret
          exact ⟨ret_b (by rw [HF.out]), T4.out⟩
        | true =>
          go_wp2_with fail
          refine (CT.out _ B4.out).mono ?_
          rintro e w5 ⟨rfl, hb5⟩
          have B5 := Lib.hid (B4.out.trans (hb5.mono B4.out.size))
          have X5 := Lib.hid (X4.out.keep (keeps_below hb5))
          have Y5 := Lib.hid (Y4.out.keep (keeps_below hb5))
          have T5 := Lib.hid (hbe.out.trans (B5.out.mono hsw))
          clear hb5 p0 p1 p2 p3 p4 q0 q1 q2 q3 q4 q5 q6 X4 Y4
          obtain ⟨p0, p1, p2, p3, p4⟩ := Y5.out
          obtain ⟨q0, q1, q2, q3, q4, q5, q6⟩ := X5.out
          cases rT with
          | false =>
            have HF : Hid (rr = false) := by show _ = _; rw [HD2.out]; rfl
            go_wp2_with fail
            go_ret
            exact ⟨ret_b (by rw [HF.out]), T5.out⟩
          | true =>
            go_wp2_with fail
            refine (CO.out _ T5.out).mono ?_
            rintro e w6 ⟨rfl, hb6⟩
            have T6 := Lib.hid (T5.out.trans (hb6.mono T5.out.size))
            have Y6 := Lib.hid (Y5.out.keep (keeps_below hb6))
            clear hb6 p0 p1 p2 p3 p4 q0 q1 q2 q3 q4 q5 q6 X5 Y5
            cases rO with
            | false =>
              have HF : Hid (rr = false) := by show _ = _; rw [HD2.out]; rfl
              go_wp2_with fail
              go_ret
              exact ⟨ret_b (by rw [HF.out]), T6.out⟩
            | true =>
              have HF : Hid (rr = okIns x (j + 1) (x.ins.drop (j + 1))) := by show _ = _; rw [HD2.out]; rfl
              go_wp2_with fail
              go_roundw
              case rel => exact ⟨j + 1, by omega, by go_num, HF.out, Y6.out, T6.out⟩
              case measure => simp [intOf]; omega
      · have hwe : (opWord y.op).toList.isEmpty = true := by rw [opWord_none h9]; exact empty_true rfl
        have HF : Hid (rr = false) := by show _ = _; rw [HD.out]; simp [h9]
        have HT2 := Lib.hid (hbe.out.trans (B2.out.mono hsw))
        generalize opWord y.op = wd at CW hwe
        clear HD h9
        go_wp2_with fail
        rw [← HW2.out]
        refine (CW.out _).mono ?_
        rintro e w3 ⟨rfl, rfl⟩
        clear c0 c1 c2 c3 c4 c5 c6 p0 p1 p2 p3 p4
        go_wp2_with fail
        go_ret
        exact ⟨ret_b (by rw [HF.out]), HT2.out⟩
    · have HF : Hid (rr = true) := by show _ = _; rw [hrr.out, okIns_end (by have := HNL.out; omega)]
      go_wp2_with fail
      go_ret
      exact ⟨ret_b (by rw [HF.out]), hbe.out⟩
end Go.Proofs.Ytofmccihehalcaa.Trm
/- What an append reads, and the append's law over it. Without conditions beyond those of the law that it rests on. -/
namespace Go.Proofs.Ytofmccihehalcaa.Trm
open Go.RowKit Go.Proofs.Ytofmccihehalcaa.Own
/-- What an append reads: nothing, or cells one behind the other. -/
def Src (w : World) (sa : Option Addr) (m sc : Nat) (ys : List Value) : Prop := (sa = none ∧ m = 0 ∧ sc = 0 ∧ ys = []) ∨ ∃ ad, sa = some ad ∧ ys.length = m ∧ ∀ j u, ys[j]? = some u → w.cell? (ad.add j) = some u
theorem Src.keep {w w' : World} {sa : Option Addr} {m sc : Nat} {ys : List Value} (h : Src w sa m sc ys) (hk : Keeps w w') : Src w' sa m sc ys := by
  rcases h with h | ⟨ad, h1, h2, h3⟩
  · exact .inl h
  · exact .inr ⟨ad, h1, h2, fun j u e => hk _ _ (h3 j u e)⟩
theorem moves_append {w w' : World} {v v' : Value} (hg : w.grownBy w' v.ownBlock) (h : v'.ownBlock = v.ownBlock ∨ v'.ownBlock = some w.heap.size) : Moves w v w' v' := by
  refine ⟨hg, ?_⟩
  rcases h with h | h
  · exact .inl h
  · exact .inr fun k hk => by rw [h] at hk; cases hk; exact Nat.le_refl _
theorem wpList_append_src {P : Program} {w : World} {ops : Array Oper} {rest : List Oper} {o : Oper} {a : Act} {Q : Exit → Act → World → Prop} (hgd : o.guard = none) (s x : Operand) (t : TypeId)
    (ho : o.op = .call { callee := .builtin .append, args := #[s, x], argTypes := #[t, t] })
    (base : Nat) (e : TypeId) (i : TypeInfo) (z : Value) (bytes : Nat) (ht : P.underlying t = some (.slice e)) (hi : P.info? e = some i) (hz : i.zero = some z)
    (hsize : i.size = 1) (hby : i.bytes = bytes) (hzs : z.cells.size = 1)
    (v : Value) (n : Nat) (xs : List Value) (hs : a.eval s = v) (hown : w.ownsRow base e 1 v n xs)
    (sa : Option Addr) (m sc : Nat) (ys : List Value) (hx : a.eval x = .slice sa m sc) (hsrc : Src w sa m sc ys) (h1 : ∀ u ∈ ys, u.oneCell' = true)
    (h63 : n + m ≤ maxLen) (hbytes : (n + m) * bytes ≤ 140737488355328) (hbase : base ≤ w.heap.size)
    (h : ∀ v' w', w'.ownsRow base e 1 v' (n + m) (xs ++ ys) → Moves w v w' v' → wpList P ops Q rest (a.put o.dst v') w') : wpList P ops Q (o :: rest) a w := by
  rcases hsrc with ⟨rfl, rfl, rfl, rfl⟩ | ⟨ad, rfl, hl, hc⟩
  · exact wpList_append_own_none hgd s x t ho base e i 1 ht hi v n xs hs hown hx (h v w (by simpa using hown) (Moves.refl _ _))
  · exact wpList_append_own_at w hgd s x t ho base e i z 1 bytes ht hi hz hsize hby hzs (by decide) v n xs hs hown ad m sc ys hx (by simpa using hl) hc h1 h63 hbytes hbase fun v' w' a1 a2 _ a4 => h v' w' a1 (moves_append a2 a4)
end Go.Proofs.Ytofmccihehalcaa.Trm
/- The laws' helpers over lists of texts and of numbers, walked: compared. Conditions: the lists lie in memory. -/
namespace Go.Proofs.Ytofmccihehalcaa.Trm
open Go.RowKit Go.Proofs.Ytofmccihehalcaa.Own
theorem infoStrL : (Try.prog.info? 9).map (fun i => (i.zero, i.size, i.bytes)) = some (some (.string ⟨#[]⟩), 1, 16) := by kernel_rfl
theorem infoIntL : (Try.prog.info? 3).map (fun i => (i.zero, i.size, i.bytes)) = some (some (.int .i64 0), 1, 8) := by kernel_rfl
theorem below_noneL {w w' : World} (h : w.grownBy w' none) : Below w.heap.size w w' := ⟨h.os, h.tape, h.output, h.size, fun k hk => h.block k hk (by simp)⟩
theorem set_mid (ys : List Value) (z : Value) (zs : List Value) (u : Value) (j : Nat) (h : ys.length = j) : (ys ++ z :: zs).set j u = (ys ++ [u]) ++ zs := by
  subst h
  rw [List.set_append_right _ _ (Nat.le_refl _), Nat.sub_self, List.set_cons_zero]
  simp
set_option maxHeartbeats 400000 in
theorem eqStrs_at (u v : Value) (ss : List ByteArray) (w : World) (h1 : StrsAt w ss u) (h2 : StrsAt w ss v) :
    Calls Try.prog 20 #[u, v] w fun e w' => e = .returned (.bool true) ∧ Below w.heap.size w w' := by
  obtain ⟨a1, c1, rfl, hm, ha1⟩ := h1
  obtain ⟨a2, c2, rfl, _, ha2⟩ := h2
  have HA1 := Lib.hid ha1
  have HA2 := Lib.hid ha2
  clear ha1 ha2
  go_enter Try.func20, Try.ntmps20
  go_wp2
  go_loopw [5] (fun i wr => ∃ k m : Nat, k ≤ ss.length ∧ i = .int .i64 k ∧ wr = w.drewN m)
    (fun i _ => ss.length - (intOf i).toNat)
  case atStart => exact ⟨0, 0, Nat.zero_le _, rfl, (World.drewN_zero _).symm⟩
  case round =>
    obtain ⟨k, m, hk, rfl, rfl⟩ := hrel
    by_cases hlt : k < ss.length
    · obtain ⟨g1, o1, rfl, q1⟩ := HA1.out (by omega)
      obtain ⟨g2, o2, rfl, q2⟩ := HA2.out (by omega)
      have d1 := q1 k hlt
      have d2 := q2 k hlt
      clear q1 q2
      go_wp2
      go_quiet (fail)
      go_wp2
      go_roundw
      case rel => exact ⟨k + 1, m + nq, by omega, by go_num, rfl⟩
      case measure => simp [intOf]; omega
    · go_wp2
      go_ret
      exact ⟨rfl, below_drewN (Below.refl _ _) _⟩
end Go.Proofs.Ytofmccihehalcaa.Trm
/- The laws' helpers over lists of texts and of numbers, walked: counted, copied, compared. Conditions: the lists lie in memory; they have at most 2 to the 20 elements. -/
namespace Go.Proofs.Ytofmccihehalcaa.Trm
open Go.RowKit Go.Proofs.Ytofmccihehalcaa.Own
set_option maxHeartbeats 400000 in
theorem toStrings_any (ns : List ByteArray) (v : Value) (w : World) (hl : StrsAt w ns v) (hz : ns.length ≤ 1048576) :
    Calls Try.prog 15 #[v] w fun e w' => ∃ v', e = .returned v' ∧ w'.ownsRow w.heap.size 9 1 v' ns.length (strV ns) ∧ Below w.heap.size w w' := by
  obtain ⟨i0, hi, hz0, hz1, hz2⟩ := info_parts infoStrL
  obtain ⟨a, cap, rfl, h1, h2⟩ := hl
  have HK := Lib.hid h2
  clear h2
  go_enter Try.func15, Try.ntmps15
  go_wp2_with (at_make; refine wpList_make_full _ rfl (.tmp 6) (.tmp 6) 22 rfl w.heap.size 9 i0 _ 1 Try.underlying22 hi hz0 hz1 .i64 .i64 _ _ ns.length rfl rfl rfl rfl (by rw [hz2]; omega) (by unfold maxLen; omega) (Nat.le_refl _) ?_)
  intro w1 hown hg
  have HO := Lib.hid hown
  have HG := Lib.hid hg
  clear hown hg
  go_wp2
  go_loopw [4] (fun i wr => ∃ (k : Nat) (zs : List Value), k ≤ ns.length ∧ i = .int .i64 k ∧ Hid (wr.ownsRow w.heap.size 9 1 (.slice (some ⟨w.heap.size, 0, none⟩) ns.length ns.length) ns.length (strV (ns.take k) ++ zs)) ∧ Hid (Below w.heap.size w wr))
    (fun i _ => ns.length - (intOf i).toNat)
  case atStart => exact ⟨0, _, Nat.zero_le _, rfl, HO.out, below_noneL HG.out⟩
  case round =>
    obtain ⟨k, zs, hk, rfl, hrow, hbe⟩ := hrel
    by_cases hlt : k < ns.length
    · obtain ⟨g, o, rfl, hc⟩ := HK.out (by omega)
      have c0 := keeps_below hbe.out _ _ (hc k hlt)
      have hls := hrow.out.1
      simp only [strV, List.length_append, List.length_map, List.length_take] at hls
      obtain ⟨z, zs2, rfl⟩ : ∃ z zs2, zs = z :: zs2 := by
        cases zs with
        | nil => simp at hls; omega
        | cons z r => exact ⟨z, r, rfl⟩
      have f0 := hrow.out.frozenAt k
      obtain ⟨u0, s0⟩ : ∃ u, wr.cell? ⟨w.heap.size, k, none⟩ = some u := ⟨_, (hrow.out.cellAt k (by omega)).trans (List.getElem?_eq_getElem (by rw [hrow.out.1]; omega))⟩
      obtain ⟨hr2, hg2⟩ := hrow.out.stored k (.string ns[k])
      rw [set_mid _ _ _ _ k (by simp [strV]; omega)] at hr2
      have HR2 : Hid ((wr.setCell ⟨w.heap.size, k, none⟩ (.string ns[k])).ownsRow w.heap.size 9 1 (.slice (some ⟨w.heap.size, 0, none⟩) ns.length ns.length) ns.length (strV (ns.take (k + 1)) ++ zs2)) := by
        have e : strV (ns.take (k + 1)) = strV (ns.take k) ++ [Value.string ns[k]] := by rw [List.take_succ_eq_append_getElem hlt]; simp only [strV, List.map_append, List.map_cons, List.map_nil]
        rw [e]
        exact hr2
      have HB2 := Lib.hid (hbe.out.grown hg2 hbe.out.size (fun b hb => by cases hb; exact Nat.le_refl _))
      clear hc hls hr2 hg2
      go_wp2
      go_roundw
      case rel => exact ⟨k + 1, zs2, by omega, by go_num, HR2, HB2⟩
      case measure => simp [intOf]; omega
    · obtain rfl : k = ns.length := by omega
      have h1 := hrow.out
      rw [List.take_length] at h1
      have hz : zs = [] := by have := h1.1; simpa [strV] using this
      rw [hz, List.append_nil] at h1
      have H1 := Lib.hid h1
      clear h1 hz
      go_wp2
      go_ret
      exact ⟨_, rfl, H1.out, hbe.out⟩
def szB (ss : List ByteArray) : Nat := (ss.map (·.size)).sum
theorem szB_drop {ss : List ByteArray} {i : Nat} (h : i < ss.length) : szB (ss.drop i) = ss[i].size + szB (ss.drop (i + 1)) := by unfold szB; rw [List.drop_eq_getElem_cons h, List.map_cons, List.sum_cons]
theorem szB_end {ss : List ByteArray} {i : Nat} (h : ss.length ≤ i) : szB (ss.drop i) = 0 := by rw [List.drop_of_length_le h]; rfl
set_option maxHeartbeats 400000 in
theorem szStrings_any (ss : List ByteArray) (v : Value) (w : World) (a : Nat) (ha : a ≤ 1048576) (h1 : StrsAt w ss v) (hs : ∀ s, s ∈ ss → s.size ≤ 9223372036854775807) :
    Calls Try.prog 9 #[v, .int .i64 (a : Int)] w fun e w' => e = .returned (.int .i64 (leftR a (ss.length + szB ss))) ∧ w = w' := by
  obtain ⟨aa, cap, rfl, hm, ha1⟩ := h1
  have HA := Lib.hid ha1
  have HS0 := Lib.hid hs
  clear ha1 hs
  by_cases hb : a < ss.length
  · have HO := Lib.hid (leftR_no (a := a) (n := ss.length + szB ss) (by omega))
    go_enter Try.func9, Try.ntmps9
    go_wp2
    go_ret
    exact ⟨by rw [HO.out]; rfl, rfl⟩
  · go_enter Try.func9, Try.ntmps9
    go_wp2
    go_loop [1, 5] (fun x i => ∃ (k b : Nat), k ≤ ss.length ∧ b ≤ 1048576 ∧ i = .int .i64 k ∧ x = .int .i64 b ∧ Hid (leftR a (ss.length + szB ss) = leftR b (szB (ss.drop k))))
      (fun _ i => ss.length - (intOf i).toNat)
    case atStart => exact ⟨0, a - ss.length, Nat.zero_le _, by omega, rfl, by go_num, leftR_step (by omega)⟩
    case round =>
      obtain ⟨k, b, hk, hb2, rfl, rfl, hsz⟩ := hrel
      by_cases hlt : k < ss.length
      · obtain ⟨g, o, rfl, q1⟩ := HA.out (by omega)
        have d1 := q1 k hlt
        have hz := HS0.out _ (List.getElem_mem hlt)
        have hd := szB_drop hlt
        clear q1
        by_cases hle : ss[k].size ≤ b
        · have HS : Hid (leftR a (ss.length + szB ss) = leftR (b - ss[k].size) (szB (ss.drop (k + 1)))) := by
            show leftR a (ss.length + szB ss) = _
            rw [hsz.out, hd]; exact leftR_step hle
          clear hd
          go_wp2
          go_round
          case rel => exact ⟨k + 1, b - ss[k].size, by omega, by omega, by go_num, by go_num, HS⟩
          case measure => simp [intOf]; omega
        · have HS : Hid (leftR a (ss.length + szB ss) = -1) := by
            show leftR a (ss.length + szB ss) = _
            rw [hsz.out, hd]; exact leftR_no (by omega)
          clear hd
          go_wp2
          go_ret
          exact ⟨by rw [HS.out]; rfl, rfl⟩
      · have HS : Hid (leftR a (ss.length + szB ss) = (b : Int)) := by
          show leftR a (ss.length + szB ss) = _
          rw [hsz.out, szB_end (by omega), leftR_yes (by omega)]; rfl
        go_wp2
        go_ret
        exact ⟨by rw [HS.out]; rfl, rfl⟩
end Go.Proofs.Ytofmccihehalcaa.Trm
/- Rows of numbers copied and compared by the laws, walked. Conditions: they lie in memory. -/
namespace Go.Proofs.Ytofmccihehalcaa.Trm
open Go.RowKit Go.Proofs.Ytofmccihehalcaa.Own
set_option maxHeartbeats 400000 in
theorem toInts_any (ns : List Int) (v : Value) (w : World) (hl : IntsAt w ns v) (hz : ns.length ≤ 1048576) :
    Calls Try.prog 16 #[v] w fun e w' => ∃ v', e = .returned v' ∧ w'.ownsRow w.heap.size 3 1 v' ns.length (intV ns) ∧ Below w.heap.size w w' := by
  obtain ⟨i0, hi, hz0, hz1, hz2⟩ := info_parts infoIntL
  obtain ⟨a, cap, rfl, h1, _, h2⟩ := hl
  have HK := Lib.hid h2
  clear h2
  go_enter Try.func16, Try.ntmps16
  go_wp2_with (at_make; refine wpList_make_full _ rfl (.tmp 6) (.tmp 6) 23 rfl w.heap.size 3 i0 _ 1 Try.underlying23 hi hz0 hz1 .i64 .i64 _ _ ns.length rfl rfl rfl rfl (by rw [hz2]; omega) (by unfold maxLen; omega) (Nat.le_refl _) ?_)
  intro w1 hown hg
  have HO := Lib.hid hown
  have HG := Lib.hid hg
  clear hown hg
  go_wp2
  go_loopw [4] (fun i wr => ∃ (k : Nat) (zs : List Value), k ≤ ns.length ∧ i = .int .i64 k ∧ Hid (wr.ownsRow w.heap.size 3 1 (.slice (some ⟨w.heap.size, 0, none⟩) ns.length ns.length) ns.length (intV (ns.take k) ++ zs)) ∧ Hid (Below w.heap.size w wr))
    (fun i _ => ns.length - (intOf i).toNat)
  case atStart => exact ⟨0, _, Nat.zero_le _, rfl, HO.out, below_noneL HG.out⟩
  case round =>
    obtain ⟨k, zs, hk, rfl, hrow, hbe⟩ := hrel
    by_cases hlt : k < ns.length
    · obtain ⟨g, o, rfl, hc⟩ := HK.out (by omega)
      have c0 := keeps_below hbe.out _ _ (hc k hlt)
      have hls := hrow.out.1
      simp only [intV, List.length_append, List.length_map, List.length_take] at hls
      obtain ⟨z, zs2, rfl⟩ : ∃ z zs2, zs = z :: zs2 := by
        cases zs with
        | nil => simp at hls; omega
        | cons z r => exact ⟨z, r, rfl⟩
      have f0 := hrow.out.frozenAt k
      obtain ⟨u0, s0⟩ : ∃ u, wr.cell? ⟨w.heap.size, k, none⟩ = some u := ⟨_, (hrow.out.cellAt k (by omega)).trans (List.getElem?_eq_getElem (by rw [hrow.out.1]; omega))⟩
      obtain ⟨hr2, hg2⟩ := hrow.out.stored k (.int .i64 ns[k])
      rw [set_mid _ _ _ _ k (by simp [intV]; omega)] at hr2
      have HR2 : Hid ((wr.setCell ⟨w.heap.size, k, none⟩ (.int .i64 ns[k])).ownsRow w.heap.size 3 1 (.slice (some ⟨w.heap.size, 0, none⟩) ns.length ns.length) ns.length (intV (ns.take (k + 1)) ++ zs2)) := by
        have e : intV (ns.take (k + 1)) = intV (ns.take k) ++ [Value.int .i64 ns[k]] := by rw [List.take_succ_eq_append_getElem hlt]; simp only [intV, List.map_append, List.map_cons, List.map_nil]
        rw [e]
        exact hr2
      have HB2 := Lib.hid (hbe.out.grown hg2 hbe.out.size (fun b hb => by cases hb; exact Nat.le_refl _))
      clear hc hls hr2 hg2
      go_wp2
      go_roundw
      case rel => exact ⟨k + 1, zs2, by omega, by go_num, HR2, HB2⟩
      case measure => simp [intOf]; omega
    · obtain rfl : k = ns.length := by omega
      have h1 := hrow.out
      rw [List.take_length] at h1
      have hz : zs = [] := by have := h1.1; simpa [intV] using this
      rw [hz, List.append_nil] at h1
      have H1 := Lib.hid h1
      clear h1 hz
      go_wp2
      go_ret
      exact ⟨_, rfl, H1.out, hbe.out⟩
set_option maxHeartbeats 400000 in
theorem eqInts_at (u v : Value) (ss : List Int) (w : World) (h1 : IntsAt w ss u) (h2 : IntsAt w ss v) :
    Calls Try.prog 21 #[u, v] w fun e w' => e = .returned (.bool true) ∧ Below w.heap.size w w' := by
  obtain ⟨a1, c1, rfl, hm, _, ha1⟩ := h1
  obtain ⟨a2, c2, rfl, _, _, ha2⟩ := h2
  have HA1 := Lib.hid ha1
  have HA2 := Lib.hid ha2
  clear ha1 ha2
  go_enter Try.func21, Try.ntmps21
  go_wp2
  go_loopw [5] (fun i wr => ∃ k m : Nat, k ≤ ss.length ∧ i = .int .i64 k ∧ wr = w.drewN m)
    (fun i _ => ss.length - (intOf i).toNat)
  case atStart => exact ⟨0, 0, Nat.zero_le _, rfl, (World.drewN_zero _).symm⟩
  case round =>
    obtain ⟨k, m, hk, rfl, rfl⟩ := hrel
    by_cases hlt : k < ss.length
    · obtain ⟨g1, o1, rfl, q1⟩ := HA1.out (by omega)
      obtain ⟨g2, o2, rfl, q2⟩ := HA2.out (by omega)
      have d1 := q1 k hlt
      have d2 := q2 k hlt
      clear q1 q2
      go_wp2
      go_quiet (fail)
      go_wp2
      go_roundw
      case rel => exact ⟨k + 1, m + nq, by omega, by go_num, rfl⟩
      case measure => simp [intOf]; omega
    · go_wp2
      go_ret
      exact ⟨rfl, below_drewN (Below.refl _ _) _⟩
end Go.Proofs.Ytofmccihehalcaa.Trm
/- Rows of numbers put together and held against each other by the library, walked. Conditions: the rows lie in memory; each has at most 2 to the 20 numbers. -/
namespace Go.Proofs.Ytofmccihehalcaa.Trm
open Go.RowKit Go.Proofs.Ytofmccihehalcaa.Own
theorem one_intV (ss : List Int) : ∀ u ∈ intV ss, u.oneCell' = true := by
  intro u hu
  obtain ⟨s, _, rfl⟩ := List.mem_map.1 hu
  rfl
theorem intV_append (a b : List Int) : intV (a ++ b) = intV a ++ intV b := by simp [intV]
theorem src_ints {w : World} {ns : List Int} {g o c : Nat} (h : IntsAt w ns (.slice (some ⟨g, o, none⟩) ns.length c)) (hp : 0 < ns.length) : Src w (some ⟨g, o, none⟩) ns.length c (intV ns) := by
  obtain ⟨a2, c2, e, _, _, h2⟩ := h
  simp at e
  obtain ⟨rfl, rfl⟩ := e
  obtain ⟨g2, o2, e2, h3⟩ := h2 hp
  cases e2
  refine .inr ⟨_, rfl, by simp [intV], fun j u hj => ?_⟩
  have hjl : j < ns.length := by
    have := (List.getElem?_eq_some_iff.1 hj).1
    simpa [intV] using this
  have e3 : u = .int .i64 ns[j] := by
    have := hj
    rw [List.getElem?_eq_getElem (by simpa [intV] using hjl)] at this
    simpa [intV] using this.symm
  subst e3
  have e4 : (⟨g, o, none⟩ : Addr).add j = ⟨g, o + j, none⟩ := by
    unfold Addr.add
    by_cases h0 : j = 0
    · rw [if_pos h0, h0, Nat.add_zero]
    · rw [if_neg h0]
  rw [e4]
  exact h3 j hjl
set_option maxRecDepth 20000 in
set_option maxHeartbeats 800000 in
theorem implGrowI_nil (n : Nat) (w : World) (hn : n ≤ 8000000) :
    Calls Try.prog 60 #[.slice none 0 0, .int .i64 (n : Int)] w fun e w' => ∃ ov, e = .returned ov ∧ w'.ownsRow w.heap.size 3 1 ov 0 [] ∧ w.grownBy w' none := by
  obtain ⟨i0, hi, hz0, hz1, hz2⟩ := info_parts infoIntL
  rcases Nat.eq_zero_or_pos n with h0 | h0
  · subst h0
    go_enter Try.func60, Try.ntmps60
    go_wp2
    go_ret
    exact ⟨_, rfl, ⟨rfl, .inl ⟨rfl, rfl⟩⟩, World.grownBy.refl _ _⟩
  · have hr := Lib.run_append_nil_zeros (P := Try.prog) w 23 3 23 3 i0 (.int .i64 0) .i64 .i64 Try.underlying23 (by kernel_rfl) hi hz0 n h0 (by omega) (by omega) (by rw [hz2]; omega)
    have hge := grownCap_ge w n 0 3
    have hle := grownCap_le_maxLen w n 0 3 (by unfold maxLen; omega)
    have HOW : Hid ((w.drew.alloc (.cells (Builtin.zeroCells (Value.int .i64 0).cells n ++ Builtin.zeroCells (Value.int .i64 0).cells (grownCap w n 0 3 - n)) 3)).ownsRow w.heap.size 3 1 (.slice (some ⟨w.heap.size, 0, none⟩) 0 (grownCap w n 0 3)) 0 []) := by
      refine ⟨rfl, .inr ⟨w.heap.size, _, _, rfl, Nat.le_refl _, heap_alloc_new w.drew _, Nat.zero_le _, hle, ?_, by simp⟩⟩
      simp only [Array.size_append, size_zeroCells]
      show n * 1 + (grownCap w n 0 3 - n) * 1 = grownCap w n 0 3 * 1
      omega
    have HG : Hid (w.grownBy (w.drew.alloc (.cells (Builtin.zeroCells (Value.int .i64 0).cells n ++ Builtin.zeroCells (Value.int .i64 0).cells (grownCap w n 0 3 - n)) 3)) none) := ⟨rfl, rfl, rfl, by simp, fun k hk _ => Below.heap_alloc w.drew _ k hk⟩
    have HR := Lib.hid hr
    have hp : (0 : Int) < (n : Int) := by omega
    generalize (w.drew.alloc (.cells (Builtin.zeroCells (Value.int .i64 0).cells n ++ Builtin.zeroCells (Value.int .i64 0).cells (grownCap w n 0 3 - n)) 3)) = w2 at HR HOW HG
    generalize grownCap w n 0 3 = cp at *
    clear hr hi hz0 hz1 hz2
    go_enter Try.func60, Try.ntmps60
    go_wp2_with (at_builtin; refine Lib.wpList_append_run _ rfl (.tmp 20) (.tmp 21) 23 3 rfl _ _ rfl rfl _ _ HR.out ?_)
    go_wp2
    go_ret
    exact ⟨_, rfl, HOW.out, HG.out⟩
def catI (xs ys : List Int) (j : Nat) : List Int := if j = 0 then [] else if j = 1 then xs else xs ++ ys
set_option maxRecDepth 20000 in
set_option maxHeartbeats 1600000 in
theorem implConcatI_any (xs ys : List Int) (a b : Option Addr) (ac bc g : Nat) (w : World) (ha : xs.length ≤ 1048576) (hb : ys.length ≤ 1048576)
    (c0 : w.cell? ⟨g, 0, none⟩ = some (.slice a xs.length ac)) (c1 : w.cell? ⟨g, 1, none⟩ = some (.slice b ys.length bc)) (sa : Src w a xs.length ac (intV xs)) (sb : Src w b ys.length bc (intV ys)) :
    Calls Try.prog 45 #[.slice (some ⟨g, 0, none⟩) 2 2] w fun e w' => ∃ ov, e = .returned ov ∧ w'.ownsRow w.heap.size 3 1 ov (xs ++ ys).length (intV (xs ++ ys)) ∧ Below w.heap.size w w' := by
  obtain ⟨i0, hi, hz0, hz1, hz2⟩ := info_parts infoIntL
  have CG := Lib.hid (implGrowI_nil (xs.length + ys.length) w (by omega))
  have HSA := Lib.hid (fun wx (hk : Below w.heap.size w wx) => sa.keep (keeps_below hk))
  have HSB := Lib.hid (fun wx (hk : Below w.heap.size w wx) => sb.keep (keeps_below hk))
  have HC := Lib.hid (fun wx (hk : Below w.heap.size w wx) => (⟨keeps_below hk _ _ c0, keeps_below hk _ _ c1⟩ : wx.cell? ⟨g, 0, none⟩ = some (.slice a xs.length ac) ∧ wx.cell? ⟨g, 1, none⟩ = some (.slice b ys.length bc)))
  have HA := Lib.hid ha
  have HB := Lib.hid hb
  clear sa sb
  go_enter Try.func45, Try.ntmps45
  go_wp2
  go_loopw [3, 11] (fun z i wr => ∃ j : Nat, j ≤ 2 ∧ i = .int .i64 j ∧ z = .int .i64 ((if j = 0 then 0 else if j = 1 then xs.length else xs.length + ys.length : Nat) : Int) ∧ wr = w)
    (fun _ i _ => 2 - (intOf i).toNat)
  case atStart => exact ⟨0, Nat.zero_le _, rfl, rfl, rfl⟩
  case round =>
    obtain ⟨j, hj, rfl, rfl, rfl⟩ := hrel
    rcases (by omega : j = 0 ∨ j = 1 ∨ j = 2) with rfl | rfl | rfl
    · go_wp2
      go_roundw
      case rel => exact ⟨1, by omega, by go_num, by go_num, by first | rfl | trivial⟩
      case measure => simp [intOf]
    · have hq : ¬ ((xs.length : Int) + (ys.length : Int) < 0) := by omega
      go_wp2
      go_roundw
      case rel => exact ⟨2, by omega, by go_num, by go_num, by first | rfl | trivial⟩
      case measure => simp [intOf]
    · obtain ⟨w1, hw1⟩ : ∃ w0, w0 = wr := ⟨_, rfl⟩
      subst hw1
      have e : ((xs.length + ys.length : Nat) : Int) = (xs.length : Int) + (ys.length : Int) := by omega
      rw [e] at CG
      clear e
      go_wp2_with fail
      refine CG.out.mono ?_
      rintro en w2 ⟨ov, rfl, hr2, hg2⟩
      have HR2 := Lib.hid hr2
      have HB2 : Hid (Below w1.heap.size w1 w2) := below_none hg2
      obtain ⟨va, vc, rfl, _⟩ := row_shape hr2
      clear hr2 hg2 c0 c1
      go_wp2_with fail
      go_loopw [6, 27] (fun o i wr => ∃ (j : Nat) (ls : List Int), j ≤ 2 ∧ i = .int .i64 j ∧ Hid (ls = catI xs ys j) ∧ Hid (wr.ownsRow w1.heap.size 3 1 o ls.length (intV ls)) ∧ Hid (Below w1.heap.size w1 wr))
        (fun _ i _ => 2 - (intOf i).toNat)
      case atStart => exact ⟨0, [], Nat.zero_le _, rfl, rfl, HR2, HB2⟩
      case round =>
        obtain ⟨j, ls, hj, rfl, hls, hrow, hbe⟩ := hrel
        obtain ⟨oa, oc, rfl, _⟩ := row_shape hrow.out
        obtain ⟨d0, d1⟩ := HC.out _ hbe.out
        have hws : w1.heap.size ≤ wr.heap.size := hbe.out.size
        rcases (by omega : j = 0 ∨ j = 1 ∨ j = 2) with rfl | rfl | rfl
        · obtain rfl : ls = [] := hls.out
          go_wp2_with (at_builtin; refine wpList_append_src rfl (.tmp 31) (.tmp 32) 23 rfl w1.heap.size 3 i0 (.int .i64 0) 8 Try.underlying23 hi hz0 hz1 hz2 rfl (.slice oa 0 oc) 0 _ rfl hrow.out a xs.length ac (intV xs) rfl (HSA.out _ hbe.out) (one_intV _) (by unfold maxLen; omega) (by omega) hws ?_)
          intro o3 w3 hr3 hm3
          have HR3 : Hid (w3.ownsRow w1.heap.size 3 1 o3 xs.length (intV xs)) := by
            show World.ownsRow _ _ _ _ _ _ _
            simpa [intV] using hr3
          have HB3 := Lib.hid (hm3.below hbe.out hrow.out)
          clear hr3 hm3
          go_wp2_with fail
          go_roundw
          case rel => exact ⟨1, xs, by omega, by go_num, rfl, HR3, HB3⟩
          case measure => simp [intOf]
        · obtain rfl : ls = xs := hls.out
          go_wp2_with (at_builtin; refine wpList_append_src rfl (.tmp 31) (.tmp 32) 23 rfl w1.heap.size 3 i0 (.int .i64 0) 8 Try.underlying23 hi hz0 hz1 hz2 rfl (.slice oa ls.length oc) ls.length _ rfl hrow.out b ys.length bc (intV ys) rfl (HSB.out _ hbe.out) (one_intV _) (by unfold maxLen; omega) (by omega) hws ?_)
          intro o3 w3 hr3 hm3
          have HR3 : Hid (w3.ownsRow w1.heap.size 3 1 o3 (ls ++ ys).length (intV (ls ++ ys))) := by
            show World.ownsRow _ _ _ _ _ _ _
            rw [List.length_append, intV_append]
            exact hr3
          have HB3 := Lib.hid (hm3.below hbe.out hrow.out)
          clear hr3 hm3
          go_wp2_with fail
          go_roundw
          case rel => exact ⟨2, ls ++ ys, by omega, by go_num, rfl, HR3, HB3⟩
          case measure => simp [intOf]
        · obtain rfl : ls = xs ++ ys := hls.out
          obtain ⟨l, hl⟩ : ∃ l, l = xs ++ ys := ⟨_, rfl⟩
          rw [← hl] at hrow
          rw [← hl]
          have HL := Lib.hid hl
          have HR3 := hrow
          clear hl hls
          go_wp2_with fail
          go_ret
          exact ⟨_, rfl, by rw [← HL.out]; exact HR3.out, hbe.out⟩
set_option maxHeartbeats 400000 in
theorem implEqualI_any (xs ys : List Int) (u v : Value) (w : World) (h1 : IntsAt w xs u) (h2 : IntsAt w ys v) :
    Calls Try.prog 44 #[u, v] w fun e w' => e = .returned (.bool (decide (xs = ys))) ∧ Below w.heap.size w w' := by
  obtain ⟨a1, c1, rfl, hm, _, ha1⟩ := h1
  obtain ⟨a2, c2, rfl, hm2, _, ha2⟩ := h2
  have HT : Hid (xs = ys → decide (xs = ys) = true) := fun h => decide_eq_true h
  have HF : Hid (xs ≠ ys → decide (xs = ys) = false) := fun h => decide_eq_false h
  generalize decide (xs = ys) = rr at HT HF
  by_cases hl : xs.length = ys.length
  · have HL := Lib.hid hl
    obtain ⟨n, hn⟩ : ∃ n, n = ys.length := ⟨_, rfl⟩
    have HN := Lib.hid hn
    have HA1 : Hid (0 < n → ∃ g o, a1 = some ⟨g, o, none⟩ ∧ ∀ i (h : i < xs.length), w.cell? ⟨g, o + i, none⟩ = some (.int .i64 xs[i])) := fun h => ha1 (by omega)
    have HA2 : Hid (0 < n → ∃ g o, a2 = some ⟨g, o, none⟩ ∧ ∀ i (h : i < ys.length), w.cell? ⟨g, o + i, none⟩ = some (.int .i64 ys[i])) := fun h => ha2 (by omega)
    have hm3 : n ≤ 9223372036854775807 := by omega
    rw [hl, ← hn]
    clear hl hn ha1 ha2 hm hm2
    go_enter Try.func44, Try.ntmps44
    go_wp2
    go_loopw [13] (fun i wr => ∃ k m : Nat, k ≤ n ∧ i = .int .i64 k ∧ Hid (∀ q (h : q < xs.length) (h2 : q < ys.length), q < k → xs[q] = ys[q]) ∧ wr = w.drewN m)
      (fun i _ => n - (intOf i).toNat)
    case atStart => exact ⟨0, 0, Nat.zero_le _, rfl, fun q _ _ h => by omega, (World.drewN_zero _).symm⟩
    case round =>
      obtain ⟨k, m, hk, rfl, hsame, rfl⟩ := hrel
      by_cases hlt : k < n
      · obtain ⟨g1, o1, rfl, q1⟩ := HA1.out (by omega)
        obtain ⟨g2, o2, rfl, q2⟩ := HA2.out (by omega)
        have hk1 : k < xs.length := by have := HL.out; have := HN.out; omega
        have hk2 : k < ys.length := by have := HN.out; omega
        have d1 := q1 k hk1
        have d2 := q2 k hk2
        clear q1 q2
        by_cases he : xs[k] = ys[k]
        · have HS : Hid (∀ q (h : q < xs.length) (h2 : q < ys.length), q < k + 1 → xs[q] = ys[q]) := fun q h h2 h3 => by
            rcases Nat.lt_or_ge q k with h4 | h4
            · exact hsame.out q h h2 h4
            · obtain rfl : q = k := by omega
              exact he
          rw [he] at d1
          clear he
          go_wp2
          go_quiet (fail)
          go_wp2
          go_roundw
          case rel => exact ⟨k + 1, m + nq, by omega, by go_num, HS, rfl⟩
          case measure => simp [intOf]; omega
        · have HR : Hid (rr = false) := HF.out (fun h => he (by subst h; rfl))
          have hq := ne_true he
          clear he
          go_wp2
          go_quiet (fail)
          go_wp2
          go_ret
          exact ⟨by rw [HR.out]; rfl, below_drewN (below_drewN (Below.refl _ _) _) _⟩
      · have HR : Hid (rr = true) := HT.out (List.ext_getElem HL.out (fun q h h2 => hsame.out q h h2 (by have := HN.out; omega)))
        go_wp2
        go_ret
        exact ⟨by rw [HR.out]; rfl, below_drewN (Below.refl _ _) _⟩
  · have HR : Hid (rr = false) := HF.out (fun h => hl (by rw [h]))
    have hq : ((xs.length : Int) == (ys.length : Int)) = false := by rw [beq_eq_false_iff_ne]; omega
    have hq2 : ¬ (xs.length : Int) = (ys.length : Int) := by omega
    clear hl ha1 ha2
    go_enter Try.func44, Try.ntmps44
    go_wp2
    go_ret
    exact ⟨by rw [HR.out]; rfl, Below.refl _ _⟩
end Go.Proofs.Ytofmccihehalcaa.Trm
