/- The model's CodeOk, walked. Conditions: the code lies in memory; at most 2 to the 20 names and terms. With what it stands on, in one text. -/
import Derived.Test.YtmhhghdfgdhljaaGreatDoorChecked
import Derived.Test.YtmhhghdfgdhljaaGreatDoorKTrees
import Derived.Test.YtmhhghdfgdhljaaGreatDoorTermSame
import Derived.Test.YtmhhghdfgdhljaaGreatDoorTermRight
import Derived.WalkSmall
import Derived.Outline
import Derived.Test.YtmhhghdfgdhljaaGreatDoorKLineM
import Derived.Test.YtmhhghdfgdhljaaGreatDoorDecimalImpl
import Derived.Deep.RegionHeld3
import Derived.Test.YtmhhghdfgdhljaaGreatDoorUnkSpec
import Derived.Deep.RegionWith
import Derived.Test.YtmhhghdfgdhljaaGreatDoorPlaceI
import Derived.Test.YtmhhghdfgdhljaaGreatDoorKIn
import Derived.Test.YtmhhghdfgdhljaaGreatDoorKProc
import Derived.Test.YtmhhghdfgdhljaaGreatDoorZeroT
/- What the program tells of an Op, walked. Without conditions. -/
namespace Go.Proofs.YtmhhghdfgdhljaaGreatDoor.Trm
open Go.RowKit Own
def opWord (k : Int) : ByteArray := if k = 1 then ⟨#[115, 101, 116]⟩ else if k = 2 then ⟨#[116, 101, 115, 116]⟩ else if k = 3 then ⟨#[106, 117, 109, 112]⟩ else if k = 4 then ⟨#[99, 97, 108, 108]⟩ else if k = 5 then ⟨#[115, 112, 97, 119, 110]⟩ else if k = 6 then ⟨#[108, 111, 99, 107]⟩ else if k = 7 then ⟨#[117, 110, 108, 111, 99, 107]⟩ else if k = 8 then ⟨#[115, 107, 105, 112]⟩ else if k = 9 then ⟨#[101, 110, 100]⟩ else ⟨#[]⟩
theorem opWord_none {k : Int} (h : ¬ (1 ≤ k ∧ k ≤ 9)) : opWord k = ⟨#[]⟩ := by
  unfold opWord
  repeat rw [if_neg (by omega)]
theorem ret_sK {a b : ByteArray} (h : a = b) : Ending.returned (.string a) = .returned (.string b) := by rw [h]
theorem implWordK_any (k : Int) (w : World) :
    Calls Tryz.prog 94 #[.int .i64 k] w fun e w' => e = .returned (.string (opWord k)) ∧ w = w' := by
  by_cases h : 1 ≤ k ∧ k ≤ 9
  · have h2 : k = 1 ∨ k = 2 ∨ k = 3 ∨ k = 4 ∨ k = 5 ∨ k = 6 ∨ k = 7 ∨ k = 8 ∨ k = 9 := by omega
    clear h
    rcases h2 with rfl | rfl | rfl | rfl | rfl | rfl | rfl | rfl | rfl
    all_goals
      go_enter Tryz.func94, Tryz.ntmps94
      go_wp2
      go_ret
      exact ⟨rfl, rfl⟩
  · have HW := Lib.hid (opWord_none h)
    have h1 := ne_true (k := k) (x := 1) (by omega)
    have h2 := ne_true (k := k) (x := 2) (by omega)
    have h3 := ne_true (k := k) (x := 3) (by omega)
    have h4 := ne_true (k := k) (x := 4) (by omega)
    have h5 := ne_true (k := k) (x := 5) (by omega)
    have h6 := ne_true (k := k) (x := 6) (by omega)
    have h7 := ne_true (k := k) (x := 7) (by omega)
    have h8 := ne_true (k := k) (x := 8) (by omega)
    have h9 := ne_true (k := k) (x := 9) (by omega)
    clear h
    go_enter Tryz.func94, Tryz.ntmps94
    go_wp2
    go_ret
    exact ⟨ret_sK (by rw [HW.out]), rfl⟩
def namedV (gv lv pv : Value) (k : Int) : Value := if k = 1 then gv else if k = 6 ∨ k = 7 then lv else if k = 4 ∨ k = 5 then pv else .slice none 0 0
def hasArg (k : Int) : Bool := decide (k = 1 ∨ k = 6 ∨ k = 7 ∨ k = 4 ∨ k = 5)
theorem ret_nb {u v : Value} {a b : Bool} (h : u = v) (h2 : a = b) : Ending.returned (.tuple #[u, .bool a]) = .returned (.tuple #[v, .bool b]) := by rw [h, h2]
theorem implNamed_any (k : Int) (a0 b0 c0 : Option Addr) (a1 a2 b1 b2 c1 c2 : Nat) (ev iv : Value) (w : World) :
    Calls Tryz.prog 100 #[.int .i64 k, .agg #[.slice a0 a1 a2, .slice b0 b1 b2, .slice c0 c1 c2, ev, iv]] w fun e w' => e = .returned (.tuple #[namedV (.slice a0 a1 a2) (.slice b0 b1 b2) (.slice c0 c1 c2) k, .bool (hasArg k)]) ∧ Below w.heap.size w w' := by
  have HB := Lib.hid ((Below.refl w.heap.size w).alloc (Nat.le_refl _) (.cells #[.slice a0 a1 a2, .slice b0 b1 b2, .slice c0 c1 c2, ev, iv] 32))
  by_cases h : k = 1 ∨ k = 6 ∨ k = 7 ∨ k = 4 ∨ k = 5
  · rcases h with rfl | rfl | rfl | rfl | rfl
    all_goals
      go_enter Tryz.func100, Tryz.ntmps100
      go_wp2
      go_ret2
      exact ⟨rfl, HB.out⟩
  · have HN : Hid (namedV (.slice a0 a1 a2) (.slice b0 b1 b2) (.slice c0 c1 c2) k = .slice none 0 0) := by
      show _ = _
      unfold namedV
      rw [if_neg (by omega), if_neg (by omega), if_neg (by omega)]
    have HA : Hid (hasArg k = false) := decide_eq_false h
    have h1 := ne_true (k := k) (x := 1) (by omega)
    have h6 := ne_true (k := k) (x := 6) (by omega)
    have h7 := ne_true (k := k) (x := 7) (by omega)
    have h4 := ne_true (k := k) (x := 4) (by omega)
    have h5 := ne_true (k := k) (x := 5) (by omega)
    clear h
    go_enter Tryz.func100, Tryz.ntmps100
    go_wp2
    go_ret2
    exact ⟨ret_nb HN.out.symm HA.out.symm, HB.out⟩
def isTermK (k : Int) : Bool := decide (k = 1 ∨ k = 2)
def isToK (k : Int) : Bool := decide (k = 2 ∨ k = 3)
theorem implHasTerm_any (k : Int) (w : World) :
    Calls Tryz.prog 138 #[.int .i64 k] w fun e w' => e = .returned (.bool (isTermK k)) ∧ w = w' := by
  by_cases h : k = 1 ∨ k = 2
  · rcases h with rfl | rfl
    all_goals
      go_enter Tryz.func138, Tryz.ntmps138
      go_wp2
      go_ret
      exact ⟨rfl, rfl⟩
  · have HA : Hid (isTermK k = false) := decide_eq_false h
    have h1 := ne_true (k := k) (x := 1) (by omega)
    have h2 := ne_true (k := k) (x := 2) (by omega)
    clear h
    go_enter Tryz.func138, Tryz.ntmps138
    go_wp2
    go_ret
    exact ⟨ret_b (by rw [HA.out]), rfl⟩
theorem implHasTo_any (k : Int) (w : World) :
    Calls Tryz.prog 142 #[.int .i64 k] w fun e w' => e = .returned (.bool (isToK k)) ∧ w = w' := by
  by_cases h : k = 2 ∨ k = 3
  · rcases h with rfl | rfl
    all_goals
      go_enter Tryz.func142, Tryz.ntmps142
      go_wp2
      go_ret
      exact ⟨rfl, rfl⟩
  · have HA : Hid (isToK k = false) := decide_eq_false h
    have h1 := ne_true (k := k) (x := 2) (by omega)
    have h2 := ne_true (k := k) (x := 3) (by omega)
    clear h
    go_enter Tryz.func142, Tryz.ntmps142
    go_wp2
    go_ret
    exact ⟨ret_b (by rw [HA.out]), rfl⟩
end Go.Proofs.YtmhhghdfgdhljaaGreatDoor.Trm
/- The program's insText, walked, by the kind of the instruction. Conditions: the code lies in memory, the instruction is right. -/
namespace Go.Proofs.YtmhhghdfgdhljaaGreatDoor.Trm
open Go.RowKit Own Decimals
set_option maxRecDepth 20000 in
set_option maxHeartbeats 3200000 in
theorem insText_set (x : KTree) (a u : Int) (t : Tree) (ga la pa ea ia ta : Option Addr) (gc lc pc ec ic n tc : Nat) (w : World) (hr : RightK x ⟨1, a, t, u⟩) (hg : NamesAt w x.globals (.slice ga x.globals.length gc) ∧ nmsB x.globals = true) (_ : NamesAt w x.locks (.slice la x.locks.length lc) ∧ nmsB x.locks = true) (_ : NamesAt w x.procs (.slice pa x.procs.length pc) ∧ nmsB x.procs = true) (_ : InI u) (ht : Lies w t (.agg #[.int .i64 t.kind, .int .i64 t.num, .string t.name, .slice ta t.kids.length tc])) (hz : szT t ≤ 1048576) (hts : (textT t).size ≤ 21000000) (hpw : Pows w) :
    Calls Tryz.prog 47 #[.agg #[.slice ga x.globals.length gc, .slice la x.locks.length lc, .slice pa x.procs.length pc, .slice ea x.entry.length ec, .slice ia n ic], .agg #[.int .i64 1, .int .i64 a, .int .i64 t.kind, .int .i64 t.num, .string t.name, .slice ta t.kids.length tc, .int .i64 u]] w fun e w' => e = .returned (.string (lineB x ⟨1, a, t, u⟩)) ∧ Below w.heap.size w w' := by
  obtain ⟨W1, hW1⟩ : ∃ W, W = (w.alloc (.cells #[.slice ga x.globals.length gc, .slice la x.locks.length lc, .slice pa x.procs.length pc, .slice ea x.entry.length ec, .slice ia n ic] 32)).alloc (.cells #[.int .i64 1, .int .i64 a, .int .i64 t.kind, .int .i64 t.num, .string t.name, .slice ta t.kids.length tc, .int .i64 u] 45) := ⟨_, rfl⟩
  have hs1 : (w.alloc (.cells #[.slice ga x.globals.length gc, .slice la x.locks.length lc, .slice pa x.procs.length pc, .slice ea x.entry.length ec, .slice ia n ic] 32)).heap.size = w.heap.size + 1 := by simp
  have b1 : Below w.heap.size w W1 := by rw [hW1]; exact ((Below.refl w.heap.size w).alloc (Nat.le_refl _) _).alloc (by simp) _
  have X1 := Lib.hid ((Box7.new (w.alloc (.cells #[.slice ga x.globals.length gc, .slice la x.locks.length lc, .slice pa x.procs.length pc, .slice ea x.entry.length ec, .slice ia n ic] 32)) (.int .i64 1) (.int .i64 a) (.int .i64 t.kind) (.int .i64 t.num) (.string t.name) (.slice ta t.kids.length tc) (.int .i64 u) 45))
  have Y1 := Lib.hid ((Box5.new w (.slice ga x.globals.length gc) (.slice la x.locks.length lc) (.slice pa x.procs.length pc) (.slice ea x.entry.length ec) (.slice ia n ic) 32).keep (keeps_alloc _ (.cells #[.int .i64 1, .int .i64 a, .int .i64 t.kind, .int .i64 t.num, .string t.name, .slice ta t.kids.length tc, .int .i64 u] 45)))
  rw [← hW1, hs1] at X1
  rw [← hW1] at Y1
  have B1 := Lib.hid b1
  have HW1 := Lib.hid hW1
  have CW : Hid (∀ w, Calls Tryz.prog 94 #[.int .i64 1] w fun e w' => e = .returned (.string ⟨#[115, 101, 116]⟩) ∧ w = w') := fun w => implWordK_any 1 w
  have CN := Lib.hid (fun w => implNamed_any 1 ga la pa x.globals.length gc x.locks.length lc x.procs.length pc (.slice ea x.entry.length ec) (.slice ia n ic) w)
  have CT := Lib.hid (fun wx (hb : Below w.heap.size w wx) => implTermText_any t _ wx (ht.keep (keeps_below hb)) hz (hpw.below hb))
  obtain ⟨m, rfl⟩ : ∃ m : Nat, a = (m : Int) := ⟨a.toNat, by have := hr.arg.1; show a = _; have h2 : (⟨1, a, t, u⟩ : InsT).arg = a := rfl; rw [h2] at this; omega⟩
  have hm : m < x.globals.length := by have h := hr.arg.2; have h2 : mostI x (⟨1, (m : Int), t, u⟩ : InsT).op = (x.globals.length : Int) - 1 := rfl; rw [h2] at h; have h3 : (⟨1, (m : Int), t, u⟩ : InsT).arg = (m : Int) := rfl; rw [h3] at h; omega
  have hns := nmsB_size hg.2 hm
  obtain ⟨⟨a2, c2, e2, hln, hc⟩, _⟩ := hg.1.keep (keeps_below b1)
  simp at e2
  obtain ⟨rfl, rfl⟩ := e2
  obtain ⟨g, o, rfl, hc2⟩ := hc (by omega)
  have c0 := hc2 m hm
  have HL : Hid (lineB x ⟨1, ((m : Nat) : Int), t, u⟩ = ⟨#[115, 101, 116, 32]⟩ ++ nmAt x.globals (m : Int) ++ ⟨#[32, 61, 32]⟩ ++ textT t) := rfl
  obtain ⟨rr, hrr⟩ : ∃ z, lineB x ⟨1, ((m : Nat) : Int), t, u⟩ = z := ⟨_, rfl⟩
  rw [hrr] at HL
  rw [hrr]
  clear hrr
  rw [nmAt_eq hm] at HL
  obtain ⟨nm, hnm⟩ : ∃ z, x.globals[m] = z := ⟨_, rfl⟩
  rw [hnm] at HL c0 hns
  clear hnm
  obtain ⟨tx, htx⟩ : ∃ z, textT t = z := ⟨_, rfl⟩
  rw [htx] at HL CT hts
  clear htx
  have z0 : ByteArray.size ⟨#[32]⟩ = 1 := rfl
  have z1 : ByteArray.size ⟨#[32, 61, 32]⟩ = 3 := rfl
  have z2 : ByteArray.size ⟨#[32, 101, 108, 115, 101, 32]⟩ = 6 := rfl
  have z3 : ByteArray.size ⟨#[115, 101, 116]⟩ = 3 := rfl
  have ad0 : ∀ w, (Op.stringOp .add (⟨#[32]⟩) (nm)).run Tryz.prog w = .ok (.string ((⟨#[32]⟩) ++ (nm))) w := fun w => run_string_add_sum w _ _ (by (try simp only [ByteArray.size_append]); omega)
  have ad1 : ∀ w, (Op.stringOp .add (⟨#[115, 101, 116]⟩) (⟨#[32]⟩ ++ nm)).run Tryz.prog w = .ok (.string ((⟨#[115, 101, 116]⟩) ++ (⟨#[32]⟩ ++ nm))) w := fun w => run_string_add_sum w _ _ (by (try simp only [ByteArray.size_append]); omega)
  have ad2 : ∀ w, (Op.stringOp .add (⟨#[32, 61, 32]⟩) (tx)).run Tryz.prog w = .ok (.string ((⟨#[32, 61, 32]⟩) ++ (tx))) w := fun w => run_string_add_sum w _ _ (by (try simp only [ByteArray.size_append]); omega)
  have ad3 : ∀ w, (Op.stringOp .add (⟨#[115, 101, 116]⟩ ++ (⟨#[32]⟩ ++ nm)) (⟨#[32, 61, 32]⟩ ++ tx)).run Tryz.prog w = .ok (.string ((⟨#[115, 101, 116]⟩ ++ (⟨#[32]⟩ ++ nm)) ++ (⟨#[32, 61, 32]⟩ ++ tx))) w := fun w => run_string_add_sum w _ _ (by (try simp only [ByteArray.size_append]); omega)
  have hlit : (⟨#[115, 101, 116]⟩ : ByteArray) ++ ⟨#[32]⟩ = ⟨#[115, 101, 116, 32]⟩ := rfl
  clear hr hc hc2 hg ht hz hpw hW1 hs1 b1
  obtain ⟨q0, q1, q2, q3, q4, q5, q6⟩ := X1.out
  obtain ⟨p0, p1, p2, p3, p4⟩ := Y1.out
  go_enter Tryz.func47, Tryz.ntmps47
  go_wp2_with fail
  rw [← HW1.out]
  refine (CW.out _).mono ?_
  rintro e w2 ⟨rfl, rfl⟩
  go_wp2_with fail
  refine (CN.out _).mono ?_
  rintro e w2 ⟨rfl, hb⟩
  have B2 := Lib.hid (B1.out.trans (hb.mono B1.out.size))
  have X2 := Lib.hid (X1.out.keep (keeps_below hb))
  have d0 := keeps_below hb _ _ c0
  clear hb q0 q1 q2 q3 q4 q5 q6 p0 p1 p2 p3 p4 c0
  obtain ⟨q0, q1, q2, q3, q4, q5, q6⟩ := X2.out
  dsimp only [namedV, hasArg]
  go_wp2_with fail
  refine (CT.out _ B2.out).mono ?_
  rintro e w3 ⟨rfl, hb⟩
  have B3 := Lib.hid (B2.out.trans (hb.mono B2.out.size))
  clear hb
  go_wp2_with fail
  go_ret
  exact ⟨ret_s (by rw [HL.out, ← hlit]; try simp only [← ByteArray.append_assoc]), B3.out⟩
set_option maxRecDepth 20000 in
set_option maxHeartbeats 3200000 in
theorem insText_test (x : KTree) (a u : Int) (t : Tree) (ga la pa ea ia ta : Option Addr) (gc lc pc ec ic n tc : Nat) (w : World) (_ : RightK x ⟨2, a, t, u⟩) (_ : NamesAt w x.globals (.slice ga x.globals.length gc) ∧ nmsB x.globals = true) (_ : NamesAt w x.locks (.slice la x.locks.length lc) ∧ nmsB x.locks = true) (_ : NamesAt w x.procs (.slice pa x.procs.length pc) ∧ nmsB x.procs = true) (hu : InI u) (ht : Lies w t (.agg #[.int .i64 t.kind, .int .i64 t.num, .string t.name, .slice ta t.kids.length tc])) (hz : szT t ≤ 1048576) (hts : (textT t).size ≤ 21000000) (hpw : Pows w) :
    Calls Tryz.prog 47 #[.agg #[.slice ga x.globals.length gc, .slice la x.locks.length lc, .slice pa x.procs.length pc, .slice ea x.entry.length ec, .slice ia n ic], .agg #[.int .i64 2, .int .i64 a, .int .i64 t.kind, .int .i64 t.num, .string t.name, .slice ta t.kids.length tc, .int .i64 u]] w fun e w' => e = .returned (.string (lineB x ⟨2, a, t, u⟩)) ∧ Below w.heap.size w w' := by
  obtain ⟨W1, hW1⟩ : ∃ W, W = (w.alloc (.cells #[.slice ga x.globals.length gc, .slice la x.locks.length lc, .slice pa x.procs.length pc, .slice ea x.entry.length ec, .slice ia n ic] 32)).alloc (.cells #[.int .i64 2, .int .i64 a, .int .i64 t.kind, .int .i64 t.num, .string t.name, .slice ta t.kids.length tc, .int .i64 u] 45) := ⟨_, rfl⟩
  have hs1 : (w.alloc (.cells #[.slice ga x.globals.length gc, .slice la x.locks.length lc, .slice pa x.procs.length pc, .slice ea x.entry.length ec, .slice ia n ic] 32)).heap.size = w.heap.size + 1 := by simp
  have b1 : Below w.heap.size w W1 := by rw [hW1]; exact ((Below.refl w.heap.size w).alloc (Nat.le_refl _) _).alloc (by simp) _
  have X1 := Lib.hid ((Box7.new (w.alloc (.cells #[.slice ga x.globals.length gc, .slice la x.locks.length lc, .slice pa x.procs.length pc, .slice ea x.entry.length ec, .slice ia n ic] 32)) (.int .i64 2) (.int .i64 a) (.int .i64 t.kind) (.int .i64 t.num) (.string t.name) (.slice ta t.kids.length tc) (.int .i64 u) 45))
  have Y1 := Lib.hid ((Box5.new w (.slice ga x.globals.length gc) (.slice la x.locks.length lc) (.slice pa x.procs.length pc) (.slice ea x.entry.length ec) (.slice ia n ic) 32).keep (keeps_alloc _ (.cells #[.int .i64 2, .int .i64 a, .int .i64 t.kind, .int .i64 t.num, .string t.name, .slice ta t.kids.length tc, .int .i64 u] 45)))
  rw [← hW1, hs1] at X1
  rw [← hW1] at Y1
  have B1 := Lib.hid b1
  have HW1 := Lib.hid hW1
  have CW : Hid (∀ w, Calls Tryz.prog 94 #[.int .i64 2] w fun e w' => e = .returned (.string ⟨#[116, 101, 115, 116]⟩) ∧ w = w') := fun w => implWordK_any 2 w
  have CN := Lib.hid (fun w => implNamed_any 2 ga la pa x.globals.length gc x.locks.length lc x.procs.length pc (.slice ea x.entry.length ec) (.slice ia n ic) w)
  have CT := Lib.hid (fun wx (hb : Below w.heap.size w wx) => implTermText_any t _ wx (ht.keep (keeps_below hb)) hz (hpw.below hb))
  have CD : Hid (∀ wx, Below w.heap.size w wx → Calls Tryz.prog 46 #[.int .i64 u] wx fun e w' => e = .returned (.string (decB u)) ∧ Below wx.heap.size wx w') := fun wx hb => implDecimal_any u wx hu.1 hu.2 (hpw.below hb)
  have hds := decB_size hu
  have HL : Hid (lineB x ⟨2, a, t, u⟩ = ⟨#[116, 101, 115, 116, 32]⟩ ++ textT t ++ ⟨#[32, 101, 108, 115, 101, 32]⟩ ++ decB u) := rfl
  obtain ⟨rr, hrr⟩ : ∃ z, lineB x ⟨2, a, t, u⟩ = z := ⟨_, rfl⟩
  rw [hrr] at HL
  rw [hrr]
  clear hrr
  obtain ⟨tx, htx⟩ : ∃ z, textT t = z := ⟨_, rfl⟩
  rw [htx] at HL CT hts
  clear htx
  obtain ⟨dx, hdx⟩ : ∃ z, decB u = z := ⟨_, rfl⟩
  rw [hdx] at HL CD hds
  clear hdx
  have z0 : ByteArray.size ⟨#[32]⟩ = 1 := rfl
  have z1 : ByteArray.size ⟨#[32, 61, 32]⟩ = 3 := rfl
  have z2 : ByteArray.size ⟨#[32, 101, 108, 115, 101, 32]⟩ = 6 := rfl
  have z3 : ByteArray.size ⟨#[116, 101, 115, 116]⟩ = 4 := rfl
  have ad0 : ∀ w, (Op.stringOp .add (⟨#[32]⟩) (tx)).run Tryz.prog w = .ok (.string ((⟨#[32]⟩) ++ (tx))) w := fun w => run_string_add_sum w _ _ (by (try simp only [ByteArray.size_append]); omega)
  have ad1 : ∀ w, (Op.stringOp .add (⟨#[32]⟩ ++ tx) (⟨#[32, 101, 108, 115, 101, 32]⟩)).run Tryz.prog w = .ok (.string ((⟨#[32]⟩ ++ tx) ++ (⟨#[32, 101, 108, 115, 101, 32]⟩))) w := fun w => run_string_add_sum w _ _ (by (try simp only [ByteArray.size_append]); omega)
  have ad2 : ∀ w, (Op.stringOp .add (⟨#[32]⟩ ++ tx ++ ⟨#[32, 101, 108, 115, 101, 32]⟩) (dx)).run Tryz.prog w = .ok (.string ((⟨#[32]⟩ ++ tx ++ ⟨#[32, 101, 108, 115, 101, 32]⟩) ++ (dx))) w := fun w => run_string_add_sum w _ _ (by (try simp only [ByteArray.size_append]); omega)
  have ad3 : ∀ w, (Op.stringOp .add (⟨#[116, 101, 115, 116]⟩) (⟨#[32]⟩ ++ tx ++ ⟨#[32, 101, 108, 115, 101, 32]⟩ ++ dx)).run Tryz.prog w = .ok (.string ((⟨#[116, 101, 115, 116]⟩) ++ (⟨#[32]⟩ ++ tx ++ ⟨#[32, 101, 108, 115, 101, 32]⟩ ++ dx))) w := fun w => run_string_add_sum w _ _ (by (try simp only [ByteArray.size_append]); omega)
  have hlit : (⟨#[116, 101, 115, 116]⟩ : ByteArray) ++ ⟨#[32]⟩ = ⟨#[116, 101, 115, 116, 32]⟩ := rfl
  clear ht hz hpw hW1 hs1 b1
  obtain ⟨q0, q1, q2, q3, q4, q5, q6⟩ := X1.out
  obtain ⟨p0, p1, p2, p3, p4⟩ := Y1.out
  go_enter Tryz.func47, Tryz.ntmps47
  go_wp2_with fail
  rw [← HW1.out]
  refine (CW.out _).mono ?_
  rintro e w2 ⟨rfl, rfl⟩
  go_wp2_with fail
  refine (CN.out _).mono ?_
  rintro e w2 ⟨rfl, hb⟩
  have B2 := Lib.hid (B1.out.trans (hb.mono B1.out.size))
  have X2 := Lib.hid (X1.out.keep (keeps_below hb))
  clear hb q0 q1 q2 q3 q4 q5 q6 p0 p1 p2 p3 p4
  obtain ⟨q0, q1, q2, q3, q4, q5, q6⟩ := X2.out
  dsimp only [namedV, hasArg]
  have KS : Hid (∀ wx, Below w2.heap.size w2 wx → wx.cell? ⟨w.heap.size + 1, 2, none⟩ = some (.int .i64 t.kind) ∧ wx.cell? ⟨w.heap.size + 1, 3, none⟩ = some (.int .i64 t.num) ∧ wx.cell? ⟨w.heap.size + 1, 4, none⟩ = some (.string t.name) ∧ wx.cell? ⟨w.heap.size + 1, 5, none⟩ = some (.slice ta t.kids.length tc) ∧ wx.cell? ⟨w.heap.size + 1, 6, none⟩ = some (.int .i64 u) ∧ Below w2.heap.size w2 wx) := fun wx hb => by
    obtain ⟨_, _, s2, s3, s4, s5, s6⟩ := X2.out.keep (keeps_below hb)
    exact ⟨s2, s3, s4, s5, s6, hb⟩
  have CT2 : Hid (∀ wx, Below w2.heap.size w2 wx → Calls Tryz.prog 101 #[.agg #[.int .i64 t.kind, .int .i64 t.num, .string t.name, .slice ta t.kids.length tc]] wx fun e w' => e = .returned (.string tx) ∧ Below w2.heap.size w2 w') := fun wx hb => (CT.out wx (B2.out.trans (hb.mono B2.out.size))).mono fun e w' ⟨he, h⟩ => ⟨he, hb.trans (h.mono hb.size)⟩
  have CD2 : Hid (∀ wx, Below w2.heap.size w2 wx → Calls Tryz.prog 46 #[.int .i64 u] wx fun e w' => e = .returned (.string dx) ∧ Below w2.heap.size w2 w') := fun wx hb => (CD.out wx (B2.out.trans (hb.mono B2.out.size))).mono fun e w' ⟨he, h⟩ => ⟨he, hb.trans (h.mono hb.size)⟩
  have b0 : Below w2.heap.size w2 w2.drew := (Below.refl _ _).drew
  go_wp2_with fail
  clear q0 q1 q2 q3 q4 q5 q6
  go_region_held3 (fun wx => wx.cell? ⟨w.heap.size + 1, 2, none⟩ = some (.int .i64 t.kind) ∧ wx.cell? ⟨w.heap.size + 1, 3, none⟩ = some (.int .i64 t.num) ∧ wx.cell? ⟨w.heap.size + 1, 4, none⟩ = some (.string t.name) ∧ wx.cell? ⟨w.heap.size + 1, 5, none⟩ = some (.slice ta t.kids.length tc) ∧ wx.cell? ⟨w.heap.size + 1, 6, none⟩ = some (.int .i64 u) ∧ Below w2.heap.size w2 wx)
    (exact KS.out _ (by assumption))
    (first
    | (go_at_call 101; (with_reducible refine (CT2.out _ (by assumption)).mono ?_); rintro e w3 ⟨rfl, b3⟩)
    | (go_at_call 46; (with_reducible refine (CD2.out _ (by assumption)).mono ?_); rintro e w4 ⟨rfl, b4⟩))
  all_goals
    have B4 := Lib.hid (B2.out.trans (b4.mono B2.out.size))
    have B3 := Lib.hid (B2.out.trans (b3.mono B2.out.size))
    clear b3 b4
    go_wp2_with fail
    go_ret
    exact ⟨ret_s (by rw [HL.out, ← hlit]; try simp only [← ByteArray.append_assoc]), by first | exact B4.out | exact B3.out⟩
set_option maxRecDepth 20000 in
set_option maxHeartbeats 3200000 in
theorem insText_jump (x : KTree) (a u : Int) (t : Tree) (ga la pa ea ia ta : Option Addr) (gc lc pc ec ic n tc : Nat) (w : World) (_ : RightK x ⟨3, a, t, u⟩) (_ : NamesAt w x.globals (.slice ga x.globals.length gc) ∧ nmsB x.globals = true) (_ : NamesAt w x.locks (.slice la x.locks.length lc) ∧ nmsB x.locks = true) (_ : NamesAt w x.procs (.slice pa x.procs.length pc) ∧ nmsB x.procs = true) (hu : InI u) (_ : Lies w t (.agg #[.int .i64 t.kind, .int .i64 t.num, .string t.name, .slice ta t.kids.length tc])) (_ : szT t ≤ 1048576) (_ : (textT t).size ≤ 21000000) (hpw : Pows w) :
    Calls Tryz.prog 47 #[.agg #[.slice ga x.globals.length gc, .slice la x.locks.length lc, .slice pa x.procs.length pc, .slice ea x.entry.length ec, .slice ia n ic], .agg #[.int .i64 3, .int .i64 a, .int .i64 t.kind, .int .i64 t.num, .string t.name, .slice ta t.kids.length tc, .int .i64 u]] w fun e w' => e = .returned (.string (lineB x ⟨3, a, t, u⟩)) ∧ Below w.heap.size w w' := by
  obtain ⟨W1, hW1⟩ : ∃ W, W = (w.alloc (.cells #[.slice ga x.globals.length gc, .slice la x.locks.length lc, .slice pa x.procs.length pc, .slice ea x.entry.length ec, .slice ia n ic] 32)).alloc (.cells #[.int .i64 3, .int .i64 a, .int .i64 t.kind, .int .i64 t.num, .string t.name, .slice ta t.kids.length tc, .int .i64 u] 45) := ⟨_, rfl⟩
  have hs1 : (w.alloc (.cells #[.slice ga x.globals.length gc, .slice la x.locks.length lc, .slice pa x.procs.length pc, .slice ea x.entry.length ec, .slice ia n ic] 32)).heap.size = w.heap.size + 1 := by simp
  have b1 : Below w.heap.size w W1 := by rw [hW1]; exact ((Below.refl w.heap.size w).alloc (Nat.le_refl _) _).alloc (by simp) _
  have X1 := Lib.hid ((Box7.new (w.alloc (.cells #[.slice ga x.globals.length gc, .slice la x.locks.length lc, .slice pa x.procs.length pc, .slice ea x.entry.length ec, .slice ia n ic] 32)) (.int .i64 3) (.int .i64 a) (.int .i64 t.kind) (.int .i64 t.num) (.string t.name) (.slice ta t.kids.length tc) (.int .i64 u) 45))
  have Y1 := Lib.hid ((Box5.new w (.slice ga x.globals.length gc) (.slice la x.locks.length lc) (.slice pa x.procs.length pc) (.slice ea x.entry.length ec) (.slice ia n ic) 32).keep (keeps_alloc _ (.cells #[.int .i64 3, .int .i64 a, .int .i64 t.kind, .int .i64 t.num, .string t.name, .slice ta t.kids.length tc, .int .i64 u] 45)))
  rw [← hW1, hs1] at X1
  rw [← hW1] at Y1
  have B1 := Lib.hid b1
  have HW1 := Lib.hid hW1
  have CW : Hid (∀ w, Calls Tryz.prog 94 #[.int .i64 3] w fun e w' => e = .returned (.string ⟨#[106, 117, 109, 112]⟩) ∧ w = w') := fun w => implWordK_any 3 w
  have CN := Lib.hid (fun w => implNamed_any 3 ga la pa x.globals.length gc x.locks.length lc x.procs.length pc (.slice ea x.entry.length ec) (.slice ia n ic) w)
  have CD : Hid (∀ wx, Below w.heap.size w wx → Calls Tryz.prog 46 #[.int .i64 u] wx fun e w' => e = .returned (.string (decB u)) ∧ Below wx.heap.size wx w') := fun wx hb => implDecimal_any u wx hu.1 hu.2 (hpw.below hb)
  have hds := decB_size hu
  have HL : Hid (lineB x ⟨3, a, t, u⟩ = ⟨#[106, 117, 109, 112, 32]⟩ ++ decB u) := rfl
  obtain ⟨rr, hrr⟩ : ∃ z, lineB x ⟨3, a, t, u⟩ = z := ⟨_, rfl⟩
  rw [hrr] at HL
  rw [hrr]
  clear hrr
  obtain ⟨dx, hdx⟩ : ∃ z, decB u = z := ⟨_, rfl⟩
  rw [hdx] at HL CD hds
  clear hdx
  have z0 : ByteArray.size ⟨#[32]⟩ = 1 := rfl
  have z1 : ByteArray.size ⟨#[32, 61, 32]⟩ = 3 := rfl
  have z2 : ByteArray.size ⟨#[32, 101, 108, 115, 101, 32]⟩ = 6 := rfl
  have z3 : ByteArray.size ⟨#[106, 117, 109, 112]⟩ = 4 := rfl
  have ad0 : ∀ w, (Op.stringOp .add (⟨#[32]⟩) (dx)).run Tryz.prog w = .ok (.string ((⟨#[32]⟩) ++ (dx))) w := fun w => run_string_add_sum w _ _ (by (try simp only [ByteArray.size_append]); omega)
  have ad1 : ∀ w, (Op.stringOp .add (⟨#[106, 117, 109, 112]⟩) (⟨#[32]⟩ ++ dx)).run Tryz.prog w = .ok (.string ((⟨#[106, 117, 109, 112]⟩) ++ (⟨#[32]⟩ ++ dx))) w := fun w => run_string_add_sum w _ _ (by (try simp only [ByteArray.size_append]); omega)
  have hlit : (⟨#[106, 117, 109, 112]⟩ : ByteArray) ++ ⟨#[32]⟩ = ⟨#[106, 117, 109, 112, 32]⟩ := rfl
  clear hpw hW1 hs1 b1
  obtain ⟨q0, q1, q2, q3, q4, q5, q6⟩ := X1.out
  obtain ⟨p0, p1, p2, p3, p4⟩ := Y1.out
  go_enter Tryz.func47, Tryz.ntmps47
  go_wp2_with fail
  rw [← HW1.out]
  refine (CW.out _).mono ?_
  rintro e w2 ⟨rfl, rfl⟩
  go_wp2_with fail
  refine (CN.out _).mono ?_
  rintro e w2 ⟨rfl, hb⟩
  have B2 := Lib.hid (B1.out.trans (hb.mono B1.out.size))
  have X2 := Lib.hid (X1.out.keep (keeps_below hb))
  clear hb q0 q1 q2 q3 q4 q5 q6 p0 p1 p2 p3 p4
  obtain ⟨q0, q1, q2, q3, q4, q5, q6⟩ := X2.out
  dsimp only [namedV, hasArg]
  go_wp2_with fail
  refine (CD.out _ B2.out).mono ?_
  rintro e w3 ⟨rfl, hb⟩
  have B3 := Lib.hid (B2.out.trans (hb.mono B2.out.size))
  clear hb
  go_wp2_with fail
  go_ret
  exact ⟨ret_s (by rw [HL.out, ← hlit]; try simp only [← ByteArray.append_assoc]), B3.out⟩
set_option maxRecDepth 20000 in
set_option maxHeartbeats 3200000 in
theorem insText_call (x : KTree) (a u : Int) (t : Tree) (ga la pa ea ia ta : Option Addr) (gc lc pc ec ic n tc : Nat) (w : World) (hr : RightK x ⟨4, a, t, u⟩) (_ : NamesAt w x.globals (.slice ga x.globals.length gc) ∧ nmsB x.globals = true) (_ : NamesAt w x.locks (.slice la x.locks.length lc) ∧ nmsB x.locks = true) (hp : NamesAt w x.procs (.slice pa x.procs.length pc) ∧ nmsB x.procs = true) (_ : InI u) (_ : Lies w t (.agg #[.int .i64 t.kind, .int .i64 t.num, .string t.name, .slice ta t.kids.length tc])) (_ : szT t ≤ 1048576) (_ : (textT t).size ≤ 21000000) (_ : Pows w) :
    Calls Tryz.prog 47 #[.agg #[.slice ga x.globals.length gc, .slice la x.locks.length lc, .slice pa x.procs.length pc, .slice ea x.entry.length ec, .slice ia n ic], .agg #[.int .i64 4, .int .i64 a, .int .i64 t.kind, .int .i64 t.num, .string t.name, .slice ta t.kids.length tc, .int .i64 u]] w fun e w' => e = .returned (.string (lineB x ⟨4, a, t, u⟩)) ∧ Below w.heap.size w w' := by
  obtain ⟨W1, hW1⟩ : ∃ W, W = (w.alloc (.cells #[.slice ga x.globals.length gc, .slice la x.locks.length lc, .slice pa x.procs.length pc, .slice ea x.entry.length ec, .slice ia n ic] 32)).alloc (.cells #[.int .i64 4, .int .i64 a, .int .i64 t.kind, .int .i64 t.num, .string t.name, .slice ta t.kids.length tc, .int .i64 u] 45) := ⟨_, rfl⟩
  have hs1 : (w.alloc (.cells #[.slice ga x.globals.length gc, .slice la x.locks.length lc, .slice pa x.procs.length pc, .slice ea x.entry.length ec, .slice ia n ic] 32)).heap.size = w.heap.size + 1 := by simp
  have b1 : Below w.heap.size w W1 := by rw [hW1]; exact ((Below.refl w.heap.size w).alloc (Nat.le_refl _) _).alloc (by simp) _
  have X1 := Lib.hid ((Box7.new (w.alloc (.cells #[.slice ga x.globals.length gc, .slice la x.locks.length lc, .slice pa x.procs.length pc, .slice ea x.entry.length ec, .slice ia n ic] 32)) (.int .i64 4) (.int .i64 a) (.int .i64 t.kind) (.int .i64 t.num) (.string t.name) (.slice ta t.kids.length tc) (.int .i64 u) 45))
  have Y1 := Lib.hid ((Box5.new w (.slice ga x.globals.length gc) (.slice la x.locks.length lc) (.slice pa x.procs.length pc) (.slice ea x.entry.length ec) (.slice ia n ic) 32).keep (keeps_alloc _ (.cells #[.int .i64 4, .int .i64 a, .int .i64 t.kind, .int .i64 t.num, .string t.name, .slice ta t.kids.length tc, .int .i64 u] 45)))
  rw [← hW1, hs1] at X1
  rw [← hW1] at Y1
  have B1 := Lib.hid b1
  have HW1 := Lib.hid hW1
  have CW : Hid (∀ w, Calls Tryz.prog 94 #[.int .i64 4] w fun e w' => e = .returned (.string ⟨#[99, 97, 108, 108]⟩) ∧ w = w') := fun w => implWordK_any 4 w
  have CN := Lib.hid (fun w => implNamed_any 4 ga la pa x.globals.length gc x.locks.length lc x.procs.length pc (.slice ea x.entry.length ec) (.slice ia n ic) w)
  obtain ⟨m, rfl⟩ : ∃ m : Nat, a = (m : Int) := ⟨a.toNat, by have := hr.arg.1; show a = _; have h2 : (⟨4, a, t, u⟩ : InsT).arg = a := rfl; rw [h2] at this; omega⟩
  have hm : m < x.procs.length := by have h := hr.arg.2; have h2 : mostI x (⟨4, (m : Int), t, u⟩ : InsT).op = (x.procs.length : Int) - 1 := rfl; rw [h2] at h; have h3 : (⟨4, (m : Int), t, u⟩ : InsT).arg = (m : Int) := rfl; rw [h3] at h; omega
  have hns := nmsB_size hp.2 hm
  obtain ⟨⟨a2, c2, e2, hln, hc⟩, _⟩ := hp.1.keep (keeps_below b1)
  simp at e2
  obtain ⟨rfl, rfl⟩ := e2
  obtain ⟨g, o, rfl, hc2⟩ := hc (by omega)
  have c0 := hc2 m hm
  have HL : Hid (lineB x ⟨4, ((m : Nat) : Int), t, u⟩ = ⟨#[99, 97, 108, 108, 32]⟩ ++ nmAt x.procs (m : Int)) := rfl
  obtain ⟨rr, hrr⟩ : ∃ z, lineB x ⟨4, ((m : Nat) : Int), t, u⟩ = z := ⟨_, rfl⟩
  rw [hrr] at HL
  rw [hrr]
  clear hrr
  rw [nmAt_eq hm] at HL
  obtain ⟨nm, hnm⟩ : ∃ z, x.procs[m] = z := ⟨_, rfl⟩
  rw [hnm] at HL c0 hns
  clear hnm
  have z0 : ByteArray.size ⟨#[32]⟩ = 1 := rfl
  have z1 : ByteArray.size ⟨#[32, 61, 32]⟩ = 3 := rfl
  have z2 : ByteArray.size ⟨#[32, 101, 108, 115, 101, 32]⟩ = 6 := rfl
  have z3 : ByteArray.size ⟨#[99, 97, 108, 108]⟩ = 4 := rfl
  have ad0 : ∀ w, (Op.stringOp .add (⟨#[32]⟩) (nm)).run Tryz.prog w = .ok (.string ((⟨#[32]⟩) ++ (nm))) w := fun w => run_string_add_sum w _ _ (by (try simp only [ByteArray.size_append]); omega)
  have ad1 : ∀ w, (Op.stringOp .add (⟨#[99, 97, 108, 108]⟩) (⟨#[32]⟩ ++ nm)).run Tryz.prog w = .ok (.string ((⟨#[99, 97, 108, 108]⟩) ++ (⟨#[32]⟩ ++ nm))) w := fun w => run_string_add_sum w _ _ (by (try simp only [ByteArray.size_append]); omega)
  have hlit : (⟨#[99, 97, 108, 108]⟩ : ByteArray) ++ ⟨#[32]⟩ = ⟨#[99, 97, 108, 108, 32]⟩ := rfl
  clear hr hc hc2 hp hW1 hs1 b1
  obtain ⟨q0, q1, q2, q3, q4, q5, q6⟩ := X1.out
  obtain ⟨p0, p1, p2, p3, p4⟩ := Y1.out
  go_enter Tryz.func47, Tryz.ntmps47
  go_wp2_with fail
  rw [← HW1.out]
  refine (CW.out _).mono ?_
  rintro e w2 ⟨rfl, rfl⟩
  go_wp2_with fail
  refine (CN.out _).mono ?_
  rintro e w2 ⟨rfl, hb⟩
  have B2 := Lib.hid (B1.out.trans (hb.mono B1.out.size))
  have X2 := Lib.hid (X1.out.keep (keeps_below hb))
  have d0 := keeps_below hb _ _ c0
  clear hb q0 q1 q2 q3 q4 q5 q6 p0 p1 p2 p3 p4 c0
  obtain ⟨q0, q1, q2, q3, q4, q5, q6⟩ := X2.out
  dsimp only [namedV, hasArg]
  go_wp2_with fail
  go_ret
  exact ⟨ret_s (by rw [HL.out, ← hlit]; try simp only [← ByteArray.append_assoc]), B2.out⟩
set_option maxRecDepth 20000 in
set_option maxHeartbeats 3200000 in
theorem insText_spawn (x : KTree) (a u : Int) (t : Tree) (ga la pa ea ia ta : Option Addr) (gc lc pc ec ic n tc : Nat) (w : World) (hr : RightK x ⟨5, a, t, u⟩) (_ : NamesAt w x.globals (.slice ga x.globals.length gc) ∧ nmsB x.globals = true) (_ : NamesAt w x.locks (.slice la x.locks.length lc) ∧ nmsB x.locks = true) (hp : NamesAt w x.procs (.slice pa x.procs.length pc) ∧ nmsB x.procs = true) (_ : InI u) (_ : Lies w t (.agg #[.int .i64 t.kind, .int .i64 t.num, .string t.name, .slice ta t.kids.length tc])) (_ : szT t ≤ 1048576) (_ : (textT t).size ≤ 21000000) (_ : Pows w) :
    Calls Tryz.prog 47 #[.agg #[.slice ga x.globals.length gc, .slice la x.locks.length lc, .slice pa x.procs.length pc, .slice ea x.entry.length ec, .slice ia n ic], .agg #[.int .i64 5, .int .i64 a, .int .i64 t.kind, .int .i64 t.num, .string t.name, .slice ta t.kids.length tc, .int .i64 u]] w fun e w' => e = .returned (.string (lineB x ⟨5, a, t, u⟩)) ∧ Below w.heap.size w w' := by
  obtain ⟨W1, hW1⟩ : ∃ W, W = (w.alloc (.cells #[.slice ga x.globals.length gc, .slice la x.locks.length lc, .slice pa x.procs.length pc, .slice ea x.entry.length ec, .slice ia n ic] 32)).alloc (.cells #[.int .i64 5, .int .i64 a, .int .i64 t.kind, .int .i64 t.num, .string t.name, .slice ta t.kids.length tc, .int .i64 u] 45) := ⟨_, rfl⟩
  have hs1 : (w.alloc (.cells #[.slice ga x.globals.length gc, .slice la x.locks.length lc, .slice pa x.procs.length pc, .slice ea x.entry.length ec, .slice ia n ic] 32)).heap.size = w.heap.size + 1 := by simp
  have b1 : Below w.heap.size w W1 := by rw [hW1]; exact ((Below.refl w.heap.size w).alloc (Nat.le_refl _) _).alloc (by simp) _
  have X1 := Lib.hid ((Box7.new (w.alloc (.cells #[.slice ga x.globals.length gc, .slice la x.locks.length lc, .slice pa x.procs.length pc, .slice ea x.entry.length ec, .slice ia n ic] 32)) (.int .i64 5) (.int .i64 a) (.int .i64 t.kind) (.int .i64 t.num) (.string t.name) (.slice ta t.kids.length tc) (.int .i64 u) 45))
  have Y1 := Lib.hid ((Box5.new w (.slice ga x.globals.length gc) (.slice la x.locks.length lc) (.slice pa x.procs.length pc) (.slice ea x.entry.length ec) (.slice ia n ic) 32).keep (keeps_alloc _ (.cells #[.int .i64 5, .int .i64 a, .int .i64 t.kind, .int .i64 t.num, .string t.name, .slice ta t.kids.length tc, .int .i64 u] 45)))
  rw [← hW1, hs1] at X1
  rw [← hW1] at Y1
  have B1 := Lib.hid b1
  have HW1 := Lib.hid hW1
  have CW : Hid (∀ w, Calls Tryz.prog 94 #[.int .i64 5] w fun e w' => e = .returned (.string ⟨#[115, 112, 97, 119, 110]⟩) ∧ w = w') := fun w => implWordK_any 5 w
  have CN := Lib.hid (fun w => implNamed_any 5 ga la pa x.globals.length gc x.locks.length lc x.procs.length pc (.slice ea x.entry.length ec) (.slice ia n ic) w)
  obtain ⟨m, rfl⟩ : ∃ m : Nat, a = (m : Int) := ⟨a.toNat, by have := hr.arg.1; show a = _; have h2 : (⟨5, a, t, u⟩ : InsT).arg = a := rfl; rw [h2] at this; omega⟩
  have hm : m < x.procs.length := by have h := hr.arg.2; have h2 : mostI x (⟨5, (m : Int), t, u⟩ : InsT).op = (x.procs.length : Int) - 1 := rfl; rw [h2] at h; have h3 : (⟨5, (m : Int), t, u⟩ : InsT).arg = (m : Int) := rfl; rw [h3] at h; omega
  have hns := nmsB_size hp.2 hm
  obtain ⟨⟨a2, c2, e2, hln, hc⟩, _⟩ := hp.1.keep (keeps_below b1)
  simp at e2
  obtain ⟨rfl, rfl⟩ := e2
  obtain ⟨g, o, rfl, hc2⟩ := hc (by omega)
  have c0 := hc2 m hm
  have HL : Hid (lineB x ⟨5, ((m : Nat) : Int), t, u⟩ = ⟨#[115, 112, 97, 119, 110, 32]⟩ ++ nmAt x.procs (m : Int)) := rfl
  obtain ⟨rr, hrr⟩ : ∃ z, lineB x ⟨5, ((m : Nat) : Int), t, u⟩ = z := ⟨_, rfl⟩
  rw [hrr] at HL
  rw [hrr]
  clear hrr
  rw [nmAt_eq hm] at HL
  obtain ⟨nm, hnm⟩ : ∃ z, x.procs[m] = z := ⟨_, rfl⟩
  rw [hnm] at HL c0 hns
  clear hnm
  have z0 : ByteArray.size ⟨#[32]⟩ = 1 := rfl
  have z1 : ByteArray.size ⟨#[32, 61, 32]⟩ = 3 := rfl
  have z2 : ByteArray.size ⟨#[32, 101, 108, 115, 101, 32]⟩ = 6 := rfl
  have z3 : ByteArray.size ⟨#[115, 112, 97, 119, 110]⟩ = 5 := rfl
  have ad0 : ∀ w, (Op.stringOp .add (⟨#[32]⟩) (nm)).run Tryz.prog w = .ok (.string ((⟨#[32]⟩) ++ (nm))) w := fun w => run_string_add_sum w _ _ (by (try simp only [ByteArray.size_append]); omega)
  have ad1 : ∀ w, (Op.stringOp .add (⟨#[115, 112, 97, 119, 110]⟩) (⟨#[32]⟩ ++ nm)).run Tryz.prog w = .ok (.string ((⟨#[115, 112, 97, 119, 110]⟩) ++ (⟨#[32]⟩ ++ nm))) w := fun w => run_string_add_sum w _ _ (by (try simp only [ByteArray.size_append]); omega)
  have hlit : (⟨#[115, 112, 97, 119, 110]⟩ : ByteArray) ++ ⟨#[32]⟩ = ⟨#[115, 112, 97, 119, 110, 32]⟩ := rfl
  clear hr hc hc2 hp hW1 hs1 b1
  obtain ⟨q0, q1, q2, q3, q4, q5, q6⟩ := X1.out
  obtain ⟨p0, p1, p2, p3, p4⟩ := Y1.out
  go_enter Tryz.func47, Tryz.ntmps47
  go_wp2_with fail
  rw [← HW1.out]
  refine (CW.out _).mono ?_
  rintro e w2 ⟨rfl, rfl⟩
  go_wp2_with fail
  refine (CN.out _).mono ?_
  rintro e w2 ⟨rfl, hb⟩
  have B2 := Lib.hid (B1.out.trans (hb.mono B1.out.size))
  have X2 := Lib.hid (X1.out.keep (keeps_below hb))
  have d0 := keeps_below hb _ _ c0
  clear hb q0 q1 q2 q3 q4 q5 q6 p0 p1 p2 p3 p4 c0
  obtain ⟨q0, q1, q2, q3, q4, q5, q6⟩ := X2.out
  dsimp only [namedV, hasArg]
  go_wp2_with fail
  go_ret
  exact ⟨ret_s (by rw [HL.out, ← hlit]; try simp only [← ByteArray.append_assoc]), B2.out⟩
set_option maxRecDepth 20000 in
set_option maxHeartbeats 3200000 in
theorem insText_lock (x : KTree) (a u : Int) (t : Tree) (ga la pa ea ia ta : Option Addr) (gc lc pc ec ic n tc : Nat) (w : World) (hr : RightK x ⟨6, a, t, u⟩) (_ : NamesAt w x.globals (.slice ga x.globals.length gc) ∧ nmsB x.globals = true) (hl : NamesAt w x.locks (.slice la x.locks.length lc) ∧ nmsB x.locks = true) (_ : NamesAt w x.procs (.slice pa x.procs.length pc) ∧ nmsB x.procs = true) (_ : InI u) (_ : Lies w t (.agg #[.int .i64 t.kind, .int .i64 t.num, .string t.name, .slice ta t.kids.length tc])) (_ : szT t ≤ 1048576) (_ : (textT t).size ≤ 21000000) (_ : Pows w) :
    Calls Tryz.prog 47 #[.agg #[.slice ga x.globals.length gc, .slice la x.locks.length lc, .slice pa x.procs.length pc, .slice ea x.entry.length ec, .slice ia n ic], .agg #[.int .i64 6, .int .i64 a, .int .i64 t.kind, .int .i64 t.num, .string t.name, .slice ta t.kids.length tc, .int .i64 u]] w fun e w' => e = .returned (.string (lineB x ⟨6, a, t, u⟩)) ∧ Below w.heap.size w w' := by
  obtain ⟨W1, hW1⟩ : ∃ W, W = (w.alloc (.cells #[.slice ga x.globals.length gc, .slice la x.locks.length lc, .slice pa x.procs.length pc, .slice ea x.entry.length ec, .slice ia n ic] 32)).alloc (.cells #[.int .i64 6, .int .i64 a, .int .i64 t.kind, .int .i64 t.num, .string t.name, .slice ta t.kids.length tc, .int .i64 u] 45) := ⟨_, rfl⟩
  have hs1 : (w.alloc (.cells #[.slice ga x.globals.length gc, .slice la x.locks.length lc, .slice pa x.procs.length pc, .slice ea x.entry.length ec, .slice ia n ic] 32)).heap.size = w.heap.size + 1 := by simp
  have b1 : Below w.heap.size w W1 := by rw [hW1]; exact ((Below.refl w.heap.size w).alloc (Nat.le_refl _) _).alloc (by simp) _
  have X1 := Lib.hid ((Box7.new (w.alloc (.cells #[.slice ga x.globals.length gc, .slice la x.locks.length lc, .slice pa x.procs.length pc, .slice ea x.entry.length ec, .slice ia n ic] 32)) (.int .i64 6) (.int .i64 a) (.int .i64 t.kind) (.int .i64 t.num) (.string t.name) (.slice ta t.kids.length tc) (.int .i64 u) 45))
  have Y1 := Lib.hid ((Box5.new w (.slice ga x.globals.length gc) (.slice la x.locks.length lc) (.slice pa x.procs.length pc) (.slice ea x.entry.length ec) (.slice ia n ic) 32).keep (keeps_alloc _ (.cells #[.int .i64 6, .int .i64 a, .int .i64 t.kind, .int .i64 t.num, .string t.name, .slice ta t.kids.length tc, .int .i64 u] 45)))
  rw [← hW1, hs1] at X1
  rw [← hW1] at Y1
  have B1 := Lib.hid b1
  have HW1 := Lib.hid hW1
  have CW : Hid (∀ w, Calls Tryz.prog 94 #[.int .i64 6] w fun e w' => e = .returned (.string ⟨#[108, 111, 99, 107]⟩) ∧ w = w') := fun w => implWordK_any 6 w
  have CN := Lib.hid (fun w => implNamed_any 6 ga la pa x.globals.length gc x.locks.length lc x.procs.length pc (.slice ea x.entry.length ec) (.slice ia n ic) w)
  obtain ⟨m, rfl⟩ : ∃ m : Nat, a = (m : Int) := ⟨a.toNat, by have := hr.arg.1; show a = _; have h2 : (⟨6, a, t, u⟩ : InsT).arg = a := rfl; rw [h2] at this; omega⟩
  have hm : m < x.locks.length := by have h := hr.arg.2; have h2 : mostI x (⟨6, (m : Int), t, u⟩ : InsT).op = (x.locks.length : Int) - 1 := rfl; rw [h2] at h; have h3 : (⟨6, (m : Int), t, u⟩ : InsT).arg = (m : Int) := rfl; rw [h3] at h; omega
  have hns := nmsB_size hl.2 hm
  obtain ⟨⟨a2, c2, e2, hln, hc⟩, _⟩ := hl.1.keep (keeps_below b1)
  simp at e2
  obtain ⟨rfl, rfl⟩ := e2
  obtain ⟨g, o, rfl, hc2⟩ := hc (by omega)
  have c0 := hc2 m hm
  have HL : Hid (lineB x ⟨6, ((m : Nat) : Int), t, u⟩ = ⟨#[108, 111, 99, 107, 32]⟩ ++ nmAt x.locks (m : Int)) := rfl
  obtain ⟨rr, hrr⟩ : ∃ z, lineB x ⟨6, ((m : Nat) : Int), t, u⟩ = z := ⟨_, rfl⟩
  rw [hrr] at HL
  rw [hrr]
  clear hrr
  rw [nmAt_eq hm] at HL
  obtain ⟨nm, hnm⟩ : ∃ z, x.locks[m] = z := ⟨_, rfl⟩
  rw [hnm] at HL c0 hns
  clear hnm
  have z0 : ByteArray.size ⟨#[32]⟩ = 1 := rfl
  have z1 : ByteArray.size ⟨#[32, 61, 32]⟩ = 3 := rfl
  have z2 : ByteArray.size ⟨#[32, 101, 108, 115, 101, 32]⟩ = 6 := rfl
  have z3 : ByteArray.size ⟨#[108, 111, 99, 107]⟩ = 4 := rfl
  have ad0 : ∀ w, (Op.stringOp .add (⟨#[32]⟩) (nm)).run Tryz.prog w = .ok (.string ((⟨#[32]⟩) ++ (nm))) w := fun w => run_string_add_sum w _ _ (by (try simp only [ByteArray.size_append]); omega)
  have ad1 : ∀ w, (Op.stringOp .add (⟨#[108, 111, 99, 107]⟩) (⟨#[32]⟩ ++ nm)).run Tryz.prog w = .ok (.string ((⟨#[108, 111, 99, 107]⟩) ++ (⟨#[32]⟩ ++ nm))) w := fun w => run_string_add_sum w _ _ (by (try simp only [ByteArray.size_append]); omega)
  have hlit : (⟨#[108, 111, 99, 107]⟩ : ByteArray) ++ ⟨#[32]⟩ = ⟨#[108, 111, 99, 107, 32]⟩ := rfl
  clear hr hc hc2 hl hW1 hs1 b1
  obtain ⟨q0, q1, q2, q3, q4, q5, q6⟩ := X1.out
  obtain ⟨p0, p1, p2, p3, p4⟩ := Y1.out
  go_enter Tryz.func47, Tryz.ntmps47
  go_wp2_with fail
  rw [← HW1.out]
  refine (CW.out _).mono ?_
  rintro e w2 ⟨rfl, rfl⟩
  go_wp2_with fail
  refine (CN.out _).mono ?_
  rintro e w2 ⟨rfl, hb⟩
  have B2 := Lib.hid (B1.out.trans (hb.mono B1.out.size))
  have X2 := Lib.hid (X1.out.keep (keeps_below hb))
  have d0 := keeps_below hb _ _ c0
  clear hb q0 q1 q2 q3 q4 q5 q6 p0 p1 p2 p3 p4 c0
  obtain ⟨q0, q1, q2, q3, q4, q5, q6⟩ := X2.out
  dsimp only [namedV, hasArg]
  go_wp2_with fail
  go_ret
  exact ⟨ret_s (by rw [HL.out, ← hlit]; try simp only [← ByteArray.append_assoc]), B2.out⟩
set_option maxRecDepth 20000 in
set_option maxHeartbeats 3200000 in
theorem insText_unlock (x : KTree) (a u : Int) (t : Tree) (ga la pa ea ia ta : Option Addr) (gc lc pc ec ic n tc : Nat) (w : World) (hr : RightK x ⟨7, a, t, u⟩) (_ : NamesAt w x.globals (.slice ga x.globals.length gc) ∧ nmsB x.globals = true) (hl : NamesAt w x.locks (.slice la x.locks.length lc) ∧ nmsB x.locks = true) (_ : NamesAt w x.procs (.slice pa x.procs.length pc) ∧ nmsB x.procs = true) (_ : InI u) (_ : Lies w t (.agg #[.int .i64 t.kind, .int .i64 t.num, .string t.name, .slice ta t.kids.length tc])) (_ : szT t ≤ 1048576) (_ : (textT t).size ≤ 21000000) (_ : Pows w) :
    Calls Tryz.prog 47 #[.agg #[.slice ga x.globals.length gc, .slice la x.locks.length lc, .slice pa x.procs.length pc, .slice ea x.entry.length ec, .slice ia n ic], .agg #[.int .i64 7, .int .i64 a, .int .i64 t.kind, .int .i64 t.num, .string t.name, .slice ta t.kids.length tc, .int .i64 u]] w fun e w' => e = .returned (.string (lineB x ⟨7, a, t, u⟩)) ∧ Below w.heap.size w w' := by
  obtain ⟨W1, hW1⟩ : ∃ W, W = (w.alloc (.cells #[.slice ga x.globals.length gc, .slice la x.locks.length lc, .slice pa x.procs.length pc, .slice ea x.entry.length ec, .slice ia n ic] 32)).alloc (.cells #[.int .i64 7, .int .i64 a, .int .i64 t.kind, .int .i64 t.num, .string t.name, .slice ta t.kids.length tc, .int .i64 u] 45) := ⟨_, rfl⟩
  have hs1 : (w.alloc (.cells #[.slice ga x.globals.length gc, .slice la x.locks.length lc, .slice pa x.procs.length pc, .slice ea x.entry.length ec, .slice ia n ic] 32)).heap.size = w.heap.size + 1 := by simp
  have b1 : Below w.heap.size w W1 := by rw [hW1]; exact ((Below.refl w.heap.size w).alloc (Nat.le_refl _) _).alloc (by simp) _
  have X1 := Lib.hid ((Box7.new (w.alloc (.cells #[.slice ga x.globals.length gc, .slice la x.locks.length lc, .slice pa x.procs.length pc, .slice ea x.entry.length ec, .slice ia n ic] 32)) (.int .i64 7) (.int .i64 a) (.int .i64 t.kind) (.int .i64 t.num) (.string t.name) (.slice ta t.kids.length tc) (.int .i64 u) 45))
  have Y1 := Lib.hid ((Box5.new w (.slice ga x.globals.length gc) (.slice la x.locks.length lc) (.slice pa x.procs.length pc) (.slice ea x.entry.length ec) (.slice ia n ic) 32).keep (keeps_alloc _ (.cells #[.int .i64 7, .int .i64 a, .int .i64 t.kind, .int .i64 t.num, .string t.name, .slice ta t.kids.length tc, .int .i64 u] 45)))
  rw [← hW1, hs1] at X1
  rw [← hW1] at Y1
  have B1 := Lib.hid b1
  have HW1 := Lib.hid hW1
  have CW : Hid (∀ w, Calls Tryz.prog 94 #[.int .i64 7] w fun e w' => e = .returned (.string ⟨#[117, 110, 108, 111, 99, 107]⟩) ∧ w = w') := fun w => implWordK_any 7 w
  have CN := Lib.hid (fun w => implNamed_any 7 ga la pa x.globals.length gc x.locks.length lc x.procs.length pc (.slice ea x.entry.length ec) (.slice ia n ic) w)
  obtain ⟨m, rfl⟩ : ∃ m : Nat, a = (m : Int) := ⟨a.toNat, by have := hr.arg.1; show a = _; have h2 : (⟨7, a, t, u⟩ : InsT).arg = a := rfl; rw [h2] at this; omega⟩
  have hm : m < x.locks.length := by have h := hr.arg.2; have h2 : mostI x (⟨7, (m : Int), t, u⟩ : InsT).op = (x.locks.length : Int) - 1 := rfl; rw [h2] at h; have h3 : (⟨7, (m : Int), t, u⟩ : InsT).arg = (m : Int) := rfl; rw [h3] at h; omega
  have hns := nmsB_size hl.2 hm
  obtain ⟨⟨a2, c2, e2, hln, hc⟩, _⟩ := hl.1.keep (keeps_below b1)
  simp at e2
  obtain ⟨rfl, rfl⟩ := e2
  obtain ⟨g, o, rfl, hc2⟩ := hc (by omega)
  have c0 := hc2 m hm
  have HL : Hid (lineB x ⟨7, ((m : Nat) : Int), t, u⟩ = ⟨#[117, 110, 108, 111, 99, 107, 32]⟩ ++ nmAt x.locks (m : Int)) := rfl
  obtain ⟨rr, hrr⟩ : ∃ z, lineB x ⟨7, ((m : Nat) : Int), t, u⟩ = z := ⟨_, rfl⟩
  rw [hrr] at HL
  rw [hrr]
  clear hrr
  rw [nmAt_eq hm] at HL
  obtain ⟨nm, hnm⟩ : ∃ z, x.locks[m] = z := ⟨_, rfl⟩
  rw [hnm] at HL c0 hns
  clear hnm
  have z0 : ByteArray.size ⟨#[32]⟩ = 1 := rfl
  have z1 : ByteArray.size ⟨#[32, 61, 32]⟩ = 3 := rfl
  have z2 : ByteArray.size ⟨#[32, 101, 108, 115, 101, 32]⟩ = 6 := rfl
  have z3 : ByteArray.size ⟨#[117, 110, 108, 111, 99, 107]⟩ = 6 := rfl
  have ad0 : ∀ w, (Op.stringOp .add (⟨#[32]⟩) (nm)).run Tryz.prog w = .ok (.string ((⟨#[32]⟩) ++ (nm))) w := fun w => run_string_add_sum w _ _ (by (try simp only [ByteArray.size_append]); omega)
  have ad1 : ∀ w, (Op.stringOp .add (⟨#[117, 110, 108, 111, 99, 107]⟩) (⟨#[32]⟩ ++ nm)).run Tryz.prog w = .ok (.string ((⟨#[117, 110, 108, 111, 99, 107]⟩) ++ (⟨#[32]⟩ ++ nm))) w := fun w => run_string_add_sum w _ _ (by (try simp only [ByteArray.size_append]); omega)
  have hlit : (⟨#[117, 110, 108, 111, 99, 107]⟩ : ByteArray) ++ ⟨#[32]⟩ = ⟨#[117, 110, 108, 111, 99, 107, 32]⟩ := rfl
  clear hr hc hc2 hl hW1 hs1 b1
  obtain ⟨q0, q1, q2, q3, q4, q5, q6⟩ := X1.out
  obtain ⟨p0, p1, p2, p3, p4⟩ := Y1.out
  go_enter Tryz.func47, Tryz.ntmps47
  go_wp2_with fail
  rw [← HW1.out]
  refine (CW.out _).mono ?_
  rintro e w2 ⟨rfl, rfl⟩
  go_wp2_with fail
  refine (CN.out _).mono ?_
  rintro e w2 ⟨rfl, hb⟩
  have B2 := Lib.hid (B1.out.trans (hb.mono B1.out.size))
  have X2 := Lib.hid (X1.out.keep (keeps_below hb))
  have d0 := keeps_below hb _ _ c0
  clear hb q0 q1 q2 q3 q4 q5 q6 p0 p1 p2 p3 p4 c0
  obtain ⟨q0, q1, q2, q3, q4, q5, q6⟩ := X2.out
  dsimp only [namedV, hasArg]
  go_wp2_with fail
  go_ret
  exact ⟨ret_s (by rw [HL.out, ← hlit]; try simp only [← ByteArray.append_assoc]), B2.out⟩
set_option maxRecDepth 20000 in
set_option maxHeartbeats 3200000 in
theorem insText_skip (x : KTree) (a u : Int) (t : Tree) (ga la pa ea ia ta : Option Addr) (gc lc pc ec ic n tc : Nat) (w : World) (_ : RightK x ⟨8, a, t, u⟩) (_ : NamesAt w x.globals (.slice ga x.globals.length gc) ∧ nmsB x.globals = true) (_ : NamesAt w x.locks (.slice la x.locks.length lc) ∧ nmsB x.locks = true) (_ : NamesAt w x.procs (.slice pa x.procs.length pc) ∧ nmsB x.procs = true) (_ : InI u) (_ : Lies w t (.agg #[.int .i64 t.kind, .int .i64 t.num, .string t.name, .slice ta t.kids.length tc])) (_ : szT t ≤ 1048576) (_ : (textT t).size ≤ 21000000) (_ : Pows w) :
    Calls Tryz.prog 47 #[.agg #[.slice ga x.globals.length gc, .slice la x.locks.length lc, .slice pa x.procs.length pc, .slice ea x.entry.length ec, .slice ia n ic], .agg #[.int .i64 8, .int .i64 a, .int .i64 t.kind, .int .i64 t.num, .string t.name, .slice ta t.kids.length tc, .int .i64 u]] w fun e w' => e = .returned (.string (lineB x ⟨8, a, t, u⟩)) ∧ Below w.heap.size w w' := by
  obtain ⟨W1, hW1⟩ : ∃ W, W = (w.alloc (.cells #[.slice ga x.globals.length gc, .slice la x.locks.length lc, .slice pa x.procs.length pc, .slice ea x.entry.length ec, .slice ia n ic] 32)).alloc (.cells #[.int .i64 8, .int .i64 a, .int .i64 t.kind, .int .i64 t.num, .string t.name, .slice ta t.kids.length tc, .int .i64 u] 45) := ⟨_, rfl⟩
  have hs1 : (w.alloc (.cells #[.slice ga x.globals.length gc, .slice la x.locks.length lc, .slice pa x.procs.length pc, .slice ea x.entry.length ec, .slice ia n ic] 32)).heap.size = w.heap.size + 1 := by simp
  have b1 : Below w.heap.size w W1 := by rw [hW1]; exact ((Below.refl w.heap.size w).alloc (Nat.le_refl _) _).alloc (by simp) _
  have X1 := Lib.hid ((Box7.new (w.alloc (.cells #[.slice ga x.globals.length gc, .slice la x.locks.length lc, .slice pa x.procs.length pc, .slice ea x.entry.length ec, .slice ia n ic] 32)) (.int .i64 8) (.int .i64 a) (.int .i64 t.kind) (.int .i64 t.num) (.string t.name) (.slice ta t.kids.length tc) (.int .i64 u) 45))
  have Y1 := Lib.hid ((Box5.new w (.slice ga x.globals.length gc) (.slice la x.locks.length lc) (.slice pa x.procs.length pc) (.slice ea x.entry.length ec) (.slice ia n ic) 32).keep (keeps_alloc _ (.cells #[.int .i64 8, .int .i64 a, .int .i64 t.kind, .int .i64 t.num, .string t.name, .slice ta t.kids.length tc, .int .i64 u] 45)))
  rw [← hW1, hs1] at X1
  rw [← hW1] at Y1
  have B1 := Lib.hid b1
  have HW1 := Lib.hid hW1
  have CW : Hid (∀ w, Calls Tryz.prog 94 #[.int .i64 8] w fun e w' => e = .returned (.string ⟨#[115, 107, 105, 112]⟩) ∧ w = w') := fun w => implWordK_any 8 w
  have CN := Lib.hid (fun w => implNamed_any 8 ga la pa x.globals.length gc x.locks.length lc x.procs.length pc (.slice ea x.entry.length ec) (.slice ia n ic) w)
  have HL : Hid (lineB x ⟨8, a, t, u⟩ = ⟨#[115, 107, 105, 112]⟩) := rfl
  obtain ⟨rr, hrr⟩ : ∃ z, lineB x ⟨8, a, t, u⟩ = z := ⟨_, rfl⟩
  rw [hrr] at HL
  rw [hrr]
  clear hrr
  have z0 : ByteArray.size ⟨#[32]⟩ = 1 := rfl
  have z1 : ByteArray.size ⟨#[32, 61, 32]⟩ = 3 := rfl
  have z2 : ByteArray.size ⟨#[32, 101, 108, 115, 101, 32]⟩ = 6 := rfl
  have z3 : ByteArray.size ⟨#[115, 107, 105, 112]⟩ = 4 := rfl
  clear hW1 hs1 b1
  obtain ⟨q0, q1, q2, q3, q4, q5, q6⟩ := X1.out
  obtain ⟨p0, p1, p2, p3, p4⟩ := Y1.out
  go_enter Tryz.func47, Tryz.ntmps47
  go_wp2_with fail
  rw [← HW1.out]
  refine (CW.out _).mono ?_
  rintro e w2 ⟨rfl, rfl⟩
  go_wp2_with fail
  refine (CN.out _).mono ?_
  rintro e w2 ⟨rfl, hb⟩
  have B2 := Lib.hid (B1.out.trans (hb.mono B1.out.size))
  have X2 := Lib.hid (X1.out.keep (keeps_below hb))
  clear hb q0 q1 q2 q3 q4 q5 q6 p0 p1 p2 p3 p4
  obtain ⟨q0, q1, q2, q3, q4, q5, q6⟩ := X2.out
  dsimp only [namedV, hasArg]
  go_wp2_with fail
  go_ret
  exact ⟨ret_s (by rw [HL.out]; try simp only [← ByteArray.append_assoc]), B2.out⟩
set_option maxRecDepth 20000 in
set_option maxHeartbeats 3200000 in
theorem insText_end (x : KTree) (a u : Int) (t : Tree) (ga la pa ea ia ta : Option Addr) (gc lc pc ec ic n tc : Nat) (w : World) (_ : RightK x ⟨9, a, t, u⟩) (_ : NamesAt w x.globals (.slice ga x.globals.length gc) ∧ nmsB x.globals = true) (_ : NamesAt w x.locks (.slice la x.locks.length lc) ∧ nmsB x.locks = true) (_ : NamesAt w x.procs (.slice pa x.procs.length pc) ∧ nmsB x.procs = true) (_ : InI u) (_ : Lies w t (.agg #[.int .i64 t.kind, .int .i64 t.num, .string t.name, .slice ta t.kids.length tc])) (_ : szT t ≤ 1048576) (_ : (textT t).size ≤ 21000000) (_ : Pows w) :
    Calls Tryz.prog 47 #[.agg #[.slice ga x.globals.length gc, .slice la x.locks.length lc, .slice pa x.procs.length pc, .slice ea x.entry.length ec, .slice ia n ic], .agg #[.int .i64 9, .int .i64 a, .int .i64 t.kind, .int .i64 t.num, .string t.name, .slice ta t.kids.length tc, .int .i64 u]] w fun e w' => e = .returned (.string (lineB x ⟨9, a, t, u⟩)) ∧ Below w.heap.size w w' := by
  obtain ⟨W1, hW1⟩ : ∃ W, W = (w.alloc (.cells #[.slice ga x.globals.length gc, .slice la x.locks.length lc, .slice pa x.procs.length pc, .slice ea x.entry.length ec, .slice ia n ic] 32)).alloc (.cells #[.int .i64 9, .int .i64 a, .int .i64 t.kind, .int .i64 t.num, .string t.name, .slice ta t.kids.length tc, .int .i64 u] 45) := ⟨_, rfl⟩
  have hs1 : (w.alloc (.cells #[.slice ga x.globals.length gc, .slice la x.locks.length lc, .slice pa x.procs.length pc, .slice ea x.entry.length ec, .slice ia n ic] 32)).heap.size = w.heap.size + 1 := by simp
  have b1 : Below w.heap.size w W1 := by rw [hW1]; exact ((Below.refl w.heap.size w).alloc (Nat.le_refl _) _).alloc (by simp) _
  have X1 := Lib.hid ((Box7.new (w.alloc (.cells #[.slice ga x.globals.length gc, .slice la x.locks.length lc, .slice pa x.procs.length pc, .slice ea x.entry.length ec, .slice ia n ic] 32)) (.int .i64 9) (.int .i64 a) (.int .i64 t.kind) (.int .i64 t.num) (.string t.name) (.slice ta t.kids.length tc) (.int .i64 u) 45))
  have Y1 := Lib.hid ((Box5.new w (.slice ga x.globals.length gc) (.slice la x.locks.length lc) (.slice pa x.procs.length pc) (.slice ea x.entry.length ec) (.slice ia n ic) 32).keep (keeps_alloc _ (.cells #[.int .i64 9, .int .i64 a, .int .i64 t.kind, .int .i64 t.num, .string t.name, .slice ta t.kids.length tc, .int .i64 u] 45)))
  rw [← hW1, hs1] at X1
  rw [← hW1] at Y1
  have B1 := Lib.hid b1
  have HW1 := Lib.hid hW1
  have CW : Hid (∀ w, Calls Tryz.prog 94 #[.int .i64 9] w fun e w' => e = .returned (.string ⟨#[101, 110, 100]⟩) ∧ w = w') := fun w => implWordK_any 9 w
  have CN := Lib.hid (fun w => implNamed_any 9 ga la pa x.globals.length gc x.locks.length lc x.procs.length pc (.slice ea x.entry.length ec) (.slice ia n ic) w)
  have HL : Hid (lineB x ⟨9, a, t, u⟩ = ⟨#[101, 110, 100]⟩) := rfl
  obtain ⟨rr, hrr⟩ : ∃ z, lineB x ⟨9, a, t, u⟩ = z := ⟨_, rfl⟩
  rw [hrr] at HL
  rw [hrr]
  clear hrr
  have z0 : ByteArray.size ⟨#[32]⟩ = 1 := rfl
  have z1 : ByteArray.size ⟨#[32, 61, 32]⟩ = 3 := rfl
  have z2 : ByteArray.size ⟨#[32, 101, 108, 115, 101, 32]⟩ = 6 := rfl
  have z3 : ByteArray.size ⟨#[101, 110, 100]⟩ = 3 := rfl
  clear hW1 hs1 b1
  obtain ⟨q0, q1, q2, q3, q4, q5, q6⟩ := X1.out
  obtain ⟨p0, p1, p2, p3, p4⟩ := Y1.out
  go_enter Tryz.func47, Tryz.ntmps47
  go_wp2_with fail
  rw [← HW1.out]
  refine (CW.out _).mono ?_
  rintro e w2 ⟨rfl, rfl⟩
  go_wp2_with fail
  refine (CN.out _).mono ?_
  rintro e w2 ⟨rfl, hb⟩
  have B2 := Lib.hid (B1.out.trans (hb.mono B1.out.size))
  have X2 := Lib.hid (X1.out.keep (keeps_below hb))
  clear hb q0 q1 q2 q3 q4 q5 q6 p0 p1 p2 p3 p4
  obtain ⟨q0, q1, q2, q3, q4, q5, q6⟩ := X2.out
  dsimp only [namedV, hasArg]
  go_wp2_with fail
  go_ret
  exact ⟨ret_s (by rw [HL.out]; try simp only [← ByteArray.append_assoc]), B2.out⟩
end Go.Proofs.YtmhhghdfgdhljaaGreatDoor.Trm
/- The model's l07Twice, walked. Conditions: the list lies in memory. -/
namespace Go.Proofs.YtmhhghdfgdhljaaGreatDoor.Trm
open Go.RowKit Own
theorem specTwice_any (ns : List ByteArray) (nv : Value) (w : World) (h : StrsAt w ns nv) (hcap : CapOk nv ns.length) :
    Calls Tryz.prog 72 #[nv] w fun e w' => e = .returned (.bool (twiceB ns)) ∧ Below w.heap.size w w' := by
  obtain ⟨a, c, rfl, hc⟩ := hcap
  obtain ⟨a2, c2, e2, h1, h2⟩ := id h
  simp at e2
  obtain ⟨rfl, rfl⟩ := e2
  have HH := Lib.hid h
  have HN := Lib.hid h2
  have HL := Lib.hid h1
  have HTY : Hid (∀ i (hi : i < ns.length), ns[i] ∈ ns.take i → twiceB ns = true) := fun i hi h => twiceB_yes h
  have HTN : Hid ((∀ i (hi : i < ns.length), ¬ ns[i] ∈ ns.take i) → twiceB ns = false) := twiceB_no
  generalize twiceB ns = tb at HTY HTN ⊢
  clear h1 h2 h
  go_enter Tryz.func72, Tryz.ntmps72
  go_wp2
  go_loopw [3] (fun i wr => ∃ j : Nat, j ≤ ns.length ∧ i = .int .i64 j ∧ Hid (∀ k (hk : k < ns.length), k < j → ¬ ns[k] ∈ ns.take k) ∧ Hid (Below w.heap.size w wr))
    (fun i _ => ns.length - (intOf i).toNat)
  case atStart => exact ⟨0, Nat.zero_le _, rfl, fun _ _ h => by omega, Below.refl _ _⟩
  case round =>
    obtain ⟨j, hj, rfl, hno, hbe⟩ := hrel
    have hL := HL.out
    by_cases hlt : j < ns.length
    · obtain ⟨g, o, rfl, h3⟩ := HN.out (by omega)
      have c0 := keeps_below hbe.out _ _ (h3 j hlt)
      have c0d : wr.drew.cell? ⟨g, o + j, none⟩ = some (.string ns[j]) := c0
      have hjc : (j : Int) ≤ (c : Int) := by omega
      have hj0 : (0 : Int) ≤ (j : Int) := by omega
      clear h3
      by_cases he : ns[j] ∈ ns.take j
      · have C := Lib.hid (fun wx (hb : Below wr.heap.size wr wx) => specHasL_any (ns.take j) (.slice (some ⟨g, o, none⟩) j c) ns[j] wx ((strsAt_take HH.out hj).keep (keeps_below (hbe.out.trans (hb.mono hbe.out.size)))) true ⟨fun _ => he, fun _ => rfl⟩)
        have HT : Hid (tb = true) := HTY.out j hlt he
        have hb0 : Below wr.heap.size wr wr.drew := (Below.refl _ _).drew
        clear he
        go_wp2_with fail
        go_region_with (first
          | (go_at_call 120; refine (C.out _ (by assumption)).mono ?_; rintro e w2 ⟨rfl, rfl⟩))
        all_goals
          go_wp2_with fail
          go_ret
          exact ⟨by rw [HT.out]; rfl, hbe.out.drew⟩
      · have C := Lib.hid (fun wx (hb : Below wr.heap.size wr wx) => specHasL_any (ns.take j) (.slice (some ⟨g, o, none⟩) j c) ns[j] wx ((strsAt_take HH.out hj).keep (keeps_below (hbe.out.trans (hb.mono hbe.out.size)))) false ⟨fun h => (Bool.noConfusion h), fun h => absurd h he⟩)
        have HNO : Hid (∀ k (hk : k < ns.length), k < j + 1 → ¬ ns[k] ∈ ns.take k) := fun k hk h => by
          rcases Nat.lt_or_ge k j with h' | h'
          · exact hno.out k hk h'
          · have : k = j := by omega
            subst this; exact he
        have hb0 : Below wr.heap.size wr wr.drew := (Below.refl _ _).drew
        clear he
        go_wp2_with fail
        go_region_with (first
          | (go_at_call 120; refine (C.out _ (by assumption)).mono ?_; rintro e w2 ⟨rfl, rfl⟩))
        all_goals
          go_wp2_with fail
          go_roundw
          case rel => exact ⟨j + 1, by omega, by go_num, HNO.out, hbe.out.drew⟩
          case measure => simp [intOf]; omega
    · have HF : Hid (tb = false) := HTN.out (fun k hk => hno.out k hk (by omega))
      go_wp2
      go_ret
      exact ⟨by rw [HF.out]; rfl, hbe.out⟩
end Go.Proofs.YtmhhghdfgdhljaaGreatDoor.Trm
/- PlaceOf of both sides, walked. Conditions: the row lies in memory. -/
namespace Go.Proofs.YtmhhghdfgdhljaaGreatDoor.Trm
open Go.RowKit Own
theorem specPlace_any (ns : List ByteArray) (s : ByteArray) (nv : Value) (w : World) (hn : StrsAt w ns nv) :
    Calls Tryz.prog 88 #[nv, .string s] w fun e w' => ∃ x, e = .returned (.int .i64 x) ∧ IdxI ns s x ∧ w = w' := by
  obtain ⟨na, nc, rfl, hn1, hn2⟩ := hn
  have HN := Lib.hid hn2
  clear hn2
  go_enter Tryz.func88, Tryz.ntmps88
  go_wp2
  go_loopw [5] (fun i wr => ∃ (j : Nat), j ≤ ns.length ∧ i = .int .i64 j ∧ Hid (∀ i (h : i < ns.length), i < j → ns[i] ≠ s) ∧ wr = w)
    (fun i _ => ns.length - (intOf i).toNat)
  case atStart => exact ⟨0, Nat.zero_le _, rfl, fun i _ h => by omega, rfl⟩
  case round =>
    obtain ⟨j, hj, rfl, hne, rfl⟩ := hrel
    by_cases hlt : j < ns.length
    · obtain ⟨g, o, rfl, hcell⟩ := HN.out (by omega)
      have c0 := hcell j hlt
      clear hcell
      by_cases he : ns[j] = s
      · have HX : Hid (IdxI ns s j) := .inl ⟨j, hlt, rfl, he, hne.out⟩
        rw [he] at c0
        clear he
        go_wp2
        go_ret
        exact ⟨_, rfl, HX.out, rfl⟩
      · have hq := bytes_ne he
        have HS : Hid (∀ i (h : i < ns.length), i < j + 1 → ns[i] ≠ s) := fun i h hi => by
          rcases Nat.lt_or_ge i j with h1 | h1
          · exact hne.out i h h1
          · obtain rfl : i = j := by omega
            exact he
        clear he
        go_wp2
        go_roundw
        case rel => exact ⟨j + 1, by omega, by go_num, HS, by first | rfl | trivial⟩
        case measure => simp [intOf]; omega
    · have HX : Hid (IdxI ns s (-1)) := .inr ⟨rfl, fun j h => hne.out j h (by omega)⟩
      go_wp2
      go_ret
      exact ⟨_, rfl, HX.out, rfl⟩
end Go.Proofs.YtmhhghdfgdhljaaGreatDoor.Trm
/- A region that draws its order, walked once in the order of its text, under one condition on the world: what is not wanted is passed over, a call is met where it alone may come up. Cases may be parted between two operations. -/
namespace Go.Proofs.YtmhhghdfgdhljaaGreatDoor.RegSeq
open Go
section
variable {P : Program} {ops : Array Oper} {Q : Exit → Act → World → Prop} {S : World → Prop}
/-- The first k have come up. -/
def ls (n k : Nat) : Array Bool := (List.replicate k true ++ List.replicate (n - k) false).toArray
theorem ls_set {n k : Nat} (h : k < n) : (ls n k).setIfInBounds k true = ls n (k + 1) := by
  unfold ls
  rw [List.setIfInBounds_toArray]
  congr 1
  apply List.ext_getElem
  · simp; omega
  · intro i h1 h2
    simp only [List.getElem_set, List.getElem_append, List.length_replicate, List.getElem_replicate]
    split <;> split <;> (try split) <;> first | rfl | omega
theorem ls_zero (n : Nat) : ls n 0 = Array.replicate n false := by
  unfold ls
  simp
def okAt (ops : Array Oper) (k : Nat) : Bool := (Region.ready .any ops (ls ops.size k)).contains k && Region.free .any ops (ls ops.size k) k
def okAll (ops : Array Oper) : Bool := Region.noSelect ops && (List.range ops.size).all (okAt ops) && (Region.ready .any ops (ls ops.size ops.size)).isEmpty
/-- What is left of the region from number k on. -/
def Seq (P : Program) (ops : Array Oper) (Q : Exit → Act → World → Prop) (S : World → Prop) (k : Nat) (a : Act) (w : World) : Prop :=
  okAll ops = true → wpAnyH P .any ops (NoPanic Q) S (ops.size - k) (ls ops.size k) a w
theorem seq_start {id : Nat} {a : Act} {w : World} (hm : P.follows .mixedOrders = true) (hok : okAll ops = true) (hS : S w.drew)
    (h : S w.drew → Seq P ops Q S 0 a w.drew) : (Code.region id ops true).wp P Q a w :=
  wp_region_noPanic (wp_region_held_drew hm hS fun hs => by rw [← ls_zero]; exact h hs hok)
theorem ok_parts (hok : okAll ops = true) {k : Nat} (hk : k < ops.size) : Region.noSelect ops = true ∧ (Region.ready .any ops (ls ops.size k)).contains k = true ∧ Region.free .any ops (ls ops.size k) k = true := by
  unfold okAll at hok
  simp only [Bool.and_eq_true] at hok
  have h2 := List.all_eq_true.1 hok.1.2 k (List.mem_range.2 hk)
  unfold okAt at h2
  simp only [Bool.and_eq_true] at h2
  exact ⟨hok.1.1, h2.1, h2.2⟩
theorem lt_of_op {k : Nat} {o : Oper} (hk : ops[k]? = some o) : k < ops.size := (Array.getElem?_eq_some_iff.1 hk).1
theorem Seq.yields {k : Nat} {o : Oper} {v : Value} {a : Act} {w : World} (hk : ops[k]? = some o) (hy : YieldsIf P ops S o v a) (hS : S w)
    (h : Seq P ops Q S (k + 1) (a.put o.dst v) w) : Seq P ops Q S k a w := fun hok => by
  have hlt := lt_of_op hk
  obtain ⟨h1, h2, h3⟩ := ok_parts hok hlt
  have e : ops.size - k = (ops.size - (k + 1)) + 1 := by omega
  rw [e]
  refine wpAnyH_take hk h1 h3 h2 (fun c _ _ h => (h : False).elim) hy hS ?_
  rw [ls_set hlt]
  exact h hok
/-- It is wanted, and yields v in every world that meets S. -/
theorem Seq.take {k : Nat} {o : Oper} {v : Value} {a : Act} {w : World} (hk : ops[k]? = some o) (hw : Region.wanted o (yielded ops a.tmps) = true)
    (hv : ∀ w, S w → (execOp a.eval o).run P w = .ok (.value v) w) (hS : S w)
    (h : Seq P ops Q S (k + 1) (a.put o.dst v) w) : Seq P ops Q S k a w := Seq.yields hk (.inl ⟨hw, hv⟩) hS h
theorem Seq.skip {k : Nat} {o : Oper} {a : Act} {w : World} (hk : ops[k]? = some o) (hw : Region.wanted o (yielded ops a.tmps) = false) (hS : S w)
    (h : Seq P ops Q S (k + 1) (a.put o.dst undef) w) : Seq P ops Q S k a w := Seq.yields hk (.inr ⟨hw, rfl⟩) hS h
/-- It alone may come up. -/
theorem Seq.step {k : Nat} {o : Oper} {a : Act} {w : World} (hk : ops[k]? = some o) (hr : Region.ready .any ops (ls ops.size k) = [k])
    (h : ∀ K' : Act → World → Prop, Shut (∀ a w, S w → (S w → Seq P ops Q S (k + 1) a w) → K' a w) → if Region.wanted o (yielded ops a.tmps) = true then Oper.wp P o a w K' (NoPanic Q) else K' (a.put o.dst undef) w) :
    Seq P ops Q S k a w := fun hok => by
  have hlt := lt_of_op hk
  have e : ops.size - k = (ops.size - (k + 1)) + 1 := by omega
  rw [e]
  refine wpAnyH_ready hr (by simp) (AllReadyH.cons hk (fun K' hK => h K' fun a w hS hW => hK.out a w hS fun hs => ?_) AllReadyH.nil)
  rw [ls_set hlt]
  exact hW hs hok
theorem Seq.done {k : Nat} {a : Act} {w : World} (hk : ops.size = k) (h : Q .normal a w) : Seq P ops Q S k a w := fun hok => by
  unfold okAll at hok
  simp only [Bool.and_eq_true] at hok
  subst hk
  exact wpAnyH_done (List.isEmpty_iff.1 hok.2) (NoPanic.normal h) _
theorem ls_get {n k : Nat} (hk : k ≤ n) (i : Nat) (d : Bool) : (ls n k).getD i d = if i < k then true else if i < n then false else d := by
  unfold ls
  rw [Array.getD_eq_getD_getElem?, List.getElem?_toArray, List.getElem?_append, List.getElem?_replicate, List.getElem?_replicate, List.length_replicate]
  by_cases h : i < k
  · simp [h]
  · by_cases h2 : i < n
    · have : i - k < n - k := by omega
      simp [h, h2, this]
    · have : ¬ i - k < n - k := by omega
      simp [h, h2, this]
/-- What the order of the text asks, read once over the list. -/
def okFrom (ops : Array Oper) : Nat → List Oper → Bool
  | _, [] => true
  | k, o :: rest => o.after.all (fun e => !Region.binds .any e || Nat.blt e.on k) && rest.all (fun oj => oj.after.any (fun e => Region.binds .any e && e.on == k) || o.apart ops oj) && okFrom ops (k + 1) rest
theorem okFrom_at (n : Nat) : ∀ (k : Nat), ops.size - k = n → okFrom ops k (ops.toList.drop k) = true → ∀ j, k ≤ j → j < ops.size → okAt ops j = true := by
  induction n with
  | zero => intro k hn _ j hkj hj; omega
  | succ n ih =>
    intro k hn h j hkj hj
    have hk : k < ops.size := by omega
    have hd : ops.toList.drop k = ops[k] :: ops.toList.drop (k + 1) := by
      rw [List.drop_eq_getElem_cons (by simpa using hk)]; simp
    rw [hd, okFrom] at h
    simp only [Bool.and_eq_true] at h
    obtain ⟨⟨h1, h2⟩, h3⟩ := h
    by_cases hjk : k = j
    · subst hjk
      unfold okAt
      rw [Bool.and_eq_true]
      constructor
      · rw [List.contains_iff_mem]
        unfold Region.ready
        refine List.mem_filter.2 ⟨List.mem_range.2 hk, ?_⟩
        rw [ls_get (by omega), Array.getElem?_eq_getElem hk]
        simp only [Nat.lt_irrefl, if_false, hk, if_true, Bool.not_false, Bool.true_and, Option.map_some, Option.getD_some]
        rw [Array.all_eq_true_iff_forall_mem] at h1 ⊢
        intro e he
        have := h1 e he
        simp only [Bool.or_eq_true] at this ⊢
        refine this.imp id fun hb => ?_
        rw [ls_get (by omega)]
        have : e.on < k := by rw [Nat.blt_eq] at hb; exact hb
        simp [this]
      · unfold Region.free
        rw [Array.getElem?_eq_getElem hk]
        show List.all _ _ = true
        rw [List.all_eq_true]
        intro i hi
        have hi := List.mem_range.1 hi
        rw [ls_get (by omega)]
        by_cases hik : i < k
        · simp [hik]
        · by_cases hie : i = k
          · simp [hie]
          · have hmem : ops[i] ∈ ops.toList.drop (k + 1) := by
              rw [List.mem_iff_getElem]
              exact ⟨i - (k + 1), by simp; omega, by simp [show k + 1 + (i - (k + 1)) = i by omega]⟩
            have := List.all_eq_true.1 h2 _ hmem
            rw [Array.getElem?_eq_getElem hi]
            simp only [hie, hik, hi, if_true, if_false, Bool.or_false, beq_iff_eq, Bool.or_eq_true]
            exact .inr (by simpa using this)
    · exact ih (k + 1) (by omega) h3 j (by omega) hj
theorem okAll_of (hs : Region.noSelect ops = true) (h : okFrom ops 0 ops.toList = true) : okAll ops = true := by
  unfold okAll
  simp only [Bool.and_eq_true]
  refine ⟨⟨hs, List.all_eq_true.2 fun k hk => okFrom_at _ 0 rfl (by simpa using h) k (Nat.zero_le _) (List.mem_range.1 hk)⟩, ?_⟩
  rw [List.isEmpty_iff]
  unfold Region.ready
  rw [List.filter_eq_nil_iff]
  intro i hi
  have hi := List.mem_range.1 hi
  rw [ls_get (Nat.le_refl _)]
  simp [hi]
theorem seq_begin {id : Nat} {a : Act} {w : World} (hm : P.follows .mixedOrders = true) (hns : Region.noSelect ops = true) (hok : okFrom ops 0 ops.toList = true) (hS : S w.drew)
    (h : S w.drew → Seq P ops Q S 0 a w.drew) : (Code.region id ops true).wp P Q a w := seq_start hm (okAll_of hns hok) hS h
theorem op_at {k : Nat} {o : Oper} {rest : List Oper} (h : ops.toList.drop k = o :: rest) : ops[k]? = some o := by
  have := congrArg List.head? h
  rw [List.head?_drop] at this
  simpa using this
/-- It is wanted, and yields v in every world that meets S. -/
theorem Seq.take' {k : Nat} {o : Oper} {rest : List Oper} {v : Value} {a : Act} {w : World} (hk : ops.toList.drop k = o :: rest) (hw : Region.wanted o (yielded ops a.tmps) = true)
    (hv : ∀ w, S w → (execOp a.eval o).run P w = .ok (.value v) w) (hS : S w)
    (h : Seq P ops Q S (k + 1) (a.put o.dst v) w) : Seq P ops Q S k a w := Seq.take (op_at hk) hw hv hS h
/-- It alone may come up, and is wanted. -/
theorem Seq.step' {k : Nat} {o : Oper} {rest : List Oper} {a : Act} {w : World} (hk : ops.toList.drop k = o :: rest) (hr : Region.ready .any ops (ls ops.size k) = [k]) (hw : Region.wanted o (yielded ops a.tmps) = true)
    (h : ∀ K' : Act → World → Prop, Shut (∀ a w, S w → (S w → Seq P ops Q S (k + 1) a w) → K' a w) → Oper.wp P o a w K' (NoPanic Q)) :
    Seq P ops Q S k a w := Seq.step (op_at hk) hr fun K' hK => by rw [if_pos hw]; exact h K' hK
/-- The next ones, which write the temporaries ds, are not wanted. -/
def skips (ops : Array Oper) : Nat → List Nat → Act → Bool
  | _, [], _ => true
  | k, d :: ds, a => match ops[k]? with
    | none => false
    | some o => o.dst == some d && !Region.wanted o (yielded ops a.tmps) && skips ops (k + 1) ds (a.put (some d) undef)
def skipped : List Nat → Act → Act
  | [], a => a
  | d :: ds, a => skipped ds (a.put (some d) undef)
theorem Seq.skips {w : World} (hS : S w) : ∀ (ds : List Nat) (k : Nat) (a : Act), RegSeq.skips ops k ds a = true → Seq P ops Q S (k + ds.length) (skipped ds a) w → Seq P ops Q S k a w
  | [], _, _, _, h => h
  | d :: ds, k, a, hs, h => by
    unfold RegSeq.skips at hs
    cases ho : ops[k]? with
    | none => rw [ho] at hs; simp at hs
    | some o =>
      rw [ho] at hs
      simp only [Bool.and_eq_true, Bool.not_eq_true', beq_iff_eq] at hs
      have h' : Seq P ops Q S (k + 1 + ds.length) (skipped ds (a.put (some d) undef)) w := by
        rw [show k + 1 + ds.length = k + (d :: ds).length by simp; omega]; exact h
      exact Seq.skip ho hs.1.2 hS (by rw [hs.1.1]; exact Seq.skips hS ds (k + 1) _ hs.2 h')
end
end Go.Proofs.YtmhhghdfgdhljaaGreatDoor.RegSeq
/- The model's l08Heads, walked. Conditions: the code lies in memory. -/
namespace Go.Proofs.YtmhhghdfgdhljaaGreatDoor.Trm
open Go.RowKit Own
set_option maxRecDepth 20000 in
set_option maxHeartbeats 16000000 in
theorem specHeads_any (x : KTree) (v : Value) (w : World) (hl : KIn w x v) :
    Calls Tryz.prog 102 #[v] w fun e w' => e = .returned (.bool (kHeads x)) ∧ Below w.heap.size w w' := by
  obtain ⟨ga, gc, la, lc, pa, pc, ea, ec, ia, ic, rfl, h1, h2, h3, h4, h5, hc1, hc2, hc3⟩ := hl
  obtain ⟨n, hn⟩ : ∃ n, n = x.ins.length := ⟨_, rfl⟩
  have HNL := Lib.hid hn
  rw [← hn] at h5 ⊢
  have C1 := Lib.hid (fun w hk => specNames_any x.globals 6 (.slice ga x.globals.length gc) w (by omega) (h1.keep hk))
  have C2 := Lib.hid (fun w hk => specNames_any x.locks 6 (.slice la x.locks.length lc) w (by omega) (h2.keep hk))
  have C3 := Lib.hid (fun w hk => specNames_any x.procs 8 (.slice pa x.procs.length pc) w (by omega) (h3.keep hk))
  have T1 := Lib.hid (fun w hk => specTwice_any x.globals (.slice ga x.globals.length gc) w (h1.1.keep hk) ⟨_, _, rfl, hc1⟩)
  have T2 := Lib.hid (fun w hk => specTwice_any x.locks (.slice la x.locks.length lc) w (h2.1.keep hk) ⟨_, _, rfl, hc2⟩)
  have T3 := Lib.hid (fun w hk => specTwice_any x.procs (.slice pa x.procs.length pc) w (h3.1.keep hk) ⟨_, _, rfl, hc3⟩)
  have CM := Lib.hid (fun w hk => specPlace_any x.procs mainB (.slice pa x.procs.length pc) w (h3.1.keep hk))
  have H4 := Lib.hid h4
  have H5 := Lib.hid h5
  have X0 := Lib.hid (Box5.new w (.slice ga x.globals.length gc) (.slice la x.locks.length lc) (.slice pa x.procs.length pc) (.slice ea x.entry.length ec) (.slice ia n ic) 32)
  have B0 := Lib.hid ((Below.refl w.heap.size w).alloc (Nat.le_refl _) (.cells #[.slice ga x.globals.length gc, .slice la x.locks.length lc, .slice pa x.procs.length pc, .slice ea x.entry.length ec, .slice ia n ic] 32))
  have K0 := Lib.hid (keeps_alloc w (.cells #[.slice ga x.globals.length gc, .slice la x.locks.length lc, .slice pa x.procs.length pc, .slice ea x.entry.length ec, .slice ia n ic] 32))
  have HE : Hid (kHeads x = (okNs x.globals 6 && (okNs x.locks 6 && (okNs x.procs 8 && (!twiceB x.globals && (!twiceB x.locks && (!twiceB x.procs && (decide (x.entry.length = x.procs.length) && (decide (n ≤ 1500) && (@decide (mainB ∈ x.procs) (Classical.propDecidable _) && @decide (EntOk x.entry x.ins) (Classical.propDecidable _))))))))))) := by show _ = _; rw [hn]; unfold kHeads; congr
  clear h1 h2 h3 h4 h5 hc1 hc2 hc3 hn
  generalize kHeads x = rr at HE
  generalize okNs x.globals 6 = r1 at HE C1
  generalize okNs x.locks 6 = r2 at HE C2
  generalize okNs x.procs 8 = r3 at HE C3
  generalize twiceB x.globals = t1 at HE T1
  generalize twiceB x.locks = t2 at HE T2
  generalize twiceB x.procs = t3 at HE T3
  obtain ⟨p0, p1, p2, p3, p4⟩ := X0.out
  obtain ⟨W0, hW0⟩ : ∃ W, W = w.alloc (.cells #[.slice ga x.globals.length gc, .slice la x.locks.length lc, .slice pa x.procs.length pc, .slice ea x.entry.length ec, .slice ia n ic] 32) := ⟨_, rfl⟩
  have HW0 := Lib.hid hW0
  rw [← hW0] at X0 B0 K0
  clear hW0
  go_enter Tryz.func102, Tryz.ntmps102
  go_wp2_with fail
  rw [← HW0.out] at p0 p1 p2 p3 p4 ⊢
  refine (C1.out _ K0.out).mono ?_
  rintro e w1 ⟨rfl, rfl⟩
  by_cases hr0 : r1 = false
  · have HF : Hid (rr = false) := by show _ = _; rw [HE.out, hr0]; simp
    subst hr0
    go_wp2_with fail
    go_ret
    exact ⟨ret_b (by rw [HF.out]), B0.out⟩
  have hs0 : r1 = true := by cases r1 <;> simp_all
  subst hs0
  clear hr0
  go_wp2_with fail
  refine (C2.out _ K0.out).mono ?_
  rintro e w2 ⟨rfl, rfl⟩
  by_cases hr1 : r2 = false
  · have HF : Hid (rr = false) := by show _ = _; rw [HE.out, hr1]; simp
    subst hr1
    go_wp2_with fail
    go_ret
    exact ⟨ret_b (by rw [HF.out]), B0.out⟩
  have hs1 : r2 = true := by cases r2 <;> simp_all
  subst hs1
  clear hr1
  go_wp2_with fail
  refine (C3.out _ K0.out).mono ?_
  rintro e w3 ⟨rfl, rfl⟩
  by_cases hr2 : r3 = false
  · have HF : Hid (rr = false) := by show _ = _; rw [HE.out, hr2]; simp
    subst hr2
    go_wp2_with fail
    go_ret
    exact ⟨ret_b (by rw [HF.out]), B0.out⟩
  have hs2 : r3 = true := by cases r3 <;> simp_all
  subst hs2
  clear hr2
  go_wp2_with fail
  refine (T1.out _ K0.out).mono ?_
  rintro e W1 ⟨rfl, hb⟩
  have B1 := Lib.hid (B0.out.trans (hb.mono B0.out.size))
  have X1 := Lib.hid (X0.out.keep (keeps_below hb))
  have K1 := Lib.hid (keeps_below B1.out)
  clear hb p0 p1 p2 p3 p4
  obtain ⟨p0, p1, p2, p3, p4⟩ := X1.out
  by_cases hr3 : t1 = true
  · have HF : Hid (rr = false) := by show _ = _; rw [HE.out, hr3]; simp
    subst hr3
    go_wp2_with fail
    go_ret
    exact ⟨ret_b (by rw [HF.out]), B1.out⟩
  have hs3 : t1 = false := by cases t1 <;> simp_all
  subst hs3
  clear hr3
  go_wp2_with fail
  refine (T2.out _ K1.out).mono ?_
  rintro e W2 ⟨rfl, hb⟩
  have B2 := Lib.hid (B1.out.trans (hb.mono B1.out.size))
  have X2 := Lib.hid (X1.out.keep (keeps_below hb))
  have K2 := Lib.hid (keeps_below B2.out)
  clear hb p0 p1 p2 p3 p4
  obtain ⟨p0, p1, p2, p3, p4⟩ := X2.out
  by_cases hr4 : t2 = true
  · have HF : Hid (rr = false) := by show _ = _; rw [HE.out, hr4]; simp
    subst hr4
    go_wp2_with fail
    go_ret
    exact ⟨ret_b (by rw [HF.out]), B2.out⟩
  have hs4 : t2 = false := by cases t2 <;> simp_all
  subst hs4
  clear hr4
  go_wp2_with fail
  refine (T3.out _ K2.out).mono ?_
  rintro e W3 ⟨rfl, hb⟩
  have B3 := Lib.hid (B2.out.trans (hb.mono B2.out.size))
  have X3 := Lib.hid (X2.out.keep (keeps_below hb))
  have K3 := Lib.hid (keeps_below B3.out)
  clear hb p0 p1 p2 p3 p4
  obtain ⟨p0, p1, p2, p3, p4⟩ := X3.out
  by_cases hr5 : t3 = true
  · have HF : Hid (rr = false) := by show _ = _; rw [HE.out, hr5]; simp
    subst hr5
    go_wp2_with fail
    go_ret
    exact ⟨ret_b (by rw [HF.out]), B3.out⟩
  have hs5 : t3 = false := by cases t3 <;> simp_all
  subst hs5
  clear hr5
  have HE2 : Hid (rr = (decide (x.entry.length = x.procs.length) && (decide (n ≤ 1500) && (@decide (mainB ∈ x.procs) (Classical.propDecidable _) && @decide (EntOk x.entry x.ins) (Classical.propDecidable _))))) := by show _ = _; rw [HE.out]; simp
  clear HE
  by_cases hel : x.entry.length = x.procs.length
  rotate_left
  · have HF : Hid (rr = false) := by show _ = _; rw [HE2.out]; simp [hel]
    have hel2 : ¬ (x.entry.length : Int) = (x.procs.length : Int) := by omega
    go_wp2_with fail
    go_ret
    exact ⟨ret_b (by rw [HF.out]), B3.out⟩
  by_cases hil : n ≤ 1500
  rotate_left
  · have HF : Hid (rr = false) := by show _ = _; rw [HE2.out]; simp [hil]
    have hil2 : (1500 : Int) < (n : Int) := by omega
    have hel2 : (x.entry.length : Int) = (x.procs.length : Int) := by omega
    clear hel
    go_wp2_with fail
    go_ret
    exact ⟨ret_b (by rw [HF.out]), B3.out⟩
  have hil2 : ¬ (1500 : Int) < (n : Int) := by omega
  have hel2 : (x.entry.length : Int) = (x.procs.length : Int) := by omega
  have HEL := Lib.hid hel
  clear hel
  go_wp2_with fail
  refine (CM.out _ K3.out).mono ?_
  rintro e W4 ⟨z, rfl, hz, rfl⟩
  have HZ := Lib.hid (idxI_neg hz)
  clear hz
  by_cases hm : mainB ∈ x.procs
  rotate_left
  · have HF : Hid (rr = false) := by show _ = _; rw [HE2.out]; simp [hm]
    have hz : z < 0 := HZ.out.2 hm
    clear hm
    go_wp2_with fail
    go_ret
    exact ⟨ret_b (by rw [HF.out]), B3.out⟩
  have hz : ¬ z < 0 := fun h => HZ.out.1 h hm
  have HR : Hid (rr = @decide (EntOk x.entry x.ins) (Classical.propDecidable _)) := by show _ = _; rw [HE2.out]; simp [HEL.out, hil, hm]
  have HT : Hid (Ris x.entry n → (∀ (q : Nat) (hq : q < x.ins.length), (x.ins[q].op = 9 ↔ ((∃ (p : Nat) (h : p < x.entry.length), x.entry[p] = (q : Int) + 1) ∨ q + 1 = n))) → rr = true) := fun h h2 => by
    have hn := HNL.out
    subst hn
    have h3 : EntOk x.entry x.ins := ⟨h, h2⟩
    rw [HR.out]; simp [h3]
  have HN : Hid (¬ Ris x.entry n → rr = false) := fun h => by
    have hn := HNL.out
    subst hn
    have h3 : ¬ EntOk x.entry x.ins := fun h4 => h h4.1
    rw [HR.out]; simp [h3]
  have HN2 : Hid (∀ (q : Nat) (hq : q < x.ins.length), ¬ (x.ins[q].op = 9 ↔ ((∃ (p : Nat) (h : p < x.entry.length), x.entry[p] = (q : Int) + 1) ∨ q + 1 = n)) → rr = false) := fun q hq h => by
    have hn := HNL.out
    subst hn
    have h3 : ¬ EntOk x.entry x.ins := fun h4 => h (h4.2 q hq)
    rw [HR.out]; simp [h3]
  have hpos : 0 < x.entry.length := by rw [HEL.out]; exact List.length_pos_of_mem hm
  have HPOS := Lib.hid hpos
  have hilb : n ≤ 9223372036854775807 := by omega
  have hilB := Lib.hid hilb
  clear HR HE2 hm p0 p1 p2 p3 p4 hpos hilb hil HZ HEL C1 C2 C3 T1 T2 T3 CM X0 X1 X2 B0 B1 B2 K0 K1 K2 K3
  go_wp2_with fail
  clear hel2 hil2 hz
  go_loopw [3] (fun i wr => ∃ (j : Nat), j ≤ x.entry.length ∧ i = .int .i64 j ∧ Hid (∀ q, q < j → GoodE x.entry n q) ∧ Hid (Box5 wr w.heap.size (.slice ga x.globals.length gc) (.slice la x.locks.length lc) (.slice pa x.procs.length pc) (.slice ea x.entry.length ec) (.slice ia n ic)) ∧ Hid (Below w.heap.size w wr))
    (fun i _ => x.entry.length - (intOf i).toNat)
  case atStart => exact ⟨0, Nat.zero_le _, rfl, fun q h => by omega, X3.out, B3.out⟩
  case round =>
    obtain ⟨j, hj, rfl, hgood, hbx, hbe⟩ := hrel
    obtain ⟨p0, p1, p2, p3, p4⟩ := hbx.out
    by_cases hlt : j < x.entry.length
    · have HI := Lib.hid (H4.out.keep (keeps_below hbe.out))
      obtain ⟨a2, c2, e2, hmx, _, hk⟩ := HI.out
      simp at e2
      obtain ⟨rfl, rfl⟩ := e2
      obtain ⟨g, o, rfl, hc⟩ := hk (by omega)
      match j, hlt, hj, hgood with
      | 0, hlt, hj, hgood =>
        have c0 := hc 0 hlt
        rw [Nat.add_zero] at c0
        obtain ⟨z0, hz0⟩ : ∃ z0, z0 = x.entry[0] := ⟨_, rfl⟩
        rw [← hz0] at c0
        have HZ0 := Lib.hid hz0
        clear hc hk hz0
        by_cases hq : z0 = 0
        · subst hq
          by_cases hn : (n : Int) ≤ 0
          · have HF : Hid (rr = false) := HN.out (fun h => by have := h.below hlt; rw [← HZ0.out] at this; omega)
            go_wp2_with fail
            (try dsimp only [List.append])
            refine RegSeq.seq_begin (S := fun wx => wx.cell? ⟨w.heap.size, 3, none⟩ = some (.slice (some ⟨g, o, none⟩) x.entry.length ec) ∧ wx.cell? ⟨w.heap.size, 4, none⟩ = some (.slice ia n ic) ∧ wx.cell? ⟨g, o, none⟩ = some (.int .i64 0)) (by kernel_rfl) (by kernel_rfl) (by kernel_rfl) (⟨p3, p4, c0⟩) (fun hHeld => ?_)
            iterate 10 (((refine RegSeq.Seq.take' (v := ?_) (by rfl) (by kernel_rfl) ?_ hHeld ?_; rotate_left; (focus ((intro w hSw; (try dsimp only at hSw); go_simp) <;> with_reducible rfl))); simp only [Act.put, List.setIfInBounds_toArray, List.set_cons_zero, List.set_cons_succ, Nat.reduceAdd]))
            iterate 3 (((refine RegSeq.Seq.take' (v := ?_) (by rfl) (by kernel_rfl) ?_ hHeld ?_; rotate_left; (focus ((intro w hSw; (try dsimp only at hSw); go_simp) <;> with_reducible rfl))); simp only [Act.put, List.setIfInBounds_toArray, List.set_cons_zero, List.set_cons_succ, Nat.reduceAdd]))
            (refine RegSeq.Seq.skips hHeld [77, 78, 79, 80, 81, 82, 83, 84, 85, 86, 87, 88] _ _ (by kernel_rfl) ?_; simp only [RegSeq.skipped, List.length_cons, List.length_nil]; simp only [Act.put, List.setIfInBounds_toArray, List.set_cons_zero, List.set_cons_succ, Nat.reduceAdd])
            iterate 3 (((refine RegSeq.Seq.take' (v := ?_) (by rfl) (by kernel_rfl) ?_ hHeld ?_; rotate_left; (focus ((intro w hSw; (try dsimp only at hSw); go_simp) <;> with_reducible rfl))); simp only [Act.put, List.setIfInBounds_toArray, List.set_cons_zero, List.set_cons_succ, Nat.reduceAdd]))
            iterate 9 (((refine RegSeq.Seq.take' (v := ?_) (by rfl) (by kernel_rfl) ?_ hHeld ?_; rotate_left; (focus ((intro w hSw; (try dsimp only at hSw); go_simp) <;> with_reducible rfl))); simp only [Act.put, List.setIfInBounds_toArray, List.set_cons_zero, List.set_cons_succ, Nat.reduceAdd]))
            ((refine RegSeq.Seq.take' (v := ?_) (by rfl) (by kernel_rfl) ?_ hHeld ?_; rotate_left; (focus ((intro w hSw; (try dsimp only at hSw); go_simp) <;> with_reducible rfl))); simp only [Act.put, List.setIfInBounds_toArray, List.set_cons_zero, List.set_cons_succ, Nat.reduceAdd])
            refine RegSeq.Seq.done (by kernel_rfl) ?_
            clear hHeld
            go_wp2_with fail
            go_ret
            exact ⟨ret_b (by rw [HF.out]), hbe.out.drew⟩
          · have HG : Hid (∀ q, q < 0 + 1 → GoodE x.entry n q) := fun q h => by
              obtain rfl : q = 0 := by omega
              exact ⟨hlt, fun _ => HZ0.out.symm, fun m h => by omega, by rw [← HZ0.out]; omega⟩
            go_wp2_with fail
            (try dsimp only [List.append])
            refine RegSeq.seq_begin (S := fun wx => wx.cell? ⟨w.heap.size, 3, none⟩ = some (.slice (some ⟨g, o, none⟩) x.entry.length ec) ∧ wx.cell? ⟨w.heap.size, 4, none⟩ = some (.slice ia n ic) ∧ wx.cell? ⟨g, o, none⟩ = some (.int .i64 0)) (by kernel_rfl) (by kernel_rfl) (by kernel_rfl) (⟨p3, p4, c0⟩) (fun hHeld => ?_)
            iterate 10 (((refine RegSeq.Seq.take' (v := ?_) (by rfl) (by kernel_rfl) ?_ hHeld ?_; rotate_left; (focus ((intro w hSw; (try dsimp only at hSw); go_simp) <;> with_reducible rfl))); simp only [Act.put, List.setIfInBounds_toArray, List.set_cons_zero, List.set_cons_succ, Nat.reduceAdd]))
            iterate 3 (((refine RegSeq.Seq.take' (v := ?_) (by rfl) (by kernel_rfl) ?_ hHeld ?_; rotate_left; (focus ((intro w hSw; (try dsimp only at hSw); go_simp) <;> with_reducible rfl))); simp only [Act.put, List.setIfInBounds_toArray, List.set_cons_zero, List.set_cons_succ, Nat.reduceAdd]))
            (refine RegSeq.Seq.skips hHeld [77, 78, 79, 80, 81, 82, 83, 84, 85, 86, 87, 88] _ _ (by kernel_rfl) ?_; simp only [RegSeq.skipped, List.length_cons, List.length_nil]; simp only [Act.put, List.setIfInBounds_toArray, List.set_cons_zero, List.set_cons_succ, Nat.reduceAdd])
            iterate 3 (((refine RegSeq.Seq.take' (v := ?_) (by rfl) (by kernel_rfl) ?_ hHeld ?_; rotate_left; (focus ((intro w hSw; (try dsimp only at hSw); go_simp) <;> with_reducible rfl))); simp only [Act.put, List.setIfInBounds_toArray, List.set_cons_zero, List.set_cons_succ, Nat.reduceAdd]))
            iterate 9 (((refine RegSeq.Seq.take' (v := ?_) (by rfl) (by kernel_rfl) ?_ hHeld ?_; rotate_left; (focus ((intro w hSw; (try dsimp only at hSw); go_simp) <;> with_reducible rfl))); simp only [Act.put, List.setIfInBounds_toArray, List.set_cons_zero, List.set_cons_succ, Nat.reduceAdd]))
            ((refine RegSeq.Seq.take' (v := ?_) (by rfl) (by kernel_rfl) ?_ hHeld ?_; rotate_left; (focus ((intro w hSw; (try dsimp only at hSw); go_simp) <;> with_reducible rfl))); simp only [Act.put, List.setIfInBounds_toArray, List.set_cons_zero, List.set_cons_succ, Nat.reduceAdd])
            refine RegSeq.Seq.done (by kernel_rfl) ?_
            clear hHeld
            go_wp2_with fail
            go_roundw
            case rel => exact ⟨1, by omega, by go_num, HG.out, hbx.out.keep (keeps_drew _), hbe.out.drew⟩
            case measure => simp [intOf]; omega
        · have HF : Hid (rr = false) := HN.out (fun h => hq (by have := h.2.1; rw [← HZ0.out] at this; exact this))
          have hq1 : (z0 != 0) = true := by rw [bne_iff_ne]; exact hq
          clear hq
          go_wp2_with fail
          (try dsimp only [List.append])
          refine RegSeq.seq_begin (S := fun wx => wx.cell? ⟨w.heap.size, 3, none⟩ = some (.slice (some ⟨g, o, none⟩) x.entry.length ec) ∧ wx.cell? ⟨w.heap.size, 4, none⟩ = some (.slice ia n ic) ∧ wx.cell? ⟨g, o, none⟩ = some (.int .i64 z0)) (by kernel_rfl) (by kernel_rfl) (by kernel_rfl) (⟨p3, p4, c0⟩) (fun hHeld => ?_)
          iterate 10 (((refine RegSeq.Seq.take' (v := ?_) (by rfl) (by kernel_rfl) ?_ hHeld ?_; rotate_left; (focus ((intro w hSw; (try dsimp only at hSw); go_simp) <;> with_reducible rfl))); simp only [Act.put, List.setIfInBounds_toArray, List.set_cons_zero, List.set_cons_succ, Nat.reduceAdd]))
          (refine RegSeq.Seq.skips hHeld [74, 75, 76, 77, 78, 79, 80, 81, 82, 83, 84, 85, 86, 87, 88, 89] _ _ (by kernel_rfl) ?_; simp only [RegSeq.skipped, List.length_cons, List.length_nil]; simp only [Act.put, List.setIfInBounds_toArray, List.set_cons_zero, List.set_cons_succ, Nat.reduceAdd])
          iterate 2 (((refine RegSeq.Seq.take' (v := ?_) (by rfl) (by kernel_rfl) ?_ hHeld ?_; rotate_left; (focus ((intro w hSw; (try dsimp only at hSw); go_simp) <;> with_reducible rfl))); simp only [Act.put, List.setIfInBounds_toArray, List.set_cons_zero, List.set_cons_succ, Nat.reduceAdd]))
          (refine RegSeq.Seq.skips hHeld [92, 93, 94, 95, 96, 97, 98, 99, 100] _ _ (by kernel_rfl) ?_; simp only [RegSeq.skipped, List.length_cons, List.length_nil]; simp only [Act.put, List.setIfInBounds_toArray, List.set_cons_zero, List.set_cons_succ, Nat.reduceAdd])
          ((refine RegSeq.Seq.take' (v := ?_) (by rfl) (by kernel_rfl) ?_ hHeld ?_; rotate_left; (focus ((intro w hSw; (try dsimp only at hSw); go_simp) <;> with_reducible rfl))); simp only [Act.put, List.setIfInBounds_toArray, List.set_cons_zero, List.set_cons_succ, Nat.reduceAdd])
          refine RegSeq.Seq.done (by kernel_rfl) ?_
          clear hHeld
          go_wp2_with fail
          go_ret
          exact ⟨ret_b (by rw [HF.out]), hbe.out.drew⟩
      | m + 1, hlt, hj, hgood =>
        have c0 := hc (m + 1) hlt
        have c1 := hc m (by omega)
        obtain ⟨z0, hz0⟩ : ∃ z0, z0 = x.entry[m + 1] := ⟨_, rfl⟩
        obtain ⟨z1, hz1⟩ : ∃ z0, z0 = x.entry[m] := ⟨_, rfl⟩
        rw [← hz0] at c0
        rw [← hz1] at c1
        have HZ0 := Lib.hid hz0
        have HZ1 := Lib.hid hz1
        have e1 : ((m + 1 : Nat) : Int) - 1 = (m : Int) := by omega
        have e0 : (((m + 1 : Nat) : Int) == 0) = false := by rw [beq_eq_false_iff_ne]; omega
        have e3 : (0 : Int) < ((m + 1 : Nat) : Int) := by omega
        have hlt1 : m < x.entry.length := by omega
        have e4 : (0 : Int) ≤ (m : Int) + 1 := by omega
        have e5 : ¬ ((m : Int) + 1 = 0) := by omega
        have ew : IntKind.i64.wrap (m : Int) = (m : Int) := IntWalk.i64_in _ (by omega)
        clear hc hk hz0 hz1
        by_cases hq : z0 ≤ z1
        · have HF : Hid (rr = false) := HN.out (fun h => by have := h.lt (Nat.lt_succ_self m) hlt; rw [← HZ0.out, ← HZ1.out] at this; omega)
          go_wp2_with fail
          (try dsimp only [List.append])
          refine RegSeq.seq_begin (S := fun wx => wx.cell? ⟨w.heap.size, 3, none⟩ = some (.slice (some ⟨g, o, none⟩) x.entry.length ec) ∧ wx.cell? ⟨w.heap.size, 4, none⟩ = some (.slice ia n ic) ∧ wx.cell? ⟨g, o + (m + 1), none⟩ = some (.int .i64 z0) ∧ wx.cell? ⟨g, o + m, none⟩ = some (.int .i64 z1)) (by kernel_rfl) (by kernel_rfl) (by kernel_rfl) (⟨p3, p4, c0, c1⟩) (fun hHeld => ?_)
          iterate 3 (((refine RegSeq.Seq.take' (v := ?_) (by rfl) (by kernel_rfl) ?_ hHeld ?_; rotate_left; (focus ((intro w hSw; (try dsimp only at hSw); go_simp) <;> with_reducible rfl))); simp only [Act.put, List.setIfInBounds_toArray, List.set_cons_zero, List.set_cons_succ, Nat.reduceAdd]))
          (refine RegSeq.Seq.skips hHeld [67, 68, 69, 70, 71] _ _ (by kernel_rfl) ?_; simp only [RegSeq.skipped, List.length_cons, List.length_nil]; simp only [Act.put, List.setIfInBounds_toArray, List.set_cons_zero, List.set_cons_succ, Nat.reduceAdd])
          iterate 2 (((refine RegSeq.Seq.take' (v := ?_) (by rfl) (by kernel_rfl) ?_ hHeld ?_; rotate_left; (focus ((intro w hSw; (try dsimp only at hSw); go_simp) <;> with_reducible rfl))); simp only [Act.put, List.setIfInBounds_toArray, List.set_cons_zero, List.set_cons_succ, Nat.reduceAdd]))
          iterate 3 (((refine RegSeq.Seq.take' (v := ?_) (by rfl) (by kernel_rfl) ?_ hHeld ?_; rotate_left; (focus ((intro w hSw; (try dsimp only at hSw); go_simp) <;> with_reducible rfl))); simp only [Act.put, List.setIfInBounds_toArray, List.set_cons_zero, List.set_cons_succ, Nat.reduceAdd]))
          iterate 12 (((refine RegSeq.Seq.take' (v := ?_) (by rfl) (by kernel_rfl) ?_ hHeld ?_; rotate_left; (focus ((intro w hSw; (try dsimp only at hSw); go_simp) <;> with_reducible rfl))); simp only [Act.put, List.setIfInBounds_toArray, List.set_cons_zero, List.set_cons_succ, Nat.reduceAdd]))
          iterate 3 (((refine RegSeq.Seq.take' (v := ?_) (by rfl) (by kernel_rfl) ?_ hHeld ?_; rotate_left; (focus ((intro w hSw; (try dsimp only at hSw); go_simp) <;> with_reducible rfl))); simp only [Act.put, List.setIfInBounds_toArray, List.set_cons_zero, List.set_cons_succ, Nat.reduceAdd]))
          (refine RegSeq.Seq.skips hHeld [92, 93, 94, 95, 96, 97, 98, 99, 100] _ _ (by kernel_rfl) ?_; simp only [RegSeq.skipped, List.length_cons, List.length_nil]; simp only [Act.put, List.setIfInBounds_toArray, List.set_cons_zero, List.set_cons_succ, Nat.reduceAdd])
          ((refine RegSeq.Seq.take' (v := ?_) (by rfl) (by kernel_rfl) ?_ hHeld ?_; rotate_left; (focus ((intro w hSw; (try dsimp only at hSw); go_simp) <;> with_reducible rfl))); simp only [Act.put, List.setIfInBounds_toArray, List.set_cons_zero, List.set_cons_succ, Nat.reduceAdd])
          refine RegSeq.Seq.done (by kernel_rfl) ?_
          clear hHeld
          go_wp2_with fail
          go_ret
          exact ⟨ret_b (by rw [HF.out]), hbe.out.drew⟩
        · have hqd : decide (z0 ≤ z1) = false := decide_eq_false hq
          by_cases hn : (n : Int) ≤ z0
          · have HF : Hid (rr = false) := HN.out (fun h => by have := h.below hlt; rw [← HZ0.out] at this; omega)
            go_wp2_with fail
            (try dsimp only [List.append])
            refine RegSeq.seq_begin (S := fun wx => wx.cell? ⟨w.heap.size, 3, none⟩ = some (.slice (some ⟨g, o, none⟩) x.entry.length ec) ∧ wx.cell? ⟨w.heap.size, 4, none⟩ = some (.slice ia n ic) ∧ wx.cell? ⟨g, o + (m + 1), none⟩ = some (.int .i64 z0) ∧ wx.cell? ⟨g, o + m, none⟩ = some (.int .i64 z1)) (by kernel_rfl) (by kernel_rfl) (by kernel_rfl) (⟨p3, p4, c0, c1⟩) (fun hHeld => ?_)
            iterate 3 (((refine RegSeq.Seq.take' (v := ?_) (by rfl) (by kernel_rfl) ?_ hHeld ?_; rotate_left; (focus ((intro w hSw; (try dsimp only at hSw); go_simp) <;> with_reducible rfl))); simp only [Act.put, List.setIfInBounds_toArray, List.set_cons_zero, List.set_cons_succ, Nat.reduceAdd]))
            (refine RegSeq.Seq.skips hHeld [67, 68, 69, 70, 71] _ _ (by kernel_rfl) ?_; simp only [RegSeq.skipped, List.length_cons, List.length_nil]; simp only [Act.put, List.setIfInBounds_toArray, List.set_cons_zero, List.set_cons_succ, Nat.reduceAdd])
            iterate 2 (((refine RegSeq.Seq.take' (v := ?_) (by rfl) (by kernel_rfl) ?_ hHeld ?_; rotate_left; (focus ((intro w hSw; (try dsimp only at hSw); go_simp) <;> with_reducible rfl))); simp only [Act.put, List.setIfInBounds_toArray, List.set_cons_zero, List.set_cons_succ, Nat.reduceAdd]))
            iterate 3 (((refine RegSeq.Seq.take' (v := ?_) (by rfl) (by kernel_rfl) ?_ hHeld ?_; rotate_left; (focus ((intro w hSw; (try dsimp only at hSw); go_simp) <;> with_reducible rfl))); simp only [Act.put, List.setIfInBounds_toArray, List.set_cons_zero, List.set_cons_succ, Nat.reduceAdd]))
            iterate 12 (((refine RegSeq.Seq.take' (v := ?_) (by rfl) (by kernel_rfl) ?_ hHeld ?_; rotate_left; (focus ((intro w hSw; (try dsimp only at hSw); go_simp) <;> with_reducible rfl))); simp only [Act.put, List.setIfInBounds_toArray, List.set_cons_zero, List.set_cons_succ, Nat.reduceAdd]))
            iterate 3 (((refine RegSeq.Seq.take' (v := ?_) (by rfl) (by kernel_rfl) ?_ hHeld ?_; rotate_left; (focus ((intro w hSw; (try dsimp only at hSw); go_simp) <;> with_reducible rfl))); simp only [Act.put, List.setIfInBounds_toArray, List.set_cons_zero, List.set_cons_succ, Nat.reduceAdd]))
            iterate 9 (((refine RegSeq.Seq.take' (v := ?_) (by rfl) (by kernel_rfl) ?_ hHeld ?_; rotate_left; (focus ((intro w hSw; (try dsimp only at hSw); go_simp) <;> with_reducible rfl))); simp only [Act.put, List.setIfInBounds_toArray, List.set_cons_zero, List.set_cons_succ, Nat.reduceAdd]))
            ((refine RegSeq.Seq.take' (v := ?_) (by rfl) (by kernel_rfl) ?_ hHeld ?_; rotate_left; (focus ((intro w hSw; (try dsimp only at hSw); go_simp) <;> with_reducible rfl))); simp only [Act.put, List.setIfInBounds_toArray, List.set_cons_zero, List.set_cons_succ, Nat.reduceAdd])
            refine RegSeq.Seq.done (by kernel_rfl) ?_
            clear hHeld
            go_wp2_with fail
            go_ret
            exact ⟨ret_b (by rw [HF.out]), hbe.out.drew⟩
          · have HG : Hid (∀ q, q < m + 1 + 1 → GoodE x.entry n q) := fun q h => by
              rcases Nat.lt_or_ge q (m + 1) with h1 | h1
              · exact hgood.out q h1
              · obtain rfl : q = m + 1 := by omega
                refine ⟨hlt, fun e => by omega, fun m2 h => ?_, by rw [← HZ0.out]; omega⟩
                obtain rfl : m2 = m := by omega
                rw [← HZ0.out, ← HZ1.out]; omega
            go_wp2_with fail
            (try dsimp only [List.append])
            refine RegSeq.seq_begin (S := fun wx => wx.cell? ⟨w.heap.size, 3, none⟩ = some (.slice (some ⟨g, o, none⟩) x.entry.length ec) ∧ wx.cell? ⟨w.heap.size, 4, none⟩ = some (.slice ia n ic) ∧ wx.cell? ⟨g, o + (m + 1), none⟩ = some (.int .i64 z0) ∧ wx.cell? ⟨g, o + m, none⟩ = some (.int .i64 z1)) (by kernel_rfl) (by kernel_rfl) (by kernel_rfl) (⟨p3, p4, c0, c1⟩) (fun hHeld => ?_)
            iterate 3 (((refine RegSeq.Seq.take' (v := ?_) (by rfl) (by kernel_rfl) ?_ hHeld ?_; rotate_left; (focus ((intro w hSw; (try dsimp only at hSw); go_simp) <;> with_reducible rfl))); simp only [Act.put, List.setIfInBounds_toArray, List.set_cons_zero, List.set_cons_succ, Nat.reduceAdd]))
            (refine RegSeq.Seq.skips hHeld [67, 68, 69, 70, 71] _ _ (by kernel_rfl) ?_; simp only [RegSeq.skipped, List.length_cons, List.length_nil]; simp only [Act.put, List.setIfInBounds_toArray, List.set_cons_zero, List.set_cons_succ, Nat.reduceAdd])
            iterate 2 (((refine RegSeq.Seq.take' (v := ?_) (by rfl) (by kernel_rfl) ?_ hHeld ?_; rotate_left; (focus ((intro w hSw; (try dsimp only at hSw); go_simp) <;> with_reducible rfl))); simp only [Act.put, List.setIfInBounds_toArray, List.set_cons_zero, List.set_cons_succ, Nat.reduceAdd]))
            iterate 3 (((refine RegSeq.Seq.take' (v := ?_) (by rfl) (by kernel_rfl) ?_ hHeld ?_; rotate_left; (focus ((intro w hSw; (try dsimp only at hSw); go_simp) <;> with_reducible rfl))); simp only [Act.put, List.setIfInBounds_toArray, List.set_cons_zero, List.set_cons_succ, Nat.reduceAdd]))
            iterate 12 (((refine RegSeq.Seq.take' (v := ?_) (by rfl) (by kernel_rfl) ?_ hHeld ?_; rotate_left; (focus ((intro w hSw; (try dsimp only at hSw); go_simp) <;> with_reducible rfl))); simp only [Act.put, List.setIfInBounds_toArray, List.set_cons_zero, List.set_cons_succ, Nat.reduceAdd]))
            iterate 3 (((refine RegSeq.Seq.take' (v := ?_) (by rfl) (by kernel_rfl) ?_ hHeld ?_; rotate_left; (focus ((intro w hSw; (try dsimp only at hSw); go_simp) <;> with_reducible rfl))); simp only [Act.put, List.setIfInBounds_toArray, List.set_cons_zero, List.set_cons_succ, Nat.reduceAdd]))
            iterate 9 (((refine RegSeq.Seq.take' (v := ?_) (by rfl) (by kernel_rfl) ?_ hHeld ?_; rotate_left; (focus ((intro w hSw; (try dsimp only at hSw); go_simp) <;> with_reducible rfl))); simp only [Act.put, List.setIfInBounds_toArray, List.set_cons_zero, List.set_cons_succ, Nat.reduceAdd]))
            ((refine RegSeq.Seq.take' (v := ?_) (by rfl) (by kernel_rfl) ?_ hHeld ?_; rotate_left; (focus ((intro w hSw; (try dsimp only at hSw); go_simp) <;> with_reducible rfl))); simp only [Act.put, List.setIfInBounds_toArray, List.set_cons_zero, List.set_cons_succ, Nat.reduceAdd])
            refine RegSeq.Seq.done (by kernel_rfl) ?_
            clear hHeld
            go_wp2_with fail
            go_roundw
            case rel => exact ⟨m + 1 + 1, by omega, by go_num, HG.out, hbx.out.keep (keeps_drew _), hbe.out.drew⟩
            case measure => simp [intOf]; omega
    · have HRIS : Hid (Ris x.entry n) := ris_of HPOS.out (fun q h => hgood.out q (by omega))
      obtain ⟨w5, hw5⟩ : ∃ w0, w0 = wr := ⟨_, rfl⟩
      subst hw5
      go_wp2_with fail
      clear p0 p1 p2 p3 p4
      go_loopw [4] (fun i wr => ∃ (j : Nat), j ≤ n ∧ i = .int .i64 j ∧ Hid (∀ (q : Nat) (hq : q < x.ins.length), q < j → (x.ins[q].op = 9 ↔ ((∃ (p : Nat) (h : p < x.entry.length), x.entry[p] = (q : Int) + 1) ∨ q + 1 = n))) ∧ Hid (Box5 wr w.heap.size (.slice ga x.globals.length gc) (.slice la x.locks.length lc) (.slice pa x.procs.length pc) (.slice ea x.entry.length ec) (.slice ia n ic)) ∧ Hid (Below w.heap.size w wr))
        (fun i _ => n - (intOf i).toNat)
      case atStart => exact ⟨0, Nat.zero_le _, rfl, fun q _ h => by omega, hbx.out, hbe.out⟩
      case round =>
        obtain ⟨k, hk, rfl, hiff, hbx, hbe⟩ := hrel
        obtain ⟨p0, p1, p2, p3, p4⟩ := hbx.out
        by_cases hlt : k < n
        · have hlt2 : k < x.ins.length := by have := HNL.out; omega
          obtain ⟨_, a2, c2, e2, hk5⟩ := H5.out.keep (keeps_below hbe.out)
          simp at e2
          obtain ⟨rfl, hnn, rfl⟩ := e2
          clear hnn
          obtain ⟨g, o, rfl, hc⟩ := hk5 (by omega)
          obtain ⟨_, _, _, ta, tc, c0, _⟩ := hc k hlt2
          have CP : Hid (∀ wx, Below wr.heap.size wr wx → Calls Tryz.prog 148 #[.agg #[.slice ga x.globals.length gc, .slice la x.locks.length lc, .slice pa x.procs.length pc, .slice ea x.entry.length ec, .slice (some ⟨g, o, none⟩) n ic], .int .i64 (k : Int)] wx fun e w' => ∃ p : Nat, e = .returned (.int .i64 (p : Int)) ∧ IsP x.entry (k : Int) p ∧ Below wr.heap.size wr w') := fun wx hb =>
            (specKProc_any x.entry _ _ _ _ ea ec n (k : Int) wx ((H4.out.keep (keeps_below hbe.out)).keep (keeps_below hb)) HRIS.out (by omega)).mono fun e w' ⟨p, he, hp, h⟩ => ⟨p, he, hp, hb.trans (h.mono hb.size)⟩
          have CE : Hid (∀ (p : Nat) wx, p < x.entry.length → Below wr.heap.size wr wx → Calls Tryz.prog 147 #[.agg #[.slice ga x.globals.length gc, .slice la x.locks.length lc, .slice pa x.procs.length pc, .slice ea x.entry.length ec, .slice (some ⟨g, o, none⟩) n ic], .int .i64 (p : Int)] wx fun e w' => ∃ z, e = .returned (.int .i64 z) ∧ z = endI x.entry n p ∧ Below wr.heap.size wr w') := fun p wx hp hb =>
            (specKEnd_any x.entry _ _ _ ea _ ec n _ p wx ((H4.out.keep (keeps_below hbe.out)).keep (keeps_below hb)) HRIS.out hp hilB.out).mono fun e w' ⟨z, he, hz, h⟩ => ⟨z, he, hz, hb.trans (h.mono hb.size)⟩
          have KS : Hid (∀ wx, Below wr.heap.size wr wx → wx.cell? ⟨w.heap.size, 0, none⟩ = some (.slice ga x.globals.length gc) ∧ wx.cell? ⟨w.heap.size, 1, none⟩ = some (.slice la x.locks.length lc) ∧ wx.cell? ⟨w.heap.size, 2, none⟩ = some (.slice pa x.procs.length pc) ∧ wx.cell? ⟨w.heap.size, 3, none⟩ = some (.slice ea x.entry.length ec) ∧ wx.cell? ⟨w.heap.size, 4, none⟩ = some (.slice (some ⟨g, o, none⟩) n ic) ∧ wx.cell? ⟨g, o + k * 7, none⟩ = some (.int .i64 x.ins[k].op) ∧ Below wr.heap.size wr wx) := fun wx hb => by
            have hk := keeps_below hb
            exact ⟨hk _ _ p0, hk _ _ p1, hk _ _ p2, hk _ _ p3, hk _ _ p4, hk _ _ c0, hb⟩
          have b0 : Below wr.heap.size wr wr.drew := (Below.refl _ _).drew
          have HQ : Hid (∀ (p : Nat) (z : Int), IsP x.entry (k : Int) p → z = endI x.entry n p → (z = (k : Int) ↔ ((∃ (p : Nat) (h : p < x.entry.length), x.entry[p] = (k : Int) + 1) ∨ k + 1 = n))) := fun p z hp hz => by
            rw [hz]; exact endI_eq HRIS.out hlt hp
          have HNE : Hid (¬ (x.ins[k].op = 9 ↔ ((∃ (p : Nat) (h : p < x.entry.length), x.entry[p] = (k : Int) + 1) ∨ k + 1 = n)) → rr = false) := fun h => HN2.out k hlt2 h
          have HYE : Hid ((x.ins[k].op = 9 ↔ ((∃ (p : Nat) (h : p < x.entry.length), x.entry[p] = (k : Int) + 1) ∨ k + 1 = n)) → ∀ (q : Nat) (hq : q < x.ins.length), q < k + 1 → (x.ins[q].op = 9 ↔ ((∃ (p : Nat) (h : p < x.entry.length), x.entry[p] = (q : Int) + 1) ∨ q + 1 = n))) := fun h q hq h1 => by
            rcases Nat.lt_or_ge q k with h2 | h2
            · exact hiff.out q hq h2
            · obtain rfl : q = k := by omega
              exact h
          generalize ((∃ (p : Nat) (h : p < x.entry.length), x.entry[p] = (k : Int) + 1) ∨ k + 1 = n) = EN at HQ HNE HYE
          obtain ⟨op, hop⟩ : ∃ op, op = x.ins[k].op := ⟨_, rfl⟩
          rw [← hop] at KS HNE HYE
          have HOP := Lib.hid hop
          clear hc hk5 c0 hop
          by_cases h9 : op = 9
          · by_cases hen : EN
            · subst h9
              go_wp2_with fail
              clear p0 p1 p2 p3 p4
              go_region_held3 (fun wx => wx.cell? ⟨w.heap.size, 0, none⟩ = some (.slice ga x.globals.length gc) ∧ wx.cell? ⟨w.heap.size, 1, none⟩ = some (.slice la x.locks.length lc) ∧ wx.cell? ⟨w.heap.size, 2, none⟩ = some (.slice pa x.procs.length pc) ∧ wx.cell? ⟨w.heap.size, 3, none⟩ = some (.slice ea x.entry.length ec) ∧ wx.cell? ⟨w.heap.size, 4, none⟩ = some (.slice (some ⟨g, o, none⟩) n ic) ∧ wx.cell? ⟨g, o + k * 7, none⟩ = some (.int .i64 9) ∧ Below wr.heap.size wr wx)
                (exact KS.out _ (by assumption))
                (first
                | (go_at_call 148; (with_reducible refine (CP.out _ (by assumption)).mono ?_); rintro e w1 ⟨p, rfl, hp, b1⟩; have HP := Lib.hid hp; clear hp)
                | (go_at_call 147; (with_reducible refine (CE.out _ _ HP.out.lt (by assumption)).mono ?_); rintro e w2 ⟨z2, rfl, hz2, b2⟩; have hq2 := (HQ.out _ z2 HP.out hz2).2 hen; clear hz2; subst hq2))
              all_goals
                have HY := Lib.hid (HYE.out (by simp [hen]))
                have HB2 := Lib.hid (hbe.out.trans (b2.mono hbe.out.size))
                have HX2 := Lib.hid (hbx.out.keep (keeps_below b2))
                clear b1 b2
                go_wp2_with fail
                go_roundw
                case rel => exact ⟨k + 1, by omega, by go_num, HY.out, HX2.out, HB2.out⟩
                case measure => simp [intOf]; omega
            · subst h9
              go_wp2_with fail
              clear p0 p1 p2 p3 p4
              go_region_held3 (fun wx => wx.cell? ⟨w.heap.size, 0, none⟩ = some (.slice ga x.globals.length gc) ∧ wx.cell? ⟨w.heap.size, 1, none⟩ = some (.slice la x.locks.length lc) ∧ wx.cell? ⟨w.heap.size, 2, none⟩ = some (.slice pa x.procs.length pc) ∧ wx.cell? ⟨w.heap.size, 3, none⟩ = some (.slice ea x.entry.length ec) ∧ wx.cell? ⟨w.heap.size, 4, none⟩ = some (.slice (some ⟨g, o, none⟩) n ic) ∧ wx.cell? ⟨g, o + k * 7, none⟩ = some (.int .i64 9) ∧ Below wr.heap.size wr wx)
                (exact KS.out _ (by assumption))
                (first
                | (go_at_call 148; (with_reducible refine (CP.out _ (by assumption)).mono ?_); rintro e w1 ⟨p, rfl, hp, b1⟩; have HP := Lib.hid hp; clear hp)
                | (go_at_call 147; (with_reducible refine (CE.out _ _ HP.out.lt (by assumption)).mono ?_); rintro e w2 ⟨z2, rfl, hz2, b2⟩; have hq2 : ¬ z2 = (k : Int) := fun h => hen ((HQ.out _ z2 HP.out hz2).1 h); clear hz2; have hq3 := ne_true hq2; clear hq2))
              all_goals
                have HF : Hid (rr = false) := HNE.out (by simp [hen])
                have HB2 := Lib.hid (hbe.out.trans (b2.mono hbe.out.size))
                clear b1 b2
                go_wp2_with fail
                go_ret
                exact ⟨ret_b (by rw [HF.out]), HB2.out⟩
          · by_cases hen : EN
            · have h91 := ne_true h9
              go_wp2_with fail
              clear p0 p1 p2 p3 p4
              go_region_held3 (fun wx => wx.cell? ⟨w.heap.size, 0, none⟩ = some (.slice ga x.globals.length gc) ∧ wx.cell? ⟨w.heap.size, 1, none⟩ = some (.slice la x.locks.length lc) ∧ wx.cell? ⟨w.heap.size, 2, none⟩ = some (.slice pa x.procs.length pc) ∧ wx.cell? ⟨w.heap.size, 3, none⟩ = some (.slice ea x.entry.length ec) ∧ wx.cell? ⟨w.heap.size, 4, none⟩ = some (.slice (some ⟨g, o, none⟩) n ic) ∧ wx.cell? ⟨g, o + k * 7, none⟩ = some (.int .i64 op) ∧ Below wr.heap.size wr wx)
                (exact KS.out _ (by assumption))
                (first
                | (go_at_call 148; (with_reducible refine (CP.out _ (by assumption)).mono ?_); rintro e w1 ⟨p, rfl, hp, b1⟩; have HP := Lib.hid hp; clear hp)
                | (go_at_call 147; (with_reducible refine (CE.out _ _ HP.out.lt (by assumption)).mono ?_); rintro e w2 ⟨z2, rfl, hz2, b2⟩; have hq2 := (HQ.out _ z2 HP.out hz2).2 hen; clear hz2; subst hq2))
              all_goals
                have HF : Hid (rr = false) := HNE.out (by simp [h9, hen])
                have HB2 := Lib.hid (hbe.out.trans (b2.mono hbe.out.size))
                clear b1 b2
                go_wp2_with fail
                go_ret
                exact ⟨ret_b (by rw [HF.out]), HB2.out⟩
            · have h91 := ne_true h9
              go_wp2_with fail
              clear p0 p1 p2 p3 p4
              go_region_held3 (fun wx => wx.cell? ⟨w.heap.size, 0, none⟩ = some (.slice ga x.globals.length gc) ∧ wx.cell? ⟨w.heap.size, 1, none⟩ = some (.slice la x.locks.length lc) ∧ wx.cell? ⟨w.heap.size, 2, none⟩ = some (.slice pa x.procs.length pc) ∧ wx.cell? ⟨w.heap.size, 3, none⟩ = some (.slice ea x.entry.length ec) ∧ wx.cell? ⟨w.heap.size, 4, none⟩ = some (.slice (some ⟨g, o, none⟩) n ic) ∧ wx.cell? ⟨g, o + k * 7, none⟩ = some (.int .i64 op) ∧ Below wr.heap.size wr wx)
                (exact KS.out _ (by assumption))
                (first
                | (go_at_call 148; (with_reducible refine (CP.out _ (by assumption)).mono ?_); rintro e w1 ⟨p, rfl, hp, b1⟩; have HP := Lib.hid hp; clear hp)
                | (go_at_call 147; (with_reducible refine (CE.out _ _ HP.out.lt (by assumption)).mono ?_); rintro e w2 ⟨z2, rfl, hz2, b2⟩; have hq2 : ¬ z2 = (k : Int) := fun h => hen ((HQ.out _ z2 HP.out hz2).1 h); clear hz2; have hq3 := ne_true hq2; clear hq2))
              all_goals
                have HY := Lib.hid (HYE.out (by simp [h9, hen]))
                have HB2 := Lib.hid (hbe.out.trans (b2.mono hbe.out.size))
                have HX2 := Lib.hid (hbx.out.keep (keeps_below b2))
                clear b1 b2
                go_wp2_with fail
                go_roundw
                case rel => exact ⟨k + 1, by omega, by go_num, HY.out, HX2.out, HB2.out⟩
                case measure => simp [intOf]; omega
        · have HF : Hid (rr = true) := HT.out HRIS.out (fun q hq => hiff.out q hq (by have := HNL.out; omega))
          go_wp2_with fail
          go_ret
          exact ⟨ret_b (by rw [HF.out]), hbe.out⟩
end Go.Proofs.YtmhhghdfgdhljaaGreatDoor.Trm
/- The model's l08Ins, walked. Conditions: the code lies in memory, its entries and ends as they should be. -/
namespace Go.Proofs.YtmhhghdfgdhljaaGreatDoor.Trm
open Go.RowKit Own
theorem readsIn_dropS {gs ss : List ByteArray} {i : Nat} (h : i < ss.length) : readsIn gs (ss.drop i) = (@decide (ss[i] ∈ gs) (Classical.propDecidable _) && readsIn gs (ss.drop (i + 1))) := by
  unfold readsIn
  rw [List.drop_eq_getElem_cons h, List.all_cons]
theorem readsIn_endS {gs ss : List ByteArray} {i : Nat} (h : ss.length ≤ i) : readsIn gs (ss.drop i) = true := by
  unfold readsIn; rw [List.drop_of_length_le h]; rfl
theorem toB_in {es : List Int} {n i p : Nat} {to : Int} (hr : Ris es n) (hp : IsP es i p) : (es[p]'hp.lt ≤ to ∧ to ≤ endI es n p) ↔ toB es n i to = true := by
  have hd : toB es n i to = true ↔ (to < (n : Int) ∧ ∃ p, IsP es (i : Int) p ∧ IsP es to p) := by unfold toB; simp only [decide_eq_true_eq]
  rw [hd]
  unfold endI
  constructor
  · rintro ⟨h1, h2⟩
    split at h2
    · rename_i h3
      have := hr.below h3
      exact ⟨by omega, p, hp, hp.lt, h1, fun _ => by omega⟩
    · rename_i h3
      exact ⟨by omega, p, hp, hp.lt, h1, fun h4 => absurd h4 h3⟩
  · rintro ⟨h1, q, hq, hq2⟩
    obtain rfl := hp.uni hr hq
    obtain ⟨h2, h3, h4⟩ := hq2
    refine ⟨h3, ?_⟩
    split
    · rename_i h5
      have := h4 h5
      omega
    · omega
set_option maxRecDepth 20000 in
set_option maxHeartbeats 3200000 in
theorem specIns_bad (x : KTree) (i : Nat) (a u : Int) (t : Tree) (ga la pa ea ta : Option Addr) (g o gc lc pc ec ic n tc : Nat) (w : World) (hi : i < n) (_ : n ≤ 9223372036854775807) (_ : NamesAt w x.globals (.slice ga x.globals.length gc)) (_ : NamesAt w x.locks (.slice la x.locks.length lc)) (_ : NamesAt w x.procs (.slice pa x.procs.length pc)) (_ : IntsAt w x.entry (.slice ea x.entry.length ec)) (_ : Ris x.entry n) (_ : szT t ≤ 1048576)
    (_ : Lies w t (.agg #[.int .i64 t.kind, .int .i64 t.num, .string t.name, .slice ta t.kids.length tc])) (k : Int) (hk : ¬ (1 ≤ k ∧ k ≤ 9)) (c0 : w.cell? ⟨g, o + i * 7, none⟩ = some (.int .i64 k)) (c1 : w.cell? ⟨g, o + i * 7 + 1, none⟩ = some (.int .i64 a)) (c2 : w.cell? ⟨g, o + i * 7 + 2, none⟩ = some (.int .i64 t.kind)) (c3 : w.cell? ⟨g, o + i * 7 + 3, none⟩ = some (.int .i64 t.num)) (c4 : w.cell? ⟨g, o + i * 7 + 4, none⟩ = some (.string t.name)) (c5 : w.cell? ⟨g, o + i * 7 + 5, none⟩ = some (.slice ta t.kids.length tc)) (c6 : w.cell? ⟨g, o + i * 7 + 6, none⟩ = some (.int .i64 u)) :
    Calls Tryz.prog 103 #[.agg #[.slice ga x.globals.length gc, .slice la x.locks.length lc, .slice pa x.procs.length pc, .slice ea x.entry.length ec, .slice (some ⟨g, o, none⟩) n ic], .int .i64 (i : Int)] w fun e w' => e = .returned (.bool (false)) ∧ Below w.heap.size w w' := by
  obtain ⟨W1, hW1⟩ : ∃ W, W = (w.alloc (.cells #[.slice ga x.globals.length gc, .slice la x.locks.length lc, .slice pa x.procs.length pc, .slice ea x.entry.length ec, .slice (some ⟨g, o, none⟩) n ic] 32)).alloc (.cells #[.int .i64 k, .int .i64 a, .int .i64 t.kind, .int .i64 t.num, .string t.name, .slice ta t.kids.length tc, .int .i64 u] 45) := ⟨_, rfl⟩
  have hs1 : (w.alloc (.cells #[.slice ga x.globals.length gc, .slice la x.locks.length lc, .slice pa x.procs.length pc, .slice ea x.entry.length ec, .slice (some ⟨g, o, none⟩) n ic] 32)).heap.size = w.heap.size + 1 := by simp
  have b1 : Below w.heap.size w W1 := by rw [hW1]; exact ((Below.refl w.heap.size w).alloc (Nat.le_refl _) _).alloc (by simp) _
  have X1 := Lib.hid ((Box7.new (w.alloc (.cells #[.slice ga x.globals.length gc, .slice la x.locks.length lc, .slice pa x.procs.length pc, .slice ea x.entry.length ec, .slice (some ⟨g, o, none⟩) n ic] 32)) (.int .i64 k) (.int .i64 a) (.int .i64 t.kind) (.int .i64 t.num) (.string t.name) (.slice ta t.kids.length tc) (.int .i64 u) 45))
  have Y1 := Lib.hid ((Box5.new w (.slice ga x.globals.length gc) (.slice la x.locks.length lc) (.slice pa x.procs.length pc) (.slice ea x.entry.length ec) (.slice (some ⟨g, o, none⟩) n ic) 32).keep (keeps_alloc _ (.cells #[.int .i64 k, .int .i64 a, .int .i64 t.kind, .int .i64 t.num, .string t.name, .slice ta t.kids.length tc, .int .i64 u] 45)))
  rw [← hW1, hs1] at X1
  rw [← hW1] at Y1
  have B1 := Lib.hid b1
  have HW1 := Lib.hid hW1
  have k0 := keeps_alloc w (.cells #[.slice ga x.globals.length gc, .slice la x.locks.length lc, .slice pa x.procs.length pc, .slice ea x.entry.length ec, .slice (some ⟨g, o, none⟩) n ic] 32)
  replace c0 := k0 _ _ c0
  replace c1 := k0 _ _ c1
  replace c2 := k0 _ _ c2
  replace c3 := k0 _ _ c3
  replace c4 := k0 _ _ c4
  replace c5 := k0 _ _ c5
  replace c6 := k0 _ _ c6
  have h1 := ne_true (k := k) (x := 1) (by omega)
  have h6 := ne_true (k := k) (x := 6) (by omega)
  have h7 := ne_true (k := k) (x := 7) (by omega)
  have h4 := ne_true (k := k) (x := 4) (by omega)
  have h5 := ne_true (k := k) (x := 5) (by omega)
  have hno : k < 1 ∨ 9 < k := by omega
  clear hW1 hs1 b1 k0
  go_enter Tryz.func103, Tryz.ntmps103
  go_wp2_with fail
  rw [← HW1.out]
  clear c0 c1 c2 c3 c4 c5 c6
  refine (in_no _ _ _ _ hno).mono ?_
  rintro e w2 ⟨rfl, rfl⟩
  go_wp2_with fail
  go_ret
  exact ⟨rfl, B1.out⟩
set_option maxRecDepth 20000 in
set_option maxHeartbeats 3200000 in
theorem specIns_set (x : KTree) (i : Nat) (a u : Int) (t : Tree) (ga la pa ea ta : Option Addr) (g o gc lc pc ec ic n tc : Nat) (w : World) (hi : i < n) (_ : n ≤ 9223372036854775807) (hgl : NamesAt w x.globals (.slice ga x.globals.length gc)) (hlk : NamesAt w x.locks (.slice la x.locks.length lc)) (hpr : NamesAt w x.procs (.slice pa x.procs.length pc)) (_ : IntsAt w x.entry (.slice ea x.entry.length ec)) (_ : Ris x.entry n) (hz : szT t ≤ 1048576)
    (hy : Lies w t (.agg #[.int .i64 t.kind, .int .i64 t.num, .string t.name, .slice ta t.kids.length tc])) (c0 : w.cell? ⟨g, o + i * 7, none⟩ = some (.int .i64 1)) (c1 : w.cell? ⟨g, o + i * 7 + 1, none⟩ = some (.int .i64 a)) (c2 : w.cell? ⟨g, o + i * 7 + 2, none⟩ = some (.int .i64 t.kind)) (c3 : w.cell? ⟨g, o + i * 7 + 3, none⟩ = some (.int .i64 t.num)) (c4 : w.cell? ⟨g, o + i * 7 + 4, none⟩ = some (.string t.name)) (c5 : w.cell? ⟨g, o + i * 7 + 5, none⟩ = some (.slice ta t.kids.length tc)) (c6 : w.cell? ⟨g, o + i * 7 + 6, none⟩ = some (.int .i64 u)) :
    Calls Tryz.prog 103 #[.agg #[.slice ga x.globals.length gc, .slice la x.locks.length lc, .slice pa x.procs.length pc, .slice ea x.entry.length ec, .slice (some ⟨g, o, none⟩) n ic], .int .i64 (i : Int)] w fun e w' => e = .returned (.bool ((decide (0 ≤ a ∧ a ≤ ((x.globals.length : Int) - 1)) && ((okB t && readsIn x.globals (readsOfT t)) && decide (u = 0))))) ∧ Below w.heap.size w w' := by
  obtain ⟨W1, hW1⟩ : ∃ W, W = (w.alloc (.cells #[.slice ga x.globals.length gc, .slice la x.locks.length lc, .slice pa x.procs.length pc, .slice ea x.entry.length ec, .slice (some ⟨g, o, none⟩) n ic] 32)).alloc (.cells #[.int .i64 1, .int .i64 a, .int .i64 t.kind, .int .i64 t.num, .string t.name, .slice ta t.kids.length tc, .int .i64 u] 45) := ⟨_, rfl⟩
  have hs1 : (w.alloc (.cells #[.slice ga x.globals.length gc, .slice la x.locks.length lc, .slice pa x.procs.length pc, .slice ea x.entry.length ec, .slice (some ⟨g, o, none⟩) n ic] 32)).heap.size = w.heap.size + 1 := by simp
  have b1 : Below w.heap.size w W1 := by rw [hW1]; exact ((Below.refl w.heap.size w).alloc (Nat.le_refl _) _).alloc (by simp) _
  have X1 := Lib.hid ((Box7.new (w.alloc (.cells #[.slice ga x.globals.length gc, .slice la x.locks.length lc, .slice pa x.procs.length pc, .slice ea x.entry.length ec, .slice (some ⟨g, o, none⟩) n ic] 32)) (.int .i64 1) (.int .i64 a) (.int .i64 t.kind) (.int .i64 t.num) (.string t.name) (.slice ta t.kids.length tc) (.int .i64 u) 45))
  have Y1 := Lib.hid ((Box5.new w (.slice ga x.globals.length gc) (.slice la x.locks.length lc) (.slice pa x.procs.length pc) (.slice ea x.entry.length ec) (.slice (some ⟨g, o, none⟩) n ic) 32).keep (keeps_alloc _ (.cells #[.int .i64 1, .int .i64 a, .int .i64 t.kind, .int .i64 t.num, .string t.name, .slice ta t.kids.length tc, .int .i64 u] 45)))
  rw [← hW1, hs1] at X1
  rw [← hW1] at Y1
  have B1 := Lib.hid b1
  have HW1 := Lib.hid hW1
  have k0 := keeps_alloc w (.cells #[.slice ga x.globals.length gc, .slice la x.locks.length lc, .slice pa x.procs.length pc, .slice ea x.entry.length ec, .slice (some ⟨g, o, none⟩) n ic] 32)
  replace c0 := k0 _ _ c0
  replace c1 := k0 _ _ c1
  replace c2 := k0 _ _ c2
  replace c3 := k0 _ _ c3
  replace c4 := k0 _ _ c4
  replace c5 := k0 _ _ c5
  replace c6 := k0 _ _ c6
  have CO := Lib.hid (fun wx (hb : Below w.heap.size w wx) => specTermOk_any t _ wx (hy.keep (keeps_below hb)))
  have CR := Lib.hid (fun wx (hb : Below w.heap.size w wx) => specReadsOf_any t _ wx (hy.keep (keeps_below hb)) hz)
  have CPL := Lib.hid (fun s wx (hb : Below w.heap.size w wx) => specPlace_any x.globals s _ wx (hgl.1.keep (keeps_below hb)))
  obtain ⟨tb, htb⟩ : ∃ b, okB t = b := ⟨_, rfl⟩
  obtain ⟨rs, hrs⟩ : ∃ rs, readsOfT t = rs := ⟨_, rfl⟩
  rw [htb] at CO
  rw [hrs] at CR
  obtain ⟨rr, hrr⟩ : ∃ b, b = (decide (0 ≤ a ∧ a ≤ ((x.globals.length : Int) - 1)) && ((tb && readsIn x.globals rs) && decide (u = 0))) := ⟨_, rfl⟩
  rw [htb, hrs, ← hrr]
  clear htb hrs
  have HRR := Lib.hid hrr
  clear hrr
  have hgp := hgl.1
  have hlp := hlk.1
  have hpp := hpr.1
  have hg0 : x.globals.length ≤ 9223372036854775807 := by obtain ⟨_, _, _, h, _⟩ := hgp; exact h
  have hl0 : x.locks.length ≤ 9223372036854775807 := by obtain ⟨_, _, _, h, _⟩ := hlp; exact h
  have hp0 : x.procs.length ≤ 9223372036854775807 := by obtain ⟨_, _, _, h, _⟩ := hpp; exact h
  clear hgp hlp hpp
  clear hgl hlk hpr hy hz hW1 hs1 b1 k0
  go_enter Tryz.func103, Tryz.ntmps103
  go_wp2_with fail
  rw [← HW1.out]
  clear c0 c1 c2 c3 c4 c5 c6
  obtain ⟨p0, p1, p2, p3, p4⟩ := Y1.out
  obtain ⟨q0, q1, q2, q3, q4, q5, q6⟩ := X1.out
  refine (in_yes _ _ _ _ (by omega) (by omega)).mono ?_
  rintro e w2 ⟨rfl, rfl⟩
  go_wp2_with fail
  by_cases ha : 0 ≤ a ∧ a ≤ ((x.globals.length : Int) - 1)
  rotate_left
  · refine (in_no _ _ _ _ (by omega)).mono ?_
    rintro e w2 ⟨rfl, rfl⟩
    go_wp2_with fail
    go_ret
    exact ⟨ret_b (by rw [HRR.out, decide_eq_false ha]; rfl), B1.out⟩
  refine (in_yes _ _ _ _ ha.1 ha.2).mono ?_
  rintro e w2 ⟨rfl, rfl⟩
  have HA : Hid (decide (0 ≤ a ∧ a ≤ ((x.globals.length : Int) - 1)) = true) := decide_eq_true ha
  clear ha
  go_wp2_with fail
  refine (CO.out _ B1.out).mono ?_
  rintro e w3 ⟨rfl, hb⟩
  have B3 := Lib.hid (B1.out.trans (hb.mono B1.out.size))
  have X3 := Lib.hid (X1.out.keep (keeps_below hb))
  have Y3 := Lib.hid (Y1.out.keep (keeps_below hb))
  clear hb p0 p1 p2 p3 p4 q0 q1 q2 q3 q4 q5 q6
  obtain ⟨p0, p1, p2, p3, p4⟩ := Y3.out
  obtain ⟨q0, q1, q2, q3, q4, q5, q6⟩ := X3.out
  cases tb with
  | false =>
    go_wp2_with fail
    go_ret
    exact ⟨ret_b (by rw [HRR.out, HA.out]; rfl), B3.out⟩
  | true =>
    go_wp2_with fail
    refine (CR.out _ B3.out).mono ?_
    rintro e w4 ⟨ov, rfl, hrow, hb⟩
    obtain ⟨oa, oc, rfl, hoa⟩ := row_shape hrow
    have HOA := Lib.hid hoa
    have HROW := Lib.hid hrow
    have B4 := Lib.hid (B3.out.trans (hb.mono B3.out.size))
    have X4 := Lib.hid (X3.out.keep (keeps_below hb))
    have Y4 := Lib.hid (Y3.out.keep (keeps_below hb))
    have hsm := row_small hrow
    unfold maxLen at hsm
    clear hb hrow hoa p0 p1 p2 p3 p4 q0 q1 q2 q3 q4 q5 q6
    obtain ⟨rb, hrb⟩ : ∃ b, readsIn x.globals rs = b := ⟨_, rfl⟩
    rw [hrb] at HRR
    have HRB : Hid (rb = readsIn x.globals (rs.drop 0)) := hrb.symm
    clear hrb
    go_wp2_with fail
    go_loopw [8] (fun i wr => ∃ (j : Nat), j ≤ rs.length ∧ i = .int .i64 j ∧ Hid (rb = readsIn x.globals (rs.drop j)) ∧ Hid (Below w4.heap.size w4 wr))
      (fun i _ => rs.length - (intOf i).toNat)
    case atStart => exact ⟨0, Nat.zero_le _, rfl, HRB.out, Below.refl _ _⟩
    case round =>
      obtain ⟨j, hj, rfl, hrr, hbw⟩ := hrel
      have BW := Lib.hid (B4.out.trans (hbw.out.mono B4.out.size))
      have XW := Lib.hid (X4.out.keep (keeps_below hbw.out))
      have YW := Lib.hid (Y4.out.keep (keeps_below hbw.out))
      by_cases hlt : j < rs.length
      · obtain ⟨g3, rfl⟩ := HOA.out (by omega)
        have c0 := keeps_below hbw.out _ _ (row_cell HROW.out j hlt)
        have hd := readsIn_dropS (gs := x.globals) hlt
        obtain ⟨s, hs⟩ : ∃ s, s = rs[j] := ⟨_, rfl⟩
        rw [← hs] at c0 hd
        have CP2 : Hid (∀ wx, Below wr.heap.size wr wx → Calls Tryz.prog 88 #[.slice ga x.globals.length gc, .string s] wx fun e w' => ∃ z, e = .returned (.int .i64 z) ∧ IdxI x.globals s z ∧ wx = w') := fun wx hb2 => CPL.out s wx (BW.out.trans (hb2.mono BW.out.size))
        have b0 : Below wr.heap.size wr wr.drew := (Below.refl _ _).drew
        have KS : Hid (∀ wx, Below wr.heap.size wr wx → wx.cell? ⟨w.heap.size, 0, none⟩ = some (.slice ga x.globals.length gc) ∧ wx.cell? ⟨g3, j, none⟩ = some (.string s) ∧ Below wr.heap.size wr wx) := fun wx hb2 => by
          obtain ⟨r0, _⟩ := YW.out.keep (keeps_below hb2)
          exact ⟨r0, keeps_below hb2 _ _ c0, hb2⟩
        obtain ⟨p0, p1, p2, p3, p4⟩ := YW.out
        by_cases hm : s ∈ x.globals
        · have HS : Hid (rb = readsIn x.globals (rs.drop (j + 1))) := by show _ = _; rw [hrr.out, hd]; simp [hm]
          have HX : Hid (∀ z, IdxI x.globals s z → ¬ z < 0) := fun z hz h => (idxI_neg hz).1 h hm
          clear hd hs hm
          go_wp2_with fail
          clear p0 p1 p2 p3 p4 c0
          go_region_held3 (fun wx => wx.cell? ⟨w.heap.size, 0, none⟩ = some (.slice ga x.globals.length gc) ∧ wx.cell? ⟨g3, j, none⟩ = some (.string s) ∧ Below wr.heap.size wr wx)
            (exact KS.out _ (by assumption))
            (first
            | (go_at_call 88; (with_reducible refine (CP2.out _ (by assumption)).mono ?_); rintro e w5 ⟨z, rfl, hz, rfl⟩; have hz0 := HX.out z hz; clear hz))
          all_goals
            go_wp2_with fail
            go_roundw
            case rel => exact ⟨j + 1, by omega, by go_num, HS, hbw.out.drew⟩
            case measure => simp [intOf]; omega
        · have HF : Hid (rb = false) := by show _ = _; rw [hrr.out, hd]; simp [hm]
          have HX : Hid (∀ z, IdxI x.globals s z → z < 0) := fun z hz => (idxI_neg hz).2 hm
          clear hd hs hm
          go_wp2_with fail
          clear p0 p1 p2 p3 p4 c0
          go_region_held3 (fun wx => wx.cell? ⟨w.heap.size, 0, none⟩ = some (.slice ga x.globals.length gc) ∧ wx.cell? ⟨g3, j, none⟩ = some (.string s) ∧ Below wr.heap.size wr wx)
            (exact KS.out _ (by assumption))
            (first
            | (go_at_call 88; (with_reducible refine (CP2.out _ (by assumption)).mono ?_); rintro e w5 ⟨z, rfl, hz, rfl⟩; have hz0 := HX.out z hz; clear hz))
          all_goals
            go_wp2_with fail
            go_ret
            exact ⟨ret_b (by rw [HRR.out, HA.out, HF.out]; rfl), BW.out.drew⟩
      · have HF : Hid (rb = true) := by show _ = _; rw [hrr.out, readsIn_endS (by omega)]
        obtain ⟨p0, p1, p2, p3, p4⟩ := YW.out
        obtain ⟨q0, q1, q2, q3, q4, q5, q6⟩ := XW.out
        obtain ⟨w6, hw6⟩ : ∃ w0, w0 = wr := ⟨_, rfl⟩
        subst hw6
        go_wp2_with fail
        by_cases hu : u = 0
        · go_wp2_with fail
          go_ret
          exact ⟨ret_b (by rw [HRR.out, HA.out, HF.out, decide_eq_true hu]; simp [hu]), BW.out⟩
        · have hu2 := ne_true hu
          have HU : Hid (decide (u = 0) = false) := decide_eq_false hu
          clear hu
          go_wp2_with fail
          go_ret
          exact ⟨ret_b (by rw [HRR.out, HA.out, HF.out, HU.out]; simp [hu2]), BW.out⟩
set_option maxRecDepth 20000 in
set_option maxHeartbeats 3200000 in
theorem specIns_test (x : KTree) (i : Nat) (a u : Int) (t : Tree) (ga la pa ea ta : Option Addr) (g o gc lc pc ec ic n tc : Nat) (w : World) (hi : i < n) (hn : n ≤ 9223372036854775807) (hgl : NamesAt w x.globals (.slice ga x.globals.length gc)) (hlk : NamesAt w x.locks (.slice la x.locks.length lc)) (hpr : NamesAt w x.procs (.slice pa x.procs.length pc)) (he : IntsAt w x.entry (.slice ea x.entry.length ec)) (hr : Ris x.entry n) (hz : szT t ≤ 1048576)
    (hy : Lies w t (.agg #[.int .i64 t.kind, .int .i64 t.num, .string t.name, .slice ta t.kids.length tc])) (c0 : w.cell? ⟨g, o + i * 7, none⟩ = some (.int .i64 2)) (c1 : w.cell? ⟨g, o + i * 7 + 1, none⟩ = some (.int .i64 a)) (c2 : w.cell? ⟨g, o + i * 7 + 2, none⟩ = some (.int .i64 t.kind)) (c3 : w.cell? ⟨g, o + i * 7 + 3, none⟩ = some (.int .i64 t.num)) (c4 : w.cell? ⟨g, o + i * 7 + 4, none⟩ = some (.string t.name)) (c5 : w.cell? ⟨g, o + i * 7 + 5, none⟩ = some (.slice ta t.kids.length tc)) (c6 : w.cell? ⟨g, o + i * 7 + 6, none⟩ = some (.int .i64 u)) :
    Calls Tryz.prog 103 #[.agg #[.slice ga x.globals.length gc, .slice la x.locks.length lc, .slice pa x.procs.length pc, .slice ea x.entry.length ec, .slice (some ⟨g, o, none⟩) n ic], .int .i64 (i : Int)] w fun e w' => e = .returned (.bool ((decide (0 ≤ a ∧ a ≤ 0) && ((okB t && readsIn x.globals (readsOfT t)) && toB x.entry n i u)))) ∧ Below w.heap.size w w' := by
  obtain ⟨W1, hW1⟩ : ∃ W, W = (w.alloc (.cells #[.slice ga x.globals.length gc, .slice la x.locks.length lc, .slice pa x.procs.length pc, .slice ea x.entry.length ec, .slice (some ⟨g, o, none⟩) n ic] 32)).alloc (.cells #[.int .i64 2, .int .i64 a, .int .i64 t.kind, .int .i64 t.num, .string t.name, .slice ta t.kids.length tc, .int .i64 u] 45) := ⟨_, rfl⟩
  have hs1 : (w.alloc (.cells #[.slice ga x.globals.length gc, .slice la x.locks.length lc, .slice pa x.procs.length pc, .slice ea x.entry.length ec, .slice (some ⟨g, o, none⟩) n ic] 32)).heap.size = w.heap.size + 1 := by simp
  have b1 : Below w.heap.size w W1 := by rw [hW1]; exact ((Below.refl w.heap.size w).alloc (Nat.le_refl _) _).alloc (by simp) _
  have X1 := Lib.hid ((Box7.new (w.alloc (.cells #[.slice ga x.globals.length gc, .slice la x.locks.length lc, .slice pa x.procs.length pc, .slice ea x.entry.length ec, .slice (some ⟨g, o, none⟩) n ic] 32)) (.int .i64 2) (.int .i64 a) (.int .i64 t.kind) (.int .i64 t.num) (.string t.name) (.slice ta t.kids.length tc) (.int .i64 u) 45))
  have Y1 := Lib.hid ((Box5.new w (.slice ga x.globals.length gc) (.slice la x.locks.length lc) (.slice pa x.procs.length pc) (.slice ea x.entry.length ec) (.slice (some ⟨g, o, none⟩) n ic) 32).keep (keeps_alloc _ (.cells #[.int .i64 2, .int .i64 a, .int .i64 t.kind, .int .i64 t.num, .string t.name, .slice ta t.kids.length tc, .int .i64 u] 45)))
  rw [← hW1, hs1] at X1
  rw [← hW1] at Y1
  have B1 := Lib.hid b1
  have HW1 := Lib.hid hW1
  have k0 := keeps_alloc w (.cells #[.slice ga x.globals.length gc, .slice la x.locks.length lc, .slice pa x.procs.length pc, .slice ea x.entry.length ec, .slice (some ⟨g, o, none⟩) n ic] 32)
  replace c0 := k0 _ _ c0
  replace c1 := k0 _ _ c1
  replace c2 := k0 _ _ c2
  replace c3 := k0 _ _ c3
  replace c4 := k0 _ _ c4
  replace c5 := k0 _ _ c5
  replace c6 := k0 _ _ c6
  have CO := Lib.hid (fun wx (hb : Below w.heap.size w wx) => specTermOk_any t _ wx (hy.keep (keeps_below hb)))
  have CR := Lib.hid (fun wx (hb : Below w.heap.size w wx) => specReadsOf_any t _ wx (hy.keep (keeps_below hb)) hz)
  have CPL := Lib.hid (fun s wx (hb : Below w.heap.size w wx) => specPlace_any x.globals s _ wx (hgl.1.keep (keeps_below hb)))
  have CP := Lib.hid (fun wx (hb : Below w.heap.size w wx) => specKProc_any x.entry (.slice ga x.globals.length gc) (.slice la x.locks.length lc) (.slice pa x.procs.length pc) (.slice (some ⟨g, o, none⟩) n ic) ea ec n (i : Int) wx (he.keep (keeps_below hb)) hr (by omega))
  have CE := Lib.hid (fun p wx hp (hb : Below w.heap.size w wx) => specKEnd_any x.entry (.slice ga x.globals.length gc) (.slice la x.locks.length lc) (.slice pa x.procs.length pc) ea (some ⟨g, o, none⟩) ec n ic p wx (he.keep (keeps_below hb)) hr hp hn)
  have HTO := Lib.hid (fun p hp => toB_in (es := x.entry) (n := n) (i := i) (p := p) (to := u) hr hp)
  have HENT := Lib.hid (fun wx (hb : Below w.heap.size w wx) => he.keep (keeps_below hb))
  obtain ⟨ob, hob⟩ : ∃ b, toB x.entry n i u = b := ⟨_, rfl⟩
  rw [hob] at HTO
  obtain ⟨tb, htb⟩ : ∃ b, okB t = b := ⟨_, rfl⟩
  obtain ⟨rs, hrs⟩ : ∃ rs, readsOfT t = rs := ⟨_, rfl⟩
  rw [htb] at CO
  rw [hrs] at CR
  obtain ⟨rr, hrr⟩ : ∃ b, b = (decide (0 ≤ a ∧ a ≤ 0) && ((tb && readsIn x.globals rs) && ob)) := ⟨_, rfl⟩
  rw [hob, htb, hrs, ← hrr]
  clear htb hrs hob
  have HRR := Lib.hid hrr
  clear hrr
  have hgp := hgl.1
  have hlp := hlk.1
  have hpp := hpr.1
  have hg0 : x.globals.length ≤ 9223372036854775807 := by obtain ⟨_, _, _, h, _⟩ := hgp; exact h
  have hl0 : x.locks.length ≤ 9223372036854775807 := by obtain ⟨_, _, _, h, _⟩ := hlp; exact h
  have hp0 : x.procs.length ≤ 9223372036854775807 := by obtain ⟨_, _, _, h, _⟩ := hpp; exact h
  clear hgp hlp hpp
  clear hgl hlk hpr hy he hr hz hW1 hs1 b1 k0
  go_enter Tryz.func103, Tryz.ntmps103
  go_wp2_with fail
  rw [← HW1.out]
  clear c0 c1 c2 c3 c4 c5 c6
  obtain ⟨p0, p1, p2, p3, p4⟩ := Y1.out
  obtain ⟨q0, q1, q2, q3, q4, q5, q6⟩ := X1.out
  refine (in_yes _ _ _ _ (by omega) (by omega)).mono ?_
  rintro e w2 ⟨rfl, rfl⟩
  go_wp2_with fail
  by_cases ha : 0 ≤ a ∧ a ≤ 0
  rotate_left
  · refine (in_no _ _ _ _ (by omega)).mono ?_
    rintro e w2 ⟨rfl, rfl⟩
    go_wp2_with fail
    go_ret
    exact ⟨ret_b (by rw [HRR.out, decide_eq_false ha]; rfl), B1.out⟩
  refine (in_yes _ _ _ _ ha.1 ha.2).mono ?_
  rintro e w2 ⟨rfl, rfl⟩
  have HA : Hid (decide (0 ≤ a ∧ a ≤ 0) = true) := decide_eq_true ha
  clear ha
  go_wp2_with fail
  refine (CO.out _ B1.out).mono ?_
  rintro e w3 ⟨rfl, hb⟩
  have B3 := Lib.hid (B1.out.trans (hb.mono B1.out.size))
  have X3 := Lib.hid (X1.out.keep (keeps_below hb))
  have Y3 := Lib.hid (Y1.out.keep (keeps_below hb))
  clear hb p0 p1 p2 p3 p4 q0 q1 q2 q3 q4 q5 q6
  obtain ⟨p0, p1, p2, p3, p4⟩ := Y3.out
  obtain ⟨q0, q1, q2, q3, q4, q5, q6⟩ := X3.out
  cases tb with
  | false =>
    go_wp2_with fail
    go_ret
    exact ⟨ret_b (by rw [HRR.out, HA.out]; rfl), B3.out⟩
  | true =>
    go_wp2_with fail
    refine (CR.out _ B3.out).mono ?_
    rintro e w4 ⟨ov, rfl, hrow, hb⟩
    obtain ⟨oa, oc, rfl, hoa⟩ := row_shape hrow
    have HOA := Lib.hid hoa
    have HROW := Lib.hid hrow
    have B4 := Lib.hid (B3.out.trans (hb.mono B3.out.size))
    have X4 := Lib.hid (X3.out.keep (keeps_below hb))
    have Y4 := Lib.hid (Y3.out.keep (keeps_below hb))
    have hsm := row_small hrow
    unfold maxLen at hsm
    clear hb hrow hoa p0 p1 p2 p3 p4 q0 q1 q2 q3 q4 q5 q6
    obtain ⟨rb, hrb⟩ : ∃ b, readsIn x.globals rs = b := ⟨_, rfl⟩
    rw [hrb] at HRR
    have HRB : Hid (rb = readsIn x.globals (rs.drop 0)) := hrb.symm
    clear hrb
    go_wp2_with fail
    go_loopw [8] (fun i wr => ∃ (j : Nat), j ≤ rs.length ∧ i = .int .i64 j ∧ Hid (rb = readsIn x.globals (rs.drop j)) ∧ Hid (Below w4.heap.size w4 wr))
      (fun i _ => rs.length - (intOf i).toNat)
    case atStart => exact ⟨0, Nat.zero_le _, rfl, HRB.out, Below.refl _ _⟩
    case round =>
      obtain ⟨j, hj, rfl, hrr, hbw⟩ := hrel
      have BW := Lib.hid (B4.out.trans (hbw.out.mono B4.out.size))
      have XW := Lib.hid (X4.out.keep (keeps_below hbw.out))
      have YW := Lib.hid (Y4.out.keep (keeps_below hbw.out))
      by_cases hlt : j < rs.length
      · obtain ⟨g3, rfl⟩ := HOA.out (by omega)
        have c0 := keeps_below hbw.out _ _ (row_cell HROW.out j hlt)
        have hd := readsIn_dropS (gs := x.globals) hlt
        obtain ⟨s, hs⟩ : ∃ s, s = rs[j] := ⟨_, rfl⟩
        rw [← hs] at c0 hd
        have CP2 : Hid (∀ wx, Below wr.heap.size wr wx → Calls Tryz.prog 88 #[.slice ga x.globals.length gc, .string s] wx fun e w' => ∃ z, e = .returned (.int .i64 z) ∧ IdxI x.globals s z ∧ wx = w') := fun wx hb2 => CPL.out s wx (BW.out.trans (hb2.mono BW.out.size))
        have b0 : Below wr.heap.size wr wr.drew := (Below.refl _ _).drew
        have KS : Hid (∀ wx, Below wr.heap.size wr wx → wx.cell? ⟨w.heap.size, 0, none⟩ = some (.slice ga x.globals.length gc) ∧ wx.cell? ⟨g3, j, none⟩ = some (.string s) ∧ Below wr.heap.size wr wx) := fun wx hb2 => by
          obtain ⟨r0, _⟩ := YW.out.keep (keeps_below hb2)
          exact ⟨r0, keeps_below hb2 _ _ c0, hb2⟩
        obtain ⟨p0, p1, p2, p3, p4⟩ := YW.out
        by_cases hm : s ∈ x.globals
        · have HS : Hid (rb = readsIn x.globals (rs.drop (j + 1))) := by show _ = _; rw [hrr.out, hd]; simp [hm]
          have HX : Hid (∀ z, IdxI x.globals s z → ¬ z < 0) := fun z hz h => (idxI_neg hz).1 h hm
          clear hd hs hm
          go_wp2_with fail
          clear p0 p1 p2 p3 p4 c0
          go_region_held3 (fun wx => wx.cell? ⟨w.heap.size, 0, none⟩ = some (.slice ga x.globals.length gc) ∧ wx.cell? ⟨g3, j, none⟩ = some (.string s) ∧ Below wr.heap.size wr wx)
            (exact KS.out _ (by assumption))
            (first
            | (go_at_call 88; (with_reducible refine (CP2.out _ (by assumption)).mono ?_); rintro e w5 ⟨z, rfl, hz, rfl⟩; have hz0 := HX.out z hz; clear hz))
          all_goals
            go_wp2_with fail
            go_roundw
            case rel => exact ⟨j + 1, by omega, by go_num, HS, hbw.out.drew⟩
            case measure => simp [intOf]; omega
        · have HF : Hid (rb = false) := by show _ = _; rw [hrr.out, hd]; simp [hm]
          have HX : Hid (∀ z, IdxI x.globals s z → z < 0) := fun z hz => (idxI_neg hz).2 hm
          clear hd hs hm
          go_wp2_with fail
          clear p0 p1 p2 p3 p4 c0
          go_region_held3 (fun wx => wx.cell? ⟨w.heap.size, 0, none⟩ = some (.slice ga x.globals.length gc) ∧ wx.cell? ⟨g3, j, none⟩ = some (.string s) ∧ Below wr.heap.size wr wx)
            (exact KS.out _ (by assumption))
            (first
            | (go_at_call 88; (with_reducible refine (CP2.out _ (by assumption)).mono ?_); rintro e w5 ⟨z, rfl, hz, rfl⟩; have hz0 := HX.out z hz; clear hz))
          all_goals
            go_wp2_with fail
            go_ret
            exact ⟨ret_b (by rw [HRR.out, HA.out, HF.out]; rfl), BW.out.drew⟩
      · have HF : Hid (rb = true) := by show _ = _; rw [hrr.out, readsIn_endS (by omega)]
        obtain ⟨p0, p1, p2, p3, p4⟩ := YW.out
        obtain ⟨q0, q1, q2, q3, q4, q5, q6⟩ := XW.out
        obtain ⟨w6, hw6⟩ : ∃ w0, w0 = wr := ⟨_, rfl⟩
        subst hw6
        go_wp2_with fail
        refine (CP.out _ BW.out).mono ?_
        rintro e v1 ⟨pp, rfl, hpp, hb⟩
        have BP := Lib.hid (BW.out.trans (hb.mono BW.out.size))
        have XP := Lib.hid (XW.out.keep (keeps_below hb))
        have YP := Lib.hid (YW.out.keep (keeps_below hb))
        obtain ⟨a2, c2, e2, _, _, hk2⟩ := HENT.out _ BP.out
        simp at e2
        obtain ⟨rfl, rfl⟩ := e2
        have hpl := hpp.lt
        obtain ⟨g2, o2, rfl, hce⟩ := hk2 (by omega)
        have hcp := hce pp hpl
        have HQ := Lib.hid (HTO.out pp hpp)
        obtain ⟨z0, hz0⟩ : ∃ z, z = x.entry[pp] := ⟨_, rfl⟩
        rw [← hz0] at hcp HQ
        have KS : Hid (∀ wx, Below v1.heap.size v1 wx → wx.cell? ⟨w.heap.size, 0, none⟩ = some (.slice ga x.globals.length gc) ∧ wx.cell? ⟨w.heap.size, 1, none⟩ = some (.slice la x.locks.length lc) ∧ wx.cell? ⟨w.heap.size, 2, none⟩ = some (.slice pa x.procs.length pc) ∧ wx.cell? ⟨w.heap.size, 3, none⟩ = some (.slice (some ⟨g2, o2, none⟩) x.entry.length ec) ∧ wx.cell? ⟨w.heap.size, 4, none⟩ = some (.slice (some ⟨g, o, none⟩) n ic) ∧ wx.cell? ⟨w.heap.size + 1, 6, none⟩ = some (.int .i64 u) ∧ wx.cell? ⟨g2, o2 + pp, none⟩ = some (.int .i64 z0) ∧ Below v1.heap.size v1 wx) := fun wx hb2 => by
          obtain ⟨r0, r1, r2, r3, r4⟩ := YP.out.keep (keeps_below hb2)
          obtain ⟨_, _, _, _, _, _, s6⟩ := XP.out.keep (keeps_below hb2)
          exact ⟨r0, r1, r2, r3, r4, s6, keeps_below hb2 _ _ hcp, hb2⟩
        have CE2 : Hid (∀ wx, Below v1.heap.size v1 wx → Calls Tryz.prog 147 #[.agg #[.slice ga x.globals.length gc, .slice la x.locks.length lc, .slice pa x.procs.length pc, .slice (some ⟨g2, o2, none⟩) x.entry.length ec, .slice (some ⟨g, o, none⟩) n ic], .int .i64 (pp : Int)] wx fun e w' => ∃ z, e = .returned (.int .i64 z) ∧ z = endI x.entry n pp ∧ Below v1.heap.size v1 w') := fun wx hb2 =>
          (CE.out pp wx hpl (BP.out.trans (hb2.mono BP.out.size))).mono fun e w' ⟨z, he, hz, h⟩ => ⟨z, he, hz, hb2.trans (h.mono hb2.size)⟩
        have b0 : Below v1.heap.size v1 v1.drew := (Below.refl _ _).drew
        clear hb hk2 hce hcp hz0 hpp p0 p1 p2 p3 p4 q0 q1 q2 q3 q4 q5 q6
        obtain ⟨p0, p1, p2, p3, p4⟩ := YP.out
        go_wp2_with fail
        clear p0 p1 p2 p3 p4
        obtain ⟨z1, hz1⟩ : ∃ z, z = endI x.entry n pp := ⟨_, rfl⟩
        rw [← hz1] at HQ CE2
        clear hz1
        by_cases hin : z0 ≤ u ∧ u ≤ z1
        · have HO : Hid (ob = true) := HQ.out.1 hin
          go_region_held3 (fun wx => wx.cell? ⟨w.heap.size, 0, none⟩ = some (.slice ga x.globals.length gc) ∧ wx.cell? ⟨w.heap.size, 1, none⟩ = some (.slice la x.locks.length lc) ∧ wx.cell? ⟨w.heap.size, 2, none⟩ = some (.slice pa x.procs.length pc) ∧ wx.cell? ⟨w.heap.size, 3, none⟩ = some (.slice (some ⟨g2, o2, none⟩) x.entry.length ec) ∧ wx.cell? ⟨w.heap.size, 4, none⟩ = some (.slice (some ⟨g, o, none⟩) n ic) ∧ wx.cell? ⟨w.heap.size + 1, 6, none⟩ = some (.int .i64 u) ∧ wx.cell? ⟨g2, o2 + pp, none⟩ = some (.int .i64 z0) ∧ Below v1.heap.size v1 wx)
            (exact KS.out _ (by assumption))
            (first
            | (go_at_call 147; (with_reducible refine (CE2.out _ (by assumption)).mono ?_); rintro e v2 ⟨z2, rfl, hz2, bz⟩; subst hz2)
            | (go_at_call 49; (with_reducible refine (in_yes _ _ _ _ hin.1 hin.2).mono ?_); rintro e v3 ⟨rfl, rfl⟩))
          all_goals
            have BZ := Lib.hid (BP.out.trans (bz.mono BP.out.size))
            clear bz
            go_wp2_with fail
            go_ret
            exact ⟨ret_b (by rw [HRR.out, HA.out, HF.out, HO.out]; rfl), BZ.out⟩
        · have HO : Hid (ob = false) := Bool.eq_false_iff.2 (fun h => hin (HQ.out.2 h))
          go_region_held3 (fun wx => wx.cell? ⟨w.heap.size, 0, none⟩ = some (.slice ga x.globals.length gc) ∧ wx.cell? ⟨w.heap.size, 1, none⟩ = some (.slice la x.locks.length lc) ∧ wx.cell? ⟨w.heap.size, 2, none⟩ = some (.slice pa x.procs.length pc) ∧ wx.cell? ⟨w.heap.size, 3, none⟩ = some (.slice (some ⟨g2, o2, none⟩) x.entry.length ec) ∧ wx.cell? ⟨w.heap.size, 4, none⟩ = some (.slice (some ⟨g, o, none⟩) n ic) ∧ wx.cell? ⟨w.heap.size + 1, 6, none⟩ = some (.int .i64 u) ∧ wx.cell? ⟨g2, o2 + pp, none⟩ = some (.int .i64 z0) ∧ Below v1.heap.size v1 wx)
            (exact KS.out _ (by assumption))
            (first
            | (go_at_call 147; (with_reducible refine (CE2.out _ (by assumption)).mono ?_); rintro e v2 ⟨z2, rfl, hz2, bz⟩; subst hz2)
            | (go_at_call 49; (with_reducible refine (in_no _ _ _ _ (by omega)).mono ?_); rintro e v3 ⟨rfl, rfl⟩))
          all_goals
            have BZ := Lib.hid (BP.out.trans (bz.mono BP.out.size))
            clear bz
            go_wp2_with fail
            go_ret
            exact ⟨ret_b (by rw [HRR.out, HA.out, HF.out, HO.out]; rfl), BZ.out⟩
set_option maxRecDepth 20000 in
set_option maxHeartbeats 3200000 in
theorem specIns_jump (x : KTree) (i : Nat) (a u : Int) (t : Tree) (ga la pa ea ta : Option Addr) (g o gc lc pc ec ic n tc : Nat) (w : World) (hi : i < n) (hn : n ≤ 9223372036854775807) (hgl : NamesAt w x.globals (.slice ga x.globals.length gc)) (hlk : NamesAt w x.locks (.slice la x.locks.length lc)) (hpr : NamesAt w x.procs (.slice pa x.procs.length pc)) (he : IntsAt w x.entry (.slice ea x.entry.length ec)) (hr : Ris x.entry n) (_ : szT t ≤ 1048576)
    (hy : Lies w t (.agg #[.int .i64 t.kind, .int .i64 t.num, .string t.name, .slice ta t.kids.length tc])) (c0 : w.cell? ⟨g, o + i * 7, none⟩ = some (.int .i64 3)) (c1 : w.cell? ⟨g, o + i * 7 + 1, none⟩ = some (.int .i64 a)) (c2 : w.cell? ⟨g, o + i * 7 + 2, none⟩ = some (.int .i64 t.kind)) (c3 : w.cell? ⟨g, o + i * 7 + 3, none⟩ = some (.int .i64 t.num)) (c4 : w.cell? ⟨g, o + i * 7 + 4, none⟩ = some (.string t.name)) (c5 : w.cell? ⟨g, o + i * 7 + 5, none⟩ = some (.slice ta t.kids.length tc)) (c6 : w.cell? ⟨g, o + i * 7 + 6, none⟩ = some (.int .i64 u)) :
    Calls Tryz.prog 103 #[.agg #[.slice ga x.globals.length gc, .slice la x.locks.length lc, .slice pa x.procs.length pc, .slice ea x.entry.length ec, .slice (some ⟨g, o, none⟩) n ic], .int .i64 (i : Int)] w fun e w' => e = .returned (.bool ((decide (0 ≤ a ∧ a ≤ 0) && (sameT t zT && toB x.entry n i u)))) ∧ Below w.heap.size w w' := by
  obtain ⟨W1, hW1⟩ : ∃ W, W = (w.alloc (.cells #[.slice ga x.globals.length gc, .slice la x.locks.length lc, .slice pa x.procs.length pc, .slice ea x.entry.length ec, .slice (some ⟨g, o, none⟩) n ic] 32)).alloc (.cells #[.int .i64 3, .int .i64 a, .int .i64 t.kind, .int .i64 t.num, .string t.name, .slice ta t.kids.length tc, .int .i64 u] 45) := ⟨_, rfl⟩
  have hs1 : (w.alloc (.cells #[.slice ga x.globals.length gc, .slice la x.locks.length lc, .slice pa x.procs.length pc, .slice ea x.entry.length ec, .slice (some ⟨g, o, none⟩) n ic] 32)).heap.size = w.heap.size + 1 := by simp
  have b1 : Below w.heap.size w W1 := by rw [hW1]; exact ((Below.refl w.heap.size w).alloc (Nat.le_refl _) _).alloc (by simp) _
  have X1 := Lib.hid ((Box7.new (w.alloc (.cells #[.slice ga x.globals.length gc, .slice la x.locks.length lc, .slice pa x.procs.length pc, .slice ea x.entry.length ec, .slice (some ⟨g, o, none⟩) n ic] 32)) (.int .i64 3) (.int .i64 a) (.int .i64 t.kind) (.int .i64 t.num) (.string t.name) (.slice ta t.kids.length tc) (.int .i64 u) 45))
  have Y1 := Lib.hid ((Box5.new w (.slice ga x.globals.length gc) (.slice la x.locks.length lc) (.slice pa x.procs.length pc) (.slice ea x.entry.length ec) (.slice (some ⟨g, o, none⟩) n ic) 32).keep (keeps_alloc _ (.cells #[.int .i64 3, .int .i64 a, .int .i64 t.kind, .int .i64 t.num, .string t.name, .slice ta t.kids.length tc, .int .i64 u] 45)))
  rw [← hW1, hs1] at X1
  rw [← hW1] at Y1
  have B1 := Lib.hid b1
  have HW1 := Lib.hid hW1
  have k0 := keeps_alloc w (.cells #[.slice ga x.globals.length gc, .slice la x.locks.length lc, .slice pa x.procs.length pc, .slice ea x.entry.length ec, .slice (some ⟨g, o, none⟩) n ic] 32)
  replace c0 := k0 _ _ c0
  replace c1 := k0 _ _ c1
  replace c2 := k0 _ _ c2
  replace c3 := k0 _ _ c3
  replace c4 := k0 _ _ c4
  replace c5 := k0 _ _ c5
  replace c6 := k0 _ _ c6
  have CS := Lib.hid (fun wx (hb : Below w.heap.size w wx) => specSame_any t zT _ _ wx (hy.keep (keeps_below hb)) (zT_lies wx))
  have CP := Lib.hid (fun wx (hb : Below w.heap.size w wx) => specKProc_any x.entry (.slice ga x.globals.length gc) (.slice la x.locks.length lc) (.slice pa x.procs.length pc) (.slice (some ⟨g, o, none⟩) n ic) ea ec n (i : Int) wx (he.keep (keeps_below hb)) hr (by omega))
  have CE := Lib.hid (fun p wx hp (hb : Below w.heap.size w wx) => specKEnd_any x.entry (.slice ga x.globals.length gc) (.slice la x.locks.length lc) (.slice pa x.procs.length pc) ea (some ⟨g, o, none⟩) ec n ic p wx (he.keep (keeps_below hb)) hr hp hn)
  have HTO := Lib.hid (fun p hp => toB_in (es := x.entry) (n := n) (i := i) (p := p) (to := u) hr hp)
  have HENT := Lib.hid (fun wx (hb : Below w.heap.size w wx) => he.keep (keeps_below hb))
  obtain ⟨ob, hob⟩ : ∃ b, toB x.entry n i u = b := ⟨_, rfl⟩
  rw [hob] at HTO
  obtain ⟨tb, htb⟩ : ∃ b, sameT t zT = b := ⟨_, rfl⟩
  rw [htb] at CS
  obtain ⟨rr, hrr⟩ : ∃ b, b = (decide (0 ≤ a ∧ a ≤ 0) && (tb && ob)) := ⟨_, rfl⟩
  rw [hob, htb, ← hrr]
  clear htb hob
  have HRR := Lib.hid hrr
  clear hrr
  have hgp := hgl.1
  have hlp := hlk.1
  have hpp := hpr.1
  have hg0 : x.globals.length ≤ 9223372036854775807 := by obtain ⟨_, _, _, h, _⟩ := hgp; exact h
  have hl0 : x.locks.length ≤ 9223372036854775807 := by obtain ⟨_, _, _, h, _⟩ := hlp; exact h
  have hp0 : x.procs.length ≤ 9223372036854775807 := by obtain ⟨_, _, _, h, _⟩ := hpp; exact h
  clear hgp hlp hpp
  clear hgl hlk hpr hy he hr hW1 hs1 b1 k0
  go_enter Tryz.func103, Tryz.ntmps103
  go_wp2_with fail
  rw [← HW1.out]
  clear c0 c1 c2 c3 c4 c5 c6
  obtain ⟨p0, p1, p2, p3, p4⟩ := Y1.out
  obtain ⟨q0, q1, q2, q3, q4, q5, q6⟩ := X1.out
  refine (in_yes _ _ _ _ (by omega) (by omega)).mono ?_
  rintro e w2 ⟨rfl, rfl⟩
  go_wp2_with fail
  by_cases ha : 0 ≤ a ∧ a ≤ 0
  rotate_left
  · refine (in_no _ _ _ _ (by omega)).mono ?_
    rintro e w2 ⟨rfl, rfl⟩
    go_wp2_with fail
    go_ret
    exact ⟨ret_b (by rw [HRR.out, decide_eq_false ha]; rfl), B1.out⟩
  refine (in_yes _ _ _ _ ha.1 ha.2).mono ?_
  rintro e w2 ⟨rfl, rfl⟩
  have HA : Hid (decide (0 ≤ a ∧ a ≤ 0) = true) := decide_eq_true ha
  clear ha
  go_wp2_with fail
  refine (CS.out _ B1.out).mono ?_
  rintro e w3 ⟨rfl, hb⟩
  have B3 := Lib.hid (B1.out.trans (hb.mono B1.out.size))
  have X3 := Lib.hid (X1.out.keep (keeps_below hb))
  have Y3 := Lib.hid (Y1.out.keep (keeps_below hb))
  clear hb p0 p1 p2 p3 p4 q0 q1 q2 q3 q4 q5 q6
  obtain ⟨p0, p1, p2, p3, p4⟩ := Y3.out
  obtain ⟨q0, q1, q2, q3, q4, q5, q6⟩ := X3.out
  cases tb with
  | false =>
    go_wp2_with fail
    go_ret
    exact ⟨ret_b (by rw [HRR.out, HA.out]; rfl), B3.out⟩
  | true =>
    go_wp2_with fail
    refine (CP.out _ B3.out).mono ?_
    rintro e v1 ⟨pp, rfl, hpp, hb⟩
    have BP := Lib.hid (B3.out.trans (hb.mono B3.out.size))
    have XP := Lib.hid (X3.out.keep (keeps_below hb))
    have YP := Lib.hid (Y3.out.keep (keeps_below hb))
    obtain ⟨a2, c2, e2, _, _, hk2⟩ := HENT.out _ BP.out
    simp at e2
    obtain ⟨rfl, rfl⟩ := e2
    have hpl := hpp.lt
    obtain ⟨g2, o2, rfl, hce⟩ := hk2 (by omega)
    have hcp := hce pp hpl
    have HQ := Lib.hid (HTO.out pp hpp)
    obtain ⟨z0, hz0⟩ : ∃ z, z = x.entry[pp] := ⟨_, rfl⟩
    rw [← hz0] at hcp HQ
    have KS : Hid (∀ wx, Below v1.heap.size v1 wx → wx.cell? ⟨w.heap.size, 0, none⟩ = some (.slice ga x.globals.length gc) ∧ wx.cell? ⟨w.heap.size, 1, none⟩ = some (.slice la x.locks.length lc) ∧ wx.cell? ⟨w.heap.size, 2, none⟩ = some (.slice pa x.procs.length pc) ∧ wx.cell? ⟨w.heap.size, 3, none⟩ = some (.slice (some ⟨g2, o2, none⟩) x.entry.length ec) ∧ wx.cell? ⟨w.heap.size, 4, none⟩ = some (.slice (some ⟨g, o, none⟩) n ic) ∧ wx.cell? ⟨w.heap.size + 1, 6, none⟩ = some (.int .i64 u) ∧ wx.cell? ⟨g2, o2 + pp, none⟩ = some (.int .i64 z0) ∧ Below v1.heap.size v1 wx) := fun wx hb2 => by
      obtain ⟨r0, r1, r2, r3, r4⟩ := YP.out.keep (keeps_below hb2)
      obtain ⟨_, _, _, _, _, _, s6⟩ := XP.out.keep (keeps_below hb2)
      exact ⟨r0, r1, r2, r3, r4, s6, keeps_below hb2 _ _ hcp, hb2⟩
    have CE2 : Hid (∀ wx, Below v1.heap.size v1 wx → Calls Tryz.prog 147 #[.agg #[.slice ga x.globals.length gc, .slice la x.locks.length lc, .slice pa x.procs.length pc, .slice (some ⟨g2, o2, none⟩) x.entry.length ec, .slice (some ⟨g, o, none⟩) n ic], .int .i64 (pp : Int)] wx fun e w' => ∃ z, e = .returned (.int .i64 z) ∧ z = endI x.entry n pp ∧ Below v1.heap.size v1 w') := fun wx hb2 =>
      (CE.out pp wx hpl (BP.out.trans (hb2.mono BP.out.size))).mono fun e w' ⟨z, he, hz, h⟩ => ⟨z, he, hz, hb2.trans (h.mono hb2.size)⟩
    have b0 : Below v1.heap.size v1 v1.drew := (Below.refl _ _).drew
    clear hb hk2 hce hcp hz0 hpp p0 p1 p2 p3 p4 q0 q1 q2 q3 q4 q5 q6
    obtain ⟨p0, p1, p2, p3, p4⟩ := YP.out
    go_wp2_with fail
    clear p0 p1 p2 p3 p4
    obtain ⟨z1, hz1⟩ : ∃ z, z = endI x.entry n pp := ⟨_, rfl⟩
    rw [← hz1] at HQ CE2
    clear hz1
    by_cases hin : z0 ≤ u ∧ u ≤ z1
    · have HO : Hid (ob = true) := HQ.out.1 hin
      go_region_held3 (fun wx => wx.cell? ⟨w.heap.size, 0, none⟩ = some (.slice ga x.globals.length gc) ∧ wx.cell? ⟨w.heap.size, 1, none⟩ = some (.slice la x.locks.length lc) ∧ wx.cell? ⟨w.heap.size, 2, none⟩ = some (.slice pa x.procs.length pc) ∧ wx.cell? ⟨w.heap.size, 3, none⟩ = some (.slice (some ⟨g2, o2, none⟩) x.entry.length ec) ∧ wx.cell? ⟨w.heap.size, 4, none⟩ = some (.slice (some ⟨g, o, none⟩) n ic) ∧ wx.cell? ⟨w.heap.size + 1, 6, none⟩ = some (.int .i64 u) ∧ wx.cell? ⟨g2, o2 + pp, none⟩ = some (.int .i64 z0) ∧ Below v1.heap.size v1 wx)
        (exact KS.out _ (by assumption))
        (first
        | (go_at_call 147; (with_reducible refine (CE2.out _ (by assumption)).mono ?_); rintro e v2 ⟨z2, rfl, hz2, bz⟩; subst hz2)
        | (go_at_call 49; (with_reducible refine (in_yes _ _ _ _ hin.1 hin.2).mono ?_); rintro e v3 ⟨rfl, rfl⟩))
      all_goals
        have BZ := Lib.hid (BP.out.trans (bz.mono BP.out.size))
        clear bz
        go_wp2_with fail
        go_ret
        exact ⟨ret_b (by rw [HRR.out, HA.out, HO.out]; rfl), BZ.out⟩
    · have HO : Hid (ob = false) := Bool.eq_false_iff.2 (fun h => hin (HQ.out.2 h))
      go_region_held3 (fun wx => wx.cell? ⟨w.heap.size, 0, none⟩ = some (.slice ga x.globals.length gc) ∧ wx.cell? ⟨w.heap.size, 1, none⟩ = some (.slice la x.locks.length lc) ∧ wx.cell? ⟨w.heap.size, 2, none⟩ = some (.slice pa x.procs.length pc) ∧ wx.cell? ⟨w.heap.size, 3, none⟩ = some (.slice (some ⟨g2, o2, none⟩) x.entry.length ec) ∧ wx.cell? ⟨w.heap.size, 4, none⟩ = some (.slice (some ⟨g, o, none⟩) n ic) ∧ wx.cell? ⟨w.heap.size + 1, 6, none⟩ = some (.int .i64 u) ∧ wx.cell? ⟨g2, o2 + pp, none⟩ = some (.int .i64 z0) ∧ Below v1.heap.size v1 wx)
        (exact KS.out _ (by assumption))
        (first
        | (go_at_call 147; (with_reducible refine (CE2.out _ (by assumption)).mono ?_); rintro e v2 ⟨z2, rfl, hz2, bz⟩; subst hz2)
        | (go_at_call 49; (with_reducible refine (in_no _ _ _ _ (by omega)).mono ?_); rintro e v3 ⟨rfl, rfl⟩))
      all_goals
        have BZ := Lib.hid (BP.out.trans (bz.mono BP.out.size))
        clear bz
        go_wp2_with fail
        go_ret
        exact ⟨ret_b (by rw [HRR.out, HA.out, HO.out]; rfl), BZ.out⟩
set_option maxRecDepth 20000 in
set_option maxHeartbeats 3200000 in
theorem specIns_lock (x : KTree) (i : Nat) (a u : Int) (t : Tree) (ga la pa ea ta : Option Addr) (g o gc lc pc ec ic n tc : Nat) (w : World) (hi : i < n) (_ : n ≤ 9223372036854775807) (hgl : NamesAt w x.globals (.slice ga x.globals.length gc)) (hlk : NamesAt w x.locks (.slice la x.locks.length lc)) (hpr : NamesAt w x.procs (.slice pa x.procs.length pc)) (_ : IntsAt w x.entry (.slice ea x.entry.length ec)) (_ : Ris x.entry n) (_ : szT t ≤ 1048576)
    (hy : Lies w t (.agg #[.int .i64 t.kind, .int .i64 t.num, .string t.name, .slice ta t.kids.length tc])) (k : Int) (hk : k = 6 ∨ k = 7) (c0 : w.cell? ⟨g, o + i * 7, none⟩ = some (.int .i64 k)) (c1 : w.cell? ⟨g, o + i * 7 + 1, none⟩ = some (.int .i64 a)) (c2 : w.cell? ⟨g, o + i * 7 + 2, none⟩ = some (.int .i64 t.kind)) (c3 : w.cell? ⟨g, o + i * 7 + 3, none⟩ = some (.int .i64 t.num)) (c4 : w.cell? ⟨g, o + i * 7 + 4, none⟩ = some (.string t.name)) (c5 : w.cell? ⟨g, o + i * 7 + 5, none⟩ = some (.slice ta t.kids.length tc)) (c6 : w.cell? ⟨g, o + i * 7 + 6, none⟩ = some (.int .i64 u)) :
    Calls Tryz.prog 103 #[.agg #[.slice ga x.globals.length gc, .slice la x.locks.length lc, .slice pa x.procs.length pc, .slice ea x.entry.length ec, .slice (some ⟨g, o, none⟩) n ic], .int .i64 (i : Int)] w fun e w' => e = .returned (.bool ((decide (0 ≤ a ∧ a ≤ ((x.locks.length : Int) - 1)) && (sameT t zT && decide (u = 0))))) ∧ Below w.heap.size w w' := by
  obtain ⟨W1, hW1⟩ : ∃ W, W = (w.alloc (.cells #[.slice ga x.globals.length gc, .slice la x.locks.length lc, .slice pa x.procs.length pc, .slice ea x.entry.length ec, .slice (some ⟨g, o, none⟩) n ic] 32)).alloc (.cells #[.int .i64 k, .int .i64 a, .int .i64 t.kind, .int .i64 t.num, .string t.name, .slice ta t.kids.length tc, .int .i64 u] 45) := ⟨_, rfl⟩
  have hs1 : (w.alloc (.cells #[.slice ga x.globals.length gc, .slice la x.locks.length lc, .slice pa x.procs.length pc, .slice ea x.entry.length ec, .slice (some ⟨g, o, none⟩) n ic] 32)).heap.size = w.heap.size + 1 := by simp
  have b1 : Below w.heap.size w W1 := by rw [hW1]; exact ((Below.refl w.heap.size w).alloc (Nat.le_refl _) _).alloc (by simp) _
  have X1 := Lib.hid ((Box7.new (w.alloc (.cells #[.slice ga x.globals.length gc, .slice la x.locks.length lc, .slice pa x.procs.length pc, .slice ea x.entry.length ec, .slice (some ⟨g, o, none⟩) n ic] 32)) (.int .i64 k) (.int .i64 a) (.int .i64 t.kind) (.int .i64 t.num) (.string t.name) (.slice ta t.kids.length tc) (.int .i64 u) 45))
  have Y1 := Lib.hid ((Box5.new w (.slice ga x.globals.length gc) (.slice la x.locks.length lc) (.slice pa x.procs.length pc) (.slice ea x.entry.length ec) (.slice (some ⟨g, o, none⟩) n ic) 32).keep (keeps_alloc _ (.cells #[.int .i64 k, .int .i64 a, .int .i64 t.kind, .int .i64 t.num, .string t.name, .slice ta t.kids.length tc, .int .i64 u] 45)))
  rw [← hW1, hs1] at X1
  rw [← hW1] at Y1
  have B1 := Lib.hid b1
  have HW1 := Lib.hid hW1
  have k0 := keeps_alloc w (.cells #[.slice ga x.globals.length gc, .slice la x.locks.length lc, .slice pa x.procs.length pc, .slice ea x.entry.length ec, .slice (some ⟨g, o, none⟩) n ic] 32)
  replace c0 := k0 _ _ c0
  replace c1 := k0 _ _ c1
  replace c2 := k0 _ _ c2
  replace c3 := k0 _ _ c3
  replace c4 := k0 _ _ c4
  replace c5 := k0 _ _ c5
  replace c6 := k0 _ _ c6
  have CS := Lib.hid (fun wx (hb : Below w.heap.size w wx) => specSame_any t zT _ _ wx (hy.keep (keeps_below hb)) (zT_lies wx))
  obtain ⟨tb, htb⟩ : ∃ b, sameT t zT = b := ⟨_, rfl⟩
  rw [htb] at CS
  obtain ⟨rr, hrr⟩ : ∃ b, b = (decide (0 ≤ a ∧ a ≤ ((x.locks.length : Int) - 1)) && (tb && decide (u = 0))) := ⟨_, rfl⟩
  rw [htb, ← hrr]
  clear htb
  have HRR := Lib.hid hrr
  clear hrr
  have hgp := hgl.1
  have hlp := hlk.1
  have hpp := hpr.1
  have hg0 : x.globals.length ≤ 9223372036854775807 := by obtain ⟨_, _, _, h, _⟩ := hgp; exact h
  have hl0 : x.locks.length ≤ 9223372036854775807 := by obtain ⟨_, _, _, h, _⟩ := hlp; exact h
  have hp0 : x.procs.length ≤ 9223372036854775807 := by obtain ⟨_, _, _, h, _⟩ := hpp; exact h
  clear hgp hlp hpp
  have h19 : 1 ≤ k ∧ k ≤ 9 := by omega
  rcases hk with rfl | rfl
  all_goals clear h19
  all_goals
    clear hgl hlk hpr hy hW1 hs1 b1 k0
    go_enter Tryz.func103, Tryz.ntmps103
    go_wp2_with fail
    rw [← HW1.out]
    clear c0 c1 c2 c3 c4 c5 c6
    obtain ⟨p0, p1, p2, p3, p4⟩ := Y1.out
    obtain ⟨q0, q1, q2, q3, q4, q5, q6⟩ := X1.out
    refine (in_yes _ _ _ _ (by omega) (by omega)).mono ?_
    rintro e w2 ⟨rfl, rfl⟩
    go_wp2_with fail
    by_cases ha : 0 ≤ a ∧ a ≤ ((x.locks.length : Int) - 1)
    rotate_left
    · refine (in_no _ _ _ _ (by omega)).mono ?_
      rintro e w2 ⟨rfl, rfl⟩
      go_wp2_with fail
      go_ret
      exact ⟨ret_b (by rw [HRR.out, decide_eq_false ha]; rfl), B1.out⟩
    refine (in_yes _ _ _ _ ha.1 ha.2).mono ?_
    rintro e w2 ⟨rfl, rfl⟩
    have HA : Hid (decide (0 ≤ a ∧ a ≤ ((x.locks.length : Int) - 1)) = true) := decide_eq_true ha
    clear ha
    go_wp2_with fail
    refine (CS.out _ B1.out).mono ?_
    rintro e w3 ⟨rfl, hb⟩
    have B3 := Lib.hid (B1.out.trans (hb.mono B1.out.size))
    have X3 := Lib.hid (X1.out.keep (keeps_below hb))
    have Y3 := Lib.hid (Y1.out.keep (keeps_below hb))
    clear hb p0 p1 p2 p3 p4 q0 q1 q2 q3 q4 q5 q6
    obtain ⟨p0, p1, p2, p3, p4⟩ := Y3.out
    obtain ⟨q0, q1, q2, q3, q4, q5, q6⟩ := X3.out
    cases tb with
    | false =>
      go_wp2_with fail
      go_ret
      exact ⟨ret_b (by rw [HRR.out, HA.out]; rfl), B3.out⟩
    | true =>
      go_wp2_with fail
      by_cases hu : u = 0
      · go_wp2_with fail
        go_ret
        exact ⟨ret_b (by rw [HRR.out, HA.out, decide_eq_true hu]; simp [hu]), B3.out⟩
      · have hu2 := ne_true hu
        have HU : Hid (decide (u = 0) = false) := decide_eq_false hu
        clear hu
        go_wp2_with fail
        go_ret
        exact ⟨ret_b (by rw [HRR.out, HA.out, HU.out]; simp [hu2]), B3.out⟩
set_option maxRecDepth 20000 in
set_option maxHeartbeats 3200000 in
theorem specIns_call (x : KTree) (i : Nat) (a u : Int) (t : Tree) (ga la pa ea ta : Option Addr) (g o gc lc pc ec ic n tc : Nat) (w : World) (hi : i < n) (_ : n ≤ 9223372036854775807) (hgl : NamesAt w x.globals (.slice ga x.globals.length gc)) (hlk : NamesAt w x.locks (.slice la x.locks.length lc)) (hpr : NamesAt w x.procs (.slice pa x.procs.length pc)) (_ : IntsAt w x.entry (.slice ea x.entry.length ec)) (_ : Ris x.entry n) (_ : szT t ≤ 1048576)
    (hy : Lies w t (.agg #[.int .i64 t.kind, .int .i64 t.num, .string t.name, .slice ta t.kids.length tc])) (k : Int) (hk : k = 4 ∨ k = 5) (c0 : w.cell? ⟨g, o + i * 7, none⟩ = some (.int .i64 k)) (c1 : w.cell? ⟨g, o + i * 7 + 1, none⟩ = some (.int .i64 a)) (c2 : w.cell? ⟨g, o + i * 7 + 2, none⟩ = some (.int .i64 t.kind)) (c3 : w.cell? ⟨g, o + i * 7 + 3, none⟩ = some (.int .i64 t.num)) (c4 : w.cell? ⟨g, o + i * 7 + 4, none⟩ = some (.string t.name)) (c5 : w.cell? ⟨g, o + i * 7 + 5, none⟩ = some (.slice ta t.kids.length tc)) (c6 : w.cell? ⟨g, o + i * 7 + 6, none⟩ = some (.int .i64 u)) :
    Calls Tryz.prog 103 #[.agg #[.slice ga x.globals.length gc, .slice la x.locks.length lc, .slice pa x.procs.length pc, .slice ea x.entry.length ec, .slice (some ⟨g, o, none⟩) n ic], .int .i64 (i : Int)] w fun e w' => e = .returned (.bool ((decide (0 ≤ a ∧ a ≤ ((x.procs.length : Int) - 1)) && (sameT t zT && decide (u = 0))))) ∧ Below w.heap.size w w' := by
  obtain ⟨W1, hW1⟩ : ∃ W, W = (w.alloc (.cells #[.slice ga x.globals.length gc, .slice la x.locks.length lc, .slice pa x.procs.length pc, .slice ea x.entry.length ec, .slice (some ⟨g, o, none⟩) n ic] 32)).alloc (.cells #[.int .i64 k, .int .i64 a, .int .i64 t.kind, .int .i64 t.num, .string t.name, .slice ta t.kids.length tc, .int .i64 u] 45) := ⟨_, rfl⟩
  have hs1 : (w.alloc (.cells #[.slice ga x.globals.length gc, .slice la x.locks.length lc, .slice pa x.procs.length pc, .slice ea x.entry.length ec, .slice (some ⟨g, o, none⟩) n ic] 32)).heap.size = w.heap.size + 1 := by simp
  have b1 : Below w.heap.size w W1 := by rw [hW1]; exact ((Below.refl w.heap.size w).alloc (Nat.le_refl _) _).alloc (by simp) _
  have X1 := Lib.hid ((Box7.new (w.alloc (.cells #[.slice ga x.globals.length gc, .slice la x.locks.length lc, .slice pa x.procs.length pc, .slice ea x.entry.length ec, .slice (some ⟨g, o, none⟩) n ic] 32)) (.int .i64 k) (.int .i64 a) (.int .i64 t.kind) (.int .i64 t.num) (.string t.name) (.slice ta t.kids.length tc) (.int .i64 u) 45))
  have Y1 := Lib.hid ((Box5.new w (.slice ga x.globals.length gc) (.slice la x.locks.length lc) (.slice pa x.procs.length pc) (.slice ea x.entry.length ec) (.slice (some ⟨g, o, none⟩) n ic) 32).keep (keeps_alloc _ (.cells #[.int .i64 k, .int .i64 a, .int .i64 t.kind, .int .i64 t.num, .string t.name, .slice ta t.kids.length tc, .int .i64 u] 45)))
  rw [← hW1, hs1] at X1
  rw [← hW1] at Y1
  have B1 := Lib.hid b1
  have HW1 := Lib.hid hW1
  have k0 := keeps_alloc w (.cells #[.slice ga x.globals.length gc, .slice la x.locks.length lc, .slice pa x.procs.length pc, .slice ea x.entry.length ec, .slice (some ⟨g, o, none⟩) n ic] 32)
  replace c0 := k0 _ _ c0
  replace c1 := k0 _ _ c1
  replace c2 := k0 _ _ c2
  replace c3 := k0 _ _ c3
  replace c4 := k0 _ _ c4
  replace c5 := k0 _ _ c5
  replace c6 := k0 _ _ c6
  have CS := Lib.hid (fun wx (hb : Below w.heap.size w wx) => specSame_any t zT _ _ wx (hy.keep (keeps_below hb)) (zT_lies wx))
  obtain ⟨tb, htb⟩ : ∃ b, sameT t zT = b := ⟨_, rfl⟩
  rw [htb] at CS
  obtain ⟨rr, hrr⟩ : ∃ b, b = (decide (0 ≤ a ∧ a ≤ ((x.procs.length : Int) - 1)) && (tb && decide (u = 0))) := ⟨_, rfl⟩
  rw [htb, ← hrr]
  clear htb
  have HRR := Lib.hid hrr
  clear hrr
  have hgp := hgl.1
  have hlp := hlk.1
  have hpp := hpr.1
  have hg0 : x.globals.length ≤ 9223372036854775807 := by obtain ⟨_, _, _, h, _⟩ := hgp; exact h
  have hl0 : x.locks.length ≤ 9223372036854775807 := by obtain ⟨_, _, _, h, _⟩ := hlp; exact h
  have hp0 : x.procs.length ≤ 9223372036854775807 := by obtain ⟨_, _, _, h, _⟩ := hpp; exact h
  clear hgp hlp hpp
  have h19 : 1 ≤ k ∧ k ≤ 9 := by omega
  rcases hk with rfl | rfl
  all_goals clear h19
  all_goals
    clear hgl hlk hpr hy hW1 hs1 b1 k0
    go_enter Tryz.func103, Tryz.ntmps103
    go_wp2_with fail
    rw [← HW1.out]
    clear c0 c1 c2 c3 c4 c5 c6
    obtain ⟨p0, p1, p2, p3, p4⟩ := Y1.out
    obtain ⟨q0, q1, q2, q3, q4, q5, q6⟩ := X1.out
    refine (in_yes _ _ _ _ (by omega) (by omega)).mono ?_
    rintro e w2 ⟨rfl, rfl⟩
    go_wp2_with fail
    by_cases ha : 0 ≤ a ∧ a ≤ ((x.procs.length : Int) - 1)
    rotate_left
    · refine (in_no _ _ _ _ (by omega)).mono ?_
      rintro e w2 ⟨rfl, rfl⟩
      go_wp2_with fail
      go_ret
      exact ⟨ret_b (by rw [HRR.out, decide_eq_false ha]; rfl), B1.out⟩
    refine (in_yes _ _ _ _ ha.1 ha.2).mono ?_
    rintro e w2 ⟨rfl, rfl⟩
    have HA : Hid (decide (0 ≤ a ∧ a ≤ ((x.procs.length : Int) - 1)) = true) := decide_eq_true ha
    clear ha
    go_wp2_with fail
    refine (CS.out _ B1.out).mono ?_
    rintro e w3 ⟨rfl, hb⟩
    have B3 := Lib.hid (B1.out.trans (hb.mono B1.out.size))
    have X3 := Lib.hid (X1.out.keep (keeps_below hb))
    have Y3 := Lib.hid (Y1.out.keep (keeps_below hb))
    clear hb p0 p1 p2 p3 p4 q0 q1 q2 q3 q4 q5 q6
    obtain ⟨p0, p1, p2, p3, p4⟩ := Y3.out
    obtain ⟨q0, q1, q2, q3, q4, q5, q6⟩ := X3.out
    cases tb with
    | false =>
      go_wp2_with fail
      go_ret
      exact ⟨ret_b (by rw [HRR.out, HA.out]; rfl), B3.out⟩
    | true =>
      go_wp2_with fail
      by_cases hu : u = 0
      · go_wp2_with fail
        go_ret
        exact ⟨ret_b (by rw [HRR.out, HA.out, decide_eq_true hu]; simp [hu]), B3.out⟩
      · have hu2 := ne_true hu
        have HU : Hid (decide (u = 0) = false) := decide_eq_false hu
        clear hu
        go_wp2_with fail
        go_ret
        exact ⟨ret_b (by rw [HRR.out, HA.out, HU.out]; simp [hu2]), B3.out⟩
set_option maxRecDepth 20000 in
set_option maxHeartbeats 3200000 in
theorem specIns_skip (x : KTree) (i : Nat) (a u : Int) (t : Tree) (ga la pa ea ta : Option Addr) (g o gc lc pc ec ic n tc : Nat) (w : World) (hi : i < n) (_ : n ≤ 9223372036854775807) (hgl : NamesAt w x.globals (.slice ga x.globals.length gc)) (hlk : NamesAt w x.locks (.slice la x.locks.length lc)) (hpr : NamesAt w x.procs (.slice pa x.procs.length pc)) (_ : IntsAt w x.entry (.slice ea x.entry.length ec)) (_ : Ris x.entry n) (_ : szT t ≤ 1048576)
    (hy : Lies w t (.agg #[.int .i64 t.kind, .int .i64 t.num, .string t.name, .slice ta t.kids.length tc])) (k : Int) (hk : k = 8 ∨ k = 9) (c0 : w.cell? ⟨g, o + i * 7, none⟩ = some (.int .i64 k)) (c1 : w.cell? ⟨g, o + i * 7 + 1, none⟩ = some (.int .i64 a)) (c2 : w.cell? ⟨g, o + i * 7 + 2, none⟩ = some (.int .i64 t.kind)) (c3 : w.cell? ⟨g, o + i * 7 + 3, none⟩ = some (.int .i64 t.num)) (c4 : w.cell? ⟨g, o + i * 7 + 4, none⟩ = some (.string t.name)) (c5 : w.cell? ⟨g, o + i * 7 + 5, none⟩ = some (.slice ta t.kids.length tc)) (c6 : w.cell? ⟨g, o + i * 7 + 6, none⟩ = some (.int .i64 u)) :
    Calls Tryz.prog 103 #[.agg #[.slice ga x.globals.length gc, .slice la x.locks.length lc, .slice pa x.procs.length pc, .slice ea x.entry.length ec, .slice (some ⟨g, o, none⟩) n ic], .int .i64 (i : Int)] w fun e w' => e = .returned (.bool ((decide (0 ≤ a ∧ a ≤ 0) && (sameT t zT && decide (u = 0))))) ∧ Below w.heap.size w w' := by
  obtain ⟨W1, hW1⟩ : ∃ W, W = (w.alloc (.cells #[.slice ga x.globals.length gc, .slice la x.locks.length lc, .slice pa x.procs.length pc, .slice ea x.entry.length ec, .slice (some ⟨g, o, none⟩) n ic] 32)).alloc (.cells #[.int .i64 k, .int .i64 a, .int .i64 t.kind, .int .i64 t.num, .string t.name, .slice ta t.kids.length tc, .int .i64 u] 45) := ⟨_, rfl⟩
  have hs1 : (w.alloc (.cells #[.slice ga x.globals.length gc, .slice la x.locks.length lc, .slice pa x.procs.length pc, .slice ea x.entry.length ec, .slice (some ⟨g, o, none⟩) n ic] 32)).heap.size = w.heap.size + 1 := by simp
  have b1 : Below w.heap.size w W1 := by rw [hW1]; exact ((Below.refl w.heap.size w).alloc (Nat.le_refl _) _).alloc (by simp) _
  have X1 := Lib.hid ((Box7.new (w.alloc (.cells #[.slice ga x.globals.length gc, .slice la x.locks.length lc, .slice pa x.procs.length pc, .slice ea x.entry.length ec, .slice (some ⟨g, o, none⟩) n ic] 32)) (.int .i64 k) (.int .i64 a) (.int .i64 t.kind) (.int .i64 t.num) (.string t.name) (.slice ta t.kids.length tc) (.int .i64 u) 45))
  have Y1 := Lib.hid ((Box5.new w (.slice ga x.globals.length gc) (.slice la x.locks.length lc) (.slice pa x.procs.length pc) (.slice ea x.entry.length ec) (.slice (some ⟨g, o, none⟩) n ic) 32).keep (keeps_alloc _ (.cells #[.int .i64 k, .int .i64 a, .int .i64 t.kind, .int .i64 t.num, .string t.name, .slice ta t.kids.length tc, .int .i64 u] 45)))
  rw [← hW1, hs1] at X1
  rw [← hW1] at Y1
  have B1 := Lib.hid b1
  have HW1 := Lib.hid hW1
  have k0 := keeps_alloc w (.cells #[.slice ga x.globals.length gc, .slice la x.locks.length lc, .slice pa x.procs.length pc, .slice ea x.entry.length ec, .slice (some ⟨g, o, none⟩) n ic] 32)
  replace c0 := k0 _ _ c0
  replace c1 := k0 _ _ c1
  replace c2 := k0 _ _ c2
  replace c3 := k0 _ _ c3
  replace c4 := k0 _ _ c4
  replace c5 := k0 _ _ c5
  replace c6 := k0 _ _ c6
  have CS := Lib.hid (fun wx (hb : Below w.heap.size w wx) => specSame_any t zT _ _ wx (hy.keep (keeps_below hb)) (zT_lies wx))
  obtain ⟨tb, htb⟩ : ∃ b, sameT t zT = b := ⟨_, rfl⟩
  rw [htb] at CS
  obtain ⟨rr, hrr⟩ : ∃ b, b = (decide (0 ≤ a ∧ a ≤ 0) && (tb && decide (u = 0))) := ⟨_, rfl⟩
  rw [htb, ← hrr]
  clear htb
  have HRR := Lib.hid hrr
  clear hrr
  have hgp := hgl.1
  have hlp := hlk.1
  have hpp := hpr.1
  have hg0 : x.globals.length ≤ 9223372036854775807 := by obtain ⟨_, _, _, h, _⟩ := hgp; exact h
  have hl0 : x.locks.length ≤ 9223372036854775807 := by obtain ⟨_, _, _, h, _⟩ := hlp; exact h
  have hp0 : x.procs.length ≤ 9223372036854775807 := by obtain ⟨_, _, _, h, _⟩ := hpp; exact h
  clear hgp hlp hpp
  have h19 : 1 ≤ k ∧ k ≤ 9 := by omega
  rcases hk with rfl | rfl
  all_goals clear h19
  all_goals
    clear hgl hlk hpr hy hW1 hs1 b1 k0
    go_enter Tryz.func103, Tryz.ntmps103
    go_wp2_with fail
    rw [← HW1.out]
    clear c0 c1 c2 c3 c4 c5 c6
    obtain ⟨p0, p1, p2, p3, p4⟩ := Y1.out
    obtain ⟨q0, q1, q2, q3, q4, q5, q6⟩ := X1.out
    refine (in_yes _ _ _ _ (by omega) (by omega)).mono ?_
    rintro e w2 ⟨rfl, rfl⟩
    go_wp2_with fail
    by_cases ha : 0 ≤ a ∧ a ≤ 0
    rotate_left
    · refine (in_no _ _ _ _ (by omega)).mono ?_
      rintro e w2 ⟨rfl, rfl⟩
      go_wp2_with fail
      go_ret
      exact ⟨ret_b (by rw [HRR.out, decide_eq_false ha]; rfl), B1.out⟩
    refine (in_yes _ _ _ _ ha.1 ha.2).mono ?_
    rintro e w2 ⟨rfl, rfl⟩
    have HA : Hid (decide (0 ≤ a ∧ a ≤ 0) = true) := decide_eq_true ha
    clear ha
    go_wp2_with fail
    refine (CS.out _ B1.out).mono ?_
    rintro e w3 ⟨rfl, hb⟩
    have B3 := Lib.hid (B1.out.trans (hb.mono B1.out.size))
    have X3 := Lib.hid (X1.out.keep (keeps_below hb))
    have Y3 := Lib.hid (Y1.out.keep (keeps_below hb))
    clear hb p0 p1 p2 p3 p4 q0 q1 q2 q3 q4 q5 q6
    obtain ⟨p0, p1, p2, p3, p4⟩ := Y3.out
    obtain ⟨q0, q1, q2, q3, q4, q5, q6⟩ := X3.out
    cases tb with
    | false =>
      go_wp2_with fail
      go_ret
      exact ⟨ret_b (by rw [HRR.out, HA.out]; rfl), B3.out⟩
    | true =>
      go_wp2_with fail
      by_cases hu : u = 0
      · go_wp2_with fail
        go_ret
        exact ⟨ret_b (by rw [HRR.out, HA.out, decide_eq_true hu]; simp [hu]), B3.out⟩
      · have hu2 := ne_true hu
        have HU : Hid (decide (u = 0) = false) := decide_eq_false hu
        clear hu
        go_wp2_with fail
        go_ret
        exact ⟨ret_b (by rw [HRR.out, HA.out, HU.out]; simp [hu2]), B3.out⟩
end Go.Proofs.YtmhhghdfgdhljaaGreatDoor.Trm
/- The model's CodeOk, walked. Conditions: the code lies in memory; at most 2 to the 20 names and terms. -/
namespace Go.Proofs.YtmhhghdfgdhljaaGreatDoor.Trm
open Go.RowKit Own
theorem okIn_bad {x : KTree} {i : Nat} {y : InsT} (h : ¬ (1 ≤ y.op ∧ y.op ≤ 9)) : okIn x i y = false := by unfold okIn; rw [decide_eq_false h]; rfl
theorem okIn_good {x : KTree} {i n : Nat} {y : InsT} (hn : n = x.ins.length) (h : 1 ≤ y.op ∧ y.op ≤ 9) : okIn x i y = (decide (0 ≤ y.arg ∧ y.arg ≤ mostI x y.op) && (termB x y && (if y.op = 2 ∨ y.op = 3 then toB x.entry n i y.to else decide (y.to = 0)))) := by subst hn; unfold okIn; rw [decide_eq_true h]; rfl
theorem specIns_any (x : KTree) (i : Nat) (ga la pa ea ia : Option Addr) (gc lc pc ec ic n : Nat) (w : World) (hi : i < x.ins.length) (hn : n = x.ins.length) (hgl : NamesAt w x.globals (.slice ga x.globals.length gc)) (hlk : NamesAt w x.locks (.slice la x.locks.length lc)) (hpr : NamesAt w x.procs (.slice pa x.procs.length pc)) (he : IntsAt w x.entry (.slice ea x.entry.length ec)) (hI : IsAt w (.slice ia n ic) x.ins) (hr : Ris x.entry n) (hz : szIs x.ins ≤ 1048576) :
    Calls Tryz.prog 103 #[.agg #[.slice ga x.globals.length gc, .slice la x.locks.length lc, .slice pa x.procs.length pc, .slice ea x.entry.length ec, .slice ia n ic], .int .i64 (i : Int)] w fun e w' => e = .returned (.bool (okIn x i x.ins[i])) ∧ Below w.heap.size w w' := by
  obtain ⟨hlm, a2, c2, e2, hk5⟩ := hI
  simp at e2
  obtain ⟨rfl, _, rfl⟩ := e2
  have hnm : n ≤ 9223372036854775807 := by omega
  have hin : i < n := by omega
  obtain ⟨g, o, rfl, hc⟩ := hk5 (by omega)
  obtain ⟨_, _, _, ta, tc, c0, c1, c2, c3, c4, c5, c6, hy⟩ := hc i hi
  have hzt : szT x.ins[i].term ≤ 1048576 := by have := szIs_mem (List.getElem_mem hi); unfold szI at this; omega
  clear hc hk5
  generalize x.ins[i] = y at *
  obtain ⟨k, a, t, u⟩ := y
  by_cases h19 : 1 ≤ k ∧ k ≤ 9
  rotate_left
  · rw [okIn_bad (y := ⟨k, a, t, u⟩) h19]
    exact specIns_bad x i a u t ga la pa ea ta g o gc lc pc ec ic n tc w hin hnm hgl hlk hpr he hr hzt hy k h19 c0 c1 c2 c3 c4 c5 c6
  rw [okIn_good (y := ⟨k, a, t, u⟩) hn h19]
  have h2 : k = 1 ∨ k = 2 ∨ k = 3 ∨ (k = 6 ∨ k = 7) ∨ (k = 4 ∨ k = 5) ∨ (k = 8 ∨ k = 9) := by omega
  rcases h2 with rfl | rfl | rfl | h | h | h
  · exact specIns_set x i a u t ga la pa ea ta g o gc lc pc ec ic n tc w hin hnm hgl hlk hpr he hr hzt hy c0 c1 c2 c3 c4 c5 c6
  · exact specIns_test x i a u t ga la pa ea ta g o gc lc pc ec ic n tc w hin hnm hgl hlk hpr he hr hzt hy c0 c1 c2 c3 c4 c5 c6
  · exact specIns_jump x i a u t ga la pa ea ta g o gc lc pc ec ic n tc w hin hnm hgl hlk hpr he hr hzt hy c0 c1 c2 c3 c4 c5 c6
  · have e1 : mostI x k = (x.locks.length : Int) - 1 := by unfold mostI; rw [if_neg (by omega), if_pos (by omega)]
    have e2 : termB x ⟨k, a, t, u⟩ = sameT t zT := by unfold termB; rw [if_neg (show ¬ (k = 1 ∨ k = 2) by omega)]
    rw [if_neg (show ¬ (k = 2 ∨ k = 3) by omega), e2]
    show Calls _ _ _ _ fun e w' => e = .returned (.bool (decide (0 ≤ a ∧ a ≤ mostI x k) && _)) ∧ _
    rw [e1]
    exact specIns_lock x i a u t ga la pa ea ta g o gc lc pc ec ic n tc w hin hnm hgl hlk hpr he hr hzt hy k h c0 c1 c2 c3 c4 c5 c6
  · have e1 : mostI x k = (x.procs.length : Int) - 1 := by unfold mostI; rw [if_neg (by omega), if_neg (by omega), if_pos (by omega)]
    have e2 : termB x ⟨k, a, t, u⟩ = sameT t zT := by unfold termB; rw [if_neg (show ¬ (k = 1 ∨ k = 2) by omega)]
    rw [if_neg (show ¬ (k = 2 ∨ k = 3) by omega), e2]
    show Calls _ _ _ _ fun e w' => e = .returned (.bool (decide (0 ≤ a ∧ a ≤ mostI x k) && _)) ∧ _
    rw [e1]
    exact specIns_call x i a u t ga la pa ea ta g o gc lc pc ec ic n tc w hin hnm hgl hlk hpr he hr hzt hy k h c0 c1 c2 c3 c4 c5 c6
  · have e1 : mostI x k = 0 := by unfold mostI; rw [if_neg (by omega), if_neg (by omega), if_neg (by omega)]
    have e2 : termB x ⟨k, a, t, u⟩ = sameT t zT := by unfold termB; rw [if_neg (show ¬ (k = 1 ∨ k = 2) by omega)]
    rw [if_neg (show ¬ (k = 2 ∨ k = 3) by omega), e2]
    show Calls _ _ _ _ fun e w' => e = .returned (.bool (decide (0 ≤ a ∧ a ≤ mostI x k) && _)) ∧ _
    rw [e1]
    exact specIns_skip x i a u t ga la pa ea ta g o gc lc pc ec ic n tc w hin hnm hgl hlk hpr he hr hzt hy k h c0 c1 c2 c3 c4 c5 c6
set_option maxRecDepth 20000 in
set_option maxHeartbeats 1600000 in
theorem specCodeOk_any (x : KTree) (v : Value) (w : World) (hl : KIn w x v) (hz : szK x ≤ 1048576) :
    Calls Tryz.prog 48 #[v] w fun e w' => e = .returned (.bool (okK x)) ∧ Below w.heap.size w w' := by
  have CH := Lib.hid (fun wx (hb : Below w.heap.size w wx) => specHeads_any x v wx (hl.keep (keeps_below hb)))
  obtain ⟨ga, gc, la, lc, pa, pc, ea, ec, ia, ic, rfl, h1, h2, h3, h4, h5, _⟩ := hl
  have hzi : szIs x.ins ≤ 1048576 := by unfold szK at hz; omega
  obtain ⟨n, hn⟩ : ∃ n, n = x.ins.length := ⟨_, rfl⟩
  have HNL := Lib.hid hn
  rw [← hn] at h5 CH ⊢
  have hlm : n ≤ 9223372036854775807 := by rw [hn]; exact h5.1
  have CI := Lib.hid (fun wx (hb : Below w.heap.size w wx) i hi hr => specIns_any x i ga la pa ea ia gc lc pc ec ic n wx hi hn (h1.keep (keeps_below hb)) (h2.keep (keeps_below hb)) (h3.keep (keeps_below hb)) (h4.keep (keeps_below hb)) (h5.keep (keeps_below hb)) hr hzi)
  have HRI : Hid (kHeads x = true → Ris x.entry n) := fun h => by have := (kHeads_ent h).1.1; rw [← hn] at this; exact this
  have HB : Hid (okK x = (kHeads x && okIns x 0 (x.ins.drop 0))) := rfl
  have X0 := Lib.hid (Box5.new w (.slice ga x.globals.length gc) (.slice la x.locks.length lc) (.slice pa x.procs.length pc) (.slice ea x.entry.length ec) (.slice ia n ic) 32)
  have B0 := Lib.hid ((Below.refl w.heap.size w).alloc (Nat.le_refl _) (.cells #[.slice ga x.globals.length gc, .slice la x.locks.length lc, .slice pa x.procs.length pc, .slice ea x.entry.length ec, .slice ia n ic] 32))
  obtain ⟨rr, hrr⟩ : ∃ b, okK x = b := ⟨_, rfl⟩
  obtain ⟨hd, hhd⟩ : ∃ b, kHeads x = b := ⟨_, rfl⟩
  rw [hrr, hhd] at HB
  rw [hhd] at CH HRI
  rw [hrr]
  clear h1 h2 h3 h4 h5 hz hzi hn hrr hhd
  obtain ⟨W1, hW1⟩ : ∃ W, W = w.alloc (.cells #[.slice ga x.globals.length gc, .slice la x.locks.length lc, .slice pa x.procs.length pc, .slice ea x.entry.length ec, .slice ia n ic] 32) := ⟨_, rfl⟩
  obtain ⟨p0, p1, p2, p3, p4⟩ := X0.out
  rw [← hW1] at X0 B0
  have HW1 := Lib.hid hW1
  clear hW1
  go_enter Tryz.func48, Tryz.ntmps48
  go_wp2_with fail
  rw [← HW1.out] at p0 p1 p2 p3 p4 ⊢
  refine (CH.out _ B0.out).mono ?_
  rintro e w2 ⟨rfl, hb⟩
  have B2 := Lib.hid (B0.out.trans (hb.mono B0.out.size))
  have X2 := Lib.hid (X0.out.keep (keeps_below hb))
  clear hb p0 p1 p2 p3 p4
  obtain ⟨p0, p1, p2, p3, p4⟩ := X2.out
  cases hd with
  | false =>
    have HF : Hid (rr = false) := by show _ = _; rw [HB.out]; rfl
    go_wp2_with fail
    go_ret
    exact ⟨ret_b (by rw [HF.out]), B2.out⟩
  | true =>
    have HR := Lib.hid (HRI.out (by first | rfl | trivial))
    have HB2 : Hid (rr = okIns x 0 (x.ins.drop 0)) := by show _ = _; rw [HB.out]; rfl
    go_wp2_with fail
    clear p0 p1 p2 p3 p4
    go_loopw [3] (fun i wr => ∃ (j : Nat), j ≤ n ∧ i = .int .i64 j ∧ Hid (rr = okIns x j (x.ins.drop j)) ∧ Hid (Box5 wr w.heap.size (.slice ga x.globals.length gc) (.slice la x.locks.length lc) (.slice pa x.procs.length pc) (.slice ea x.entry.length ec) (.slice ia n ic)) ∧ Hid (Below w.heap.size w wr))
      (fun i _ => n - (intOf i).toNat)
    case atStart => exact ⟨0, Nat.zero_le _, rfl, HB2.out, X2.out, B2.out⟩
    case round =>
      obtain ⟨j, hj, rfl, hrr, hbx, hbe⟩ := hrel
      obtain ⟨p0, p1, p2, p3, p4⟩ := hbx.out
      by_cases hlt : j < n
      · have hlt2 : j < x.ins.length := by have := HNL.out; omega
        have hdr := okIns_drop (x := x) hlt2
        have C := Lib.hid (CI.out wr hbe.out j hlt2 HR.out)
        obtain ⟨ob, hob⟩ : ∃ b, okIn x j x.ins[j] = b := ⟨_, rfl⟩
        rw [hob] at C hdr
        have HD : Hid (rr = (ob && okIns x (j + 1) (x.ins.drop (j + 1)))) := by show _ = _; rw [hrr.out, hdr]
        clear hob hdr
        cases ob with
        | false =>
          have HF : Hid (rr = false) := by show _ = _; rw [HD.out]; rfl
          go_wp2_with fail
          refine C.out.mono ?_
          rintro e w3 ⟨rfl, hb⟩
          have B3 := Lib.hid (hbe.out.trans (hb.mono hbe.out.size))
          clear hb
          go_wp2_with fail
          go_ret
          exact ⟨ret_b (by rw [HF.out]), B3.out⟩
        | true =>
          have HF : Hid (rr = okIns x (j + 1) (x.ins.drop (j + 1))) := by show _ = _; rw [HD.out]; rfl
          go_wp2_with fail
          refine C.out.mono ?_
          rintro e w3 ⟨rfl, hb⟩
          have B3 := Lib.hid (hbe.out.trans (hb.mono hbe.out.size))
          have X3 := Lib.hid (hbx.out.keep (keeps_below hb))
          clear hb p0 p1 p2 p3 p4
          go_wp2_with fail
          go_roundw
          case rel => exact ⟨j + 1, by omega, by go_num, HF.out, X3.out, B3.out⟩
          case measure => simp [intOf]; omega
      · have HF : Hid (rr = true) := by show _ = _; rw [hrr.out, okIns_end (by have := HNL.out; omega)]
        go_wp2_with fail
        go_ret
        exact ⟨ret_b (by rw [HF.out]), hbe.out⟩
end Go.Proofs.YtmhhghdfgdhljaaGreatDoor.Trm
