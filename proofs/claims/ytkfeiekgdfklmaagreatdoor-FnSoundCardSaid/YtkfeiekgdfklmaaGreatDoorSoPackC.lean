/- What the names of a statement come to as a list, and their number. Without conditions. With what it stands on, in one text. -/
import Derived.Test.YtkfeiekgdfklmaaGreatDoorSoPackB
import Derived.Deep.RegionWith
import Derived.Test.YtkfeiekgdfklmaaGreatDoorChecked
import Derived.Test.YtkfeiekgdfklmaaGreatDoorLists
import Derived.Test.YtkfeiekgdfklmaaGreatDoorTermSame
import Derived.OwnWalk
import Derived.WalkSmall
import Derived.Outline
import Derived.Test.YtkfeiekgdfklmaaGreatDoorPTrees
import Derived.Test.YtkfeiekgdfklmaaGreatDoorVarsT
import Derived.Test.YtkfeiekgdfklmaaGreatDoorSoPackA
import Derived.Test.YtkfeiekgdfklmaaGreatDoorTrees
import Derived.WalkKit
import Derived.LaidEql
import Derived.Stop.Asserts
import Derived.RowKitTokens
import Derived.Maps.AppendAt
import Derived.Laws.AppendOwnNone
/- The model's l07Twice, walked. Conditions: the list lies in memory. -/
namespace Go.Proofs.YtkfeiekgdfklmaaGreatDoor.Trm
open Go.RowKit Own
theorem specTwice_any (ns : List ByteArray) (nv : Value) (w : World) (h : StrsAt w ns nv) (hcap : CapOk nv ns.length) :
    Calls Tryz.prog 37 #[nv] w fun e w' => e = .returned (.bool (twiceB ns)) ∧ Below w.heap.size w w' := by
  obtain ⟨a, c, rfl, hc⟩ := hcap
  obtain ⟨a2, c2, e2, h1, h2⟩ := id h
  simp at e2
  obtain ⟨rfl, rfl⟩ := e2
  have HH := Lib.hid h
  have HN := Lib.hid h2
  have HL := Lib.hid h1
  have HTY : Hid (∀ i (hi : i < ns.length), ns[i] ∈ ns.take i → twiceB ns = true) := fun i hi h => twiceB_yes h
  have HTN : Hid ((∀ i (hi : i < ns.length), ¬ ns[i] ∈ ns.take i) → twiceB ns = false) := twiceB_no
  generalize twiceB ns = tb at HTY HTN ⊢
  clear h1 h2 h
  go_enter Tryz.func37, Tryz.ntmps37
  go_wp2
  go_loopw [3] (fun i wr => ∃ j : Nat, j ≤ ns.length ∧ i = .int .i64 j ∧ Hid (∀ k (hk : k < ns.length), k < j → ¬ ns[k] ∈ ns.take k) ∧ Hid (Below w.heap.size w wr))
    (fun i _ => ns.length - (intOf i).toNat)
  case atStart => exact ⟨0, Nat.zero_le _, rfl, fun _ _ h => by omega, Below.refl _ _⟩
  case round =>
    obtain ⟨j, hj, rfl, hno, hbe⟩ := hrel
    have hL := HL.out
    by_cases hlt : j < ns.length
    · obtain ⟨g, o, rfl, h3⟩ := HN.out (by omega)
      have c0 := keeps_below hbe.out _ _ (h3 j hlt)
      have c0d : wr.drew.cell? ⟨g, o + j, none⟩ = some (.string ns[j]) := c0
      have hjc : (j : Int) ≤ (c : Int) := by omega
      have hj0 : (0 : Int) ≤ (j : Int) := by omega
      clear h3
      by_cases he : ns[j] ∈ ns.take j
      · have C := Lib.hid (fun wx (hb : Below wr.heap.size wr wx) => specHasL_any (ns.take j) (.slice (some ⟨g, o, none⟩) j c) ns[j] wx ((strsAt_take HH.out hj).keep (keeps_below (hbe.out.trans (hb.mono hbe.out.size)))) true ⟨fun _ => he, fun _ => rfl⟩)
        have HT : Hid (tb = true) := HTY.out j hlt he
        have hb0 : Below wr.heap.size wr wr.drew := (Below.refl _ _).drew
        clear he
        go_wp2_with fail
        go_region_with (first
          | (go_at_call 47; refine (C.out _ (by assumption)).mono ?_; rintro e w2 ⟨rfl, rfl⟩))
        all_goals
          go_wp2_with fail
          go_ret
          exact ⟨by rw [HT.out]; rfl, hbe.out.drew⟩
      · have C := Lib.hid (fun wx (hb : Below wr.heap.size wr wx) => specHasL_any (ns.take j) (.slice (some ⟨g, o, none⟩) j c) ns[j] wx ((strsAt_take HH.out hj).keep (keeps_below (hbe.out.trans (hb.mono hbe.out.size)))) false ⟨fun h => (Bool.noConfusion h), fun h => absurd h he⟩)
        have HNO : Hid (∀ k (hk : k < ns.length), k < j + 1 → ¬ ns[k] ∈ ns.take k) := fun k hk h => by
          rcases Nat.lt_or_ge k j with h' | h'
          · exact hno.out k hk h'
          · have : k = j := by omega
            subst this; exact he
        have hb0 : Below wr.heap.size wr wr.drew := (Below.refl _ _).drew
        clear he
        go_wp2_with fail
        go_region_with (first
          | (go_at_call 47; refine (C.out _ (by assumption)).mono ?_; rintro e w2 ⟨rfl, rfl⟩))
        all_goals
          go_wp2_with fail
          go_roundw
          case rel => exact ⟨j + 1, by omega, by go_num, HNO.out, hbe.out.drew⟩
          case measure => simp [intOf]; omega
    · have HF : Hid (tb = false) := HTN.out (fun k hk => hno.out k hk (by omega))
      go_wp2
      go_ret
      exact ⟨by rw [HF.out]; rfl, hbe.out⟩
end Go.Proofs.YtkfeiekgdfklmaaGreatDoor.Trm
/- The library's search for a text in a row of texts, walked. Conditions: the row lies in memory. -/
namespace Go.Proofs.YtkfeiekgdfklmaaGreatDoor.Trm
open Go.RowKit Own
/-- Where a text stands first. -/
def IdxI (ns : List ByteArray) (s : ByteArray) (x : Int) : Prop := (∃ (i : Nat) (h : i < ns.length), x = i ∧ ns[i] = s ∧ ∀ j (hj : j < ns.length), j < i → ns[j] ≠ s) ∨ (x = -1 ∧ ∀ j (hj : j < ns.length), ns[j] ≠ s)
theorem implIndex_any (ns : List ByteArray) (s : ByteArray) (nv : Value) (w : World) (hn : StrsAt w ns nv) :
    Calls Tryz.prog 99 #[nv, .string s] w fun e w' => ∃ x, e = .returned (.int .i64 x) ∧ IdxI ns s x ∧ w = w' := by
  obtain ⟨na, nc, rfl, hn1, hn2⟩ := hn
  have HN := Lib.hid hn2
  clear hn2
  go_enter Tryz.func99, Tryz.ntmps99
  go_wp2
  go_loopw [8] (fun i wr => ∃ (j : Nat), j ≤ ns.length ∧ i = .int .i64 j ∧ Hid (∀ i (h : i < ns.length), i < j → ns[i] ≠ s) ∧ wr = w)
    (fun i _ => ns.length - (intOf i).toNat)
  case atStart => exact ⟨0, Nat.zero_le _, rfl, fun i _ h => by omega, rfl⟩
  case round =>
    obtain ⟨j, hj, rfl, hne, rfl⟩ := hrel
    by_cases hlt : j < ns.length
    · obtain ⟨g, o, rfl, hcell⟩ := HN.out (by omega)
      have c0 := hcell j hlt
      clear hcell
      by_cases he : ns[j] = s
      · have HX : Hid (IdxI ns s j) := .inl ⟨j, hlt, rfl, he, hne.out⟩
        rw [he] at c0
        clear he
        go_wp2
        go_ret
        exact ⟨_, rfl, HX.out, rfl⟩
      · have hq := bytes_ne (fun e => he e.symm)
        have HS : Hid (∀ i (h : i < ns.length), i < j + 1 → ns[i] ≠ s) := fun i h hi => by
          rcases Nat.lt_or_ge i j with h1 | h1
          · exact hne.out i h h1
          · obtain rfl : i = j := by omega
            exact he
        clear he
        go_wp2
        go_roundw
        case rel => exact ⟨j + 1, by omega, by go_num, HS, by first | rfl | trivial⟩
        case measure => simp [intOf]; omega
    · have HX : Hid (IdxI ns s (-1)) := .inr ⟨rfl, fun j h => hne.out j h (by omega)⟩
      go_wp2
      go_ret
      exact ⟨_, rfl, HX.out, rfl⟩
end Go.Proofs.YtkfeiekgdfklmaaGreatDoor.Trm
/- Where something is met first in a row. Without conditions: no Go text is spoken of here. -/
namespace Go.Proofs.YtkfeiekgdfklmaaGreatDoor.Trm
open Go.RowKit Own
def IdxG (n : Nat) (hit : Nat → Prop) (x : Int) : Prop := (∃ i : Nat, i < n ∧ x = (i : Int) ∧ hit i ∧ ∀ j, j < i → ¬ hit j) ∨ (x = -1 ∧ ∀ j, j < n → ¬ hit j)
theorem IdxG.uni {n : Nat} {hit : Nat → Prop} {x y : Int} (h : IdxG n hit x) (h2 : IdxG n hit y) : x = y := by
  rcases h with ⟨i, hi, rfl, hh, hf⟩ | ⟨rfl, hf⟩
  · rcases h2 with ⟨k, hk, rfl, hh2, hf2⟩ | ⟨rfl, hf2⟩
    · rcases Nat.lt_trichotomy i k with h | h | h
      · exact absurd hh (hf2 i h)
      · rw [h]
      · exact absurd hh2 (hf k h)
    · exact absurd hh (hf2 i hi)
  · rcases h2 with ⟨k, hk, rfl, hh2, hf2⟩ | ⟨rfl, hf2⟩
    · exact absurd hh2 (hf k hk)
    · rfl
theorem IdxG.upto (hit : Nat → Prop) : ∀ n, (∃ i : Nat, i < n ∧ hit i ∧ ∀ j, j < i → ¬ hit j) ∨ ∀ j, j < n → ¬ hit j
  | 0 => .inr fun j h => absurd h (Nat.not_lt_zero j)
  | n + 1 => by
    rcases IdxG.upto hit n with ⟨i, hi, hh, hf⟩ | hf
    · exact .inl ⟨i, by omega, hh, hf⟩
    · by_cases h : hit n
      · exact .inl ⟨n, by omega, h, hf⟩
      · refine .inr fun j hj => ?_
        rcases Nat.lt_or_ge j n with h1 | h1
        · exact hf j h1
        · obtain rfl : j = n := by omega
          exact h
theorem IdxG.ex (n : Nat) (hit : Nat → Prop) : ∃ x, IdxG n hit x := by
  rcases IdxG.upto hit n with ⟨i, hi, hh, hf⟩ | hf
  · exact ⟨i, .inl ⟨i, hi, rfl, hh, hf⟩⟩
  · exact ⟨-1, .inr ⟨rfl, hf⟩⟩
def hitN (ns : List ByteArray) (s : ByteArray) (i : Nat) : Prop := ∃ h : i < ns.length, ns[i] = s
def hitP (ps : List PrT) (s : ByteArray) (i : Nat) : Prop := ∃ h : i < ps.length, ps[i].name = s
theorem idxG_of {ns : List ByteArray} {s : ByteArray} {x : Int} (h : IdxI ns s x) : IdxG ns.length (hitN ns s) x := by
  rcases h with ⟨i, hi, rfl, he, hf⟩ | ⟨rfl, hf⟩
  · exact .inl ⟨i, hi, rfl, ⟨hi, he⟩, fun j hj ⟨hl, e⟩ => hf j hl hj e⟩
  · exact .inr ⟨rfl, fun j _ ⟨hl, e⟩ => hf j hl e⟩
theorem ret_iP {a b : Int} (h : a = b) : Ending.returned (.int .i64 a) = .returned (.int .i64 b) := by rw [h]
end Go.Proofs.YtkfeiekgdfklmaaGreatDoor.Trm
/- ProcAt of both sides, walked. Conditions: the program lies in memory. -/
namespace Go.Proofs.YtkfeiekgdfklmaaGreatDoor.Trm
open Go.RowKit Own
theorem specProc_any (x : PTree) (s : ByteArray) (v : Value) (w : World) (hl : PLies w x v) :
    Calls Tryz.prog 39 #[v, .string s] w fun e w' => ∃ n, e = .returned (.int .i64 n) ∧ IdxG x.procs.length (hitP x.procs s) n ∧ Below w.heap.size w w' := by
  obtain ⟨ga, gc, la, lc, pa, pc, rfl, _, _, h3⟩ := hl
  obtain ⟨hlen, a, cap, e, hk⟩ := h3
  cases e
  generalize x.procs = ps at hlen hk
  have HK := Lib.hid hk
  have X0 := Lib.hid (Box3.new w (.slice ga x.globals.length gc) (.slice la x.locks.length lc) (.slice pa ps.length pc) 27)
  have B0 := Lib.hid ((Below.refl w.heap.size w).alloc (Nat.le_refl _) (.cells #[.slice ga x.globals.length gc, .slice la x.locks.length lc, .slice pa ps.length pc] 27))
  clear hk
  go_enter Tryz.func39, Tryz.ntmps39
  go_wp2
  go_loopw [5] (fun i wr => ∃ (j : Nat), j ≤ ps.length ∧ i = .int .i64 j ∧ Hid (∀ i, i < j → ¬ hitP ps s i) ∧ Hid (Box3 wr w.heap.size (.slice ga x.globals.length gc) (.slice la x.locks.length lc) (.slice pa ps.length pc)) ∧ Hid (Below w.heap.size w wr))
    (fun i _ => ps.length - (intOf i).toNat)
  case atStart => exact ⟨0, Nat.zero_le _, rfl, fun i h => by omega, X0.out, B0.out⟩
  case round =>
    obtain ⟨j, hj, rfl, hne, hbx, hbe⟩ := hrel
    obtain ⟨p0, p1, p2⟩ := hbx.out
    by_cases hlt : j < ps.length
    · obtain ⟨g, o, rfl, hcell⟩ := HK.out (by omega)
      obtain ⟨_, ba, bc, c0, c1, _⟩ := (hcell j hlt).keep (keeps_below hbe.out)
      clear hcell
      by_cases he : ps[j].name = s
      · have HX : Hid (IdxG ps.length (hitP ps s) j) := .inl ⟨j, hlt, rfl, ⟨hlt, he⟩, hne.out⟩
        rw [he] at c0
        clear he
        go_wp2
        go_ret
        exact ⟨_, rfl, HX.out, hbe.out⟩
      · have hq := bytes_ne he
        have HS : Hid (∀ i, i < j + 1 → ¬ hitP ps s i) := fun i hi ⟨hl, e⟩ => by
          rcases Nat.lt_or_ge i j with h1 | h1
          · exact hne.out i h1 ⟨hl, e⟩
          · obtain rfl : i = j := by omega
            exact he e
        clear he
        go_wp2
        go_roundw
        case rel => exact ⟨j + 1, by omega, by go_num, HS, hbx, hbe⟩
        case measure => simp [intOf]; omega
    · have HX : Hid (IdxG ps.length (hitP ps s) (-1)) := .inr ⟨rfl, fun j h => hne.out j (by omega)⟩
      go_wp2
      go_ret
      exact ⟨_, rfl, HX.out, hbe.out⟩
def EqPost (p : PrT) (s : ByteArray) (w : World) (e : Ending) (w' : World) : Prop := ∃ b, e = .returned (.bool b) ∧ (b = true ↔ p.name = s) ∧ Below w.heap.size w w'
theorem implProcEq_any (p : PrT) (s : ByteArray) (g : Nat) (a : Option Addr) (n c : Nat) (w : World) (hg : w.cell? ⟨g, 0, none⟩ = some (.string s)) :
    Calls Tryz.prog 134 #[.agg #[.string p.name, .slice a n c], .pointer (some ⟨g, 0, none⟩)] w (EqPost p s w) := by
  have h1 := keeps_alloc w (.cells #[.string p.name, .slice a n c] 31) _ _ hg
  by_cases he : p.name = s
  · rw [← he] at h1
    have HB : Hid ((true : Bool) = true ↔ p.name = s) := by show _ ↔ _; simp [he]
    clear he hg
    go_enter Tryz.func134, Tryz.ntmps134
    go_wp2
    go_ret
    exact ⟨true, rfl, by simpa using HB.out, (Below.refl _ _).alloc (Nat.le_refl _) _⟩
  · have hq := bytes_ne he
    have HB : Hid ((false : Bool) = true ↔ p.name = s) := by show _ ↔ _; simp [he]
    clear he hg
    go_enter Tryz.func134, Tryz.ntmps134
    go_wp2
    go_ret
    exact ⟨false, rfl, by simpa using HB.out, (Below.refl _ _).alloc (Nat.le_refl _) _⟩
theorem implIdxF_any (ps : List PrT) (s : ByteArray) (q : Nat) (v : Value) (w : World) (hl : PrsAt w v ps) (hg : w.cell? ⟨q, 0, none⟩ = some (.string s)) :
    Calls Tryz.prog 133 #[v, .func (.func 134) #[] #[.pointer (some ⟨q, 0, none⟩)]] w fun e w' => ∃ n, e = .returned (.int .i64 n) ∧ IdxG ps.length (hitP ps s) n ∧ Below w.heap.size w w' := by
  obtain ⟨hlen, aa, cap, rfl, hk⟩ := hl
  have HK := Lib.hid hk
  have HG := Lib.hid hg
  clear hk hg
  go_enter Tryz.func133, Tryz.ntmps133
  go_wp2
  go_loopw [8] (fun i wr => ∃ (j : Nat), j ≤ ps.length ∧ i = .int .i64 j ∧ Hid (∀ i, i < j → ¬ hitP ps s i) ∧ Hid (Below w.heap.size w wr))
    (fun i _ => ps.length - (intOf i).toNat)
  case atStart => exact ⟨0, Nat.zero_le _, rfl, fun i h => by omega, Below.refl _ _⟩
  case round =>
    obtain ⟨j, hj, rfl, hne, hbe⟩ := hrel
    by_cases hlt : j < ps.length
    · obtain ⟨g, o, rfl, hcell⟩ := HK.out (by omega)
      obtain ⟨_, ba, bc, c0, c1, _⟩ := (hcell j hlt).keep (keeps_below hbe.out)
      have C := Lib.hid (implProcEq_any ps[j] s q ba ps[j].body.length bc wr (keeps_below hbe.out _ _ HG.out))
      clear hcell
      go_wp2_with fail
      refine C.out.mono ?_
      rintro e w1 ⟨b, rfl, hb, hbw⟩
      have HB := Lib.hid hb
      have HB1 := Lib.hid (hbe.out.trans (hbw.mono hbe.out.size))
      clear hb hbw
      cases b with
      | true =>
        have HX : Hid (IdxG ps.length (hitP ps s) j) := .inl ⟨j, hlt, rfl, ⟨hlt, HB.out.1 rfl⟩, hne.out⟩
        go_wp2
        go_ret
        exact ⟨_, rfl, HX.out, HB1.out⟩
      | false =>
        have HS : Hid (∀ i, i < j + 1 → ¬ hitP ps s i) := fun i hi ⟨hl, e⟩ => by
          rcases Nat.lt_or_ge i j with h1 | h1
          · exact hne.out i h1 ⟨hl, e⟩
          · obtain rfl : i = j := by omega
            exact absurd (HB.out.2 e) (by simp)
        go_wp2
        go_roundw
        case rel => exact ⟨j + 1, by omega, by go_num, HS, HB1⟩
        case measure => simp [intOf]; omega
    · have HX : Hid (IdxG ps.length (hitP ps s) (-1)) := .inr ⟨rfl, fun j h => hne.out j (by omega)⟩
      go_wp2
      go_ret
      exact ⟨_, rfl, HX.out, hbe.out⟩
theorem implProc_any (x : PTree) (s : ByteArray) (v : Value) (w : World) (hl : PLies w x v) :
    Calls Tryz.prog 89 #[v, .string s] w fun e w' => ∃ n, e = .returned (.int .i64 n) ∧ IdxG x.procs.length (hitP x.procs s) n ∧ Below w.heap.size w w' := by
  obtain ⟨ga, gc, la, lc, pa, pc, rfl, _, _, h3⟩ := hl
  have C := Lib.hid (fun w2 (hb : Below w.heap.size w w2) hg => implIdxF_any x.procs s (w.heap.size + 1) (.slice pa x.procs.length pc) w2 (h3.keep (keeps_below hb)) hg)
  clear h3
  go_enter Tryz.func89, Tryz.ntmps89
  go_wp2_with fail
  refine (C.out _ (((Below.refl _ _).alloc (Nat.le_refl _) _).alloc (by simp) _) (by simp [go_sem])).mono ?_
  rintro e w1 ⟨n, rfl, hx, hb⟩
  have HX := Lib.hid hx
  have HB := Lib.hid (below_box1 (below_box1 hb))
  clear hx hb
  go_wp2
  go_ret
  exact ⟨_, rfl, HX.out, HB.out⟩
end Go.Proofs.YtkfeiekgdfklmaaGreatDoor.Trm
/- The model's ProgFault, walked. Conditions: the program lies in memory; it has at most 2 to the 20 names and statements. -/
namespace Go.Proofs.YtkfeiekgdfklmaaGreatDoor.Trm
open Go.RowKit Own
/-- Lists whose room is what Go asks. -/
def PCap (x : PTree) (v : Value) : Prop := ∃ ga gc la lc pv, v = .agg #[.slice ga x.globals.length gc, .slice la x.locks.length lc, pv] ∧ x.globals.length ≤ gc ∧ x.locks.length ≤ lc
theorem POwn.cap {w : World} {x : PTree} {v : Value} (h : POwn w x v) : PCap x v := by
  obtain ⟨ga, gc, la, lc, pa, pc, rfl, _, _, _, h1, h2⟩ := h
  exact ⟨_, _, _, _, _, rfl, h1.1, h2.1⟩
open Classical in
noncomputable def faultI (x : PTree) : Int :=
  if okP x = false then 1 else if (twiceB x.globals || (twiceB x.locks || twiceB (procNs x.procs))) = true then 2 else if unkIn x ≠ [] then 3 else if ¬ mainB ∈ procNs x.procs then 4 else 0
theorem idx_neg {ps : List PrT} {s : ByteArray} {n : Int} (h : IdxG ps.length (hitP ps s) n) : n < 0 ↔ ¬ s ∈ procNs ps := by
  rcases h with ⟨i, hi, rfl, ⟨h1, h2⟩, _⟩ | ⟨rfl, h⟩
  · constructor
    · intro h; omega
    · intro h
      exact absurd (List.mem_map.2 ⟨ps[i], List.getElem_mem h1, h2⟩) h
  · constructor
    · intro _ hm
      obtain ⟨p, hp, e⟩ := List.mem_map.1 hm
      obtain ⟨i, hi, e2⟩ := List.getElem_of_mem hp
      exact h i hi ⟨hi, by rw [e2]; exact e⟩
    · intro _; omega
set_option maxRecDepth 20000 in
set_option maxHeartbeats 3200000 in
theorem specFault_any (x : PTree) (v : Value) (w : World) (hz : szP x ≤ 1048576) (hp : PLies w x v) (hc : PCap x v) :
    Calls Tryz.prog 10 #[v] w fun e w' => e = .returned (.int .i64 (faultI x)) ∧ Below w.heap.size w w' := by
  obtain ⟨ga, gc, la, lc, pa, pc, rfl, hpg, hpk, _⟩ := id hp
  obtain ⟨ga2, gc2, la2, lc2, pv, e, hcg, hcl⟩ := hc
  simp at e
  obtain ⟨⟨rfl, rfl⟩, ⟨rfl, rfl⟩, rfl⟩ := e
  have hpl : x.procs.length ≤ 8000000 := by unfold szP at hz; omega
  have CO := Lib.hid (fun wx (hb : Below w.heap.size w wx) => specProgOk_any x _ wx (hp.keep (keeps_below hb)))
  have CT1 := Lib.hid (fun wx (hb : Below w.heap.size w wx) => specTwice_any x.globals (.slice ga x.globals.length gc) wx (hpg.1.keep (keeps_below hb)) ⟨ga, gc, rfl, hcg⟩)
  have CT2 := Lib.hid (fun wx (hb : Below w.heap.size w wx) => specTwice_any x.locks (.slice la x.locks.length lc) wx (hpk.1.keep (keeps_below hb)) ⟨la, lc, rfl, hcl⟩)
  have CP := Lib.hid (fun wx (hb : Below w.heap.size w wx) => specProcs_any x _ wx hpl (hp.keep (keeps_below hb)))
  have CT3 := Lib.hid (fun wx kv hk hc => specTwice_any (procNs x.procs) kv wx hk hc)
  have CU := Lib.hid (fun wx (hb : Below w.heap.size w wx) => specUnkIn_any x _ wx hz (hp.keep (keeps_below hb)))
  have CM := Lib.hid (fun wx (hb : Below w.heap.size w wx) => specProc_any x mainB _ wx (hp.keep (keeps_below hb)))
  have hb0 : Below w.heap.size w (w.alloc (.cells #[.slice ga x.globals.length gc, .slice la x.locks.length lc, .slice pa x.procs.length pc] 27)) := (Below.refl w.heap.size w).alloc (Nat.le_refl _) _
  have X0 := Lib.hid (Box3.new w (.slice ga x.globals.length gc) (.slice la x.locks.length lc) (.slice pa x.procs.length pc) 27)
  have HF : Hid (faultI x = if okP x = false then 1 else if (twiceB x.globals || (twiceB x.locks || twiceB (procNs x.procs))) = true then 2 else if unkIn x ≠ [] then 3 else @ite _ (¬ mainB ∈ procNs x.procs) (Classical.propDecidable _) 4 0) := by show _ = _; unfold faultI; congr
  obtain ⟨W1, hW1⟩ : ∃ w1, w1 = w.alloc (.cells #[.slice ga x.globals.length gc, .slice la x.locks.length lc, .slice pa x.procs.length pc] 27) := ⟨_, rfl⟩
  rw [← hW1] at hb0 X0
  have HB0 := Lib.hid hb0
  obtain ⟨p0, p1, p2⟩ := X0.out
  have HW1 := Lib.hid hW1
  generalize faultI x = fi at HF ⊢
  clear hpg hpk hp hz hb0
  obtain ⟨ok, hok⟩ : ∃ b, okP x = b := ⟨_, rfl⟩
  obtain ⟨t1, ht1⟩ : ∃ b, twiceB x.globals = b := ⟨_, rfl⟩
  obtain ⟨t2, ht2⟩ : ∃ b, twiceB x.locks = b := ⟨_, rfl⟩
  obtain ⟨t3, ht3⟩ : ∃ b, twiceB (procNs x.procs) = b := ⟨_, rfl⟩
  have HFF := HF.out
  rw [hok, ht1, ht2, ht3] at HFF
  rw [hok] at CO
  rw [ht1] at CT1
  rw [ht2] at CT2
  rw [ht3] at CT3
  clear hok ht1 ht2 ht3 HF
  cases ok with
  | false =>
    have HR : Hid (fi = 1) := by show _ = _; rw [HFF]; simp
    clear HFF
    rw [HW1.out] at p0 p1 p2
    go_enter Tryz.func10, Tryz.ntmps10
    go_wp2_with fail
    rw [← HW1.out] at p0 p1 p2
    rw [← HW1.out]
    refine (CO.out _ HB0.out).mono ?_
    rintro e w2 ⟨rfl, hb2⟩
    have HB2 := Lib.hid (HB0.out.trans (hb2.mono HB0.out.size))
    obtain ⟨p0, p1, p2⟩ := X0.out.keep (keeps_below hb2)
    have X2 := Lib.hid (X0.out.keep (keeps_below hb2))
    clear hb2
    go_wp2
    go_ret
    exact ⟨by rw [HR.out]; rfl, HB2.out⟩
  | true =>
    cases t1 with
    | true =>
      have HR : Hid (fi = 2) := by show _ = _; rw [HFF]; simp
      clear HFF
      rw [HW1.out] at p0 p1 p2
      go_enter Tryz.func10, Tryz.ntmps10
      go_wp2_with fail
      rw [← HW1.out] at p0 p1 p2
      rw [← HW1.out]
      refine (CO.out _ HB0.out).mono ?_
      rintro e w2 ⟨rfl, hb2⟩
      have HB2 := Lib.hid (HB0.out.trans (hb2.mono HB0.out.size))
      obtain ⟨p0, p1, p2⟩ := X0.out.keep (keeps_below hb2)
      have X2 := Lib.hid (X0.out.keep (keeps_below hb2))
      clear hb2
      go_wp2_with fail
      refine (CT1.out _ HB2.out).mono ?_
      rintro e w3 ⟨rfl, hb3⟩
      have HB3 := Lib.hid (HB2.out.trans (hb3.mono HB2.out.size))
      have X3 := Lib.hid (X2.out.keep (keeps_below hb3))
      obtain ⟨p0, p1, p2⟩ := X3.out
      clear hb3
      go_wp2
      go_ret
      exact ⟨by rw [HR.out]; rfl, HB3.out⟩
    | false =>
      cases t2 with
      | true =>
        have HR : Hid (fi = 2) := by show _ = _; rw [HFF]; simp
        clear HFF
        rw [HW1.out] at p0 p1 p2
        go_enter Tryz.func10, Tryz.ntmps10
        go_wp2_with fail
        rw [← HW1.out] at p0 p1 p2
        rw [← HW1.out]
        refine (CO.out _ HB0.out).mono ?_
        rintro e w2 ⟨rfl, hb2⟩
        have HB2 := Lib.hid (HB0.out.trans (hb2.mono HB0.out.size))
        obtain ⟨p0, p1, p2⟩ := X0.out.keep (keeps_below hb2)
        have X2 := Lib.hid (X0.out.keep (keeps_below hb2))
        clear hb2
        go_wp2_with fail
        refine (CT1.out _ HB2.out).mono ?_
        rintro e w3 ⟨rfl, hb3⟩
        have HB3 := Lib.hid (HB2.out.trans (hb3.mono HB2.out.size))
        have X3 := Lib.hid (X2.out.keep (keeps_below hb3))
        obtain ⟨p0, p1, p2⟩ := X3.out
        clear hb3
        go_wp2_with fail
        refine (CT2.out _ HB3.out).mono ?_
        rintro e w4 ⟨rfl, hb4⟩
        have HB4 := Lib.hid (HB3.out.trans (hb4.mono HB3.out.size))
        have X4 := Lib.hid (X3.out.keep (keeps_below hb4))
        obtain ⟨p0, p1, p2⟩ := X4.out
        clear hb4
        go_wp2
        go_ret
        exact ⟨by rw [HR.out]; rfl, HB4.out⟩
      | false =>
        cases t3 with
        | true =>
          have HR : Hid (fi = 2) := by show _ = _; rw [HFF]; simp
          clear HFF
          rw [HW1.out] at p0 p1 p2
          go_enter Tryz.func10, Tryz.ntmps10
          go_wp2_with fail
          rw [← HW1.out] at p0 p1 p2
          rw [← HW1.out]
          refine (CO.out _ HB0.out).mono ?_
          rintro e w2 ⟨rfl, hb2⟩
          have HB2 := Lib.hid (HB0.out.trans (hb2.mono HB0.out.size))
          obtain ⟨p0, p1, p2⟩ := X0.out.keep (keeps_below hb2)
          have X2 := Lib.hid (X0.out.keep (keeps_below hb2))
          clear hb2
          go_wp2_with fail
          refine (CT1.out _ HB2.out).mono ?_
          rintro e w3 ⟨rfl, hb3⟩
          have HB3 := Lib.hid (HB2.out.trans (hb3.mono HB2.out.size))
          have X3 := Lib.hid (X2.out.keep (keeps_below hb3))
          obtain ⟨p0, p1, p2⟩ := X3.out
          clear hb3
          go_wp2_with fail
          refine (CT2.out _ HB3.out).mono ?_
          rintro e w4 ⟨rfl, hb4⟩
          have HB4 := Lib.hid (HB3.out.trans (hb4.mono HB3.out.size))
          have X4 := Lib.hid (X3.out.keep (keeps_below hb4))
          obtain ⟨p0, p1, p2⟩ := X4.out
          clear hb4
          go_wp2_with fail
          refine (CP.out _ HB4.out).mono ?_
          rintro e w5 ⟨kv, rfl, hk5, hc5, hb5⟩
          have HB5 := Lib.hid (HB4.out.trans (hb5.mono HB4.out.size))
          have X5 := Lib.hid (X4.out.keep (keeps_below hb5))
          obtain ⟨p0, p1, p2⟩ := X5.out
          clear hb5
          obtain ⟨ka, kc, rfl, hkc⟩ := id hc5
          go_wp2_with fail
          refine (CT3.out _ _ hk5 hc5).mono ?_
          rintro e w6 ⟨rfl, hb6⟩
          have HB6 := Lib.hid (HB5.out.trans (hb6.mono HB5.out.size))
          have X6 := Lib.hid (X5.out.keep (keeps_below hb6))
          obtain ⟨p0, p1, p2⟩ := X6.out
          clear hb6
          go_wp2
          go_ret
          exact ⟨by rw [HR.out]; rfl, HB6.out⟩
        | false =>
          by_cases hu : unkIn x = []
          · by_cases hm : mainB ∈ procNs x.procs
            · have HR : Hid (fi = 0) := by show _ = _; rw [HFF]; simp [hu, hm]
              clear HFF
              have hul : ¬ (0 : Int) < ((unkIn x).length : Int) := by rw [hu]; simp
              clear hu
              rw [HW1.out] at p0 p1 p2
              go_enter Tryz.func10, Tryz.ntmps10
              go_wp2_with fail
              rw [← HW1.out] at p0 p1 p2
              rw [← HW1.out]
              refine (CO.out _ HB0.out).mono ?_
              rintro e w2 ⟨rfl, hb2⟩
              have HB2 := Lib.hid (HB0.out.trans (hb2.mono HB0.out.size))
              obtain ⟨p0, p1, p2⟩ := X0.out.keep (keeps_below hb2)
              have X2 := Lib.hid (X0.out.keep (keeps_below hb2))
              clear hb2
              go_wp2_with fail
              refine (CT1.out _ HB2.out).mono ?_
              rintro e w3 ⟨rfl, hb3⟩
              have HB3 := Lib.hid (HB2.out.trans (hb3.mono HB2.out.size))
              have X3 := Lib.hid (X2.out.keep (keeps_below hb3))
              obtain ⟨p0, p1, p2⟩ := X3.out
              clear hb3
              go_wp2_with fail
              refine (CT2.out _ HB3.out).mono ?_
              rintro e w4 ⟨rfl, hb4⟩
              have HB4 := Lib.hid (HB3.out.trans (hb4.mono HB3.out.size))
              have X4 := Lib.hid (X3.out.keep (keeps_below hb4))
              obtain ⟨p0, p1, p2⟩ := X4.out
              clear hb4
              go_wp2_with fail
              refine (CP.out _ HB4.out).mono ?_
              rintro e w5 ⟨kv, rfl, hk5, hc5, hb5⟩
              have HB5 := Lib.hid (HB4.out.trans (hb5.mono HB4.out.size))
              have X5 := Lib.hid (X4.out.keep (keeps_below hb5))
              obtain ⟨p0, p1, p2⟩ := X5.out
              clear hb5
              obtain ⟨ka, kc, rfl, hkc⟩ := id hc5
              go_wp2_with fail
              refine (CT3.out _ _ hk5 hc5).mono ?_
              rintro e w6 ⟨rfl, hb6⟩
              have HB6 := Lib.hid (HB5.out.trans (hb6.mono HB5.out.size))
              have X6 := Lib.hid (X5.out.keep (keeps_below hb6))
              obtain ⟨p0, p1, p2⟩ := X6.out
              clear hb6
              go_wp2_with fail
              refine (CU.out _ HB6.out).mono ?_
              rintro e w7 ⟨uv, rfl, hr7, hb7⟩
              have HB7 := Lib.hid (HB6.out.trans (hb7.mono HB6.out.size))
              have X7 := Lib.hid (X6.out.keep (keeps_below hb7))
              obtain ⟨p0, p1, p2⟩ := X7.out
              clear hb7
              obtain ⟨ua, uc, rfl, _⟩ := row_shape hr7
              clear hr7
              go_wp2_with fail
              refine (CM.out _ HB7.out).mono ?_
              rintro e w8 ⟨n, rfl, hn8, hb8⟩
              have HB8 := Lib.hid (HB7.out.trans (hb8.mono HB7.out.size))
              have X8 := Lib.hid (X7.out.keep (keeps_below hb8))
              obtain ⟨p0, p1, p2⟩ := X8.out
              clear hb8
              have hn := idx_neg hn8
              clear hn8
              have hnn : ¬ n < 0 := fun h => (hn.1 h) hm
              clear hn hm
              go_wp2
              go_ret
              exact ⟨by rw [HR.out]; rfl, HB8.out⟩
            · have HR : Hid (fi = 4) := by show _ = _; rw [HFF]; simp [hu, hm]
              clear HFF
              have hul : ¬ (0 : Int) < ((unkIn x).length : Int) := by rw [hu]; simp
              clear hu
              rw [HW1.out] at p0 p1 p2
              go_enter Tryz.func10, Tryz.ntmps10
              go_wp2_with fail
              rw [← HW1.out] at p0 p1 p2
              rw [← HW1.out]
              refine (CO.out _ HB0.out).mono ?_
              rintro e w2 ⟨rfl, hb2⟩
              have HB2 := Lib.hid (HB0.out.trans (hb2.mono HB0.out.size))
              obtain ⟨p0, p1, p2⟩ := X0.out.keep (keeps_below hb2)
              have X2 := Lib.hid (X0.out.keep (keeps_below hb2))
              clear hb2
              go_wp2_with fail
              refine (CT1.out _ HB2.out).mono ?_
              rintro e w3 ⟨rfl, hb3⟩
              have HB3 := Lib.hid (HB2.out.trans (hb3.mono HB2.out.size))
              have X3 := Lib.hid (X2.out.keep (keeps_below hb3))
              obtain ⟨p0, p1, p2⟩ := X3.out
              clear hb3
              go_wp2_with fail
              refine (CT2.out _ HB3.out).mono ?_
              rintro e w4 ⟨rfl, hb4⟩
              have HB4 := Lib.hid (HB3.out.trans (hb4.mono HB3.out.size))
              have X4 := Lib.hid (X3.out.keep (keeps_below hb4))
              obtain ⟨p0, p1, p2⟩ := X4.out
              clear hb4
              go_wp2_with fail
              refine (CP.out _ HB4.out).mono ?_
              rintro e w5 ⟨kv, rfl, hk5, hc5, hb5⟩
              have HB5 := Lib.hid (HB4.out.trans (hb5.mono HB4.out.size))
              have X5 := Lib.hid (X4.out.keep (keeps_below hb5))
              obtain ⟨p0, p1, p2⟩ := X5.out
              clear hb5
              obtain ⟨ka, kc, rfl, hkc⟩ := id hc5
              go_wp2_with fail
              refine (CT3.out _ _ hk5 hc5).mono ?_
              rintro e w6 ⟨rfl, hb6⟩
              have HB6 := Lib.hid (HB5.out.trans (hb6.mono HB5.out.size))
              have X6 := Lib.hid (X5.out.keep (keeps_below hb6))
              obtain ⟨p0, p1, p2⟩ := X6.out
              clear hb6
              go_wp2_with fail
              refine (CU.out _ HB6.out).mono ?_
              rintro e w7 ⟨uv, rfl, hr7, hb7⟩
              have HB7 := Lib.hid (HB6.out.trans (hb7.mono HB6.out.size))
              have X7 := Lib.hid (X6.out.keep (keeps_below hb7))
              obtain ⟨p0, p1, p2⟩ := X7.out
              clear hb7
              obtain ⟨ua, uc, rfl, _⟩ := row_shape hr7
              clear hr7
              go_wp2_with fail
              refine (CM.out _ HB7.out).mono ?_
              rintro e w8 ⟨n, rfl, hn8, hb8⟩
              have HB8 := Lib.hid (HB7.out.trans (hb8.mono HB7.out.size))
              have X8 := Lib.hid (X7.out.keep (keeps_below hb8))
              obtain ⟨p0, p1, p2⟩ := X8.out
              clear hb8
              have hn := idx_neg hn8
              clear hn8
              have hnn : n < 0 := hn.2 hm
              clear hn hm
              go_wp2
              go_ret
              exact ⟨by rw [HR.out]; rfl, HB8.out⟩
          · have HR : Hid (fi = 3) := by show _ = _; rw [HFF]; simp [hu]
            clear HFF
            have hul : (0 : Int) < ((unkIn x).length : Int) := by have := List.length_pos_iff.2 hu; omega
            clear hu
            rw [HW1.out] at p0 p1 p2
            go_enter Tryz.func10, Tryz.ntmps10
            go_wp2_with fail
            rw [← HW1.out] at p0 p1 p2
            rw [← HW1.out]
            refine (CO.out _ HB0.out).mono ?_
            rintro e w2 ⟨rfl, hb2⟩
            have HB2 := Lib.hid (HB0.out.trans (hb2.mono HB0.out.size))
            obtain ⟨p0, p1, p2⟩ := X0.out.keep (keeps_below hb2)
            have X2 := Lib.hid (X0.out.keep (keeps_below hb2))
            clear hb2
            go_wp2_with fail
            refine (CT1.out _ HB2.out).mono ?_
            rintro e w3 ⟨rfl, hb3⟩
            have HB3 := Lib.hid (HB2.out.trans (hb3.mono HB2.out.size))
            have X3 := Lib.hid (X2.out.keep (keeps_below hb3))
            obtain ⟨p0, p1, p2⟩ := X3.out
            clear hb3
            go_wp2_with fail
            refine (CT2.out _ HB3.out).mono ?_
            rintro e w4 ⟨rfl, hb4⟩
            have HB4 := Lib.hid (HB3.out.trans (hb4.mono HB3.out.size))
            have X4 := Lib.hid (X3.out.keep (keeps_below hb4))
            obtain ⟨p0, p1, p2⟩ := X4.out
            clear hb4
            go_wp2_with fail
            refine (CP.out _ HB4.out).mono ?_
            rintro e w5 ⟨kv, rfl, hk5, hc5, hb5⟩
            have HB5 := Lib.hid (HB4.out.trans (hb5.mono HB4.out.size))
            have X5 := Lib.hid (X4.out.keep (keeps_below hb5))
            obtain ⟨p0, p1, p2⟩ := X5.out
            clear hb5
            obtain ⟨ka, kc, rfl, hkc⟩ := id hc5
            go_wp2_with fail
            refine (CT3.out _ _ hk5 hc5).mono ?_
            rintro e w6 ⟨rfl, hb6⟩
            have HB6 := Lib.hid (HB5.out.trans (hb6.mono HB5.out.size))
            have X6 := Lib.hid (X5.out.keep (keeps_below hb6))
            obtain ⟨p0, p1, p2⟩ := X6.out
            clear hb6
            go_wp2_with fail
            refine (CU.out _ HB6.out).mono ?_
            rintro e w7 ⟨uv, rfl, hr7, hb7⟩
            have HB7 := Lib.hid (HB6.out.trans (hb7.mono HB6.out.size))
            have X7 := Lib.hid (X6.out.keep (keeps_below hb7))
            obtain ⟨p0, p1, p2⟩ := X7.out
            clear hb7
            obtain ⟨ua, uc, rfl, _⟩ := row_shape hr7
            clear hr7
            go_wp2
            go_ret
            exact ⟨by rw [HR.out]; rfl, HB7.out⟩
end Go.Proofs.YtkfeiekgdfklmaaGreatDoor.Trm
/- What a term reads. Without conditions. -/
namespace Go.Proofs.YtkfeiekgdfklmaaGreatDoor.Trm
open Go.RowKit Own
theorem mem_addN {acc : List ByteArray} {s x : ByteArray} : x ∈ addN acc s ↔ x ∈ acc ∨ x = s := by
  unfold addN
  split
  · rename_i h
    exact ⟨.inl, fun h' => h'.elim id (fun e => e ▸ h)⟩
  · simp
mutual
theorem mem_readsT {x : ByteArray} : ∀ (t : Tree) (acc : List ByteArray), x ∈ readsT t acc ↔ x ∈ acc ∨ x ∈ varsT t
  | .node k n s ks, acc => by
    rw [readsT, varsT]
    split
    · rw [mem_addN]; simp
    · exact mem_readsL ks acc
theorem mem_readsL {x : ByteArray} : ∀ (ks : List Tree) (acc : List ByteArray), x ∈ readsL ks acc ↔ x ∈ acc ∨ x ∈ varsL ks
  | [], acc => by rw [readsL, varsL]; simp
  | t :: ts, acc => by
    rw [readsL, varsL, mem_readsL ts, mem_readsT t, List.mem_append, or_assoc]
end
end Go.Proofs.YtkfeiekgdfklmaaGreatDoor.Trm
/- What is wrong with a drawn program, and with one that was turned: nothing; a name that is none; a name told twice; no main. Without conditions. -/
namespace Go.Proofs.YtkfeiekgdfklmaaGreatDoor.Cur
open Go.RowKit Own Trm Lexs
/-- The names that drawn bodies have are there. -/
structure There (x : PTree) (ps : List ByteArray) : Prop where
  set : ∀ s, s ∈ setL → s ∈ x.globals
  reads : ∀ s, s ∈ namesL → s ∈ x.globals
  locks : ∀ s, s ∈ lockL → s ∈ x.locks
  procs : ∀ s, s ∈ ps → s ∈ procNs x.procs
theorem reads_good {x : PTree} {ps : List ByteArray} (h : There x ps) {t : Tree} (ht : TermG t) (k : Int) (acc : List ByteArray) : readsU x k t acc = acc := by
  have fold : ∀ (l acc : List ByteArray), (∀ s, s ∈ l → s ∈ x.globals) → l.foldl (addU x.globals) acc = acc := by
    intro l
    induction l with
    | nil => intro acc _; rfl
    | cons s r ih =>
      intro acc hs
      rw [List.foldl_cons, addU_yes (.inl (hs s (List.mem_cons_self ..)))]
      exact ih acc (fun z hz => hs z (List.mem_cons_of_mem _ hz))
  unfold readsU
  split
  · refine fold _ _ (fun s hs => h.reads s (ht.2.1 s ?_))
    unfold readsOfT at hs
    split at hs
    · rcases (mem_readsT t []).1 hs with h1 | h1
      · simp at h1
      · exact h1
    · simp at hs
  · rfl
theorem reads_zT (x : PTree) (k : Int) (hk : ¬ (k = 1 ∨ k = 2 ∨ k = 3)) (acc : List ByteArray) : readsU x k zT acc = acc := by unfold readsU; rw [if_neg hk]
theorem unk_leaf {x : PTree} {ps : List ByteArray} (h : There x ps) {y : STree} (hy : LeafG ps y) (acc : List ByteArray) : unkX x y acc = acc := by
  rcases hy with ⟨s, t, rfl, h1, h2⟩ | ⟨s, rfl, h1⟩ | ⟨s, rfl, h1⟩ | ⟨s, rfl, h1⟩ | ⟨s, rfl, h1⟩ | rfl
  · rw [unkX, unkXS, unkXS, reads_good h h2]
    unfold headU; rw [if_pos rfl, addU_yes (.inl (h.set s h1))]
  · rw [unkX, unkXS, unkXS, reads_zT x 6 (by omega)]
    unfold headU; rw [if_neg (by omega), if_pos (by omega), addU_yes (.inl (h.locks s h1))]
  · rw [unkX, unkXS, unkXS, reads_zT x 7 (by omega)]
    unfold headU; rw [if_neg (by omega), if_pos (by omega), addU_yes (.inl (h.locks s h1))]
  · rw [unkX, unkXS, unkXS, reads_zT x 4 (by omega)]
    unfold headU; rw [if_neg (by omega), if_neg (by omega), if_pos (by omega), addU_yes (.inl (h.procs s h1))]
  · rw [unkX, unkXS, unkXS, reads_zT x 5 (by omega)]
    unfold headU; rw [if_neg (by omega), if_neg (by omega), if_pos (by omega), addU_yes (.inl (h.procs s h1))]
  · rw [unkX, unkXS, unkXS, reads_zT x 8 (by omega)]
    unfold headU; rw [if_neg (by omega), if_neg (by omega), if_neg (by omega)]
theorem unkXS_of {x : PTree} : ∀ {xs : List STree} {acc : List ByteArray}, (∀ y, y ∈ xs → ∀ acc, unkX x y acc = acc) → unkXS x xs acc = acc
  | [], _, _ => by rw [unkXS]
  | y :: r, acc, h => by rw [unkXS, h y (List.mem_cons_self ..), unkXS_of (fun z hz => h z (List.mem_cons_of_mem _ hz))]
theorem unk_good {x : PTree} {ps : List ByteArray} (h : There x ps) : ∀ {d : Nat} {y : STree}, GoodX ps d y → ∀ acc, unkX x y acc = acc
  | 0, y, hy, acc => unk_leaf h hy acc
  | d + 1, y, hy, acc => by
    rcases hy with hy | ⟨t, b, rfl, h1, h2⟩ | ⟨t, b, e, rfl, h1, h2, h3⟩
    · exact unk_leaf h hy acc
    · rw [unkX, reads_good h h1, unkXS_of (xs := b) (fun z hz => unk_good h (h2 z hz)), unkXS]
      unfold headU; rw [if_neg (by omega), if_neg (by omega), if_neg (by omega)]
    · rw [unkX, reads_good h h1, unkXS_of (xs := b) (fun z hz => unk_good h (h2 z hz)), unkXS_of (xs := e) (fun z hz => unk_good h (h3 z hz))]
      unfold headU; rw [if_neg (by omega), if_neg (by omega), if_neg (by omega)]
theorem unkPs_good {x : PTree} {ns : List ByteArray} (h : There x ns) : ∀ {ps : List PrT} {acc : List ByteArray}, (∀ p, p ∈ ps → ∀ y, y ∈ p.body → GoodX ns 2 y) → unkPs x ps acc = acc
  | [], acc, _ => rfl
  | p :: r, acc, hp => by
    show unkPs x r (unkXS x p.body acc) = acc
    rw [unkXS_of (fun y hy => unk_good h (hp p (List.mem_cons_self ..) y hy))]
    exact unkPs_good h (fun q hq => hp q (List.mem_cons_of_mem _ hq))
theorem glob_sub : (∀ s, s ∈ setL → s ∈ globL) ∧ (∀ s, s ∈ namesL → s ∈ globL) := by
  refine ⟨fun s hs => ?_, fun s hs => ?_⟩
  · simp [setL] at hs; simp [globL]; rcases hs with rfl | rfl | rfl <;> simp
  · simp [namesL] at hs; simp [globL]; rcases hs with rfl | rfl | rfl | rfl | rfl <;> simp
theorem drawn_there (bs : List UInt8) : There (drawnP bs) (namesF bs (newS bs)).tail :=
  ⟨glob_sub.1, glob_sub.2, fun _ h => h, fun s hs => by rw [show procNs (drawnP bs).procs = namesF bs (newS bs) from drawnP_names bs]; exact List.mem_of_mem_tail hs⟩
/-- A drawn program's names are all there. -/
theorem drawn_unk (bs : List UInt8) : unkIn (drawnP bs) = [] := by
  unfold unkIn
  rw [if_pos (drawnP_right bs)]
  exact unkPs_good (drawn_there bs) (fun p hp => (drawnP_body bs p hp).1)
theorem names_once (bs : List UInt8) (s : St) : twiceB (namesF bs s) = false := by
  rcases namesF_is bs s with e | e | e <;> rw [e] <;> simp [twiceB]
theorem glob_once : twiceB globL = false := by simp [twiceB, globL]
theorem lock_once : twiceB lockL = false := by simp [twiceB, lockL]
theorem drawn_fault (bs : List UInt8) : faultI (drawnP bs) = 0 := by
  have hm : mainB ∈ procNs (drawnP bs).procs := by
    rw [show procNs (drawnP bs).procs = namesF bs (newS bs) from drawnP_names bs]
    rcases namesF_is bs (newS bs) with e | e | e <;> rw [e] <;> simp [mainB]
  unfold faultI
  rw [drawnP_right, drawn_unk, drawnP_globals, drawnP_locks, glob_once, lock_once, show procNs (drawnP bs).procs = namesF bs (newS bs) from drawnP_names bs, names_once]
  rw [show procNs (drawnP bs).procs = namesF bs (newS bs) from drawnP_names bs] at hm
  simp [hm]
end Go.Proofs.YtkfeiekgdfklmaaGreatDoor.Cur
/- What is wrong with a drawn program that was turned: with a name that is none; with one told twice; without its main. Without conditions. -/
namespace Go.Proofs.YtkfeiekgdfklmaaGreatDoor.Cur
open Go.RowKit Own Trm Lexs
theorem addU_mem {known acc : List ByteArray} {s z : ByteArray} (h : s ∈ acc) : s ∈ addU known acc z := by unfold addU; split <;> simp [h]
theorem addU_self {known acc : List ByteArray} {s : ByteArray} (h : ¬ s ∈ known) : s ∈ addU known acc s := by
  unfold addU
  split
  · rename_i h2
    exact h2.elim (fun h3 => absurd h3 h) id
  · simp
theorem headU_mem {x : PTree} {k : Int} {n s : ByteArray} {acc : List ByteArray} (h : s ∈ acc) : s ∈ headU x k n acc := by
  unfold headU
  split
  · exact addU_mem h
  · split
    · exact addU_mem h
    · split
      · exact addU_mem h
      · exact h
theorem readsU_mem {x : PTree} {k : Int} {t : Tree} {s : ByteArray} {acc : List ByteArray} (h : s ∈ acc) : s ∈ readsU x k t acc := by
  have fold : ∀ (l acc : List ByteArray), s ∈ acc → s ∈ l.foldl (addU x.globals) acc := by
    intro l
    induction l with
    | nil => intro acc h; exact h
    | cons z r ih => intro acc h; rw [List.foldl_cons]; exact ih _ (addU_mem h)
  unfold readsU
  split
  · exact fold _ _ h
  · exact h
mutual
theorem unkX_mem {x : PTree} {s : ByteArray} : ∀ (y : STree) {acc : List ByteArray}, s ∈ acc → s ∈ unkX x y acc
  | .node k n t b e, acc, h => by rw [unkX]; exact unkXS_mem e (unkXS_mem b (readsU_mem (headU_mem h)))
theorem unkXS_mem {x : PTree} {s : ByteArray} : ∀ (xs : List STree) {acc : List ByteArray}, s ∈ acc → s ∈ unkXS x xs acc
  | [], acc, h => by rw [unkXS]; exact h
  | y :: r, acc, h => by rw [unkXS]; exact unkXS_mem r (unkX_mem y h)
end
theorem unkPs_mem {x : PTree} {s : ByteArray} : ∀ (ps : List PrT) {acc : List ByteArray}, s ∈ acc → s ∈ unkPs x ps acc
  | [], _, h => h
  | p :: r, _, h => unkPs_mem r (unkXS_mem p.body h)
theorem unkXS_append (x : PTree) : ∀ (a b : List STree) (acc : List ByteArray), unkXS x (a ++ b) acc = unkXS x b (unkXS x a acc)
  | [], b, acc => by rw [List.nil_append, unkXS]
  | y :: r, b, acc => by rw [List.cons_append, unkXS, unkXS_append x r b, unkXS]
/-- A lock that is none is told. -/
theorem unkPs_lock {x : PTree} {s : ByteArray} (h : ¬ s ∈ x.locks) : ∀ {ps : List PrT} {p : PrT} {b : List STree} {acc : List ByteArray}, p ∈ ps → p.body = b ++ [.node 6 s zT [] []] → s ∈ unkPs x ps acc
  | q :: r, p, b, acc, hp, hb => by
    rcases List.mem_cons.1 hp with rfl | hp
    · refine unkPs_mem r ?_
      show s ∈ unkXS x p.body acc
      rw [hb, unkXS_append, unkXS, unkXS, unkX, unkXS, unkXS]
      refine readsU_mem ?_
      unfold headU
      rw [if_neg (by omega), if_pos (by omega)]
      exact addU_self h
    · show s ∈ unkPs x r (unkXS x q.body acc)
      exact unkPs_lock h hp hb
def nopeB : ByteArray := ⟨#[110, 111, 112, 101]⟩
def otherB : ByteArray := ⟨#[111, 116, 104, 101, 114]⟩
/-- With a lock that is none behind the statements of the procedure i. -/
def nopeP (x : PTree) (p : PrT) (i : Nat) : PTree := ⟨x.globals, x.locks, x.procs.set i ⟨p.name, p.body ++ [.node 6 nopeB zT [] []]⟩⟩
theorem nope_unk (bs : List UInt8) (p : PrT) (i : Nat) (hi : i < (drawnP bs).procs.length) : unkIn (nopeP (drawnP bs) p i) = [] ∨ nopeB ∈ unkIn (nopeP (drawnP bs) p i) := by
  unfold unkIn
  split
  · refine .inr (unkPs_lock (p := ⟨p.name, p.body ++ [.node 6 nopeB zT [] []]⟩) (b := p.body) ?_ ?_ rfl)
    · show ¬ nopeB ∈ lockL
      simp [lockL, nopeB]
    · exact List.mem_set hi _
  · exact .inl rfl
/-- With a number's name told twice. -/
def twiceP (x : PTree) : PTree := ⟨x.globals ++ [⟨#[120]⟩], x.locks, x.procs⟩
theorem okP_parts {x : PTree} (h : okP x = true) : okNs x.locks 6 = true ∧ decide (x.procs.length ≤ 8) = true ∧ okPrs x.procs = true := by
  unfold okP at h
  simp only [Bool.and_eq_true] at h
  exact ⟨h.2.1, h.2.2.1, h.2.2.2⟩
theorem twice_fault (bs : List UInt8) : faultI (twiceP (drawnP bs)) = 2 := by
  obtain ⟨h1, h2, h3⟩ := okP_parts (drawnP_right bs)
  have hok : okP (twiceP (drawnP bs)) = true := by
    have h0 : okNs (globL ++ [⟨#[120]⟩]) 6 = true := by decide
    unfold okP
    show (okNs ((drawnP bs).globals ++ [⟨#[120]⟩]) 6 && (okNs (drawnP bs).locks 6 && (decide ((drawnP bs).procs.length ≤ 8) && okPrs (drawnP bs).procs))) = true
    rw [drawnP_globals, h0, h1, h2, h3]; rfl
  have ht : twiceB ((drawnP bs).globals ++ [⟨#[120]⟩]) = true := by rw [drawnP_globals]; simp [twiceB, globL]
  unfold faultI
  rw [hok, show (twiceP (drawnP bs)).globals = (drawnP bs).globals ++ [⟨#[120]⟩] from rfl, ht]
  simp
/-- Without its main. -/
def otherP (x : PTree) : PTree := ⟨x.globals, x.locks, match x.procs with | [] => [] | p :: r => ⟨otherB, p.body⟩ :: r⟩
theorem other_fault (bs : List UInt8) : faultI (otherP (drawnP bs)) = 4 := by
  obtain ⟨h1, h2, h3⟩ := okP_parts (drawnP_right bs)
  have hn : procNs (drawnP bs).procs = namesF bs (newS bs) := drawnP_names bs
  have hb := drawnP_body bs
  have hth := drawn_there bs
  cases hps : (drawnP bs).procs with
  | nil => rw [hps] at hn; have := (namesF_len bs (newS bs)).1; rw [← hn] at this; simp [procNs] at this
  | cons p r =>
    have hn2 : namesF bs (newS bs) = p.name :: procNs r := by rw [← hn, hps]; rfl
    have hop : (otherP (drawnP bs)).procs = ⟨otherB, p.body⟩ :: r := by unfold otherP; rw [hps]
    have hpn : procNs (otherP (drawnP bs)).procs = otherB :: procNs r := by rw [hop]; rfl
    have htl : (namesF bs (newS bs)).tail = procNs r := by rw [hn2]; rfl
    have hok : okP (otherP (drawnP bs)) = true := by
      have h0 : okNs globL 6 = true := by decide
      unfold okP
      rw [hop]
      show (okNs (drawnP bs).globals 6 && (okNs (drawnP bs).locks 6 && (decide ((⟨otherB, p.body⟩ :: r : List PrT).length ≤ 8) && okPrs (⟨otherB, p.body⟩ :: r)))) = true
      rw [hps] at h2 h3
      have h3b : okPr p = true ∧ okPrs r = true := by unfold okPrs at h3 ⊢; simpa using h3
      have h4 : okPrs (⟨otherB, p.body⟩ :: r) = true := by
        have h5 := h3b.1
        have h6 := h3b.2
        unfold okPr at h5
        simp only [Bool.and_eq_true] at h5
        have h7 : isNm otherB.data.toList = true := by decide
        unfold okPrs at h6 ⊢
        rw [List.all_cons, h6]
        unfold okPr
        rw [h7, h5.2]; rfl
      rw [drawnP_globals, h0, h1, h4]
      simpa using h2
    have hthr : There (otherP (drawnP bs)) (namesF bs (newS bs)).tail := ⟨hth.set, hth.reads, hth.locks, fun s hs => by rw [hpn]; rw [htl] at hs; exact List.mem_cons_of_mem _ hs⟩
    have hun : unkIn (otherP (drawnP bs)) = [] := by
      unfold unkIn
      rw [if_pos hok]
      refine unkPs_good hthr (fun q hq => ?_)
      rw [hop] at hq
      rcases List.mem_cons.1 hq with rfl | hq
      · exact (hb p (by rw [hps]; exact List.mem_cons_self ..)).1
      · exact (hb q (by rw [hps]; exact List.mem_cons_of_mem _ hq)).1
    have hr : procNs r = [⟨#[112]⟩] ∨ procNs r = [⟨#[112]⟩, ⟨#[113]⟩] ∨ procNs r = [⟨#[112]⟩, ⟨#[113]⟩, ⟨#[114]⟩] := by
      rw [← htl]
      rcases namesF_is bs (newS bs) with e | e | e <;> rw [e] <;> simp
    have ht3 : twiceB (otherB :: procNs r) = false := by rcases hr with e | e | e <;> rw [e] <;> simp [twiceB, otherB]
    have hm : ¬ mainB ∈ otherB :: procNs r := by rcases hr with e | e | e <;> rw [e] <;> simp [mainB, otherB]
    unfold faultI
    rw [hok, hun, hpn, ht3, show (otherP (drawnP bs)).globals = globL from rfl, show (otherP (drawnP bs)).locks = lockL from rfl, glob_once, lock_once]
    simp [hm]
end Go.Proofs.YtkfeiekgdfklmaaGreatDoor.Cur
/- Drawn programs that are turned, how they lie: with a statement more in the second procedure, with other globals. Conditions: none beyond those of the draw. -/
namespace Go.Proofs.YtkfeiekgdfklmaaGreatDoor.Cur
open Go.RowKit Own Trm Lexs
theorem prs_two {w : World} {lo gp n cap b hi : Nat} {p0 p1 : PrT} {r : List PrT} {g : Option Nat} {a0 a1 : Option Addr} {c0 c1 : Nat} {rest : List Value}
    (h1 : w.ownsRow lo 31 2 (.slice (some ⟨gp, 0, none⟩) n cap) n (.string p0.name :: .slice a0 p0.body.length c0 :: .string p1.name :: .slice a1 p1.body.length c1 :: rest)) (hn : n = (p0 :: p1 :: r).length)
    (n0 : p0.name.size ≤ 9223372036854775807) (n1 : p1.name.size ≤ 9223372036854775807) (L0 : SListAt w (.slice a0 p0.body.length c0) p0.body ∧ SListF w (.slice a0 p0.body.length c0) p0.body)
    (L1 : SListAt w (.slice a1 p1.body.length c1) p1.body ∧ SListF w (.slice a1 p1.body.length c1) p1.body) (hr : DPs w g b hi r rest) : PrsFree w (.slice (some ⟨gp, 0, none⟩) n cap) (p0 :: p1 :: r) := by
  have hm := row_small h1
  unfold maxLen at hm
  subst hn
  refine ⟨by omega, some ⟨gp, 0, none⟩, cap, rfl, fun _ => ⟨gp, rfl, fun i hi2 => ?_⟩⟩
  have hl : (p0 :: p1 :: r).length = r.length + 2 := rfl
  match i, hi2 with
  | 0, _ => exact ⟨a0, c0, n0, (h1.cellAt 0 (by omega)).trans rfl, (h1.cellAt 1 (by omega)).trans rfl, L0.1, L0.2⟩
  | 1, _ => exact ⟨a1, c1, n1, (h1.cellAt 2 (by omega)).trans rfl, (h1.cellAt 3 (by omega)).trans rfl, L1.1, L1.2⟩
  | i + 2, hi2 =>
    obtain ⟨ba, bc, a, b', e0, e1, e2, _, _, _, e6⟩ := hr.at i (by simpa using hi2)
    have hi3 : i + 2 < r.length + 2 := by simpa using hi2
    refine ⟨ba, bc, e2, (h1.cellAt ((i + 2) * 2) (by omega)).trans ?_, (h1.cellAt ((i + 2) * 2 + 1) (by omega)).trans ?_, e6.lies.1, e6.lies.2⟩
    · rw [show (i + 2) * 2 = i * 2 + 1 + 1 + 1 + 1 from by omega]; simpa using e0
    · rw [show (i + 2) * 2 + 1 = i * 2 + 1 + 1 + 1 + 1 + 1 from by omega]; simpa using e1
/-- A list whose row lies anywhere. -/
theorem list_of_row {w : World} {a lo hi : Nat} {g : Option Nat} {xs : List STree} {v : Value} {n : Nat} {cs : List Value} (hn : n = xs.length) (h1 : w.ownsRow a 36 8 v n cs) (h2 : DL w g lo hi xs cs) : SListAt w v xs ∧ SListF w v xs := by
  subst hn
  obtain ⟨aa, cap, rfl, hm, hc⟩ := slies_of_row h1
  have A : 0 < xs.length → ∃ g, aa = some ⟨g, 0, none⟩ ∧ FreeB w g ∧ SLiesL w g 0 xs ∧ SLiesLF w g 0 xs := fun hp => by
    obtain ⟨g, rfl, hcell⟩ := hc hp
    exact ⟨g, rfl, row_free h1, DL.lies h2 (fun j hj => by rw [Nat.zero_add]; exact hcell j (by have := h1.1; omega))⟩
  refine ⟨⟨hm, aa, cap, rfl, fun hp => ?_⟩, ⟨hm, aa, cap, rfl, fun hp => ?_⟩⟩
  · obtain ⟨g, e, _, h, _⟩ := A hp; exact ⟨g, 0, e, h⟩
  · obtain ⟨g, e, f, _, h⟩ := A hp; exact ⟨g, 0, e, f, h⟩
/-- The second procedure's list, and the program with a word more behind it. -/
theorem DProg.second {w : World} {lo gp n cap : Nat} {x : PTree} {gv lv : Value} {p0 p1 : PrT} {r : List PrT} (h : DProg w lo x (.agg #[gv, lv, .slice (some ⟨gp, 0, none⟩) n cap])) (hx : x.procs = p0 :: p1 :: r)
    (hg : x.globals.length ≤ 1000) (hl : x.locks.length ≤ 1000) (hgs : ∀ s, s ∈ x.globals → s.size ≤ 9223372036854775807) (hls : ∀ s, s ∈ x.locks → s.size ≤ 9223372036854775807) :
    ∃ (ba : Option Addr) (bc a : Nat) (cs : List Value), n = (p0 :: p1 :: r).length ∧ lo ≤ gp ∧ gp < w.heap.size ∧ w.cell? ⟨gp, 3, none⟩ = some (.slice ba p1.body.length bc) ∧ w.frozen? ⟨gp, 3, none⟩ = false ∧ lo ≤ a ∧ a ≤ w.heap.size ∧ w.ownsRow a 36 8 (.slice ba p1.body.length bc) p1.body.length cs ∧ (Value.slice ba p1.body.length bc).ownBlock ≠ some gp ∧
      ∀ (w5 : World) (v' : Value) (k : Int) (s : ByteArray) (a' : Nat), InI k → s.size ≤ 9223372036854775807 → (∀ q, lo ≤ q → q < w.heap.size → q ≠ gp → (Value.slice ba p1.body.length bc).ownBlock ≠ some q → w5.heap[q]? = w.heap[q]?) →
        w5.heap[gp]? = (w.setCell ⟨gp, 3, none⟩ v').heap[gp]? → w5.ownsRow a' 36 8 v' (p1.body.length + 1) (cs ++ cellsW k s) →
        POwn w5 ⟨x.globals, x.locks, p0 :: ⟨p1.name, p1.body ++ [.node k s zT [] []]⟩ :: r⟩ (.agg #[gv, lv, .slice (some ⟨gp, 0, none⟩) n cap]) := by
  obtain ⟨g1, g2, lo2, pv, e, h1, h2, h3, h4, h5, h6⟩ := h
  simp at e
  obtain ⟨rfl, rfl, rfl⟩ := e
  rw [hx] at h6
  obtain ⟨pcs, k1, k2, k3⟩ := h6
  obtain ⟨b0, c0, rest0, a0, e0, rfl, m0, l0, hgq0, d0, k4⟩ := k3
  obtain ⟨ba, bc, rest, a, b, rfl, m1, l1, hgq, d1, k5⟩ := k4
  obtain ⟨cs, r1, r2, r3⟩ := d1
  have hn : n = (p0 :: p1 :: r).length := by
    obtain ⟨g', c', e, _⟩ := k1.form (by simp)
    simp at e
    simp [e.2.1]
  subst hn
  have hgp := k1.lt gp rfl
  have hd0 := d0.le
  have hd1 := r3.le
  have hd2 := k5.le
  have hga := hgq gp rfl
  have hga0 := hgq0 gp rfl
  have hne : (Value.slice ba p1.body.length bc).ownBlock ≠ some gp := fun e => by
    have := r1.lt gp e
    have := r2 gp e
    omega
  refine ⟨ba, bc, a, cs, rfl, by omega, hgp.2, (k1.cellAt 3 (by simp; omega)).trans rfl, k1.frozenAt 3, by omega, by omega, r1, hne, fun w5 v' k s a' hk hs hsame hrow hown => ?_⟩
  have st := (k1.stored 3 v').1
  have st5 : w5.ownsRow lo2 31 2 (.slice (some ⟨gp, 0, none⟩) (p0 :: p1 :: r).length cap) (p0 :: p1 :: r).length (.string p0.name :: .slice b0 p0.body.length c0 :: .string p1.name :: v' :: rest) :=
    row_same (w := w.setCell ⟨gp, 3, none⟩ v') st (fun q hq => by
      have : q = gp := by simp [Value.ownBlock] at hq; exact hq.symm
      subst this; exact hrow)
  have hq : ∀ q, (Value.slice ba p1.body.length bc).ownBlock = some q → a ≤ q ∧ q < b := fun q e => ⟨(r1.lt q e).1, r2 q e⟩
  have D0 : DK w5 a0 e0 p0.body (.slice b0 p0.body.length c0) := d0.same (fun q u1 u2 => hsame q (by omega) (by omega) (by rintro rfl; omega) (fun e => by have := hq q e; omega))
  have D5 : DPs w5 (Value.slice (some ⟨gp, 0, none⟩) (p0 :: p1 :: r).length cap).ownBlock b w.heap.size r rest := k5.same (fun q u1 u2 u3 => hsame q (by omega) (by omega) (fun e => u3 (by rw [e]; first | done | rfl)) (fun e => by have := hq q e; omega))
  have D1 : DL w5 (Value.slice ba p1.body.length bc).ownBlock a b p1.body cs := r3.same (fun q u1 u2 u3 => hsame q (by omega) (by omega) (by rintro rfl; omega) u3)
  have L1 := list_of_row (xs := p1.body ++ [.node k s zT [] []]) (by simp) hown (D1.append (dl_word w5 _ b k hk s hs))
  obtain ⟨va, vc, rfl, _⟩ := slies_of_row hown
  have hpl : (p1.body ++ [STree.node k s zT [] []]).length = p1.body.length + 1 := by simp
  have hps := prs_two (p0 := p0) (p1 := ⟨p1.name, p1.body ++ [.node k s zT [] []]⟩) (r := r) (a1 := va) (c1 := vc) (by rw [← hpl] at st5; exact st5) rfl m0 m1 D0.lies (by rw [← hpl] at L1; exact L1) D5
  exact ⟨_, _, _, _, _, _, rfl, strs_row ((hsame g1 h1 (by have := heap_lt h4; omega) (by omega) (fun e => by have := hq g1 e; omega)).trans h4) hg hgs,
    strs_row ((hsame g2 (by omega) (by have := heap_lt h5; omega) (by omega) (fun e => by have := hq g2 e; omega)).trans h5) hl hls, hps, ⟨Nat.le_refl _, fun h => by cases h⟩, ⟨Nat.le_refl _, fun h => by cases h⟩⟩
/-- The globals' row, and the program with others in their place. -/
theorem DProg.globs {w : World} {lo : Nat} {x : PTree} {gv lv pv : Value} (h : DProg w lo x (.agg #[gv, lv, pv])) (hg : x.globals.length ≤ 1000) (hl : x.locks.length ≤ 1000) (hls : ∀ s, s ∈ x.locks → s.size ≤ 9223372036854775807) :
    ∃ g1, gv = .slice (some ⟨g1, 0, none⟩) x.globals.length x.globals.length ∧ NRow w lo x.globals gv ∧
      ∀ (w5 : World) (gs : List ByteArray) (gv2 : Value) (base : Nat), (∀ q, lo ≤ q → q < w.heap.size → q ≠ g1 → w5.heap[q]? = w.heap[q]?) → NRow w5 base gs gv2 → (∀ s, s ∈ gs → s.size ≤ 9223372036854775807) → POwn w5 ⟨gs, x.locks, x.procs⟩ (.agg #[gv2, lv, pv]) := by
  obtain ⟨g1, g2, lo2, pv2, e, h1, h2, h3, h4, h5, h6⟩ := h
  simp at e
  obtain ⟨rfl, rfl, rfl⟩ := e
  refine ⟨g1, rfl, ⟨by simp [strV], .inr ⟨g1, _, _, rfl, h1, h4, Nat.le_refl _, by unfold maxLen; omega, by simp [strV], by rw [List.take_of_length_le (by simp [strV])]⟩⟩, fun w5 gs gv2 base hs hr hgs => ?_⟩
  obtain ⟨a, c, rfl⟩ := hr.shape
  have h7 : PK w5 lo2 w.heap.size x.procs pv := h6.same (fun q u1 u2 => hs q (by omega) u2 (by omega))
  have h8 := h7.free
  obtain ⟨_, pa, pc, rfl, _⟩ := id h8
  exact ⟨a, c, _, _, pa, pc, rfl, ⟨strsAt_own hr, hgs⟩, strs_row ((hs g2 (by omega) (heap_lt h5) (by omega)).trans h5) hl hls, h8, room_row hr, ⟨Nat.le_refl _, fun h => by cases h⟩⟩
theorem glob_le : ∀ s, s ∈ globL → s.size ≤ 9223372036854775807 := fun s hs => by simp [globL] at hs; rcases hs with rfl | rfl | rfl | rfl <;> decide
theorem lock_le : ∀ s, s ∈ lockL → s.size ≤ 9223372036854775807 := fun s hs => by simp [lockL] at hs; rcases hs with rfl | rfl | rfl <;> decide
/-- The first two procedures of a drawn program. -/
theorem drawn_two (bs : List UInt8) : ∃ p0 p1 r, (drawnP bs).procs = p0 :: p1 :: r := by
  have h := drawnP_len bs
  match hps : (drawnP bs).procs with
  | [] => rw [hps] at h; simp at h
  | [_] => rw [hps] at h; simp at h
  | p0 :: p1 :: r => exact ⟨p0, p1, r, rfl⟩
theorem szXS_append : ∀ (a b : List STree), szXS (a ++ b) = szXS a + szXS b
  | [], b => by simp [szXS]
  | y :: r, b => by rw [List.cons_append, szXS, szXS, szXS_append r b]; omega
theorem nope_size {bs : List UInt8} {p0 p1 : PrT} {r : List PrT} (h : (drawnP bs).procs = p0 :: p1 :: r) : szP ⟨(drawnP bs).globals, (drawnP bs).locks, p0 :: ⟨p1.name, p1.body ++ [.node 6 nopeB zT [] []]⟩ :: r⟩ ≤ 14000 := by
  have h0 := drawnP_size bs
  have hz : szXS [STree.node 6 nopeB zT [] []] ≤ 10 := by decide
  unfold szP at h0 ⊢
  rw [h] at h0
  simp only [szPrs, szPr, List.length_cons] at h0 ⊢
  rw [szXS_append, List.length_append]
  simp only [List.length_cons, List.length_nil]
  omega
theorem twice_size (bs : List UInt8) : szP (twiceP (drawnP bs)) ≤ 14000 := by
  have h0 := drawnP_size bs
  have hz : szNs ((drawnP bs).globals ++ [⟨#[120]⟩]) = szNs (drawnP bs).globals + 1 := by unfold szNs; simp; rfl
  unfold szP at h0 ⊢
  show ((drawnP bs).globals ++ [(⟨#[120]⟩ : ByteArray)]).length + szNs ((drawnP bs).globals ++ [(⟨#[120]⟩ : ByteArray)]) + _ ≤ _
  rw [hz, List.length_append]
  simp only [List.length_cons, List.length_nil]
  show _ + _ + ((drawnP bs).locks.length + szNs (drawnP bs).locks + ((drawnP bs).procs.length + szPrs (drawnP bs).procs)) ≤ _
  omega
theorem other_size {bs : List UInt8} {p : PrT} {r : List PrT} (h : (drawnP bs).procs = p :: r) : szP ⟨(drawnP bs).globals, (drawnP bs).locks, ⟨otherB, p.body⟩ :: r⟩ ≤ 14000 := by
  have h0 := drawnP_size bs
  have hz : otherB.size = 5 := rfl
  unfold szP at h0 ⊢
  rw [h] at h0
  simp only [szPrs, szPr, List.length_cons] at h0 ⊢
  omega
end Go.Proofs.YtkfeiekgdfklmaaGreatDoor.Cur
/- The program's four errors as they lie in memory, and the library's errors.Is asked of them, walked. Conditions: the four variables hold four errors of their own. -/
namespace Go.Proofs.YtkfeiekgdfklmaaGreatDoor.Er
open Go.RowKit Go.Extern.Stop Go.Stop Go.Extern Trm
theorem isTypeOf (v : Value) (w : World) : (Extern.ReflectliteType.typeOf #[.iface 265 v]).run Tryz.prog w = .ok (.iface 153 (.agg #[.pointer (some ⟨7, 265, none⟩)])) w := by kernel_rfl
/-- What the library's question Comparable does. -/
def cmpX : Array Value → Sem Value := Extern.ReflectliteType.method fun t => do Extern.Rtype.noPackHeld "Comparable" t; pure (.bool (← typeInfo t).comparable)
theorem isComparable (w : World) : (cmpX #[.agg #[.pointer (some ⟨7, 265, none⟩)]]).run Tryz.prog w = .ok (.bool true) w := by kernel_rfl
theorem isMethodComparable (v : Value) (w : World) : (Go.method 401 153 v "Comparable").run Tryz.prog w = .ok (223, v) w := by kernel_rfl
theorem isComp : (Tryz.prog.info? 265).map (·.comparable) = some true := by kernel_rfl
theorem isSize : (Tryz.prog.info? 289).map (·.size) = some 1 := by kernel_rfl
theorem noIsE (v : Value) (xT : TypeId) (w : World) : (Instr.typeAssert (.iface 265 v) xT 155 true).run Tryz.prog w = .ok (.tuple #[.nilIface, .bool false]) w := run_typeAssert_lacksB Tryz.underlying155 (by kernel_rfl) (by kernel_rfl) v xT w
theorem noUnwrapE (v : Value) (xT : TypeId) (w : World) : (Instr.typeAssert (.iface 265 v) xT 158 true).run Tryz.prog w = .ok (.tuple #[.nilIface, .bool false]) w := run_typeAssert_lacksB Tryz.underlying158 (by kernel_rfl) (by kernel_rfl) v xT w
theorem noUnwrapsE (v : Value) (xT : TypeId) (w : World) : (Instr.typeAssert (.iface 265 v) xT 160 true).run Tryz.prog w = .ok (.tuple #[.nilIface, .bool false]) w := run_typeAssert_lacksB Tryz.underlying160 (by kernel_rfl) (by kernel_rfl) v xT w
/-- errors.Is(x, x). -/
theorem is_same (a : Addr) (w : World) :
    Calls Tryz.prog 35 #[.iface 265 (.pointer (some a)), .iface 265 (.pointer (some a))] w fun e w' => e = .returned (.bool true) ∧ w' = w := by
  obtain ⟨i, hi, hcmp⟩ := Option.map_eq_some_iff.1 isComp
  obtain ⟨j, hj, hjs⟩ := Option.map_eq_some_iff.1 isSize
  have h8 := @run_callFunc_extern Tryz.prog 90 _ Extern.ReflectliteType.typeOf Tryz.func90 (by kernel_rfl) (by kernel_rfl) (by kernel_rfl) (by kernel_rfl)
  have h32 := @run_callFunc_extern Tryz.prog 223 _ cmpX Tryz.func223 (by kernel_rfl) (by kernel_rfl) (by kernel_rfl) (by kernel_rfl)
  have tT := isTypeOf
  have cT := isComparable
  have mR := isMethodComparable
  have heq := run_eql_iface_ptr_same (P := Tryz.prog) w a Tryz.underlying65 Tryz.underlying265 hi hcmp hj
  go_enter Tryz.func35, Tryz.ntmps35
  go_wp2
  refine wp_loop_rounds 1 ?_
  rw [rounds_succ]
  go_wp2
  go_ret
  exact ⟨rfl, rfl⟩
/-- errors.Is(nil, x). -/
theorem is_nil (b : Addr) (w : World) :
    Calls Tryz.prog 35 #[.nilIface, .iface 265 (.pointer (some b))] w fun e w' => e = .returned (.bool false) ∧ w' = w := by
  have hn := run_eql_iface_nil_left (P := Tryz.prog) w 265 (.pointer (some b)) Tryz.underlying65
  go_enter Tryz.func35, Tryz.ntmps35
  go_wp2
  go_ret
  exact ⟨rfl, rfl⟩
/-- errors.Is(x, y), two that are not one. -/
theorem is_other (a b : Addr) (ca cb : Array Value) (ta tb : TypeId) (w : World) (hne : a ≠ b) (ha : w.heap[a.block]? = some (.cells ca ta (0, 0))) (hb : w.heap[b.block]? = some (.cells cb tb (0, 0))) :
    Calls Tryz.prog 35 #[.iface 265 (.pointer (some a)), .iface 265 (.pointer (some b))] w fun e w' => e = .returned (.bool false) ∧ w' = w := by
  obtain ⟨i, hi, hcmp⟩ := Option.map_eq_some_iff.1 isComp
  obtain ⟨j, hj, hjs⟩ := Option.map_eq_some_iff.1 isSize
  have h8 := @run_callFunc_extern Tryz.prog 90 _ Extern.ReflectliteType.typeOf Tryz.func90 (by kernel_rfl) (by kernel_rfl) (by kernel_rfl) (by kernel_rfl)
  have h32 := @run_callFunc_extern Tryz.prog 223 _ cmpX Tryz.func223 (by kernel_rfl) (by kernel_rfl) (by kernel_rfl) (by kernel_rfl)
  have tT := isTypeOf
  have cT := isComparable
  have mR := isMethodComparable
  have nE := noIsE
  have uE := noUnwrapE
  have vE := noUnwrapsE
  have heq := run_eql_iface_ptr_other (P := Tryz.prog) w Tryz.underlying65 Tryz.underlying265 hi hcmp hj (by rw [hjs]; decide) hne ha hb
  go_enter Tryz.func35, Tryz.ntmps35
  go_wp2
  refine wp_loop_rounds 1 ?_
  rw [rounds_succ]
  go_wp2
  go_ret
  exact ⟨rfl, rfl⟩
/-- The four variables hold four errors of their own. -/
structure Errs (a : Nat → Addr) (w : World) : Prop where
  var : ∀ i, i < 4 → w.cell? ⟨i, 0, none⟩ = some (.iface 265 (.pointer (some (a i))))
  row : ∀ i, i < 4 → ∃ c t, w.heap[(a i).block]? = some (.cells c t (0, 0))
  ne : ∀ i j, i < 4 → j < 4 → i ≠ j → a i ≠ a j
theorem Errs.below {a : Nat → Addr} {w w' : World} (h : Errs a w) (hb : Below w.heap.size w w') : Errs a w' where
  var i hi := keeps_below hb _ _ (h.var i hi)
  row i hi := by
    obtain ⟨c, t, e⟩ := h.row i hi
    have hlt : (a i).block < w.heap.size := by
      rcases Nat.lt_or_ge (a i).block w.heap.size with h' | h'
      · exact h'
      · rw [Array.getElem?_eq_none h'] at e; cases e
    exact ⟨c, t, (hb.block _ hlt).trans e⟩
  ne := h.ne
/-- The error of a fault. -/
def errV (a : Nat → Addr) (f : Nat) : Value := if f = 0 then .nilIface else .iface 265 (.pointer (some (a (f - 1))))
theorem isErr (a : Nat → Addr) (w : World) (h : Errs a w) (f : Nat) (hf : f ≤ 4) (k : Nat) (hk : k < 4) (b : Bool) (hb : b = decide (f = k + 1)) :
    Calls Tryz.prog 35 #[errV a f, .iface 265 (.pointer (some (a k)))] w fun e w' => e = .returned (.bool b) ∧ w' = w := by
  subst hb
  unfold errV
  by_cases h0 : f = 0
  · subst h0
    rw [if_pos rfl, decide_eq_false (by omega)]
    exact is_nil _ _
  · rw [if_neg h0]
    by_cases he : f = k + 1
    · subst he
      rw [decide_eq_true rfl]
      exact is_same _ _
    · rw [decide_eq_false he]
      obtain ⟨c1, t1, e1⟩ := h.row (f - 1) (by omega)
      obtain ⟨c2, t2, e2⟩ := h.row k hk
      exact is_other _ _ c1 c2 t1 t2 w (h.ne _ _ (by omega) hk (by omega)) e1 e2
end Go.Proofs.YtkfeiekgdfklmaaGreatDoor.Er
/- What an append reads, and the append's law over it. Without conditions beyond those of the law that it rests on. -/
namespace Go.Proofs.YtkfeiekgdfklmaaGreatDoor.Trm
open Go.RowKit Own
/-- What an append reads: nothing, or cells one behind the other. -/
def Src (w : World) (sa : Option Addr) (m sc : Nat) (ys : List Value) : Prop := (sa = none ∧ m = 0 ∧ sc = 0 ∧ ys = []) ∨ ∃ ad, sa = some ad ∧ ys.length = m ∧ ∀ j u, ys[j]? = some u → w.cell? (ad.add j) = some u
theorem Src.keep {w w' : World} {sa : Option Addr} {m sc : Nat} {ys : List Value} (h : Src w sa m sc ys) (hk : Keeps w w') : Src w' sa m sc ys := by
  rcases h with h | ⟨ad, h1, h2, h3⟩
  · exact .inl h
  · exact .inr ⟨ad, h1, h2, fun j u e => hk _ _ (h3 j u e)⟩
theorem moves_append {w w' : World} {v v' : Value} (hg : w.grownBy w' v.ownBlock) (h : v'.ownBlock = v.ownBlock ∨ v'.ownBlock = some w.heap.size) : Moves w v w' v' := by
  refine ⟨hg, ?_⟩
  rcases h with h | h
  · exact .inl h
  · exact .inr fun k hk => by rw [h] at hk; cases hk; exact Nat.le_refl _
theorem wpList_append_src {P : Program} {w : World} {ops : Array Oper} {rest : List Oper} {o : Oper} {a : Act} {Q : Exit → Act → World → Prop} (hgd : o.guard = none) (s x : Operand) (t : TypeId)
    (ho : o.op = .call { callee := .builtin .append, args := #[s, x], argTypes := #[t, t] })
    (base : Nat) (e : TypeId) (i : TypeInfo) (z : Value) (bytes : Nat) (ht : P.underlying t = some (.slice e)) (hi : P.info? e = some i) (hz : i.zero = some z)
    (hsize : i.size = 1) (hby : i.bytes = bytes) (hzs : z.cells.size = 1)
    (v : Value) (n : Nat) (xs : List Value) (hs : a.eval s = v) (hown : w.ownsRow base e 1 v n xs)
    (sa : Option Addr) (m sc : Nat) (ys : List Value) (hx : a.eval x = .slice sa m sc) (hsrc : Src w sa m sc ys) (h1 : ∀ u ∈ ys, u.oneCell' = true)
    (h63 : n + m ≤ maxLen) (hbytes : (n + m) * bytes ≤ 140737488355328) (hbase : base ≤ w.heap.size)
    (h : ∀ v' w', w'.ownsRow base e 1 v' (n + m) (xs ++ ys) → Moves w v w' v' → wpList P ops Q rest (a.put o.dst v') w') : wpList P ops Q (o :: rest) a w := by
  rcases hsrc with ⟨rfl, rfl, rfl, rfl⟩ | ⟨ad, rfl, hl, hc⟩
  · exact wpList_append_own_none hgd s x t ho base e i 1 ht hi v n xs hs hown hx (h v w (by simpa using hown) (Moves.refl _ _))
  · exact wpList_append_own_at w hgd s x t ho base e i z 1 bytes ht hi hz hsize hby hzs (by decide) v n xs hs hown ad m sc ys hx (by simpa using hl) hc h1 h63 hbytes hbase fun v' w' a1 a2 _ a4 => h v' w' a1 (moves_append a2 a4)
end Go.Proofs.YtkfeiekgdfklmaaGreatDoor.Trm
/- What the names of a statement come to as a list, and their number. Without conditions. -/
namespace Go.Proofs.YtkfeiekgdfklmaaGreatDoor.Trm
open Go.RowKit Own
theorem useX_eq (y : STree) (acc : List ByteArray) : useX y acc = useXS y.els (useXS y.body ((if y.kind = 1 ∨ y.kind = 6 ∨ y.kind = 7 then acc ++ [y.name] else acc) ++ readsOfT y.term)) := by cases y; rw [useX]; rfl
theorem useXS_drop {xs : List STree} {i : Nat} (h : i < xs.length) (acc : List ByteArray) : useXS (xs.drop i) acc = useXS (xs.drop (i + 1)) (useX xs[i] acc) := by rw [List.drop_eq_getElem_cons h, useXS]
theorem useXS_end {xs : List STree} {i : Nat} (h : xs.length ≤ i) (acc : List ByteArray) : useXS (xs.drop i) acc = acc := by rw [List.drop_of_length_le h, useXS]
theorem use_head_le (k : Int) (s : ByteArray) (acc : List ByteArray) : (if k = 1 ∨ k = 6 ∨ k = 7 then acc ++ [s] else acc).length ≤ acc.length + 1 := by split <;> simp
mutual
theorem useX_le : ∀ (y : STree) (acc : List ByteArray), (useX y acc).length ≤ acc.length + (2 + 3 * szX y)
  | .node k s t b e, acc => by
    rw [useX, szX]
    have h1 := useXS_le e (useXS b ((if k = 1 ∨ k = 6 ∨ k = 7 then acc ++ [s] else acc) ++ readsOfT t))
    have h2 := useXS_le b ((if k = 1 ∨ k = 6 ∨ k = 7 then acc ++ [s] else acc) ++ readsOfT t)
    rw [List.length_append] at h2
    have h3 := readsOfT_le t
    have h4 := use_head_le k s acc
    omega
theorem useXS_le : ∀ (xs : List STree) (acc : List ByteArray), (useXS xs acc).length ≤ acc.length + (2 * xs.length + 3 * szXS xs)
  | [], acc => by rw [useXS]; omega
  | y :: r, acc => by
    rw [useXS, szXS, List.length_cons]
    have h1 := useXS_le r (useX y acc)
    have h2 := useX_le y acc
    omega
end
theorem one_strV (ss : List ByteArray) : ∀ u ∈ strV ss, u.oneCell' = true := by
  intro u hu
  obtain ⟨s, _, rfl⟩ := List.mem_map.1 hu
  rfl
theorem strV_append (a b : List ByteArray) : strV (a ++ b) = strV a ++ strV b := by simp [strV]
noncomputable def unuIn (x : PTree) : List ByteArray := if okP x = true then (x.globals ++ x.locks).filter (fun s => @decide (¬ s ∈ usePs x.procs []) (Classical.propDecidable _)) else []
theorem usePs_drop {ps : List PrT} {i : Nat} (h : i < ps.length) (acc : List ByteArray) : usePs (ps.drop i) acc = usePs (ps.drop (i + 1)) (useXS ps[i].body acc) := by
  unfold usePs; rw [List.drop_eq_getElem_cons h, List.foldl_cons]
theorem usePs_end {ps : List PrT} {i : Nat} (h : ps.length ≤ i) (acc : List ByteArray) : usePs (ps.drop i) acc = acc := by
  unfold usePs; rw [List.drop_of_length_le h]; rfl
theorem wpList_append_rows {P : Program} {w : World} {ops : Array Oper} {rest : List Oper} {o : Oper} {a : Act} {Q : Exit → Act → World → Prop} (hgd : o.guard = none) (s x : Operand) (t : TypeId)
    (ho : o.op = .call { callee := .builtin .append, args := #[s, x], argTypes := #[t, t] })
    (base : Nat) (e : TypeId) (i : TypeInfo) (z : Value) (size bytes : Nat) (ht : P.underlying t = some (.slice e)) (hi : P.info? e = some i) (hz : i.zero = some z)
    (hsize : i.size = size) (hby : i.bytes = bytes) (hzs : z.cells.size = size) (hsz : 0 < size)
    (v : Value) (n : Nat) (xs : List Value) (hs : a.eval s = v) (hown : w.ownsRow base e size v n xs)
    (u : Value) (m : Nat) (ys : List Value) (hx : a.eval x = u) (base2 : Nat) (hrow : w.ownsRow base2 e size u m ys) (h1 : ∀ u ∈ ys, u.oneCell' = true)
    (h63 : n + m ≤ maxLen) (hbytes : (n + m) * bytes ≤ 140737488355328) (hbase : base ≤ w.heap.size)
    (h : ∀ v' w', w'.ownsRow base e size v' (n + m) (xs ++ ys) → w.grownBy w' v.ownBlock → (v'.ownBlock = v.ownBlock ∨ v'.ownBlock = some w.heap.size) → wpList P ops Q rest (a.put o.dst v') w') : wpList P ops Q (o :: rest) a w := by
  rcases hrow.2 with ⟨rfl, rfl⟩ | ⟨g, cap, cur, rfl, _, hg, _⟩
  · have hy : ys = [] := List.eq_nil_of_length_eq_zero (by simpa using hrow.1)
    subst hy
    exact wpList_append_own_none hgd s x t ho base e i size ht hi v n xs hs hown hx (h v w (by simpa using hown) (World.grownBy.refl _ _) (.inl rfl))
  · exact wpList_append_own_at w hgd s x t ho base e i z size bytes ht hi hz hsize hby hzs hsz v n xs hs hown ⟨g, 0, none⟩ m cap ys hx hrow.1 (hrow.cells (g := g) rfl) h1 h63 hbytes hbase fun v' w' a1 a2 _ a4 => h v' w' a1 a2 a4
end Go.Proofs.YtkfeiekgdfklmaaGreatDoor.Trm
