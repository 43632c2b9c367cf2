/- What the listed variables give a walk: four errors of their own; and the variables read again behind the call. Conditions: the listed variables hold what the text lays in them. With what it stands on, in one text. -/
import Derived.Test.YtibkmcfinkadhaaGreatDoorUnkSpec
import Derived.Deep.RegionWith
import Derived.Test.YtibkmcfinkadhaaGreatDoorPTrees
import Derived.Test.YtibkmcfinkadhaaGreatDoorPackA
import Derived.Test.YtibkmcfinkadhaaGreatDoorUnkIn
import Derived.Test.YtibkmcfinkadhaaGreatDoorErrIs
import Derived.Test.YtibkmcfinkadhaaGreatDoorPackB
import Derived.Test.YtibkmcfinkadhaaGreatDoorRows
import Derived.LaidMore
import Derived.Stop.Joined
import Derived.Stop.LaidTwo
/- The model's l07Twice, walked. Conditions: the list lies in memory. -/
namespace Go.Proofs.YtibkmcfinkadhaaGreatDoor.Trm
open Go.RowKit Own
theorem specTwice_any (ns : List ByteArray) (nv : Value) (w : World) (h : StrsAt w ns nv) (hcap : CapOk nv ns.length) :
    Calls Tryz.prog 23 #[nv] w fun e w' => e = .returned (.bool (twiceB ns)) ∧ Below w.heap.size w w' := by
  obtain ⟨a, c, rfl, hc⟩ := hcap
  obtain ⟨a2, c2, e2, h1, h2⟩ := id h
  simp at e2
  obtain ⟨rfl, rfl⟩ := e2
  have HH := Lib.hid h
  have HN := Lib.hid h2
  have HL := Lib.hid h1
  have HTY : Hid (∀ i (hi : i < ns.length), ns[i] ∈ ns.take i → twiceB ns = true) := fun i hi h => twiceB_yes h
  have HTN : Hid ((∀ i (hi : i < ns.length), ¬ ns[i] ∈ ns.take i) → twiceB ns = false) := twiceB_no
  generalize twiceB ns = tb at HTY HTN ⊢
  clear h1 h2 h
  go_enter Tryz.func23, Tryz.ntmps23
  go_wp2
  go_loopw [3] (fun i wr => ∃ j : Nat, j ≤ ns.length ∧ i = .int .i64 j ∧ Hid (∀ k (hk : k < ns.length), k < j → ¬ ns[k] ∈ ns.take k) ∧ Hid (Below w.heap.size w wr))
    (fun i _ => ns.length - (intOf i).toNat)
  case atStart => exact ⟨0, Nat.zero_le _, rfl, fun _ _ h => by omega, Below.refl _ _⟩
  case round =>
    obtain ⟨j, hj, rfl, hno, hbe⟩ := hrel
    have hL := HL.out
    by_cases hlt : j < ns.length
    · obtain ⟨g, o, rfl, h3⟩ := HN.out (by omega)
      have c0 := keeps_below hbe.out _ _ (h3 j hlt)
      have c0d : wr.drew.cell? ⟨g, o + j, none⟩ = some (.string ns[j]) := c0
      have hjc : (j : Int) ≤ (c : Int) := by omega
      have hj0 : (0 : Int) ≤ (j : Int) := by omega
      clear h3
      by_cases he : ns[j] ∈ ns.take j
      · have C := Lib.hid (fun wx (hb : Below wr.heap.size wr wx) => specHasL_any (ns.take j) (.slice (some ⟨g, o, none⟩) j c) ns[j] wx ((strsAt_take HH.out hj).keep (keeps_below (hbe.out.trans (hb.mono hbe.out.size)))) true ⟨fun _ => he, fun _ => rfl⟩)
        have HT : Hid (tb = true) := HTY.out j hlt he
        have hb0 : Below wr.heap.size wr wr.drew := (Below.refl _ _).drew
        clear he
        go_wp2_with fail
        go_region_with (first
          | (go_at_call 33; refine (C.out _ (by assumption)).mono ?_; rintro e w2 ⟨rfl, rfl⟩))
        all_goals
          go_wp2_with fail
          go_ret
          exact ⟨by rw [HT.out]; rfl, hbe.out.drew⟩
      · have C := Lib.hid (fun wx (hb : Below wr.heap.size wr wx) => specHasL_any (ns.take j) (.slice (some ⟨g, o, none⟩) j c) ns[j] wx ((strsAt_take HH.out hj).keep (keeps_below (hbe.out.trans (hb.mono hbe.out.size)))) false ⟨fun h => (Bool.noConfusion h), fun h => absurd h he⟩)
        have HNO : Hid (∀ k (hk : k < ns.length), k < j + 1 → ¬ ns[k] ∈ ns.take k) := fun k hk h => by
          rcases Nat.lt_or_ge k j with h' | h'
          · exact hno.out k hk h'
          · have : k = j := by omega
            subst this; exact he
        have hb0 : Below wr.heap.size wr wr.drew := (Below.refl _ _).drew
        clear he
        go_wp2_with fail
        go_region_with (first
          | (go_at_call 33; refine (C.out _ (by assumption)).mono ?_; rintro e w2 ⟨rfl, rfl⟩))
        all_goals
          go_wp2_with fail
          go_roundw
          case rel => exact ⟨j + 1, by omega, by go_num, HNO.out, hbe.out.drew⟩
          case measure => simp [intOf]; omega
    · have HF : Hid (tb = false) := HTN.out (fun k hk => hno.out k hk (by omega))
      go_wp2
      go_ret
      exact ⟨by rw [HF.out]; rfl, hbe.out⟩
end Go.Proofs.YtibkmcfinkadhaaGreatDoor.Trm
/- Where something is met first in a row. Without conditions: no Go text is spoken of here. -/
namespace Go.Proofs.YtibkmcfinkadhaaGreatDoor.Trm
open Go.RowKit Own
def IdxG (n : Nat) (hit : Nat → Prop) (x : Int) : Prop := (∃ i : Nat, i < n ∧ x = (i : Int) ∧ hit i ∧ ∀ j, j < i → ¬ hit j) ∨ (x = -1 ∧ ∀ j, j < n → ¬ hit j)
theorem IdxG.uni {n : Nat} {hit : Nat → Prop} {x y : Int} (h : IdxG n hit x) (h2 : IdxG n hit y) : x = y := by
  rcases h with ⟨i, hi, rfl, hh, hf⟩ | ⟨rfl, hf⟩
  · rcases h2 with ⟨k, hk, rfl, hh2, hf2⟩ | ⟨rfl, hf2⟩
    · rcases Nat.lt_trichotomy i k with h | h | h
      · exact absurd hh (hf2 i h)
      · rw [h]
      · exact absurd hh2 (hf k h)
    · exact absurd hh (hf2 i hi)
  · rcases h2 with ⟨k, hk, rfl, hh2, hf2⟩ | ⟨rfl, hf2⟩
    · exact absurd hh2 (hf k hk)
    · rfl
theorem IdxG.upto (hit : Nat → Prop) : ∀ n, (∃ i : Nat, i < n ∧ hit i ∧ ∀ j, j < i → ¬ hit j) ∨ ∀ j, j < n → ¬ hit j
  | 0 => .inr fun j h => absurd h (Nat.not_lt_zero j)
  | n + 1 => by
    rcases IdxG.upto hit n with ⟨i, hi, hh, hf⟩ | hf
    · exact .inl ⟨i, by omega, hh, hf⟩
    · by_cases h : hit n
      · exact .inl ⟨n, by omega, h, hf⟩
      · refine .inr fun j hj => ?_
        rcases Nat.lt_or_ge j n with h1 | h1
        · exact hf j h1
        · obtain rfl : j = n := by omega
          exact h
theorem IdxG.ex (n : Nat) (hit : Nat → Prop) : ∃ x, IdxG n hit x := by
  rcases IdxG.upto hit n with ⟨i, hi, hh, hf⟩ | hf
  · exact ⟨i, .inl ⟨i, hi, rfl, hh, hf⟩⟩
  · exact ⟨-1, .inr ⟨rfl, hf⟩⟩
def hitN (ns : List ByteArray) (s : ByteArray) (i : Nat) : Prop := ∃ h : i < ns.length, ns[i] = s
def hitP (ps : List PrT) (s : ByteArray) (i : Nat) : Prop := ∃ h : i < ps.length, ps[i].name = s
theorem idxG_of {ns : List ByteArray} {s : ByteArray} {x : Int} (h : IdxI ns s x) : IdxG ns.length (hitN ns s) x := by
  rcases h with ⟨i, hi, rfl, he, hf⟩ | ⟨rfl, hf⟩
  · exact .inl ⟨i, hi, rfl, ⟨hi, he⟩, fun j hj ⟨hl, e⟩ => hf j hl hj e⟩
  · exact .inr ⟨rfl, fun j _ ⟨hl, e⟩ => hf j hl e⟩
theorem ret_iP {a b : Int} (h : a = b) : Ending.returned (.int .i64 a) = .returned (.int .i64 b) := by rw [h]
end Go.Proofs.YtibkmcfinkadhaaGreatDoor.Trm
/- ProcAt of both sides, walked. Conditions: the program lies in memory. -/
namespace Go.Proofs.YtibkmcfinkadhaaGreatDoor.Trm
open Go.RowKit Own
theorem specProc_any (x : PTree) (s : ByteArray) (v : Value) (w : World) (hl : PLies w x v) :
    Calls Tryz.prog 25 #[v, .string s] w fun e w' => ∃ n, e = .returned (.int .i64 n) ∧ IdxG x.procs.length (hitP x.procs s) n ∧ Below w.heap.size w w' := by
  obtain ⟨ga, gc, la, lc, pa, pc, rfl, _, _, h3⟩ := hl
  obtain ⟨hlen, a, cap, e, hk⟩ := h3
  cases e
  generalize x.procs = ps at hlen hk
  have HK := Lib.hid hk
  have X0 := Lib.hid (Box3.new w (.slice ga x.globals.length gc) (.slice la x.locks.length lc) (.slice pa ps.length pc) 27)
  have B0 := Lib.hid ((Below.refl w.heap.size w).alloc (Nat.le_refl _) (.cells #[.slice ga x.globals.length gc, .slice la x.locks.length lc, .slice pa ps.length pc] 27))
  clear hk
  go_enter Tryz.func25, Tryz.ntmps25
  go_wp2
  go_loopw [5] (fun i wr => ∃ (j : Nat), j ≤ ps.length ∧ i = .int .i64 j ∧ Hid (∀ i, i < j → ¬ hitP ps s i) ∧ Hid (Box3 wr w.heap.size (.slice ga x.globals.length gc) (.slice la x.locks.length lc) (.slice pa ps.length pc)) ∧ Hid (Below w.heap.size w wr))
    (fun i _ => ps.length - (intOf i).toNat)
  case atStart => exact ⟨0, Nat.zero_le _, rfl, fun i h => by omega, X0.out, B0.out⟩
  case round =>
    obtain ⟨j, hj, rfl, hne, hbx, hbe⟩ := hrel
    obtain ⟨p0, p1, p2⟩ := hbx.out
    by_cases hlt : j < ps.length
    · obtain ⟨g, o, rfl, hcell⟩ := HK.out (by omega)
      obtain ⟨_, ba, bc, c0, c1, _⟩ := (hcell j hlt).keep (keeps_below hbe.out)
      clear hcell
      by_cases he : ps[j].name = s
      · have HX : Hid (IdxG ps.length (hitP ps s) j) := .inl ⟨j, hlt, rfl, ⟨hlt, he⟩, hne.out⟩
        rw [he] at c0
        clear he
        go_wp2
        go_ret
        exact ⟨_, rfl, HX.out, hbe.out⟩
      · have hq := bytes_ne he
        have HS : Hid (∀ i, i < j + 1 → ¬ hitP ps s i) := fun i hi ⟨hl, e⟩ => by
          rcases Nat.lt_or_ge i j with h1 | h1
          · exact hne.out i h1 ⟨hl, e⟩
          · obtain rfl : i = j := by omega
            exact he e
        clear he
        go_wp2
        go_roundw
        case rel => exact ⟨j + 1, by omega, by go_num, HS, hbx, hbe⟩
        case measure => simp [intOf]; omega
    · have HX : Hid (IdxG ps.length (hitP ps s) (-1)) := .inr ⟨rfl, fun j h => hne.out j (by omega)⟩
      go_wp2
      go_ret
      exact ⟨_, rfl, HX.out, hbe.out⟩
def EqPost (p : PrT) (s : ByteArray) (w : World) (e : Ending) (w' : World) : Prop := ∃ b, e = .returned (.bool b) ∧ (b = true ↔ p.name = s) ∧ Below w.heap.size w w'
theorem implProcEq_any (p : PrT) (s : ByteArray) (g : Nat) (a : Option Addr) (n c : Nat) (w : World) (hg : w.cell? ⟨g, 0, none⟩ = some (.string s)) :
    Calls Tryz.prog 70 #[.agg #[.string p.name, .slice a n c], .pointer (some ⟨g, 0, none⟩)] w (EqPost p s w) := by
  have h1 := keeps_alloc w (.cells #[.string p.name, .slice a n c] 31) _ _ hg
  by_cases he : p.name = s
  · rw [← he] at h1
    have HB : Hid ((true : Bool) = true ↔ p.name = s) := by show _ ↔ _; simp [he]
    clear he hg
    go_enter Tryz.func70, Tryz.ntmps70
    go_wp2
    go_ret
    exact ⟨true, rfl, by simpa using HB.out, (Below.refl _ _).alloc (Nat.le_refl _) _⟩
  · have hq := bytes_ne he
    have HB : Hid ((false : Bool) = true ↔ p.name = s) := by show _ ↔ _; simp [he]
    clear he hg
    go_enter Tryz.func70, Tryz.ntmps70
    go_wp2
    go_ret
    exact ⟨false, rfl, by simpa using HB.out, (Below.refl _ _).alloc (Nat.le_refl _) _⟩
theorem implIdxF_any (ps : List PrT) (s : ByteArray) (q : Nat) (v : Value) (w : World) (hl : PrsAt w v ps) (hg : w.cell? ⟨q, 0, none⟩ = some (.string s)) :
    Calls Tryz.prog 69 #[v, .func (.func 70) #[] #[.pointer (some ⟨q, 0, none⟩)]] w fun e w' => ∃ n, e = .returned (.int .i64 n) ∧ IdxG ps.length (hitP ps s) n ∧ Below w.heap.size w w' := by
  obtain ⟨hlen, aa, cap, rfl, hk⟩ := hl
  have HK := Lib.hid hk
  have HG := Lib.hid hg
  clear hk hg
  go_enter Tryz.func69, Tryz.ntmps69
  go_wp2
  go_loopw [8] (fun i wr => ∃ (j : Nat), j ≤ ps.length ∧ i = .int .i64 j ∧ Hid (∀ i, i < j → ¬ hitP ps s i) ∧ Hid (Below w.heap.size w wr))
    (fun i _ => ps.length - (intOf i).toNat)
  case atStart => exact ⟨0, Nat.zero_le _, rfl, fun i h => by omega, Below.refl _ _⟩
  case round =>
    obtain ⟨j, hj, rfl, hne, hbe⟩ := hrel
    by_cases hlt : j < ps.length
    · obtain ⟨g, o, rfl, hcell⟩ := HK.out (by omega)
      obtain ⟨_, ba, bc, c0, c1, _⟩ := (hcell j hlt).keep (keeps_below hbe.out)
      have C := Lib.hid (implProcEq_any ps[j] s q ba ps[j].body.length bc wr (keeps_below hbe.out _ _ HG.out))
      clear hcell
      go_wp2_with fail
      refine C.out.mono ?_
      rintro e w1 ⟨b, rfl, hb, hbw⟩
      have HB := Lib.hid hb
      have HB1 := Lib.hid (hbe.out.trans (hbw.mono hbe.out.size))
      clear hb hbw
      cases b with
      | true =>
        have HX : Hid (IdxG ps.length (hitP ps s) j) := .inl ⟨j, hlt, rfl, ⟨hlt, HB.out.1 rfl⟩, hne.out⟩
        go_wp2
        go_ret
        exact ⟨_, rfl, HX.out, HB1.out⟩
      | false =>
        have HS : Hid (∀ i, i < j + 1 → ¬ hitP ps s i) := fun i hi ⟨hl, e⟩ => by
          rcases Nat.lt_or_ge i j with h1 | h1
          · exact hne.out i h1 ⟨hl, e⟩
          · obtain rfl : i = j := by omega
            exact absurd (HB.out.2 e) (by simp)
        go_wp2
        go_roundw
        case rel => exact ⟨j + 1, by omega, by go_num, HS, HB1⟩
        case measure => simp [intOf]; omega
    · have HX : Hid (IdxG ps.length (hitP ps s) (-1)) := .inr ⟨rfl, fun j h => hne.out j (by omega)⟩
      go_wp2
      go_ret
      exact ⟨_, rfl, HX.out, hbe.out⟩
theorem implProc_any (x : PTree) (s : ByteArray) (v : Value) (w : World) (hl : PLies w x v) :
    Calls Tryz.prog 48 #[v, .string s] w fun e w' => ∃ n, e = .returned (.int .i64 n) ∧ IdxG x.procs.length (hitP x.procs s) n ∧ Below w.heap.size w w' := by
  obtain ⟨ga, gc, la, lc, pa, pc, rfl, _, _, h3⟩ := hl
  have C := Lib.hid (fun w2 (hb : Below w.heap.size w w2) hg => implIdxF_any x.procs s (w.heap.size + 1) (.slice pa x.procs.length pc) w2 (h3.keep (keeps_below hb)) hg)
  clear h3
  go_enter Tryz.func48, Tryz.ntmps48
  go_wp2_with fail
  refine (C.out _ (((Below.refl _ _).alloc (Nat.le_refl _) _).alloc (by simp) _) (by simp [go_sem])).mono ?_
  rintro e w1 ⟨n, rfl, hx, hb⟩
  have HX := Lib.hid hx
  have HB := Lib.hid (below_box1 (below_box1 hb))
  clear hx hb
  go_wp2
  go_ret
  exact ⟨_, rfl, HX.out, HB.out⟩
end Go.Proofs.YtibkmcfinkadhaaGreatDoor.Trm
/- The model's ProgFault, walked. Conditions: the program lies in memory; it has at most 2 to the 20 names and statements. -/
namespace Go.Proofs.YtibkmcfinkadhaaGreatDoor.Trm
open Go.RowKit Own
/-- Lists whose room is what Go asks. -/
def PCap (x : PTree) (v : Value) : Prop := ∃ ga gc la lc pv, v = .agg #[.slice ga x.globals.length gc, .slice la x.locks.length lc, pv] ∧ x.globals.length ≤ gc ∧ x.locks.length ≤ lc
theorem POwn.cap {w : World} {x : PTree} {v : Value} (h : POwn w x v) : PCap x v := by
  obtain ⟨ga, gc, la, lc, pa, pc, rfl, _, _, _, h1, h2⟩ := h
  exact ⟨_, _, _, _, _, rfl, h1.1, h2.1⟩
def mainB : ByteArray := ⟨#[109, 97, 105, 110]⟩
open Classical in
noncomputable def faultI (x : PTree) : Int :=
  if okP x = false then 1 else if (twiceB x.globals || (twiceB x.locks || twiceB (procNs x.procs))) = true then 2 else if unkIn x ≠ [] then 3 else if ¬ mainB ∈ procNs x.procs then 4 else 0
theorem idx_neg {ps : List PrT} {s : ByteArray} {n : Int} (h : IdxG ps.length (hitP ps s) n) : n < 0 ↔ ¬ s ∈ procNs ps := by
  rcases h with ⟨i, hi, rfl, ⟨h1, h2⟩, _⟩ | ⟨rfl, h⟩
  · constructor
    · intro h; omega
    · intro h
      exact absurd (List.mem_map.2 ⟨ps[i], List.getElem_mem h1, h2⟩) h
  · constructor
    · intro _ hm
      obtain ⟨p, hp, e⟩ := List.mem_map.1 hm
      obtain ⟨i, hi, e2⟩ := List.getElem_of_mem hp
      exact h i hi ⟨hi, by rw [e2]; exact e⟩
    · intro _; omega
set_option maxRecDepth 20000 in
set_option maxHeartbeats 3200000 in
theorem specFault_any (x : PTree) (v : Value) (w : World) (hz : szP x ≤ 1048576) (hp : PLies w x v) (hc : PCap x v) :
    Calls Tryz.prog 8 #[v] w fun e w' => e = .returned (.int .i64 (faultI x)) ∧ Below w.heap.size w w' := by
  obtain ⟨ga, gc, la, lc, pa, pc, rfl, hpg, hpk, _⟩ := id hp
  obtain ⟨ga2, gc2, la2, lc2, pv, e, hcg, hcl⟩ := hc
  simp at e
  obtain ⟨⟨rfl, rfl⟩, ⟨rfl, rfl⟩, rfl⟩ := e
  have hpl : x.procs.length ≤ 8000000 := by unfold szP at hz; omega
  have CO := Lib.hid (fun wx (hb : Below w.heap.size w wx) => specProgOk_any x _ wx (hp.keep (keeps_below hb)))
  have CT1 := Lib.hid (fun wx (hb : Below w.heap.size w wx) => specTwice_any x.globals (.slice ga x.globals.length gc) wx (hpg.1.keep (keeps_below hb)) ⟨ga, gc, rfl, hcg⟩)
  have CT2 := Lib.hid (fun wx (hb : Below w.heap.size w wx) => specTwice_any x.locks (.slice la x.locks.length lc) wx (hpk.1.keep (keeps_below hb)) ⟨la, lc, rfl, hcl⟩)
  have CP := Lib.hid (fun wx (hb : Below w.heap.size w wx) => specProcs_any x _ wx hpl (hp.keep (keeps_below hb)))
  have CT3 := Lib.hid (fun wx kv hk hc => specTwice_any (procNs x.procs) kv wx hk hc)
  have CU := Lib.hid (fun wx (hb : Below w.heap.size w wx) => specUnkIn_any x _ wx hz (hp.keep (keeps_below hb)))
  have CM := Lib.hid (fun wx (hb : Below w.heap.size w wx) => specProc_any x mainB _ wx (hp.keep (keeps_below hb)))
  have hb0 : Below w.heap.size w (w.alloc (.cells #[.slice ga x.globals.length gc, .slice la x.locks.length lc, .slice pa x.procs.length pc] 27)) := (Below.refl w.heap.size w).alloc (Nat.le_refl _) _
  have X0 := Lib.hid (Box3.new w (.slice ga x.globals.length gc) (.slice la x.locks.length lc) (.slice pa x.procs.length pc) 27)
  have HF : Hid (faultI x = if okP x = false then 1 else if (twiceB x.globals || (twiceB x.locks || twiceB (procNs x.procs))) = true then 2 else if unkIn x ≠ [] then 3 else @ite _ (¬ mainB ∈ procNs x.procs) (Classical.propDecidable _) 4 0) := by show _ = _; unfold faultI; congr
  obtain ⟨W1, hW1⟩ : ∃ w1, w1 = w.alloc (.cells #[.slice ga x.globals.length gc, .slice la x.locks.length lc, .slice pa x.procs.length pc] 27) := ⟨_, rfl⟩
  rw [← hW1] at hb0 X0
  have HB0 := Lib.hid hb0
  obtain ⟨p0, p1, p2⟩ := X0.out
  have HW1 := Lib.hid hW1
  generalize faultI x = fi at HF ⊢
  clear hpg hpk hp hz hb0
  obtain ⟨ok, hok⟩ : ∃ b, okP x = b := ⟨_, rfl⟩
  obtain ⟨t1, ht1⟩ : ∃ b, twiceB x.globals = b := ⟨_, rfl⟩
  obtain ⟨t2, ht2⟩ : ∃ b, twiceB x.locks = b := ⟨_, rfl⟩
  obtain ⟨t3, ht3⟩ : ∃ b, twiceB (procNs x.procs) = b := ⟨_, rfl⟩
  have HFF := HF.out
  rw [hok, ht1, ht2, ht3] at HFF
  rw [hok] at CO
  rw [ht1] at CT1
  rw [ht2] at CT2
  rw [ht3] at CT3
  clear hok ht1 ht2 ht3 HF
  cases ok with
  | false =>
    have HR : Hid (fi = 1) := by show _ = _; rw [HFF]; simp
    clear HFF
    rw [HW1.out] at p0 p1 p2
    go_enter Tryz.func8, Tryz.ntmps8
    go_wp2_with fail
    rw [← HW1.out] at p0 p1 p2
    rw [← HW1.out]
    refine (CO.out _ HB0.out).mono ?_
    rintro e w2 ⟨rfl, hb2⟩
    have HB2 := Lib.hid (HB0.out.trans (hb2.mono HB0.out.size))
    obtain ⟨p0, p1, p2⟩ := X0.out.keep (keeps_below hb2)
    have X2 := Lib.hid (X0.out.keep (keeps_below hb2))
    clear hb2
    go_wp2
    go_ret
    exact ⟨by rw [HR.out]; rfl, HB2.out⟩
  | true =>
    cases t1 with
    | true =>
      have HR : Hid (fi = 2) := by show _ = _; rw [HFF]; simp
      clear HFF
      rw [HW1.out] at p0 p1 p2
      go_enter Tryz.func8, Tryz.ntmps8
      go_wp2_with fail
      rw [← HW1.out] at p0 p1 p2
      rw [← HW1.out]
      refine (CO.out _ HB0.out).mono ?_
      rintro e w2 ⟨rfl, hb2⟩
      have HB2 := Lib.hid (HB0.out.trans (hb2.mono HB0.out.size))
      obtain ⟨p0, p1, p2⟩ := X0.out.keep (keeps_below hb2)
      have X2 := Lib.hid (X0.out.keep (keeps_below hb2))
      clear hb2
      go_wp2_with fail
      refine (CT1.out _ HB2.out).mono ?_
      rintro e w3 ⟨rfl, hb3⟩
      have HB3 := Lib.hid (HB2.out.trans (hb3.mono HB2.out.size))
      have X3 := Lib.hid (X2.out.keep (keeps_below hb3))
      obtain ⟨p0, p1, p2⟩ := X3.out
      clear hb3
      go_wp2
      go_ret
      exact ⟨by rw [HR.out]; rfl, HB3.out⟩
    | false =>
      cases t2 with
      | true =>
        have HR : Hid (fi = 2) := by show _ = _; rw [HFF]; simp
        clear HFF
        rw [HW1.out] at p0 p1 p2
        go_enter Tryz.func8, Tryz.ntmps8
        go_wp2_with fail
        rw [← HW1.out] at p0 p1 p2
        rw [← HW1.out]
        refine (CO.out _ HB0.out).mono ?_
        rintro e w2 ⟨rfl, hb2⟩
        have HB2 := Lib.hid (HB0.out.trans (hb2.mono HB0.out.size))
        obtain ⟨p0, p1, p2⟩ := X0.out.keep (keeps_below hb2)
        have X2 := Lib.hid (X0.out.keep (keeps_below hb2))
        clear hb2
        go_wp2_with fail
        refine (CT1.out _ HB2.out).mono ?_
        rintro e w3 ⟨rfl, hb3⟩
        have HB3 := Lib.hid (HB2.out.trans (hb3.mono HB2.out.size))
        have X3 := Lib.hid (X2.out.keep (keeps_below hb3))
        obtain ⟨p0, p1, p2⟩ := X3.out
        clear hb3
        go_wp2_with fail
        refine (CT2.out _ HB3.out).mono ?_
        rintro e w4 ⟨rfl, hb4⟩
        have HB4 := Lib.hid (HB3.out.trans (hb4.mono HB3.out.size))
        have X4 := Lib.hid (X3.out.keep (keeps_below hb4))
        obtain ⟨p0, p1, p2⟩ := X4.out
        clear hb4
        go_wp2
        go_ret
        exact ⟨by rw [HR.out]; rfl, HB4.out⟩
      | false =>
        cases t3 with
        | true =>
          have HR : Hid (fi = 2) := by show _ = _; rw [HFF]; simp
          clear HFF
          rw [HW1.out] at p0 p1 p2
          go_enter Tryz.func8, Tryz.ntmps8
          go_wp2_with fail
          rw [← HW1.out] at p0 p1 p2
          rw [← HW1.out]
          refine (CO.out _ HB0.out).mono ?_
          rintro e w2 ⟨rfl, hb2⟩
          have HB2 := Lib.hid (HB0.out.trans (hb2.mono HB0.out.size))
          obtain ⟨p0, p1, p2⟩ := X0.out.keep (keeps_below hb2)
          have X2 := Lib.hid (X0.out.keep (keeps_below hb2))
          clear hb2
          go_wp2_with fail
          refine (CT1.out _ HB2.out).mono ?_
          rintro e w3 ⟨rfl, hb3⟩
          have HB3 := Lib.hid (HB2.out.trans (hb3.mono HB2.out.size))
          have X3 := Lib.hid (X2.out.keep (keeps_below hb3))
          obtain ⟨p0, p1, p2⟩ := X3.out
          clear hb3
          go_wp2_with fail
          refine (CT2.out _ HB3.out).mono ?_
          rintro e w4 ⟨rfl, hb4⟩
          have HB4 := Lib.hid (HB3.out.trans (hb4.mono HB3.out.size))
          have X4 := Lib.hid (X3.out.keep (keeps_below hb4))
          obtain ⟨p0, p1, p2⟩ := X4.out
          clear hb4
          go_wp2_with fail
          refine (CP.out _ HB4.out).mono ?_
          rintro e w5 ⟨kv, rfl, hk5, hc5, hb5⟩
          have HB5 := Lib.hid (HB4.out.trans (hb5.mono HB4.out.size))
          have X5 := Lib.hid (X4.out.keep (keeps_below hb5))
          obtain ⟨p0, p1, p2⟩ := X5.out
          clear hb5
          obtain ⟨ka, kc, rfl, hkc⟩ := id hc5
          go_wp2_with fail
          refine (CT3.out _ _ hk5 hc5).mono ?_
          rintro e w6 ⟨rfl, hb6⟩
          have HB6 := Lib.hid (HB5.out.trans (hb6.mono HB5.out.size))
          have X6 := Lib.hid (X5.out.keep (keeps_below hb6))
          obtain ⟨p0, p1, p2⟩ := X6.out
          clear hb6
          go_wp2
          go_ret
          exact ⟨by rw [HR.out]; rfl, HB6.out⟩
        | false =>
          by_cases hu : unkIn x = []
          · by_cases hm : mainB ∈ procNs x.procs
            · have HR : Hid (fi = 0) := by show _ = _; rw [HFF]; simp [hu, hm]
              clear HFF
              have hul : ¬ (0 : Int) < ((unkIn x).length : Int) := by rw [hu]; simp
              clear hu
              rw [HW1.out] at p0 p1 p2
              go_enter Tryz.func8, Tryz.ntmps8
              go_wp2_with fail
              rw [← HW1.out] at p0 p1 p2
              rw [← HW1.out]
              refine (CO.out _ HB0.out).mono ?_
              rintro e w2 ⟨rfl, hb2⟩
              have HB2 := Lib.hid (HB0.out.trans (hb2.mono HB0.out.size))
              obtain ⟨p0, p1, p2⟩ := X0.out.keep (keeps_below hb2)
              have X2 := Lib.hid (X0.out.keep (keeps_below hb2))
              clear hb2
              go_wp2_with fail
              refine (CT1.out _ HB2.out).mono ?_
              rintro e w3 ⟨rfl, hb3⟩
              have HB3 := Lib.hid (HB2.out.trans (hb3.mono HB2.out.size))
              have X3 := Lib.hid (X2.out.keep (keeps_below hb3))
              obtain ⟨p0, p1, p2⟩ := X3.out
              clear hb3
              go_wp2_with fail
              refine (CT2.out _ HB3.out).mono ?_
              rintro e w4 ⟨rfl, hb4⟩
              have HB4 := Lib.hid (HB3.out.trans (hb4.mono HB3.out.size))
              have X4 := Lib.hid (X3.out.keep (keeps_below hb4))
              obtain ⟨p0, p1, p2⟩ := X4.out
              clear hb4
              go_wp2_with fail
              refine (CP.out _ HB4.out).mono ?_
              rintro e w5 ⟨kv, rfl, hk5, hc5, hb5⟩
              have HB5 := Lib.hid (HB4.out.trans (hb5.mono HB4.out.size))
              have X5 := Lib.hid (X4.out.keep (keeps_below hb5))
              obtain ⟨p0, p1, p2⟩ := X5.out
              clear hb5
              obtain ⟨ka, kc, rfl, hkc⟩ := id hc5
              go_wp2_with fail
              refine (CT3.out _ _ hk5 hc5).mono ?_
              rintro e w6 ⟨rfl, hb6⟩
              have HB6 := Lib.hid (HB5.out.trans (hb6.mono HB5.out.size))
              have X6 := Lib.hid (X5.out.keep (keeps_below hb6))
              obtain ⟨p0, p1, p2⟩ := X6.out
              clear hb6
              go_wp2_with fail
              refine (CU.out _ HB6.out).mono ?_
              rintro e w7 ⟨uv, rfl, hr7, hb7⟩
              have HB7 := Lib.hid (HB6.out.trans (hb7.mono HB6.out.size))
              have X7 := Lib.hid (X6.out.keep (keeps_below hb7))
              obtain ⟨p0, p1, p2⟩ := X7.out
              clear hb7
              obtain ⟨ua, uc, rfl, _⟩ := row_shape hr7
              clear hr7
              go_wp2_with fail
              refine (CM.out _ HB7.out).mono ?_
              rintro e w8 ⟨n, rfl, hn8, hb8⟩
              have HB8 := Lib.hid (HB7.out.trans (hb8.mono HB7.out.size))
              have X8 := Lib.hid (X7.out.keep (keeps_below hb8))
              obtain ⟨p0, p1, p2⟩ := X8.out
              clear hb8
              have hn := idx_neg hn8
              clear hn8
              have hnn : ¬ n < 0 := fun h => (hn.1 h) hm
              clear hn hm
              go_wp2
              go_ret
              exact ⟨by rw [HR.out]; rfl, HB8.out⟩
            · have HR : Hid (fi = 4) := by show _ = _; rw [HFF]; simp [hu, hm]
              clear HFF
              have hul : ¬ (0 : Int) < ((unkIn x).length : Int) := by rw [hu]; simp
              clear hu
              rw [HW1.out] at p0 p1 p2
              go_enter Tryz.func8, Tryz.ntmps8
              go_wp2_with fail
              rw [← HW1.out] at p0 p1 p2
              rw [← HW1.out]
              refine (CO.out _ HB0.out).mono ?_
              rintro e w2 ⟨rfl, hb2⟩
              have HB2 := Lib.hid (HB0.out.trans (hb2.mono HB0.out.size))
              obtain ⟨p0, p1, p2⟩ := X0.out.keep (keeps_below hb2)
              have X2 := Lib.hid (X0.out.keep (keeps_below hb2))
              clear hb2
              go_wp2_with fail
              refine (CT1.out _ HB2.out).mono ?_
              rintro e w3 ⟨rfl, hb3⟩
              have HB3 := Lib.hid (HB2.out.trans (hb3.mono HB2.out.size))
              have X3 := Lib.hid (X2.out.keep (keeps_below hb3))
              obtain ⟨p0, p1, p2⟩ := X3.out
              clear hb3
              go_wp2_with fail
              refine (CT2.out _ HB3.out).mono ?_
              rintro e w4 ⟨rfl, hb4⟩
              have HB4 := Lib.hid (HB3.out.trans (hb4.mono HB3.out.size))
              have X4 := Lib.hid (X3.out.keep (keeps_below hb4))
              obtain ⟨p0, p1, p2⟩ := X4.out
              clear hb4
              go_wp2_with fail
              refine (CP.out _ HB4.out).mono ?_
              rintro e w5 ⟨kv, rfl, hk5, hc5, hb5⟩
              have HB5 := Lib.hid (HB4.out.trans (hb5.mono HB4.out.size))
              have X5 := Lib.hid (X4.out.keep (keeps_below hb5))
              obtain ⟨p0, p1, p2⟩ := X5.out
              clear hb5
              obtain ⟨ka, kc, rfl, hkc⟩ := id hc5
              go_wp2_with fail
              refine (CT3.out _ _ hk5 hc5).mono ?_
              rintro e w6 ⟨rfl, hb6⟩
              have HB6 := Lib.hid (HB5.out.trans (hb6.mono HB5.out.size))
              have X6 := Lib.hid (X5.out.keep (keeps_below hb6))
              obtain ⟨p0, p1, p2⟩ := X6.out
              clear hb6
              go_wp2_with fail
              refine (CU.out _ HB6.out).mono ?_
              rintro e w7 ⟨uv, rfl, hr7, hb7⟩
              have HB7 := Lib.hid (HB6.out.trans (hb7.mono HB6.out.size))
              have X7 := Lib.hid (X6.out.keep (keeps_below hb7))
              obtain ⟨p0, p1, p2⟩ := X7.out
              clear hb7
              obtain ⟨ua, uc, rfl, _⟩ := row_shape hr7
              clear hr7
              go_wp2_with fail
              refine (CM.out _ HB7.out).mono ?_
              rintro e w8 ⟨n, rfl, hn8, hb8⟩
              have HB8 := Lib.hid (HB7.out.trans (hb8.mono HB7.out.size))
              have X8 := Lib.hid (X7.out.keep (keeps_below hb8))
              obtain ⟨p0, p1, p2⟩ := X8.out
              clear hb8
              have hn := idx_neg hn8
              clear hn8
              have hnn : n < 0 := hn.2 hm
              clear hn hm
              go_wp2
              go_ret
              exact ⟨by rw [HR.out]; rfl, HB8.out⟩
          · have HR : Hid (fi = 3) := by show _ = _; rw [HFF]; simp [hu]
            clear HFF
            have hul : (0 : Int) < ((unkIn x).length : Int) := by have := List.length_pos_iff.2 hu; omega
            clear hu
            rw [HW1.out] at p0 p1 p2
            go_enter Tryz.func8, Tryz.ntmps8
            go_wp2_with fail
            rw [← HW1.out] at p0 p1 p2
            rw [← HW1.out]
            refine (CO.out _ HB0.out).mono ?_
            rintro e w2 ⟨rfl, hb2⟩
            have HB2 := Lib.hid (HB0.out.trans (hb2.mono HB0.out.size))
            obtain ⟨p0, p1, p2⟩ := X0.out.keep (keeps_below hb2)
            have X2 := Lib.hid (X0.out.keep (keeps_below hb2))
            clear hb2
            go_wp2_with fail
            refine (CT1.out _ HB2.out).mono ?_
            rintro e w3 ⟨rfl, hb3⟩
            have HB3 := Lib.hid (HB2.out.trans (hb3.mono HB2.out.size))
            have X3 := Lib.hid (X2.out.keep (keeps_below hb3))
            obtain ⟨p0, p1, p2⟩ := X3.out
            clear hb3
            go_wp2_with fail
            refine (CT2.out _ HB3.out).mono ?_
            rintro e w4 ⟨rfl, hb4⟩
            have HB4 := Lib.hid (HB3.out.trans (hb4.mono HB3.out.size))
            have X4 := Lib.hid (X3.out.keep (keeps_below hb4))
            obtain ⟨p0, p1, p2⟩ := X4.out
            clear hb4
            go_wp2_with fail
            refine (CP.out _ HB4.out).mono ?_
            rintro e w5 ⟨kv, rfl, hk5, hc5, hb5⟩
            have HB5 := Lib.hid (HB4.out.trans (hb5.mono HB4.out.size))
            have X5 := Lib.hid (X4.out.keep (keeps_below hb5))
            obtain ⟨p0, p1, p2⟩ := X5.out
            clear hb5
            obtain ⟨ka, kc, rfl, hkc⟩ := id hc5
            go_wp2_with fail
            refine (CT3.out _ _ hk5 hc5).mono ?_
            rintro e w6 ⟨rfl, hb6⟩
            have HB6 := Lib.hid (HB5.out.trans (hb6.mono HB5.out.size))
            have X6 := Lib.hid (X5.out.keep (keeps_below hb6))
            obtain ⟨p0, p1, p2⟩ := X6.out
            clear hb6
            go_wp2_with fail
            refine (CU.out _ HB6.out).mono ?_
            rintro e w7 ⟨uv, rfl, hr7, hb7⟩
            have HB7 := Lib.hid (HB6.out.trans (hb7.mono HB6.out.size))
            have X7 := Lib.hid (X6.out.keep (keeps_below hb7))
            obtain ⟨p0, p1, p2⟩ := X7.out
            clear hb7
            obtain ⟨ua, uc, rfl, _⟩ := row_shape hr7
            clear hr7
            go_wp2
            go_ret
            exact ⟨by rw [HR.out]; rfl, HB7.out⟩
end Go.Proofs.YtibkmcfinkadhaaGreatDoor.Trm
/- The program's PlaceOf, walked. Conditions: the row lies in memory. -/
namespace Go.Proofs.YtibkmcfinkadhaaGreatDoor.Trm
open Go.RowKit Own
theorem implPlace_any (ns : List ByteArray) (s : ByteArray) (nv : Value) (w : World) (hn : StrsAt w ns nv) :
    Calls Tryz.prog 68 #[nv, .string s] w fun e w' => ∃ x, e = .returned (.int .i64 x) ∧ IdxI ns s x ∧ w = w' := by
  have C := Lib.hid (implIndex_any ns s nv w hn)
  obtain ⟨na, nc, rfl, hn1, hn2⟩ := hn
  clear hn2
  go_enter Tryz.func68, Tryz.ntmps68
  go_wp2_with fail
  refine C.out.mono ?_
  rintro e w1 ⟨x, rfl, hx, rfl⟩
  have HX := Lib.hid hx
  clear hx
  go_wp2
  go_ret
  exact ⟨_, rfl, HX.out, rfl⟩
end Go.Proofs.YtibkmcfinkadhaaGreatDoor.Trm
/- The program's ProgFault, walked. Conditions: the program is of the call's own, of at most 2 to the 20; the four errors lie in memory. -/
namespace Go.Proofs.YtibkmcfinkadhaaGreatDoor.Trm
open Go.RowKit Own Er
theorem implTwice_any (ns : List ByteArray) (nv : Value) (w : World) (h : StrsAt w ns nv) :
    Calls Tryz.prog 46 #[nv] w fun e w' => e = .returned (.bool (twiceB ns)) ∧ w = w' := by
  have CP := Lib.hid (fun s => implPlace_any ns s nv w h)
  obtain ⟨a, c, rfl, h1, h2⟩ := id h
  have HN := Lib.hid h2
  have HTY : Hid (∀ i (hi : i < ns.length), ns[i] ∈ ns.take i → twiceB ns = true) := fun i hi h => twiceB_yes h
  have HTN : Hid ((∀ i (hi : i < ns.length), ¬ ns[i] ∈ ns.take i) → twiceB ns = false) := twiceB_no
  generalize twiceB ns = tb at HTY HTN ⊢
  clear h2 h
  go_enter Tryz.func46, Tryz.ntmps46
  go_wp2
  go_loopw [7] (fun i wr => ∃ j : Nat, j ≤ ns.length ∧ i = .int .i64 j ∧ Hid (∀ k (hk : k < ns.length), k < j → ¬ ns[k] ∈ ns.take k) ∧ w = wr)
    (fun i _ => ns.length - (intOf i).toNat)
  case atStart => exact ⟨0, Nat.zero_le _, rfl, fun _ _ h => by omega, rfl⟩
  case round =>
    obtain ⟨j, hj, rfl, hno, rfl⟩ := hrel
    by_cases hlt : j < ns.length
    · obtain ⟨g, o, rfl, h3⟩ := HN.out (by omega)
      have c0 := h3 j hlt
      have CPJ := Lib.hid (CP.out ns[j])
      clear h3
      by_cases he : ns[j] ∈ ns.take j
      · have HT : Hid (tb = true) := HTY.out j hlt he
        have HX : Hid (∀ x, IdxI ns ns[j] x → x < (j : Int)) := fun x hx => by
          obtain ⟨k, hk, ek⟩ := List.getElem_of_mem he
          rw [List.getElem_take] at ek
          rw [List.length_take] at hk
          rcases hx with ⟨i, hi, rfl, _, hf⟩ | ⟨rfl, hf⟩
          · have : ¬ k < i := fun h => hf k (by omega) h ek
            omega
          · exact absurd ek (hf k (by omega))
        clear he
        generalize ns[j] = z at *
        go_wp2_with fail
        refine CPJ.out.mono ?_
        rintro e w2 ⟨x, rfl, hx, rfl⟩
        have hxj := HX.out x hx
        clear hx
        go_wp2_with fail
        go_ret
        exact ⟨by rw [HT.out]; rfl, rfl⟩
      · have HNO : Hid (∀ k (hk : k < ns.length), k < j + 1 → ¬ ns[k] ∈ ns.take k) := fun k hk h => by
          rcases Nat.lt_or_ge k j with h' | h'
          · exact hno.out k hk h'
          · have : k = j := by omega
            subst this; exact he
        have HX : Hid (∀ x, IdxI ns ns[j] x → ¬ x < (j : Int)) := fun x hx => by
          rcases hx with ⟨i, hi, rfl, ei, hf⟩ | ⟨rfl, hf⟩
          · intro hlt2
            refine he (List.mem_iff_getElem.2 ⟨i, ?_, ?_⟩)
            · rw [List.length_take]; omega
            · rw [List.getElem_take]; exact ei
          · exact absurd rfl (hf j hlt)
        clear he
        generalize ns[j] = z at *
        go_wp2_with fail
        refine CPJ.out.mono ?_
        rintro e w2 ⟨x, rfl, hx, rfl⟩
        have hxj := HX.out x hx
        clear hx
        go_wp2_with fail
        go_roundw
        case rel => exact ⟨j + 1, by omega, by go_num, HNO.out, by first | rfl | trivial⟩
        case measure => simp [intOf]; omega
    · have HF : Hid (tb = false) := HTN.out (fun k hk => hno.out k hk (by omega))
      go_wp2
      go_ret
      exact ⟨by rw [HF.out]; rfl, rfl⟩
/-- What wrongWith leaves. -/
def WrongPost (a : Nat → Addr) (f : Nat) (w : World) (e : Ending) (w' : World) : Prop := e = .returned (errV a f) ∧ Below w.heap.size w w'
noncomputable def faultN (x : PTree) : Nat := (faultI x).toNat
theorem faultN_cases (x : PTree) : faultI x = (faultN x : Int) ∧ faultN x ≤ 4 := by
  unfold faultN faultI
  split
  · decide
  · split
    · decide
    · split
      · decide
      · split <;> decide
open Classical in
set_option maxHeartbeats 1600000 in
theorem implWrong_any (a : Nat → Addr) (x : PTree) (v : Value) (w : World) (hz : szP x ≤ 1048576) (hl : POwn w x v) (hE : Errs a w) :
    Calls Tryz.prog 20 #[v] w (WrongPost a (faultN x) w) := by
  have hll := hl.lies
  have CO := Lib.hid (fun wx (hb : Below w.heap.size w wx) => implProgOk_any x v wx hz (hl.below hb))
  have CU := Lib.hid (fun wx (hb : Below w.heap.size w wx) => implUnkIn_any x v wx hz (hl.below hb))
  have CP := Lib.hid (fun wx (hb : Below w.heap.size w wx) => implProcs_any x v wx (by unfold szP at hz; omega) (hll.keep (keeps_below hb)))
  have CM := Lib.hid (fun wx (hb : Below w.heap.size w wx) => implProc_any x mainB v wx (hll.keep (keeps_below hb)))
  have HE := Lib.hid (fun wx (hb : Below w.heap.size w wx) => hE.below hb)
  obtain ⟨ga, gc, la, lc, pa, pc, rfl, hg, hlk, _⟩ := hl
  have CT1 := Lib.hid (fun wx (hb : Below w.heap.size w wx) => implTwice_any x.globals _ wx (hg.1.keep (keeps_below hb)))
  have CT2 := Lib.hid (fun wx (hb : Below w.heap.size w wx) => implTwice_any x.locks _ wx (hlk.1.keep (keeps_below hb)))
  have X0 := Lib.hid (Box3.new w (.slice ga x.globals.length gc) (.slice la x.locks.length lc) (.slice pa x.procs.length pc) 27)
  have B0 := Lib.hid ((Below.refl w.heap.size w).alloc (Nat.le_refl _) (.cells #[.slice ga x.globals.length gc, .slice la x.locks.length lc, .slice pa x.procs.length pc] 27))
  have HF := Lib.hid (show faultI x = if okP x = false then 1 else if (twiceB x.globals || (twiceB x.locks || twiceB (procNs x.procs))) = true then 2 else if unkIn x ≠ [] then 3 else if ¬ mainB ∈ procNs x.procs then 4 else 0 from rfl)
  have HFN := Lib.hid (faultN_cases x).1
  clear hll hg hlk hE hz
  generalize faultN x = fn at HFN ⊢
  rw [HFN.out] at HF
  generalize okP x = b0 at CO HF
  generalize twiceB x.globals = b1 at CT1 HF
  generalize twiceB x.locks = b2 at CT2 HF
  obtain ⟨p0, p1, p2⟩ := X0.out
  go_enter Tryz.func20, Tryz.ntmps20
  go_wp2_with fail
  refine (CO.out _ B0.out).mono ?_
  rintro e w1 ⟨rfl, hb1⟩
  have B1 := Lib.hid (B0.out.trans (hb1.mono B0.out.size))
  have X1 := Lib.hid (X0.out.keep (keeps_below hb1))
  clear hb1 p0 p1 p2
  cases b0 with
  | false =>
    have HR : Hid (fn = 1) := by show _ = _; have := HF.out; simp at this; omega
    have g0 := (HE.out _ B1.out).var 0 (by omega)
    go_wp2_with fail
    go_ret
    exact ⟨by rw [HR.out]; rfl, B1.out⟩
  | true =>
    obtain ⟨p0, p1, p2⟩ := X1.out
    go_wp2_with fail
    refine (CT1.out _ B1.out).mono ?_
    rintro e w2 ⟨rfl, rfl⟩
    cases b1 with
    | true =>
      have HR : Hid (fn = 2) := by show _ = _; have := HF.out; simp at this; omega
      have g1 := (HE.out _ B1.out).var 1 (by omega)
      go_wp2_with fail
      go_ret
      exact ⟨by rw [HR.out]; rfl, B1.out⟩
    | false =>
      go_wp2_with fail
      refine (CT2.out _ B1.out).mono ?_
      rintro e w2 ⟨rfl, rfl⟩
      cases b2 with
      | true =>
        have HR : Hid (fn = 2) := by show _ = _; have := HF.out; simp at this; omega
        have g1 := (HE.out _ B1.out).var 1 (by omega)
        go_wp2_with fail
        go_ret
        exact ⟨by rw [HR.out]; rfl, B1.out⟩
      | false =>
        go_wp2_with fail
        refine (CP.out _ B1.out).mono ?_
        rintro e w3 ⟨kv, rfl, hr3, hb3⟩
        have B3 := Lib.hid (B1.out.trans (hb3.mono B1.out.size))
        have X3 := Lib.hid (X1.out.keep (keeps_below hb3))
        have CT3 := Lib.hid (implTwice_any (procNs x.procs) kv w3 (strsAt_row rfl hr3))
        obtain ⟨ka, kc, rfl, _⟩ := row_shape hr3
        clear hr3 hb3 p0 p1 p2
        generalize twiceB (procNs x.procs) = b3 at CT3 HF
        go_wp2_with fail
        refine CT3.out.mono ?_
        rintro e w4 ⟨rfl, rfl⟩
        cases b3 with
        | true =>
          have HR : Hid (fn = 2) := by show _ = _; have := HF.out; simp at this; omega
          have g1 := (HE.out _ B3.out).var 1 (by omega)
          go_wp2_with fail
          go_ret
          exact ⟨by rw [HR.out]; rfl, B3.out⟩
        | false =>
          obtain ⟨p0, p1, p2⟩ := X3.out
          go_wp2_with fail
          refine (CU.out _ B3.out).mono ?_
          rintro e w5 ⟨uv, rfl, hr5, hb5⟩
          have B5 := Lib.hid (B3.out.trans (hb5.mono B3.out.size))
          have X5 := Lib.hid (X3.out.keep (keeps_below hb5))
          obtain ⟨ua, uc, rfl, _⟩ := row_shape hr5
          clear hr5 hb5 p0 p1 p2
          by_cases hu : unkIn x = []
          · have hul : ¬ (0 : Int) < ((unkIn x).length : Int) := by rw [hu]; simp
            have HF2 : Hid ((fn : Int) = if ¬ mainB ∈ procNs x.procs then 4 else 0) := by show _ = _; rw [HF.out]; simp [hu]
            clear hu HF
            generalize (unkIn x).length = ul at hul ⊢
            obtain ⟨p0, p1, p2⟩ := X5.out
            go_wp2_with fail
            refine (CM.out _ B5.out).mono ?_
            rintro e w6 ⟨n, rfl, hn, hb6⟩
            have B6 := Lib.hid (B5.out.trans (hb6.mono B5.out.size))
            have hnn := idx_neg hn
            clear hn hb6
            by_cases hm : mainB ∈ procNs x.procs
            · have hq : ¬ n < 0 := fun h => (hnn.1 h) hm
              have HR : Hid (fn = 0) := by show _ = _; have := HF2.out; rw [if_neg (fun h => h hm)] at this; omega
              clear hnn hm HF2
              go_wp2_with fail
              go_ret
              exact ⟨by rw [HR.out]; rfl, B6.out⟩
            · have hq : n < 0 := hnn.2 hm
              have HR : Hid (fn = 4) := by show _ = _; have := HF2.out; rw [if_pos hm] at this; omega
              clear hnn hm HF2
              have h45 := B5
              have g3 := (HE.out _ B6.out).var 3 (by omega)
              go_wp2_with fail
              go_ret
              exact ⟨by rw [HR.out]; rfl, B6.out⟩
          · have hul : (0 : Int) < ((unkIn x).length : Int) := by have := List.length_pos_iff.2 hu; omega
            have HR : Hid (fn = 3) := by show _ = _; have := HF.out; rw [if_neg (by simp), if_neg (by simp), if_pos hu] at this; omega
            clear hu HF
            generalize (unkIn x).length = ul at hul ⊢
            have h45 := B5
            have g2 := (HE.out _ B5.out).var 2 (by omega)
            go_wp2_with fail
            go_ret
            exact ⟨by rw [HR.out]; rfl, B5.out⟩
set_option maxHeartbeats 1600000 in
theorem implFault_any (a : Nat → Addr) (x : PTree) (v : Value) (w : World) (hz : szP x ≤ 1048576) (hl : POwn w x v) (hE : Errs a w) :
    Calls Tryz.prog 7 #[v] w fun e w' => e = .returned (.int .i64 (faultI x)) ∧ Below w.heap.size w w' := by
  have hll := hl.lies
  have CW := Lib.hid (fun wx (hb : Below w.heap.size w wx) => implWrong_any a x v wx hz (hl.below hb) (hE.below hb))
  have HE := Lib.hid (fun wx (hb : Below w.heap.size w wx) => hE.below hb)
  obtain ⟨ga, gc, la, lc, pa, pc, rfl⟩ := hll.shape
  have X0 := Lib.hid (Box3.new w (.slice ga x.globals.length gc) (.slice la x.locks.length lc) (.slice pa x.procs.length pc) 27)
  have B0 := Lib.hid ((Below.refl w.heap.size w).alloc (Nat.le_refl _) (.cells #[.slice ga x.globals.length gc, .slice la x.locks.length lc, .slice pa x.procs.length pc] 27))
  have HFN := Lib.hid (faultN_cases x).1
  have hf4 := (faultN_cases x).2
  generalize faultI x = fi at HFN ⊢
  generalize faultN x = fn at *
  clear hll hl hE hz
  obtain ⟨p0, p1, p2⟩ := X0.out
  go_enter Tryz.func7, Tryz.ntmps7
  go_wp2_with fail
  refine (CW.out _ B0.out).mono ?_
  rintro e w1 ⟨rfl, hb1⟩
  have B1 := Lib.hid (B0.out.trans (hb1.mono B0.out.size))
  clear hb1 p0 p1 p2
  have IS := Lib.hid (fun k hk b hb => isErr a w1 (HE.out _ B1.out) fn hf4 k hk b hb)
  have g0 := (HE.out _ B1.out).var 0 (by omega)
  have g1 := (HE.out _ B1.out).var 1 (by omega)
  have g2 := (HE.out _ B1.out).var 2 (by omega)
  have g3 := (HE.out _ B1.out).var 3 (by omega)
  rcases (by omega : fn = 1 ∨ fn = 2 ∨ fn = 3 ∨ fn = 4 ∨ fn = 0) with rfl | rfl | rfl | rfl | rfl
  · go_wp2_with fail
    refine (IS.out 0 (by omega) true rfl).mono ?_
    rintro e w2 ⟨rfl, rfl⟩
    go_wp2_with fail
    go_ret
    exact ⟨by rw [HFN.out]; rfl, B1.out⟩
  · go_wp2_with fail
    refine (IS.out 0 (by omega) false rfl).mono ?_
    rintro e w2 ⟨rfl, rfl⟩
    go_wp2_with fail
    refine (IS.out 1 (by omega) true rfl).mono ?_
    rintro e w2 ⟨rfl, rfl⟩
    go_wp2_with fail
    go_ret
    exact ⟨by rw [HFN.out]; rfl, B1.out⟩
  · go_wp2_with fail
    refine (IS.out 0 (by omega) false rfl).mono ?_
    rintro e w2 ⟨rfl, rfl⟩
    go_wp2_with fail
    refine (IS.out 1 (by omega) false rfl).mono ?_
    rintro e w2 ⟨rfl, rfl⟩
    go_wp2_with fail
    refine (IS.out 2 (by omega) true rfl).mono ?_
    rintro e w2 ⟨rfl, rfl⟩
    go_wp2_with fail
    go_ret
    exact ⟨by rw [HFN.out]; rfl, B1.out⟩
  · go_wp2_with fail
    refine (IS.out 0 (by omega) false rfl).mono ?_
    rintro e w2 ⟨rfl, rfl⟩
    go_wp2_with fail
    refine (IS.out 1 (by omega) false rfl).mono ?_
    rintro e w2 ⟨rfl, rfl⟩
    go_wp2_with fail
    refine (IS.out 2 (by omega) false rfl).mono ?_
    rintro e w2 ⟨rfl, rfl⟩
    go_wp2_with fail
    refine (IS.out 3 (by omega) true rfl).mono ?_
    rintro e w2 ⟨rfl, rfl⟩
    go_wp2_with fail
    go_ret
    exact ⟨by rw [HFN.out]; rfl, B1.out⟩
  · go_wp2_with fail
    refine (IS.out 0 (by omega) false rfl).mono ?_
    rintro e w2 ⟨rfl, rfl⟩
    go_wp2_with fail
    refine (IS.out 1 (by omega) false rfl).mono ?_
    rintro e w2 ⟨rfl, rfl⟩
    go_wp2_with fail
    refine (IS.out 2 (by omega) false rfl).mono ?_
    rintro e w2 ⟨rfl, rfl⟩
    go_wp2_with fail
    refine (IS.out 3 (by omega) false rfl).mono ?_
    rintro e w2 ⟨rfl, rfl⟩
    go_wp2_with fail
    go_ret
    exact ⟨by rw [HFN.out]; rfl, B1.out⟩
end Go.Proofs.YtibkmcfinkadhaaGreatDoor.Trm
/- What the listed variables give a walk: four errors of their own; and the variables read again behind the call. Conditions: the listed variables hold what the text lays in them. -/
namespace Go.Proofs.YtibkmcfinkadhaaGreatDoor.Er
open Go.RowKit Go.ChangeShapes Go.WideShapes Trm
theorem laidMet_skip {P : Program} {x y : String × DataW Unit} {r : List (String × DataW Unit)} {w : World} (h : laidMet P (x :: y :: r) w) : laidMet P (x :: r) w := by
  obtain ⟨ps, hv, hnd, hrows⟩ := h
  obtain ⟨n, d⟩ := x
  obtain ⟨n2, d2⟩ := y
  obtain ⟨g, t, cs, fuel, p, q, h1, h2, h3, h4, hq, rfl⟩ := hv
  obtain ⟨g2, t2, cs2, fuel2, p2, q2, _, _, _, _, hq2, rfl⟩ := hq
  refine ⟨_, ⟨g, t, cs, fuel, p, q2, h1, h2, h3, h4, hq2, rfl⟩, ?_, fun b off hm => hrows b off ?_⟩
  · exact List.Nodup.sublist (List.Sublist.append_left (List.sublist_append_right _ _) _) hnd
  · rcases List.mem_append.1 hm with h | h
    · exact List.mem_append_left _ h
    · exact List.mem_append_right _ (List.mem_append_right _ h)
theorem gT0 : (Tryz.prog.globals[0]?).map (·.type) = some 52 := by kernel_rfl
theorem gT1 : (Tryz.prog.globals[1]?).map (·.type) = some 52 := by kernel_rfl
theorem gT2 : (Tryz.prog.globals[2]?).map (·.type) = some 52 := by kernel_rfl
theorem gT3 : (Tryz.prog.globals[3]?).map (·.type) = some 52 := by kernel_rfl
theorem gN0 : Tryz.prog.globalNamed "loop.example/g00966/impl.errForm" = some 0 := by kernel_rfl
theorem gN1 : Tryz.prog.globalNamed "loop.example/g00966/impl.errTwice" = some 1 := by kernel_rfl
theorem gN2 : Tryz.prog.globalNamed "loop.example/g00966/impl.errName" = some 2 := by kernel_rfl
theorem gN3 : Tryz.prog.globalNamed "loop.example/g00966/impl.errMain" = some 3 := by kernel_rfl
theorem star : "*" ++ "errors.errorString" = "*errors.errorString" := by decide
theorem rowE (u : TypeId) (h : Tryz.prog.typeName? 3 u = some "*errors.errorString") : u = 211 :=
  typeName_ptr_named (nm := "errors.errorString") (by rw [star]; kernel_rfl) (by kernel_rfl) (by decide) u (by rw [star]; exact h)
theorem cellsE : Tryz.prog.cellsOf 238 = 1 := by kernel_rfl
theorem cellsS : Tryz.prog.cellsOf 9 = 1 := by kernel_rfl
/-- Two of them. -/
def Two (W : World) (n0 n1 : String) : Prop := ∃ a0 a1 : Addr, W.var? Tryz.prog n0 = some #[.iface 211 (.pointer (some a0))] ∧ W.var? Tryz.prog n1 = some #[.iface 211 (.pointer (some a1))] ∧ a0 ≠ a1 ∧ (∃ c t, W.heap[a0.block]? = some (.cells c t (0, 0))) ∧ ∃ c t, W.heap[a1.block]? = some (.cells c t (0, 0))
theorem two {W : World} {n0 n1 : String} {text0 text1 : List UInt8} {r : List (String × DataW Unit)} {g0 g1 : Nat}
    (h : laidMet Tryz.prog ((n0, .iface "*errors.errorString" (.ptr (.agg [.lit (.string text0)]))) :: (n1, .iface "*errors.errorString" (.ptr (.agg [.lit (.string text1)]))) :: r) W)
    (hg0 : Tryz.prog.globalNamed n0 = some g0) (ht0 : (Tryz.prog.globals[g0]?).map (·.type) = some 52) (hg1 : Tryz.prog.globalNamed n1 = some g1) (ht1 : (Tryz.prog.globals[g1]?).map (·.type) = some 52) : Two W n0 n1 := by
  obtain ⟨a0, a1, s0, s1, c0, c1, t0, t1, h0, h1, _, _, _, _, _, _, hne, hb0, hb1⟩ := laid_sentinels2 h hg0 ht0 hg1 ht1 Tryz.underlying52 rowE Tryz.underlying211 Tryz.underlying238 rfl rfl Tryz.underlying9 cellsE cellsS
  exact ⟨a0, a1, h0, h1, hne, ⟨_, _, hb0⟩, ⟨_, _, hb1⟩⟩
theorem same_var {W : World} {n : String} {a b : Addr} (h : W.var? Tryz.prog n = some #[.iface 211 (.pointer (some a))]) (h2 : W.var? Tryz.prog n = some #[.iface 211 (.pointer (some b))]) : a = b := by
  rw [h] at h2
  simpa using h2
abbrev E0 : String := "loop.example/g00966/impl.errForm"
abbrev E1 : String := "loop.example/g00966/impl.errTwice"
abbrev E2 : String := "loop.example/g00966/impl.errName"
abbrev E3 : String := "loop.example/g00966/impl.errMain"
/-- What the four variables hold. -/
structure Held (a : Nat → Addr) (W : World) : Prop where
  v0 : W.var? Tryz.prog E0 = some #[.iface 211 (.pointer (some (a 0)))]
  v1 : W.var? Tryz.prog E1 = some #[.iface 211 (.pointer (some (a 1)))]
  v2 : W.var? Tryz.prog E2 = some #[.iface 211 (.pointer (some (a 2)))]
  v3 : W.var? Tryz.prog E3 = some #[.iface 211 (.pointer (some (a 3)))]
def four (a0 a1 a2 a3 : Addr) (i : Nat) : Addr := match i with | 0 => a0 | 1 => a1 | 2 => a2 | _ => a3
theorem errs_laid {W : World} (h : laidMetH Tryz.prog Rows.fnExactProgFaultRow.laid W) : ∃ a, Errs a W ∧ Held a W := by
  rw [MakeChecks.laidMetH_plain _ _ _ (by kernel_rfl)] at h
  obtain ⟨a0, a1, h0, h1, n01, r0, r1⟩ := two h gN0 gT0 gN1 gT1
  obtain ⟨b0, a2, k0, h2, n02, _, r2⟩ := two (laidMet_skip h) gN0 gT0 gN2 gT2
  obtain ⟨d0, a3, j0, h3, n03, _, r3⟩ := two (laidMet_skip (laidMet_skip h)) gN0 gT0 gN3 gT3
  obtain ⟨e1, e2, m1, m2, n12, _, _⟩ := two (laidMet.tail h) gN1 gT1 gN2 gT2
  obtain ⟨f1, f3, p1, p3, n13, _, _⟩ := two (laidMet_skip (laidMet.tail h)) gN1 gT1 gN3 gT3
  obtain ⟨i2, i3, q2, q3, n23, _, _⟩ := two (laidMet.tail (laidMet.tail h)) gN2 gT2 gN3 gT3
  obtain rfl := same_var h0 k0
  obtain rfl := same_var h0 j0
  obtain rfl := same_var h1 m1
  obtain rfl := same_var h1 p1
  obtain rfl := same_var h2 m2
  obtain rfl := same_var h2 q2
  obtain rfl := same_var h3 p3
  obtain rfl := same_var h3 q3
  refine ⟨four a0 a1 a2 a3, ⟨fun i hi => ?_, fun i hi => ?_, fun i j hi hj hij => ?_⟩, ⟨h0, h1, h2, h3⟩⟩
  · rcases (by omega : i = 0 ∨ i = 1 ∨ i = 2 ∨ i = 3) with rfl | rfl | rfl | rfl
    · have e := World.var?_cell gN0 h0 0
      show W.cell? _ = some (.iface _ (.pointer (some a0)))
      simpa using e
    · have e := World.var?_cell gN1 h1 0
      show W.cell? _ = some (.iface _ (.pointer (some a1)))
      simpa using e
    · have e := World.var?_cell gN2 h2 0
      show W.cell? _ = some (.iface _ (.pointer (some a2)))
      simpa using e
    · have e := World.var?_cell gN3 h3 0
      show W.cell? _ = some (.iface _ (.pointer (some a3)))
      simpa using e
  · rcases (by omega : i = 0 ∨ i = 1 ∨ i = 2 ∨ i = 3) with rfl | rfl | rfl | rfl
    · exact r0
    · exact r1
    · exact r2
    · exact r3
  · rcases (by omega : i = 0 ∨ i = 1 ∨ i = 2 ∨ i = 3) with rfl | rfl | rfl | rfl <;> rcases (by omega : j = 0 ∨ j = 1 ∨ j = 2 ∨ j = 3) with rfl | rfl | rfl | rfl
    · exact absurd rfl hij
    · exact n01
    · exact n02
    · exact n03
    · exact fun e => n01 e.symm
    · exact absurd rfl hij
    · exact n12
    · exact n13
    · exact fun e => n02 e.symm
    · exact fun e => n12 e.symm
    · exact absurd rfl hij
    · exact n23
    · exact fun e => n03 e.symm
    · exact fun e => n13 e.symm
    · exact fun e => n23 e.symm
    · exact absurd rfl hij
theorem var_below {W W' : World} {n : String} {cs : Array Value} (h : W.var? Tryz.prog n = some cs) (hb : Below W.heap.size W W') : W'.var? Tryz.prog n = some cs := by
  unfold World.var? at h ⊢
  cases hg : Tryz.prog.globalNamed n with
  | none => simp [hg] at h
  | some g =>
    simp only [hg, Option.bind_some] at h ⊢
    have hlt : g < W.heap.size := by
      rcases Nat.lt_or_ge g W.heap.size with h' | h'
      · exact h'
      · simp [Array.getElem?_eq_none h'] at h
    rw [hb.block g hlt]; exact h
theorem Held.below {a : Nat → Addr} {W W' : World} (h : Held a W) (hb : Below W.heap.size W W') : Held a W' := ⟨var_below h.v0 hb, var_below h.v1 hb, var_below h.v2 hb, var_below h.v3 hb⟩
/-- The four read again, as tokens. -/
theorem vars_read4 {H : Type} (enc : TypeId × Value → H) {a : Nat → Addr} {W : World} (h : Held a W) (sp : Nat → Bool) :
    DataW.TrodVars enc Tryz.prog W sp [E0, E1, E2, E3] [tok enc (.iface 211 (.pointer (some (a 0)))), tok enc (.iface 211 (.pointer (some (a 1)))), tok enc (.iface 211 (.pointer (some (a 2)))), tok enc (.iface 211 (.pointer (some (a 3))))] [.cell 0 0, .cell 1 0, .cell 2 0, .cell 3 0] := by
  have hold : ∀ x : Addr, DataW.trod enc Tryz.prog W 0 sp true 1 52 [.iface 211 (.pointer (some x))] = some (tok enc (.iface 211 (.pointer (some x))), []) := fun x => trod_held (v := .iface 211 (.pointer (some x))) Tryz.underlying52 trivial 0
  exact ⟨0, 52, _, 1, [], [.cell 1 0, .cell 2 0, .cell 3 0], gN0, gT0, h.v0, hold _, ⟨1, 52, _, 1, [], [.cell 2 0, .cell 3 0], gN1, gT1, h.v1, hold _, ⟨2, 52, _, 1, [], [.cell 3 0], gN2, gT2, h.v2, hold _, ⟨3, 52, _, 1, [], [], gN3, gT3, h.v3, hold _, rfl, rfl⟩, rfl⟩, rfl⟩, rfl⟩
end Go.Proofs.YtibkmcfinkadhaaGreatDoor.Er
