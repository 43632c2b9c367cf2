/- ProcAt of both sides, walked. Conditions: the program lies in memory. -/
import Derived.Test.YtpbhoomhcdljoaaIdx
namespace Go.Proofs.Ytpbhoomhcdljoaa.Trm
open Go.RowKit Own
theorem specProc_any (x : PTree) (s : ByteArray) (v : Value) (w : World) (hl : PLies w x v) :
    Calls Try.prog 14 #[v, .string s] w fun e w' => ∃ n, e = .returned (.int .i64 n) ∧ IdxG x.procs.length (hitP x.procs s) n ∧ Below w.heap.size w w' := by
  obtain ⟨ga, gc, la, lc, pa, pc, rfl, _, _, h3⟩ := hl
  obtain ⟨hlen, a, cap, e, hk⟩ := h3
  cases e
  generalize x.procs = ps at hlen hk
  have HK := Lib.hid hk
  have X0 := Lib.hid (Box3.new w (.slice ga x.globals.length gc) (.slice la x.locks.length lc) (.slice pa ps.length pc) 30)
  have B0 := Lib.hid ((Below.refl w.heap.size w).alloc (Nat.le_refl _) (.cells #[.slice ga x.globals.length gc, .slice la x.locks.length lc, .slice pa ps.length pc] 30))
  clear hk
  go_enter Try.func14, Try.ntmps14
  go_wp2
  go_loopw [5] (fun i wr => ∃ (j : Nat), j ≤ ps.length ∧ i = .int .i64 j ∧ Hid (∀ i, i < j → ¬ hitP ps s i) ∧ Hid (Box3 wr w.heap.size (.slice ga x.globals.length gc) (.slice la x.locks.length lc) (.slice pa ps.length pc)) ∧ Hid (Below w.heap.size w wr))
    (fun i _ => ps.length - (intOf i).toNat)
  case atStart => exact ⟨0, Nat.zero_le _, rfl, fun i h => by omega, X0.out, B0.out⟩
  case round =>
    obtain ⟨j, hj, rfl, hne, hbx, hbe⟩ := hrel
    obtain ⟨p0, p1, p2⟩ := hbx.out
    by_cases hlt : j < ps.length
    · obtain ⟨g, o, rfl, hcell⟩ := HK.out (by omega)
      obtain ⟨_, ba, bc, c0, c1, _⟩ := (hcell j hlt).keep (keeps_below hbe.out)
      clear hcell
      by_cases he : ps[j].name = s
      · have HX : Hid (IdxG ps.length (hitP ps s) j) := .inl ⟨j, hlt, rfl, ⟨hlt, he⟩, hne.out⟩
        rw [he] at c0
        clear he
        go_wp2
        go_ret
        exact ⟨_, rfl, HX.out, hbe.out⟩
      · have hq := bytes_ne he
        have HS : Hid (∀ i, i < j + 1 → ¬ hitP ps s i) := fun i hi ⟨hl, e⟩ => by
          rcases Nat.lt_or_ge i j with h1 | h1
          · exact hne.out i h1 ⟨hl, e⟩
          · obtain rfl : i = j := by omega
            exact he e
        clear he
        go_wp2
        go_roundw
        case rel => exact ⟨j + 1, by omega, by go_num, HS, hbx, hbe⟩
        case measure => simp [intOf]; omega
    · have HX : Hid (IdxG ps.length (hitP ps s) (-1)) := .inr ⟨rfl, fun j h => hne.out j (by omega)⟩
      go_wp2
      go_ret
      exact ⟨_, rfl, HX.out, hbe.out⟩
def EqPost (p : PrT) (s : ByteArray) (w : World) (e : Ending) (w' : World) : Prop := ∃ b, e = .returned (.bool b) ∧ (b = true ↔ p.name = s) ∧ Below w.heap.size w w'
theorem implProcEq_any (p : PrT) (s : ByteArray) (g : Nat) (a : Option Addr) (n c : Nat) (w : World) (hg : w.cell? ⟨g, 0, none⟩ = some (.string s)) :
    Calls Try.prog 36 #[.agg #[.string p.name, .slice a n c], .pointer (some ⟨g, 0, none⟩)] w (EqPost p s w) := by
  have h1 := keeps_alloc w (.cells #[.string p.name, .slice a n c] 47) _ _ hg
  by_cases he : p.name = s
  · rw [← he] at h1
    have HB : Hid ((true : Bool) = true ↔ p.name = s) := by show _ ↔ _; simp [he]
    clear he hg
    go_enter Try.func36, Try.ntmps36
    go_wp2
    go_ret
    exact ⟨true, rfl, by simpa using HB.out, (Below.refl _ _).alloc (Nat.le_refl _) _⟩
  · have hq := bytes_ne he
    have HB : Hid ((false : Bool) = true ↔ p.name = s) := by show _ ↔ _; simp [he]
    clear he hg
    go_enter Try.func36, Try.ntmps36
    go_wp2
    go_ret
    exact ⟨false, rfl, by simpa using HB.out, (Below.refl _ _).alloc (Nat.le_refl _) _⟩
theorem implIdxF_any (ps : List PrT) (s : ByteArray) (q : Nat) (v : Value) (w : World) (hl : PrsAt w v ps) (hg : w.cell? ⟨q, 0, none⟩ = some (.string s)) :
    Calls Try.prog 35 #[v, .func (.func 36) #[] #[.pointer (some ⟨q, 0, none⟩)]] w fun e w' => ∃ n, e = .returned (.int .i64 n) ∧ IdxG ps.length (hitP ps s) n ∧ Below w.heap.size w w' := by
  obtain ⟨hlen, aa, cap, rfl, hk⟩ := hl
  have HK := Lib.hid hk
  have HG := Lib.hid hg
  clear hk hg
  go_enter Try.func35, Try.ntmps35
  go_wp2
  go_loopw [8] (fun i wr => ∃ (j : Nat), j ≤ ps.length ∧ i = .int .i64 j ∧ Hid (∀ i, i < j → ¬ hitP ps s i) ∧ Hid (Below w.heap.size w wr))
    (fun i _ => ps.length - (intOf i).toNat)
  case atStart => exact ⟨0, Nat.zero_le _, rfl, fun i h => by omega, Below.refl _ _⟩
  case round =>
    obtain ⟨j, hj, rfl, hne, hbe⟩ := hrel
    by_cases hlt : j < ps.length
    · obtain ⟨g, o, rfl, hcell⟩ := HK.out (by omega)
      obtain ⟨_, ba, bc, c0, c1, _⟩ := (hcell j hlt).keep (keeps_below hbe.out)
      have C := Lib.hid (implProcEq_any ps[j] s q ba ps[j].body.length bc wr (keeps_below hbe.out _ _ HG.out))
      clear hcell
      go_wp2_with fail
      refine C.out.mono ?_
      rintro e w1 ⟨b, rfl, hb, hbw⟩
      have HB := Lib.hid hb
      have HB1 := Lib.hid (hbe.out.trans (hbw.mono hbe.out.size))
      clear hb hbw
      cases b with
      | true =>
        have HX : Hid (IdxG ps.length (hitP ps s) j) := .inl ⟨j, hlt, rfl, ⟨hlt, HB.out.1 rfl⟩, hne.out⟩
        go_wp2
        go_ret
        exact ⟨_, rfl, HX.out, HB1.out⟩
      | false =>
        have HS : Hid (∀ i, i < j + 1 → ¬ hitP ps s i) := fun i hi ⟨hl, e⟩ => by
          rcases Nat.lt_or_ge i j with h1 | h1
          · exact hne.out i h1 ⟨hl, e⟩
          · obtain rfl : i = j := by omega
            exact absurd (HB.out.2 e) (by simp)
        go_wp2
        go_roundw
        case rel => exact ⟨j + 1, by omega, by go_num, HS, HB1⟩
        case measure => simp [intOf]; omega
    · have HX : Hid (IdxG ps.length (hitP ps s) (-1)) := .inr ⟨rfl, fun j h => hne.out j (by omega)⟩
      go_wp2
      go_ret
      exact ⟨_, rfl, HX.out, hbe.out⟩
theorem implProc_any (x : PTree) (s : ByteArray) (v : Value) (w : World) (hl : PLies w x v) :
    Calls Try.prog 15 #[v, .string s] w fun e w' => ∃ n, e = .returned (.int .i64 n) ∧ IdxG x.procs.length (hitP x.procs s) n ∧ Below w.heap.size w w' := by
  obtain ⟨ga, gc, la, lc, pa, pc, rfl, _, _, h3⟩ := hl
  have C := Lib.hid (fun w2 (hb : Below w.heap.size w w2) hg => implIdxF_any x.procs s (w.heap.size + 1) (.slice pa x.procs.length pc) w2 (h3.keep (keeps_below hb)) hg)
  clear h3
  go_enter Try.func15, Try.ntmps15
  go_wp2_with fail
  refine (C.out _ (((Below.refl _ _).alloc (Nat.le_refl _) _).alloc (by simp) _) (by simp [go_sem])).mono ?_
  rintro e w1 ⟨n, rfl, hx, hb⟩
  have HX := Lib.hid hx
  have HB := Lib.hid (below_box1 (below_box1 hb))
  clear hx hb
  go_wp2
  go_ret
  exact ⟨_, rfl, HX.out, HB.out⟩
end Go.Proofs.Ytpbhoomhcdljoaa.Trm
