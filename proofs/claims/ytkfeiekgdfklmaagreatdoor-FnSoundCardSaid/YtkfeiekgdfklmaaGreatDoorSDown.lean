/- The model's count down of statements, walked. Conditions: the list lies in memory; at most 2 millions are left, at least -1. -/
import Derived.Test.YtkfeiekgdfklmaaGreatDoorChecked
import Derived.Test.YtkfeiekgdfklmaaGreatDoorSTrees
import Derived.Test.YtkfeiekgdfklmaaGreatDoorSCnt
import Derived.Deep.RegionHeld3
import Derived.WalkSmall
import Derived.Outline
namespace Go.Proofs.YtkfeiekgdfklmaaGreatDoor.Trm
open Go.RowKit Own
/-- What is left of a behind n; below 0 there were too many. -/
def cR (a : Int) (n : Nat) : Int := if (n : Int) ≤ a then a - n else -1
theorem cR_low {a : Int} (n : Nat) : -1 ≤ cR a n := by unfold cR; split <;> omega
theorem cR_high {a : Int} (n : Nat) (h : -1 ≤ a) : cR a n ≤ a := by unfold cR; split <;> omega
theorem cR_neg {a : Int} (n : Nat) (h : -1 ≤ a) (h0 : ¬ 0 ≤ a) : cR a n = a := by unfold cR; split <;> omega
theorem cR_zero {a : Int} (h : -1 ≤ a) : cR a 0 = a := by unfold cR; split <;> omega
theorem cR_step {a : Int} {n m k : Nat} (_ : 0 ≤ a) : cR (cR (cR (a - 1) n) m) k = cR a (1 + n + m + k) := by
  unfold cR; split <;> split <;> split <;> split <;> omega
theorem ret_i {a b : Int} (h : a = b) : Ending.returned (.int .i64 a) = .returned (.int .i64 b) := by rw [h]
def DownAll (xs : List STree) : Prop := ∀ (v : Value) (w : World) (a : Int), -1 ≤ a → a ≤ 2000000 → SListAt w v xs →
    Calls Tryz.prog 85 #[v, .int .i64 a] w fun e w' => e = .returned (.int .i64 (cR a (cntXS xs))) ∧ Below w.heap.size w w'
set_option maxHeartbeats 800000 in
theorem down_list (xs : List STree) (ih : ∀ x, x ∈ xs → DownAll x.body ∧ DownAll x.els) : DownAll xs := fun v w a ha1 ha2 hl => by
  obtain ⟨hlen, aa, cap, rfl, hk⟩ := hl
  have IH := Lib.hid ih
  have HK := Lib.hid hk
  have HA := Lib.hid (And.intro ha1 ha2)
  clear ih hk ha1 ha2
  go_enter Tryz.func85, Tryz.ntmps85
  go_wp2
  go_loopw [1, 5] (fun n i wr => ∃ (j : Nat) (m : Int), j ≤ xs.length ∧ i = .int .i64 j ∧ n = .int .i64 m ∧ Hid (-1 ≤ m ∧ m ≤ 2000000) ∧ Hid (cR a (cntXS xs) = cR m (cntXS (xs.drop j))) ∧ Hid (Below w.heap.size w wr))
    (fun _ i _ => xs.length - (intOf i).toNat)
  case atStart => exact ⟨0, a, Nat.zero_le _, rfl, rfl, HA.out, by show _ = _; simp, Below.refl _ _⟩
  case round =>
    obtain ⟨j, m, hj, rfl, rfl, hmm, hsz, hbe⟩ := hrel
    by_cases hlt : j < xs.length
    · by_cases hm : 0 ≤ m
      · obtain ⟨g, o, rfl, hl⟩ := HK.out (by omega)
        obtain ⟨ta, tc, ba, bc, ea, ec, c0, c1, c2, c3, c4, c5, c6, c7, hl2⟩ := (hl.keep (keeps_below hbe.out)).at j hlt
        obtain ⟨_, lb, le⟩ := hl2.lists
        have hd := cntXS_drop hlt
        have hT := hsz.out
        have hM := hmm.out
        have hxl : xs.length ≤ 9223372036854775807 := hlen
        have hin := IH.out xs[j] (List.getElem_mem hlt)
        have CA : Hid (∀ wx, Below wr.heap.size wr wx → Calls Tryz.prog 85 #[.slice ba xs[j].body.length bc, .int .i64 (m - 1)] wx fun e w' => e = .returned (.int .i64 (cR (m - 1) (cntXS xs[j].body))) ∧ Below wr.heap.size wr w') :=
          fun wx hb => (hin.1 _ wx _ (by omega) (by omega) (lb.keep (keeps_below hb))).mono fun e w' ⟨he, h⟩ => ⟨he, hb.trans (h.mono hb.size)⟩
        have hlo := cR_low (a := m - 1) (cntXS xs[j].body)
        have hhi := cR_high (a := m - 1) (cntXS xs[j].body) (by omega)
        have CB : Hid (∀ wx, Below wr.heap.size wr wx → Calls Tryz.prog 85 #[.slice ea xs[j].els.length ec, .int .i64 (cR (m - 1) (cntXS xs[j].body))] wx fun e w' => e = .returned (.int .i64 (cR (cR (m - 1) (cntXS xs[j].body)) (cntXS xs[j].els))) ∧ Below wr.heap.size wr w') :=
          fun wx hb => (hin.2 _ wx _ (by omega) (by omega) (le.keep (keeps_below hb))).mono fun e w' ⟨he, h⟩ => ⟨he, hb.trans (h.mono hb.size)⟩
        have KS : Hid (∀ wx, Below wr.heap.size wr wx → wx.cell? ⟨g, o + j * 8 + 6, none⟩ = some (.slice ba xs[j].body.length bc) ∧ wx.cell? ⟨g, o + j * 8 + 7, none⟩ = some (.slice ea xs[j].els.length ec) ∧ Below wr.heap.size wr wx) := fun wx hb => ⟨keeps_below hb _ _ c6, keeps_below hb _ _ c7, hb⟩
        have hlo2 := cR_low (a := cR (m - 1) (cntXS xs[j].body)) (cntXS xs[j].els)
        have hhi2 := cR_high (a := cR (m - 1) (cntXS xs[j].body)) (cntXS xs[j].els) hlo
        have HR : Hid (-1 ≤ cR (cR (m - 1) (cntXS xs[j].body)) (cntXS xs[j].els) ∧ cR (cR (m - 1) (cntXS xs[j].body)) (cntXS xs[j].els) ≤ 2000000) := ⟨hlo2, by omega⟩
        have HS : Hid (cR a (cntXS xs) = cR (cR (cR (m - 1) (cntXS xs[j].body)) (cntXS xs[j].els)) (cntXS (xs.drop (j + 1)))) := by show _ = _; rw [cR_step hm, hT, hd]
        have b0 : Below wr.heap.size wr wr.drew := (Below.refl _ _).drew
        have hwr : IntKind.i64.wrap (m - 1) = m - 1 := IntWalk.i64_in (m - 1) (by omega)
        clear hlo hhi hlo2 hhi2
        generalize hr1 : cR (m - 1) (cntXS xs[j].body) = r1 at CA CB HS HR
        generalize hr2 : cR r1 (cntXS xs[j].els) = r2 at CB HS HR
        clear hl hl2 lb le hd hT hin c0 c1 c2 c3 c4 c5 c6 c7 hlen hr1 hr2 hM
        go_wp2_with fail
        go_region_held3 (fun wx => wx.cell? ⟨g, o + j * 8 + 6, none⟩ = some (.slice ba xs[j].body.length bc) ∧ wx.cell? ⟨g, o + j * 8 + 7, none⟩ = some (.slice ea xs[j].els.length ec) ∧ Below wr.heap.size wr wx)
          (exact KS.out _ (by assumption))
          (first
          | (go_at_call 85; (with_reducible refine (CA.out _ (by assumption)).mono ?_); rintro e w1 ⟨rfl, b1⟩)
          | (go_at_call 85; (with_reducible refine (CB.out _ (by assumption)).mono ?_); rintro e w2 ⟨rfl, b2⟩))
        all_goals
          have HB1 : Hid (Below w.heap.size w _) := hbe.out.trans (Below.mono (by first | assumption) hbe.out.size)
          go_wp2
          go_roundw
          case rel => exact ⟨j + 1, r2, by omega, by go_num, rfl, HR, HS, HB1⟩
          case measure => simp [intOf]; omega
      · have HS : Hid (m = cR a (cntXS xs)) := by show _ = _; rw [hsz.out, cR_neg _ hmm.out.1 hm]
        have hmd : decide (0 ≤ m) = false := by simp [hm]
        go_wp2
        go_ret
        exact ⟨ret_i HS.out, hbe.out⟩
    · have HS : Hid (m = cR a (cntXS xs)) := by show _ = _; rw [hsz.out, cntXS_end (by omega), cR_zero hmm.out.1]
      go_wp2
      go_ret
      exact ⟨ret_i HS.out, hbe.out⟩
theorem specDown_all : ∀ x : STree, DownAll x.body ∧ DownAll x.els := streeInd fun _ _ _ b e ihb ihe => ⟨down_list b ihb, down_list e ihe⟩
theorem specDown_any (xs : List STree) : DownAll xs := down_list xs fun x _ => specDown_all x
end Go.Proofs.YtkfeiekgdfklmaaGreatDoor.Trm
