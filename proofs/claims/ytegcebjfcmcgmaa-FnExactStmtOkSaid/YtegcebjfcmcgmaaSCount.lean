/- The model's count of statements, walked. Conditions: the list lies in memory; there are at most 2 millions. -/
import Derived.Test.YtegcebjfcmcgmaaChecked
import Derived.Test.YtegcebjfcmcgmaaSTrees
import Derived.Deep.RegionHeld3
import Derived.WalkSmall
import Derived.Outline
namespace Go.Proofs.Ytegcebjfcmcgmaa.Trm
open Go.RowKit Own
mutual
def cntX : STree → Nat | .node _ _ _ b e => 1 + cntXS b + cntXS e
def cntXS : List STree → Nat | [] => 0 | x :: xs => cntX x + cntXS xs
end
theorem cntX_eq (x : STree) : cntX x = 1 + cntXS x.body + cntXS x.els := by cases x; rfl
theorem cntXS_drop {xs : List STree} {i : Nat} (h : i < xs.length) : cntXS (xs.drop i) = 1 + cntXS xs[i].body + cntXS xs[i].els + cntXS (xs.drop (i + 1)) := by rw [List.drop_eq_getElem_cons h, cntXS, cntX_eq]
theorem cntXS_end {xs : List STree} {i : Nat} (h : xs.length ≤ i) : cntXS (xs.drop i) = 0 := by rw [List.drop_of_length_le h, cntXS]
mutual
theorem cntX_le : ∀ x : STree, cntX x ≤ 1 + szX x
  | .node k s t b e => by rw [cntX, szX]; have := cntXS_le b; have := cntXS_le e; omega
theorem cntXS_le : ∀ xs : List STree, cntXS xs ≤ xs.length + szXS xs
  | [] => by simp [cntXS]
  | x :: xs => by rw [cntXS, szXS]; have := cntX_le x; have := cntXS_le xs; simp; omega
end
theorem ret_n {a b : Nat} (h : a = b) : Ending.returned (.int .i64 (a : Int)) = .returned (.int .i64 (b : Int)) := by rw [h]
theorem wrap3 {m a b : Nat} (h : m + 1 + a + b ≤ 2000000) : IntKind.i64.wrap (IntKind.i64.wrap (IntKind.i64.wrap ((m : Int) + 1) + (a : Int)) + (b : Int)) = ((m + 1 + a + b : Nat) : Int) := by
  rw [IntWalk.i64_in ((m : Int) + 1) (by omega), IntWalk.i64_in ((m : Int) + 1 + (a : Int)) (by omega), IntWalk.i64_in ((m : Int) + 1 + (a : Int) + (b : Int)) (by omega)]
  omega
def CntAll (xs : List STree) : Prop := ∀ (v : Value) (w : World), cntXS xs ≤ 2000000 → SListAt w v xs →
    Calls Try.prog 34 #[v] w fun e w' => e = .returned (.int .i64 (cntXS xs : Int)) ∧ Below w.heap.size w w'
set_option maxHeartbeats 800000 in
theorem cnt_list (xs : List STree) (ih : ∀ x, x ∈ xs → CntAll x.body ∧ CntAll x.els) : CntAll xs := fun v w hz hl => by
  obtain ⟨hlen, aa, cap, rfl, hk⟩ := hl
  have IH := Lib.hid ih
  have HK := Lib.hid hk
  have HZ := Lib.hid hz
  clear ih hk hz
  go_enter Try.func34, Try.ntmps34
  go_wp2
  go_loopw [3, 4] (fun n i wr => ∃ (j m : Nat), j ≤ xs.length ∧ i = .int .i64 j ∧ n = .int .i64 m ∧ Hid (cntXS xs = m + cntXS (xs.drop j)) ∧ Hid (Below w.heap.size w wr))
    (fun _ i _ => xs.length - (intOf i).toNat)
  case atStart => exact ⟨0, 0, Nat.zero_le _, rfl, rfl, by show _ = _; simp, Below.refl _ _⟩
  case round =>
    obtain ⟨j, m, hj, rfl, rfl, hsz, hbe⟩ := hrel
    by_cases hlt : j < xs.length
    · obtain ⟨g, o, rfl, hl⟩ := HK.out (by omega)
      obtain ⟨ta, tc, ba, bc, ea, ec, c0, c1, c2, c3, c4, c5, c6, c7, hl2⟩ := (hl.keep (keeps_below hbe.out)).at j hlt
      obtain ⟨_, lb, le⟩ := hl2.lists
      have hd := cntXS_drop hlt
      have hT := hsz.out
      have hZ := HZ.out
      have hxl : xs.length ≤ 9223372036854775807 := hlen
      have hin := IH.out xs[j] (List.getElem_mem hlt)
      have CA : Hid (∀ wx, Below wr.heap.size wr wx → Calls Try.prog 34 #[.slice ba xs[j].body.length bc] wx fun e w' => e = .returned (.int .i64 (cntXS xs[j].body : Int)) ∧ Below wr.heap.size wr w') :=
        fun wx hb => (hin.1 _ wx (by omega) (lb.keep (keeps_below hb))).mono fun e w' ⟨he, h⟩ => ⟨he, hb.trans (h.mono hb.size)⟩
      have CB : Hid (∀ wx, Below wr.heap.size wr wx → Calls Try.prog 34 #[.slice ea xs[j].els.length ec] wx fun e w' => e = .returned (.int .i64 (cntXS xs[j].els : Int)) ∧ Below wr.heap.size wr w') :=
        fun wx hb => (hin.2 _ wx (by omega) (le.keep (keeps_below hb))).mono fun e w' ⟨he, h⟩ => ⟨he, hb.trans (h.mono hb.size)⟩
      have KS : Hid (∀ wx, Below wr.heap.size wr wx → wx.cell? ⟨g, o + j * 8 + 6, none⟩ = some (.slice ba xs[j].body.length bc) ∧ wx.cell? ⟨g, o + j * 8 + 7, none⟩ = some (.slice ea xs[j].els.length ec) ∧ Below wr.heap.size wr wx) := fun wx hb => ⟨keeps_below hb _ _ c6, keeps_below hb _ _ c7, hb⟩
      have hbd : m + 1 + cntXS xs[j].body + cntXS xs[j].els ≤ 2000000 := by omega
      have HS : Hid (cntXS xs = (m + 1 + cntXS xs[j].body + cntXS xs[j].els) + cntXS (xs.drop (j + 1))) := by show _ = _; omega
      have b0 : Below wr.heap.size wr wr.drew := (Below.refl _ _).drew
      generalize cntXS xs[j].body = na at CA hbd HS
      generalize cntXS xs[j].els = nb at CB hbd HS
      clear hl hl2 lb le hd hT hZ hin c0 c1 c2 c3 c4 c5 c6 c7 hlen
      go_wp2_with fail
      go_region_held3 (fun wx => wx.cell? ⟨g, o + j * 8 + 6, none⟩ = some (.slice ba xs[j].body.length bc) ∧ wx.cell? ⟨g, o + j * 8 + 7, none⟩ = some (.slice ea xs[j].els.length ec) ∧ Below wr.heap.size wr wx)
        (exact KS.out _ (by assumption))
        (first
        | (go_at_call 34; (with_reducible refine (CA.out _ (by assumption)).mono ?_); rintro e w1 ⟨rfl, b1⟩)
        | (go_at_call 34; (with_reducible refine (CB.out _ (by assumption)).mono ?_); rintro e w2 ⟨rfl, b2⟩))
      all_goals
        have HB1 : Hid (Below w.heap.size w _) := hbe.out.trans (Below.mono (by first | assumption) hbe.out.size)
        go_wp2
        go_roundw
        case rel => exact ⟨j + 1, m + 1 + na + nb, by omega, by go_num, by rw [wrap3 hbd], HS, HB1⟩
        case measure => simp [intOf]; omega
    · have HS : Hid (m = cntXS xs) := by show _ = _; have := hsz.out; rw [cntXS_end (by omega)] at this; omega
      go_wp2
      go_ret
      exact ⟨ret_n HS.out, hbe.out⟩
theorem specCount_all : ∀ x : STree, CntAll x.body ∧ CntAll x.els := streeInd fun _ _ _ b e ihb ihe => ⟨cnt_list b ihb, cnt_list e ihe⟩
theorem specCount_any (xs : List STree) : CntAll xs := cnt_list xs fun x _ => specCount_all x
end Go.Proofs.Ytegcebjfcmcgmaa.Trm
