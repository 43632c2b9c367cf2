/- The model's IsName, walked. Conditions: the text's length fits an int. -/
import Derived.Test.YtofmccihehalcaaChecked
import Derived.Test.YtofmccihehalcaaLexMath
import Derived.Lib.Hide
import Derived.WalkSmall
import Derived.Outline
namespace Go.Proofs.Ytofmccihehalcaa.Lexs
open Go.RowKit Own Reads
theorem specLetter_any (b : UInt8) (w : World) : Calls Try.prog 74 #[.int .u8 (b.toNat : Int)] w fun e w' => e = .returned (.bool (letB b)) ∧ w = w' := by
  rcases (by omega : (b.toNat : Int) < 97 ∨ 122 < (b.toNat : Int) ∨ (97 ≤ (b.toNat : Int) ∧ (b.toNat : Int) ≤ 122)) with h | h | ⟨h, h'⟩
  · have HO := Lib.hid (letB_no (b := b) (by omega))
    go_enter Try.func74, Try.ntmps74
    go_wp2
    go_ret
    exact ⟨ret_bool (by first | (rw [HO.out]; done) | (rw [HO.out]; show decide _ = _; simp; omega)), rfl⟩
  · have HO := Lib.hid (letB_no (b := b) (by omega))
    go_enter Try.func74, Try.ntmps74
    go_wp2
    go_ret
    exact ⟨ret_bool (by first | (rw [HO.out]; done) | (rw [HO.out]; show decide _ = _; simp; omega)), rfl⟩
  · have HO := Lib.hid (letB_yes (b := b) (by omega) (by omega))
    go_enter Try.func74, Try.ntmps74
    go_wp2
    go_ret
    exact ⟨ret_bool (by first | (rw [HO.out]; done) | (rw [HO.out]; show decide _ = _; simp; omega)), rfl⟩
theorem specFigure_any (b : UInt8) (w : World) : Calls Try.prog 75 #[.int .u8 (b.toNat : Int)] w fun e w' => e = .returned (.bool (figB b)) ∧ w = w' := by
  rcases (by omega : (b.toNat : Int) < 48 ∨ 57 < (b.toNat : Int) ∨ (48 ≤ (b.toNat : Int) ∧ (b.toNat : Int) ≤ 57)) with h | h | ⟨h, h'⟩
  · have HO := Lib.hid (figB_no (b := b) (by omega))
    go_enter Try.func75, Try.ntmps75
    go_wp2
    go_ret
    exact ⟨ret_bool (by first | (rw [HO.out]; done) | (rw [HO.out]; show decide _ = _; simp; omega)), rfl⟩
  · have HO := Lib.hid (figB_no (b := b) (by omega))
    go_enter Try.func75, Try.ntmps75
    go_wp2
    go_ret
    exact ⟨ret_bool (by first | (rw [HO.out]; done) | (rw [HO.out]; show decide _ = _; simp; omega)), rfl⟩
  · have HO := Lib.hid (figB_yes (b := b) (by omega) (by omega))
    go_enter Try.func75, Try.ntmps75
    go_wp2
    go_ret
    exact ⟨ret_bool (by first | (rw [HO.out]; done) | (rw [HO.out]; show decide _ = _; simp; omega)), rfl⟩
/-- The model's words. -/
theorem specWord_any (s : ByteArray) (w : World) (hm : s.size ≤ 9223372036854775807) :
    Calls Try.prog 69 #[.string s] w fun e w' => e = .returned (.bool (isWd s.data.toList)) ∧ w = w' := by
  rcases (by omega : s.size = 0 ∨ 12 < s.size ∨ (0 < s.size ∧ s.size ≤ 12)) with h | h | ⟨h, h'⟩
  · have HO := Lib.hid (isWd_none h)
    go_enter Try.func69, Try.ntmps69
    go_wp2
    go_ret
    exact ⟨ret_bool HO.out.symm, rfl⟩
  · have HO := Lib.hid (isWd_long h)
    have hp : 0 < s.size := by omega
    have hz := size_pos hp
    go_enter Try.func69, Try.ntmps69
    go_wp2
    go_ret
    exact ⟨ret_bool HO.out.symm, rfl⟩
  · have C0 := Lib.hid (specLetter_any s[0])
    have hz := size_pos h
    cases hl : letB s[0] with
    | false =>
      have HO := Lib.hid (isWd_head h hl)
      rw [hl] at C0
      clear hl
      go_enter Try.func69, Try.ntmps69
      go_wp2_with fail
      refine (C0.out _).mono ?_
      rintro e w1 ⟨rfl, rfl⟩
      go_wp2
      go_ret
      exact ⟨ret_bool HO.out.symm, rfl⟩
    | true =>
      have HO := Lib.hid (isWd_run h h' hl)
      rw [hl] at C0
      clear hl
      go_enter Try.func69, Try.ntmps69
      go_wp2_with (go_at_call 74; refine (C0.out _).mono ?_; rintro e w1 ⟨rfl, rfl⟩)
      go_loop [3] (fun i => ∃ k : Nat, k ≤ s.size ∧ i = .int .i64 k ∧ Hid (runL s.data.toList = k + runL (s.data.toList.drop k)))
        (fun i => s.size - (intOf i).toNat)
      case atStart => exact ⟨0, Nat.zero_le _, rfl, by show _ = _; simp⟩
      case round =>
        obtain ⟨k, hk, rfl, hr⟩ := hrel
        by_cases hlt : k < s.size
        · have C := Lib.hid (specLetter_any s[k])
          cases hl : letB s[k] with
          | true =>
            have HR : Hid (runL s.data.toList = (k + 1) + runL (s.data.toList.drop (k + 1))) := by show runL s.data.toList = _; rw [hr.out, run_step hlt (by simp [wrdB, hl])]; omega
            rw [hl] at C
            clear hl
            go_wp2_with fail
            refine (C.out _).mono ?_
            rintro e w1 ⟨rfl, rfl⟩
            go_wp2
            go_round
            case rel => exact ⟨k + 1, by omega, by go_num, HR⟩
            case measure => simp [intOf]; omega
          | false =>
            have D := Lib.hid (specFigure_any s[k])
            cases hf : figB s[k] with
            | true =>
              have HR : Hid (runL s.data.toList = (k + 1) + runL (s.data.toList.drop (k + 1))) := by show runL s.data.toList = _; rw [hr.out, run_step hlt (by simp [wrdB, hf])]; omega
              rw [hl] at C
              rw [hf] at D
              clear hl hf
              go_wp2_with fail
              refine (C.out _).mono ?_
              rintro e w1 ⟨rfl, rfl⟩
              go_wp2_with fail
              refine (D.out _).mono ?_
              rintro e w1 ⟨rfl, rfl⟩
              go_wp2
              go_round
              case rel => exact ⟨k + 1, by omega, by go_num, HR⟩
              case measure => simp [intOf]; omega
            | false =>
              have HR : Hid (isWd s.data.toList = false) := by
                rw [HO.out, hr.out, run_stop hlt (by simp [wrdB, hl, hf])]
                exact decide_eq_false (by omega)
              rw [hl] at C
              rw [hf] at D
              clear hl hf
              go_wp2_with fail
              refine (C.out _).mono ?_
              rintro e w1 ⟨rfl, rfl⟩
              go_wp2_with fail
              refine (D.out _).mono ?_
              rintro e w1 ⟨rfl, rfl⟩
              go_wp2
              go_ret
              exact ⟨ret_bool HR.out.symm, rfl⟩
        · have HR : Hid (isWd s.data.toList = true) := by
            rw [HO.out, hr.out, run_end (by omega)]
            exact decide_eq_true (by omega)
          go_wp2
          go_ret
          exact ⟨ret_bool HR.out.symm, rfl⟩
theorem specIsName_any (s : ByteArray) (w : World) (hm : s.size ≤ 9223372036854775807) :
    Calls Try.prog 52 #[.string s] w fun e w' => e = .returned (.bool (isNm s.data.toList)) ∧ w = w' := by
  have W := Lib.hid (specWord_any s)
  cases h : isKw s.data.toList with
  | true =>
    have HO : Hid (isNm s.data.toList = false) := by show isNm s.data.toList = false; unfold isNm; rw [h]; simp
    rcases isKw_yes h with h1 | h1 | h1 | h1 | h1 | h1 | h1 | h1 | h1 | h1 | h1 | h1 | h1
    all_goals
      clear h
      go_enter Try.func52, Try.ntmps52
      go_wp2
      go_ret
      exact ⟨ret_bool HO.out.symm, rfl⟩
  | false =>
    have HO : Hid (isNm s.data.toList = isWd s.data.toList) := by show isNm s.data.toList = _; unfold isNm; rw [h]; simp
    obtain ⟨h1, h2, h3, h4, h5, h6, h7, h8, h9, h10, h11, h12, h13⟩ := isKw_no h
    clear h
    go_enter Try.func52, Try.ntmps52
    go_wp2_with fail
    refine (W.out _ hm).mono ?_
    rintro e w1 ⟨rfl, rfl⟩
    go_wp2
    go_ret
    exact ⟨ret_bool HO.out.symm, rfl⟩
end Go.Proofs.Ytofmccihehalcaa.Lexs
