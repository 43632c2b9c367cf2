/- The program's IsName, and how far a word goes, walked. Conditions: the text's length fits an int. -/
import Derived.Test.YtofmccihehalcaaChecked
import Derived.Test.YtofmccihehalcaaLexMath
import Derived.Lib.Hide
import Derived.WalkSmall
import Derived.Outline
namespace Go.Proofs.Ytofmccihehalcaa.Lexs
open Go.RowKit Own Reads
theorem implKeyword_any (s : ByteArray) (w : World) :
    Calls Try.prog 59 #[.string s] w fun e w' => e = .returned (.bool (isKw s.data.toList)) ∧ w = w' := by
  cases h : isKw s.data.toList with
  | true =>
    rcases isKw_yes h with h1 | h1 | h1 | h1 | h1 | h1 | h1 | h1 | h1 | h1 | h1 | h1 | h1
    all_goals
      clear h
      go_enter Try.func59, Try.ntmps59
      go_wp2
      go_ret
      exact ⟨rfl, rfl⟩
  | false =>
    obtain ⟨h1, h2, h3, h4, h5, h6, h7, h8, h9, h10, h11, h12, h13⟩ := isKw_no h
    clear h
    go_enter Try.func59, Try.ntmps59
    go_wp2
    go_ret
    exact ⟨rfl, rfl⟩
theorem implLetter_any (b : UInt8) (w : World) : Calls Try.prog 57 #[.int .u8 (b.toNat : Int)] w fun e w' => e = .returned (.bool (letB b)) ∧ w = w' := by
  rcases (by omega : (b.toNat : Int) < 97 ∨ 122 < (b.toNat : Int) ∨ (97 ≤ (b.toNat : Int) ∧ (b.toNat : Int) ≤ 122)) with h | h | ⟨h, h'⟩
  · have HO := Lib.hid (letB_no (b := b) (by omega))
    go_enter Try.func57, Try.ntmps57
    go_wp2
    go_ret
    exact ⟨ret_bool (by first | (rw [HO.out]; done) | (rw [HO.out]; show decide _ = _; simp; omega)), rfl⟩
  · have HO := Lib.hid (letB_no (b := b) (by omega))
    go_enter Try.func57, Try.ntmps57
    go_wp2
    go_ret
    exact ⟨ret_bool (by first | (rw [HO.out]; done) | (rw [HO.out]; show decide _ = _; simp; omega)), rfl⟩
  · have HO := Lib.hid (letB_yes (b := b) (by omega) (by omega))
    go_enter Try.func57, Try.ntmps57
    go_wp2
    go_ret
    exact ⟨ret_bool (by first | (rw [HO.out]; done) | (rw [HO.out]; show decide _ = _; simp; omega)), rfl⟩
theorem implFigure_any (b : UInt8) (w : World) : Calls Try.prog 70 #[.int .u8 (b.toNat : Int)] w fun e w' => e = .returned (.bool (figB b)) ∧ w = w' := by
  rcases (by omega : (b.toNat : Int) < 48 ∨ 57 < (b.toNat : Int) ∨ (48 ≤ (b.toNat : Int) ∧ (b.toNat : Int) ≤ 57)) with h | h | ⟨h, h'⟩
  · have HO := Lib.hid (figB_no (b := b) (by omega))
    go_enter Try.func70, Try.ntmps70
    go_wp2
    go_ret
    exact ⟨ret_bool (by first | (rw [HO.out]; done) | (rw [HO.out]; show decide _ = _; simp; omega)), rfl⟩
  · have HO := Lib.hid (figB_no (b := b) (by omega))
    go_enter Try.func70, Try.ntmps70
    go_wp2
    go_ret
    exact ⟨ret_bool (by first | (rw [HO.out]; done) | (rw [HO.out]; show decide _ = _; simp; omega)), rfl⟩
  · have HO := Lib.hid (figB_yes (b := b) (by omega) (by omega))
    go_enter Try.func70, Try.ntmps70
    go_wp2
    go_ret
    exact ⟨ret_bool (by first | (rw [HO.out]; done) | (rw [HO.out]; show decide _ = _; simp; omega)), rfl⟩
/-- How far the word goes on from a place. -/
theorem wordSize_any (s : ByteArray) (w : World) (hm : s.size ≤ 9223372036854775807) :
    Calls Try.prog 58 #[.string s] w fun e w' => e = .returned (.int .i64 (runL s.data.toList : Nat)) ∧ w = w' := by
  go_enter Try.func58, Try.ntmps58
  go_wp2
  go_loop [3] (fun i => ∃ k : Nat, k ≤ s.size ∧ i = .int .i64 k ∧ Hid (runL s.data.toList = k + runL (s.data.toList.drop k)))
    (fun i => s.size - (intOf i).toNat)
  case atStart => exact ⟨0, Nat.zero_le _, rfl, by show _ = _; simp⟩
  case round =>
    obtain ⟨k, hk, rfl, hr⟩ := hrel
    by_cases hlt : k < s.size
    · cases hl : letB s[k] with
      | true =>
        have HR : Hid (runL s.data.toList = (k + 1) + runL (s.data.toList.drop (k + 1))) := by show runL s.data.toList = _; rw [hr.out, run_step hlt (by simp [wrdB, hl])]; omega
        have C := Lib.hid (implLetter_any s[k])
        rw [hl] at C
        clear hl
        go_wp2_with fail
        refine (C.out _).mono ?_
        rintro e w1 ⟨rfl, rfl⟩
        go_wp2
        go_round
        case rel => exact ⟨k + 1, by omega, by go_num, HR⟩
        case measure => simp [intOf]; omega
      | false =>
        cases hf : figB s[k] with
        | true =>
          have HR : Hid (runL s.data.toList = (k + 1) + runL (s.data.toList.drop (k + 1))) := by show runL s.data.toList = _; rw [hr.out, run_step hlt (by simp [wrdB, hf])]; omega
          have C := Lib.hid (implLetter_any s[k])
          have D := Lib.hid (implFigure_any s[k])
          rw [hl] at C
          rw [hf] at D
          clear hl hf
          go_wp2_with fail
          refine (C.out _).mono ?_
          rintro e w1 ⟨rfl, rfl⟩
          go_wp2_with fail
          refine (D.out _).mono ?_
          rintro e w1 ⟨rfl, rfl⟩
          go_wp2
          go_round
          case rel => exact ⟨k + 1, by omega, by go_num, HR⟩
          case measure => simp [intOf]; omega
        | false =>
          have HR : Hid (runL s.data.toList = k) := by
            rw [hr.out, run_stop hlt (by simp [wrdB, hl, hf])]; rfl
          have C := Lib.hid (implLetter_any s[k])
          have D := Lib.hid (implFigure_any s[k])
          rw [hl] at C
          rw [hf] at D
          clear hl hf
          go_wp2_with fail
          refine (C.out _).mono ?_
          rintro e w1 ⟨rfl, rfl⟩
          go_wp2_with fail
          refine (D.out _).mono ?_
          rintro e w1 ⟨rfl, rfl⟩
          go_wp2
          go_ret
          exact ⟨by rw [HR.out]; rfl, rfl⟩
    · have HR : Hid (runL s.data.toList = k) := by
        rw [hr.out, run_end (by omega)]; rfl
      go_wp2
      go_ret
      exact ⟨by rw [HR.out]; rfl, rfl⟩
theorem implIsName_any (s : ByteArray) (w : World) (hm : s.size ≤ 9223372036854775807) :
    Calls Try.prog 42 #[.string s] w fun e w' => e = .returned (.bool (isNm s.data.toList)) ∧ w = w' := by
  rcases (by omega : s.size = 0 ∨ 12 < s.size ∨ (0 < s.size ∧ s.size ≤ 12)) with h | h | ⟨h, h'⟩
  · have HO : Hid (isNm s.data.toList = false) := by show isNm s.data.toList = _; unfold isNm; rw [isWd_none h]; rfl
    have he := empty_true h
    go_enter Try.func42, Try.ntmps42
    go_wp2
    go_ret
    exact ⟨ret_bool HO.out.symm, rfl⟩
  · have HO : Hid (isNm s.data.toList = false) := by show isNm s.data.toList = _; unfold isNm; rw [isWd_long h]; rfl
    have he := empty_false (p := s) (by omega)
    go_enter Try.func42, Try.ntmps42
    go_wp2
    go_ret
    exact ⟨ret_bool HO.out.symm, rfl⟩
  · have C0 := Lib.hid (implLetter_any s[0])
    have he := empty_false (p := s) (by omega)
    cases hl : letB s[0] with
    | false =>
      have HO : Hid (isNm s.data.toList = false) := by show isNm s.data.toList = _; unfold isNm; rw [isWd_head h hl]; rfl
      rw [hl] at C0
      clear hl
      go_enter Try.func42, Try.ntmps42
      go_wp2_with fail
      refine (C0.out _).mono ?_
      rintro e w1 ⟨rfl, rfl⟩
      go_wp2
      go_ret
      exact ⟨ret_bool HO.out.symm, rfl⟩
    | true =>
      have HO := Lib.hid (isWd_run h h' hl)
      have W := Lib.hid (wordSize_any s)
      have K := Lib.hid (implKeyword_any s)
      rw [hl] at C0
      clear hl
      by_cases hr : runL s.data.toList = s.size
      · have HN : Hid (isNm s.data.toList = !isKw s.data.toList) := by show isNm s.data.toList = _; unfold isNm; rw [HO.out, decide_eq_true hr]; rfl
        rw [hr] at W
        clear hr
        go_enter Try.func42, Try.ntmps42
        go_wp2_with fail
        refine (C0.out _).mono ?_
        rintro e w1 ⟨rfl, rfl⟩
        go_wp2_with fail
        refine (W.out _ hm).mono ?_
        rintro e w1 ⟨rfl, rfl⟩
        go_wp2_with fail
        refine (K.out _).mono ?_
        rintro e w1 ⟨rfl, rfl⟩
        go_wp2
        go_ret
        exact ⟨ret_bool HN.out.symm, rfl⟩
      · have HN : Hid (isNm s.data.toList = false) := by show isNm s.data.toList = _; unfold isNm; rw [HO.out, decide_eq_false hr]; rfl
        have hle := runL_le s.data.toList
        rw [Array.length_toList] at hle
        have hlt : runL s.data.toList < s.size := by
          have : s.data.size = s.size := rfl
          omega
        clear hr hle
        go_enter Try.func42, Try.ntmps42
        go_wp2_with fail
        refine (C0.out _).mono ?_
        rintro e w1 ⟨rfl, rfl⟩
        go_wp2_with fail
        refine (W.out _ hm).mono ?_
        rintro e w1 ⟨rfl, rfl⟩
        have hq : ((runL s.data.toList : Int) == (s.size : Int)) = false := by simp; omega
        go_wp2_with fail
        go_ret
        exact ⟨ret_bool HN.out.symm, rfl⟩
end Go.Proofs.Ytofmccihehalcaa.Lexs
