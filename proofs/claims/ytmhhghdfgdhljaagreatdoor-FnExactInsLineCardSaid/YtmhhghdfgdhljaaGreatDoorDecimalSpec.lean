/- The model's Decimal, walked: it hands back the decimal numeral. Conditions: the number fits an int. -/
import Derived.Test.YtmhhghdfgdhljaaGreatDoorChecked
import Derived.Test.YtmhhghdfgdhljaaGreatDoorDigits
import Derived.Test.YtmhhghdfgdhljaaGreatDoorOwnStr
import Derived.Lib.ItoaMem
import Derived.Outline
namespace Go.Proofs.YtmhhghdfgdhljaaGreatDoor.Decimals
open Go.RowKit Own
theorem digs_dec : ∀ n : Nat, 0 < n → digs n = Lib.decDigits n := by
  intro n
  induction n using Nat.strongRecOn with
  | _ n ih =>
    intro h
    rw [digs_pos n h, Lib.decDigits]
    by_cases h10 : n < 10
    · rw [dif_pos h10, show n / 10 = 0 from by omega, digs_zero]
      simp [digB, Nat.mod_eq_of_lt h10]
    · rw [dif_neg h10, ih (n / 10) (by omega) (by omega)]
      rfl
theorem digit_any (x : Int) (w : World) (h0 : 0 ≤ x) (h : x < 10) :
    Calls Tryz.prog 104 #[.int .i64 x] w fun e w' => e = .returned (.int .u8 (48 + x)) ∧ w = w' := by
  go_enter Tryz.func104, Tryz.ntmps104
  go_wp2
  go_ret
  exact ⟨by simp, rfl⟩

set_option maxRecDepth 20000 in
set_option maxHeartbeats 400000 in
theorem specDecimal_pos (m : Nat) (w : World) (h1 : 1 ≤ m) (h2 : m ≤ 9223372036854775807) :
    Calls Tryz.prog 50 #[.int .i64 (m : Int)] w fun e w' => e = .returned (.string ⟨(Lib.itoa (m : Int)).toArray⟩) ∧ w.grownBy w' none := by
  have HI : Hid (Lib.itoa (m : Int) = digs m) := by rw [digs_dec m h1]; exact Lib.itoa_nonneg m
  have hz : ((m : Int) == 0) = false := by simp; omega
  go_enter Tryz.func50, Tryz.ntmps50
  go_wp2
  go_loopw [0, 4] (fun x o wr => ∃ (n : Nat) (acc : List UInt8), n ≤ 9223372036854775807 ∧ x = .int .i64 (n : Int) ∧ Hid (Wrote m n acc) ∧ o = .string ⟨acc.toArray⟩ ∧ w.grownBy wr none)
    (fun x _ _ => (intOf x).toNat)
  case atStart => exact ⟨m, [], h2, rfl, Wrote.start m, rfl, World.grownBy.refl _ _⟩
  case round =>
    obtain ⟨n, acc, hn, rfl, hr, rfl, hg⟩ := hrel
    have hl := hr.out.length (by omega)
    by_cases hp : 0 < n
    · have hc := run_string_one (P := Tryz.prog) wr 22 9 5 (digB n) (48 + (n : Int) % 10) (digB_toNat n).symm Tryz.underlying22 Tryz.underlying5 Tryz.underlying9
      have hz2 : ((n : Int) != 0) = true := by simp; omega
      go_wp2_with (go_at_call 104; refine (digit_any _ _ (by omega) (by omega)).mono ?_; rintro e w1 ⟨rfl, rfl⟩)
      go_roundw
      case rel => exact ⟨n / 10, digB n :: acc, by omega, by go_num, hr.out.step hp, congrArg Value.string (mk_cons _ _), grown_alloc hg _⟩
      case measure => simp [intOf]; omega
    · obtain rfl : n = 0 := by omega
      have hd : acc = digs m := hr.out.done
      subst hd
      go_wp2
      go_ret
      exact ⟨by rw [HI.out]; rfl, hg⟩

theorem specDecimal_zero (w : World) :
    Calls Tryz.prog 50 #[.int .i64 0] w fun e w' => e = .returned (.string ⟨(Lib.itoa 0).toArray⟩) ∧ w.grownBy w' none := by
  have HI : Hid (Lib.itoa 0 = [48]) := by
    have := Lib.itoa_nonneg 0
    rw [Lib.decDigits] at this
    exact this
  go_enter Tryz.func50, Tryz.ntmps50
  go_wp2
  go_ret
  exact ⟨by rw [HI.out]; rfl, World.grownBy.refl _ _⟩

theorem neg_quo (n : Nat) : (-(n : Int)).tdiv 10 = -((n : Int) / 10) := by rw [Int.neg_tdiv, Int.tdiv_eq_ediv_of_nonneg (by omega)]
theorem neg_rem (n : Nat) : (-(n : Int)).tmod 10 = -((n : Int) % 10) := by rw [Int.neg_tmod, Int.tmod_eq_emod_of_nonneg (by omega)]

set_option maxRecDepth 20000 in
set_option maxHeartbeats 400000 in
theorem specDecimal_neg (m : Nat) (w : World) (h1 : 1 ≤ m) (h2 : m ≤ 9223372036854775808) :
    Calls Tryz.prog 50 #[.int .i64 (-(m : Int))] w fun e w' => e = .returned (.string ⟨(Lib.itoa (-(m : Int))).toArray⟩) ∧ w.grownBy w' none := by
  have HI : Hid (Lib.itoa (-(m : Int)) = 45 :: digs m) := by rw [digs_dec m h1]; exact Lib.itoa_neg m h1
  have hz : (-(m : Int) == 0) = false := by simp; omega
  have hng : -(m : Int) < 0 := by omega
  go_enter Tryz.func50, Tryz.ntmps50
  go_wp2
  go_loopw [0, 4] (fun x o wr => ∃ (n : Nat) (acc : List UInt8), n ≤ 9223372036854775808 ∧ x = .int .i64 (-(n : Int)) ∧ Hid (Wrote m n acc) ∧ o = .string ⟨acc.toArray⟩ ∧ w.grownBy wr none)
    (fun x _ _ => (-intOf x).toNat)
  case atStart => exact ⟨m, [], h2, rfl, Wrote.start m, rfl, World.grownBy.refl _ _⟩
  case round =>
    obtain ⟨n, acc, hn, rfl, hr, rfl, hg⟩ := hrel
    have hl := hr.out.length (by omega)
    by_cases hp : 0 < n
    · have hz2 : (-(n : Int) != 0) = true := by simp; omega
      have q1 := neg_quo n
      have q2 := neg_rem n
      have hdb := digB_toNat n
      by_cases h0 : 0 < (n : Int) % 10
      · have hc := run_string_one (P := Tryz.prog) wr 22 9 5 (digB n) (48 + (n : Int) % 10) hdb.symm Tryz.underlying22 Tryz.underlying5 Tryz.underlying9
        clear hdb
        go_wp2_with (go_at_call 104; refine (digit_any _ _ (by omega) (by omega)).mono ?_; rintro e w1 ⟨rfl, rfl⟩)
        go_roundw
        case rel => exact ⟨n / 10, digB n :: acc, by omega, by go_num, hr.out.step hp, congrArg Value.string (mk_cons _ _), grown_alloc hg _⟩
        case measure => simp [intOf]; omega
      · have hc := run_string_one (P := Tryz.prog) wr 22 9 5 (digB n) (48 + -((n : Int) % 10)) (by omega) Tryz.underlying22 Tryz.underlying5 Tryz.underlying9
        clear hdb
        go_wp2_with (go_at_call 104; refine (digit_any _ _ (by omega) (by omega)).mono ?_; rintro e w1 ⟨rfl, rfl⟩)
        go_roundw
        case rel => exact ⟨n / 10, digB n :: acc, by omega, by go_num, hr.out.step hp, congrArg Value.string (mk_cons _ _), grown_alloc hg _⟩
        case measure => simp [intOf]; omega
    · obtain rfl : n = 0 := by omega
      have hd : acc = digs m := hr.out.done
      subst hd
      go_wp2
      go_ret
      exact ⟨by rw [HI.out]; exact congrArg (fun x => Ending.returned (Value.string x)) (mk_cons _ _), hg⟩

/-- For every int. -/
theorem specDecimal_any (n : Int) (w : World) (h0 : -9223372036854775808 ≤ n) (h1 : n ≤ 9223372036854775807) :
    Calls Tryz.prog 50 #[.int .i64 n] w fun e w' => e = .returned (.string ⟨(Lib.itoa n).toArray⟩) ∧ w.grownBy w' none := by
  rcases (by omega : n = 0 ∨ 0 < n ∨ n < 0) with rfl | h | h
  · exact specDecimal_zero w
  · obtain ⟨m, rfl⟩ : ∃ m : Nat, n = m := ⟨n.toNat, by omega⟩
    exact specDecimal_pos m w (by omega) (by omega)
  · obtain ⟨m, rfl⟩ : ∃ m : Nat, n = -(m : Int) := ⟨n.natAbs, by omega⟩
    exact specDecimal_neg m w (by omega) (by omega)
end Go.Proofs.YtmhhghdfgdhljaaGreatDoor.Decimals
