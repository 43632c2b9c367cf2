/- The model's ReadDecimal, walked. Conditions: the text's length fits an int. -/
import Derived.Test.YtpoibodnjjbjeaaDoorDecimalSpec
import Derived.Test.YtpoibodnjjbjeaaDoorReadMath
import Derived.Lib.Hide
import Derived.Outline
namespace Go.Proofs.YtpoibodnjjbjeaaDoor.Reads
open Go.RowKit Own Decimals
theorem specRead_long (s : ByteArray) (w : World) (hs : 10 < s.size) (hm : s.size ≤ 9223372036854775807) :
    Calls Tryd.prog 7 #[.string s] w fun e w' => e = outR (readN s.data.toList) ∧ w.grownBy w' none := by
  have HN : Hid (readN s.data.toList = none) := by
    cases h : readN s.data.toList with
    | none => rfl
    | some m => have := (readN_length h).2; simp at this; omega
  go_enter Tryd.func7, Tryd.ntmps7
  go_wp2
  go_ret2
  exact ⟨by rw [HN.out]; rfl, World.grownBy.refl _ _⟩

set_option maxHeartbeats 400000 in
theorem specRead_short (s : ByteArray) (w : World) (hs : s.size ≤ 10) :
    Calls Tryd.prog 7 #[.string s] w fun e w' => e = outR (readN s.data.toList) ∧ w.grownBy w' none := by
  go_enter Tryd.func7, Tryd.ntmps7
  go_wp2
  go_loop [4, 5] (fun x i => ∃ k n : Nat, k ≤ s.size ∧ n < 10000000000 ∧ i = .int .i64 k ∧ x = .int .i64 n ∧ Hid (Read s.data.toList k n))
    (fun _ i => s.size - (intOf i).toNat)
  case atStart => exact ⟨0, 0, Nat.zero_le _, by omega, rfl, rfl, Read.start _⟩
  case round =>
    obtain ⟨k, n, hk, hn, rfl, rfl, hr⟩ := hrel
    by_cases hlt : k < s.size
    · rcases (by omega : (s[k].toNat : Int) < 48 ∨ 57 < (s[k].toNat : Int) ∨ (48 ≤ (s[k].toNat : Int) ∧ (s[k].toNat : Int) ≤ 57)) with h | h | ⟨h, h'⟩
      · have HN := Lib.hid (hr.out.badS hlt (by omega))
        go_wp2
        go_ret2
        exact ⟨by rw [HN.out]; rfl, World.grownBy.refl _ _⟩
      · have HN := Lib.hid (hr.out.badS hlt (by omega))
        go_wp2
        go_ret2
        exact ⟨by rw [HN.out]; rfl, World.grownBy.refl _ _⟩
      · have HR := Lib.hid (hr.out.stepS hlt (by omega) (by omega))
        have hn2 : n * 10 + (s[k].toNat - 48) < 10000000000 := Nat.lt_of_lt_of_le HR.out.2 (Nat.pow_le_pow_right (by omega) (by omega : k + 1 ≤ 10))
        go_wp2
        go_round
        case rel => exact ⟨k + 1, n * 10 + (s[k].toNat - 48), by omega, hn2, by go_num, by go_num, HR.out⟩
        case measure => simp [intOf]; omega
    · obtain rfl : k = s.size := by omega
      have HD := Lib.hid (hr.out.done (by simp))
      by_cases hbig : 1000000000 < n
      · go_wp2
        go_ret2
        rw [if_neg (by omega)] at HD
        exact ⟨by rw [HD.out]; rfl, World.grownBy.refl _ _⟩
      · by_cases heq : Lib.itoa (n : Int) = s.data.toList
        · rw [if_pos ⟨by omega, heq⟩] at HD
          have ht : (Lib.itoa (n : Int) == s.toList) = true := by rw [ByteArray.toList_eq]; simp [heq]
          clear heq
          go_wp2_with (go_at_call 5; refine (specDecimal_any _ _ (by omega) (by omega)).mono ?_; rintro e w1 ⟨rfl, hg⟩)
          go_ret2
          exact ⟨by rw [HD.out]; rfl, hg⟩
        · rw [if_neg (fun h => heq h.2)] at HD
          have ht : (Lib.itoa (n : Int) == s.toList) = false := by rw [ByteArray.toList_eq]; simp [heq]
          clear heq
          go_wp2_with (go_at_call 5; refine (specDecimal_any _ _ (by omega) (by omega)).mono ?_; rintro e w1 ⟨rfl, hg⟩)
          go_ret2
          exact ⟨by rw [HD.out]; rfl, hg⟩
end Go.Proofs.YtpoibodnjjbjeaaDoor.Reads
