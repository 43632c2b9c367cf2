/- Where something is met first in a row. Without conditions: no Go text is spoken of here. -/
import Derived.Test.YtabpbmifegfmgaaTrees
namespace Go.Proofs.Ytabpbmifegfmgaa.Trm
open Go.RowKit Own
def IdxG (n : Nat) (hit : Nat → Prop) (x : Int) : Prop := (∃ i : Nat, i < n ∧ x = (i : Int) ∧ hit i ∧ ∀ j, j < i → ¬ hit j) ∨ (x = -1 ∧ ∀ j, j < n → ¬ hit j)
theorem IdxG.uni {n : Nat} {hit : Nat → Prop} {x y : Int} (h : IdxG n hit x) (h2 : IdxG n hit y) : x = y := by
  rcases h with ⟨i, hi, rfl, hh, hf⟩ | ⟨rfl, hf⟩
  · rcases h2 with ⟨k, hk, rfl, hh2, hf2⟩ | ⟨rfl, hf2⟩
    · rcases Nat.lt_trichotomy i k with h | h | h
      · exact absurd hh (hf2 i h)
      · rw [h]
      · exact absurd hh2 (hf k h)
    · exact absurd hh (hf2 i hi)
  · rcases h2 with ⟨k, hk, rfl, hh2, hf2⟩ | ⟨rfl, hf2⟩
    · exact absurd hh2 (hf k hk)
    · rfl
theorem IdxG.upto (hit : Nat → Prop) : ∀ n, (∃ i : Nat, i < n ∧ hit i ∧ ∀ j, j < i → ¬ hit j) ∨ ∀ j, j < n → ¬ hit j
  | 0 => .inr fun j h => absurd h (Nat.not_lt_zero j)
  | n + 1 => by
    rcases IdxG.upto hit n with ⟨i, hi, hh, hf⟩ | hf
    · exact .inl ⟨i, by omega, hh, hf⟩
    · by_cases h : hit n
      · exact .inl ⟨n, by omega, h, hf⟩
      · refine .inr fun j hj => ?_
        rcases Nat.lt_or_ge j n with h1 | h1
        · exact hf j h1
        · obtain rfl : j = n := by omega
          exact h
theorem IdxG.ex (n : Nat) (hit : Nat → Prop) : ∃ x, IdxG n hit x := by
  rcases IdxG.upto hit n with ⟨i, hi, hh, hf⟩ | hf
  · exact ⟨i, .inl ⟨i, hi, rfl, hh, hf⟩⟩
  · exact ⟨-1, .inr ⟨rfl, hf⟩⟩
theorem ret_iP {a b : Int} (h : a = b) : Ending.returned (.int .i64 a) = .returned (.int .i64 b) := by rw [h]
end Go.Proofs.Ytabpbmifegfmgaa.Trm
