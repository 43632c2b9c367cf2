/- What Hex writes is what Unhex reads. Without conditions: no Go text is spoken of here. -/
import Derived.Test.YtiaekohncfepbaaDoorHexMath
import Derived.Test.YtiaekohncfepbaaDoorUnhexMath
import Derived.Test.YtiaekohncfepbaaDoorReadMath
namespace Go.Proofs.YtiaekohncfepbaaDoor.Figs
open Go.RowKit Own Hexes Unhexes
theorem val_fig (x : Nat) (h : x < 16) : valI (figB x) = (x : Int) := by
  have k : ∀ n : Fin 16, valI (figB n.val) = (n.val : Int) := by decide +kernel
  exact k ⟨x, h⟩
theorem mk_halves (b : UInt8) : mkB ((b.toNat / 16 : Nat) : Int) ((b.toNat % 16 : Nat) : Int) = b := by
  unfold mkB
  have e : (16 * ((b.toNat / 16 : Nat) : Int) + ((b.toNat % 16 : Nat) : Int)).toNat = b.toNat := by omega
  rw [e]
  exact UInt8.ofNat_toNat
theorem unhex_hex : ∀ l : List UInt8, unhexL (hexL l) = some l
  | [] => rfl
  | b :: l => by
    have hb := b.toNat_lt
    have e : hexL (b :: l) = figB (b.toNat / 16) :: figB (b.toNat % 16) :: hexL l := rfl
    rw [e, unhexL, val_fig _ (by omega), val_fig _ (by omega), if_neg (by omega), if_neg (by omega), unhex_hex l, Option.map_some, mk_halves]
/-- What is brought between -a and b. -/
def clampI (x a b : Int) : Int := if x < a then a else if b < x then b else x
theorem clamp_bd {x a b : Int} (h : a ≤ b) : a ≤ clampI x a b ∧ clampI x a b ≤ b := by
  unfold clampI; repeat' split <;> omega
theorem clamp_in {x a b : Int} (h : a ≤ x ∧ x ≤ b) : clampI x a b = x := by
  unfold clampI; repeat' split <;> omega
theorem itoa_len {n : Int} (h0 : 0 ≤ n) (h1 : n ≤ 9999) : (Lib.itoa n).length ≤ 4 := by
  obtain ⟨m, rfl⟩ : ∃ m : Nat, n = (m : Int) := ⟨n.toNat, by omega⟩
  rw [Reads.itoa_nat]
  exact Reads.decDigits_length_le 3 m (by omega)
end Go.Proofs.YtiaekohncfepbaaDoor.Figs
