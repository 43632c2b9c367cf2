/- Decimal digits of a number, the plain arithmetic. Without conditions: no Go text is spoken of here. -/
import Derived.WalkKit
namespace Go.Proofs.Ytofmccihehalcaa.Own
def digB (n : Nat) : UInt8 := UInt8.ofNat (48 + n % 10)
theorem digB_toNat (n : Nat) : ((digB n).toNat : Int) = 48 + (n : Int) % 10 := by unfold digB; simp; omega
/-- The digits of n, none for 0. -/
def digs (n : Nat) : List UInt8 := if _h : n = 0 then [] else digs (n / 10) ++ [digB n]
termination_by n
decreasing_by omega
theorem digs_zero : digs 0 = [] := by rw [digs]; rfl
theorem digs_pos (n : Nat) (h : 0 < n) : digs n = digs (n / 10) ++ [digB n] := by rw [digs, dif_neg (by omega)]
theorem digs_length : ∀ (k n : Nat), n < 10 ^ k → (digs n).length ≤ k
  | 0, n, h => by
    obtain rfl : n = 0 := by simpa using h
    rw [digs_zero]; simp
  | k + 1, n, h => by
    rw [Nat.pow_succ] at h
    by_cases hn : n = 0
    · subst hn; rw [digs_zero]; simp
    · rw [digs_pos n (by omega), List.length_append]
      have := digs_length k (n / 10) (by omega)
      simp; omega
theorem digs_length19 (n : Nat) (h : n ≤ 9999999999999999999) : (digs n).length ≤ 19 := digs_length 19 n (by omega)
/-- What has been written while n is left of m. -/
def Wrote (m n : Nat) (acc : List UInt8) : Prop := digs m = digs n ++ acc
theorem Wrote.start (m : Nat) : Wrote m m [] := by simp [Wrote]
theorem Wrote.step {m n : Nat} {acc : List UInt8} (r : Wrote m n acc) (h : 0 < n) : Wrote m (n / 10) (digB n :: acc) := by
  unfold Wrote at *
  rw [r, digs_pos n h]
  simp
theorem Wrote.done {m : Nat} {acc : List UInt8} (r : Wrote m 0 acc) : acc = digs m := by
  unfold Wrote at r
  rw [r, digs_zero]; rfl
theorem Wrote.length {m n : Nat} {acc : List UInt8} (r : Wrote m n acc) (hm : m ≤ 9999999999999999999) : acc.length ≤ 19 := by
  have h1 := digs_length19 m hm
  have h2 := congrArg List.length r
  rw [List.length_append] at h2
  omega
/-- The text that marks the k-th element. -/
def markB (k : Nat) : ByteArray := ⟨(109 :: digs k).toArray⟩
end Go.Proofs.Ytofmccihehalcaa.Own
