/- The plain arithmetic of ReadDecimal: a numeral read back. Without conditions: no Go text is spoken of here. -/
import Derived.Test.YtofmccihehalcaaDigits
import Derived.Test.YtofmccihehalcaaOwnStr
import Derived.Lib.ItoaMem
import Derived.Lib.AtoiTie
namespace Go.Proofs.Ytofmccihehalcaa.Reads
open Go.RowKit Own
open Go.Lib (itoa decDigits decFrom decNat digitVal atoi atoiAll)
theorem decFrom_append : ∀ (a b : List UInt8) (acc : Nat), decFrom acc (a ++ b) = (decFrom acc a).bind fun n => decFrom n b
  | [], b, acc => rfl
  | c :: a, b, acc => by
    simp only [List.cons_append, decFrom]
    cases digitVal c with
    | none => rfl
    | some d => exact decFrom_append a b _
theorem digitVal_digit (k : Nat) (h : k < 10) : digitVal (UInt8.ofNat (48 + k)) = some k := by
  unfold digitVal
  have e : (UInt8.ofNat (48 + k)).toNat = 48 + k := by simp; omega
  rw [e, if_pos (by omega)]
  congr 1
  omega
theorem decFrom_one (acc : Nat) (b : UInt8) : decFrom acc [b] = (digitVal b).map fun d => acc * 10 + d := by
  unfold decFrom
  cases digitVal b <;> rfl
theorem decFrom_digits : ∀ m : Nat, decFrom 0 (decDigits m) = some m := by
  intro m
  induction m using Nat.strongRecOn with
  | _ m ih =>
    rw [decDigits]
    by_cases h : m < 10
    · rw [dif_pos h, decFrom_one, digitVal_digit m h]
      simp
    · rw [dif_neg h, decFrom_append, ih (m / 10) (by omega), Option.bind_some, decFrom_one, digitVal_digit (m % 10) (by omega), Option.map_some]
      congr 1
      omega
theorem decDigits_ne (m : Nat) : decDigits m ≠ [] := by
  rw [decDigits]; split <;> simp
theorem itoa_nat (m : Nat) : itoa (m : Int) = decDigits m := Lib.itoa_nonneg m
theorem decNat_itoa (m : Nat) : decNat (itoa (m : Int)) = some m := by
  rw [itoa_nat]
  unfold decNat
  rw [if_neg (by simp [decDigits_ne]), decFrom_digits]
theorem decDigits_length_le : ∀ (k m : Nat), m < 10 ^ (k + 1) → (decDigits m).length ≤ k + 1
  | 0, m, h => by
    rw [decDigits, dif_pos (by simpa using h)]; simp
  | k + 1, m, h => by
    rw [Nat.pow_succ] at h
    rw [decDigits]
    split
    · simp
    · have := decDigits_length_le k (m / 10) (by omega)
      simp; omega
/-- The number that a text is the numeral of, where there is one in 0 .. MaxNumber. -/
def readN (l : List UInt8) : Option Nat := (decNat l).filter fun m => decide (m ≤ 1000000000) && (itoa (m : Int) == l)
theorem readN_some {l : List UInt8} {m : Nat} (h : readN l = some m) : decNat l = some m ∧ m ≤ 1000000000 ∧ itoa (m : Int) = l := by
  unfold readN at h
  rw [Option.filter_eq_some_iff] at h
  simpa using h
theorem readN_of {m : Nat} (h : m ≤ 1000000000) : readN (itoa (m : Int)) = some m := by
  unfold readN
  rw [decNat_itoa]
  simp [h]
theorem readN_length {l : List UInt8} {m : Nat} (h : readN l = some m) : 1 ≤ l.length ∧ l.length ≤ 10 := by
  obtain ⟨_, h1, rfl⟩ := readN_some h
  rw [itoa_nat]
  refine ⟨?_, decDigits_length_le 9 m (by omega)⟩
  have := decDigits_ne m
  cases e : decDigits m with
  | nil => exact absurd e this
  | cons a r => simp
theorem atoi_of_decNat {l : List UInt8} {m : Nat} (h : decNat l = some m) : atoi l = some (m : Int) := by
  cases l with
  | nil => simp [decNat] at h
  | cons b r =>
    have hb : digitVal b ≠ none := by
      intro e
      simp [decNat, decFrom, e] at h
    have h45 : (b == 45) = false := by
      rw [beq_eq_false_iff_ne]; rintro rfl; exact hb rfl
    have h43 : (b == 43) = false := by
      rw [beq_eq_false_iff_ne]; rintro rfl; exact hb rfl
    simp [atoi, h45, h43, h]
theorem atoiAll_of_readN {l : List UInt8} {m : Nat} (h : readN l = some m) : atoiAll l = .ok (m : Int) := by
  rw [Lib.atoiAll_short l (by have := (readN_length h).2; omega), atoi_of_decNat (readN_some h).1]
  rfl
/-- What the call hands back. -/
def outR : Option Nat → Ending
  | some m => .returned (.tuple #[.int .i64 (m : Int), .bool true])
  | none => .returned (.tuple #[.int .i64 0, .bool false])
/-- What has been read when place k has been reached. -/
def Read (l : List UInt8) (k n : Nat) : Prop := decFrom 0 (l.take k) = some n ∧ n < 10 ^ k
theorem Read.start (l : List UInt8) : Read l 0 0 := ⟨rfl, by simp⟩
theorem Read.step {l : List UInt8} {k n : Nat} (r : Read l k n) (hk : k < l.length) (h1 : 48 ≤ l[k].toNat) (h2 : l[k].toNat ≤ 57) : Read l (k + 1) (n * 10 + (l[k].toNat - 48)) := by
  have hd : digitVal l[k] = some (l[k].toNat - 48) := by unfold digitVal; rw [if_pos ⟨h1, h2⟩]
  refine ⟨Lib.decFrom_take l k 0 n l[k] _ r.1 (by simp [hk]) hd, ?_⟩
  have := r.2
  rw [Nat.pow_succ]
  omega
theorem Read.bad {l : List UInt8} {k n : Nat} (r : Read l k n) (hk : k < l.length) (h : l[k].toNat < 48 ∨ 57 < l[k].toNat) : readN l = none := by
  have hd : digitVal l[k] = none := by unfold digitVal; rw [if_neg (by omega)]
  have e : l = l.take k ++ l[k] :: l.drop (k + 1) := by rw [← List.drop_eq_getElem_cons hk, List.take_append_drop]
  have : decFrom 0 l = none := by
    rw [e, decFrom_append, r.1]
    simp [decFrom, hd]
  unfold readN decNat
  rw [this]
  split <;> rfl
theorem Read.done {l : List UInt8} {k n : Nat} (r : Read l k n) (hk : l.length ≤ k) : readN l = if n ≤ 1000000000 ∧ itoa (n : Int) = l then some n else none := by
  have e : decFrom 0 l = some n := by have := r.1; rwa [List.take_of_length_le hk] at this
  by_cases hl : l = []
  · subst hl
    rw [if_neg (fun h => by have := h.2; rw [itoa_nat] at this; exact decDigits_ne n this)]
    rfl
  · unfold readN decNat
    rw [if_neg (by simpa using hl), e]
    by_cases h : n ≤ 1000000000 ∧ itoa (n : Int) = l
    · rw [if_pos h]; simp [Option.filter, h.1, h.2]
    · rw [if_neg h]
      rw [Option.filter_eq_none_iff]
      intro a ha
      obtain rfl := Option.some.inj ha
      simp
      intro h1 h2
      exact h ⟨h1, h2⟩
theorem Read.stepS {s : ByteArray} {k n : Nat} (r : Read s.data.toList k n) (hk : k < s.size) (h1 : 48 ≤ s[k].toNat) (h2 : s[k].toNat ≤ 57) : Read s.data.toList (k + 1) (n * 10 + (s[k].toNat - 48)) := r.step (by simpa using hk) h1 h2
theorem Read.badS {s : ByteArray} {k n : Nat} (r : Read s.data.toList k n) (hk : k < s.size) (h : s[k].toNat < 48 ∨ 57 < s[k].toNat) : readN s.data.toList = none := r.bad (by simpa using hk) h
end Go.Proofs.Ytofmccihehalcaa.Reads
