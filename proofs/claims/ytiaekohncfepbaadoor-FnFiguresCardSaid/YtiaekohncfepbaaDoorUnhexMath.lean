/- The plain arithmetic of Unhex: pairs of figures read as bytes. Without conditions: no Go text is spoken of here. -/
import Derived.Test.YtiaekohncfepbaaDoorOwnStr
import Derived.Lib.Bytealg
namespace Go.Proofs.YtiaekohncfepbaaDoor.Unhexes
open Go.RowKit Own
def valI (b : UInt8) : Int := if 48 ≤ (b.toNat : Int) ∧ (b.toNat : Int) ≤ 57 then (b.toNat : Int) - 48 else if 97 ≤ (b.toNat : Int) ∧ (b.toNat : Int) ≤ 102 then (b.toNat : Int) - 87 else -1
theorem valI_bd (b : UInt8) : -1 ≤ valI b ∧ valI b < 16 := by unfold valI; repeat' split <;> omega
def mkB (h l : Int) : UInt8 := UInt8.ofNat (16 * h + l).toNat
def unhexL : List UInt8 → Option (List UInt8)
  | [] => some []
  | [_] => none
  | a :: b :: r => if valI a < 0 then none else if valI b < 0 then none else (unhexL r).map (mkB (valI a) (valI b) :: ·)
/-- What the call hands back. -/
def outU : Option (List UInt8) → Ending
  | some l => .returned (.tuple #[.string ⟨l.toArray⟩, .bool true])
  | none => .returned (.tuple #[.string ⟨#[]⟩, .bool false])
def figures : ByteArray := ⟨#[48, 49, 50, 51, 52, 53, 54, 55, 56, 57, 97, 98, 99, 100, 101, 102]⟩
theorem index_figures (b : UInt8) : Lib.indexByte figures.data.toList ((b.toNat : Int).toNat.toUInt8) = valI b := by
  have h : ∀ n : Fin 256, Lib.indexByte figures.data.toList (((UInt8.ofNat n.val).toNat : Int).toNat.toUInt8) = valI (UInt8.ofNat n.val) := by decide +kernel
  have e : b = UInt8.ofNat b.toNat := by simp
  have := h ⟨b.toNat, b.toNat_lt⟩
  rw [← e] at this
  exact this
theorem byteV_mk (h l : Int) (h0 : 0 ≤ h) (h1 : h < 16) (l0 : 0 ≤ l) (l1 : l < 16) : byteV (mkB h l) = .int .u8 (16 * h + l) := by
  unfold byteV mkB
  congr 1
  simp
  omega
theorem or_figures (h l : Int) (h0 : 0 ≤ h) (h1 : h < 16) (l0 : 0 ≤ l) (l1 : l < 16) : bits BinOp.or IntKind.i64 (h * 16) l = 16 * h + l := by
  obtain ⟨n, rfl⟩ := Int.eq_ofNat_of_zero_le h0
  obtain ⟨m, rfl⟩ := Int.eq_ofNat_of_zero_le l0
  have H : ∀ n m : Fin 16, bits BinOp.or IntKind.i64 ((n.val : Int) * 16) (m.val : Int) = 16 * (n.val : Int) + m.val := by decide +kernel
  exact H ⟨n, by omega⟩ ⟨m, by omega⟩
/-- What has been read when place j has been reached. -/
def Read (L : List UInt8) (j : Nat) (acc : List UInt8) : Prop := 2 * acc.length = j ∧ unhexL L = (unhexL (L.drop j)).map (acc ++ ·)
theorem Read.start (L : List UInt8) : Read L 0 [] := ⟨rfl, by simp⟩
theorem drop_two (L : List UInt8) (k : Nat) (h : k + 1 < L.length) : L.drop k = L[k] :: L[k + 1] :: L.drop (k + 2) := by
  rw [List.drop_eq_getElem_cons (by omega), List.drop_eq_getElem_cons h]
theorem Read.step {L : List UInt8} {j : Nat} {acc : List UInt8} (r : Read L j acc) (h : j + 1 < L.length) (ha : 0 ≤ valI L[j]) (hb : 0 ≤ valI L[j + 1]) : Read L (j + 2) (acc ++ [mkB (valI L[j]) (valI L[j + 1])]) := by
  refine ⟨by have := r.1; simp; omega, ?_⟩
  rw [r.2, drop_two L j h, unhexL, if_neg (by omega), if_neg (by omega), Option.map_map]
  congr 1
  funext x
  simp
theorem Read.bad {L : List UInt8} {j : Nat} {acc : List UInt8} (r : Read L j acc) (h : j + 1 < L.length) (hn : valI L[j] < 0 ∨ valI L[j + 1] < 0) : unhexL L = none := by
  rw [r.2, drop_two L j h, unhexL]
  rcases hn with h | h
  · rw [if_pos h]; rfl
  · by_cases h' : valI L[j] < 0
    · rw [if_pos h']; rfl
    · rw [if_neg h', if_pos h]; rfl
theorem Read.done {L : List UInt8} {j : Nat} {acc : List UInt8} (r : Read L j acc) (h : L.length ≤ j) : unhexL L = some acc := by
  rw [r.2, List.drop_of_length_le h, unhexL]; simp
/-- The same of a text. -/
theorem Read.stepS {s : ByteArray} {j : Nat} {acc : List UInt8} (r : Read s.data.toList j acc) (h : j + 1 < s.size) (ha : 0 ≤ valI s[j]) (hb : 0 ≤ valI s[j + 1]) : Read s.data.toList (j + 2) (acc ++ [mkB (valI s[j]) (valI s[j + 1])]) :=
  r.step (by simpa using h) ha hb
theorem Read.badS {s : ByteArray} {j : Nat} {acc : List UInt8} (r : Read s.data.toList j acc) (h : j + 1 < s.size) (hn : valI s[j] < 0 ∨ valI s[j + 1] < 0) : unhexL s.data.toList = none :=
  r.bad (by simpa using h) hn
end Go.Proofs.YtiaekohncfepbaaDoor.Unhexes
