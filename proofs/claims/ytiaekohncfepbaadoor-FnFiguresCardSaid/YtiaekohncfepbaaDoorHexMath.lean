/- The plain arithmetic of Hex: figures of a byte, figures of a text. Without conditions: no Go text is spoken of here. -/
import Derived.Test.YtiaekohncfepbaaDoorOwnStr
namespace Go.Proofs.YtiaekohncfepbaaDoor.Hexes
open Go.RowKit Own
/-- The figure of a half byte, as a number. -/
def figI (x : Int) : Int := if x < 10 then 48 + x else 87 + x
def figB (x : Nat) : UInt8 := if x < 10 then UInt8.ofNat (48 + x) else UInt8.ofNat (87 + x)
def hexL (l : List UInt8) : List UInt8 := l.flatMap fun b => [figB (b.toNat / 16), figB (b.toNat % 16)]
theorem figB_toNat (x : Nat) (h : x < 16) : ((figB x).toNat : Int) = figI (x : Int) := by
  unfold figB figI
  by_cases h1 : x < 10
  · rw [if_pos h1, if_pos (by omega)]; simp; omega
  · rw [if_neg h1, if_neg (by omega)]; simp; omega
theorem figI_bd (x : Int) (h0 : 0 ≤ x) (h : x < 16) : 48 ≤ figI x ∧ figI x ≤ 102 := by unfold figI; split <;> omega
theorem hexL_nil : hexL [] = [] := rfl
theorem hexL_snoc (l : List UInt8) (b : UInt8) : hexL (l ++ [b]) = hexL l ++ [figB (b.toNat / 16), figB (b.toNat % 16)] := by simp [hexL]
theorem hexL_length (l : List UInt8) : (hexL l).length = 2 * l.length := by
  induction l with
  | nil => rfl
  | cons b l ih => simp only [hexL, List.flatMap_cons, List.length_append, List.length_cons, List.length_nil] at ih ⊢; omega
theorem hexL_step (s : ByteArray) (k : Nat) (h : k < s.size) : (hexL (s.data.toList.take (k + 1))).map byteV = (hexL (s.data.toList.take k)).map byteV ++ [.int .u8 (figI ((s[k].toNat : Int) / 16)), .int .u8 (figI ((s[k].toNat : Int) % 16))] := by
  have hb : s[k].toNat < 256 := s[k].toNat_lt
  rw [take_snoc s k h, hexL_snoc, List.map_append]
  simp only [List.map_cons, List.map_nil, byteV]
  rw [figB_toNat _ (by omega), figB_toNat _ (by omega)]
  simp
theorem hexL_take_length (s : ByteArray) (k : Nat) (h : k ≤ s.size) : (hexL (s.data.toList.take k)).length = 2 * k := by
  have hs : s.data.toList.length = s.size := by simp
  rw [hexL_length, List.length_take]; omega
end Go.Proofs.YtiaekohncfepbaaDoor.Hexes
