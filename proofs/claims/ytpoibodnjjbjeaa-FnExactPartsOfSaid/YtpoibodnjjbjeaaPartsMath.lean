/- The plain arithmetic of PartsOf: the parts of a line, byte by byte. Without conditions: no Go text is spoken of here. -/
import Derived.Test.YtpoibodnjjbjeaaOwnStr
namespace Go.Proofs.Ytpoibodnjjbjeaa.Parts
open Go.RowKit Own
def byteAt (s : ByteArray) (i : Nat) : Int := ((s.data.toList.getD i 0).toNat : Int)
theorem byteAt_eq (s : ByteArray) (i : Nat) (h : i < s.size) : byteAt s i = (s[i].toNat : Int) := by
  unfold byteAt
  have hl : i < s.data.toList.length := by simpa using h
  rw [List.getD_eq_getElem?_getD, List.getElem?_eq_getElem hl]
  rfl
def addP (ps : List ByteArray) (p : ByteArray) : List ByteArray := if p.size = 0 then ps else ps ++ [p]
theorem addP_none {ps : List ByteArray} {p : ByteArray} (h : p.size = 0) : addP ps p = ps := by unfold addP; rw [if_pos h]
theorem addP_some {ps : List ByteArray} {p : ByteArray} (h : ¬ p.size = 0) : addP ps p = ps ++ [p] := by unfold addP; rw [if_neg h]
theorem addP_length (ps : List ByteArray) (p : ByteArray) : (addP ps p).length ≤ ps.length + 1 := by unfold addP; split <;> simp
/-- Where the part that is being read begins, and the parts before it, when place i has been reached. -/
def scan (s : ByteArray) : Nat → Nat × List ByteArray
  | 0 => (0, [])
  | i + 1 => if byteAt s i = 32 then (i + 1, addP (scan s i).2 (s.extract (scan s i).1 i)) else scan s i
theorem scan_blank {s : ByteArray} {i : Nat} (h : byteAt s i = 32) : scan s (i + 1) = (i + 1, addP (scan s i).2 (s.extract (scan s i).1 i)) := by rw [scan, if_pos h]
theorem scan_other {s : ByteArray} {i : Nat} (h : ¬ byteAt s i = 32) : scan s (i + 1) = scan s i := by rw [scan, if_neg h]
theorem scan_le (s : ByteArray) : ∀ i, (scan s i).1 ≤ i ∧ (scan s i).2.length ≤ i
  | 0 => by simp [scan]
  | i + 1 => by
    have := scan_le s i
    by_cases h : byteAt s i = 32
    · rw [scan_blank h]
      have := addP_length (scan s i).2 (s.extract (scan s i).1 i)
      exact ⟨Nat.le_refl _, by simp; omega⟩
    · rw [scan_other h]; omega
def parts (s : ByteArray) : List ByteArray := addP (scan s s.size).2 (s.extract (scan s s.size).1 s.size)
def Fine (s : ByteArray) : Prop := ∀ i, i < s.size → 32 ≤ byteAt s i ∧ byteAt s i ≤ 126
open Classical in
noncomputable def out (s : ByteArray) : List ByteArray × Bool := if s.size ≤ 600 ∧ Fine s ∧ (parts s).length ≤ 12 then (parts s, true) else ([], false)
theorem out_yes {s : ByteArray} (h : s.size ≤ 600) (f : Fine s) (l : (parts s).length ≤ 12) : out s = (parts s, true) := by unfold out; rw [if_pos ⟨h, f, l⟩]
theorem out_long {s : ByteArray} (h : 600 < s.size) : out s = ([], false) := by unfold out; rw [if_neg (fun x => by have := x.1; omega)]
theorem out_many {s : ByteArray} (l : 12 < (parts s).length) : out s = ([], false) := by unfold out; rw [if_neg (fun x => by have := x.2.2; omega)]
theorem out_bad {s : ByteArray} {i : Nat} (h : i < s.size) (b : byteAt s i < 32 ∨ 126 < byteAt s i) : out s = ([], false) := by
  unfold out
  rw [if_neg (fun x => by have := x.2.1 i h; omega)]
theorem out_length (s : ByteArray) : (out s).1.length ≤ 12 := by unfold out; split <;> simp_all
theorem extract_size (s : ByteArray) (b i : Nat) (h : i ≤ s.size) : (s.extract b i).size = i - b := by simp; omega
end Go.Proofs.Ytpoibodnjjbjeaa.Parts
