/- The lines of a code's instructions, as values. Without conditions: no Go text is walked here. -/
import Derived.Test.YtmhhghdfgdhljaaGreatDoorKAnsM
import Derived.Test.YtmhhghdfgdhljaaGreatDoorTextImpl
namespace Go.Proofs.YtmhhghdfgdhljaaGreatDoor.Trm
open Go.RowKit Own
def decB (n : Int) : ByteArray := ⟨(Lib.itoa n).toArray⟩
def nmAt (ns : List ByteArray) (a : Int) : ByteArray := ns.getD a.toNat ⟨#[]⟩
theorem nmAt_eq {ns : List ByteArray} {m : Nat} (h : m < ns.length) : nmAt ns (m : Int) = ns[m] := by
  unfold nmAt
  rw [List.getD_eq_getElem?_getD, Int.toNat_natCast, List.getElem?_eq_getElem h]
  rfl
/-- What stands behind a line's place. -/
noncomputable def lineB (x : KTree) (y : InsT) : ByteArray :=
  if y.op = 1 then ⟨#[115, 101, 116, 32]⟩ ++ nmAt x.globals y.arg ++ ⟨#[32, 61, 32]⟩ ++ textT y.term else
  if y.op = 2 then ⟨#[116, 101, 115, 116, 32]⟩ ++ textT y.term ++ ⟨#[32, 101, 108, 115, 101, 32]⟩ ++ decB y.to else
  if y.op = 3 then ⟨#[106, 117, 109, 112, 32]⟩ ++ decB y.to else
  if y.op = 4 then ⟨#[99, 97, 108, 108, 32]⟩ ++ nmAt x.procs y.arg else if y.op = 5 then ⟨#[115, 112, 97, 119, 110, 32]⟩ ++ nmAt x.procs y.arg else
  if y.op = 6 then ⟨#[108, 111, 99, 107, 32]⟩ ++ nmAt x.locks y.arg else if y.op = 7 then ⟨#[117, 110, 108, 111, 99, 107, 32]⟩ ++ nmAt x.locks y.arg else
  if y.op = 8 then ⟨#[115, 107, 105, 112]⟩ else ⟨#[101, 110, 100]⟩
noncomputable def insLine (x : KTree) (i : Nat) (y : InsT) : ByteArray := decB (i : Int) ++ ⟨#[32]⟩ ++ lineB x y
noncomputable def lineAns (x : KTree) (a : Int) : ByteArray := if okK x = true ∧ 0 ≤ a ∧ a < (x.ins.length : Int) then insLine x a.toNat (x.ins.getD a.toNat ⟨0, 0, zT, 0⟩) else ⟨#[]⟩
theorem decB_size {n : Int} (h : -9223372036854775808 ≤ n ∧ n ≤ 9223372036854775807) : (decB n).size ≤ 21 := by
  have := Lib.itoa_length_le n h.1 h.2
  show (Lib.itoa n).toArray.size ≤ 21
  simpa using this
/-- What is right of an instruction of a code that is right. -/
structure RightK (x : KTree) (y : InsT) : Prop where
  op : 1 ≤ y.op ∧ y.op ≤ 9
  arg : 0 ≤ y.arg ∧ y.arg ≤ mostI x y.op
  term : y.op = 1 ∨ y.op = 2 → okB y.term = true
theorem rightK {x : KTree} (h : okK x = true) (i : Nat) (hi : i < x.ins.length) : RightK x x.ins[i] := by
  unfold okK at h
  rw [Bool.and_eq_true] at h
  have h2 := okIns_at h.2 i hi
  rw [Nat.zero_add] at h2
  unfold okIn at h2
  simp only [Bool.and_eq_true, decide_eq_true_eq] at h2
  obtain ⟨h3, h4, h5, _⟩ := h2
  refine ⟨h3, h4, fun h6 => ?_⟩
  unfold termB at h5
  rw [if_pos h6, Bool.and_eq_true] at h5
  exact h5.1
theorem okK_names {x : KTree} (h : okK x = true) : nmsB x.globals = true ∧ nmsB x.locks = true ∧ nmsB x.procs = true := by
  unfold okK kHeads okNs at h
  simp only [Bool.and_eq_true] at h
  exact ⟨h.1.1.2, h.1.2.1.2, h.1.2.2.1.2⟩
theorem nmsB_size {ns : List ByteArray} {m : Nat} (h : nmsB ns = true) (hm : m < ns.length) : ns[m].size ≤ 12 := by
  unfold nmsB at h
  have h2 := List.all_eq_true.1 h _ (List.getElem_mem hm)
  rcases Nat.lt_or_ge 12 ns[m].size with h3 | h3
  · unfold Lexs.isNm at h2
    rw [Lexs.isWd_no_long (by simpa using h3)] at h2
    cases h2
  · exact h3
end Go.Proofs.YtmhhghdfgdhljaaGreatDoor.Trm
