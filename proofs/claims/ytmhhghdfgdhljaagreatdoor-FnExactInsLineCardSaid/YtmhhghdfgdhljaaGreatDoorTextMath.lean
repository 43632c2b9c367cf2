/- The text of a term. Without conditions: no Go text is spoken of here. -/
import Derived.Test.YtmhhghdfgdhljaaGreatDoorRightAny
import Derived.Test.YtmhhghdfgdhljaaGreatDoorDecimalSpec
import Derived.Test.YtmhhghdfgdhljaaGreatDoorTermSize
import Derived.Lib.ItoaLen
namespace Go.Proofs.YtmhhghdfgdhljaaGreatDoor.Trm
open Go.RowKit Own Decimals
mutual
def txB : Tree → ByteArray
  | .node k n s ks =>
    if k = 1 then ⟨(Lib.itoa n).toArray⟩ else if k = 2 then s
    else if k = 8 then ⟨#[40, 110, 111, 116, 32]⟩ ++ (txK ks).getD 0 ⟨#[]⟩ ++ ⟨#[41]⟩
    else ⟨#[40]⟩ ++ (txK ks).getD 0 ⟨#[]⟩ ++ ⟨#[32]⟩ ++ pairSg k ++ ⟨#[32]⟩ ++ (txK ks).getD 1 ⟨#[]⟩ ++ ⟨#[41]⟩
def txK : List Tree → List ByteArray
  | [] => []
  | t :: ts => txB t :: txK ts
end
theorem txB_num (n : Int) (s : ByteArray) (ks : List Tree) : txB (.node 1 n s ks) = ⟨(Lib.itoa n).toArray⟩ := by rw [txB, if_pos rfl]
theorem txB_var (n : Int) (s : ByteArray) (ks : List Tree) : txB (.node 2 n s ks) = s := by rw [txB, if_neg (by decide), if_pos rfl]
theorem txB_not (n : Int) (s : ByteArray) (a : Tree) : txB (.node 8 n s [a]) = ⟨#[40, 110, 111, 116, 32]⟩ ++ txB a ++ ⟨#[41]⟩ := by rw [txB, if_neg (by decide), if_neg (by decide), if_pos rfl]; rfl
theorem txB_pair {k n : Int} {s : ByteArray} {a b : Tree} (h1 : k ≠ 1) (h2 : k ≠ 2) (h8 : k ≠ 8) : txB (.node k n s [a, b]) = ⟨#[40]⟩ ++ txB a ++ ⟨#[32]⟩ ++ pairSg k ++ ⟨#[32]⟩ ++ txB b ++ ⟨#[41]⟩ := by rw [txB, if_neg h1, if_neg h2, if_neg h8]; rfl
theorem rightS_memT : ∀ {ks : List Tree} {r : Nat}, rightS ks r = true → ∀ t, t ∈ ks → rightB t r = true
  | [], _, _, t, ht => by cases ht
  | a :: ks, r, h, t, ht => by
    rw [rightS, Bool.and_eq_true] at h
    rcases List.mem_cons.1 ht with e | e
    · rw [e]; exact h.1
    · exact rightS_memT h.2 t e
/-- What a right term is made of. -/
theorem right_cases {k n : Int} {s : ByteArray} {ks : List Tree} {r : Nat} (h : rightB (.node k n s ks) r = true) :
    (k = 1 ∧ 0 ≤ n ∧ n ≤ 1000000000) ∨ k = 2 ∨ (k = 8 ∧ ∃ a, ks = [a] ∧ rightB a (r - 1) = true) ∨ (k ≠ 1 ∧ k ≠ 2 ∧ k ≠ 8 ∧ 3 ≤ k ∧ k ≤ 9 ∧ ∃ a b, ks = [a, b] ∧ rightB a (r - 1) = true ∧ rightB b (r - 1) = true) := by
  by_cases h1 : k = 1
  · subst h1
    rw [rightB, if_pos rfl] at h
    simp only [Bool.and_eq_true, decide_eq_true_eq] at h
    exact .inl ⟨rfl, h.1.1.1, h.1.1.2⟩
  · by_cases h2 : k = 2
    · exact .inr (.inl h2)
    · rw [rightB, if_neg h1, if_neg h2] at h
      simp only [Bool.and_eq_true, decide_eq_true_eq] at h
      obtain ⟨⟨⟨⟨⟨⟨a, b⟩, c⟩, d⟩, e⟩, f⟩, g⟩ := h
      have hm := rightS_memT g
      by_cases h8 : k = 8
      · subst h8
        have e1 : ks.length = 1 := by have : manyK 8 = 1 := rfl; omega
        match ks, e1 with
        | [x], _ => exact .inr (.inr (.inl ⟨rfl, x, rfl, hm x (by simp)⟩))
      · rw [many_other h8] at e
        have e2 : ks.length = 2 := by omega
        match ks, e2 with
        | [x, y], _ => exact .inr (.inr (.inr ⟨h1, h2, h8, a, b, x, y, rfl, hm x (by simp), hm y (by simp)⟩))
theorem itoa_small {n : Int} (h0 : 0 ≤ n) (h1 : n ≤ 1000000000) : (Lib.itoa n).length ≤ 21 := Lib.itoa_length_le n (by omega) (by omega)
theorem pairSg_size (k : Int) : (pairSg k).size ≤ 3 := by
  unfold pairSg
  repeat' split
  all_goals decide
theorem txB_size : ∀ (t : Tree) (r : Nat), rightB t r = true → (txB t).size ≤ 21 + 20 * szT t :=
  treeInd fun k n s ks ih r h => by
    rcases right_cases h with ⟨rfl, h0, h1⟩ | rfl | ⟨rfl, a, rfl, ha⟩ | ⟨h1, h2, h8, _, _, a, b, rfl, ha, hb⟩
    · rw [txB_num]
      have := itoa_small h0 h1
      simp [ByteArray.size]; omega
    · rw [txB_var, szT]; omega
    · have i1 := ih a (by simp) _ ha
      rw [txB_not, szT, szS, szS]
      simp only [ByteArray.size_append, List.length_cons, List.length_nil]
      have e1 : ByteArray.size ⟨#[40, 110, 111, 116, 32]⟩ = 5 := rfl
      have e2 : ByteArray.size ⟨#[41]⟩ = 1 := rfl
      omega
    · have i1 := ih a (by simp) _ ha
      have i2 := ih b (by simp) _ hb
      have i3 := pairSg_size k
      rw [txB_pair h1 h2 h8, szT, szS, szS, szS]
      simp only [ByteArray.size_append, List.length_cons, List.length_nil]
      have e1 : ByteArray.size ⟨#[40]⟩ = 1 := rfl
      have e2 : ByteArray.size ⟨#[41]⟩ = 1 := rfl
      have e3 : ByteArray.size ⟨#[32]⟩ = 1 := rfl
      omega
end Go.Proofs.YtmhhghdfgdhljaaGreatDoor.Trm
