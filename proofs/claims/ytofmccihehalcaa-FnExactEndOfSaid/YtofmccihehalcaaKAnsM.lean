/- What ProcOf and EndOf answer. Without conditions: no Go text is walked here. -/
import Derived.Test.YtofmccihehalcaaKIn
import Derived.Test.YtofmccihehalcaaKProc
namespace Go.Proofs.Ytofmccihehalcaa.Trm
open Go.RowKit Own
/-- What ProcOf answers. -/
def ProcAns (x : KTree) (a z : Int) : Prop := (okK x = true ∧ ProcI x.entry x.ins.length a z) ∨ (okK x = false ∧ z = -1)
theorem okK_ris {x : KTree} (h : okK x = true) : Ris x.entry x.ins.length := by
  unfold okK at h
  rw [Bool.and_eq_true] at h
  exact (kHeads_ent h.1).1.1
theorem procI_uni {es : List Int} {n : Nat} {a y z : Int} (hr : Ris es n) (h : ProcI es n a y) (h2 : ProcI es n a z) : y = z := by
  rcases h with ⟨g1, g2, p, rfl, hp⟩ | ⟨g1, rfl⟩
  · rcases h2 with ⟨_, _, q, rfl, hq⟩ | ⟨g3, _⟩
    · rw [hp.uni hr hq]
    · exact absurd ⟨g1, g2⟩ g3
  · rcases h2 with ⟨g3, g4, _⟩ | ⟨_, rfl⟩
    · exact absurd ⟨g3, g4⟩ g1
    · rfl
theorem isP_ex {es : List Int} {n : Nat} {a : Int} (hr : Ris es n) (h0 : 0 ≤ a) : ∃ p, IsP es a p := by
  obtain ⟨hp, e0, _, _⟩ := hr
  have key : ∀ m, m ≤ es.length → (∀ q (h : q < es.length), m ≤ q → a < es[q]) → ∃ p, IsP es a p := by
    intro m
    induction m with
    | zero =>
      intro _ h
      have := h 0 hp (Nat.le_refl _)
      omega
    | succ m ih =>
      intro hm h
      by_cases hle : es[m] ≤ a
      · exact ⟨m, by omega, hle, fun h2 => h (m + 1) h2 (Nat.le_refl _)⟩
      · refine ih (by omega) fun q hq hmq => ?_
        rcases Nat.lt_or_ge m q with h3 | h3
        · exact h q hq (by omega)
        · obtain rfl : q = m := by omega
          omega
  exact key es.length (Nat.le_refl _) (fun q h h2 => by omega)
theorem procAns_uni {x : KTree} {a y z : Int} (h : ProcAns x a y) (h2 : ProcAns x a z) : y = z := by
  rcases h with ⟨hk, h⟩ | ⟨hk, rfl⟩
  · rcases h2 with ⟨_, h2⟩ | ⟨hk2, _⟩
    · exact procI_uni (okK_ris hk) h h2
    · rw [hk] at hk2; cases hk2
  · rcases h2 with ⟨hk2, _⟩ | ⟨_, rfl⟩
    · rw [hk] at hk2; cases hk2
    · rfl
theorem procAns_ex (x : KTree) (a : Int) : ∃ z, ProcAns x a z := by
  cases hk : okK x with
  | false => exact ⟨-1, .inr ⟨hk, rfl⟩⟩
  | true =>
    by_cases h : 0 ≤ a ∧ a < (x.ins.length : Int)
    · obtain ⟨p, hp⟩ := isP_ex (okK_ris hk) h.1
      exact ⟨p, .inl ⟨hk, .inl ⟨h.1, h.2, p, rfl, hp⟩⟩⟩
    · exact ⟨-1, .inl ⟨hk, .inr ⟨h, rfl⟩⟩⟩
/-- What EndOf answers. -/
noncomputable def endZ (x : KTree) (p : Int) : Int := if okK x = true ∧ 0 ≤ p ∧ p < (x.procs.length : Int) then endI x.entry x.ins.length p.toNat else -1
theorem ret_z {a b : Int} (h : a = b) : Ending.returned (.int .i64 a) = .returned (.int .i64 b) := by rw [h]
end Go.Proofs.Ytofmccihehalcaa.Trm
