/- Rows that came in as arguments, cell by cell. Without conditions beyond the reading's own. -/
import Derived.Test.YtabpbmifegfmgaaChecked
import Derived.Deep.Slices
import Derived.Deep.Fields
import Derived.ChangeSame
import Derived.OpenShut
namespace Go.Proofs.Ytabpbmifegfmgaa.Trm
open Go.RowKit Go.ChangeShapes Go.WideShapes Go.Deep
theorem pick_list {α : Type} (P : Nat → α → Prop) : ∀ n, (∀ i, i < n → ∃ x, P i x) → ∃ l : List α, l.length = n ∧ ∀ (i : Nat) (hi : i < l.length), P i l[i]
  | 0, _ => ⟨[], rfl, fun i hi => absurd hi (by simp)⟩
  | n + 1, h => by
    obtain ⟨l, hl, hp⟩ := pick_list P n (fun i hi => h i (by omega))
    obtain ⟨x, hx⟩ := h n (by omega)
    refine ⟨l ++ [x], by simp [hl], fun i hi => ?_⟩
    by_cases hin : i < l.length
    · rw [List.getElem_append_left hin]; exact hp i hin
    · have hi2 : i = l.length := by simp at hi; omega
      subst hi2
      simp only [List.getElem_append_right (Nat.le_refl _), Nat.sub_self, List.getElem_cons_zero]
      rw [hl]; exact hx
theorem spot_none {w : World} {a : Addr} {u : Value} (h : w.cell? a = some u) : a.spot = none := by
  unfold World.cell? at h
  cases hs : a.spot with
  | none => rfl
  | some s =>
    rw [hs] at h
    split at h
    · simp at h
    · cases h
theorem add_of {a : Addr} (h : a.spot = none) (n : Nat) : a.add n = ⟨a.block, a.off + n, none⟩ := by
  unfold Addr.add
  by_cases hn : n = 0
  · rw [if_pos hn]; subst hn; cases a; simp at h; subst h; rfl
  · rw [if_neg hn]
set_option maxRecDepth 100000
section
variable {H : Type} {enc : TypeId × Value → H} {w : World} {base : Nat} {spare : Nat → Bool} {held : Bool}
theorem cells_of_slice {P : Program} {t e : TypeId} {fuel : Nat} {cs : List Value} {x : DataW H × List MemPlace} (ht : P.underlying t = some (.slice e)) (hc : P.cellsOf e = 1) (h : DataW.trod enc P w base spare held fuel t cs = some x) :
    ∃ (a : Option Addr) (len cap : Nat), cs = [.slice a len cap] ∧ len ≤ 9223372036854775807 ∧ (0 < len → ∃ g o, a = some ⟨g, o, none⟩ ∧ ∀ i, i < len → ∃ u n y, w.cell? ⟨g, o + i, none⟩ = some u ∧ DataW.trod enc P w base spare held n e [u] = some y) := by
  rcases DataW.trod_slice ht h with ⟨e3, _⟩ | ⟨a, len, cap, elems, rest, n', rfl, e3, _, _, hl, hm, hel, hat, _⟩
  · exact ⟨none, 0, 0, e3, by omega, fun h => by omega⟩
  · unfold maxLen at hm
    rw [hc] at hat
    have hone : ∀ i, i < len → ∃ u y, w.cell? (a.add i) = some u ∧ DataW.trod enc P w base spare held n' e [u] = some y := fun i hi => by
      have h1 := hat i hi
      rw [List.getElem?_eq_getElem (by omega), Nat.mul_one] at h1
      obtain ⟨cs', hcs, htr⟩ := Option.bind_eq_some_iff.1 h1
      obtain ⟨_, hcl, hcell⟩ := World.cells?_some hcs
      match cs', hcl with
      | [u], _ =>
        have g0 := hcell 0 (by omega)
        rw [add_add, Nat.add_zero] at g0
        exact ⟨u, _, g0, htr⟩
    have hsp : 0 < len → a.spot = none := fun hpos => by
      obtain ⟨u, y, hu, _⟩ := hone 0 hpos
      exact spot_none (a := a) hu
    refine ⟨some a, len, cap, e3, by omega, fun hpos => ?_⟩
    have hs := hsp hpos
    refine ⟨a.block, a.off, by cases a; simp at hs; subst hs; rfl, fun i hi => ?_⟩
    obtain ⟨u, y, hu, hy⟩ := hone i hi
    rw [add_of hs] at hu
    exact ⟨u, n', y, hu, hy⟩
end
end Go.Proofs.Ytabpbmifegfmgaa.Trm
