/- Lists of texts and of numbers that came in as arguments. Without conditions beyond the reading's own. -/
import Derived.Test.YtpbhoomhcdljoaaChecked
import Derived.Test.YtpbhoomhcdljoaaLists
import Derived.Test.YtpbhoomhcdljoaaTermArg
namespace Go.Proofs.Ytpbhoomhcdljoaa.Trm
open Go.RowKit Own Go.ChangeShapes Go.WideShapes Go.Deep
set_option maxRecDepth 100000
section
variable {H : Type} {enc : TypeId × Value → H} {w : World} {base : Nat} {spare : Nat → Bool} {held : Bool}
theorem cells_of_slice {P : Program} {t e : TypeId} {fuel : Nat} {cs : List Value} {x : DataW H × List MemPlace} (ht : P.underlying t = some (.slice e)) (hc : P.cellsOf e = 1) (h : DataW.trod enc P w base spare held fuel t cs = some x) :
    ∃ (a : Option Addr) (len cap : Nat), cs = [.slice a len cap] ∧ len ≤ 9223372036854775807 ∧ (0 < len → ∃ g o, a = some ⟨g, o, none⟩ ∧ ∀ i, i < len → ∃ u n y, w.cell? ⟨g, o + i, none⟩ = some u ∧ DataW.trod enc P w base spare held n e [u] = some y) := by
  rcases DataW.trod_slice ht h with ⟨e3, _⟩ | ⟨a, len, cap, elems, rest, n', rfl, e3, _, _, hl, hm, hel, hat, _⟩
  · exact ⟨none, 0, 0, e3, by omega, fun h => by omega⟩
  · unfold maxLen at hm
    rw [hc] at hat
    have hone : ∀ i, i < len → ∃ u y, w.cell? (a.add i) = some u ∧ DataW.trod enc P w base spare held n' e [u] = some y := fun i hi => by
      have h1 := hat i hi
      rw [List.getElem?_eq_getElem (by omega), Nat.mul_one] at h1
      obtain ⟨cs', hcs, htr⟩ := Option.bind_eq_some_iff.1 h1
      obtain ⟨_, hcl, hcell⟩ := World.cells?_some hcs
      match cs', hcl with
      | [u], _ =>
        have g0 := hcell 0 (by omega)
        rw [add_add, Nat.add_zero] at g0
        exact ⟨u, _, g0, htr⟩
    have hsp : 0 < len → a.spot = none := fun hpos => by
      obtain ⟨u, y, hu, _⟩ := hone 0 hpos
      exact spot_none (a := a) hu
    refine ⟨some a, len, cap, e3, by omega, fun hpos => ?_⟩
    have hs := hsp hpos
    refine ⟨a.block, a.off, by cases a; simp at hs; subst hs; rfl, fun i hi => ?_⟩
    obtain ⟨u, y, hu, hy⟩ := hone i hi
    rw [add_of hs] at hu
    exact ⟨u, n', y, hu, hy⟩
theorem strs_of_Trod {r : Reach} {b0 : Nat} {v : Value} {d : DataW H} {p : List MemPlace} (hv : Value.okWide Try.prog w r b0 22 v) (h : DataW.Trod enc Try.prog w base spare held 22 v d p) : ∃ ss : List ByteArray, StrsAt w ss v ∧ ∀ s, s ∈ ss → s.size ≤ 9223372036854775807 := by
  obtain ⟨a0, l0, c0, rfl⟩ := okWide_slice Try.underlying22 hv
  obtain ⟨fuel, hf⟩ := h
  obtain ⟨a, len, cap, e, hm, hc⟩ := cells_of_slice Try.underlying22 (by kernel_rfl) hf
  have e2 : Value.slice a0 l0 c0 = .slice a len cap := by
    have : [Value.slice a0 l0 c0] = [Value.slice a len cap] := e
    injection this
  rw [e2]
  obtain ⟨ss, hl, hp⟩ := pick_list (fun i s => s.size ≤ 9223372036854775807 ∧ ∀ g o, a = some ⟨g, o, none⟩ → w.cell? ⟨g, o + i, none⟩ = some (.string s)) len (fun i hi => by
    obtain ⟨g, o, rfl, hcell⟩ := hc (by omega)
    obtain ⟨u, n, y, hu, hy⟩ := hcell i hi
    obtain ⟨s, es, _, hs⟩ := DataW.trod_string Try.underlying9 hy
    injection es with es _
    subst es
    exact ⟨s, hs, fun g' o' e' => by cases e'; exact hu⟩)
  refine ⟨ss, ⟨a, cap, by rw [hl], by rw [hl]; exact hm, fun hpos => ?_⟩, fun s hs => ?_⟩
  · obtain ⟨g, o, e3, _⟩ := hc (by omega)
    exact ⟨g, o, e3, fun i hi => (hp i hi).2 g o e3⟩
  · obtain ⟨i, hi, rfl⟩ := List.mem_iff_getElem.1 hs
    exact (hp i hi).1
end
end Go.Proofs.Ytpbhoomhcdljoaa.Trm
