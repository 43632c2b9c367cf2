/- A list of lists of numbers that came in as an argument. Without conditions beyond the reading's own. -/
import Derived.Test.YtabpbmifegfmgaaListsAt
import Derived.Test.YtabpbmifegfmgaaRowArg
namespace Go.Proofs.Ytabpbmifegfmgaa.Trm
open Go.RowKit Own Go.ChangeShapes Go.WideShapes Go.Deep
set_option maxRecDepth 100000
section
variable {H : Type} {enc : TypeId × Value → H} {w : World} {base : Nat} {spare : Nat → Bool} {held : Bool}
theorem intsL_of_trod {n : Nat} {cs : List Value} {x : DataW H × List MemPlace} (h : DataW.trod enc Try.prog w base spare held n 34 cs = some x) : ∃ (ss : List Int) (a : Option Addr) (cap : Nat), cs = [.slice a ss.length cap] ∧ IntsAt w ss (.slice a ss.length cap) := by
  obtain ⟨a, len, cap, e, hm, hc⟩ := cells_of_slice Try.underlying34 (by kernel_rfl) h
  obtain ⟨ss, hl, hp⟩ := pick_list (fun i s => InI s ∧ ∀ g o, a = some ⟨g, o, none⟩ → w.cell? ⟨g, o + i, none⟩ = some (.int .i64 s)) len (fun i hi => by
    obtain ⟨g, o, rfl, hcell⟩ := hc (by omega)
    obtain ⟨u, n, y, hu, hy⟩ := hcell i hi
    obtain ⟨s, es, _, hs⟩ := DataW.trod_int Try.underlying3 hy
    injection es with es _
    subst es
    exact ⟨s, bounds_i64 hs, fun g' o' e' => by cases e'; exact hu⟩)
  refine ⟨ss, a, cap, by rw [hl]; exact e, a, cap, rfl, by rw [hl]; exact hm, fun s hs => ?_, fun hpos => ?_⟩
  · obtain ⟨i, hi, rfl⟩ := List.mem_iff_getElem.1 hs
    exact (hp i hi).1
  · obtain ⟨g, o, e3, _⟩ := hc (by omega)
    exact ⟨g, o, e3, fun i hi => (hp i hi).2 g o e3⟩
theorem lists_of_Trod {r : Reach} {b0 : Nat} {v : Value} {d : DataW H} {p : List MemPlace} (hv : Value.okWide Try.prog w r b0 27 v) (h : DataW.Trod enc Try.prog w base spare held 27 v d p) : ∃ ls : List (List Int), ListsAt w ls v ∧ LInt ls := by
  obtain ⟨a0, l0, c0, rfl⟩ := okWide_slice Try.underlying27 hv
  obtain ⟨fuel, hf⟩ := h
  obtain ⟨a, len, cap, e, hm, hc⟩ := cells_of_slice Try.underlying27 (by kernel_rfl) hf
  have e2 : Value.slice a0 l0 c0 = .slice a len cap := by
    have : [Value.slice a0 l0 c0] = [Value.slice a len cap] := e
    injection this
  rw [e2]
  obtain ⟨ls, hl, hp⟩ := pick_list (fun i (l : List Int) => (∀ x, x ∈ l → InI x) ∧ ∀ g o, a = some ⟨g, o, none⟩ → ∃ ra rc, w.cell? ⟨g, o + i, none⟩ = some (.slice ra l.length rc) ∧ IntsAt w l (.slice ra l.length rc)) len (fun i hi => by
    obtain ⟨g, o, rfl, hcell⟩ := hc (by omega)
    obtain ⟨u, n, y, hu, hy⟩ := hcell i hi
    obtain ⟨l, ra, rc, es, hi2⟩ := intsL_of_trod hy
    injection es with es _
    subst es
    refine ⟨l, ?_, fun g' o' e' => by cases e'; exact ⟨ra, rc, hu, hi2⟩⟩
    obtain ⟨_, _, _, _, h3, _⟩ := hi2
    exact h3)
  refine ⟨ls, ⟨a, cap, by rw [hl], by rw [hl]; exact hm, fun hpos => ?_⟩, fun l hl2 => ?_⟩
  · obtain ⟨g, o, e3, _⟩ := hc (by omega)
    exact ⟨g, o, e3, fun i hi => (hp i hi).2 g o e3⟩
  · obtain ⟨i, hi, rfl⟩ := List.mem_iff_getElem.1 hl2
    exact (hp i hi).1
end
end Go.Proofs.Ytabpbmifegfmgaa.Trm
