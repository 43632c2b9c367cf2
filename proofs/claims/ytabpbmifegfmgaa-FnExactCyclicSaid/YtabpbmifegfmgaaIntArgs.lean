/- Lists of numbers that came in as arguments. Without conditions beyond the reading's own. -/
import Derived.Test.YtabpbmifegfmgaaLists
import Derived.Test.YtabpbmifegfmgaaRowArg
namespace Go.Proofs.Ytabpbmifegfmgaa.Trm
open Go.RowKit Own Go.ChangeShapes Go.WideShapes Go.Deep
set_option maxRecDepth 100000
section
variable {H : Type} {enc : TypeId × Value → H} {w : World} {base : Nat} {spare : Nat → Bool} {held : Bool}
theorem ints_of_Trod {r : Reach} {b0 : Nat} {v : Value} {d : DataW H} {p : List MemPlace} (hv : Value.okWide Try.prog w r b0 34 v) (h : DataW.Trod enc Try.prog w base spare held 34 v d p) : ∃ ss : List Int, IntsAt w ss v := by
  obtain ⟨a0, l0, c0, rfl⟩ := okWide_slice Try.underlying34 hv
  obtain ⟨fuel, hf⟩ := h
  obtain ⟨a, len, cap, e, hm, hc⟩ := cells_of_slice Try.underlying34 (by kernel_rfl) hf
  have e2 : Value.slice a0 l0 c0 = .slice a len cap := by
    have : [Value.slice a0 l0 c0] = [Value.slice a len cap] := e
    injection this
  rw [e2]
  obtain ⟨ss, hl, hp⟩ := pick_list (fun i s => InI s ∧ ∀ g o, a = some ⟨g, o, none⟩ → w.cell? ⟨g, o + i, none⟩ = some (.int .i64 s)) len (fun i hi => by
    obtain ⟨g, o, rfl, hcell⟩ := hc (by omega)
    obtain ⟨u, n, y, hu, hy⟩ := hcell i hi
    obtain ⟨s, es, _, hs⟩ := DataW.trod_int Try.underlying3 hy
    injection es with es _
    subst es
    exact ⟨s, bounds_i64 hs, fun g' o' e' => by cases e'; exact hu⟩)
  refine ⟨ss, a, cap, by rw [hl], by rw [hl]; exact hm, fun s hs => ?_, fun hpos => ?_⟩
  · obtain ⟨i, hi, rfl⟩ := List.mem_iff_getElem.1 hs
    exact (hp i hi).1
  · obtain ⟨g, o, e3, _⟩ := hc (by omega)
    exact ⟨g, o, e3, fun i hi => (hp i hi).2 g o e3⟩
end
end Go.Proofs.Ytabpbmifegfmgaa.Trm
