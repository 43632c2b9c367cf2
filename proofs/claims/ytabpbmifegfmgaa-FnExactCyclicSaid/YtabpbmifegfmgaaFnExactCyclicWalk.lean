/- The law of Cyclic, walked. Conditions: the arguments read. -/
import Derived.Test.YtabpbmifegfmgaaArcArg
import Derived.Test.YtabpbmifegfmgaaIntArgs
import Derived.Test.YtabpbmifegfmgaaCyclic
import Derived.Test.YtabpbmifegfmgaaFnExactCyclicCore
namespace Go.Proofs.Ytabpbmifegfmgaa.FnExactCyclicW
open Go.RowKit Own Trm
theorem say_of {p : Prop} {b : Bool} (hb : b = true ↔ p) {w : World} {e : Ending} {w' : World} (h : SayB p w e w') : e = .returned (.bool b) ∧ Below w.heap.size w w' := by
  obtain ⟨c, rfl, hc, h2⟩ := h
  have : c = b := by
    rw [Bool.eq_iff_iff, hc, hb]
  exact ⟨by rw [this], h2⟩
set_option maxRecDepth 100000 in
theorem walk {H : Type} {enc : TypeId × Value → H} {base b0 b1 : Nat} {spare : Nat → Bool} {held : Bool} {r : Reach} {d d2 : DataW H} {p p2 : List MemPlace} (n : Int) (v pv : Value) (w : World) (wn : (Lit.int .i64 n).wf = true) (ok : Value.okWide Try.prog w r b0 35 v) (k : DataW.Trod enc Try.prog w base spare held 35 v d p)
    (ok2 : Value.okWide Try.prog w r b1 34 pv) (k2 : DataW.Trod enc Try.prog w base spare held 34 pv d2 p2) :
    Calls Try.prog 8 #[.int .i64 n, v, pv] w fun e w' => e = .returned (.bool true) ∧ Below w.heap.size w w' := by
  obtain ⟨es, hl⟩ := arcs_of_Trod ok k
  obtain ⟨ps, hp⟩ := ints_of_Trod ok2 k2
  obtain ⟨b, hb⟩ : ∃ b : Bool, b = true ↔ CycP n es ps := by
    rcases Classical.em (CycP n es ps) with h | h
    · exact ⟨true, by simp [h]⟩
    · exact ⟨false, by simp [h]⟩
  by_cases hz : es.length ≤ 1048576 ∧ ps.length ≤ 1048576
  · exact core n es ps v pv w b hl hp hz.1 hz.2 (fun v pv w h h2 => (specCyclic_any n es ps v pv w h h2 (bounds_i64 wn)).mono fun _ _ => say_of hb) (fun v pv w h h2 => (implCyclic_any n es ps v pv w h h2).mono fun _ _ => say_of hb)
  · exact big n es ps v pv w hl hp (by omega)
end Go.Proofs.Ytabpbmifegfmgaa.FnExactCyclicW
