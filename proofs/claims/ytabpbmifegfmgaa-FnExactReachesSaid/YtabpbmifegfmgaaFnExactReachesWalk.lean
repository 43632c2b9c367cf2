/- The law of Reaches, walked. Conditions: the arguments read. -/
import Derived.Test.YtabpbmifegfmgaaArcArg
import Derived.Test.YtabpbmifegfmgaaReaches
import Derived.Test.YtabpbmifegfmgaaFnExactReachesCore
namespace Go.Proofs.Ytabpbmifegfmgaa.FnExactReachesW
open Go.RowKit Own Trm
theorem say_of {p : Prop} {b : Bool} (hb : b = true ↔ p) {w : World} {e : Ending} {w' : World} (h : SayB p w e w') : e = .returned (.bool b) ∧ Below w.heap.size w w' := by
  obtain ⟨c, rfl, hc, h2⟩ := h
  have : c = b := by
    rw [Bool.eq_iff_iff, hc, hb]
  exact ⟨by rw [this], h2⟩
set_option maxRecDepth 100000 in
theorem walk {H : Type} {enc : TypeId × Value → H} {base b0 : Nat} {spare : Nat → Bool} {held : Bool} {r : Reach} {d : DataW H} {p : List MemPlace} (n : Int) (v : Value) (a b1 : Int) (w : World) (wn : (Lit.int .i64 n).wf = true) (ok : Value.okWide Try.prog w r b0 35 v) (k : DataW.Trod enc Try.prog w base spare held 35 v d p) (_ : (Lit.int .i64 a).wf = true) (_ : (Lit.int .i64 b1).wf = true) :
    Calls Try.prog 5 #[.int .i64 n, v, .int .i64 a, .int .i64 b1] w fun e w' => e = .returned (.bool true) ∧ Below w.heap.size w w' := by
  obtain ⟨es, hl⟩ := arcs_of_Trod ok k
  obtain ⟨b, hb⟩ : ∃ b : Bool, b = true ↔ RchP n es a b1 := by
    rcases Classical.em (RchP n es a b1) with h | h
    · exact ⟨true, by simp [h]⟩
    · exact ⟨false, by simp [h]⟩
  by_cases hz : es.length ≤ 1048576
  · exact core n a b1 es v w b hl hz (fun v w h => (specReaches_any n a b1 es v w h (bounds_i64 wn)).mono fun _ _ => say_of hb) (fun v w h => (implReaches_any n a b1 es v w h).mono fun _ _ => say_of hb)
  · exact big n a b1 es v w hl (by omega)
end Go.Proofs.Ytabpbmifegfmgaa.FnExactReachesW
