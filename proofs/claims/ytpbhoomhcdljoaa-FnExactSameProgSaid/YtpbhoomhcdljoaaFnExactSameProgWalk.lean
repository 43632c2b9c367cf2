/- The law of SameProg, walked. Conditions: the arguments read. -/
import Derived.Test.YtpbhoomhcdljoaaPArg
import Derived.Test.YtpbhoomhcdljoaaFnExactSameProgCore
import Derived.Test.YtpbhoomhcdljoaaFnExactSameProgBig
import Derived.Test.YtpbhoomhcdljoaaPSameImpl
namespace Go.Proofs.Ytpbhoomhcdljoaa.FnExactSameProgW
open Go.RowKit Own Trm
set_option maxRecDepth 100000 in
theorem walk {H : Type} {enc : TypeId × Value → H} {base b0 : Nat} {spare : Nat → Bool} {held : Bool} {r : Reach} {d d2 : DataW H} {p p2 : List MemPlace} (v v2 : Value) (w : World) (ok : Value.okWide Try.prog w r b0 25 v) (k : DataW.Trod enc Try.prog w base spare held 25 v d p) (ok2 : Value.okWide Try.prog w r b0 25 v2) (k2 : DataW.Trod enc Try.prog w base spare held 25 v2 d2 p2) :
    Calls Try.prog 4 #[v, v2] w fun e w' => e = .returned (.bool true) ∧ Below w.heap.size w w' := by
  obtain ⟨t, hl⟩ := plies_of_Trod ok k
  obtain ⟨u, hu⟩ := plies_of_Trod ok2 k2
  by_cases hz : szP t + szP u ≤ 1048576
  · exact core t u v v2 w (sameP t u) hl hu hz (fun v x w h1 h2 => specSameProg_any t u v x w h1 h2) (fun v x w h1 h2 => implSameProg_any t u v x w (by omega) h1 h2)
  · exact big t u v v2 w hl hu (by omega)
end Go.Proofs.Ytpbhoomhcdljoaa.FnExactSameProgW
