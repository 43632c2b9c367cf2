/- The law of CountIn, walked. Conditions: the argument reads. -/
import Derived.Test.YtegcebjfcmcgmaaSArg
import Derived.Test.YtegcebjfcmcgmaaSCount
import Derived.Test.YtegcebjfcmcgmaaFnExactCountInCore
import Derived.Test.YtegcebjfcmcgmaaCountInImpl
namespace Go.Proofs.Ytegcebjfcmcgmaa.FnExactCountInW
open Go.RowKit Own Trm
set_option maxRecDepth 100000 in
theorem walk {H : Type} {enc : TypeId × Value → H} {base b0 : Nat} {spare : Nat → Bool} {held : Bool} {r : Reach} {d : DataW H} {p : List MemPlace} (v : Value) (w : World) (ok : Value.okWide Try.prog w r b0 43 v) (k : DataW.Trod enc Try.prog w base spare held 43 v d p) :
    Calls Try.prog 7 #[v] w fun e w' => e = .returned (.bool true) ∧ Below w.heap.size w w' := by
  obtain ⟨xs, hl⟩ := slist_of_Trod ok k
  by_cases hz : xs.length + szXS xs ≤ 1048576
  · have hc := cntXS_le xs
    exact core xs v w (cntXS xs) hl hz (fun v w h => specCount_any xs v w (by omega) h) (fun v w l1 h1 h => Cn.implCount_any xs v w (by omega) h.listF)
  · exact big_arg xs v w hl (by omega)
end Go.Proofs.Ytegcebjfcmcgmaa.FnExactCountInW
