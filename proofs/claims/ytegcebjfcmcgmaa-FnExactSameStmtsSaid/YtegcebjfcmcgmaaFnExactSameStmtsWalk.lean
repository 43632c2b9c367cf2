/- The law of SameStmts, walked. Conditions: the arguments read. -/
import Derived.Test.YtegcebjfcmcgmaaSArg
import Derived.Test.YtegcebjfcmcgmaaSSame
import Derived.Test.YtegcebjfcmcgmaaFnExactSameStmtsCore
import Derived.Test.YtegcebjfcmcgmaaSameStmtsImpl
namespace Go.Proofs.Ytegcebjfcmcgmaa.FnExactSameStmtsW
open Go.RowKit Own Trm
set_option maxRecDepth 100000 in
theorem walk {H : Type} {enc : TypeId × Value → H} {base b0 : Nat} {spare : Nat → Bool} {held : Bool} {r : Reach} {d d2 : DataW H} {p p2 : List MemPlace} (v v2 : Value) (w : World) (ok : Value.okWide Try.prog w r b0 43 v) (k : DataW.Trod enc Try.prog w base spare held 43 v d p) (ok2 : Value.okWide Try.prog w r b0 43 v2) (k2 : DataW.Trod enc Try.prog w base spare held 43 v2 d2 p2) :
    Calls Try.prog 6 #[v, v2] w fun e w' => e = .returned (.bool true) ∧ Below w.heap.size w w' := by
  obtain ⟨xs, hl⟩ := slist_of_Trod ok k
  obtain ⟨ys, hm⟩ := slist_of_Trod ok2 k2
  by_cases hz : (xs.length + szXS xs) + (ys.length + szXS ys) ≤ 1048576
  · exact core xs ys v v2 w (sameXL xs ys) hl hm hz (fun v u w h1 h2 => specSames_any xs ys v u w h1 h2) (fun v u w l1 h1 l2 h2 o1 o2 => implSameStmts_any xs ys v u w (by omega) o1.listF o2.listF)
  · exact big xs ys v v2 w hl hm (by omega)
end Go.Proofs.Ytegcebjfcmcgmaa.FnExactSameStmtsW
