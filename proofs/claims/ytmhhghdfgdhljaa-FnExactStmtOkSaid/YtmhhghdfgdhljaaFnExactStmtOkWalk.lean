/- The law of StmtOk, walked. Conditions: the argument reads. -/
import Derived.Test.YtmhhghdfgdhljaaSArg
import Derived.Test.YtmhhghdfgdhljaaStmtOkImpl
import Derived.Test.YtmhhghdfgdhljaaSStmtOk
import Derived.Test.YtmhhghdfgdhljaaFnExactStmtOkCore
namespace Go.Proofs.Ytmhhghdfgdhljaa.FnExactStmtOkW
open Go.RowKit Own Trm
set_option maxRecDepth 100000 in
theorem walk {H : Type} {enc : TypeId × Value → H} {base b0 : Nat} {spare : Nat → Bool} {held : Bool} {r : Reach} {d : DataW H} {p : List MemPlace} (v : Value) (w : World) (ok : Value.okWide Try.prog w r b0 42 v) (k : DataW.Trod enc Try.prog w base spare held 42 v d p) :
    Calls Try.prog 6 #[v] w fun e w' => e = .returned (.bool true) ∧ Below w.heap.size w w' := by
  obtain ⟨x, hl⟩ := slies_of_Trod ok k
  by_cases hz : szX x ≤ 1048576
  · exact core x v w (okXS [x]) hl hz (fun v w h => specStmtOk_any x v w h) (fun v w h1 h2 => implStmtOk_any x v w hz ⟨h1, h2⟩)
  · exact big_arg x v w hl (by omega)
end Go.Proofs.Ytmhhghdfgdhljaa.FnExactStmtOkW
