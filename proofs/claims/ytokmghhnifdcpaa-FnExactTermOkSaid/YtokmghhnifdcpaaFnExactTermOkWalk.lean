/- The law of TermOk, walked. Conditions: the argument reads. -/
import Derived.Test.YtokmghhnifdcpaaTermArg
import Derived.Test.YtokmghhnifdcpaaFnExactTermOkCore
import Derived.Test.YtokmghhnifdcpaaTermOkImpl
namespace Go.Proofs.Ytokmghhnifdcpaa.FnExactTermOkW
open Go.RowKit Own Trm
theorem walk {H : Type} {enc : TypeId × Value → H} {base b0 : Nat} {spare : Nat → Bool} {held : Bool} {r : Reach} {d : DataW H} {p : List MemPlace} (v : Value) (w : World) (ok : Value.okWide Try.prog w r b0 39 v) (k : DataW.Trod enc Try.prog w base spare held 39 v d p) :
    Calls Try.prog 4 #[v] w fun e w' => e = .returned (.bool true) ∧ Below w.heap.size w w' := by
  obtain ⟨t, hl⟩ := lies_of_Trod ok k
  by_cases hz : szT t ≤ 1048576
  · exact core t v w (okB t) hl hz (specTermOk_any t) (implTermOk_any t)
  · exact big_arg t v w hl (by omega)
end Go.Proofs.Ytokmghhnifdcpaa.FnExactTermOkW
