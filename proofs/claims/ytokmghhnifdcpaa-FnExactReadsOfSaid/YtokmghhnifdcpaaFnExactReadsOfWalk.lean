/- The law of ReadsOf, walked. Conditions: the argument reads. -/
import Derived.Test.YtokmghhnifdcpaaTermArg
import Derived.Test.YtokmghhnifdcpaaTermReads
import Derived.Test.YtokmghhnifdcpaaFnExactReadsOfCore
import Derived.Test.YtokmghhnifdcpaaReadsOfImpl
namespace Go.Proofs.Ytokmghhnifdcpaa.FnExactReadsOfW
open Go.RowKit Own Trm
theorem walk {H : Type} {enc : TypeId × Value → H} {base b0 : Nat} {spare : Nat → Bool} {held : Bool} {r : Reach} {d : DataW H} {p : List MemPlace} (v : Value) (w : World) (ok : Value.okWide Try.prog w r b0 39 v) (k : DataW.Trod enc Try.prog w base spare held 39 v d p) :
    Calls Try.prog 7 #[v] w fun e w' => e = .returned (.bool true) ∧ Below w.heap.size w w' := by
  obtain ⟨t, hl⟩ := lies_of_Trod ok k
  by_cases hz : szT t ≤ 1048576
  · have hr := readsOfT_le t
    exact core t v w (readsOfT t) hl hz (fun v w h => specReadsOf_any t v w h hz) (fun v w h => implReadsOf_any t v w h hz) (fun v b w h => mark_one v b _ _ w h (by omega)) (fun v b w h => held_one v b _ w h (by omega))
  · exact big_arg t v w hl (by omega)
end Go.Proofs.Ytokmghhnifdcpaa.FnExactReadsOfW
