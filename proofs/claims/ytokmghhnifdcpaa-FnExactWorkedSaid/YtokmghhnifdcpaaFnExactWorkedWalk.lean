/- The law of Worked, walked. Conditions: the arguments read. -/
import Derived.Test.YtokmghhnifdcpaaTermArg
import Derived.Test.YtokmghhnifdcpaaListArg
import Derived.Test.YtokmghhnifdcpaaTermWork
import Derived.Test.YtokmghhnifdcpaaFnExactWorkedCore
import Derived.Test.YtokmghhnifdcpaaFnExactWorkedBig
import Derived.Test.YtokmghhnifdcpaaWorkedOut
namespace Go.Proofs.Ytokmghhnifdcpaa.FnExactWorkedW
open Go.RowKit Own Trm
theorem walk {H : Type} {enc : TypeId × Value → H} {base b0 : Nat} {spare : Nat → Bool} {held : Bool} {r : Reach} {d d2 d3 : DataW H} {p p2 p3 : List MemPlace} (v v2 v3 : Value) (w : World) (ok : Value.okWide Try.prog w r b0 39 v) (k : DataW.Trod enc Try.prog w base spare held 39 v d p) (ok2 : Value.okWide Try.prog w r b0 30 v2) (k2 : DataW.Trod enc Try.prog w base spare held 30 v2 d2 p2) (ok3 : Value.okWide Try.prog w r b0 28 v3) (k3 : DataW.Trod enc Try.prog w base spare held 28 v3 d3 p3) :
    Calls Try.prog 6 #[v, v2, v3] w fun e w' => e = .returned (.bool true) ∧ Below w.heap.size w w' := by
  obtain ⟨t, hl⟩ := lies_of_Trod ok k
  obtain ⟨ns, hn, hns⟩ := strs_of_Trod ok2 k2
  obtain ⟨vs, hv⟩ := ints_of_Trod ok3 k3
  by_cases hz : szT t + (ns.length + szB ns) ≤ 1048576 ∧ vs.length ≤ 1048576
  · exact core t ns vs v v2 v3 w (workedT ns vs t) hl hn hns hv hz.1 hz.2 (fun v x y w h1 h2 h3 => specWorked_any ns vs t v x y w h1 h2 h3) (fun v x y w h1 h2 h3 => implWorked_any ns vs t v x y w h1 h2 h3)
  · exact big t ns vs v v2 v3 w hl hn hns hv (by omega)
end Go.Proofs.Ytokmghhnifdcpaa.FnExactWorkedW
