/- The law of TermText, walked. Conditions: the argument reads; the listed variables hold what the text lays in them. -/
import Derived.Test.YtokmghhnifdcpaaDoorTermArg
import Derived.Test.YtokmghhnifdcpaaDoorFnExactTermTextCore
import Derived.Test.YtokmghhnifdcpaaDoorRows
import Derived.LaidMore
import Derived.Stop.Joined
import Derived.Stop.LaidErr
import Derived.OpenShut
namespace Go.Proofs.YtokmghhnifdcpaaDoor.FnExactTermTextW
open Go.RowKit Own Trm Decimals
theorem gType : (Tryd.prog.globals[0]?).map (·.type) = some 72 := by kernel_rfl
theorem cellsArr : Tryd.prog.cellsOf 72 = 20 := by kernel_rfl
theorem cellsNum : Tryd.prog.cellsOf 65 = 1 := by kernel_rfl
theorem pows {W : World} (h : laidMetH Tryd.prog Rows.fnExactTermTextRow.laid W) : Pows W := by
  rw [MakeChecks.laidMetH_plain _ _ _ (by kernel_rfl)] at h
  exact Lib.tabIs_of_head (zs := Lib.pow10Tab) (rest := []) gPows gType Tryd.underlying72 Tryd.underlying65 cellsNum cellsArr (laidMet.tail (laidMet.tail h))
theorem walk {H : Type} {enc : TypeId × Value → H} {base b0 : Nat} {spare : Nat → Bool} {held : Bool} {r : Reach} {d : DataW H} {p : List MemPlace} (v : Value) (w : World) (ok : Value.okWide Tryd.prog w r b0 24 v) (k : DataW.Trod enc Tryd.prog w base spare held 24 v d p) (hL : laidMetH Tryd.prog Rows.fnExactTermTextRow.laid w) :
    Calls Tryd.prog 3 #[v] w fun e w' => e = .returned (.bool true) ∧ Below w.heap.size w w' := by
  obtain ⟨t, hl⟩ := lies_of_Trod ok k
  by_cases hz : szT t ≤ 1048576
  · exact core t v w (textT t) (pows hL) hl hz (fun v w h => specTermText_any t v w h hz) (fun v w h hp => implTermText_any t v w h hz hp)
  · exact big_arg t v w hl (by omega)
end Go.Proofs.YtokmghhnifdcpaaDoor.FnExactTermTextW
