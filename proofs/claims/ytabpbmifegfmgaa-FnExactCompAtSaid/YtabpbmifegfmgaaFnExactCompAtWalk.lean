/- The law of CompAt, walked. Conditions: the arguments read. -/
import Derived.Test.YtabpbmifegfmgaaListsArg
import Derived.Test.YtabpbmifegfmgaaFnExactCompAtCore
namespace Go.Proofs.Ytabpbmifegfmgaa.FnExactCompAtW
open Go.RowKit Own Trm
set_option maxRecDepth 100000 in
theorem walk {H : Type} {enc : TypeId × Value → H} {base b0 : Nat} {spare : Nat → Bool} {held : Bool} {r : Reach} {d : DataW H} {p : List MemPlace} (v : Value) (x : Int) (w : World) (ok : Value.okWide Try.prog w r b0 27 v) (k : DataW.Trod enc Try.prog w base spare held 27 v d p) (_ : (Lit.int .i64 x).wf = true) :
    Calls Try.prog 7 #[v, .int .i64 x] w fun e w' => e = .returned (.bool true) ∧ Below w.heap.size w w' := by
  obtain ⟨ls, hl, hin⟩ := lists_of_Trod ok k
  obtain ⟨n, hn⟩ := IdxG.ex ls.length (hitL ls x)
  by_cases hz : ls.length + totL ls ≤ 1048576
  · refine core ls x v w n hl hin hz (fun v w h => (specCompAt_any ls x v w h).mono fun e w' h2 => ?_) (fun v w h => (implCompAt_any ls x v w h).mono fun e w' h2 => ?_)
    all_goals
      obtain ⟨z, rfl, hz2, hb⟩ := h2
      exact ⟨ret_iP (hz2.uni hn), hb⟩
  · exact big ls x v w hl (by omega)
end Go.Proofs.Ytabpbmifegfmgaa.FnExactCompAtW
