/- The law of NamesIn, walked. Conditions: the argument reads. -/
import Derived.Test.YtmhhghdfgdhljaaSArg
import Derived.Test.YtmhhghdfgdhljaaNamesInImpl
import Derived.Test.YtmhhghdfgdhljaaFnExactNamesInCore
namespace Go.Proofs.Ytmhhghdfgdhljaa.FnExactNamesInW
open Go.RowKit Own Trm
set_option maxRecDepth 100000 in
theorem walk {H : Type} {enc : TypeId × Value → H} {base b0 : Nat} {spare : Nat → Bool} {held : Bool} {r : Reach} {d : DataW H} {p : List MemPlace} (v : Value) (kd : Int) (w : World) (ok : Value.okWide Try.prog w r b0 40 v) (k : DataW.Trod enc Try.prog w base spare held 40 v d p) (_ : (Lit.int .i64 kd).wf = true) :
    Calls Try.prog 7 #[v, .int .i64 kd] w fun e w' => e = .returned (.bool true) ∧ Below w.heap.size w w' := by
  obtain ⟨xs, hl⟩ := slist_of_Trod ok k
  by_cases hz : xs.length + szXS xs ≤ 1048576
  · have hc := cntXS_le xs
    have hn := namesIn_le kd xs
    exact core xs kd v w (namesIn kd xs) hl hz (fun v w h => specNamesIn_any kd xs v w h) (fun v w l1 h1 h => implNamesIn_any kd xs v w (by omega) h.listF h.list)
      (fun v b w h => mark_one v b _ _ w h (by omega)) (fun v b w h => held_one v b _ w h (by omega))
  · exact big_arg xs kd v w hl (by omega)
end Go.Proofs.Ytmhhghdfgdhljaa.FnExactNamesInW
