/- The law of ProcAt, walked. Conditions: the arguments read. -/
import Derived.Test.YtpbhoomhcdljoaaPArg
import Derived.Test.YtpbhoomhcdljoaaProcImpl
import Derived.Test.YtpbhoomhcdljoaaFnExactProcAtCore
namespace Go.Proofs.Ytpbhoomhcdljoaa.FnExactProcAtW
open Go.RowKit Own Trm
set_option maxRecDepth 100000 in
theorem walk {H : Type} {enc : TypeId × Value → H} {base b0 : Nat} {spare : Nat → Bool} {held : Bool} {r : Reach} {d : DataW H} {p : List MemPlace} (v : Value) (a : ByteArray) (w : World) (ok : Value.okWide Try.prog w r b0 25 v) (k : DataW.Trod enc Try.prog w base spare held 25 v d p) (wa : a.size ≤ maxLen) :
    Calls Try.prog 5 #[v, .string a] w fun e w' => e = .returned (.bool true) ∧ Below w.heap.size w w' := by
  unfold maxLen at wa
  obtain ⟨x, hl⟩ := plies_of_Trod ok k
  obtain ⟨n, hn⟩ := IdxG.ex x.procs.length (hitP x.procs a)
  by_cases hz : szP x ≤ 1048576 ∧ a.size ≤ 1048576
  · refine core x a v w n hl hz.1 hz.2 (fun v w h => ?_) (fun v w h => ?_)
    · refine (specProc_any x a v w h.lies).mono ?_
      rintro e w' ⟨m, rfl, hx, hw⟩
      exact ⟨ret_i (hx.uni hn), hw⟩
    · refine (implProc_any x a v w h.lies).mono ?_
      rintro e w' ⟨m, rfl, hx, hw⟩
      exact ⟨ret_i (hx.uni hn), hw⟩
  · exact big x a v w hl (by omega) (by omega)
end Go.Proofs.Ytpbhoomhcdljoaa.FnExactProcAtW
