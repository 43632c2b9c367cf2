/- The law of PlaceOf, walked. Conditions: the arguments read. -/
import Derived.Test.YtpbhoomhcdljoaaListArg
import Derived.Test.YtpbhoomhcdljoaaPlaceImpl
import Derived.Test.YtpbhoomhcdljoaaFnExactPlaceOfCore
namespace Go.Proofs.Ytpbhoomhcdljoaa.FnExactPlaceOfW
open Go.RowKit Own Trm
set_option maxRecDepth 100000 in
theorem walk {H : Type} {enc : TypeId × Value → H} {base b0 : Nat} {spare : Nat → Bool} {held : Bool} {r : Reach} {d : DataW H} {p : List MemPlace} (v : Value) (a : ByteArray) (w : World) (ok : Value.okWide Try.prog w r b0 22 v) (k : DataW.Trod enc Try.prog w base spare held 22 v d p) (wa : a.size ≤ maxLen) :
    Calls Try.prog 6 #[v, .string a] w fun e w' => e = .returned (.bool true) ∧ Below w.heap.size w w' := by
  unfold maxLen at wa
  obtain ⟨ns, hl, hs⟩ := strs_of_Trod ok k
  obtain ⟨n, hn⟩ := IdxG.ex ns.length (hitN ns a)
  by_cases hz : ns.length + szB ns ≤ 1048576 ∧ a.size ≤ 1048576
  · refine core ns a v w n hl hs hz.1 hz.2 (fun v w h => ?_) (fun v w h => ?_)
    · refine (specPlace_any ns a v w h).mono ?_
      rintro e w' ⟨x, rfl, hx, hw⟩
      exact ⟨ret_i ((idxG_of hx).uni hn), hw⟩
    · refine (implPlace_any ns a v w h).mono ?_
      rintro e w' ⟨x, rfl, hx, hw⟩
      exact ⟨ret_i ((idxG_of hx).uni hn), hw⟩
  · exact big ns a v w hl hs (by omega) (by omega)
end Go.Proofs.Ytpbhoomhcdljoaa.FnExactPlaceOfW
