/- The program's PlaceOf, walked. Conditions: the row lies in memory. -/
import Derived.Test.YtofmccihehalcaaIdx
namespace Go.Proofs.Ytofmccihehalcaa.Trm
open Go.RowKit Own
theorem implPlace_any (ns : List ByteArray) (s : ByteArray) (nv : Value) (w : World) (hn : StrsAt w ns nv) :
    Calls Try.prog 29 #[nv, .string s] w fun e w' => ∃ x, e = .returned (.int .i64 x) ∧ IdxI ns s x ∧ w = w' := by
  have C := Lib.hid (implIndex_any ns s nv w hn)
  obtain ⟨na, nc, rfl, hn1, hn2⟩ := hn
  clear hn2
  go_enter Try.func29, Try.ntmps29
  go_wp2_with fail
  refine C.out.mono ?_
  rintro e w1 ⟨x, rfl, hx, rfl⟩
  have HX := Lib.hid hx
  clear hx
  go_wp2
  go_ret
  exact ⟨_, rfl, HX.out, rfl⟩
end Go.Proofs.Ytofmccihehalcaa.Trm
