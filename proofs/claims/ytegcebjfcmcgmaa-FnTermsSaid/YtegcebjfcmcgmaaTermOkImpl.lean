/- The program's TermOk, walked. Conditions: the term lies in memory. -/
import Derived.Test.YtegcebjfcmcgmaaRightAny
namespace Go.Proofs.Ytegcebjfcmcgmaa.Trm
open Go.RowKit Own Lexs
theorem implTermOk_any (t : Tree) (v : Value) (w : World) (hl : Lies w t v) :
    Calls Try.prog 15 #[v] w fun e w' => e = .returned (.bool (okB t)) ∧ Below w.heap.size w w' := by
  have C := Lib.hid (implRight_any t v (w.alloc (.cells v.cells 26)) 6 (by omega) (hl.keep (keeps_alloc _ _)))
  obtain ⟨aa, cap, rfl⟩ := hl.shape
  have X0 := Lib.hid (Box4.new w (.int .i64 t.kind) (.int .i64 t.num) (.string t.name) (.slice aa t.kids.length cap) 26)
  obtain ⟨p0, p1, p2, p3⟩ := X0.out
  clear hl
  go_enter Try.func15, Try.ntmps15
  go_wp2_with fail
  refine C.out.mono ?_
  rintro e w1 ⟨x, rfl, _, hb⟩
  have B1 := Lib.hid (below_box1 hb)
  clear hb
  go_wp2
  go_ret
  exact ⟨rfl, B1.out⟩
end Go.Proofs.Ytegcebjfcmcgmaa.Trm
