/- The law of Decimal, walked out of the contracts. Conditions: the number fits an int; the listed variables hold what the text lays in them. -/
import Derived.Test.YtpoibodnjjbjeaaDoorDecimalSpec
import Derived.Test.YtpoibodnjjbjeaaDoorDecimalImpl
import Derived.Test.YtpoibodnjjbjeaaDoorRows
import Derived.LaidMore
import Derived.Stop.Joined
import Derived.Stop.LaidErr
import Derived.OpenShut
namespace Go.Proofs.YtpoibodnjjbjeaaDoor.FnExactDecimalW
open Go.RowKit Decimals
theorem below_none {w w' : World} (h : w.grownBy w' none) : Below w.heap.size w w' := ⟨h.os, h.tape, h.output, h.size, fun k hk => h.block k hk (by simp)⟩
theorem gType : (Tryd.prog.globals[2]?).map (·.type) = some 56 := by kernel_rfl
theorem cellsArr : Tryd.prog.cellsOf 56 = 20 := by kernel_rfl
theorem cellsNum : Tryd.prog.cellsOf 42 = 1 := by kernel_rfl
theorem pows {W : World} (h : laidMetH Tryd.prog Rows.fnExactDecimalRow.laid W) : Pows W := by
  rw [MakeChecks.laidMetH_plain _ _ _ (by kernel_rfl)] at h
  exact Lib.tabIs_of_head (zs := Lib.pow10Tab) (rest := []) gPows gType Tryd.underlying56 Tryd.underlying42 cellsNum cellsArr (laidMet.tail (laidMet.tail h))
theorem walk (a : Int) (w : World) (wa : (Lit.int .i64 a).wf = true) (hL : laidMetH Tryd.prog Rows.fnExactDecimalRow.laid w) :
    Calls Tryd.prog 3 #[.int .i64 a] w fun e w' => e = .returned (.bool true) ∧ Below w.heap.size w w' := by
  have hb := bounds_i64 wa
  have HP := Lib.hid (pows hL)
  clear hL
  go_enter Tryd.func3, Tryd.ntmps3
  go_wp2_with fail
  refine (specDecimal_any a w hb.1 hb.2).mono ?_
  rintro e w1 ⟨rfl, hg⟩
  have B1 := Lib.hid (below_none hg)
  have P1 := Lib.hid (HP.out.below B1.out)
  clear hg
  go_wp2_with fail
  refine (implDecimal_any a w1 hb.1 hb.2 P1.out).mono ?_
  rintro e w2 ⟨rfl, hb2⟩
  have B2 := Lib.hid (B1.out.trans (hb2.mono B1.out.size))
  clear hb2
  go_wp2
  go_ret
  exact ⟨rfl, B2.out⟩
end Go.Proofs.YtpoibodnjjbjeaaDoor.FnExactDecimalW
