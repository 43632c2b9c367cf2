/- The law FnFigures, walked. Conditions: the argument reads; the listed variables hold what the text lays in them. -/
import Derived.Test.YtiaekohncfepbaaDoorFnFiguresCore
import Derived.Test.YtiaekohncfepbaaDoorRows
import Derived.LaidMore
import Derived.Stop.Joined
import Derived.Stop.LaidErr
namespace Go.Proofs.YtiaekohncfepbaaDoor.FnFiguresW
open Go.RowKit Decimals Reads Trm Cur Go.ChangeShapes Go.WideShapes
theorem gType : (Tryd.prog.globals[3]?).map (·.type) = some 66 := by kernel_rfl
theorem cellsArr : Tryd.prog.cellsOf 66 = 20 := by kernel_rfl
theorem cellsNum : Tryd.prog.cellsOf 53 = 1 := by kernel_rfl
theorem gSynT : (Tryd.prog.globals[1]?).map (·.type) = some 39 := by kernel_rfl
theorem gRanT : (Tryd.prog.globals[2]?).map (·.type) = some 39 := by kernel_rfl
theorem star : "*" ++ "errors.errorString" = "*errors.errorString" := by decide
theorem rowE (u : TypeId) (h : Tryd.prog.typeName? 3 u = some "*errors.errorString") : u = 74 :=
  typeName_ptr_named (nm := "errors.errorString") (by rw [star]; kernel_rfl) (by kernel_rfl) (by decide) u (by rw [star]; exact h)
theorem cellsE : Tryd.prog.cellsOf 76 = 1 := by kernel_rfl
theorem cellsS : Tryd.prog.cellsOf 9 = 1 := by kernel_rfl
theorem facts {W : World} (h : laidMetH Tryd.prog Rows.fnFiguresRow.laid W) : Pows W ∧ Errs W := by
  rw [MakeChecks.laidMetH_plain _ _ _ (by kernel_rfl)] at h
  have h2 := laidMet.tail (laidMet.tail h)
  have h3 := laidMet.tail h2
  refine ⟨Lib.tabIs_of_head (zs := Lib.pow10Tab) (rest := [("strconv.ErrRange", Rows.laid_strconv_ErrRange), ("strconv.ErrSyntax", Rows.laid_strconv_ErrSyntax)]) gPows gType Tryd.underlying66 Tryd.underlying53 cellsNum cellsArr h2, ?_, ?_⟩
  · obtain ⟨a, s, hv, _⟩ := laid_sentinel (laidMet.tail h3) gSyn gSynT Tryd.underlying39 rowE Tryd.underlying74 Tryd.underlying76 rfl rfl Tryd.underlying9 cellsE cellsS
    exact ⟨_, _, hv⟩
  · obtain ⟨a, s, hv, _⟩ := laid_sentinel h3 gRan gRanT Tryd.underlying39 rowE Tryd.underlying74 Tryd.underlying76 rfl rfl Tryd.underlying9 cellsE cellsS
    exact ⟨_, _, hv⟩
theorem big (bs : List UInt8) (bv : Value) (w : World) (hb : BytesAt w bs bv) (hl : 1048576 < bs.length) :
    Calls Tryd.prog 3 #[bv] w fun e w' => e = .returned (.bool true) ∧ Below w.heap.size w w' := by
  have C := Trm.big_yes bs bv w hb hl
  obtain ⟨ba, bc, rfl, hbl, _⟩ := hb
  have HC := Lib.hid C
  clear C
  go_enter Tryd.func3, Tryd.ntmps3
  go_wp2_with fail
  refine HC.out.mono ?_
  rintro e w1 ⟨rfl, rfl⟩
  go_wp2
  go_ret
  exact ⟨rfl, Below.refl _ _⟩
theorem walk {H : Type} {enc : TypeId × Value → H} {base b0 : Nat} {spare : Nat → Bool} {held : Bool} {r : Reach} {d : DataW H} {p : List MemPlace} (v : Value) (w : World) (ok : Value.okWide Tryd.prog w r b0 22 v) (k : DataW.Trod enc Tryd.prog w base spare held 22 v d p) (hL : laidMetH Tryd.prog Rows.fnFiguresRow.laid w) :
    Calls Tryd.prog 3 #[v] w fun e w' => e = .returned (.bool true) ∧ Below w.heap.size w w' := by
  obtain ⟨bs, hb⟩ := bytes_of_Trod ok k
  obtain ⟨hP, hE⟩ := facts hL
  by_cases hl : bs.length ≤ 1048576
  · exact core bs v w hb hl hP hE
  · exact big bs v w hb (by omega)
end Go.Proofs.YtiaekohncfepbaaDoor.FnFiguresW
