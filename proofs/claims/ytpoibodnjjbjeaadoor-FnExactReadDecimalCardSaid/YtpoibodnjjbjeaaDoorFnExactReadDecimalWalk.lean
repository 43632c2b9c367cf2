/- The law of ReadDecimal, walked out of the contracts. Conditions: the text's length fits an int; the listed variables hold what the text lays in them. -/
import Derived.Test.YtpoibodnjjbjeaaDoorReadSpec
import Derived.Test.YtpoibodnjjbjeaaDoorReadImpl
import Derived.Test.YtpoibodnjjbjeaaDoorRows
import Derived.LaidMore
import Derived.Stop.Joined
import Derived.Stop.LaidErr
namespace Go.Proofs.YtpoibodnjjbjeaaDoor.FnExactReadDecimalW
open Go.RowKit Decimals Reads
theorem below_none {w w' : World} (h : w.grownBy w' none) : Below w.heap.size w w' := ⟨h.os, h.tape, h.output, h.size, fun k hk => h.block k hk (by simp)⟩
theorem gType : (Tryd.prog.globals[2]?).map (·.type) = some 56 := by kernel_rfl
theorem cellsArr : Tryd.prog.cellsOf 56 = 20 := by kernel_rfl
theorem cellsNum : Tryd.prog.cellsOf 42 = 1 := by kernel_rfl
theorem gSynT : (Tryd.prog.globals[0]?).map (·.type) = some 30 := by kernel_rfl
theorem gRanT : (Tryd.prog.globals[1]?).map (·.type) = some 30 := by kernel_rfl
theorem star : "*" ++ "errors.errorString" = "*errors.errorString" := by decide
theorem rowE (u : TypeId) (h : Tryd.prog.typeName? 3 u = some "*errors.errorString") : u = 62 :=
  typeName_ptr_named (nm := "errors.errorString") (by rw [star]; kernel_rfl) (by kernel_rfl) (by decide) u (by rw [star]; exact h)
theorem cellsE : Tryd.prog.cellsOf 64 = 1 := by kernel_rfl
theorem cellsS : Tryd.prog.cellsOf 9 = 1 := by kernel_rfl
theorem facts {W : World} (h : laidMetH Tryd.prog Rows.fnExactReadDecimalRow.laid W) : Pows W ∧ Errs W := by
  rw [MakeChecks.laidMetH_plain _ _ _ (by kernel_rfl)] at h
  have h2 := laidMet.tail (laidMet.tail h)
  have h3 := laidMet.tail h2
  refine ⟨Lib.tabIs_of_head (zs := Lib.pow10Tab) (rest := [("strconv.ErrRange", Rows.laid_strconv_ErrRange), ("strconv.ErrSyntax", Rows.laid_strconv_ErrSyntax)]) gPows gType Tryd.underlying56 Tryd.underlying42 cellsNum cellsArr h2, ?_, ?_⟩
  · obtain ⟨a, s, hv, _⟩ := laid_sentinel (laidMet.tail h3) gSyn gSynT Tryd.underlying30 rowE Tryd.underlying62 Tryd.underlying64 rfl rfl Tryd.underlying9 cellsE cellsS
    exact ⟨_, _, hv⟩
  · obtain ⟨a, s, hv, _⟩ := laid_sentinel h3 gRan gRanT Tryd.underlying30 rowE Tryd.underlying62 Tryd.underlying64 rfl rfl Tryd.underlying9 cellsE cellsS
    exact ⟨_, _, hv⟩
theorem core (a : ByteArray) (w : World) (o : Option Nat) (_ha : a.size ≤ 1048576)
    (c1 : Calls Tryd.prog 7 #[.string a] w fun e w' => e = outR o ∧ Below w.heap.size w w')
    (c2 : ∀ w', Below w.heap.size w w' → Calls Tryd.prog 8 #[.string a] w' fun e w2 => e = outR o ∧ Below w'.heap.size w' w2) :
    Calls Tryd.prog 4 #[.string a] w fun e w' => e = .returned (.bool true) ∧ Below w.heap.size w w' := by
  have C1 := Lib.hid c1
  have C2 := Lib.hid c2
  clear c1 c2
  cases o with
  | some m =>
    go_enter Tryd.func4, Tryd.ntmps4
    go_wp2_with fail
    refine C1.out.mono ?_
    rintro e w1 ⟨rfl, hb1⟩
    unfold outR
    go_wp2_with fail
    refine (C2.out _ hb1).mono ?_
    rintro e w2 ⟨rfl, hb2⟩
    unfold outR
    go_wp2
    go_ret
    exact ⟨rfl, hb1.trans (hb2.mono hb1.size)⟩
  | none =>
    go_enter Tryd.func4, Tryd.ntmps4
    go_wp2_with fail
    refine C1.out.mono ?_
    rintro e w1 ⟨rfl, hb1⟩
    unfold outR
    go_wp2_with fail
    refine (C2.out _ hb1).mono ?_
    rintro e w2 ⟨rfl, hb2⟩
    unfold outR
    go_wp2
    go_ret
    exact ⟨rfl, hb1.trans (hb2.mono hb1.size)⟩
theorem walk (a : ByteArray) (w : World) (wa : a.size ≤ maxLen) (hL : laidMetH Tryd.prog Rows.fnExactReadDecimalRow.laid w) :
    Calls Tryd.prog 4 #[.string a] w fun e w' => e = .returned (.bool true) ∧ Below w.heap.size w w' := by
  unfold maxLen at wa
  obtain ⟨hP, hE⟩ := facts hL
  by_cases h2 : a.size ≤ 1048576
  · refine core a w (readN a.data.toList) h2 ?_ (fun w' hb => implRead_any a w' h2 (hE.below hb) (hP.below hb))
    by_cases h : a.size ≤ 10
    · exact (specRead_short a w h).mono fun e w' ⟨h1, h3⟩ => ⟨h1, below_none h3⟩
    · exact (specRead_long a w (by omega) (by omega)).mono fun e w' ⟨h1, h3⟩ => ⟨h1, below_none h3⟩
  · clear hP hE hL
    go_enter Tryd.func4, Tryd.ntmps4
    go_wp2
    go_ret
    exact ⟨rfl, Below.refl _ _⟩
end Go.Proofs.YtpoibodnjjbjeaaDoor.FnExactReadDecimalW
