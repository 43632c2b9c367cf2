/- The law FnTerms, walked. Conditions: the argument reads. -/
import Derived.Test.YtegcebjfcmcgmaaListArg
import Derived.Test.YtegcebjfcmcgmaaFnTermsCore
import Derived.Test.YtegcebjfcmcgmaaTermOkImpl
import Derived.Test.YtegcebjfcmcgmaaWorkedOut
import Derived.Test.YtegcebjfcmcgmaaReadsOfImpl
import Derived.Test.YtegcebjfcmcgmaaSameTermImpl
namespace Go.Proofs.Ytegcebjfcmcgmaa.FnTermsW
open Go.RowKit Own Trm Cur Go.ChangeShapes Go.WideShapes Go.Deep
set_option maxRecDepth 100000
section
variable {H : Type} {enc : TypeId × Value → H} {w : World} {base : Nat} {spare : Nat → Bool} {held : Bool}
theorem bytes_of_Trod {r : Reach} {b0 : Nat} {v : Value} {d : DataW H} {p : List MemPlace} (hv : Value.okWide Try.prog w r b0 22 v) (h : DataW.Trod enc Try.prog w base spare held 22 v d p) : ∃ ss : List UInt8, BytesAt w ss v := by
  obtain ⟨a0, l0, c0, rfl⟩ := okWide_slice Try.underlying22 hv
  obtain ⟨fuel, hf⟩ := h
  obtain ⟨a, len, cap, e, hm, hc⟩ := cells_of_slice Try.underlying22 (by kernel_rfl) hf
  have e2 : Value.slice a0 l0 c0 = .slice a len cap := by
    have : [Value.slice a0 l0 c0] = [Value.slice a len cap] := e
    injection this
  rw [e2]
  obtain ⟨ss, hl, hp⟩ := pick_list (fun i (s : UInt8) => ∀ g o, a = some ⟨g, o, none⟩ → w.cell? ⟨g, o + i, none⟩ = some (.int .u8 (s.toNat : Int))) len (fun i hi => by
    obtain ⟨g, o, rfl, hcell⟩ := hc (by omega)
    obtain ⟨u, n, y, hu, hy⟩ := hcell i hi
    obtain ⟨s, es, _, hs⟩ := DataW.trod_int Try.underlying5 hy
    injection es with es _
    subst es
    have hb : 0 ≤ s ∧ s ≤ 255 := by
      have m0 : IntKind.u8.min = 0 := rfl
      have m1 : IntKind.u8.max = 255 := rfl
      simp [Lit.wf, m0, m1] at hs
      omega
    refine ⟨UInt8.ofNat s.toNat, fun g' o' e' => ?_⟩
    cases e'
    rw [hu]
    have : ((UInt8.ofNat s.toNat).toNat : Int) = s := by simp; omega
    rw [this])
  refine ⟨ss, a, cap, by rw [hl], by rw [hl]; exact hm, fun hpos => ?_⟩
  obtain ⟨g, o, e3, _⟩ := hc (by omega)
  exact ⟨g, o, e3, fun i hi => (hp i hi) g o e3⟩
end
theorem big_yes (bs : List UInt8) (bv : Value) (w : World) (hb : BytesAt w bs bv) (hl : 1048576 < bs.length) :
    Calls Try.prog 3 #[bv] w fun e w' => e = .returned (.bool true) ∧ Below w.heap.size w w' := by
  have C := Trm.big_yes bs bv w hb hl
  obtain ⟨ba, bc, rfl, hbl, _⟩ := hb
  have HC := Lib.hid C
  clear C
  go_enter Try.func3, Try.ntmps3
  go_wp2_with fail
  refine HC.out.mono ?_
  rintro e w1 ⟨rfl, rfl⟩
  go_wp2
  go_ret
  exact ⟨rfl, Below.refl _ _⟩
theorem walk {H : Type} {enc : TypeId × Value → H} {base b0 : Nat} {spare : Nat → Bool} {held : Bool} {r : Reach} {d : DataW H} {p : List MemPlace} (v : Value) (w : World) (ok : Value.okWide Try.prog w r b0 22 v) (k : DataW.Trod enc Try.prog w base spare held 22 v d p) :
    Calls Try.prog 3 #[v] w fun e w' => e = .returned (.bool true) ∧ Below w.heap.size w w' := by
  obtain ⟨bs, hb⟩ := bytes_of_Trod ok k
  by_cases hl : bs.length ≤ 1048576
  · have hs := drawn_size bs
    exact core bs v w hb hl (drawnT bs) (drawn_room bs) hs (fun w h => drawTerm_any bs v w h hl) (fun t vs v nv vv w h1 h2 h3 => implWorked_any namesB vs t v nv vv w h1 h2 h3) (fun v w h => implReadsOf_any (drawnT bs) v w h (by omega)) (implTermOk_any (drawnT bs)) (fun v x w h1 h2 => implSame_any (drawnT bs) (drawnT bs) v x w (by omega) h1 h2)
  · exact big_yes bs v w hb (by omega)
end Go.Proofs.Ytegcebjfcmcgmaa.FnTermsW
