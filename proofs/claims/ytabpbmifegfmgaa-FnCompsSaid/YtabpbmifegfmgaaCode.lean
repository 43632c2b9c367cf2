/- A code that came in, and whether it is too large for a law, walked. Without conditions beyond the reading's own. -/
import Derived.Test.YtabpbmifegfmgaaRowArg
import Derived.Test.YtabpbmifegfmgaaCursor
import Derived.BigQuiet
import Derived.WalkSmall
import Derived.Outline
namespace Go.Proofs.Ytabpbmifegfmgaa.Trm
open Go.RowKit Own Go.ChangeShapes Go.WideShapes Go.Deep Cur
set_option maxRecDepth 100000
theorem ret_bC {a b : Bool} (h : a = b) : Ending.returned (.bool a) = .returned (.bool b) := by rw [h]
theorem big_no (bs : List UInt8) (v : Value) (w : World) (hb : BytesAt w bs v) (hl : bs.length ≤ 1048576) :
    Calls Try.prog 9 #[v] w fun e w' => e = .returned (.bool false) ∧ w = w' := by
  obtain ⟨a, cap, rfl, h1, _⟩ := hb
  go_enter Try.func9, Try.ntmps9
  go_wp2
  go_ret
  exact ⟨ret_bC (decide_eq_false (by omega)), rfl⟩
theorem big_yes (bs : List UInt8) (v : Value) (w : World) (hb : BytesAt w bs v) (hl : 1048576 < bs.length) :
    Calls Try.prog 9 #[v] w fun e w' => e = .returned (.bool true) ∧ w = w' := by
  obtain ⟨a, cap, rfl, h1, _⟩ := hb
  go_enter Try.func9, Try.ntmps9
  go_wp2
  go_ret
  exact ⟨ret_bC (decide_eq_true (by omega)), rfl⟩
section
variable {H : Type} {enc : TypeId × Value → H} {w : World} {base : Nat} {spare : Nat → Bool} {held : Bool}
/-- A code that came in. -/
theorem bytes_of_Trod {r : Reach} {b0 : Nat} {v : Value} {d : DataW H} {p : List MemPlace} (hv : Value.okWide Try.prog w r b0 22 v) (h : DataW.Trod enc Try.prog w base spare held 22 v d p) : ∃ bs : List UInt8, BytesAt w bs v := by
  obtain ⟨a0, l0, c0, rfl⟩ := okWide_slice Try.underlying22 hv
  obtain ⟨fuel, hf⟩ := h
  obtain ⟨a, len, cap, e, hm, hc⟩ := cells_of_slice Try.underlying22 (by kernel_rfl) hf
  have e2 : Value.slice a0 l0 c0 = .slice a len cap := by
    have : [Value.slice a0 l0 c0] = [Value.slice a len cap] := e
    injection this
  rw [e2]
  obtain ⟨ss, hl, hp⟩ := pick_list (fun i (b : UInt8) => ∀ g o, a = some ⟨g, o, none⟩ → w.cell? ⟨g, o + i, none⟩ = some (.int .u8 (b.toNat : Int))) len (fun i hi => by
    obtain ⟨g, o, rfl, hcell⟩ := hc (by omega)
    obtain ⟨u, n, y, hu, hy⟩ := hcell i hi
    obtain ⟨x, es, _, hs⟩ := DataW.trod_int Try.underlying5 hy
    injection es with es _
    subst es
    have hb := bounds_u8 hs
    refine ⟨UInt8.ofNat x.toNat, fun g' o' e' => ?_⟩
    cases e'
    rw [hu]
    congr 2
    have : x.toNat < 256 := by omega
    simp [UInt8.toNat_ofNat']
    omega)
  refine ⟨ss, a, cap, by rw [hl], by rw [hl]; exact hm, fun hpos => ?_⟩
  obtain ⟨g, o, e3, _⟩ := hc (by omega)
  exact ⟨g, o, e3, fun i hi => hp i hi g o e3⟩
end
end Go.Proofs.Ytabpbmifegfmgaa.Trm
