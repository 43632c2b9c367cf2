/- The law of CompsOf, walked. Conditions: the arguments read. -/
import Derived.Test.YtabpbmifegfmgaaArcArg
import Derived.Test.YtabpbmifegfmgaaCompsS
import Derived.Test.YtabpbmifegfmgaaFnExactCompsOfCore
namespace Go.Proofs.Ytabpbmifegfmgaa.FnExactCompsOfW
open Go.RowKit Own Trm
/-- All parts together have no more than so many nodes. -/
theorem comps_tot (W : Mat) (n : Nat) : ∀ f t, totL ((compsF W n f t).map upI) ≤ f * n
  | 0, t => by simp [compsF, totL]
  | f + 1, t => by
    rw [compsF]
    cases nextF W n t with
    | none => simp [totL]
    | some i =>
      have ih := comps_tot W n f (tellP t (partL W n i))
      have hp := partL_le W n i
      simp only [List.map_cons, totL, upI_length]
      rw [Nat.succ_mul]
      omega
theorem compsI_facts (n : Int) (es : List (Int × Int)) (ok : Bool) (hok : ok = true ↔ GOk n es) : LInt (compsI n es ok) ∧ totL (compsI n es ok) ≤ 9000000 := by
  unfold compsI
  by_cases h : ok = true
  · rw [if_pos h]
    obtain ⟨m, rfl, hm⟩ := (hok.1 h).nat
    rw [Int.toNat_natCast]
    refine ⟨upI_lint _ (fun p hp x hx => ?_), ?_⟩
    · have := comps_small (way_ways (hok.1 h)) p hp x hx
      omega
    · have h1 := comps_tot (wayM m es) m m (fun _ => false)
      have h2 : m * m ≤ 60 * 60 := Nat.mul_le_mul hm hm
      exact Nat.le_trans h1 (by omega)
  · rw [if_neg h]
    exact ⟨fun l hl => by simp at hl, by simp [totL]⟩
set_option maxRecDepth 100000 in
theorem walk {H : Type} {enc : TypeId × Value → H} {base b0 : Nat} {spare : Nat → Bool} {held : Bool} {r : Reach} {d : DataW H} {p : List MemPlace} (n : Int) (v : Value) (w : World) (wn : (Lit.int .i64 n).wf = true) (ok : Value.okWide Try.prog w r b0 35 v) (k : DataW.Trod enc Try.prog w base spare held 35 v d p) :
    Calls Try.prog 6 #[.int .i64 n, v] w fun e w' => e = .returned (.bool true) ∧ Below w.heap.size w w' := by
  obtain ⟨es, hl⟩ := arcs_of_Trod ok k
  obtain ⟨b, hb⟩ : ∃ b : Bool, b = true ↔ GOk n es := by
    rcases Classical.em (GOk n es) with h | h
    · exact ⟨true, by simp [h]⟩
    · exact ⟨false, by simp [h]⟩
  by_cases hz : es.length ≤ 1048576
  · obtain ⟨h1, h2⟩ := compsI_facts n es b hb
    exact core n es v w (compsI n es b) hl hz h1 h2 (fun v w h => specComps_any n es b hb v w h (bounds_i64 wn)) (fun v w h => implComps_any n es b hb v w h)
  · exact big n es v w hl (by omega)
end Go.Proofs.Ytabpbmifegfmgaa.FnExactCompsOfW
