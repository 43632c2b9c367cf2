/- The law FnComps, walked. Conditions: the argument reads. -/
import Derived.Test.YtabpbmifegfmgaaFnCompsCore
import Derived.Test.YtabpbmifegfmgaaCompsS
namespace Go.Proofs.Ytabpbmifegfmgaa.FnCompsW
open Go.RowKit Trm Cur
theorem big (bs : List UInt8) (bv : Value) (w : World) (hb : BytesAt w bs bv) (hl : 1048576 < bs.length) :
    Calls Try.prog 3 #[bv] w fun e w' => e = .returned (.bool true) ∧ Below w.heap.size w w' := by
  have C := Trm.big_yes bs bv w hb hl
  obtain ⟨ba, bc, rfl, hbl, _⟩ := hb
  have HC := Lib.hid C
  clear C
  go_enter Try.func3, Try.ntmps3
  go_wp2_with fail
  refine HC.out.mono ?_
  rintro e w1 ⟨rfl, rfl⟩
  go_wp2
  go_ret
  exact ⟨rfl, Below.refl _ _⟩
theorem comps_len (W : Mat) (n : Nat) : ∀ f t, (compsF W n f t).length ≤ f
  | 0, t => by simp [compsF]
  | f + 1, t => by
    rw [compsF]
    cases nextF W n t with
    | none => simp
    | some i =>
      have ih := comps_len W n f (tellP t (partL W n i))
      simp only [List.length_cons]
      omega
set_option maxRecDepth 100000 in
theorem walk {H : Type} {enc : TypeId × Value → H} {base b0 : Nat} {spare : Nat → Bool} {held : Bool} {r : Reach} {d : DataW H} {p : List MemPlace} (v : Value) (w : World) (ok : Value.okWide Try.prog w r b0 22 v) (k : DataW.Trod enc Try.prog w base spare held 22 v d p) :
    Calls Try.prog 3 #[v] w fun e w' => e = .returned (.bool true) ∧ Below w.heap.size w w' := by
  obtain ⟨bs, hb⟩ := bytes_of_Trod ok k
  by_cases hl : bs.length ≤ 1048576
  · have hg := draw_gok bs
    have cD := fun w h => drawGraph_any bs v w h hl
    generalize drawGE bs = E at hg cD
    generalize drawGN bs = n at hg cD
    obtain ⟨m, rfl, hm⟩ := hg.nat
    have hI : compsI (m : Int) E true = (compsN (wayM m E) m).map upI := by simp [compsI]
    refine core bs v w hb hl m E hm hg cD (fun v w h => ?_) (fun v w h => ?_) (upI_lint _ (fun p hp x hx => ?_)) (Nat.le_trans (comps_len _ _ _ _) hm)
    · rw [← hI]
      exact implComps_any (m : Int) E true (by simp [hg]) v w h
    · rw [← hI]
      exact specComps_any (m : Int) E true (by simp [hg]) v w h (by unfold InI; omega)
    · have := comps_small (way_ways hg) p hp x hx
      omega
  · exact big bs v w hb (by omega)
end Go.Proofs.Ytabpbmifegfmgaa.FnCompsW
