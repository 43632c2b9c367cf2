/- The model's NamesIn, walked. Conditions: the statements lie in memory. -/
import Derived.Test.YtmhhghdfgdhljaaSNames
import Derived.Test.YtmhhghdfgdhljaaSDown
namespace Go.Proofs.Ytmhhghdfgdhljaa.Trm
open Go.RowKit Own
/-- What NamesIn answers. -/
noncomputable def namesIn (kd : Int) (xs : List STree) : List ByteArray := if cntXS xs ≤ 60 then namesXS kd xs [] else []
theorem namesIn_le (kd : Int) (xs : List STree) : (namesIn kd xs).length ≤ 60 := by
  unfold namesIn
  split
  · have := namesXS_le kd xs []; simp at this; omega
  · simp
theorem specNamesIn_any (kd : Int) (xs : List STree) (v : Value) (w : World) (hl : SListAt w v xs) :
    Calls Try.prog 26 #[v, .int .i64 kd] w fun e w' => ∃ ov, e = .returned ov ∧ w'.ownsRow w.heap.size 9 1 ov (namesIn kd xs).length (strV (namesIn kd xs)) ∧ Below w.heap.size w w' := by
  have C := Lib.hid (specDown_any xs v w 60 (by omega) (by omega) hl)
  by_cases hc : cntXS xs ≤ 60
  · have HR : Hid (namesIn kd xs = namesXS kd xs []) := by show _ = _; unfold namesIn; rw [if_pos hc]
    have D := Lib.hid (fun ov w1 hb hr => specNames_any kd xs v ov w w1 [] (by simp; omega) hl hb hr)
    have hr : 0 ≤ cR 60 (cntXS xs) := by unfold cR; split <;> omega
    generalize cR 60 (cntXS xs) = r at C hr
    clear hl hc
    go_enter Try.func26, Try.ntmps26
    go_wp2_with fail
    refine C.out.mono ?_
    rintro e w1 ⟨rfl, hb1⟩
    have B1 := Lib.hid hb1
    clear hb1
    go_wp2_with fail
    refine (D.out _ _ (B1.out.alloc B1.out.size _) (World.ownsRow_made w1 #[] 0 B1.out.size (by decide) rfl)).mono ?_
    rintro e w2 ⟨ov, rfl, hrow, hmv⟩
    have HRow := Lib.hid hrow
    have HB2 := Lib.hid (hmv.below (B1.out.alloc B1.out.size _) (World.ownsRow_made (size := 1) w1 #[] 0 B1.out.size (by decide) rfl))
    clear hrow hmv
    go_wp2
    go_ret
    exact ⟨_, rfl, by rw [HR.out]; exact HRow.out, HB2.out⟩
  · have HR : Hid (namesIn kd xs = []) := by show _ = _; unfold namesIn; rw [if_neg hc]
    have hr : cR 60 (cntXS xs) = -1 := by unfold cR; split <;> omega
    rw [hr] at C
    clear hl hc hr
    go_enter Try.func26, Try.ntmps26
    go_wp2_with fail
    refine C.out.mono ?_
    rintro e w1 ⟨rfl, hb1⟩
    have B1 := Lib.hid hb1
    clear hb1
    go_wp2
    go_ret
    exact ⟨_, rfl, by rw [HR.out]; exact World.ownsRow_made w1 #[] 0 B1.out.size (by decide) rfl, B1.out.alloc B1.out.size _⟩
end Go.Proofs.Ytmhhghdfgdhljaa.Trm
