/- The law of SameTerm at arguments that are too large for it, walked. Conditions: the arguments read as terms. -/
import Derived.Test.YtegcebjfcmcgmaaTermSize
namespace Go.Proofs.Ytegcebjfcmcgmaa.FnExactSameTermW
open Go.RowKit Own Trm
theorem big (t u : Tree) (vt vu : Value) (w : World) (hlt : Lies w t vt) (hlu : Lies w u vu) (hz : 1048576 < szT t + szT u) :
    Calls Try.prog 4 #[vt, vu] w fun e w' => e = .returned (.bool true) ∧ Below w.heap.size w w' := by
  have CS := Lib.hid (fun w hk => szTerm_any t vt w 1048576 (by omega) (hlt.keep hk))
  have CS2 := Lib.hid (fun w hk => szTerm_any u vu w (1048576 - szT t) (by omega) (hlu.keep hk))
  obtain ⟨_, _, _, _, aa, cap, rfl, _⟩ := hlt.parts
  obtain ⟨_, _, _, _, bb, dap, rfl, _⟩ := hlu.parts
  clear hlt hlu
  by_cases h1 : 1048576 < szT t
  · have HZ := Lib.hid (leftR_no h1)
    clear hz h1
    go_enter Try.func4, Try.ntmps4
    go_wp2_with fail
    refine (CS.out _ ((keeps_alloc _ _).trans (keeps_alloc _ _))).mono ?_
    rintro e w1 ⟨rfl, hb⟩
    rw [HZ.out]
    have B1 := Lib.hid (((Below.refl w.heap.size w).alloc (Nat.le_refl _) _).trans ((below_box1 hb).mono (by simp)))
    clear hb
    go_wp2
    go_ret
    exact ⟨rfl, B1.out⟩
  · have HZ := Lib.hid (leftR_yes (a := 1048576) (n := szT t) (by omega))
    have HZ2 := Lib.hid (leftR_no (a := 1048576 - szT t) (n := szT u) (by omega))
    have hz2 : 0 ≤ ((1048576 - szT t : Nat) : Int) := by omega
    have Y0 := Lib.hid (Box4.new (w.alloc (.cells #[.int .i64 t.kind, .int .i64 t.num, .string t.name, .slice aa t.kids.length cap] 39)) (.int .i64 u.kind) (.int .i64 u.num) (.string u.name) (.slice bb u.kids.length dap) 39)
    have hsz0 : (w.alloc (.cells #[.int .i64 t.kind, .int .i64 t.num, .string t.name, .slice aa t.kids.length cap] 39)).heap.size = w.heap.size + 1 := by simp
    rw [hsz0] at Y0
    clear hz h1 hsz0
    go_enter Try.func4, Try.ntmps4
    go_wp2_with fail
    refine (CS.out _ ((keeps_alloc _ _).trans (keeps_alloc _ _))).mono ?_
    rintro e w1 ⟨rfl, hb⟩
    rw [HZ.out]
    have B1 := Lib.hid (((Below.refl w.heap.size w).alloc (Nat.le_refl _) _).trans ((below_box1 hb).mono (by simp)))
    have K1 := Lib.hid (((keeps_alloc w _).trans (keeps_alloc _ _)).trans (keeps_below hb))
    obtain ⟨q0, q1, q2, q3⟩ := Y0.out.keep (keeps_below hb)
    clear hb
    go_wp2_with fail
    refine (CS2.out _ K1.out).mono ?_
    rintro e w2 ⟨rfl, hb⟩
    rw [HZ2.out]
    have B2 := Lib.hid (B1.out.trans (hb.mono B1.out.size))
    clear hb q0 q1 q2 q3
    go_wp2
    go_ret
    exact ⟨rfl, B2.out⟩
end Go.Proofs.Ytegcebjfcmcgmaa.FnExactSameTermW
