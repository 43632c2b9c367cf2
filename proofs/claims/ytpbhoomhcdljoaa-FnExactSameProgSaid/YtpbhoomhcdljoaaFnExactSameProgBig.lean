/- The law of SameProg at arguments that are too large for it, walked. Conditions: the arguments read as programs. -/
import Derived.Test.YtpbhoomhcdljoaaPSize
import Derived.Test.YtpbhoomhcdljoaaPOwn
namespace Go.Proofs.Ytpbhoomhcdljoaa.FnExactSameProgW
open Go.RowKit Own Trm
theorem big (t u : PTree) (vt vu : Value) (w : World) (hlt : PLies w t vt) (hlu : PLies w u vu) (hz : 1048576 < szP t + szP u) :
    Calls Try.prog 4 #[vt, vu] w fun e w' => e = .returned (.bool true) ∧ Below w.heap.size w w' := by
  have CS := Lib.hid (fun w hk => szProg_any t vt w 1048576 (by omega) (hlt.keep hk))
  have CS2 := Lib.hid (fun w hk => szProg_any u vu w (1048576 - szP t) (by omega) (hlu.keep hk))
  obtain ⟨ga, gc, la, lc, pa, pc, rfl⟩ := hlt.shape
  obtain ⟨gb, gd, lb, ld, pb, pd, rfl⟩ := hlu.shape
  clear hlt hlu
  by_cases h1 : 1048576 < szP t
  · have HZ := Lib.hid (leftR_no h1)
    clear hz h1
    go_enter Try.func4, Try.ntmps4
    go_wp2_with fail
    refine (CS.out _ ((keeps_alloc _ _).trans (keeps_alloc _ _))).mono ?_
    rintro e w1 ⟨rfl, hb⟩
    rw [HZ.out]
    have B1 := Lib.hid (((Below.refl w.heap.size w).alloc (Nat.le_refl _) _).trans ((below_box1 hb).mono (by simp)))
    clear hb
    go_wp2
    go_ret
    exact ⟨rfl, B1.out⟩
  · have HZ := Lib.hid (leftR_yes (a := 1048576) (n := szP t) (by omega))
    have HZ2 := Lib.hid (leftR_no (a := 1048576 - szP t) (n := szP u) (by omega))
    have hz2 : 0 ≤ ((1048576 - szP t : Nat) : Int) := by omega
    have Y0 := Lib.hid (Box3.new (w.alloc (.cells #[.slice ga t.globals.length gc, .slice la t.locks.length lc, .slice pa t.procs.length pc] 25)) (.slice gb u.globals.length gd) (.slice lb u.locks.length ld) (.slice pb u.procs.length pd) 25)
    have hsz0 : (w.alloc (.cells #[.slice ga t.globals.length gc, .slice la t.locks.length lc, .slice pa t.procs.length pc] 25)).heap.size = w.heap.size + 1 := by simp
    rw [hsz0] at Y0
    clear hz h1 hsz0
    go_enter Try.func4, Try.ntmps4
    go_wp2_with fail
    refine (CS.out _ ((keeps_alloc _ _).trans (keeps_alloc _ _))).mono ?_
    rintro e w1 ⟨rfl, hb⟩
    rw [HZ.out]
    have B1 := Lib.hid (((Below.refl w.heap.size w).alloc (Nat.le_refl _) _).trans ((below_box1 hb).mono (by simp)))
    have K1 := Lib.hid (((keeps_alloc w _).trans (keeps_alloc _ _)).trans (keeps_below hb))
    obtain ⟨q0, q1, q2⟩ := Y0.out.keep (keeps_below hb)
    clear hb
    go_wp2_with fail
    refine (CS2.out _ K1.out).mono ?_
    rintro e w2 ⟨rfl, hb⟩
    rw [HZ2.out]
    have B2 := Lib.hid (B1.out.trans (hb.mono B1.out.size))
    clear hb q0 q1 q2
    go_wp2
    go_ret
    exact ⟨rfl, B2.out⟩
end Go.Proofs.Ytpbhoomhcdljoaa.FnExactSameProgW
