/- The law of Worked at arguments that are too large for it, walked. Conditions: the arguments read as a term and two lists. -/
import Derived.Test.YtokmghhnifdcpaaTermSize
import Derived.Test.YtokmghhnifdcpaaListCalls
namespace Go.Proofs.Ytokmghhnifdcpaa.FnExactWorkedW
open Go.RowKit Own Trm
theorem big (t : Tree) (ns : List ByteArray) (vs : List Int) (vt nv vv : Value) (w : World) (hlt : Lies w t vt) (hn : StrsAt w ns nv) (hns : ∀ s, s ∈ ns → s.size ≤ 9223372036854775807) (hv : IntsAt w vs vv)
    (hz : 1048576 < szT t + (ns.length + szB ns) ∨ 1048576 < vs.length) :
    Calls Try.prog 6 #[vt, nv, vv] w fun e w' => e = .returned (.bool true) ∧ Below w.heap.size w w' := by
  have CS := Lib.hid (fun w hk => szTerm_any t vt w 1048576 (by omega) (hlt.keep hk))
  have CN := Lib.hid (fun w hk => szStrings_any ns nv w (1048576 - szT t) (by omega) (hn.keep hk) hns)
  obtain ⟨_, _, _, _, aa, cap, rfl, _⟩ := hlt.parts
  obtain ⟨na, nc, rfl, hn1, _⟩ := hn
  obtain ⟨va, vc, rfl, hv1, _, _⟩ := hv
  clear hlt hns
  by_cases h0 : 1048576 < vs.length
  · clear hz
    go_enter Try.func6, Try.ntmps6
    go_wp2
    go_ret
    exact ⟨rfl, (Below.refl _ _).alloc (Nat.le_refl _) _⟩
  · by_cases h1 : 1048576 < szT t
    · have HZ := Lib.hid (leftR_no h1)
      clear hz h1
      go_enter Try.func6, Try.ntmps6
      go_wp2_with fail
      refine (CS.out _ (keeps_alloc _ _)).mono ?_
      rintro e w1 ⟨rfl, hb⟩
      rw [HZ.out]
      have B1 := Lib.hid (below_box1 hb)
      clear hb
      go_wp2
      go_ret
      exact ⟨rfl, B1.out⟩
    · have HZ := Lib.hid (leftR_yes (a := 1048576) (n := szT t) (by omega))
      have HZ2 := Lib.hid (leftR_no (a := 1048576 - szT t) (n := ns.length + szB ns) (by omega))
      have hz2 : 0 ≤ ((1048576 - szT t : Nat) : Int) := by omega
      clear hz h1
      go_enter Try.func6, Try.ntmps6
      go_wp2_with fail
      refine (CS.out _ (keeps_alloc _ _)).mono ?_
      rintro e w1 ⟨rfl, hb⟩
      rw [HZ.out]
      have B1 := Lib.hid (below_box1 hb)
      have K1 := Lib.hid ((keeps_alloc w _).trans (keeps_below hb))
      clear hb
      go_wp2_with fail
      refine (CN.out _ K1.out).mono ?_
      rintro e w2 ⟨rfl, rfl⟩
      rw [HZ2.out]
      go_wp2
      go_ret
      exact ⟨rfl, B1.out⟩
end Go.Proofs.Ytokmghhnifdcpaa.FnExactWorkedW
