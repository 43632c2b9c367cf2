/- The model's EndOf, walked. Conditions: the code lies in memory; at most 2 to the 20 names and terms. -/
import Derived.Test.YtofmccihehalcaaKOkSpec
import Derived.Test.YtofmccihehalcaaKAnsM
namespace Go.Proofs.Ytofmccihehalcaa.Trm
open Go.RowKit Own
set_option maxRecDepth 20000 in
set_option maxHeartbeats 1600000 in
theorem specEndOf_any (x : KTree) (a : Int) (v : Value) (w : World) (hl : KIn w x v) (hz : szK x ≤ 1048576) :
    Calls Try.prog 5 #[v, .int .i64 a] w fun e w' => e = .returned (.int .i64 (endZ x a)) ∧ Below w.heap.size w w' := by
  have CK := Lib.hid (fun wx (hb : Below w.heap.size w wx) => specCodeOk_any x v wx (hl.keep (keeps_below hb)) hz)
  obtain ⟨ga, gc, la, lc, pa, pc, ea, ec, ia, ic, rfl, h1, h2, h3, h4, h5, _⟩ := hl
  obtain ⟨n, hn⟩ : ∃ n, n = x.ins.length := ⟨_, rfl⟩
  have HNL := Lib.hid hn
  rw [← hn] at h5 CK ⊢
  have hlm : n ≤ 9223372036854775807 := by rw [hn]; exact h5.1
  have hpl : x.procs.length ≤ 9223372036854775807 := by obtain ⟨_, _, _, h, _⟩ := h3.1; exact h
  have hel : x.entry.length ≤ 9223372036854775807 := by obtain ⟨_, _, _, h, _⟩ := h4; exact h
  have HRI : Hid (okK x = true → Ris x.entry n ∧ x.entry.length = x.procs.length) := fun h => by
    have h2 : kHeads x = true := by unfold okK at h; rw [Bool.and_eq_true] at h; exact h.1
    have h3 := kHeads_ent h2
    have h4 := h3.1.1
    rw [← hn] at h4
    exact ⟨h4, h3.2.1⟩
  have HENT := Lib.hid (fun wx (hb : Below w.heap.size w wx) => h4.keep (keeps_below hb))
  have X0 := Lib.hid (Box5.new w (.slice ga x.globals.length gc) (.slice la x.locks.length lc) (.slice pa x.procs.length pc) (.slice ea x.entry.length ec) (.slice ia n ic) 31)
  have B0 := Lib.hid ((Below.refl w.heap.size w).alloc (Nat.le_refl _) (.cells #[.slice ga x.globals.length gc, .slice la x.locks.length lc, .slice pa x.procs.length pc, .slice ea x.entry.length ec, .slice ia n ic] 31))
  obtain ⟨kb, hkb⟩ : ∃ b, okK x = b := ⟨_, rfl⟩
  rw [hkb] at CK HRI
  have CE := Lib.hid (fun p wx (hb : Below w.heap.size w wx) hr hp => specKEnd_any x.entry (.slice ga x.globals.length gc) (.slice la x.locks.length lc) (.slice pa x.procs.length pc) ea ia ec n ic p wx (h4.keep (keeps_below hb)) hr hp hlm)
  have HZ : Hid (endZ x a = if kb = true ∧ 0 ≤ a ∧ a < (x.procs.length : Int) then endI x.entry n a.toNat else -1) := by show _ = _; unfold endZ; rw [hkb, hn]
  obtain ⟨zz, hzz⟩ : ∃ z, endZ x a = z := ⟨_, rfl⟩
  rw [hzz] at HZ
  rw [hzz]
  clear h1 h2 h3 h4 h5 hz hn hkb hzz
  obtain ⟨W1, hW1⟩ : ∃ W, W = w.alloc (.cells #[.slice ga x.globals.length gc, .slice la x.locks.length lc, .slice pa x.procs.length pc, .slice ea x.entry.length ec, .slice ia n ic] 31) := ⟨_, rfl⟩
  obtain ⟨p0, p1, p2, p3, p4⟩ := X0.out
  rw [← hW1] at X0 B0
  have HW1 := Lib.hid hW1
  clear hW1
  go_enter Try.func5, Try.ntmps5
  go_wp2_with fail
  rw [← HW1.out] at p0 p1 p2 p3 p4 ⊢
  refine (CK.out _ B0.out).mono ?_
  rintro e w2 ⟨rfl, hb⟩
  have B2 := Lib.hid (B0.out.trans (hb.mono B0.out.size))
  have X2 := Lib.hid (X0.out.keep (keeps_below hb))
  clear hb p0 p1 p2 p3 p4
  obtain ⟨p0, p1, p2, p3, p4⟩ := X2.out
  cases kb with
  | false =>
    have HF : Hid (zz = -1) := by show _ = _; rw [HZ.out]; simp
    go_wp2_with fail
    go_ret
    exact ⟨ret_z (by rw [HF.out]), B2.out⟩
  | true =>
    obtain ⟨hr, hep⟩ := HRI.out (by first | rfl | trivial)
    have HR := Lib.hid hr
    have HEP := Lib.hid hep
    clear hr hep
    go_wp2_with fail
    by_cases ha : 0 ≤ a ∧ a ≤ (x.procs.length : Int) - 1
    · obtain ⟨m, rfl⟩ : ∃ m : Nat, a = (m : Int) := ⟨a.toNat, by omega⟩
      have HF : Hid (zz = endI x.entry n m) := by
        show _ = _
        rw [HZ.out, if_pos ⟨by first | rfl | trivial, ha.1, by omega⟩]
        rfl
      refine (in_yes _ _ _ _ ha.1 ha.2).mono ?_
      rintro e w3 ⟨rfl, rfl⟩
      go_wp2_with fail
      refine (CE.out m _ B2.out HR.out (by have := HEP.out; omega)).mono ?_
      rintro e w4 ⟨z, rfl, hz, hb⟩
      have B4 := Lib.hid (B2.out.trans (hb.mono B2.out.size))
      have HG : Hid (z = zz) := by show _ = _; rw [hz, HF.out]
      clear hb hz
      go_wp2_with fail
      go_ret
      exact ⟨ret_z HG.out, B4.out⟩
    · have HF : Hid (zz = -1) := by show _ = _; rw [HZ.out, if_neg (fun h => ha ⟨h.2.1, by omega⟩)]
      refine (in_no _ _ _ _ (by omega)).mono ?_
      rintro e w3 ⟨rfl, rfl⟩
      go_wp2_with fail
      go_ret
      exact ⟨ret_z (by rw [HF.out]), B2.out⟩
end Go.Proofs.Ytofmccihehalcaa.Trm
