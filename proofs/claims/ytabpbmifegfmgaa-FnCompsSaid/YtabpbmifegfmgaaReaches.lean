/- Reaches of both sides, walked. Conditions: the arcs lie in memory. -/
import Derived.Test.YtabpbmifegfmgaaReachS
namespace Go.Proofs.Ytabpbmifegfmgaa.Trm
open Go.RowKit Own
/-- What Reaches tells. -/
def RchP (n : Int) (es : List (Int × Int)) (a b : Int) : Prop := GOk n es ∧ (0 ≤ a ∧ a < n) ∧ (0 ≤ b ∧ b < n) ∧ wayM n.toNat es a.toNat b.toNat = true
theorem GOk.nat {n : Int} {es : List (Int × Int)} (h : GOk n es) : ∃ m : Nat, n = (m : Int) ∧ m ≤ 60 := ⟨n.toNat, by have := h.1; omega, by have := h.1; have := h.2.1; omega⟩
set_option maxHeartbeats 1600000 in
theorem implReaches_any (n a b : Int) (es : List (Int × Int)) (v : Value) (w : World) (hl : ArcsAt w es v) :
    Calls Try.prog 15 #[.int .i64 n, v, .int .i64 a, .int .i64 b] w (SayB (RchP n es a b) w) := by
  have HL := Lib.hid hl
  have CG := Lib.hid (implGraph_any n es v w hl)
  obtain ⟨aa, cap, rfl, hlen, _, _⟩ := hl
  by_cases hg : GOk n es
  · by_cases ha : 0 ≤ a ∧ a < n
    · by_cases hb : 0 ≤ b ∧ b < n
      · obtain ⟨m, rfl, hm⟩ := hg.nat
        obtain ⟨x, rfl⟩ : ∃ x : Nat, a = (x : Int) := ⟨a.toNat, by omega⟩
        obtain ⟨y, rfl⟩ : ∃ y : Nat, b = (y : Int) := ⟨b.toNat, by omega⟩
        have CW := Lib.hid (fun w hl => implWaysOf_any m es (.slice aa es.length cap) w hl hg)
        have HG := Lib.hid hg
        have HR : Hid (RchP (m : Int) es (x : Int) (y : Int) ↔ wayM m es x y = true) := by
          show _ ↔ _
          unfold RchP
          simp only [Int.toNat_natCast]
          exact ⟨fun h => h.2.2.2, fun h => ⟨hg, ha, hb, h⟩⟩
        obtain ⟨q, hq⟩ : ∃ q, wayM m es x y = q := ⟨_, rfl⟩
        rw [hq] at HR
        have HQ := Lib.hid hq
        have ha2 : x < m := by omega
        have hb2 : y < m := by omega
        clear hg hq ha hb
        go_enter Try.func15, Try.ntmps15
        go_wp2_with fail
        refine CG.out.mono ?_
        rintro e w1 ⟨b1, rfl, hb1, hw1⟩
        have hbt : b1 = true := hb1.2 HG.out
        subst hbt
        have HB1 := Lib.hid hw1
        clear hb1 hw1
        go_wp2_with fail
        refine (node_yes (m : Int) (x : Int) _ (by omega) (by omega)).mono ?_
        rintro e w2 ⟨rfl, rfl⟩
        go_wp2_with fail
        refine (node_yes (m : Int) (y : Int) _ (by omega) (by omega)).mono ?_
        rintro e w2 ⟨rfl, rfl⟩
        go_wp2_with fail
        refine (CW.out _ (HL.out.keep (keeps_below HB1.out))).mono ?_
        rintro e w3 ⟨rfl, hw3, hb3⟩
        have c0 := hw3.cell x y (by omega) (by omega)
        rw [HQ.out] at c0
        have HB3 := Lib.hid (HB1.out.trans (hb3.mono HB1.out.size))
        clear hw3 hb3
        go_wp2
        go_ret
        exact ⟨q, rfl, HR.out.symm, HB3.out⟩
      · have HN : Hid (¬ RchP n es a b) := fun h => hb h.2.2.1
        have HG := Lib.hid hg
        clear hg
        go_enter Try.func15, Try.ntmps15
        go_wp2_with fail
        refine CG.out.mono ?_
        rintro e w1 ⟨b1, rfl, hb1, hw1⟩
        have hbt : b1 = true := hb1.2 HG.out
        subst hbt
        have HB1 := Lib.hid hw1
        clear hb1 hw1
        go_wp2_with fail
        refine (node_yes n a _ (by omega) (by omega)).mono ?_
        rintro e w2 ⟨rfl, rfl⟩
        go_wp2_with fail
        refine (node_no n b _ (by omega)).mono ?_
        rintro e w2 ⟨rfl, rfl⟩
        go_wp2_with fail
        go_ret
        exact SayB.mk_false HN.out HB1.out
    · have HN : Hid (¬ RchP n es a b) := fun h => ha h.2.1
      have HG := Lib.hid hg
      clear hg
      go_enter Try.func15, Try.ntmps15
      go_wp2_with fail
      refine CG.out.mono ?_
      rintro e w1 ⟨b1, rfl, hb1, hw1⟩
      have hbt : b1 = true := hb1.2 HG.out
      subst hbt
      have HB1 := Lib.hid hw1
      clear hb1 hw1
      go_wp2_with fail
      refine (node_no n a _ (by omega)).mono ?_
      rintro e w2 ⟨rfl, rfl⟩
      go_wp2_with fail
      go_ret
      exact SayB.mk_false HN.out HB1.out
  · have HN : Hid (¬ RchP n es a b) := fun h => hg h.1
    have HG := Lib.hid hg
    clear hg
    go_enter Try.func15, Try.ntmps15
    go_wp2_with fail
    refine CG.out.mono ?_
    rintro e w1 ⟨b1, rfl, hb1, hw1⟩
    have hbt : b1 = false := by
      cases b1 with
      | false => rfl
      | true => exact absurd (hb1.1 rfl) HG.out
    subst hbt
    have HB1 := Lib.hid hw1
    clear hb1 hw1
    go_wp2_with fail
    go_ret
    exact SayB.mk_false HN.out HB1.out
set_option maxHeartbeats 1600000 in
theorem specReaches_any (n a b : Int) (es : List (Int × Int)) (v : Value) (w : World) (hl : ArcsAt w es v) (hn : InI n) :
    Calls Try.prog 22 #[.int .i64 n, v, .int .i64 a, .int .i64 b] w (SayB (RchP n es a b) w) := by
  have HL := Lib.hid hl
  have CG := Lib.hid (specGraph_any n es v w hl hn)
  obtain ⟨aa, cap, rfl, hlen, _, _⟩ := hl
  by_cases hg : GOk n es
  · have hn0 : 0 ≤ n := hg.1
    have hn6 : n ≤ 60 := hg.2.1
    by_cases ha : 0 ≤ a ∧ a < n
    · by_cases hb : 0 ≤ b ∧ b < n
      · obtain ⟨m, rfl, hm⟩ := hg.nat
        obtain ⟨x, rfl⟩ : ∃ x : Nat, a = (x : Int) := ⟨a.toNat, by omega⟩
        obtain ⟨y, rfl⟩ : ∃ y : Nat, b = (y : Int) := ⟨b.toNat, by omega⟩
        have CW := Lib.hid (fun w hl => specReachM_any m es (.slice aa es.length cap) w hl hg)
        have HG := Lib.hid hg
        have HR : Hid (RchP (m : Int) es (x : Int) (y : Int) ↔ wayM m es x y = true) := by
          show _ ↔ _
          unfold RchP
          simp only [Int.toNat_natCast]
          exact ⟨fun h => h.2.2.2, fun h => ⟨hg, ha, hb, h⟩⟩
        obtain ⟨q, hq⟩ : ∃ q, wayM m es x y = q := ⟨_, rfl⟩
        rw [hq] at HR
        have HQ := Lib.hid hq
        have ha2 : x < m := by omega
        have hb2 : y < m := by omega
        clear hg hq ha hb
        go_enter Try.func22, Try.ntmps22
        go_wp2_with fail
        refine CG.out.mono ?_
        rintro e w1 ⟨b1, rfl, hb1, hw1⟩
        have hbt : b1 = true := hb1.2 HG.out
        subst hbt
        have HB1 := Lib.hid hw1
        clear hb1 hw1
        go_wp2_with fail
        refine (in_yes (x : Int) 0 ((m : Int) - 1) _ (by omega) (by omega)).mono ?_
        rintro e w2 ⟨rfl, rfl⟩
        go_wp2_with fail
        refine (in_yes (y : Int) 0 ((m : Int) - 1) _ (by omega) (by omega)).mono ?_
        rintro e w2 ⟨rfl, rfl⟩
        go_wp2_with fail
        refine (CW.out _ (HL.out.keep (keeps_below HB1.out))).mono ?_
        rintro e w3 ⟨mv, hi, rfl, hm3, hb3⟩
        obtain ⟨ma, mc, rfl, hma⟩ := hm3.shape
        obtain ⟨g, rfl⟩ := hma (by omega)
        obtain ⟨r, rc, c0, c1⟩ := hm3.cell x y ha2 hb2
        rw [HQ.out] at c1
        have HB3 := Lib.hid (HB1.out.trans (hb3.mono HB1.out.size))
        clear hm3 hb3 hma
        go_wp2
        go_ret
        exact ⟨q, rfl, HR.out.symm, HB3.out⟩
      · have HN : Hid (¬ RchP n es a b) := fun h => hb h.2.2.1
        have HG := Lib.hid hg
        clear hg
        go_enter Try.func22, Try.ntmps22
        go_wp2_with fail
        refine CG.out.mono ?_
        rintro e w1 ⟨b1, rfl, hb1, hw1⟩
        have hbt : b1 = true := hb1.2 HG.out
        subst hbt
        have HB1 := Lib.hid hw1
        clear hb1 hw1
        go_wp2_with fail
        refine (in_yes a 0 (n - 1) _ (by omega) (by omega)).mono ?_
        rintro e w2 ⟨rfl, rfl⟩
        go_wp2_with fail
        refine (in_no b 0 (n - 1) _ (by omega)).mono ?_
        rintro e w2 ⟨rfl, rfl⟩
        go_wp2_with fail
        go_ret
        exact SayB.mk_false HN.out HB1.out
    · have HN : Hid (¬ RchP n es a b) := fun h => ha h.2.1
      have HG := Lib.hid hg
      clear hg
      go_enter Try.func22, Try.ntmps22
      go_wp2_with fail
      refine CG.out.mono ?_
      rintro e w1 ⟨b1, rfl, hb1, hw1⟩
      have hbt : b1 = true := hb1.2 HG.out
      subst hbt
      have HB1 := Lib.hid hw1
      clear hb1 hw1
      go_wp2_with fail
      refine (in_no a 0 (n - 1) _ (by omega)).mono ?_
      rintro e w2 ⟨rfl, rfl⟩
      go_wp2_with fail
      go_ret
      exact SayB.mk_false HN.out HB1.out
  · have HN : Hid (¬ RchP n es a b) := fun h => hg h.1
    have HG := Lib.hid hg
    clear hg
    go_enter Try.func22, Try.ntmps22
    go_wp2_with fail
    refine CG.out.mono ?_
    rintro e w1 ⟨b1, rfl, hb1, hw1⟩
    have hbt : b1 = false := by
      cases b1 with
      | false => rfl
      | true => exact absurd (hb1.1 rfl) HG.out
    subst hbt
    have HB1 := Lib.hid hw1
    clear hb1 hw1
    go_wp2_with fail
    go_ret
    exact SayB.mk_false HN.out HB1.out
end Go.Proofs.Ytabpbmifegfmgaa.Trm
