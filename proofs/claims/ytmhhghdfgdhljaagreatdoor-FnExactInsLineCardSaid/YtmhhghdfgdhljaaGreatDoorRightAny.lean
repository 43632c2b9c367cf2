/- The program's own reading of any term as one that is right, and TermOk, walked. Conditions: the term lies in memory; at most 6 kinds with kids are left. -/
import Derived.Test.YtmhhghdfgdhljaaGreatDoorRightKids
namespace Go.Proofs.YtmhhghdfgdhljaaGreatDoor.Trm
open Go.RowKit Own Lexs
/-- What stands between two kids. -/
def pairSg (k : Int) : ByteArray := if k = 3 then ⟨#[43]⟩ else if k = 4 then ⟨#[45]⟩ else if k = 5 then ⟨#[42]⟩ else if k = 6 then ⟨#[60]⟩ else if k = 7 then ⟨#[61, 61]⟩ else if k = 9 then ⟨#[97, 110, 100]⟩ else ⟨#[]⟩
theorem pairSg_some {k : Int} (h1 : 3 ≤ k) (h2 : k ≤ 9) (h8 : k ≠ 8) : ¬ (pairSg k).size = 0 := by
  rcases (by omega : k = 3 ∨ k = 4 ∨ k = 5 ∨ k = 6 ∨ k = 7 ∨ k = 9) with rfl | rfl | rfl | rfl | rfl | rfl <;> decide
theorem pairSg_none {k : Int} (h : ¬ (3 ≤ k ∧ k ≤ 9)) : (pairSg k).size = 0 := by
  unfold pairSg
  rw [if_neg (by omega), if_neg (by omega), if_neg (by omega), if_neg (by omega), if_neg (by omega), if_neg (by omega)]; rfl
theorem implPairSign_any (k : Int) (w : World) : Calls Tryz.prog 175 #[.int .i64 k] w fun e w' => e = .returned (.string (pairSg k)) ∧ w = w' := by
  by_cases h : k = 3 ∨ k = 4 ∨ k = 5 ∨ k = 6 ∨ k = 7 ∨ k = 9
  · rcases h with rfl | rfl | rfl | rfl | rfl | rfl
    all_goals
      go_enter Tryz.func175, Tryz.ntmps175
      go_wp2
      go_ret
      exact ⟨rfl, rfl⟩
  · have e3 := ne_true (k := k) (x := 3) (by omega)
    have e4 := ne_true (k := k) (x := 4) (by omega)
    have e5 := ne_true (k := k) (x := 5) (by omega)
    have e6 := ne_true (k := k) (x := 6) (by omega)
    have e7 := ne_true (k := k) (x := 7) (by omega)
    have e9 := ne_true (k := k) (x := 9) (by omega)
    have HS : Hid (pairSg k = ⟨#[]⟩) := by
      show _ = _
      unfold pairSg
      rw [if_neg (by omega), if_neg (by omega), if_neg (by omega), if_neg (by omega), if_neg (by omega), if_neg (by omega)]
    clear h
    go_enter Tryz.func175, Tryz.ntmps175
    go_wp2
    go_ret
    exact ⟨by rw [HS.out]; rfl, rfl⟩
set_option maxHeartbeats 1600000 in
theorem rightI_not (n : Int) (s : ByteArray) (ks : List Tree) (ih : ∀ t, t ∈ ks → RightI t) (v : Value) (w : World) (r : Nat) (hr : r ≤ 6) (hl : Lies w (.node 8 n s ks) v) :
    Calls Tryz.prog 145 #[v, .int .i64 (r : Int)] w (RightPost (.node 8 n s ks) r w) := by
  obtain ⟨h1, h2, h3, h4, aa, cap, rfl, h5⟩ := hl
  have HR : Hid (rightB (.node 8 n s ks) r = (decide (n = 0) && decide (s.size = 0) && decide ((ks.length : Int) = 1) && decide (r ≠ 0) && rightS ks (r - 1))) := by
    show _ = _; rw [rightB, if_neg (by decide), if_neg (by decide)]; simp [manyK]
  have X0 := Lib.hid (Box4.new w (.int .i64 8) (.int .i64 n) (.string s) (.slice aa ks.length cap) 43)
  obtain ⟨p0, p1, p2, p3⟩ := X0.out
  by_cases hg : n = 0 ∧ s.size = 0 ∧ (ks.length : Int) = 1 ∧ r ≠ 0
  · obtain ⟨rfl, hs, hm, hr0⟩ := hg
    obtain ⟨a, rfl⟩ : ∃ a, ks = [a] := by
      match ks, hm with
      | [a], _ => exact ⟨a, rfl⟩
      | [], h => simp at h
      | a :: b :: c, h => simp at h; omega
    have HR2 : Hid (rightB (.node 8 0 s [a]) r = rightS [a] (r - 1)) := by show _ = _; rw [HR.out]; simp [hs, hr0]
    have C := Lib.hid (rightKids_go 8 s [a] ih aa cap r (w.alloc (.cells #[.int .i64 8, .int .i64 0, .string s, .slice aa [a].length cap] 43)) (by simp) hr0 hr hs (fun hp => by obtain ⟨g, o, rfl, hl⟩ := h5 hp; exact ⟨g, o, rfl, hl.keep (keeps_alloc _ _)⟩))
    obtain ⟨ty, pv, hi⟩ := rtV_iface a
    have HI := Lib.hid hi
    simp only [List.length_cons, List.length_nil] at p3 C ⊢
    clear h1 h2 h3 h4 h5 ih hi hs hm hr0
    go_enter Tryz.func145, Tryz.ntmps145
    go_wp2_with fail
    refine C.out.mono ?_
    rintro e w1 ⟨hb, hc⟩
    have B1 := Lib.hid (below_box1 hb)
    clear hb
    rcases hc with ⟨hs1, g, rfl, hcell⟩ | ⟨hs1, rfl⟩
    · have c0 : w1.cell? ⟨g, 0, none⟩ = some (.iface ty pv) := by rw [← HI.out]; exact hcell 0 (by simp)
      have HQ : Hid (rightB (.node 8 0 s [a]) r = true) := by show _ = _; rw [HR2.out, hs1]
      clear hs1 hcell
      go_wp2
      go_ret2
      exact rightPost_yes (x := .iface 210 (.agg #[.iface ty pv])) HQ.out (by rw [rtV_not (by simp), ← HI.out]; rfl) rfl B1.out
    · have HQ : Hid (rightB (.node 8 0 s [a]) r = false) := by show _ = _; rw [HR2.out, hs1]
      clear hs1
      go_wp2
      go_ret2
      exact rightPost_no HQ.out rfl B1.out
  · have HQ : Hid (rightB (.node 8 n s ks) r = false) := by
      show _ = _; rw [HR.out, Bool.eq_false_iff]; intro hh
      simp only [Bool.and_eq_true, decide_eq_true_eq] at hh
      exact hg ⟨hh.1.1.1.1, hh.1.1.1.2, hh.1.1.2, hh.1.2⟩
    have C := Lib.hid (rightKids_bad 8 n 1 s ks aa cap r (w.alloc (.cells #[.int .i64 8, .int .i64 n, .string s, .slice aa ks.length cap] 43)) h4 hg)
    clear h1 h2 h3 h4 h5 ih hg
    go_enter Tryz.func145, Tryz.ntmps145
    go_wp2_with fail
    refine C.out.mono ?_
    rintro e w1 ⟨rfl, hb⟩
    have B1 := Lib.hid (below_box1 hb)
    clear hb
    go_wp2
    go_ret2
    exact rightPost_no HQ.out rfl B1.out
set_option maxHeartbeats 1600000 in
theorem rightI_pair (k n : Int) (s : ByteArray) (ks : List Tree) (ih : ∀ t, t ∈ ks → RightI t) (hk1 : k ≠ 1) (hk2 : k ≠ 2) (hk8 : k ≠ 8) (hk : 3 ≤ k ∧ k ≤ 9) (v : Value) (w : World) (r : Nat) (hr : r ≤ 6) (hl : Lies w (.node k n s ks) v) :
    Calls Tryz.prog 145 #[v, .int .i64 (r : Int)] w (RightPost (.node k n s ks) r w) := by
  obtain ⟨h1, h2, h3, h4, aa, cap, rfl, h5⟩ := hl
  have HR : Hid (rightB (.node k n s ks) r = (decide (n = 0) && decide (s.size = 0) && decide ((ks.length : Int) = 2) && decide (r ≠ 0) && rightS ks (r - 1))) := by
    show _ = _; rw [rightB, if_neg hk1, if_neg hk2]; simp [many_other hk8, hk]
  have X0 := Lib.hid (Box4.new w (.int .i64 k) (.int .i64 n) (.string s) (.slice aa ks.length cap) 43)
  obtain ⟨p0, p1, p2, p3⟩ := X0.out
  have e1 := ne_true hk1
  have e2 := ne_true hk2
  have e8 := ne_true hk8
  have CP := Lib.hid (implPairSign_any k)
  have hq := empty_false (pairSg_some hk.1 hk.2 hk8)
  generalize pairSg k = sg at CP hq
  by_cases hg : n = 0 ∧ s.size = 0 ∧ (ks.length : Int) = 2 ∧ r ≠ 0
  · obtain ⟨rfl, hs, hm, hr0⟩ := hg
    obtain ⟨a, b, rfl⟩ : ∃ a b, ks = [a, b] := by
      match ks, hm with
      | [a, b], _ => exact ⟨a, b, rfl⟩
      | [], h => simp at h
      | [a], h => simp at h
      | a :: b :: c :: d, h => simp at h; omega
    have HR2 : Hid (rightB (.node k 0 s [a, b]) r = rightS [a, b] (r - 1)) := by show _ = _; rw [HR.out]; simp [hs, hr0]
    have C := Lib.hid (rightKids_go k s [a, b] ih aa cap r (w.alloc (.cells #[.int .i64 k, .int .i64 0, .string s, .slice aa [a, b].length cap] 43)) (by simp) hr0 hr hs (fun hp => by obtain ⟨g, o, rfl, hl⟩ := h5 hp; exact ⟨g, o, rfl, hl.keep (keeps_alloc _ _)⟩))
    obtain ⟨ty, pv, hi⟩ := rtV_iface a
    obtain ⟨ty2, pv2, hi2⟩ := rtV_iface b
    have HI := Lib.hid hi
    have HI2 := Lib.hid hi2
    have HX : Hid (.iface 212 (.agg #[.int .i64 k, .iface ty pv, .iface ty2 pv2]) = rtV (.node k 0 s [a, b])) := by
      show _ = _; rw [rtV_pair hk1 hk2 hk8 (by simp), ← hi, ← hi2]; rfl
    simp only [List.length_cons, List.length_nil] at p3 C ⊢
    clear h1 h2 h3 h4 h5 ih hi hi2 hs hm hr0 hk1 hk2 hk8 hk
    go_enter Tryz.func145, Tryz.ntmps145
    go_wp2_with fail
    refine (CP.out _).mono ?_
    rintro e w1 ⟨rfl, rfl⟩
    go_wp2_with fail
    refine C.out.mono ?_
    rintro e w1 ⟨hb, hc⟩
    obtain ⟨q0, q1, q2, q3⟩ := X0.out.keep (keeps_below hb)
    have B1 := Lib.hid (below_box1 hb)
    clear hb
    rcases hc with ⟨hs1, g, rfl, hcell⟩ | ⟨hs1, rfl⟩
    · have c0 : w1.cell? ⟨g, 0, none⟩ = some (.iface ty pv) := by rw [← HI.out]; exact hcell 0 (by simp)
      have c1 : w1.cell? ⟨g, 1, none⟩ = some (.iface ty2 pv2) := by rw [← HI2.out]; exact hcell 1 (by simp)
      have HQ : Hid (rightB (.node k 0 s [a, b]) r = true) := by show _ = _; rw [HR2.out, hs1]
      clear hs1 hcell
      go_wp2
      go_quiet (fail)
      go_wp2
      go_ret2
      exact rightPost_yes (x := .iface 212 (.agg #[.int .i64 k, .iface ty pv, .iface ty2 pv2])) HQ.out HX.out rfl (below_drewNR B1.out _)
    · have HQ : Hid (rightB (.node k 0 s [a, b]) r = false) := by show _ = _; rw [HR2.out, hs1]
      clear hs1
      go_wp2
      go_ret2
      exact rightPost_no HQ.out rfl B1.out
  · have HQ : Hid (rightB (.node k n s ks) r = false) := by
      show _ = _; rw [HR.out, Bool.eq_false_iff]; intro hh
      simp only [Bool.and_eq_true, decide_eq_true_eq] at hh
      exact hg ⟨hh.1.1.1.1, hh.1.1.1.2, hh.1.1.2, hh.1.2⟩
    have C := Lib.hid (rightKids_bad k n 2 s ks aa cap r (w.alloc (.cells #[.int .i64 k, .int .i64 n, .string s, .slice aa ks.length cap] 43)) h4 hg)
    clear h1 h2 h3 h4 h5 ih hg hk1 hk2 hk8 hk
    go_enter Tryz.func145, Tryz.ntmps145
    go_wp2_with fail
    refine (CP.out _).mono ?_
    rintro e w1 ⟨rfl, rfl⟩
    go_wp2_with fail
    refine C.out.mono ?_
    rintro e w1 ⟨rfl, hb⟩
    have B1 := Lib.hid (below_box1 hb)
    clear hb
    go_wp2
    go_ret2
    exact rightPost_no HQ.out rfl B1.out
set_option maxHeartbeats 800000 in
theorem rightI_none (k n : Int) (s : ByteArray) (ks : List Tree) (hk1 : k ≠ 1) (hk2 : k ≠ 2) (hk8 : k ≠ 8) (hk : ¬ (3 ≤ k ∧ k ≤ 9)) (v : Value) (w : World) (r : Nat) (hl : Lies w (.node k n s ks) v) :
    Calls Tryz.prog 145 #[v, .int .i64 (r : Int)] w (RightPost (.node k n s ks) r w) := by
  obtain ⟨h1, h2, h3, h4, aa, cap, rfl, h5⟩ := hl
  have HQ : Hid (rightB (.node k n s ks) r = false) := by
    show _ = _; rw [rightB, if_neg hk1, if_neg hk2, Bool.eq_false_iff]; intro hh
    simp only [Bool.and_eq_true, decide_eq_true_eq] at hh
    exact hk ⟨hh.1.1.1.1.1.1, hh.1.1.1.1.1.2⟩
  have e1 := ne_true hk1
  have e2 := ne_true hk2
  have e8 := ne_true hk8
  have CP := Lib.hid (implPairSign_any k)
  have hq := empty_true (pairSg_none hk)
  generalize pairSg k = sg at CP hq
  clear h1 h2 h5 hk hk1 hk2 hk8
  go_enter Tryz.func145, Tryz.ntmps145
  go_wp2_with fail
  refine (CP.out _).mono ?_
  rintro e w1 ⟨rfl, rfl⟩
  go_wp2
  go_ret2
  exact rightPost_no HQ.out rfl ((Below.refl _ _).alloc (Nat.le_refl _) _)
theorem implRight_any : ∀ t : Tree, RightI t := treeInd fun k n s ks ih v w r hr hl => by
  by_cases h1 : k = 1
  · subst h1; exact rightI_num n s ks v w r hl
  · by_cases h2 : k = 2
    · subst h2; exact rightI_var n s ks v w r hl hl.2.2.1
    · by_cases h8 : k = 8
      · subst h8; exact rightI_not n s ks ih v w r hr hl
      · by_cases h : 3 ≤ k ∧ k ≤ 9
        · exact rightI_pair k n s ks ih h1 h2 h8 h v w r hr hl
        · exact rightI_none k n s ks h1 h2 h8 h v w r hl
end Go.Proofs.YtmhhghdfgdhljaaGreatDoor.Trm
