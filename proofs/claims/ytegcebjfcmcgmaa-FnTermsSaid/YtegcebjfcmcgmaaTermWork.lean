/- The model's Worked, walked. Conditions: the term lies in memory, as do the names and the values. -/
import Derived.Test.YtegcebjfcmcgmaaChecked
import Derived.Test.YtegcebjfcmcgmaaTermRight
import Derived.Test.YtegcebjfcmcgmaaTermSame
import Derived.Test.YtegcebjfcmcgmaaTermWorkMath
import Derived.Deep.RegionWith
import Derived.BigQuiet
import Derived.WalkSmall
import Derived.Outline
namespace Go.Proofs.Ytegcebjfcmcgmaa.Trm
open Go.RowKit Own
theorem ret_i {a b : Int} (h : a = b) : Ending.returned (.int .i64 a) = .returned (.int .i64 b) := by rw [h]
theorem specMod_any (n : Int) (w : World) (h : InI n) : Calls Try.prog 81 #[.int .i64 n] w fun e w' => e = .returned (.int .i64 (mod3 n)) ∧ w = w' := by
  obtain ⟨h1, h2⟩ := h
  by_cases hn : 0 ≤ n
  · have hr : 0 ≤ n % 1000 := by omega
    go_enter Try.func81, Try.ntmps81
    go_wp2
    go_ret
    exact ⟨rfl, rfl⟩
  · have ht := tmod_neg (n := n) (by omega)
    have hlt : n < 0 := by omega
    obtain ⟨m, hm⟩ : ∃ m, m = (-n) % 1000 := ⟨_, rfl⟩
    rw [← hm] at ht
    have hm1 : 0 ≤ m ∧ m ≤ 999 := by omega
    have HM := Lib.hid hm
    obtain ⟨hm2, hm3⟩ := hm1
    clear hm hn
    by_cases hz : m = 0
    · subst hz
      have HR : Hid (mod3 n = 0) := by show _ = _; unfold mod3; have := HM.out; omega
      go_enter Try.func81, Try.ntmps81
      go_wp2
      go_ret
      exact ⟨ret_i (by rw [HR.out]), rfl⟩
    · have HR : Hid (mod3 n = -m + 1000) := by show _ = _; unfold mod3; have := HM.out; omega
      have hp : -m < 0 := by omega
      have hp2 : 0 < m := by omega
      clear hz
      go_enter Try.func81, Try.ntmps81
      go_wp2
      go_ret
      exact ⟨ret_i (by rw [HR.out]), rfl⟩
theorem specYes_any (b : Bool) (w : World) : Calls Try.prog 82 #[.bool b] w fun e w' => e = .returned (.int .i64 (yesI b)) ∧ w = w' := by
  cases b
  all_goals
    go_enter Try.func82, Try.ntmps82
    go_wp2
    go_ret
    exact ⟨rfl, rfl⟩
def WorkOk (ns : List ByteArray) (vs : List Int) (t : Tree) : Prop := ∀ (v nv vv : Value) (w : World) (r : Nat), rightB t r = true → Lies w t v → StrsAt w ns nv → IntsAt w vs vv →
    Calls Try.prog 50 #[v, nv, vv] w fun e w' => e = .returned (.int .i64 (workT ns vs t)) ∧ Below w.heap.size w w'
theorem work_num (ns : List ByteArray) (vs : List Int) (n : Int) (s : ByteArray) (ks : List Tree) (v nv vv : Value) (w : World) (hl : Lies w (.node 1 n s ks) v) :
    Calls Try.prog 50 #[v, nv, vv] w fun e w' => e = .returned (.int .i64 (workT ns vs (.node 1 n s ks))) ∧ Below w.heap.size w w' := by
  obtain ⟨h1, h2, h3, h4, aa, cap, rfl, h5⟩ := hl
  have C := Lib.hid (fun w => specMod_any n w h2)
  have HR : Hid (workT ns vs (.node 1 n s ks) = mod3 n) := by show _ = _; rw [workT, if_pos rfl]
  clear h5 h1 h2
  go_enter Try.func50, Try.ntmps50
  go_wp2_with fail
  refine (C.out _).mono ?_
  rintro e w1 ⟨rfl, rfl⟩
  go_wp2
  go_ret
  exact ⟨ret_i HR.out.symm, (Below.refl _ _).alloc (Nat.le_refl _) _⟩
set_option maxHeartbeats 800000 in
theorem work_var (ns : List ByteArray) (vs : List Int) (n : Int) (s : ByteArray) (ks : List Tree) (v nv vv : Value) (w : World) (hl : Lies w (.node 2 n s ks) v) (hn : StrsAt w ns nv) (hv : IntsAt w vs vv) :
    Calls Try.prog 50 #[v, nv, vv] w fun e w' => e = .returned (.int .i64 (workT ns vs (.node 2 n s ks))) ∧ Below w.heap.size w w' := by
  obtain ⟨h1, h2, h3, h4, aa, cap, rfl, h5⟩ := hl
  obtain ⟨na, nc, rfl, hn1, hn2⟩ := hn
  obtain ⟨va, vc, rfl, hv1, hv0, hv2⟩ := hv
  have HR : Hid (workT ns vs (.node 2 n s ks) = lookV (ns.drop 0) (vs.drop 0) s) := by show _ = _; rw [workT, if_neg (by decide), if_pos rfl]; rfl
  have HN := Lib.hid hn2
  have HV := Lib.hid hv2
  have HV0 := Lib.hid hv0
  clear h5 h1 h2 hn2 hv2 hv0
  go_enter Try.func50, Try.ntmps50
  go_wp2
  go_loopw [7] (fun i wr => ∃ (j m : Nat), j ≤ ns.length ∧ i = .int .i64 j ∧ Hid (workT ns vs (.node 2 n s ks) = lookV (ns.drop j) (vs.drop j) s) ∧ wr = (w.alloc (.cells #[.int .i64 2, .int .i64 n, .string s, .slice aa ks.length cap] 26)).drewN m)
    (fun i _ => ns.length - (intOf i).toNat)
  case atStart => exact ⟨0, 0, Nat.zero_le _, rfl, HR.out, (World.drewN_zero _).symm⟩
  case round =>
    obtain ⟨j, m, hj, rfl, hsz, rfl⟩ := hrel
    by_cases hlt : j < ns.length
    · obtain ⟨g, o, rfl, hcell⟩ := HN.out (by omega)
      have c0 := keeps_alloc w (.cells #[.int .i64 2, .int .i64 n, .string s, .slice aa ks.length cap] 26) _ _ (hcell j hlt)
      clear hcell
      by_cases he : ns[j] = s
      · by_cases hjv : j < vs.length
        · obtain ⟨h, p, rfl, hcv⟩ := HV.out (by omega)
          have d0 := keeps_alloc w (.cells #[.int .i64 2, .int .i64 n, .string s, .slice aa ks.length cap] 26) _ _ (hcv j hjv)
          have CM := Lib.hid (fun w => specMod_any vs[j] w (HV0.out _ (List.getElem_mem hjv)))
          have HS : Hid (workT ns vs (.node 2 n s ks) = mod3 vs[j]) := by show _ = _; rw [hsz.out, lookV_hit hlt he hjv]
          rw [he] at c0
          clear hcv he
          go_wp2
          go_quiet (fail)
          go_wp2_with (go_at_call 81; refine (CM.out _).mono ?_; rintro e w1 ⟨rfl, rfl⟩)
          go_ret
          exact ⟨ret_i HS.out.symm, below_drewN ((Below.refl _ _).alloc (Nat.le_refl _) _) _⟩
        · have HS : Hid (workT ns vs (.node 2 n s ks) = 0) := by show _ = _; rw [hsz.out, lookV_bare hlt he (by omega)]
          rw [he] at c0
          clear he
          go_wp2
          go_quiet (fail)
          go_wp2
          go_ret
          exact ⟨ret_i HS.out.symm, below_drewN ((Below.refl _ _).alloc (Nat.le_refl _) _) _⟩
      · have hq := bytes_ne he
        have HS : Hid (workT ns vs (.node 2 n s ks) = lookV (ns.drop (j + 1)) (vs.drop (j + 1)) s) := by show workT ns vs (.node 2 n s ks) = _; rw [hsz.out, lookV_drop hlt he]
        clear he
        go_wp2
        go_quiet (fail)
        go_wp2
        go_roundw
        case rel => exact ⟨j + 1, m + nq, by omega, by go_num, HS, rfl⟩
        case measure => simp [intOf]; omega
    · have HS : Hid (workT ns vs (.node 2 n s ks) = 0) := by show _ = _; rw [hsz.out, lookV_end (by omega)]
      go_wp2
      go_ret
      exact ⟨ret_i HS.out.symm, below_drewN ((Below.refl _ _).alloc (Nat.le_refl _) _) _⟩
theorem rightS_mem : ∀ {ks : List Tree} {r : Nat}, rightS ks r = true → ∀ t, t ∈ ks → rightB t r = true
  | [], _, _, t, ht => by cases ht
  | a :: ks, r, h, t, ht => by
    rw [rightS, Bool.and_eq_true] at h
    rcases List.mem_cons.1 ht with e | e
    · rw [e]; exact h.1
    · exact rightS_mem h.2 t e
theorem right_parts {k n : Int} {s : ByteArray} {ks : List Tree} {r : Nat} (h : rightB (.node k n s ks) r = true) (h1 : k ≠ 1) (h2 : k ≠ 2) : 3 ≤ k ∧ k ≤ 9 ∧ n = 0 ∧ s.size = 0 ∧ (ks.length : Int) = manyK k ∧ r ≠ 0 ∧ ∀ t, t ∈ ks → rightB t (r - 1) = true := by
  rw [rightB, if_neg h1, if_neg h2] at h
  simp only [Bool.and_eq_true, decide_eq_true_eq] at h
  obtain ⟨⟨⟨⟨⟨⟨a, b⟩, c⟩, d⟩, e⟩, f⟩, g⟩ := h
  exact ⟨a, b, c, d, e, f, rightS_mem g⟩
set_option maxHeartbeats 800000 in
theorem work_not (ns : List ByteArray) (vs : List Int) (n : Int) (s : ByteArray) (ks : List Tree) (ih : ∀ t, t ∈ ks → WorkOk ns vs t) (v nv vv : Value) (w : World) (r : Nat) (hr : rightB (.node 8 n s ks) r = true) (hl : Lies w (.node 8 n s ks) v) (hn : StrsAt w ns nv) (hv : IntsAt w vs vv) :
    Calls Try.prog 50 #[v, nv, vv] w fun e w' => e = .returned (.int .i64 (workT ns vs (.node 8 n s ks))) ∧ Below w.heap.size w w' := by
  obtain ⟨_, _, hn0, hs0, hlen, _, hrk⟩ := right_parts hr (by decide) (by decide)
  have hl1 : 0 < ks.length := by have : manyK 8 = 1 := rfl; omega
  obtain ⟨h1, h2, h3, h4, aa, cap, rfl, h5⟩ := hl
  obtain ⟨g, o, rfl, hl⟩ := h5 hl1
  obtain ⟨ka, kc, c0, c1, c2, c3, hl2⟩ := (hl.keep (keeps_alloc w (.cells #[.int .i64 8, .int .i64 n, .string s, .slice (some ⟨g, o, none⟩) ks.length cap] 26))).at 0 hl1
  have C := Lib.hid (ih ks[0] (List.getElem_mem hl1) _ nv vv _ (r - 1) (hrk _ (List.getElem_mem hl1)) hl2 (hn.keep (keeps_alloc _ _)) (hv.keep (keeps_alloc _ _)))
  have HR : Hid (workT ns vs (.node 8 n s ks) = yesI (workT ns vs ks[0] == 0)) := by show _ = _; rw [workT, if_neg (by decide), if_neg (by decide), if_pos rfl, workL_at 0 hl1]; rfl
  have X0 := Lib.hid (Box4.new w (.int .i64 8) (.int .i64 n) (.string s) (.slice (some ⟨g, o, none⟩) ks.length cap) 26)
  rw [Nat.zero_mul, Nat.add_zero] at c0 c1 c2 c3
  obtain ⟨na, nc, rfl, hn1, _⟩ := hn
  obtain ⟨va, vc, rfl, hv1, _⟩ := hv
  have CY := Lib.hid specYes_any
  clear h5 h1 h2 hl hl2 ih hr hrk hlen hn0 hs0
  go_enter Try.func50, Try.ntmps50
  go_wp2_with fail
  refine C.out.mono ?_
  rintro e w1 ⟨rfl, hb⟩
  obtain ⟨p0, p1, p2, p3⟩ := X0.out.keep (keeps_below hb)
  have B1 := Lib.hid (below_box1 hb)
  clear hb
  go_wp2_with fail
  refine (CY.out _ _).mono ?_
  rintro e w2 ⟨rfl, rfl⟩
  go_wp2
  go_ret
  exact ⟨ret_i HR.out.symm, B1.out⟩
theorem mul_range {a b : Int} (ha : 0 ≤ a ∧ a ≤ 999) (hb : 0 ≤ b ∧ b ≤ 999) : 0 ≤ a * b ∧ a * b ≤ 998001 := by
  refine ⟨Int.mul_nonneg ha.1 hb.1, ?_⟩
  have := Int.mul_le_mul ha.2 hb.2 hb.1 (by omega : (0 : Int) ≤ 999)
  omega
set_option maxHeartbeats 1600000 in
theorem work_two (ns : List ByteArray) (vs : List Int) (k n : Int) (s : ByteArray) (ks : List Tree) (ih : ∀ t, t ∈ ks → WorkOk ns vs t) (v nv vv : Value) (w : World) (r : Nat) (hk1 : k ≠ 1) (hk2 : k ≠ 2) (hk8 : k ≠ 8) (hr : rightB (.node k n s ks) r = true) (hl : Lies w (.node k n s ks) v) (hn : StrsAt w ns nv) (hv : IntsAt w vs vv) :
    Calls Try.prog 50 #[v, nv, vv] w fun e w' => e = .returned (.int .i64 (workT ns vs (.node k n s ks))) ∧ Below w.heap.size w w' := by
  obtain ⟨hk3, hk9, hn0, hs0, hlen, _, hrk⟩ := right_parts hr hk1 hk2
  rw [many_other hk8] at hlen
  have hl1 : 0 < ks.length := by omega
  have hl3 : 1 < ks.length := by omega
  obtain ⟨h1, h2, h3, h4, aa, cap, rfl, h5⟩ := hl
  obtain ⟨g, o, rfl, hl⟩ := h5 hl1
  have HL := Lib.hid hl
  obtain ⟨ka, kc, c0, c1, c2, c3, hl2⟩ := (hl.keep (keeps_alloc w (.cells #[.int .i64 k, .int .i64 n, .string s, .slice (some ⟨g, o, none⟩) ks.length cap] 26))).at 0 hl1
  have C := Lib.hid (ih ks[0] (List.getElem_mem hl1) _ nv vv _ (r - 1) (hrk _ (List.getElem_mem hl1)) hl2 (hn.keep (keeps_alloc _ _)) (hv.keep (keeps_alloc _ _)))
  have C1 := Lib.hid (fun v w => ih ks[1] (List.getElem_mem hl3) v nv vv w (r - 1) (hrk _ (List.getElem_mem hl3)))
  have HR : Hid (workT ns vs (.node k n s ks) = opW k (workT ns vs ks[0]) (workT ns vs ks[1])) := by show _ = _; rw [workT, if_neg hk1, if_neg hk2, if_neg hk8, workL_at 0 hl1, workL_at 1 hl3]
  have ra := workT_range ns vs ks[0]
  have rb := workT_range ns vs ks[1]
  obtain ⟨a, ha⟩ : ∃ a, a = workT ns vs ks[0] := ⟨_, rfl⟩
  obtain ⟨b, hb⟩ : ∃ b, b = workT ns vs ks[1] := ⟨_, rfl⟩
  rw [← ha] at ra HR C
  rw [← hb] at rb HR
  have C1b : Hid (∀ v w, Lies w ks[1] v → StrsAt w ns nv → IntsAt w vs vv → Calls Try.prog 50 #[v, nv, vv] w fun e w' => e = .returned (.int .i64 b) ∧ Below w.heap.size w w') := by
    rw [hb]; exact C1.out
  have rm := mul_range ra rb
  have X0 := Lib.hid (Box4.new w (.int .i64 k) (.int .i64 n) (.string s) (.slice (some ⟨g, o, none⟩) ks.length cap) 26)
  rw [Nat.zero_mul, Nat.add_zero] at c0 c1 c2 c3
  have HN := Lib.hid hn
  have HV := Lib.hid hv
  obtain ⟨na, nc, rfl, hn1, _⟩ := hn
  obtain ⟨va, vc, rfl, hv1, _⟩ := hv
  have CY := Lib.hid specYes_any
  have CM := Lib.hid specMod_any
  have e8 := ne_true hk8
  obtain ⟨ra1, ra2⟩ := ra
  obtain ⟨rb1, rb2⟩ := rb
  obtain ⟨rm1, rm2⟩ := rm
  clear h5 h1 h2 hl hl2 ih hr hrk hlen hn0 hs0 ha hb C1
  rcases (by omega : k = 3 ∨ k = 4 ∨ k = 5 ∨ k = 6 ∨ k = 7 ∨ k = 9) with rfl | rfl | rfl | rfl | rfl | rfl
  all_goals
    clear hk1 hk2 hk8 hk3 hk9 e8
    go_enter Try.func50, Try.ntmps50
    go_wp2_with fail
    refine C.out.mono ?_
    rintro e w1 ⟨rfl, hb⟩
    obtain ⟨p0, p1, p2, p3⟩ := X0.out.keep (keeps_below hb)
    have K1 := Lib.hid ((keeps_alloc w _).trans (keeps_below hb))
    have B1 := Lib.hid (below_box1 hb)
    obtain ⟨la, lc, d0, d1, d2, d3, hm2⟩ := (HL.out.keep K1.out).at 1 hl3
    have D := Lib.hid (C1b.out _ _ hm2 (HN.out.keep K1.out) (HV.out.keep K1.out))
    rw [Nat.one_mul] at d0 d1 d2 d3
    clear hb hm2
    go_wp2_with fail
    refine D.out.mono ?_
    rintro e w2 ⟨rfl, hb⟩
    obtain ⟨q0, q1, q2, q3⟩ := (X0.out.keep (Keeps.refl _))
    have B2 := Lib.hid (B1.out.trans (hb.mono B1.out.size))
    clear q0 q1 q2 q3
    have P2 : w2.cell? ⟨w.heap.size, 0, none⟩ = _ := keeps_below hb _ _ p0
    clear hb p0 p1 p2 p3
  · go_wp2_with fail
    refine (CM.out _ _ (by unfold InI; omega)).mono ?_
    rintro e w3 ⟨rfl, rfl⟩
    go_wp2
    go_ret
    exact ⟨ret_i HR.out.symm, B2.out⟩
  · go_wp2_with fail
    refine (CM.out _ _ (by unfold InI; omega)).mono ?_
    rintro e w3 ⟨rfl, rfl⟩
    go_wp2
    go_ret
    exact ⟨ret_i HR.out.symm, B2.out⟩
  · go_wp2_with fail
    refine (CM.out _ _ (by unfold InI; omega)).mono ?_
    rintro e w3 ⟨rfl, rfl⟩
    go_wp2
    go_ret
    exact ⟨ret_i HR.out.symm, B2.out⟩
  · go_wp2_with fail
    refine (CY.out _ _).mono ?_
    rintro e w3 ⟨rfl, rfl⟩
    go_wp2
    go_ret
    exact ⟨ret_i HR.out.symm, B2.out⟩
  · go_wp2_with fail
    refine (CY.out _ _).mono ?_
    rintro e w3 ⟨rfl, rfl⟩
    go_wp2
    go_ret
    exact ⟨ret_i HR.out.symm, B2.out⟩
  · by_cases ha0 : a = 0
    · subst ha0
      have HO : Hid (workT ns vs (.node 9 n s ks) = 0) := by show _ = _; rw [HR.out]; simp [opW, yesI]
      go_wp2_with fail
      refine (CY.out _ _).mono ?_
      rintro e w3 ⟨rfl, rfl⟩
      go_wp2
      go_ret
      exact ⟨ret_i HO.out.symm, B2.out⟩
    · have qa : (a != 0) = true := by simp [ha0]
      have qa2 : (a == 0) = false := by simp [ha0]
      by_cases hb0 : b = 0
      · subst hb0
        have HO : Hid (workT ns vs (.node 9 n s ks) = 0) := by show _ = _; rw [HR.out]; simp [opW, yesI]
        clear ha0
        go_wp2_with fail
        refine (CY.out _ _).mono ?_
        rintro e w3 ⟨rfl, rfl⟩
        go_wp2
        go_ret
        exact ⟨ret_i HO.out.symm, B2.out⟩
      · have HO : Hid (workT ns vs (.node 9 n s ks) = 1) := by show _ = _; rw [HR.out]; simp [opW, yesI, ha0, hb0]
        have qb : (b != 0) = true := by simp [hb0]
        clear ha0 hb0
        go_wp2_with fail
        refine (CY.out _ _).mono ?_
        rintro e w3 ⟨rfl, rfl⟩
        go_wp2
        go_ret
        exact ⟨ret_i HO.out.symm, B2.out⟩
theorem specWork_any (ns : List ByteArray) (vs : List Int) : ∀ t : Tree, WorkOk ns vs t := treeInd fun k n s ks ih v nv vv w r hr hl hn hv => by
  by_cases h1 : k = 1
  · subst h1; exact work_num ns vs n s ks v nv vv w hl
  · by_cases h2 : k = 2
    · subst h2; exact work_var ns vs n s ks v nv vv w hl hn hv
    · by_cases h8 : k = 8
      · subst h8; exact work_not ns vs n s ks ih v nv vv w r hr hl hn hv
      · exact work_two ns vs k n s ks ih v nv vv w r h1 h2 h8 hr hl hn hv
/-- What Worked answers. -/
def workedT (ns : List ByteArray) (vs : List Int) (t : Tree) : Int := if okB t = true then workT ns vs t else 0
theorem specWorked_any (ns : List ByteArray) (vs : List Int) (t : Tree) (v nv vv : Value) (w : World) (hl : Lies w t v) (hn : StrsAt w ns nv) (hv : IntsAt w vs vv) :
    Calls Try.prog 16 #[v, nv, vv] w fun e w' => e = .returned (.int .i64 (workedT ns vs t)) ∧ Below w.heap.size w w' := by
  have C := Lib.hid (fun w hk => specTermOk_any t v w (hl.keep hk))
  have HL := Lib.hid hl
  have HN := Lib.hid hn
  have HV := Lib.hid hv
  obtain ⟨_, _, _, _, aa, cap, rfl, _⟩ := hl.parts
  obtain ⟨na, nc, rfl, hn1, _⟩ := hn
  obtain ⟨va, vc, rfl, hv1, _⟩ := hv
  have X0 := Lib.hid (Box4.new w (.int .i64 t.kind) (.int .i64 t.num) (.string t.name) (.slice aa t.kids.length cap) 26)
  clear hl
  cases hb : okB t with
  | false =>
    have HR : Hid (workedT ns vs t = 0) := by show _ = _; unfold workedT; rw [hb]; rfl
    rw [hb] at C
    clear hb
    go_enter Try.func16, Try.ntmps16
    go_wp2_with fail
    refine (C.out _ (keeps_alloc _ _)).mono ?_
    rintro e w1 ⟨rfl, hb1⟩
    have B1 := Lib.hid (below_box1 hb1)
    clear hb1
    go_wp2
    go_ret
    exact ⟨ret_i HR.out.symm, B1.out⟩
  | true =>
    have HR : Hid (workedT ns vs t = workT ns vs t) := by show _ = _; unfold workedT; rw [hb]; rfl
    have D := Lib.hid (fun v w => specWork_any ns vs t v (.slice na ns.length nc) (.slice va vs.length vc) w 6 hb)
    rw [hb] at C
    clear hb
    go_enter Try.func16, Try.ntmps16
    go_wp2_with fail
    refine (C.out _ (keeps_alloc _ _)).mono ?_
    rintro e w1 ⟨rfl, hb1⟩
    obtain ⟨p0, p1, p2, p3⟩ := X0.out.keep (keeps_below hb1)
    have B1 := Lib.hid (below_box1 hb1)
    have K1 := Lib.hid ((keeps_alloc w _).trans (keeps_below hb1))
    clear hb1
    go_wp2_with fail
    refine (D.out _ _ (HL.out.keep K1.out) (HN.out.keep K1.out) (HV.out.keep K1.out)).mono ?_
    rintro e w2 ⟨rfl, hb2⟩
    have B2 := Lib.hid (B1.out.trans (hb2.mono B1.out.size))
    clear hb2
    go_wp2
    go_ret
    exact ⟨ret_i HR.out.symm, B2.out⟩
end Go.Proofs.Ytegcebjfcmcgmaa.Trm
