/- The program's Worked, walked. Conditions: the term lies in memory, as do the names and the values. -/
import Derived.Test.YtegcebjfcmcgmaaRightAny
import Derived.Test.YtegcebjfcmcgmaaTermWork
namespace Go.Proofs.Ytegcebjfcmcgmaa.Trm
open Go.RowKit Own Lexs
theorem implRem_any (n : Int) (w : World) (h : InI n) : Calls Try.prog 75 #[.int .i64 n] w fun e w' => e = .returned (.int .i64 (mod3 n)) ∧ w = w' := by
  obtain ⟨h1, h2⟩ := h
  by_cases hn : 0 ≤ n
  · have hr : 0 ≤ n % 1000 := by omega
    go_enter Try.func75, Try.ntmps75
    go_wp2
    go_ret
    exact ⟨rfl, rfl⟩
  · have ht := tmod_neg (n := n) (by omega)
    have hlt : n < 0 := by omega
    obtain ⟨m, hm⟩ : ∃ m, m = (-n) % 1000 := ⟨_, rfl⟩
    rw [← hm] at ht
    have hm1 : 0 ≤ m ∧ m ≤ 999 := by omega
    have HM := Lib.hid hm
    obtain ⟨hm2, hm3⟩ := hm1
    clear hm hn
    by_cases hz : m = 0
    · subst hz
      have HR : Hid (mod3 n = 0) := by show _ = _; unfold mod3; have := HM.out; omega
      go_enter Try.func75, Try.ntmps75
      go_wp2
      go_ret
      exact ⟨ret_i (by rw [HR.out]), rfl⟩
    · have HR : Hid (mod3 n = -m + 1000) := by show _ = _; unfold mod3; have := HM.out; omega
      have hp : -m < 0 := by omega
      have hp2 : 0 < m := by omega
      clear hz
      go_enter Try.func75, Try.ntmps75
      go_wp2
      go_ret
      exact ⟨ret_i (by rw [HR.out]), rfl⟩
theorem implOne_any (b : Bool) (w : World) : Calls Try.prog 77 #[.bool b] w fun e w' => e = .returned (.int .i64 (yesI b)) ∧ w = w' := by
  cases b
  all_goals
    go_enter Try.func77, Try.ntmps77
    go_wp2
    go_ret
    exact ⟨rfl, rfl⟩
/-- Where a text stands first. -/
def IdxI (ns : List ByteArray) (s : ByteArray) (x : Int) : Prop := (∃ (i : Nat) (h : i < ns.length), x = i ∧ ns[i] = s ∧ ∀ j (hj : j < ns.length), j < i → ns[j] ≠ s) ∨ (x = -1 ∧ ∀ j (hj : j < ns.length), ns[j] ≠ s)
theorem implIndex_any (ns : List ByteArray) (s : ByteArray) (nv : Value) (w : World) (hn : StrsAt w ns nv) :
    Calls Try.prog 93 #[nv, .string s] w fun e w' => ∃ x, e = .returned (.int .i64 x) ∧ IdxI ns s x ∧ w = w' := by
  obtain ⟨na, nc, rfl, hn1, hn2⟩ := hn
  have HN := Lib.hid hn2
  clear hn2
  go_enter Try.func93, Try.ntmps93
  go_wp2
  go_loopw [8] (fun i wr => ∃ (j : Nat), j ≤ ns.length ∧ i = .int .i64 j ∧ Hid (∀ i (h : i < ns.length), i < j → ns[i] ≠ s) ∧ wr = w)
    (fun i _ => ns.length - (intOf i).toNat)
  case atStart => exact ⟨0, Nat.zero_le _, rfl, fun i _ h => by omega, rfl⟩
  case round =>
    obtain ⟨j, hj, rfl, hne, rfl⟩ := hrel
    by_cases hlt : j < ns.length
    · obtain ⟨g, o, rfl, hcell⟩ := HN.out (by omega)
      have c0 := hcell j hlt
      clear hcell
      by_cases he : ns[j] = s
      · have HX : Hid (IdxI ns s j) := .inl ⟨j, hlt, rfl, he, hne.out⟩
        rw [he] at c0
        clear he
        go_wp2
        go_ret
        exact ⟨_, rfl, HX.out, rfl⟩
      · have hq := bytes_ne (fun e => he e.symm)
        have HS : Hid (∀ i (h : i < ns.length), i < j + 1 → ns[i] ≠ s) := fun i h hi => by
          rcases Nat.lt_or_ge i j with h1 | h1
          · exact hne.out i h h1
          · obtain rfl : i = j := by omega
            exact he
        clear he
        go_wp2
        go_roundw
        case rel => exact ⟨j + 1, by omega, by go_num, HS, by first | rfl | trivial⟩
        case measure => simp [intOf]; omega
    · have HX : Hid (IdxI ns s (-1)) := .inr ⟨rfl, fun j h => hne.out j h (by omega)⟩
      go_wp2
      go_ret
      exact ⟨_, rfl, HX.out, rfl⟩
theorem lookV_first {ns : List ByteArray} {vs : List Int} {s : ByteArray} : ∀ (i : Nat), i ≤ ns.length → (∀ j (hj : j < ns.length), j < i → ns[j] ≠ s) → lookV ns vs s = lookV (ns.drop i) (vs.drop i) s
  | 0, _, _ => rfl
  | i + 1, h, hn => by rw [lookV_first i (by omega) (fun j hj hi => hn j hj (by omega)), lookV_drop (by omega) (hn i (by omega) (by omega))]
theorem implValue_any (ns : List ByteArray) (vs : List Int) (s : ByteArray) (nv vv : Value) (w : World) (hn : StrsAt w ns nv) (hv : IntsAt w vs vv) :
    Calls Try.prog 76 #[.string s, nv, vv] w fun e w' => ∃ x, e = .returned (.int .i64 x) ∧ mod3 x = lookV ns vs s ∧ InI x ∧ w = w' := by
  have C := Lib.hid (implIndex_any ns s nv w hn)
  obtain ⟨na, nc, rfl, hn1, hn2⟩ := hn
  obtain ⟨va, vc, rfl, hv1, hv0, hv2⟩ := hv
  have HV := Lib.hid hv2
  have HV0 := Lib.hid hv0
  clear hn2 hv2 hv0
  go_enter Try.func76, Try.ntmps76
  go_wp2_with fail
  refine C.out.mono ?_
  rintro e w1 ⟨x, rfl, hx, rfl⟩
  rcases hx with ⟨i, hi, rfl, he, hf⟩ | ⟨rfl, hf⟩
  · by_cases hiv : i < vs.length
    · obtain ⟨g, o, rfl, hcell⟩ := HV.out (by omega)
      have c0 := hcell i hiv
      have HS : Hid (mod3 vs[i] = lookV ns vs s) := by show _ = _; rw [lookV_first i (by omega) hf, lookV_hit hi he hiv]
      have HI := Lib.hid (HV0.out _ (List.getElem_mem hiv))
      clear hcell he hf
      go_wp2
      go_ret
      exact ⟨_, rfl, HS.out, HI.out, rfl⟩
    · have HS : Hid (mod3 0 = lookV ns vs s) := by show _ = _; rw [lookV_first i (by omega) hf, lookV_bare hi he (by omega)]; rfl
      clear he hf
      go_wp2
      go_ret
      exact ⟨0, rfl, HS.out, by unfold InI; omega, rfl⟩
  · have HS : Hid (mod3 0 = lookV ns vs s) := by show _ = _; rw [lookV_first ns.length (by omega) (fun j h _ => hf j h), lookV_end (by omega)]; rfl
    clear hf
    go_wp2
    go_ret
    exact ⟨0, rfl, HS.out, by unfold InI; omega, rfl⟩
set_option maxHeartbeats 800000 in
theorem implPairW_any (k a b : Int) (w : World) (hk : k = 3 ∨ k = 4 ∨ k = 5 ∨ k = 6 ∨ k = 7 ∨ k = 9) (ra : 0 ≤ a ∧ a ≤ 999) (rb : 0 ≤ b ∧ b ≤ 999) :
    Calls Try.prog 78 #[.int .i64 k, .int .i64 a, .int .i64 b] w fun e w' => e = .returned (.int .i64 (opW k a b)) ∧ w = w' := by
  have rm := mul_range ra rb
  obtain ⟨ra1, ra2⟩ := ra
  obtain ⟨rb1, rb2⟩ := rb
  obtain ⟨rm1, rm2⟩ := rm
  have CY := Lib.hid implOne_any
  have CM := Lib.hid implRem_any
  rcases hk with rfl | rfl | rfl | rfl | rfl | rfl
  · go_enter Try.func78, Try.ntmps78
    go_wp2_with fail
    refine (CM.out _ _ (by unfold InI; omega)).mono ?_
    rintro e w3 ⟨rfl, rfl⟩
    go_wp2
    go_ret
    exact ⟨rfl, rfl⟩
  · go_enter Try.func78, Try.ntmps78
    go_wp2_with fail
    refine (CM.out _ _ (by unfold InI; omega)).mono ?_
    rintro e w3 ⟨rfl, rfl⟩
    go_wp2
    go_ret
    exact ⟨rfl, rfl⟩
  · go_enter Try.func78, Try.ntmps78
    go_wp2_with fail
    refine (CM.out _ _ (by unfold InI; omega)).mono ?_
    rintro e w3 ⟨rfl, rfl⟩
    go_wp2
    go_ret
    exact ⟨rfl, rfl⟩
  · go_enter Try.func78, Try.ntmps78
    go_wp2_with fail
    refine (CY.out _ _).mono ?_
    rintro e w3 ⟨rfl, rfl⟩
    go_wp2
    go_ret
    exact ⟨rfl, rfl⟩
  · go_enter Try.func78, Try.ntmps78
    go_wp2_with fail
    refine (CY.out _ _).mono ?_
    rintro e w3 ⟨rfl, rfl⟩
    go_wp2
    go_ret
    exact ⟨rfl, rfl⟩
  · by_cases ha0 : a = 0
    · subst ha0
      have HO : Hid (opW 9 0 b = 0) := by show _ = _; simp [opW, yesI]
      go_enter Try.func78, Try.ntmps78
      go_wp2_with fail
      refine (CY.out _ _).mono ?_
      rintro e w3 ⟨rfl, rfl⟩
      go_wp2
      go_ret
      exact ⟨ret_i HO.out.symm, rfl⟩
    · have qa : (a != 0) = true := by simp [ha0]
      by_cases hb0 : b = 0
      · subst hb0
        have HO : Hid (opW 9 a 0 = 0) := by show _ = _; simp [opW, yesI]
        clear ha0
        go_enter Try.func78, Try.ntmps78
        go_wp2_with fail
        refine (CY.out _ _).mono ?_
        rintro e w3 ⟨rfl, rfl⟩
        go_wp2
        go_ret
        exact ⟨ret_i HO.out.symm, rfl⟩
      · have HO : Hid (opW 9 a b = 1) := by show _ = _; simp [opW, yesI, ha0, hb0]
        have qb : (b != 0) = true := by simp [hb0]
        clear ha0 hb0
        go_enter Try.func78, Try.ntmps78
        go_wp2_with fail
        refine (CY.out _ _).mono ?_
        rintro e w3 ⟨rfl, rfl⟩
        go_wp2
        go_ret
        exact ⟨ret_i HO.out.symm, rfl⟩
end Go.Proofs.Ytegcebjfcmcgmaa.Trm
