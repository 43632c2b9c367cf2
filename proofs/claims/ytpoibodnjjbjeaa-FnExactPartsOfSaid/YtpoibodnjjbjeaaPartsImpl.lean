/- The program's PartsOf, walked. Conditions: the line's length fits an int. -/
import Derived.Test.YtpoibodnjjbjeaaChecked
import Derived.Test.YtpoibodnjjbjeaaPartsMath
import Derived.Test.YtpoibodnjjbjeaaStrRows
import Derived.Outline
namespace Go.Proofs.Ytpoibodnjjbjeaa.Parts
open Go.RowKit Own
theorem one_text (p : ByteArray) : ∀ u ∈ [Value.string p], u.oneCell' = true := by
  intro u hu
  simp at hu
  subst hu
  rfl
theorem infoStrI : (Try.prog.info? 9).map (fun i => (i.zero, i.size, i.bytes)) = some (some (.string ⟨#[]⟩), 1, 16) := by kernel_rfl

theorem withPart_any (v : Value) (base n : Nat) (ps : List ByteArray) (p : ByteArray) (w : World) (h : w.ownsRow base 9 1 v n (strV ps)) (hn : n ≤ 600) (hb : base ≤ w.heap.size) :
    Calls Try.prog 21 #[v, .string p] w fun e w' => ∃ v' n', e = .returned v' ∧ w'.ownsRow base 9 1 v' n' (strV (addP ps p)) ∧ w.grownBy w' v.ownBlock := by
  obtain ⟨i0, hi, hz0, hz1, hz2⟩ := info_parts infoStrI
  by_cases hp : p.size = 0
  · rw [addP_none hp]
    have he := empty_true hp
    have H := Lib.hid h
    clear h
    go_enter Try.func21, Try.ntmps21
    go_wp2
    go_ret
    exact ⟨_, _, rfl, H.out, World.grownBy.refl _ _⟩
  · rw [addP_some hp]
    have he := empty_false hp
    have hl : (strV ps ++ [Value.string p]) = strV (ps ++ [p]) := by simp [strV]
    have HL := Lib.hid hl
    clear hl
    go_enter Try.func21, Try.ntmps21
    go_wp2_with (at_builtin; refine wpList_append_own _ rfl (.tmp 8) (.tmp 10) 25 rfl base 9 i0 (.string ⟨#[]⟩) 1 16 Try.underlying25 hi hz0 hz1 hz2 rfl (by decide) v n _ rfl (h.alloc _) ⟨w.heap.size, 0, none⟩ 1 1 [.string p] rfl rfl (World.news_of_block (heap_alloc_new _ _)) (one_text _) (by unfold maxLen; omega) (by omega) (by simp; omega) ?_)
    intro v1 w1 hown1 hgrow1 _
    go_wp2
    go_ret
    rw [HL.out] at hown1
    exact ⟨_, _, rfl, hown1, (World.grownBy_alloc w _ _).trans hgrow1⟩
theorem implParts_long (s : ByteArray) (w : World) (hs : 600 < s.size) (hm : s.size ≤ 9223372036854775807) :
    Calls Try.prog 12 #[.string s] w fun e w' => e = .returned (.tuple #[.slice none 0 0, .bool false]) ∧ w' = w := by
  go_enter Try.func12, Try.ntmps12
  go_wp2
  go_step3
  go_wp2
  rw [Exit.noGoto_ret]
  go_ret2
  exact ⟨rfl, rfl⟩

set_option maxHeartbeats 400000 in
theorem implParts_short (s : ByteArray) (w : World) (hs : s.size ≤ 600) :
    Calls Try.prog 12 #[.string s] w fun e w' => ∃ v n, e = .returned (.tuple #[v, .bool (out s).2]) ∧ w'.ownsRow w.heap.size 9 1 v n (strV (out s).1) ∧ w.grownBy w' none := by
  go_enter Try.func12, Try.ntmps12
  go_wp2
  go_step3
  go_wp2
  go_step3
  go_wp2
  go_loopw [4, 5, 6] (fun v x i wr => ∃ (k b : Nat) (ps : List ByteArray), k ≤ s.size ∧ b ≤ k ∧ ps.length ≤ k ∧ i = .int .i64 k ∧ x = .int .i64 b ∧ Hid (scan s k = (b, ps)) ∧ Hid (wr.ownsRow w.heap.size 9 1 v ps.length (strV ps)) ∧ Hid (w.grownBy wr none) ∧ Hid (∀ i, i < k → 32 ≤ byteAt s i ∧ byteAt s i ≤ 126))
    (fun _ _ i _ => s.size - (intOf i).toNat)
  case atStart => exact ⟨0, 0, [], Nat.zero_le _, Nat.le_refl _, Nat.le_refl _, rfl, rfl, rfl, World.ownsRow_nil _ _ _ _, World.grownBy.refl _ _, fun i h => by omega⟩
  case round =>
    obtain ⟨k, b, ps, hk, hb, hp, rfl, rfl, hsc, hown, hg, hf⟩ := hrel
    by_cases hlt : k < s.size
    · have hx := byteAt_eq s k hlt
      rcases (by omega : (s[k].toNat : Int) < 32 ∨ 126 < (s[k].toNat : Int) ∨ (s[k].toNat : Int) = 32 ∨ (32 < (s[k].toNat : Int) ∧ (s[k].toNat : Int) ≤ 126)) with h | h | h | ⟨h, h'⟩
      · have HO : Hid (out s = ([], false)) := out_bad hlt (by omega)
        clear hx
        go_wp2
        rw [Exit.noGoto_ret]
        go_ret2
        exact ⟨.slice none 0 0, 0, by rw [HO.out]; rfl, by rw [HO.out]; exact World.ownsRow_nil _ _ _ _, hg.out⟩
      · have HO : Hid (out s = ([], false)) := out_bad hlt (by omega)
        clear hx
        go_wp2
        rw [Exit.noGoto_ret]
        go_ret2
        exact ⟨.slice none 0 0, 0, by rw [HO.out]; rfl, by rw [HO.out]; exact World.ownsRow_nil _ _ _ _, hg.out⟩
      · have HS : Hid (scan s (k + 1) = (k + 1, addP ps (s.extract b k))) := by
          have := scan_blank (s := s) (i := k) (by omega)
          rw [hsc.out] at this
          exact this
        have HF : Hid (∀ i, i < k + 1 → 32 ≤ byteAt s i ∧ byteAt s i ≤ 126) := fun i hi => by
          rcases Nat.lt_or_ge i k with h1 | h1
          · exact hf.out i h1
          · obtain rfl : i = k := by omega
            omega
        have hh : ((s[k].toNat : Int) == 32) = true := by simp; omega
        have HL := addP_length ps (s.extract b k)
        have hlo : ¬ (s[k].toNat : Int) < 32 := by omega
        have hhi : ¬ 126 < (s[k].toNat : Int) := by omega
        clear hx h
        go_wp2_with (go_at_call 21; refine (withPart_any _ w.heap.size ps.length ps _ _ hown.out (by omega) hg.out.size).mono ?_; rintro e w1 ⟨v1, n1, rfl, hown1, hg1⟩; have HW1 := Lib.hid hown1; have HG1 := Lib.hid hg1; clear hown1 hg1)
        go_roundw
        case rel => exact ⟨k + 1, k + 1, addP ps (s.extract b k), by omega, Nat.le_refl _, by omega, by go_num, by go_num, HS, by rw [row_len HW1.out]; exact HW1.out, grown_trans hg.out HG1.out (fun k hk => (hown.out.lt k hk).1), HF⟩
        case measure => simp [intOf]; omega
      · have HS : Hid (scan s (k + 1) = (b, ps)) := by
          have := scan_other (s := s) (i := k) (by omega)
          rw [hsc.out] at this
          exact this
        have HF : Hid (∀ i, i < k + 1 → 32 ≤ byteAt s i ∧ byteAt s i ≤ 126) := fun i hi => by
          rcases Nat.lt_or_ge i k with h1 | h1
          · exact hf.out i h1
          · obtain rfl : i = k := by omega
            omega
        clear hx
        go_wp2
        go_roundw
        case rel => exact ⟨k + 1, b, ps, by omega, by omega, by omega, by go_num, rfl, HS, hown, hg, HF⟩
        case measure => simp [intOf]; omega
    · obtain rfl : k = s.size := by omega
      have HP : Hid (parts s = addP ps (s.extract b s.size)) := by
        unfold parts
        rw [hsc.out]
        rfl
      have HL := addP_length ps (s.extract b s.size)
      by_cases hm : (parts s).length ≤ 12
      · have HO : Hid (out s = (parts s, true)) := out_yes hs hf.out hm
        have hm2 : (addP ps (s.extract b s.size)).length ≤ 12 := by rw [← HP.out]; exact hm
        clear hm
        go_wp2_with fail
        refine (withPart_any _ w.heap.size ps.length ps _ _ hown.out (by omega) hg.out.size).mono ?_
        rintro e w1 ⟨v1, n1, rfl, hown1, hg1⟩
        have hn1 : n1 ≤ 12 := by rw [← row_len hown1]; exact hm2
        obtain ⟨a1, c1, rfl, _⟩ := row_shape hown1
        have HW1 := Lib.hid hown1
        have HG1 := Lib.hid hg1
        clear hown1 hg1
        go_wp2
        rw [Exit.noGoto_ret]
        go_ret2
        exact ⟨_, n1, by rw [HO.out]; rfl, by rw [HO.out, HP.out]; exact HW1.out, grown_trans hg.out HG1.out (fun k hk => (hown.out.lt k hk).1)⟩
      · have HO : Hid (out s = ([], false)) := out_many (by omega)
        have hm2 : 12 < (addP ps (s.extract b s.size)).length := by rw [← HP.out]; omega
        clear hm
        go_wp2_with fail
        refine (withPart_any _ w.heap.size ps.length ps _ _ hown.out (by omega) hg.out.size).mono ?_
        rintro e w1 ⟨v1, n1, rfl, hown1, hg1⟩
        have hn1 : 12 < n1 := by rw [← row_len hown1]; exact hm2
        obtain ⟨a1, c1, rfl, _⟩ := row_shape hown1
        have HW1 := Lib.hid hown1
        have HG1 := Lib.hid hg1
        clear hown1 hg1
        go_wp2
        rw [Exit.noGoto_ret]
        go_ret2
        exact ⟨.slice none 0 0, 0, by rw [HO.out]; rfl, by rw [HO.out]; exact World.ownsRow_nil _ _ _ _, grown_trans hg.out HG1.out (fun k hk => (hown.out.lt k hk).1)⟩
end Go.Proofs.Ytpoibodnjjbjeaa.Parts
