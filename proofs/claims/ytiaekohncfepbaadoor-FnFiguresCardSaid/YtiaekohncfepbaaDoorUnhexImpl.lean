/- The program's Unhex, walked. Conditions: none. -/
import Derived.Test.YtiaekohncfepbaaDoorChecked
import Derived.Test.YtiaekohncfepbaaDoorUnhexMath
import Derived.Test.YtiaekohncfepbaaDoorUnhexFind
import Derived.Outline
namespace Go.Proofs.YtiaekohncfepbaaDoor.Unhexes
open Go.RowKit Own

theorem infoByteI : (Tryd.prog.info? 5).map (fun i => (i.zero, i.size, i.bytes)) = some (some (.int .u8 0), 1, 1) := by kernel_rfl

set_option maxHeartbeats 400000 in
theorem implUnhex_even (s : ByteArray) (w : World) (hs : s.size ≤ 40000) (he : s.size % 2 = 0) :
    Calls Tryd.prog 8 #[.string s] w fun e w' => e = outU (unhexL s.data.toList) ∧ Below w.heap.size w w' := by
  obtain ⟨i0, hi, hz0, hz1, hz2⟩ := info_parts infoByteI
  have he' : (s.size : Int) % 2 = 0 := by omega
  go_enter Tryd.func8, Tryd.ntmps8
  go_wp2_with (at_make; refine wpList_make_own _ rfl _ _ 22 rfl w.heap.size 5 i0 (.int .u8 0) 1 Tryd.underlying22 hi hz0 hz1 _ _ _ (s.size / 2) rfl rfl (by omega) (by rw [hz2]; omega) (by unfold maxLen; omega) (by simp) ?_)
  intro w1 hown hgrow
  go_wp2
  go_loopw [4, 5] (fun v i wr => ∃ (j : Nat) (acc : List UInt8), j ≤ s.size ∧ i = .int .i64 j ∧ Hid (Read s.data.toList j acc) ∧ wr.ownsRow w.heap.size 5 1 v acc.length (acc.map byteV) ∧ Below w.heap.size w wr)
    (fun _ i _ => s.size - (intOf i).toNat)
  case atStart => exact ⟨0, [], Nat.zero_le _, rfl, Read.start _, hown, (Below.refl _ _).grown hgrow (Nat.le_refl _) (fun k h => by cases h)⟩
  case round =>
    obtain ⟨j, acc, hj, rfl, hr, hown, hb⟩ := hrel
    by_cases hlt : j < s.size
    · have hlt2 : j + 1 < s.size := by have := hr.out.1; omega
      have b1 := valI_bd s[j]
      have b2 := valI_bd s[j + 1]
      by_cases h1 : valI s[j] < 0
      · go_wp2_with (first
          | (go_at_call 15; refine (find_any _ _).mono ?_; rintro e w1 ⟨rfl, rfl⟩))
        go_ret2
        exact ⟨by rw [hr.out.badS hlt2 (.inl h1)]; rfl, hb⟩
      · by_cases h2 : valI s[j + 1] < 0
        · go_wp2_with (first
            | (go_at_call 15; refine (find_any _ _).mono ?_; rintro e w1 ⟨rfl, rfl⟩))
          go_ret2
          exact ⟨by rw [hr.out.badS hlt2 (.inr h2)]; rfl, hb⟩
        · have hor := or_figures (valI s[j]) (valI s[j + 1]) (by omega) b1.2 (by omega) b2.2
          have hmod : (16 * valI s[j] + valI s[j + 1]) % 256 = 16 * valI s[j] + valI s[j + 1] := by omega
          have hle : acc.length ≤ s.size := by have := hr.out.1; omega
          go_wp2_with (first
            | (go_at_call 15; refine (find_any _ _).mono ?_; rintro e w1 ⟨rfl, rfl⟩)
            | (at_builtin; refine wpList_append_own _ rfl (.tmp 42) (.tmp 48) 22 rfl w.heap.size 5 i0 (.int .u8 0) 1 1 Tryd.underlying22 hi hz0 hz1 hz2 rfl (by decide) u4 acc.length _ rfl (hown.alloc _) ⟨wr.heap.size, 0, none⟩ 1 1 [.int .u8 (16 * valI s[j] + valI s[j + 1])] rfl rfl (World.news_of_block (heap_alloc_new _ _)) (ints_oneCell .u8 [_]) (by unfold maxLen; omega) (by omega) (by have := hb.size; simp; omega) ?_))
          intro v1 w1 hown1 hgrow1 _
          have hb1 : Below w.heap.size w w1 := (hb.alloc hb.size _).grown hgrow1 (by have := hb.size; simp; omega) (fun k hk => (hown.lt k hk).1)
          clear hgrow1 hown hb hor hmod
          go_wp2
          go_roundw
          case rel => exact ⟨j + 2, _, by omega, by go_num, hr.out.stepS hlt2 (by omega) (by omega), by simpa [byteV_mk _ _ (by omega : 0 ≤ valI s[j]) b1.2 (by omega : 0 ≤ valI s[j + 1]) b2.2] using hown1, hb1⟩
          case measure => simp [intOf]; omega
    · have HL : Hid (unhexL s.data.toList = some acc) := hr.out.done (by simp; omega)
      have hconv := run_string_of_own (P := Tryd.prog) wr 22 9 5 _ _ _ _ Tryd.underlying22 Tryd.underlying5 Tryd.underlying9 hown
      clear hr
      go_wp2
      go_ret2
      exact ⟨by rw [HL.out]; rfl, hb⟩

theorem implUnhex_not (s : ByteArray) (w : World) (hs : 40000 < s.size ∨ (s.size ≤ 40000 ∧ s.size % 2 = 1)) (hm : s.size ≤ 9223372036854775807) :
    Calls Tryd.prog 8 #[.string s] w fun e w' => e = outU none ∧ Below w.heap.size w w' := by
  rcases hs with hs | ⟨h1, h2⟩
  · go_enter Tryd.func8, Tryd.ntmps8
    go_wp2
    all_goals
      go_ret2
      exact ⟨rfl, Below.refl _ _⟩
  · have he' : (s.size : Int) % 2 = 1 := by omega
    go_enter Tryd.func8, Tryd.ntmps8
    go_wp2
    go_ret2
    exact ⟨rfl, Below.refl _ _⟩
end Go.Proofs.YtiaekohncfepbaaDoor.Unhexes
