/- The program's Hex, walked: it hands back the figures of each byte, and touches nothing that was there. Conditions: none. -/
import Derived.Test.YtiaekohncfepbaaDoorChecked
import Derived.Test.YtiaekohncfepbaaDoorHexMath
import Derived.Deep.RegionLaw
import Derived.Deep.AppendLies
import Derived.Outline
namespace Go.Proofs.YtiaekohncfepbaaDoor.Hexes
open Go.RowKit Own
theorem infoByteI : (Tryd.prog.info? 5).map (fun i => (i.zero, i.size, i.bytes)) = some (some (.int .u8 0), 1, 1) := by kernel_rfl

theorem and15 (b : UInt8) : bits BinOp.and IntKind.u8 (b.toNat : Int) 15 = (b.toNat : Int) % 16 := by
  have h : ∀ n : Fin 256, bits BinOp.and IntKind.u8 (n.val : Int) 15 = (n.val : Int) % 16 := by decide +kernel
  exact h ⟨b.toNat, b.toNat_lt⟩

theorem figure_at (x : Int) (h0 : 0 ≤ x) (h : x < 16) (hp : x.toNat < (⟨#[48, 49, 50, 51, 52, 53, 54, 55, 56, 57, 97, 98, 99, 100, 101, 102]⟩ : ByteArray).size) :
    (((⟨#[48, 49, 50, 51, 52, 53, 54, 55, 56, 57, 97, 98, 99, 100, 101, 102]⟩ : ByteArray)[x.toNat]'hp).toNat : Int) = figI x := by
  obtain ⟨n, rfl⟩ := Int.eq_ofNat_of_zero_le h0
  have hn : n < 16 := by omega
  have h : ∀ n : Fin 16, (((⟨#[48, 49, 50, 51, 52, 53, 54, 55, 56, 57, 97, 98, 99, 100, 101, 102]⟩ : ByteArray)[n.val]'(n.isLt)).toNat : Int) = figI n.val := by decide +kernel
  exact h ⟨n, hn⟩

set_option maxHeartbeats 400000 in
theorem implHex_short (s : ByteArray) (w : World) (hs : s.size ≤ 20000) :
    Calls Tryd.prog 7 #[.string s] w fun e w' => e = .returned (.tuple #[.string ⟨(hexL s.data.toList).toArray⟩, .bool true]) ∧ Below w.heap.size w w' := by
  obtain ⟨i0, hi, hz0, hz1, hz2⟩ := info_parts infoByteI
  go_enter Tryd.func7, Tryd.ntmps7
  go_wp2_with (at_make; refine wpList_make_own _ rfl _ _ 22 rfl w.heap.size 5 i0 (.int .u8 0) 1 Tryd.underlying22 hi hz0 hz1 _ _ _ (2 * s.size) rfl rfl (by omega) (by rw [hz2]; omega) (by unfold maxLen; omega) (by simp) ?_)
  intro w1 hown hgrow
  go_wp2
  go_loopw [4, 16] (fun v i wr => ∃ k : Nat, k ≤ s.size ∧ i = .int .i64 k ∧ wr.ownsRow w.heap.size 5 1 v (2 * k) ((hexL (s.data.toList.take k)).map byteV) ∧ Below w.heap.size w wr)
    (fun _ i _ => s.size - (intOf i).toNat)
  case atStart => exact ⟨0, Nat.zero_le _, rfl, hown, (Below.refl _ _).grown hgrow (Nat.le_refl _) (fun k h => by cases h)⟩
  case round =>
    obtain ⟨k, hk, rfl, hown, hb⟩ := hrel
    by_cases hlt : k < s.size
    · have hby : s[k].toNat < 256 := s[k].toNat_lt
      have ha := and15 s[k]
      have hq0 : (0 : Int) ≤ (s[k].toNat : Int) / 16 := by omega
      have hq1 : (s[k].toNat : Int) / 16 < 16 := by omega
      have hr0 : (0 : Int) ≤ (s[k].toNat : Int) % 16 := by omega
      have hr1 : (s[k].toNat : Int) % 16 < 16 := by omega
      have hf := figure_at ((s[k].toNat : Int) / 16) hq0 hq1 (by show _ < 16; omega)
      have hg := figure_at ((s[k].toNat : Int) % 16) hr0 hr1 (by show _ < 16; omega)
      go_wp2
      go_region_law (first
        | (refine step_append_lies _ rfl (.tmp 22) (.tmp 29) 22 rfl w.heap.size 5 i0 (.int .u8 0) 1 1 Tryd.underlying22 hi hz0 hz1 hz2 rfl (by decide) u4 (2 * k) _ rfl (hown.alloc _) ⟨wr.heap.size, 0, none⟩ 2 2 [.int .u8 (figI ((s[k].toNat : Int) / 16)), .int .u8 (figI ((s[k].toNat : Int) % 16))] rfl rfl (World.news_of_block (heap_alloc_new _ _)) (two_oneCell _ _ _ _) (by decide) (by unfold maxLen; omega) (by omega) (by have := hb.size; simp; omega) _ rfl ?_; intro g cap w1 hown1 hgrow1 _ _))
      all_goals
        clear ha hq0 hq1 hr0 hr1 hf hg
        have hb1 : Below w.heap.size w w1 := ((hb.drew).alloc hb.size _).grown hgrow1 (by have := hb.size; simp; omega) (fun k hk => (hown.lt k hk).1)
        clear hgrow1 hown hb
        go_wp2
        go_roundw
        case rel => exact ⟨k + 1, by omega, by go_num, by rw [show 2 * (k + 1) = 2 * k + 2 from by omega, hexL_step s k hlt]; exact hown1, hb1⟩
        case measure => simp [intOf]; omega
    · obtain rfl : k = s.size := by omega
      have hl : List.take s.size s.data.toList = s.data.toList := take_all s
      rw [hl] at hown
      clear hl
      have hconv := run_string_of_own (P := Tryd.prog) wr 22 9 5 _ _ _ _ Tryd.underlying22 Tryd.underlying5 Tryd.underlying9 hown
      go_wp2
      go_ret2
      exact ⟨rfl, hb⟩

theorem implHex_long (s : ByteArray) (w : World) (hs : 20000 < s.size) (hm : s.size ≤ 9223372036854775807) :
    Calls Tryd.prog 7 #[.string s] w fun e w' => e = .returned (.tuple #[.string ⟨#[]⟩, .bool false]) ∧ Below w.heap.size w w' := by
  go_enter Tryd.func7, Tryd.ntmps7
  go_wp2
  go_ret2
  exact ⟨rfl, Below.refl _ _⟩
end Go.Proofs.YtiaekohncfepbaaDoor.Hexes
