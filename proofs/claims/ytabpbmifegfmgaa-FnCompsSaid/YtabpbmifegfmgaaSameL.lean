/- The laws' comparison of lists of lists that are the same, walked. Conditions: both lie in memory. -/
import Derived.Test.YtabpbmifegfmgaaListsAt
namespace Go.Proofs.Ytabpbmifegfmgaa.Trm
open Go.RowKit Own
set_option maxHeartbeats 400000 in
theorem sameIntsL_at (u v : Value) (ss : List Int) (w : World) (h1 : IntsAt w ss u) (h2 : IntsAt w ss v) :
    Calls Try.prog 38 #[u, v] w fun e w' => e = .returned (.bool true) ∧ Below w.heap.size w w' := by
  obtain ⟨a1, c1, rfl, hm, _, ha1⟩ := h1
  obtain ⟨a2, c2, rfl, _, _, ha2⟩ := h2
  have HA1 := Lib.hid ha1
  have HA2 := Lib.hid ha2
  clear ha1 ha2
  go_enter Try.func38, Try.ntmps38
  go_wp2
  go_loopw [5] (fun i wr => ∃ k m : Nat, k ≤ ss.length ∧ i = .int .i64 k ∧ wr = w.drewN m)
    (fun i _ => ss.length - (intOf i).toNat)
  case atStart => exact ⟨0, 0, Nat.zero_le _, rfl, (World.drewN_zero _).symm⟩
  case round =>
    obtain ⟨k, m, hk, rfl, rfl⟩ := hrel
    by_cases hlt : k < ss.length
    · obtain ⟨g1, o1, rfl, q1⟩ := HA1.out (by omega)
      obtain ⟨g2, o2, rfl, q2⟩ := HA2.out (by omega)
      have d1 := q1 k hlt
      have d2 := q2 k hlt
      clear q1 q2
      go_wp2
      go_quiet (fail)
      go_wp2
      go_roundw
      case rel => exact ⟨k + 1, m + nq, by omega, by go_num, rfl⟩
      case measure => simp [intOf]; omega
    · go_wp2
      go_ret
      exact ⟨rfl, below_drewN (Below.refl _ _) _⟩
set_option maxHeartbeats 1600000 in
theorem sameLists_any (ls : List (List Int)) (va vb : Value) (w : World) (h1 : ListsAt w ls va) (h2 : ListsAt w ls vb) :
    Calls Try.prog 12 #[va, vb] w fun e w' => e = .returned (.bool true) ∧ Below w.heap.size w w' := by
  obtain ⟨aa, cap, rfl, hlen, hk⟩ := h1
  obtain ⟨bb, dap, rfl, _, hk2⟩ := h2
  have HK := Lib.hid hk
  have HK2 := Lib.hid hk2
  clear hk hk2
  go_enter Try.func12, Try.ntmps12
  go_wp2
  go_loopw [5] (fun i wr => ∃ (k : Nat), k ≤ ls.length ∧ i = .int .i64 k ∧ Hid (Below w.heap.size w wr))
    (fun i _ => ls.length - (intOf i).toNat)
  case atStart => exact ⟨0, Nat.zero_le _, rfl, Below.refl _ _⟩
  case round =>
    obtain ⟨k, hk, rfl, hbe⟩ := hrel
    by_cases hlt : k < ls.length
    · obtain ⟨g, o, rfl, hl⟩ := HK.out (by omega)
      obtain ⟨h, p, rfl, hm⟩ := HK2.out (by omega)
      obtain ⟨ra, rc, q0, hl2⟩ := hl k hlt
      obtain ⟨sa, sc, q1, hm2⟩ := hm k hlt
      have c0 := keeps_below hbe.out _ _ q0
      have c1 := keeps_below hbe.out _ _ q1
      have C : Hid (∀ wx, Below wr.heap.size wr wx → Calls Try.prog 38 #[.slice ra ls[k].length rc, .slice sa ls[k].length sc] wx fun e w' => e = .returned (.bool true) ∧ Below wr.heap.size wr w') :=
        fun wx hb => (sameIntsL_at _ _ ls[k] wx ((hl2.keep (keeps_below hbe.out)).keep (keeps_below hb)) ((hm2.keep (keeps_below hbe.out)).keep (keeps_below hb))).mono fun e w' ⟨he, h⟩ => ⟨he, hb.trans (h.mono hb.size)⟩
      have KS : Hid (∀ wx, Below wr.heap.size wr wx → wx.cell? ⟨g, o + k, none⟩ = some (.slice ra ls[k].length rc) ∧ wx.cell? ⟨h, p + k, none⟩ = some (.slice sa ls[k].length sc) ∧ Below wr.heap.size wr wx) := fun wx hb => by
        have hk := keeps_below hb
        exact ⟨hk _ _ c0, hk _ _ c1, hb⟩
      have b0 : Below wr.heap.size wr wr.drew := (Below.refl _ _).drew
      clear hl hm hl2 hm2 q0 q1 c0 c1
      go_wp2_with fail
      go_region_held3 (fun wx => wx.cell? ⟨g, o + k, none⟩ = some (.slice ra ls[k].length rc) ∧ wx.cell? ⟨h, p + k, none⟩ = some (.slice sa ls[k].length sc) ∧ Below wr.heap.size wr wx)
        (exact KS.out _ (by assumption))
        (first
        | (go_at_call 38; (with_reducible refine (C.out _ (by assumption)).mono ?_); rintro e w1 ⟨rfl, b1⟩))
      all_goals
        have HB1 := Lib.hid (hbe.out.trans (b1.mono hbe.out.size))
        clear b1
        go_wp2
        go_roundw
        case rel => exact ⟨k + 1, by omega, by go_num, HB1⟩
        case measure => simp [intOf]; omega
    · go_wp2
      go_ret
      exact ⟨rfl, hbe.out⟩
end Go.Proofs.Ytabpbmifegfmgaa.Trm
