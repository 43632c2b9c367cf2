/- Rows of numbers copied and compared by the laws, walked. Conditions: they lie in memory. -/
import Derived.Test.YtabpbmifegfmgaaRowWord
namespace Go.Proofs.Ytabpbmifegfmgaa.Trm
open Go.RowKit Own
set_option maxHeartbeats 400000 in
theorem toInts_any (ns : List Int) (v : Value) (w : World) (hl : IntsAt w ns v) (hz : ns.length ≤ 1048576) :
    Calls Try.prog 31 #[v] w fun e w' => ∃ v', e = .returned v' ∧ w'.ownsRow w.heap.size 3 1 v' ns.length (intV ns) ∧ Below w.heap.size w w' := by
  obtain ⟨i0, hi, hz0, hz1, hz2⟩ := info_parts infoIntL
  obtain ⟨a, cap, rfl, h1, _, h2⟩ := hl
  have HK := Lib.hid h2
  clear h2
  go_enter Try.func31, Try.ntmps31
  go_wp2_with (at_make; refine wpList_make_full _ rfl (.tmp 6) (.tmp 6) 34 rfl w.heap.size 3 i0 _ 1 Try.underlying34 hi hz0 hz1 .i64 .i64 _ _ ns.length rfl rfl rfl rfl (by rw [hz2]; omega) (by unfold maxLen; omega) (Nat.le_refl _) ?_)
  intro w1 hown hg
  have HO := Lib.hid hown
  have HG := Lib.hid hg
  clear hown hg
  go_wp2
  go_loopw [4] (fun i wr => ∃ (k : Nat) (zs : List Value), k ≤ ns.length ∧ i = .int .i64 k ∧ Hid (wr.ownsRow w.heap.size 3 1 (.slice (some ⟨w.heap.size, 0, none⟩) ns.length ns.length) ns.length (intV (ns.take k) ++ zs)) ∧ Hid (Below w.heap.size w wr))
    (fun i _ => ns.length - (intOf i).toNat)
  case atStart => exact ⟨0, _, Nat.zero_le _, rfl, HO.out, below_noneL HG.out⟩
  case round =>
    obtain ⟨k, zs, hk, rfl, hrow, hbe⟩ := hrel
    by_cases hlt : k < ns.length
    · obtain ⟨g, o, rfl, hc⟩ := HK.out (by omega)
      have c0 := keeps_below hbe.out _ _ (hc k hlt)
      have hls := hrow.out.1
      simp only [intV, List.length_append, List.length_map, List.length_take] at hls
      obtain ⟨z, zs2, rfl⟩ : ∃ z zs2, zs = z :: zs2 := by
        cases zs with
        | nil => simp at hls; omega
        | cons z r => exact ⟨z, r, rfl⟩
      have f0 := hrow.out.frozenAt k
      obtain ⟨u0, s0⟩ : ∃ u, wr.cell? ⟨w.heap.size, k, none⟩ = some u := ⟨_, (hrow.out.cellAt k (by omega)).trans (List.getElem?_eq_getElem (by rw [hrow.out.1]; omega))⟩
      obtain ⟨hr2, hg2⟩ := hrow.out.stored k (.int .i64 ns[k])
      rw [set_mid _ _ _ _ k (by simp [intV]; omega)] at hr2
      have HR2 : Hid ((wr.setCell ⟨w.heap.size, k, none⟩ (.int .i64 ns[k])).ownsRow w.heap.size 3 1 (.slice (some ⟨w.heap.size, 0, none⟩) ns.length ns.length) ns.length (intV (ns.take (k + 1)) ++ zs2)) := by
        have e : intV (ns.take (k + 1)) = intV (ns.take k) ++ [Value.int .i64 ns[k]] := by rw [List.take_succ_eq_append_getElem hlt]; simp only [intV, List.map_append, List.map_cons, List.map_nil]
        rw [e]
        exact hr2
      have HB2 := Lib.hid (hbe.out.grown hg2 hbe.out.size (fun b hb => by cases hb; exact Nat.le_refl _))
      clear hc hls hr2 hg2
      go_wp2
      go_roundw
      case rel => exact ⟨k + 1, zs2, by omega, by go_num, HR2, HB2⟩
      case measure => simp [intOf]; omega
    · obtain rfl : k = ns.length := by omega
      have h1 := hrow.out
      rw [List.take_length] at h1
      have hz : zs = [] := by have := h1.1; simpa [intV] using this
      rw [hz, List.append_nil] at h1
      have H1 := Lib.hid h1
      clear h1 hz
      go_wp2
      go_ret
      exact ⟨_, rfl, H1.out, hbe.out⟩
set_option maxHeartbeats 400000 in
theorem eqInts_at (u v : Value) (ss : List Int) (w : World) (h1 : IntsAt w ss u) (h2 : IntsAt w ss v) :
    Calls Try.prog 32 #[u, v] w fun e w' => e = .returned (.bool true) ∧ Below w.heap.size w w' := by
  obtain ⟨a1, c1, rfl, hm, _, ha1⟩ := h1
  obtain ⟨a2, c2, rfl, _, _, ha2⟩ := h2
  have HA1 := Lib.hid ha1
  have HA2 := Lib.hid ha2
  clear ha1 ha2
  go_enter Try.func32, Try.ntmps32
  go_wp2
  go_loopw [5] (fun i wr => ∃ k m : Nat, k ≤ ss.length ∧ i = .int .i64 k ∧ wr = w.drewN m)
    (fun i _ => ss.length - (intOf i).toNat)
  case atStart => exact ⟨0, 0, Nat.zero_le _, rfl, (World.drewN_zero _).symm⟩
  case round =>
    obtain ⟨k, m, hk, rfl, rfl⟩ := hrel
    by_cases hlt : k < ss.length
    · obtain ⟨g1, o1, rfl, q1⟩ := HA1.out (by omega)
      obtain ⟨g2, o2, rfl, q2⟩ := HA2.out (by omega)
      have d1 := q1 k hlt
      have d2 := q2 k hlt
      clear q1 q2
      go_wp2
      go_quiet (fail)
      go_wp2
      go_roundw
      case rel => exact ⟨k + 1, m + nq, by omega, by go_num, rfl⟩
      case measure => simp [intOf]; omega
    · go_wp2
      go_ret
      exact ⟨rfl, below_drewN (Below.refl _ _) _⟩
end Go.Proofs.Ytabpbmifegfmgaa.Trm
