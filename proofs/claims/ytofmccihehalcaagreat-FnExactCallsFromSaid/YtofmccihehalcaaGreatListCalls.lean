/- The laws' helpers over lists of texts and of numbers, walked: counted, copied, compared. Conditions: the lists lie in memory; they have at most 2 to the 20 elements. -/
import Derived.Test.YtofmccihehalcaaGreatChecked
import Derived.Test.YtofmccihehalcaaGreatLists
import Derived.Test.YtofmccihehalcaaGreatListEq
import Derived.Test.YtofmccihehalcaaGreatTermSize
import Derived.BigQuiet
import Derived.OwnWalk
import Derived.WalkSmall
import Derived.Outline
namespace Go.Proofs.YtofmccihehalcaaGreat.Trm
open Go.RowKit Own
set_option maxHeartbeats 400000 in
theorem toStrings_any (ns : List ByteArray) (v : Value) (w : World) (hl : StrsAt w ns v) (hz : ns.length ≤ 1048576) :
    Calls Tryz.prog 60 #[v] w fun e w' => ∃ v', e = .returned v' ∧ w'.ownsRow w.heap.size 9 1 v' ns.length (strV ns) ∧ Below w.heap.size w w' := by
  obtain ⟨i0, hi, hz0, hz1, hz2⟩ := info_parts infoStrL
  obtain ⟨a, cap, rfl, h1, h2⟩ := hl
  have HK := Lib.hid h2
  clear h2
  go_enter Tryz.func60, Tryz.ntmps60
  go_wp2_with (at_make; refine wpList_make_full _ rfl (.tmp 6) (.tmp 6) 24 rfl w.heap.size 9 i0 _ 1 Tryz.underlying24 hi hz0 hz1 .i64 .i64 _ _ ns.length rfl rfl rfl rfl (by rw [hz2]; omega) (by unfold maxLen; omega) (Nat.le_refl _) ?_)
  intro w1 hown hg
  have HO := Lib.hid hown
  have HG := Lib.hid hg
  clear hown hg
  go_wp2
  go_loopw [4] (fun i wr => ∃ (k : Nat) (zs : List Value), k ≤ ns.length ∧ i = .int .i64 k ∧ Hid (wr.ownsRow w.heap.size 9 1 (.slice (some ⟨w.heap.size, 0, none⟩) ns.length ns.length) ns.length (strV (ns.take k) ++ zs)) ∧ Hid (Below w.heap.size w wr))
    (fun i _ => ns.length - (intOf i).toNat)
  case atStart => exact ⟨0, _, Nat.zero_le _, rfl, HO.out, below_noneL HG.out⟩
  case round =>
    obtain ⟨k, zs, hk, rfl, hrow, hbe⟩ := hrel
    by_cases hlt : k < ns.length
    · obtain ⟨g, o, rfl, hc⟩ := HK.out (by omega)
      have c0 := keeps_below hbe.out _ _ (hc k hlt)
      have hls := hrow.out.1
      simp only [strV, List.length_append, List.length_map, List.length_take] at hls
      obtain ⟨z, zs2, rfl⟩ : ∃ z zs2, zs = z :: zs2 := by
        cases zs with
        | nil => simp at hls; omega
        | cons z r => exact ⟨z, r, rfl⟩
      have f0 := hrow.out.frozenAt k
      obtain ⟨u0, s0⟩ : ∃ u, wr.cell? ⟨w.heap.size, k, none⟩ = some u := ⟨_, (hrow.out.cellAt k (by omega)).trans (List.getElem?_eq_getElem (by rw [hrow.out.1]; omega))⟩
      obtain ⟨hr2, hg2⟩ := hrow.out.stored k (.string ns[k])
      rw [set_mid _ _ _ _ k (by simp [strV]; omega)] at hr2
      have HR2 : Hid ((wr.setCell ⟨w.heap.size, k, none⟩ (.string ns[k])).ownsRow w.heap.size 9 1 (.slice (some ⟨w.heap.size, 0, none⟩) ns.length ns.length) ns.length (strV (ns.take (k + 1)) ++ zs2)) := by
        have e : strV (ns.take (k + 1)) = strV (ns.take k) ++ [Value.string ns[k]] := by rw [List.take_succ_eq_append_getElem hlt]; simp only [strV, List.map_append, List.map_cons, List.map_nil]
        rw [e]
        exact hr2
      have HB2 := Lib.hid (hbe.out.grown hg2 hbe.out.size (fun b hb => by cases hb; exact Nat.le_refl _))
      clear hc hls hr2 hg2
      go_wp2
      go_roundw
      case rel => exact ⟨k + 1, zs2, by omega, by go_num, HR2, HB2⟩
      case measure => simp [intOf]; omega
    · obtain rfl : k = ns.length := by omega
      have h1 := hrow.out
      rw [List.take_length] at h1
      have hz : zs = [] := by have := h1.1; simpa [strV] using this
      rw [hz, List.append_nil] at h1
      have H1 := Lib.hid h1
      clear h1 hz
      go_wp2
      go_ret
      exact ⟨_, rfl, H1.out, hbe.out⟩
def szB (ss : List ByteArray) : Nat := (ss.map (·.size)).sum
theorem szB_drop {ss : List ByteArray} {i : Nat} (h : i < ss.length) : szB (ss.drop i) = ss[i].size + szB (ss.drop (i + 1)) := by unfold szB; rw [List.drop_eq_getElem_cons h, List.map_cons, List.sum_cons]
theorem szB_end {ss : List ByteArray} {i : Nat} (h : ss.length ≤ i) : szB (ss.drop i) = 0 := by rw [List.drop_of_length_le h]; rfl
set_option maxHeartbeats 400000 in
theorem szStrings_any (ss : List ByteArray) (v : Value) (w : World) (a : Nat) (ha : a ≤ 1048576) (h1 : StrsAt w ss v) (hs : ∀ s, s ∈ ss → s.size ≤ 9223372036854775807) :
    Calls Tryz.prog 57 #[v, .int .i64 (a : Int)] w fun e w' => e = .returned (.int .i64 (leftR a (ss.length + szB ss))) ∧ w = w' := by
  obtain ⟨aa, cap, rfl, hm, ha1⟩ := h1
  have HA := Lib.hid ha1
  have HS0 := Lib.hid hs
  clear ha1 hs
  by_cases hb : a < ss.length
  · have HO := Lib.hid (leftR_no (a := a) (n := ss.length + szB ss) (by omega))
    go_enter Tryz.func57, Tryz.ntmps57
    go_wp2
    go_ret
    exact ⟨by rw [HO.out]; rfl, rfl⟩
  · go_enter Tryz.func57, Tryz.ntmps57
    go_wp2
    go_loop [1, 5] (fun x i => ∃ (k b : Nat), k ≤ ss.length ∧ b ≤ 1048576 ∧ i = .int .i64 k ∧ x = .int .i64 b ∧ Hid (leftR a (ss.length + szB ss) = leftR b (szB (ss.drop k))))
      (fun _ i => ss.length - (intOf i).toNat)
    case atStart => exact ⟨0, a - ss.length, Nat.zero_le _, by omega, rfl, by go_num, leftR_step (by omega)⟩
    case round =>
      obtain ⟨k, b, hk, hb2, rfl, rfl, hsz⟩ := hrel
      by_cases hlt : k < ss.length
      · obtain ⟨g, o, rfl, q1⟩ := HA.out (by omega)
        have d1 := q1 k hlt
        have hz := HS0.out _ (List.getElem_mem hlt)
        have hd := szB_drop hlt
        clear q1
        by_cases hle : ss[k].size ≤ b
        · have HS : Hid (leftR a (ss.length + szB ss) = leftR (b - ss[k].size) (szB (ss.drop (k + 1)))) := by
            show leftR a (ss.length + szB ss) = _
            rw [hsz.out, hd]; exact leftR_step hle
          clear hd
          go_wp2
          go_round
          case rel => exact ⟨k + 1, b - ss[k].size, by omega, by omega, by go_num, by go_num, HS⟩
          case measure => simp [intOf]; omega
        · have HS : Hid (leftR a (ss.length + szB ss) = -1) := by
            show leftR a (ss.length + szB ss) = _
            rw [hsz.out, hd]; exact leftR_no (by omega)
          clear hd
          go_wp2
          go_ret
          exact ⟨by rw [HS.out]; rfl, rfl⟩
      · have HS : Hid (leftR a (ss.length + szB ss) = (b : Int)) := by
          show leftR a (ss.length + szB ss) = _
          rw [hsz.out, szB_end (by omega), leftR_yes (by omega)]; rfl
        go_wp2
        go_ret
        exact ⟨by rw [HS.out]; rfl, rfl⟩
end Go.Proofs.YtofmccihehalcaaGreat.Trm
