/- The laws' helpers over a list of texts that the call owns, walked: alike, marked, still marked. Conditions: the rows are owned by the call. -/
import Derived.Test.YtmhhghdfgdhljaaMarkText
import Derived.Test.YtmhhghdfgdhljaaStrCells
import Derived.Deep.AppendLies
import Derived.BigQuiet
import Derived.Deep.RegionWith
import Derived.Lib.Hide
import Derived.Outline
namespace Go.Proofs.Ytmhhghdfgdhljaa.Own
open Go.RowKit
set_option maxHeartbeats 400000 in
theorem eqStrings_same (v1 v2 : Value) (b1 b2 n : Nat) (ss : List ByteArray) (w : World) (h1 : w.ownsRow b1 9 1 v1 n (strV ss)) (h2 : w.ownsRow b2 9 1 v2 n (strV ss)) :
    Calls Try.prog 29 #[v1, v2] w fun e w' => e = .returned (.bool true) ∧ ∃ m, w' = w.drewN m := by
  obtain ⟨a1, c1, rfl, ha1⟩ := row_shape h1
  obtain ⟨a2, c2, rfl, ha2⟩ := row_shape h2
  have hl := row_len h1
  have hm := row_small h1
  unfold maxLen at hm
  have H1 : Hid (w.ownsRow b1 9 1 (.slice a1 n c1) n (strV ss)) := h1
  have H2 : Hid (w.ownsRow b2 9 1 (.slice a2 n c2) n (strV ss)) := h2
  have HA1 : Hid (0 < n → ∃ g, a1 = some ⟨g, 0, none⟩) := ha1
  have HA2 : Hid (0 < n → ∃ g, a2 = some ⟨g, 0, none⟩) := ha2
  have HL : Hid (ss.length = n) := hl
  clear h1 h2 ha1 ha2 hl
  go_enter Try.func29, Try.ntmps29
  go_wp2
  go_loopw [5] (fun i wr => ∃ k m : Nat, k ≤ n ∧ i = .int .i64 k ∧ wr = w.drewN m)
    (fun i _ => n - (intOf i).toNat)
  case atStart => exact ⟨0, 0, Nat.zero_le _, rfl, (World.drewN_zero _).symm⟩
  case round =>
    obtain ⟨k, m, hk, rfl, rfl⟩ := hrel
    by_cases hlt : k < n
    · obtain ⟨g1, rfl⟩ := HA1.out (by omega)
      obtain ⟨g2, rfl⟩ := HA2.out (by omega)
      have hks : k < ss.length := by rw [HL.out]; exact hlt
      have q1 := row_cell H1.out k hks
      have q2 := row_cell H2.out k hks
      go_wp2
      go_quiet (fail)
      go_wp2
      go_roundw
      case rel => exact ⟨k + 1, m + nq, by omega, by go_num, rfl⟩
      case measure => simp [intOf]; omega
    · go_wp2
      go_ret
      exact ⟨rfl, m, rfl⟩
/-- The marks from k on. -/
def marks (k n : Nat) : List ByteArray := (List.range n).map fun j => markB (k + j)
theorem marks_length (k n : Nat) : (marks k n).length = n := by simp [marks]
theorem marks_at (k n j : Nat) (h : j < (marks k n).length) : (marks k n)[j] = markB (k + j) := by simp [marks]
theorem marks_step (k i : Nat) (ss : List ByteArray) (h : i < ss.length) : (marks k i ++ ss.drop i).set i (markB (k + i)) = marks k (i + 1) ++ ss.drop (i + 1) := by
  rw [List.set_append_right _ _ (by simp [marks_length]), marks_length, Nat.sub_self, List.drop_eq_getElem_cons h, List.set_cons_zero]
  simp [marks, List.range_succ]
theorem marks_step_row {w : World} {base : Nat} {e : TypeId} {g n c k i : Nat} {ss : List ByteArray} (h : w.ownsRow base e 1 (.slice (some ⟨g, 0, none⟩) n c) n (strV (marks k i ++ ss.drop i))) (hi : i < ss.length) :
    (w.setCell ⟨g, i, none⟩ (.string (markB (k + i)))).ownsRow base e 1 (.slice (some ⟨g, 0, none⟩) n c) n (strV (marks k (i + 1) ++ ss.drop (i + 1))) ∧ w.grownBy (w.setCell ⟨g, i, none⟩ (.string (markB (k + i)))) (some g) := by
  have := h.stored i (.string (markB (k + i)))
  rw [← marks_step k i ss hi]
  simpa [strV, List.map_set] using this

set_option maxHeartbeats 400000 in
theorem markStrings_any (v : Value) (b n k : Nat) (ss : List ByteArray) (w : World) (h1 : w.ownsRow b 9 1 v n (strV ss)) (hk1 : 1 ≤ k) (hk2 : k + n ≤ 9223372036854775807) :
    Calls Try.prog 32 #[v, .int .i64 (k : Int)] w fun e w' => e = .returned (.int .i64 ((k + n : Nat) : Int)) ∧ w'.ownsRow b 9 1 v n (strV (marks k n)) ∧ w.grownBy w' v.ownBlock := by
  obtain ⟨a1, c1, rfl, ha1⟩ := row_shape h1
  have HL : Hid (ss.length = n) := row_len h1
  have H1 : Hid (w.ownsRow b 9 1 (.slice a1 n c1) n (strV ss)) := h1
  have HA1 : Hid (0 < n → ∃ g, a1 = some ⟨g, 0, none⟩) := ha1
  clear h1 ha1
  go_enter Try.func32, Try.ntmps32
  go_wp2
  go_loopw [1, 5] (fun x i wr => ∃ j : Nat, j ≤ n ∧ i = .int .i64 j ∧ x = .int .i64 ((k + j : Nat) : Int) ∧ Hid (wr.ownsRow b 9 1 (.slice a1 n c1) n (strV (marks k j ++ ss.drop j)) ∧ w.grownBy wr (Value.slice a1 n c1).ownBlock))
    (fun _ i _ => n - (intOf i).toNat)
  case atStart => exact ⟨0, Nat.zero_le _, rfl, rfl, H1.out, World.grownBy.refl _ _⟩
  case round =>
    obtain ⟨j, hj, rfl, rfl, hin⟩ := hrel
    by_cases hlt : j < n
    · obtain ⟨g1, rfl⟩ := HA1.out (by omega)
      have hjs : j < ss.length := by rw [HL.out]; exact hlt
      go_wp2_with (go_at_call 72; refine (markText_any (k + j) _ (by omega) (by omega)).mono ?_; rintro e w1 ⟨rfl, hg1⟩; have r1 := hin.out.1.kept hg1 (.inr (by simp [Value.ownBlock])); obtain ⟨u, cl⟩ : ∃ u, w1.cell? ⟨g1, j, none⟩ = some u := ⟨_, row_cell r1 j (by rw [row_len r1]; exact hlt)⟩; have fz := r1.frozenAt j; have R1 := Lib.hid r1; clear r1)
      go_roundw
      case rel => exact ⟨j + 1, by omega, by go_num, by go_num, (marks_step_row R1.out hjs).1, hin.out.2.trans ((grown_but hg1 _).trans (marks_step_row R1.out hjs).2)⟩
      case measure => simp [intOf]; omega
    · obtain rfl : j = n := by omega
      have hdr : ss.drop j = [] := List.drop_of_length_le (by rw [HL.out]; exact Nat.le_refl _)
      go_wp2
      go_ret
      have := hin.out
      rw [hdr, List.append_nil] at this
      exact ⟨rfl, this.1, this.2⟩

set_option maxHeartbeats 400000 in
theorem heldStrings_any (v : Value) (b n k : Nat) (w : World) (h1 : w.ownsRow b 9 1 v n (strV (marks k n))) (hk1 : 1 ≤ k) (hk2 : k + n ≤ 9223372036854775807) :
    Calls Try.prog 33 #[v, .int .i64 (k : Int)] w fun e w' => e = .returned (.int .i64 ((k + n : Nat) : Int)) ∧ w.grownBy w' none := by
  obtain ⟨a1, c1, rfl, ha1⟩ := row_shape h1
  have H1 : Hid (w.ownsRow b 9 1 (.slice a1 n c1) n (strV (marks k n))) := h1
  have HA1 : Hid (0 < n → ∃ g, a1 = some ⟨g, 0, none⟩) := ha1
  clear h1 ha1
  go_enter Try.func33, Try.ntmps33
  go_wp2
  go_loopw [1, 5] (fun x i wr => ∃ j : Nat, j ≤ n ∧ i = .int .i64 j ∧ x = .int .i64 ((k + j : Nat) : Int) ∧ Hid (w.grownBy wr none))
    (fun _ i _ => n - (intOf i).toNat)
  case atStart => exact ⟨0, Nat.zero_le _, rfl, rfl, World.grownBy.refl _ _⟩
  case round =>
    obtain ⟨j, hj, rfl, rfl, hin⟩ := hrel
    by_cases hlt : j < n
    · obtain ⟨g1, rfl⟩ := HA1.out (by omega)
      have q := row_cell (H1.out.kept hin.out (.inr (by simp [Value.ownBlock]))) j (by rw [marks_length]; exact hlt)
      rw [marks_at] at q
      go_wp2
      go_region_with (go_at_call 72; refine (markText_any (k + j) _ (by omega) (by omega)).mono ?_; rintro e w1 ⟨rfl, hg1⟩; have q1 := World.grownBy.cell hg1 q (by simp))
      all_goals
        go_wp2
        go_roundw
        case rel => exact ⟨j + 1, by omega, by go_num, by go_num, grown_trans hin.out (grown_of_drew hg1) (fun _ h => by cases h)⟩
        case measure => simp [intOf]; omega
    · obtain rfl : j = n := by omega
      go_wp2
      go_ret
      exact ⟨rfl, hin.out⟩
end Go.Proofs.Ytmhhghdfgdhljaa.Own
