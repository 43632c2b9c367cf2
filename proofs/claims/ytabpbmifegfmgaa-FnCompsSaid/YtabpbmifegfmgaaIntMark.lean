/- The laws' marks over lists of numbers that a call owns, walked: marked, found marked. Conditions: the rows are owned by the call. -/
import Derived.Test.YtabpbmifegfmgaaIntToEq
namespace Go.Proofs.Ytabpbmifegfmgaa.Trm
open Go.RowKit Own
/-- What a call that answers a list of numbers leaves. -/
def ListI (rs : List Int) (w : World) (e : Ending) (w' : World) : Prop := ∃ ov, e = .returned ov ∧ w'.ownsRow w.heap.size 3 1 ov rs.length (intV rs) ∧ Below w.heap.size w w'
/-- The marks from k on. -/
def marksI (k n : Nat) : List Int := (List.range n).map fun j => ((k + j : Nat) : Int)
theorem marksI_length (k n : Nat) : (marksI k n).length = n := by simp [marksI]
theorem marksI_at (k n j : Nat) (h : j < (marksI k n).length) : (marksI k n)[j] = ((k + j : Nat) : Int) := by simp [marksI]
theorem marksI_step (k i : Nat) (ss : List Int) (h : i < ss.length) : (marksI k i ++ ss.drop i).set i (((k + i : Nat) : Int)) = marksI k (i + 1) ++ ss.drop (i + 1) := by
  rw [List.set_append_right _ _ (by simp [marksI_length]), marksI_length, Nat.sub_self, List.drop_eq_getElem_cons h, List.set_cons_zero]
  simp [marksI, List.range_succ]
theorem intV_len {w : World} {base : Nat} {e : TypeId} {v : Value} {n : Nat} {ss : List Int} (h : w.ownsRow base e 1 v n (intV ss)) : ss.length = n := by have := h.1; simpa [intV] using this
theorem intV_cell {w : World} {base : Nat} {e : TypeId} {g n c : Nat} {ss : List Int} (h : w.ownsRow base e 1 (.slice (some ⟨g, 0, none⟩) n c) n (intV ss)) (i : Nat) (hi : i < ss.length) : w.cell? ⟨g, i, none⟩ = some (.int .i64 ss[i]) := by
  have hl := intV_len h
  rw [h.cellAt i (by omega)]
  simp [intV, hi]
theorem marksI_row {w : World} {base : Nat} {e : TypeId} {g n c k i : Nat} {ss : List Int} (h : w.ownsRow base e 1 (.slice (some ⟨g, 0, none⟩) n c) n (intV (marksI k i ++ ss.drop i))) (hi : i < ss.length) :
    (w.setCell ⟨g, i, none⟩ (.int .i64 ((k + i : Nat) : Int))).ownsRow base e 1 (.slice (some ⟨g, 0, none⟩) n c) n (intV (marksI k (i + 1) ++ ss.drop (i + 1))) ∧ w.grownBy (w.setCell ⟨g, i, none⟩ (.int .i64 ((k + i : Nat) : Int))) (some g) := by
  have := h.stored i (.int .i64 ((k + i : Nat) : Int))
  rw [← marksI_step k i ss hi]
  simpa [intV, List.map_set] using this
set_option maxHeartbeats 400000 in
theorem markInts_any (v : Value) (b n k : Nat) (ss : List Int) (w : World) (h1 : w.ownsRow b 3 1 v n (intV ss)) (hk2 : k + n ≤ 9223372036854775807) :
    Calls Try.prog 51 #[v, .int .i64 (k : Int)] w fun e w' => e = .returned (.int .i64 ((k + n : Nat) : Int)) ∧ w'.ownsRow b 3 1 v n (intV (marksI k n)) ∧ w.grownBy w' v.ownBlock := by
  obtain ⟨a1, c1, rfl, ha1⟩ := row_shape h1
  have HL : Hid (ss.length = n) := intV_len h1
  have H1 : Hid (w.ownsRow b 3 1 (.slice a1 n c1) n (intV ss)) := h1
  have HA1 : Hid (0 < n → ∃ g, a1 = some ⟨g, 0, none⟩) := ha1
  clear h1 ha1
  go_enter Try.func51, Try.ntmps51
  go_wp2
  go_loopw [1, 5] (fun x i wr => ∃ j : Nat, j ≤ n ∧ i = .int .i64 j ∧ x = .int .i64 ((k + j : Nat) : Int) ∧ Hid (wr.ownsRow b 3 1 (.slice a1 n c1) n (intV (marksI k j ++ ss.drop j)) ∧ w.grownBy wr (Value.slice a1 n c1).ownBlock))
    (fun _ i _ => n - (intOf i).toNat)
  case atStart => exact ⟨0, Nat.zero_le _, rfl, rfl, H1.out, World.grownBy.refl _ _⟩
  case round =>
    obtain ⟨j, hj, rfl, rfl, hin⟩ := hrel
    by_cases hlt : j < n
    · obtain ⟨g1, rfl⟩ := HA1.out (by omega)
      have hjs : j < ss.length := by rw [HL.out]; exact hlt
      have r1 := hin.out.1
      obtain ⟨u, cl⟩ : ∃ u, wr.cell? ⟨g1, j, none⟩ = some u := ⟨_, intV_cell r1 j (by rw [intV_len r1]; exact hlt)⟩
      have fz := r1.frozenAt j
      have R1 := Lib.hid r1
      clear r1
      go_wp2
      go_roundw
      case rel => exact ⟨j + 1, by omega, by go_num, by go_num, (marksI_row R1.out hjs).1, hin.out.2.trans (marksI_row R1.out hjs).2⟩
      case measure => simp [intOf]; omega
    · obtain rfl : j = n := by omega
      have hdr : ss.drop j = [] := List.drop_of_length_le (by rw [HL.out]; exact Nat.le_refl _)
      go_wp2
      go_ret
      have := hin.out
      rw [hdr, List.append_nil] at this
      exact ⟨rfl, this.1, this.2⟩
set_option maxHeartbeats 400000 in
theorem heldInts_any (v : Value) (b n k : Nat) (w : World) (h1 : w.ownsRow b 3 1 v n (intV (marksI k n))) (hk2 : k + n ≤ 9223372036854775807) :
    Calls Try.prog 52 #[v, .int .i64 (k : Int)] w fun e w' => e = .returned (.int .i64 ((k + n : Nat) : Int)) ∧ w.grownBy w' none := by
  obtain ⟨a1, c1, rfl, ha1⟩ := row_shape h1
  have H1 : Hid (w.ownsRow b 3 1 (.slice a1 n c1) n (intV (marksI k n))) := h1
  have HA1 : Hid (0 < n → ∃ g, a1 = some ⟨g, 0, none⟩) := ha1
  clear h1 ha1
  go_enter Try.func52, Try.ntmps52
  go_wp2
  go_loopw [1, 5] (fun x i wr => ∃ j : Nat, j ≤ n ∧ i = .int .i64 j ∧ x = .int .i64 ((k + j : Nat) : Int) ∧ Hid (w.grownBy wr none))
    (fun _ i _ => n - (intOf i).toNat)
  case atStart => exact ⟨0, Nat.zero_le _, rfl, rfl, World.grownBy.refl _ _⟩
  case round =>
    obtain ⟨j, hj, rfl, rfl, hin⟩ := hrel
    by_cases hlt : j < n
    · obtain ⟨g1, rfl⟩ := HA1.out (by omega)
      have q := intV_cell (H1.out.kept hin.out (.inr (by simp [Value.ownBlock]))) j (by rw [marksI_length]; exact hlt)
      rw [marksI_at] at q
      go_wp2
      go_roundw
      case rel => exact ⟨j + 1, by omega, by go_num, by go_num, hin.out⟩
      case measure => simp [intOf]; omega
    · obtain rfl : j = n := by omega
      go_wp2
      go_ret
      exact ⟨rfl, hin.out⟩
theorem mark_oneI (v : Value) (b n : Nat) (ss : List Int) (w : World) (h1 : w.ownsRow b 3 1 v n (intV ss)) (hn : n ≤ 9000000) :
    Calls Try.prog 51 #[v, .int .i64 1] w fun e w' => e = .returned (.int .i64 (1 + (n : Int))) ∧ w'.ownsRow b 3 1 v n (intV (marksI 1 n)) ∧ w.grownBy w' v.ownBlock := by
  have := markInts_any v b n 1 ss w h1 (by omega)
  rw [show ((1 + n : Nat) : Int) = 1 + (n : Int) from by omega] at this
  exact this
theorem held_oneI (v : Value) (b n : Nat) (w : World) (h1 : w.ownsRow b 3 1 v n (intV (marksI 1 n))) (hn : n ≤ 9000000) :
    Calls Try.prog 52 #[v, .int .i64 1] w fun e w' => e = .returned (.int .i64 (1 + (n : Int))) ∧ w.grownBy w' none := by
  have := heldInts_any v b n 1 w h1 (by omega)
  rw [show ((1 + n : Nat) : Int) = 1 + (n : Int) from by omega] at this
  exact this
end Go.Proofs.Ytabpbmifegfmgaa.Trm
