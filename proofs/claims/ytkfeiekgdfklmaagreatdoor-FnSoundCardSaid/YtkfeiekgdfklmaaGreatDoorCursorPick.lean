/- The model's draws out of a list, walked. Conditions: the code lies in memory. -/
import Derived.Test.YtkfeiekgdfklmaaGreatDoorCursor
namespace Go.Proofs.YtkfeiekgdfklmaaGreatDoor.Cur
open Go.RowKit Own Trm
set_option maxHeartbeats 400000 in
theorem pickInt_any (W0 w : World) (c : Nat) (bs : List UInt8) (bv : Value) (s : St) (h : At W0 w c bs bv s) (xs : List Int) (hx : 0 < xs.length) (hx2 : xs.length ≤ 1000000) (g cap : Nat) (T : TypeId) (z : Nat × Nat) (hg : w.heap[g]? = some (.cells (xs.map (Value.int .i64)).toArray T z)) (hgc : g ≠ c) :
    Calls Tryz.prog 185 #[.pointer (some ⟨c, 0, none⟩), .slice (some ⟨g, 0, none⟩) xs.length cap] w fun e w' => e = .returned (.int .i64 (xs.getD (pickN bs xs.length s) 0)) ∧ Next W0 w c bs bv (belowS bs (xs.length : Int) s) w' := by
  have C := Lib.hid (below_any W0 w c bs bv s (xs.length : Int) h (by unfold InI; omega))
  have hp := pickN_lt bs xs.length s hx
  rw [pickN_eq bs xs.length s hx] at C
  generalize pickN bs xs.length s = k at C hp ⊢
  have HG := Lib.hid hg
  have HE : Hid (xs.getD k 0 = xs[k]) := by show _ = _; simp [hp]
  have hlt : g < w.heap.size := by
    rcases Nat.lt_or_ge g w.heap.size with h' | h'
    · exact h'
    · rw [Array.getElem?_eq_none h'] at hg; cases hg
  clear hg h
  go_enter Tryz.func185, Tryz.ntmps185
  go_wp2_with fail
  refine C.out.mono ?_
  rintro e w1 ⟨rfl, hn⟩
  have HN := Lib.hid hn
  have hb : w1.heap[g]? = some (.cells (xs.map (Value.int .i64)).toArray T z) := (hn.2.block g hlt (by simp [hgc])).trans HG.out
  have hc := row_cell_at hb k (by simpa using hp)
  simp only [List.getElem_map] at hc
  clear hb hn
  go_wp2
  go_ret
  exact ⟨by rw [HE.out]; rfl, HN.out⟩
set_option maxHeartbeats 400000 in
theorem pick_any (W0 w : World) (c : Nat) (bs : List UInt8) (bv : Value) (s : St) (h : At W0 w c bs bv s) (xs : List ByteArray) (hx : 0 < xs.length) (hx2 : xs.length ≤ 1000000) (g cap : Nat) (T : TypeId) (z : Nat × Nat) (hg : w.heap[g]? = some (.cells (xs.map Value.string).toArray T z)) (hgc : g ≠ c) :
    Calls Tryz.prog 132 #[.pointer (some ⟨c, 0, none⟩), .slice (some ⟨g, 0, none⟩) xs.length cap] w fun e w' => e = .returned (.string (xs.getD (pickN bs xs.length s) ByteArray.empty)) ∧ Next W0 w c bs bv (belowS bs (xs.length : Int) s) w' := by
  have C := Lib.hid (below_any W0 w c bs bv s (xs.length : Int) h (by unfold InI; omega))
  have hp := pickN_lt bs xs.length s hx
  rw [pickN_eq bs xs.length s hx] at C
  generalize pickN bs xs.length s = k at C hp ⊢
  have HG := Lib.hid hg
  have HE : Hid (xs.getD k ByteArray.empty = xs[k]) := by show _ = _; simp [hp]
  have hlt : g < w.heap.size := by
    rcases Nat.lt_or_ge g w.heap.size with h' | h'
    · exact h'
    · rw [Array.getElem?_eq_none h'] at hg; cases hg
  clear hg h
  go_enter Tryz.func132, Tryz.ntmps132
  go_wp2_with fail
  refine C.out.mono ?_
  rintro e w1 ⟨rfl, hn⟩
  have HN := Lib.hid hn
  have hb : w1.heap[g]? = some (.cells (xs.map Value.string).toArray T z) := (hn.2.block g hlt (by simp [hgc])).trans HG.out
  have hc := row_cell_at hb k (by simpa using hp)
  simp only [List.getElem_map] at hc
  clear hb hn
  go_wp2
  go_ret
  exact ⟨by rw [HE.out]; rfl, HN.out⟩
end Go.Proofs.YtkfeiekgdfklmaaGreatDoor.Cur
