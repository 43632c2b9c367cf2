/- The model's TermText, walked. Conditions: the term lies in memory; it has at most 2 to the 20 kids and bytes. -/
import Derived.Test.YtokmghhnifdcpaaDoorTextMath
import Derived.Test.YtokmghhnifdcpaaDoorMovesD
import Derived.Test.YtokmghhnifdcpaaDoorTermTo
import Derived.Deep.RegionHeld3
import Derived.Deep.AppendLies
namespace Go.Proofs.YtokmghhnifdcpaaDoor.Trm
open Go.RowKit Own Decimals
theorem ret_t {a b : ByteArray} (h : a = b) : Ending.returned (.string a) = .returned (.string b) := by rw [h]
set_option maxHeartbeats 400000 in
theorem specSign_any (k : Int) (w : World) (hk3 : 3 ≤ k) (hk9 : k ≤ 9) (hk8 : k ≠ 8) : Calls Tryd.prog 18 #[.int .i64 k] w fun e w' => e = .returned (.string (pairSg k)) ∧ Below w.heap.size w w' := by
  rcases (by omega : k = 3 ∨ k = 4 ∨ k = 5 ∨ k = 6 ∨ k = 7 ∨ k = 9) with rfl | rfl | rfl | rfl | rfl | rfl
  all_goals
    clear hk3 hk9 hk8
    go_enter Tryd.func18, Tryd.ntmps18
    go_wp2
    go_ret
    exact ⟨rfl, (Below.refl _ _).alloc (Nat.le_refl _) _⟩
theorem infoU8 : (Tryd.prog.info? 5).map (fun i => (i.zero, i.size, i.bytes)) = some (some (.int .u8 0), 1, 1) := by kernel_rfl
theorem strCells_append (a b : ByteArray) : Lib.strCells (a ++ b) = Lib.strCells a ++ Lib.strCells b := by simp [Lib.strCells]
theorem one_byte (x : Int) : ∀ u ∈ [Value.int .u8 x], u.oneCell' = true := by
  intro u hu
  simp at hu
  subst hu
  rfl
def SayOk (t : Tree) : Prop := ∀ (v ov : Value) (w0 w : World) (n : Nat) (xs : List Value) (r : Nat), rightB t r = true → n + 21 + 20 * szT t ≤ 30000000 → Lies w0 t v → Below w0.heap.size w0 w → w.ownsRow w0.heap.size 5 1 ov n xs →
    Calls Tryd.prog 11 #[ov, v] w fun e w' => ∃ ov', e = .returned ov' ∧ w'.ownsRow w0.heap.size 5 1 ov' (n + (txB t).size) (xs ++ Lib.strCells (txB t)) ∧ Moves w ov w' ov'
theorem moves_none {w w' : World} (h : w.grownBy w' none) (v : Value) : Moves w v w' v := ⟨grown_but h _, .inl rfl⟩
theorem moves_below {w w' : World} (h : Below w.heap.size w w') (v : Value) : Moves w v w' v := ⟨⟨h.os, h.tape, h.output, h.size, fun i hi _ => h.block i hi⟩, .inl rfl⟩
set_option maxHeartbeats 400000 in
theorem say_num (m : Int) (s : ByteArray) (ks : List Tree) (v ov : Value) (w0 w : World) (n : Nat) (xs : List Value) (h0 : 0 ≤ m) (h1 : m ≤ 1000000000) (hn : n + 21 ≤ 30000000) (hl : Lies w0 (.node 1 m s ks) v) (hbe : Below w0.heap.size w0 w) (hown : w.ownsRow w0.heap.size 5 1 ov n xs) :
    Calls Tryd.prog 11 #[ov, v] w fun e w' => ∃ ov', e = .returned ov' ∧ w'.ownsRow w0.heap.size 5 1 ov' (n + (txB (.node 1 m s ks)).size) (xs ++ Lib.strCells (txB (.node 1 m s ks))) ∧ Moves w ov w' ov' := by
  obtain ⟨i0, hi, hz0, hz1, hz2⟩ := info_parts infoU8
  have HR : Hid (txB (.node 1 m s ks) = ⟨(Lib.itoa m).toArray⟩) := txB_num _ _ _
  have hsz : ByteArray.size ⟨(Lib.itoa m).toArray⟩ ≤ 21 := by have := itoa_small h0 h1; simpa [ByteArray.size] using this
  have C := Lib.hid (fun w => specDecimal_any m w (by omega) (by omega))
  generalize ByteArray.mk (Lib.itoa m).toArray = xt at HR hsz C
  obtain ⟨_, _, _, _, aa, cap, rfl, _⟩ := hl
  have HO := Lib.hid hown
  have hbs : w0.heap.size ≤ w.heap.size := hbe.size
  clear hown hbe h0 h1
  go_enter Tryd.func11, Tryd.ntmps11
  go_wp2_with fail
  refine (C.out _).mono ?_
  rintro e w1 ⟨rfl, hg⟩
  have M1 := Lib.hid ((Moves.alloc w _ ov).trans (moves_none hg ov))
  have R1 := Lib.hid (row_below (HO.out.alloc _) (below_none hg))
  have hs1 := M1.out.1.size
  clear hg
  go_wp2_with (at_builtin; refine wpList_append_str rfl (.tmp 9) (.tmp 12) 35 9 rfl w0.heap.size 5 i0 Tryd.underlying35 Tryd.underlying9 hi hz0 hz1 hz2 ov n xs rfl R1.out xt rfl (by unfold maxLen; omega) (by omega) (by omega) ?_)
  intro x2 w2 hr2 hm2
  have R2 := Lib.hid hr2
  have M2 := Lib.hid (M1.out.trans hm2)
  clear hr2 hm2
  go_wp2
  go_ret
  exact ⟨_, rfl, by rw [HR.out]; exact R2.out, M2.out⟩
set_option maxHeartbeats 400000 in
theorem say_var (m : Int) (s : ByteArray) (ks : List Tree) (v ov : Value) (w0 w : World) (n : Nat) (xs : List Value) (hn : n + s.size ≤ 30000000) (hl : Lies w0 (.node 2 m s ks) v) (hbe : Below w0.heap.size w0 w) (hown : w.ownsRow w0.heap.size 5 1 ov n xs) :
    Calls Tryd.prog 11 #[ov, v] w fun e w' => ∃ ov', e = .returned ov' ∧ w'.ownsRow w0.heap.size 5 1 ov' (n + (txB (.node 2 m s ks)).size) (xs ++ Lib.strCells (txB (.node 2 m s ks))) ∧ Moves w ov w' ov' := by
  obtain ⟨i0, hi, hz0, hz1, hz2⟩ := info_parts infoU8
  have HR : Hid (txB (.node 2 m s ks) = s) := txB_var _ _ _
  obtain ⟨_, _, _, _, aa, cap, rfl, _⟩ := hl
  have HO := Lib.hid hown
  have hbs : w0.heap.size ≤ w.heap.size := hbe.size
  clear hown hbe
  go_enter Tryd.func11, Tryd.ntmps11
  go_wp2_with (at_builtin; refine wpList_append_str rfl (.tmp 16) (.tmp 18) 35 9 rfl w0.heap.size 5 i0 Tryd.underlying35 Tryd.underlying9 hi hz0 hz1 hz2 ov n xs rfl (HO.out.alloc _) s rfl (by unfold maxLen; omega) (by omega) (by simp; omega) ?_)
  intro x2 w2 hr2 hm2
  have R2 := Lib.hid hr2
  have M2 := Lib.hid ((Moves.alloc _ _ _).trans hm2)
  clear hr2 hm2
  go_wp2
  go_ret
  exact ⟨_, rfl, by rw [HR.out]; exact R2.out, M2.out⟩
end Go.Proofs.YtokmghhnifdcpaaDoor.Trm
