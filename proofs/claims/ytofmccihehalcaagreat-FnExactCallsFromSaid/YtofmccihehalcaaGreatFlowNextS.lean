/- What comes next of the model, walked, by the kind of the instruction. Conditions: the code lies in memory and is right; the place is there. -/
import Derived.Test.YtofmccihehalcaaGreatFlowM
import Derived.Test.YtofmccihehalcaaGreatKOkSpec
import Derived.Test.YtofmccihehalcaaGreatIntMarks
namespace Go.Proofs.YtofmccihehalcaaGreat.Trm
open Go.RowKit Own
theorem litI0 (w : World) : (w.alloc (.cells #[] 3)).ownsRow w.heap.size 3 1 (.slice (some ⟨w.heap.size, 0, none⟩) 0 0) 0 (intV []) := by
  refine ⟨rfl, .inr ⟨w.heap.size, 0, _, rfl, Nat.le_refl _, heap_alloc_new w _, Nat.le_refl _, by unfold maxLen; omega, ?_, ?_⟩⟩ <;> simp [intV]
theorem litI1 (w : World) (x : Int) : (w.alloc (.cells #[.int .i64 x] 3)).ownsRow w.heap.size 3 1 (.slice (some ⟨w.heap.size, 0, none⟩) 1 1) 1 (intV [x]) := by
  refine ⟨rfl, .inr ⟨w.heap.size, 1, _, rfl, Nat.le_refl _, heap_alloc_new w _, Nat.le_refl _, by unfold maxLen; omega, ?_, ?_⟩⟩ <;> simp [intV]
theorem litI2 (w : World) (x y : Int) : (w.alloc (.cells #[.int .i64 x, .int .i64 y] 3)).ownsRow w.heap.size 3 1 (.slice (some ⟨w.heap.size, 0, none⟩) 2 2) 2 (intV [x, y]) := by
  refine ⟨rfl, .inr ⟨w.heap.size, 2, _, rfl, Nat.le_refl _, heap_alloc_new w _, Nat.le_refl _, by unfold maxLen; omega, ?_, ?_⟩⟩ <;> simp [intV]
theorem listI0 {w w' : World} {rs : List Int} (hr : rs = []) (hb : Below w.heap.size w w') (k : Nat) (hk : k = w'.heap.size) : ListI rs w (.returned (.slice (some ⟨k, 0, none⟩) 0 0)) (w'.alloc (.cells #[] 3)) := by
  subst hr hk
  exact ⟨_, rfl, (litI0 w').mono hb.size, hb.alloc hb.size _⟩
theorem listI1 {w w' : World} {rs : List Int} {x : Int} (hr : rs = [x]) (hb : Below w.heap.size w w') (k : Nat) (hk : k = w'.heap.size) : ListI rs w (.returned (.slice (some ⟨k, 0, none⟩) 1 1)) (w'.alloc (.cells #[.int .i64 x] 3)) := by
  subst hr hk
  exact ⟨_, rfl, (litI1 w' x).mono hb.size, hb.alloc hb.size _⟩
theorem listI2 {w w' : World} {rs : List Int} {x y : Int} (hr : rs = [x, y]) (hb : Below w.heap.size w w') (k : Nat) (hk : k = w'.heap.size) : ListI rs w (.returned (.slice (some ⟨k, 0, none⟩) 2 2)) (w'.alloc (.cells #[.int .i64 x, .int .i64 y] 3)) := by
  subst hr hk
  exact ⟨_, rfl, (litI2 w' x y).mono hb.size, hb.alloc hb.size _⟩

set_option maxHeartbeats 1600000 in
theorem specNext_same (_ a : Int) (t : Tree) (i n : Nat) (gv lv pv ev : Value) (g o ic tc : Nat) (ta : Option Addr) (w : World) (hi : i < n) (hn : n ≤ 1500) (c0 : w.cell? ⟨g, o + i * 7, none⟩ = some (.int .i64 2)) (c1 : w.cell? ⟨g, o + i * 7 + 1, none⟩ = some (.int .i64 a)) (c2 : w.cell? ⟨g, o + i * 7 + 2, none⟩ = some (.int .i64 t.kind)) (c3 : w.cell? ⟨g, o + i * 7 + 3, none⟩ = some (.int .i64 t.num)) (c4 : w.cell? ⟨g, o + i * 7 + 4, none⟩ = some (.string t.name)) (c5 : w.cell? ⟨g, o + i * 7 + 5, none⟩ = some (.slice ta t.kids.length tc)) (c6 : w.cell? ⟨g, o + i * 7 + 6, none⟩ = some (.int .i64 ((i : Int) + 1))) :
    Calls Tryz.prog 104 #[.agg #[gv, lv, pv, ev, .slice (some ⟨g, o, none⟩) n ic], .int .i64 (i : Int)] w (ListI (upI (nextN i ⟨2, a, t, (i : Int) + 1⟩)) w) := by

  have HE : Hid (upI (nextN i ⟨2, a, t, (i : Int) + 1⟩) = [(i : Int) + 1]) := by
    show _ = _
    unfold nextN upI
    rw [if_pos rfl, if_pos rfl]
    simp
  generalize upI (nextN i ⟨2, a, t, (i : Int) + 1⟩) = rs at *
  have Y0 := Lib.hid (Box5.new w gv lv pv ev (.slice (some ⟨g, o, none⟩) n ic) 28)
  have B0 := Lib.hid ((Below.refl w.heap.size w).alloc (Nat.le_refl _) (.cells #[gv, lv, pv, ev, .slice (some ⟨g, o, none⟩) n ic] 28))
  obtain ⟨p0, p1, p2, p3, p4⟩ := Y0.out
  have K1 := keeps_alloc w (.cells #[gv, lv, pv, ev, .slice (some ⟨g, o, none⟩) n ic] 28)
  replace c0 := K1 _ _ c0
  replace c1 := K1 _ _ c1
  replace c2 := K1 _ _ c2
  replace c3 := K1 _ _ c3
  replace c4 := K1 _ _ c4
  replace c5 := K1 _ _ c5
  replace c6 := K1 _ _ c6
  have B1 := Lib.hid (B0.out.alloc B0.out.size (.cells #[.int .i64 2, .int .i64 a, .int .i64 t.kind, .int .i64 t.num, .string t.name, .slice ta t.kids.length tc, .int .i64 ((i : Int) + 1)] 47))
  clear K1
  go_enter Tryz.func104, Tryz.ntmps104
  go_wp2
  go_ret
  exact listI1 HE.out B1.out _ (by simp)

set_option maxHeartbeats 1600000 in
theorem specNext_test (_ a u : Int) (t : Tree) (i n : Nat) (gv lv pv ev : Value) (g o ic tc : Nat) (ta : Option Addr) (w : World) (hi : i < n) (hn : n ≤ 1500) (hu : u ≠ (i : Int) + 1) (h0 : 0 ≤ u) (c0 : w.cell? ⟨g, o + i * 7, none⟩ = some (.int .i64 2)) (c1 : w.cell? ⟨g, o + i * 7 + 1, none⟩ = some (.int .i64 a)) (c2 : w.cell? ⟨g, o + i * 7 + 2, none⟩ = some (.int .i64 t.kind)) (c3 : w.cell? ⟨g, o + i * 7 + 3, none⟩ = some (.int .i64 t.num)) (c4 : w.cell? ⟨g, o + i * 7 + 4, none⟩ = some (.string t.name)) (c5 : w.cell? ⟨g, o + i * 7 + 5, none⟩ = some (.slice ta t.kids.length tc)) (c6 : w.cell? ⟨g, o + i * 7 + 6, none⟩ = some (.int .i64 u)) :
    Calls Tryz.prog 104 #[.agg #[gv, lv, pv, ev, .slice (some ⟨g, o, none⟩) n ic], .int .i64 (i : Int)] w (ListI (upI (nextN i ⟨2, a, t, u⟩)) w) := by

  have ku : (u == (i : Int) + 1) = false := by rw [beq_eq_false_iff_ne]; exact hu
  have HE : Hid (upI (nextN i ⟨2, a, t, u⟩) = [(i : Int) + 1, u]) := by
    show _ = _
    unfold nextN upI
    rw [if_pos rfl, if_neg hu]
    simp
    omega
  generalize upI (nextN i ⟨2, a, t, u⟩) = rs at *
  have Y0 := Lib.hid (Box5.new w gv lv pv ev (.slice (some ⟨g, o, none⟩) n ic) 28)
  have B0 := Lib.hid ((Below.refl w.heap.size w).alloc (Nat.le_refl _) (.cells #[gv, lv, pv, ev, .slice (some ⟨g, o, none⟩) n ic] 28))
  obtain ⟨p0, p1, p2, p3, p4⟩ := Y0.out
  have K1 := keeps_alloc w (.cells #[gv, lv, pv, ev, .slice (some ⟨g, o, none⟩) n ic] 28)
  replace c0 := K1 _ _ c0
  replace c1 := K1 _ _ c1
  replace c2 := K1 _ _ c2
  replace c3 := K1 _ _ c3
  replace c4 := K1 _ _ c4
  replace c5 := K1 _ _ c5
  replace c6 := K1 _ _ c6
  have B1 := Lib.hid (B0.out.alloc B0.out.size (.cells #[.int .i64 2, .int .i64 a, .int .i64 t.kind, .int .i64 t.num, .string t.name, .slice ta t.kids.length tc, .int .i64 u] 47))
  clear K1
  go_enter Tryz.func104, Tryz.ntmps104
  go_wp2
  go_ret
  exact listI2 HE.out B1.out _ (by simp)

set_option maxHeartbeats 1600000 in
theorem specNext_jump (_ a u : Int) (t : Tree) (i n : Nat) (gv lv pv ev : Value) (g o ic tc : Nat) (ta : Option Addr) (w : World) (hi : i < n) (_ : n ≤ 1500) (h0 : 0 ≤ u) (c0 : w.cell? ⟨g, o + i * 7, none⟩ = some (.int .i64 3)) (c1 : w.cell? ⟨g, o + i * 7 + 1, none⟩ = some (.int .i64 a)) (c2 : w.cell? ⟨g, o + i * 7 + 2, none⟩ = some (.int .i64 t.kind)) (c3 : w.cell? ⟨g, o + i * 7 + 3, none⟩ = some (.int .i64 t.num)) (c4 : w.cell? ⟨g, o + i * 7 + 4, none⟩ = some (.string t.name)) (c5 : w.cell? ⟨g, o + i * 7 + 5, none⟩ = some (.slice ta t.kids.length tc)) (c6 : w.cell? ⟨g, o + i * 7 + 6, none⟩ = some (.int .i64 u)) :
    Calls Tryz.prog 104 #[.agg #[gv, lv, pv, ev, .slice (some ⟨g, o, none⟩) n ic], .int .i64 (i : Int)] w (ListI (upI (nextN i ⟨3, a, t, u⟩)) w) := by

  have HE : Hid (upI (nextN i ⟨3, a, t, u⟩) = [u]) := by
    show _ = _
    unfold nextN upI
    rw [if_neg (by show ¬ ((3 : Int) = 2); decide), if_pos rfl]
    simp
    omega
  generalize upI (nextN i ⟨3, a, t, u⟩) = rs at *
  have Y0 := Lib.hid (Box5.new w gv lv pv ev (.slice (some ⟨g, o, none⟩) n ic) 28)
  have B0 := Lib.hid ((Below.refl w.heap.size w).alloc (Nat.le_refl _) (.cells #[gv, lv, pv, ev, .slice (some ⟨g, o, none⟩) n ic] 28))
  obtain ⟨p0, p1, p2, p3, p4⟩ := Y0.out
  have K1 := keeps_alloc w (.cells #[gv, lv, pv, ev, .slice (some ⟨g, o, none⟩) n ic] 28)
  replace c0 := K1 _ _ c0
  replace c1 := K1 _ _ c1
  replace c2 := K1 _ _ c2
  replace c3 := K1 _ _ c3
  replace c4 := K1 _ _ c4
  replace c5 := K1 _ _ c5
  replace c6 := K1 _ _ c6
  have B1 := Lib.hid (B0.out.alloc B0.out.size (.cells #[.int .i64 3, .int .i64 a, .int .i64 t.kind, .int .i64 t.num, .string t.name, .slice ta t.kids.length tc, .int .i64 u] 47))
  clear K1
  go_enter Tryz.func104, Tryz.ntmps104
  go_wp2
  go_ret
  exact listI1 HE.out B1.out _ (by simp)

set_option maxHeartbeats 1600000 in
theorem specNext_end (_ a u : Int) (t : Tree) (i n : Nat) (gv lv pv ev : Value) (g o ic tc : Nat) (ta : Option Addr) (w : World) (hi : i < n) (_ : n ≤ 1500) (c0 : w.cell? ⟨g, o + i * 7, none⟩ = some (.int .i64 9)) (c1 : w.cell? ⟨g, o + i * 7 + 1, none⟩ = some (.int .i64 a)) (c2 : w.cell? ⟨g, o + i * 7 + 2, none⟩ = some (.int .i64 t.kind)) (c3 : w.cell? ⟨g, o + i * 7 + 3, none⟩ = some (.int .i64 t.num)) (c4 : w.cell? ⟨g, o + i * 7 + 4, none⟩ = some (.string t.name)) (c5 : w.cell? ⟨g, o + i * 7 + 5, none⟩ = some (.slice ta t.kids.length tc)) (c6 : w.cell? ⟨g, o + i * 7 + 6, none⟩ = some (.int .i64 u)) :
    Calls Tryz.prog 104 #[.agg #[gv, lv, pv, ev, .slice (some ⟨g, o, none⟩) n ic], .int .i64 (i : Int)] w (ListI (upI (nextN i ⟨9, a, t, u⟩)) w) := by

  have HE : Hid (upI (nextN i ⟨9, a, t, u⟩) = []) := by
    show _ = _
    unfold nextN upI
    rw [if_neg (by show ¬ ((9 : Int) = 2); decide), if_neg (by show ¬ ((9 : Int) = 3); decide), if_pos rfl]
    rfl
  generalize upI (nextN i ⟨9, a, t, u⟩) = rs at *
  have Y0 := Lib.hid (Box5.new w gv lv pv ev (.slice (some ⟨g, o, none⟩) n ic) 28)
  have B0 := Lib.hid ((Below.refl w.heap.size w).alloc (Nat.le_refl _) (.cells #[gv, lv, pv, ev, .slice (some ⟨g, o, none⟩) n ic] 28))
  obtain ⟨p0, p1, p2, p3, p4⟩ := Y0.out
  have K1 := keeps_alloc w (.cells #[gv, lv, pv, ev, .slice (some ⟨g, o, none⟩) n ic] 28)
  replace c0 := K1 _ _ c0
  replace c1 := K1 _ _ c1
  replace c2 := K1 _ _ c2
  replace c3 := K1 _ _ c3
  replace c4 := K1 _ _ c4
  replace c5 := K1 _ _ c5
  replace c6 := K1 _ _ c6
  have B1 := Lib.hid (B0.out.alloc B0.out.size (.cells #[.int .i64 9, .int .i64 a, .int .i64 t.kind, .int .i64 t.num, .string t.name, .slice ta t.kids.length tc, .int .i64 u] 47))
  clear K1
  go_enter Tryz.func104, Tryz.ntmps104
  go_wp2
  go_ret
  exact listI0 HE.out B1.out _ (by simp)

set_option maxHeartbeats 1600000 in
theorem specNext_else (op a u : Int) (t : Tree) (i n : Nat) (gv lv pv ev : Value) (g o ic tc : Nat) (ta : Option Addr) (w : World) (hi : i < n) (hn : n ≤ 1500) (h2 : op ≠ 2) (h3 : op ≠ 3) (h9 : op ≠ 9) (c0 : w.cell? ⟨g, o + i * 7, none⟩ = some (.int .i64 op)) (c1 : w.cell? ⟨g, o + i * 7 + 1, none⟩ = some (.int .i64 a)) (c2 : w.cell? ⟨g, o + i * 7 + 2, none⟩ = some (.int .i64 t.kind)) (c3 : w.cell? ⟨g, o + i * 7 + 3, none⟩ = some (.int .i64 t.num)) (c4 : w.cell? ⟨g, o + i * 7 + 4, none⟩ = some (.string t.name)) (c5 : w.cell? ⟨g, o + i * 7 + 5, none⟩ = some (.slice ta t.kids.length tc)) (c6 : w.cell? ⟨g, o + i * 7 + 6, none⟩ = some (.int .i64 u)) :
    Calls Tryz.prog 104 #[.agg #[gv, lv, pv, ev, .slice (some ⟨g, o, none⟩) n ic], .int .i64 (i : Int)] w (ListI (upI (nextN i ⟨op, a, t, u⟩)) w) := by

  have k2 : (op == 2) = false := by rw [beq_eq_false_iff_ne]; exact h2
  have k3 : (op == 3) = false := by rw [beq_eq_false_iff_ne]; exact h3
  have k9 : (op == 9) = false := by rw [beq_eq_false_iff_ne]; exact h9
  have HE : Hid (upI (nextN i ⟨op, a, t, u⟩) = [(i : Int) + 1]) := by
    show _ = _
    unfold nextN upI
    rw [if_neg h2, if_neg h3, if_neg h9]
    simp
  generalize upI (nextN i ⟨op, a, t, u⟩) = rs at *
  have Y0 := Lib.hid (Box5.new w gv lv pv ev (.slice (some ⟨g, o, none⟩) n ic) 28)
  have B0 := Lib.hid ((Below.refl w.heap.size w).alloc (Nat.le_refl _) (.cells #[gv, lv, pv, ev, .slice (some ⟨g, o, none⟩) n ic] 28))
  obtain ⟨p0, p1, p2, p3, p4⟩ := Y0.out
  have K1 := keeps_alloc w (.cells #[gv, lv, pv, ev, .slice (some ⟨g, o, none⟩) n ic] 28)
  replace c0 := K1 _ _ c0
  replace c1 := K1 _ _ c1
  replace c2 := K1 _ _ c2
  replace c3 := K1 _ _ c3
  replace c4 := K1 _ _ c4
  replace c5 := K1 _ _ c5
  replace c6 := K1 _ _ c6
  have B1 := Lib.hid (B0.out.alloc B0.out.size (.cells #[.int .i64 op, .int .i64 a, .int .i64 t.kind, .int .i64 t.num, .string t.name, .slice ta t.kids.length tc, .int .i64 u] 47))
  clear K1
  go_enter Tryz.func104, Tryz.ntmps104
  go_wp2
  go_ret
  exact listI1 HE.out B1.out _ (by simp)

theorem specNext_any (y : InsT) (i n : Nat) (gv lv pv ev : Value) (g o ic : Nat) (w : World) (hi : i < n) (hn : n ≤ 1500) (hel : IElem w g (o + i * 7) y) (hto : y.op = 2 ∨ y.op = 3 → 0 ≤ y.to) :
    Calls Tryz.prog 104 #[.agg #[gv, lv, pv, ev, .slice (some ⟨g, o, none⟩) n ic], .int .i64 (i : Int)] w (ListI (upI (nextN i y)) w) := by
  obtain ⟨op, a, t, u⟩ := y
  obtain ⟨_, _, _, ta, tc, c0, c1, c2, c3, c4, c5, c6, _⟩ := hel
  by_cases h2 : op = 2
  · subst h2
    by_cases hu : u = (i : Int) + 1
    · subst hu
      exact specNext_same 2 a t i n gv lv pv ev g o ic tc ta w hi hn c0 c1 c2 c3 c4 c5 c6
    · exact specNext_test 2 a u t i n gv lv pv ev g o ic tc ta w hi hn hu (hto (.inl rfl)) c0 c1 c2 c3 c4 c5 c6
  · by_cases h3 : op = 3
    · subst h3
      exact specNext_jump 3 a u t i n gv lv pv ev g o ic tc ta w hi hn (hto (.inr rfl)) c0 c1 c2 c3 c4 c5 c6
    · by_cases h9 : op = 9
      · subst h9
        exact specNext_end 9 a u t i n gv lv pv ev g o ic tc ta w hi hn c0 c1 c2 c3 c4 c5 c6
      · exact specNext_else op a u t i n gv lv pv ev g o ic tc ta w hi hn h2 h3 h9 c0 c1 c2 c3 c4 c5 c6
end Go.Proofs.YtofmccihehalcaaGreat.Trm
