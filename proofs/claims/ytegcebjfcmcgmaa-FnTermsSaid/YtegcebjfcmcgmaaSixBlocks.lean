/- Six blocks laid one behind the other, and terms built of them. Without conditions. -/
import Derived.Test.YtegcebjfcmcgmaaTermFacts
import Derived.WalkKit
namespace Go.Proofs.Ytegcebjfcmcgmaa.Trm
open Go.RowKit Own
theorem alloc_at (w : World) (o : Obj) (k : Nat) : (w.alloc o).heap[k]? = if k = w.heap.size then some o else w.heap[k]? := by
  show (w.heap.push o)[k]? = _
  rw [Array.getElem?_push]
theorem alloc_sz (w : World) (o : Obj) : (w.alloc o).heap.size = w.heap.size + 1 := by
  show (w.heap.push o).size = _
  rw [Array.size_push]
theorem six (w : World) (o1 o2 o3 o4 o5 o6 : Obj) : ∃ V : World, V = (((((w.alloc o1).alloc o2).alloc o3).alloc o4).alloc o5).alloc o6 ∧ Keeps w V ∧ Below w.heap.size w V ∧ V.heap[w.heap.size]? = some o1 ∧ V.heap[w.heap.size + 1]? = some o2 ∧ V.heap[w.heap.size + 1 + 1]? = some o3 ∧ V.heap[w.heap.size + 1 + 1 + 1]? = some o4 ∧ V.heap[w.heap.size + 1 + 1 + 1 + 1]? = some o5 ∧ V.heap[w.heap.size + 1 + 1 + 1 + 1 + 1]? = some o6 := by
  refine ⟨_, rfl, (((((keeps_alloc _ _).trans (keeps_alloc _ _)).trans (keeps_alloc _ _)).trans (keeps_alloc _ _)).trans (keeps_alloc _ _)).trans (keeps_alloc _ _), ((((((Below.refl _ _).alloc (Nat.le_refl _) _).alloc (by simp only [alloc_sz]; omega) _).alloc (by simp only [alloc_sz]; omega) _).alloc (by simp only [alloc_sz]; omega) _).alloc (by simp only [alloc_sz]; omega) _).alloc (by simp only [alloc_sz]; omega) _, ?_, ?_, ?_, ?_, ?_, ?_⟩
  all_goals
    simp only [alloc_at, alloc_sz]
    repeat (first | rw [if_pos trivial] | rw [if_pos (by omega)] | rw [if_neg (by omega)])
theorem box_of {w : World} {b : Nat} {c0 c1 c2 c3 : Value} {T : TypeId} {z : Nat × Nat} (h : w.heap[b]? = some (.cells #[c0, c1, c2, c3] T z)) : Box4 w b c0 c1 c2 c3 := by
  refine ⟨?_, ?_, ?_, ?_⟩ <;> (rw [cell_of_row w b _ _ _ _ h]; rfl)
theorem lies_not {w : World} {g : Nat} {t : Tree} {a : Option Addr} {cap : Nat} (hb : Box4 w g (.int .i64 t.kind) (.int .i64 t.num) (.string t.name) (.slice a t.kids.length cap)) (hl : Lies w t (.agg #[.int .i64 t.kind, .int .i64 t.num, .string t.name, .slice a t.kids.length cap])) :
    Lies w (notT t) (.agg #[.int .i64 8, .int .i64 0, .string ⟨#[]⟩, .slice (some ⟨g, 0, none⟩) 1 1]) :=
  ⟨by unfold InI; omega, by unfold InI; omega, by decide, by simp, some ⟨g, 0, none⟩, 1, rfl, fun _ => ⟨g, 0, rfl, ⟨a, cap, hb.1, hb.2.1, hb.2.2.1, hb.2.2.2, hl⟩, trivial⟩⟩
theorem lies_sub {w : World} {g : Nat} {t u : Tree} {a a2 : Option Addr} {cap cap2 : Nat} {T : TypeId} {z : Nat × Nat} (h : w.heap[g]? = some (.cells #[.int .i64 t.kind, .int .i64 t.num, .string t.name, .slice a t.kids.length cap, .int .i64 u.kind, .int .i64 u.num, .string u.name, .slice a2 u.kids.length cap2] T z)) (hl : Lies w t (.agg #[.int .i64 t.kind, .int .i64 t.num, .string t.name, .slice a t.kids.length cap])) (hl2 : Lies w u (.agg #[.int .i64 u.kind, .int .i64 u.num, .string u.name, .slice a2 u.kids.length cap2])) :
    Lies w (subT t u) (.agg #[.int .i64 4, .int .i64 0, .string ⟨#[]⟩, .slice (some ⟨g, 0, none⟩) 2 2]) := by
  refine ⟨by unfold InI; omega, by unfold InI; omega, by decide, by simp, some ⟨g, 0, none⟩, 2, rfl, fun _ => ⟨g, 0, rfl, ⟨a, cap, ?_, ?_, ?_, ?_, hl⟩, ⟨a2, cap2, ?_, ?_, ?_, ?_, hl2⟩, trivial⟩⟩
  all_goals (rw [cell_of_row w g _ _ _ _ h]; rfl)
/-- What is asked of the drawn term. -/
theorem not_sum (ns : List ByteArray) (vs : List Int) {t : Tree} (h : rightB t 3 = true) :
    (workedT ns vs t = 0 ∧ workedT ns vs (notT t) = 1 ∧ workedT ns vs (notT (notT t)) = 0) ∨ ((workedT ns vs t == 0) = false ∧ workedT ns vs (notT t) = 0 ∧ workedT ns vs (notT (notT t)) = 1) := by
  have k0 : okB t = true := right_more_room t (by omega) h
  have k1 : okB (notT t) = true := right_more_room _ (by omega) (not_right h)
  have k2 : okB (notT (notT t)) = true := right_more_room _ (by omega) (not_right (not_right h))
  unfold workedT
  rw [if_pos k0, if_pos k1, if_pos k2, not_work ns vs (notT t), not_work]
  by_cases hz : workT ns vs t = 0
  · left; rw [hz]; simp [yesI]
  · right; simp [hz, yesI]
theorem sub_none (ns : List ByteArray) (vs : List Int) {t : Tree} (h : rightB t 3 = true) : workedT ns vs (subT t t) = 0 := by
  have k2 : okB (subT t t) = true := right_more_room _ (by omega) (sub_right h h)
  unfold workedT
  rw [if_pos k2, sub_work]
theorem worked_in (ns : List ByteArray) (vs : List Int) (t : Tree) : 0 ≤ workedT ns vs t ∧ workedT ns vs t ≤ 999 := by
  unfold workedT
  split
  · exact workT_range _ _ _
  · simp
end Go.Proofs.Ytegcebjfcmcgmaa.Trm
