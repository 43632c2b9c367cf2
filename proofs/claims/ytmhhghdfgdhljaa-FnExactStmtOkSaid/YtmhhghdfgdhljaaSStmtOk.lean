/- The model's StmtOk, walked. Conditions: the statement lies in memory. -/
import Derived.Test.YtmhhghdfgdhljaaSRight
namespace Go.Proofs.Ytmhhghdfgdhljaa.Trm
open Go.RowKit Own Lexs
/-- A list of one statement, laid anew. -/
theorem one_slist {w : World} {x : STree} {v : Value} (h : SLies w x v) : ∃ cs, v = .agg cs ∧ ∀ T, SListAt (w.alloc (.cells cs T)) (.slice (some ⟨w.heap.size, 0, none⟩) 1 1) [x] := by
  obtain ⟨ta, tc, ba, bc, ea, ec, rfl⟩ := h.shape
  refine ⟨_, rfl, fun T => ⟨by simp, _, 1, rfl, fun _ => ⟨w.heap.size, 0, rfl, ⟨ta, tc, ba, bc, ea, ec, ?_, ?_, ?_, ?_, ?_, ?_, ?_, ?_, h.keep (keeps_alloc _ _)⟩, trivial⟩⟩⟩ <;> simp [go_sem]
theorem specStmtOk_any (x : STree) (v : Value) (w : World) (hl : SLies w x v) :
    Calls Try.prog 21 #[v] w fun e w' => e = .returned (.bool (okXS [x])) ∧ Below w.heap.size w w' := by
  have hsh := hl.shape
  have C : Hid (∀ W, Keeps w W → W.heap.size = w.heap.size + 1 → ∀ cs, v = .agg cs → Calls Try.prog 64 #[.slice (some ⟨w.heap.size + 1, 0, none⟩) 1 1] (W.alloc (.cells cs 50)) fun e w' => e = .returned (.bool (okXS [x])) ∧ Below W.heap.size W w') := fun W hk hn cs e => by
    rw [← hn]
    obtain ⟨cs', e', h⟩ := one_slist (hl.keep hk)
    rw [e] at e'
    cases e'
    refine (specOk_any [x] _ _ (h 50)).mono ?_
    rintro e w1 ⟨rfl, hb⟩
    exact ⟨rfl, below_box1 hb⟩
  obtain ⟨ta, tc, ba, bc, ea, ec, rfl⟩ := hsh
  clear hl
  go_enter Try.func21, Try.ntmps21
  go_wp2_with fail
  refine (C.out _ (keeps_alloc _ _) (by simp) _ rfl).mono ?_
  rintro e w1 ⟨rfl, hb1⟩
  have HB1 := Lib.hid (below_box1 hb1)
  clear hb1
  go_wp2
  go_ret
  exact ⟨rfl, HB1.out⟩
end Go.Proofs.Ytmhhghdfgdhljaa.Trm
