/- The law of Brought, walked. Conditions: the three numbers fit their kind. -/
import Derived.Test.YtpoibodnjjbjeaaChecked
import Derived.WalkKit
namespace Go.Proofs.Ytpoibodnjjbjeaa.FnExactBroughtW
open Go.RowKit
theorem walk (a0 a1 a2 : Int) (w : World) (_w0 : (Lit.int .i64 a0).wf = true) (_w1 : (Lit.int .i64 a1).wf = true) (_w2 : (Lit.int .i64 a2).wf = true) :
    Calls Try.prog 6 #[.int .i64 a0, .int .i64 a1, .int .i64 a2] w fun e w' => e = .returned (.bool true) ∧ Below w.heap.size w w' := by
  rcases (by omega : a2 < a1 ∨ (a1 ≤ a2 ∧ a0 < a1) ∨ (a1 ≤ a2 ∧ a1 ≤ a0 ∧ a2 < a0) ∨ (a1 ≤ a2 ∧ a1 ≤ a0 ∧ a0 ≤ a2)) with h | ⟨h, h1⟩ | ⟨h, h1, h2⟩ | ⟨h, h1, h2⟩
  all_goals
    go_enter Try.func6, Try.ntmps6
    go_wp2
  all_goals
    first
    | omega
    | (go_ret; exact ⟨rfl, Below.refl _ _⟩)
end Go.Proofs.Ytpoibodnjjbjeaa.FnExactBroughtW
