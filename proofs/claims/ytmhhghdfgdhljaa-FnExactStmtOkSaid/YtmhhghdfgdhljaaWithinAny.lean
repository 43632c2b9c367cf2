/- The program's rightness of a statement within others, of any. Conditions: as WithinAll. -/
import Derived.Test.YtmhhghdfgdhljaaWithinAll
import Derived.Test.YtmhhghdfgdhljaaCountInImpl
namespace Go.Proofs.Ytmhhghdfgdhljaa.Trm
open Go.RowKit Own Lexs
theorem within_of (x : STree) (ihb : LOk x.body) (ihe : LOk x.els) : WOk x := fun v w r hr hz hx => by
  by_cases h : 1 ≤ x.kind ∧ x.kind ≤ 8
  · rcases (by omega : x.kind = 1 ∨ x.kind = 2 ∨ x.kind = 3 ∨ (x.kind = 4 ∨ x.kind = 5 ∨ x.kind = 6 ∨ x.kind = 7) ∨ x.kind = 8) with h | h | h | h | h
    · exact within_set x v w r hr hz hx h
    · exact within_if x ihb ihe v w r hr hz hx h
    · exact within_while x ihb v w r hr hz hx h
    · exact within_word x v w r hr hz hx h
    · exact within_skip x v w r hr hz hx h
  · exact within_none x v w r hr hz hx h
theorem within_any : ∀ x : STree, WOk x := streeInd fun _ _ _ b e ihb ihe => within_of _ (right_slist b ihb) (right_slist e ihe)
end Go.Proofs.Ytmhhghdfgdhljaa.Trm
