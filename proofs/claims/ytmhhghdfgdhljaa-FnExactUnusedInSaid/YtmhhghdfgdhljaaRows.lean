/-
  NARROWER THAN 'FOR EVERY INPUT', by the rows' own cells (each row's printed sentence says how): FnExactCodeOk: loops · FnExactProcOf: loops · FnExactEndOf: loops · FnExactStmtOk: loops · FnExactNamesIn: loops · FnExactProgOk: loops · FnExactUnknownIn: loops · FnExactUnusedIn: loops.
  DERIVED. THE GIVEN ROWS OF THIS SEAT. 8 by the template 'for every input the law returns true; each argument reads behind the call as it read before'; 0 by the template 'total and deterministic' (their statements: YtmhhghdfgdhljaaTotals.lean).
  GIVEN WITH THE SEED: the statements are not yours to turn. If you find one false, say at which input.
  Laid BY PROGRAM, IN A SANDBOX (cutbox-rows.mjs): the forced cells as the released guide's own fill.sh prints them over the translation 97ae6edcc1a832be… (all of the seat's roots in one cut). By AI agents, Wed Nov 11 2026. No macro, syntax, notation, axiom, sorry.
-/
import Derived.Test.YtmhhghdfgdhljaaChecked
import GoSem.Claim
import GoSem.ClaimJoined
import GoSem.ClaimMapViews
import Derived.JoinedTies
import Derived.KernelRfl
namespace Go.Proofs.Ytmhhghdfgdhljaa
/- THE CELL 'sum', in the pinned program and in every row, IS THE sha256 OF THE DUMP (.gsa) THAT YtmhhghdfgdhljaaProg.lean LOADS. Nothing in Lean hashes anything: it is a label: what it is worth is what the hold of that sum in a sandbox is worth. -/
noncomputable def Try.pinned : Pinned := { name := "ytmhhghdfgdhljaa", sum := "97ae6edcc1a832be0dbdd244fe3acf6ac8157c2b92b07b1ff6407b63f2b14285", checked := Try.checked }
namespace Rows
def none {H : Type} : Left H := { results := [], args := [] }

/-- 'laws.FnExactCodeOk': WHATEVER THE INPUT: true; the input reads as it did. -/
def fnExactCodeOkSpec : ChangeSpec := { name := "fnExactCodeOk", fn := fun _ => fun
  | [d] => { results := [.lit (.bool true)], args := [d] }
  | _ => none }
def fnExactCodeOkRow : OpenClaim := { program := "ytmhhghdfgdhljaa", sum := "97ae6edcc1a832be0dbdd244fe3acf6ac8157c2b92b07b1ff6407b63f2b14285", func := "loop.example/g00966/laws.FnExactCodeOk", spec := "fnExactCodeOk", unfollowed := true, recurses := true, loops := true, plainKeys := false, apart := false }
def FnExactCodeOkSaid : Prop := fnExactCodeOkRow.holds Try.pinned (OpenSpec.ofChange fnExactCodeOkSpec)

/-- ITS FALSE NEIGHBOUR: 'it returns false'. Refute it at one input. -/
def fnExactCodeOkWrong : ChangeSpec := { name := "fnExactCodeOk", fn := fun _ => fun
  | [d] => { results := [.lit (.bool false)], args := [d] }
  | _ => none }
def FnExactCodeOkWrongFalsely : Prop := fnExactCodeOkRow.holds Try.pinned (OpenSpec.ofChange fnExactCodeOkWrong)

/-- 'laws.FnExactProcOf': WHATEVER THE INPUT: true; the input reads as it did. -/
def fnExactProcOfSpec : ChangeSpec := { name := "fnExactProcOf", fn := fun _ => fun
  | [d1, d2] => { results := [.lit (.bool true)], args := [d1, d2] }
  | _ => none }
def fnExactProcOfRow : OpenClaim := { program := "ytmhhghdfgdhljaa", sum := "97ae6edcc1a832be0dbdd244fe3acf6ac8157c2b92b07b1ff6407b63f2b14285", func := "loop.example/g00966/laws.FnExactProcOf", spec := "fnExactProcOf", unfollowed := true, recurses := true, loops := true, plainKeys := false, apart := false }
def FnExactProcOfSaid : Prop := fnExactProcOfRow.holds Try.pinned (OpenSpec.ofChange fnExactProcOfSpec)

/-- ITS FALSE NEIGHBOUR: 'it returns false'. Refute it at one input. -/
def fnExactProcOfWrong : ChangeSpec := { name := "fnExactProcOf", fn := fun _ => fun
  | [d1, d2] => { results := [.lit (.bool false)], args := [d1, d2] }
  | _ => none }
def FnExactProcOfWrongFalsely : Prop := fnExactProcOfRow.holds Try.pinned (OpenSpec.ofChange fnExactProcOfWrong)

/-- 'laws.FnExactEndOf': WHATEVER THE INPUT: true; the input reads as it did. -/
def fnExactEndOfSpec : ChangeSpec := { name := "fnExactEndOf", fn := fun _ => fun
  | [d1, d2] => { results := [.lit (.bool true)], args := [d1, d2] }
  | _ => none }
def fnExactEndOfRow : OpenClaim := { program := "ytmhhghdfgdhljaa", sum := "97ae6edcc1a832be0dbdd244fe3acf6ac8157c2b92b07b1ff6407b63f2b14285", func := "loop.example/g00966/laws.FnExactEndOf", spec := "fnExactEndOf", unfollowed := true, recurses := true, loops := true, plainKeys := false, apart := false }
def FnExactEndOfSaid : Prop := fnExactEndOfRow.holds Try.pinned (OpenSpec.ofChange fnExactEndOfSpec)

/-- ITS FALSE NEIGHBOUR: 'it returns false'. Refute it at one input. -/
def fnExactEndOfWrong : ChangeSpec := { name := "fnExactEndOf", fn := fun _ => fun
  | [d1, d2] => { results := [.lit (.bool false)], args := [d1, d2] }
  | _ => none }
def FnExactEndOfWrongFalsely : Prop := fnExactEndOfRow.holds Try.pinned (OpenSpec.ofChange fnExactEndOfWrong)

/-- 'laws.FnExactStmtOk': WHATEVER THE INPUT: true; the input reads as it did. -/
def fnExactStmtOkSpec : ChangeSpec := { name := "fnExactStmtOk", fn := fun _ => fun
  | [d] => { results := [.lit (.bool true)], args := [d] }
  | _ => none }
def fnExactStmtOkRow : OpenClaim := { program := "ytmhhghdfgdhljaa", sum := "97ae6edcc1a832be0dbdd244fe3acf6ac8157c2b92b07b1ff6407b63f2b14285", func := "loop.example/g00966/laws.FnExactStmtOk", spec := "fnExactStmtOk", recurses := true, loops := true, plainKeys := false, apart := false }
def FnExactStmtOkSaid : Prop := fnExactStmtOkRow.holds Try.pinned (OpenSpec.ofChange fnExactStmtOkSpec)

/-- ITS FALSE NEIGHBOUR: 'it returns false'. Refute it at one input. -/
def fnExactStmtOkWrong : ChangeSpec := { name := "fnExactStmtOk", fn := fun _ => fun
  | [d] => { results := [.lit (.bool false)], args := [d] }
  | _ => none }
def FnExactStmtOkWrongFalsely : Prop := fnExactStmtOkRow.holds Try.pinned (OpenSpec.ofChange fnExactStmtOkWrong)

/-- 'laws.FnExactNamesIn': WHATEVER THE INPUT: true; the input reads as it did. -/
def fnExactNamesInSpec : ChangeSpec := { name := "fnExactNamesIn", fn := fun _ => fun
  | [d1, d2] => { results := [.lit (.bool true)], args := [d1, d2] }
  | _ => none }
def fnExactNamesInRow : OpenClaim := { program := "ytmhhghdfgdhljaa", sum := "97ae6edcc1a832be0dbdd244fe3acf6ac8157c2b92b07b1ff6407b63f2b14285", func := "loop.example/g00966/laws.FnExactNamesIn", spec := "fnExactNamesIn", recurses := true, loops := true, plainKeys := false, apart := false }
def FnExactNamesInSaid : Prop := fnExactNamesInRow.holds Try.pinned (OpenSpec.ofChange fnExactNamesInSpec)

/-- ITS FALSE NEIGHBOUR: 'it returns false'. Refute it at one input. -/
def fnExactNamesInWrong : ChangeSpec := { name := "fnExactNamesIn", fn := fun _ => fun
  | [d1, d2] => { results := [.lit (.bool false)], args := [d1, d2] }
  | _ => none }
def FnExactNamesInWrongFalsely : Prop := fnExactNamesInRow.holds Try.pinned (OpenSpec.ofChange fnExactNamesInWrong)

/-- 'laws.FnExactProgOk': WHATEVER THE INPUT: true; the input reads as it did. -/
def fnExactProgOkSpec : ChangeSpec := { name := "fnExactProgOk", fn := fun _ => fun
  | [d] => { results := [.lit (.bool true)], args := [d] }
  | _ => none }
def fnExactProgOkRow : OpenClaim := { program := "ytmhhghdfgdhljaa", sum := "97ae6edcc1a832be0dbdd244fe3acf6ac8157c2b92b07b1ff6407b63f2b14285", func := "loop.example/g00966/laws.FnExactProgOk", spec := "fnExactProgOk", recurses := true, loops := true, plainKeys := false, apart := false }
def FnExactProgOkSaid : Prop := fnExactProgOkRow.holds Try.pinned (OpenSpec.ofChange fnExactProgOkSpec)

/-- ITS FALSE NEIGHBOUR: 'it returns false'. Refute it at one input. -/
def fnExactProgOkWrong : ChangeSpec := { name := "fnExactProgOk", fn := fun _ => fun
  | [d] => { results := [.lit (.bool false)], args := [d] }
  | _ => none }
def FnExactProgOkWrongFalsely : Prop := fnExactProgOkRow.holds Try.pinned (OpenSpec.ofChange fnExactProgOkWrong)

/-- 'laws.FnExactUnknownIn': WHATEVER THE INPUT: true; the input reads as it did. -/
def fnExactUnknownInSpec : ChangeSpec := { name := "fnExactUnknownIn", fn := fun _ => fun
  | [d] => { results := [.lit (.bool true)], args := [d] }
  | _ => none }
def fnExactUnknownInRow : OpenClaim := { program := "ytmhhghdfgdhljaa", sum := "97ae6edcc1a832be0dbdd244fe3acf6ac8157c2b92b07b1ff6407b63f2b14285", func := "loop.example/g00966/laws.FnExactUnknownIn", spec := "fnExactUnknownIn", unfollowed := true, recurses := true, loops := true, plainKeys := false, apart := false }
def FnExactUnknownInSaid : Prop := fnExactUnknownInRow.holds Try.pinned (OpenSpec.ofChange fnExactUnknownInSpec)

/-- ITS FALSE NEIGHBOUR: 'it returns false'. Refute it at one input. -/
def fnExactUnknownInWrong : ChangeSpec := { name := "fnExactUnknownIn", fn := fun _ => fun
  | [d] => { results := [.lit (.bool false)], args := [d] }
  | _ => none }
def FnExactUnknownInWrongFalsely : Prop := fnExactUnknownInRow.holds Try.pinned (OpenSpec.ofChange fnExactUnknownInWrong)

/-- 'laws.FnExactUnusedIn': WHATEVER THE INPUT: true; the input reads as it did. -/
def fnExactUnusedInSpec : ChangeSpec := { name := "fnExactUnusedIn", fn := fun _ => fun
  | [d] => { results := [.lit (.bool true)], args := [d] }
  | _ => none }
def fnExactUnusedInRow : OpenClaim := { program := "ytmhhghdfgdhljaa", sum := "97ae6edcc1a832be0dbdd244fe3acf6ac8157c2b92b07b1ff6407b63f2b14285", func := "loop.example/g00966/laws.FnExactUnusedIn", spec := "fnExactUnusedIn", unfollowed := true, recurses := true, loops := true, plainKeys := false, apart := false }
def FnExactUnusedInSaid : Prop := fnExactUnusedInRow.holds Try.pinned (OpenSpec.ofChange fnExactUnusedInSpec)

/-- ITS FALSE NEIGHBOUR: 'it returns false'. Refute it at one input. -/
def fnExactUnusedInWrong : ChangeSpec := { name := "fnExactUnusedIn", fn := fun _ => fun
  | [d] => { results := [.lit (.bool false)], args := [d] }
  | _ => none }
def FnExactUnusedInWrongFalsely : Prop := fnExactUnusedInRow.holds Try.pinned (OpenSpec.ofChange fnExactUnusedInWrong)

/- THE SECOND FORM. 'bulk': how many values and letters a reading holds, each counted each time it is reached (what is shared counts as often as it is met; a slice's spare places count too). A statement '..UptoSaid' is the law's where the arguments, and the package variables that the reading takes, are together of bulk at most 1048576: NARROWER than '..Said'. Prove '..Said' where nothing that the law and all that it calls make is longer than what came in: it says more and counts as full. Else prove '..UptoSaid'. A law counts once. -/
mutual
def uptoBulk {H : Type} : DataW H → Nat
  | .lit (.string bytes) => bytes.length + 1
  | .lit _ => 1
  | .nil => 1
  | .ptr d => uptoBulk d + 1
  | .slice elems spare => uptoBulkAll elems + uptoBulkAll spare + 1
  | .agg parts => uptoBulkAll parts + 1
  | .iface _ d => uptoBulk d + 1
  | .map entries => uptoBulkEntries entries + 1
  | .held _ => 1
def uptoBulkAll {H : Type} : List (DataW H) → Nat
  | [] => 0
  | d :: r => uptoBulk d + uptoBulkAll r
def uptoBulkEntries {H : Type} : List (Lit × DataW H) → Nat
  | [] => 0
  | x :: r => uptoBulkEntry x + uptoBulkEntries r
def uptoBulkEntry {H : Type} : Lit × DataW H → Nat
  | (.string bytes, d) => bytes.length + uptoBulk d + 1
  | (_, d) => uptoBulk d + 1
 end
def uptoSmall : (H : Type) → List (DataW H) → Bool := fun _ ds => decide (uptoBulkAll ds ≤ 1048576)
def OpenSpec.upto (s : _root_.Go.ChangeSpec) : _root_.Go.OpenSpec := { _root_.Go.OpenSpec.ofChange s with cond := some uptoSmall }

/-- 'laws.FnExactCodeOk', WHERE WHAT IT READS IS OF BULK AT MOST 1048576: true; the input reads as it did. -/
def fnExactCodeOkUptoRow : OpenClaim := { program := "ytmhhghdfgdhljaa", sum := "97ae6edcc1a832be0dbdd244fe3acf6ac8157c2b92b07b1ff6407b63f2b14285", func := "loop.example/g00966/laws.FnExactCodeOk", spec := "fnExactCodeOk", unfollowed := true, recurses := true, loops := true, plainKeys := false, apart := false, narrowed := true }
def FnExactCodeOkUptoSaid : Prop := fnExactCodeOkUptoRow.holds Try.pinned (OpenSpec.upto fnExactCodeOkSpec)

/-- 'laws.FnExactProcOf', WHERE WHAT IT READS IS OF BULK AT MOST 1048576: true; the input reads as it did. -/
def fnExactProcOfUptoRow : OpenClaim := { program := "ytmhhghdfgdhljaa", sum := "97ae6edcc1a832be0dbdd244fe3acf6ac8157c2b92b07b1ff6407b63f2b14285", func := "loop.example/g00966/laws.FnExactProcOf", spec := "fnExactProcOf", unfollowed := true, recurses := true, loops := true, plainKeys := false, apart := false, narrowed := true }
def FnExactProcOfUptoSaid : Prop := fnExactProcOfUptoRow.holds Try.pinned (OpenSpec.upto fnExactProcOfSpec)

/-- 'laws.FnExactEndOf', WHERE WHAT IT READS IS OF BULK AT MOST 1048576: true; the input reads as it did. -/
def fnExactEndOfUptoRow : OpenClaim := { program := "ytmhhghdfgdhljaa", sum := "97ae6edcc1a832be0dbdd244fe3acf6ac8157c2b92b07b1ff6407b63f2b14285", func := "loop.example/g00966/laws.FnExactEndOf", spec := "fnExactEndOf", unfollowed := true, recurses := true, loops := true, plainKeys := false, apart := false, narrowed := true }
def FnExactEndOfUptoSaid : Prop := fnExactEndOfUptoRow.holds Try.pinned (OpenSpec.upto fnExactEndOfSpec)

/-- 'laws.FnExactStmtOk', WHERE WHAT IT READS IS OF BULK AT MOST 1048576: true; the input reads as it did. -/
def fnExactStmtOkUptoRow : OpenClaim := { program := "ytmhhghdfgdhljaa", sum := "97ae6edcc1a832be0dbdd244fe3acf6ac8157c2b92b07b1ff6407b63f2b14285", func := "loop.example/g00966/laws.FnExactStmtOk", spec := "fnExactStmtOk", recurses := true, loops := true, plainKeys := false, apart := false, narrowed := true }
def FnExactStmtOkUptoSaid : Prop := fnExactStmtOkUptoRow.holds Try.pinned (OpenSpec.upto fnExactStmtOkSpec)

/-- 'laws.FnExactNamesIn', WHERE WHAT IT READS IS OF BULK AT MOST 1048576: true; the input reads as it did. -/
def fnExactNamesInUptoRow : OpenClaim := { program := "ytmhhghdfgdhljaa", sum := "97ae6edcc1a832be0dbdd244fe3acf6ac8157c2b92b07b1ff6407b63f2b14285", func := "loop.example/g00966/laws.FnExactNamesIn", spec := "fnExactNamesIn", recurses := true, loops := true, plainKeys := false, apart := false, narrowed := true }
def FnExactNamesInUptoSaid : Prop := fnExactNamesInUptoRow.holds Try.pinned (OpenSpec.upto fnExactNamesInSpec)

/-- 'laws.FnExactProgOk', WHERE WHAT IT READS IS OF BULK AT MOST 1048576: true; the input reads as it did. -/
def fnExactProgOkUptoRow : OpenClaim := { program := "ytmhhghdfgdhljaa", sum := "97ae6edcc1a832be0dbdd244fe3acf6ac8157c2b92b07b1ff6407b63f2b14285", func := "loop.example/g00966/laws.FnExactProgOk", spec := "fnExactProgOk", recurses := true, loops := true, plainKeys := false, apart := false, narrowed := true }
def FnExactProgOkUptoSaid : Prop := fnExactProgOkUptoRow.holds Try.pinned (OpenSpec.upto fnExactProgOkSpec)

/-- 'laws.FnExactUnknownIn', WHERE WHAT IT READS IS OF BULK AT MOST 1048576: true; the input reads as it did. -/
def fnExactUnknownInUptoRow : OpenClaim := { program := "ytmhhghdfgdhljaa", sum := "97ae6edcc1a832be0dbdd244fe3acf6ac8157c2b92b07b1ff6407b63f2b14285", func := "loop.example/g00966/laws.FnExactUnknownIn", spec := "fnExactUnknownIn", unfollowed := true, recurses := true, loops := true, plainKeys := false, apart := false, narrowed := true }
def FnExactUnknownInUptoSaid : Prop := fnExactUnknownInUptoRow.holds Try.pinned (OpenSpec.upto fnExactUnknownInSpec)

/-- 'laws.FnExactUnusedIn', WHERE WHAT IT READS IS OF BULK AT MOST 1048576: true; the input reads as it did. -/
def fnExactUnusedInUptoRow : OpenClaim := { program := "ytmhhghdfgdhljaa", sum := "97ae6edcc1a832be0dbdd244fe3acf6ac8157c2b92b07b1ff6407b63f2b14285", func := "loop.example/g00966/laws.FnExactUnusedIn", spec := "fnExactUnusedIn", unfollowed := true, recurses := true, loops := true, plainKeys := false, apart := false, narrowed := true }
def FnExactUnusedInUptoSaid : Prop := fnExactUnusedInUptoRow.holds Try.pinned (OpenSpec.upto fnExactUnusedInSpec)

end Rows
end Go.Proofs.Ytmhhghdfgdhljaa
