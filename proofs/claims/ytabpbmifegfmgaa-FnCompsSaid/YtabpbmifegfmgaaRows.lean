/-
  No cell of these rows narrows 'for every input' (looked for: loops, veiled, ifaces, maps, wideKeys, modest, calm, conditions, laid).
  DERIVED. THE GIVEN ROWS OF THIS SEAT. 6 by the template 'for every input the law returns true; each argument reads behind the call as it read before'; 0 by the template 'total and deterministic' (their statements: YtabpbmifegfmgaaTotals.lean).
  GIVEN WITH THE SEED: the statements are not yours to turn. If you find one false, say at which input.
  Laid BY PROGRAM, IN A SANDBOX (cutbox-rows.mjs): the forced cells as the released guide's own fill.sh prints them over the translation 257ea00d3c023401… (all of the seat's roots in one cut). By AI agents, Wed Nov 11 2026. No macro, syntax, notation, axiom, sorry.
-/
import Derived.Test.YtabpbmifegfmgaaChecked
import GoSem.Claim
import GoSem.ClaimJoined
import GoSem.ClaimMapViews
import Derived.JoinedTies
import Derived.KernelRfl
namespace Go.Proofs.Ytabpbmifegfmgaa
/- THE CELL 'sum', in the pinned program and in every row, IS THE sha256 OF THE DUMP (.gsa) THAT YtabpbmifegfmgaaProg.lean LOADS. Nothing in Lean hashes anything: it is a label: what it is worth is what the hold of that sum in a sandbox is worth. -/
noncomputable def Try.pinned : Pinned := { name := "ytabpbmifegfmgaa", sum := "257ea00d3c023401ec762b8619e66dcba01c9322be4f17846fcecd35587015ef", checked := Try.checked }
namespace Rows
def none {H : Type} : Left H := { results := [], args := [] }

/-- 'laws.FnComps': WHATEVER THE INPUT: true; the input reads as it did. -/
def fnCompsSpec : ChangeSpec := { name := "fnComps", fn := fun _ => fun
  | [d] => { results := [.lit (.bool true)], args := [d] }
  | _ => none }
def fnCompsRow : OpenClaim := { program := "ytabpbmifegfmgaa", sum := "257ea00d3c023401ec762b8619e66dcba01c9322be4f17846fcecd35587015ef", func := "loop.example/g00966/laws.FnComps", spec := "fnComps", unfollowed := true, recurses := true, apart := false }
def FnCompsSaid : Prop := fnCompsRow.holds Try.pinned (OpenSpec.ofChange fnCompsSpec)

/-- ITS FALSE NEIGHBOUR: 'it returns false'. Refute it at one input. -/
def fnCompsWrong : ChangeSpec := { name := "fnComps", fn := fun _ => fun
  | [d] => { results := [.lit (.bool false)], args := [d] }
  | _ => none }
def FnCompsWrongFalsely : Prop := fnCompsRow.holds Try.pinned (OpenSpec.ofChange fnCompsWrong)

/-- 'laws.FnExactGraphOk': WHATEVER THE INPUT: true; the input reads as it did. -/
def fnExactGraphOkSpec : ChangeSpec := { name := "fnExactGraphOk", fn := fun _ => fun
  | [d1, d2] => { results := [.lit (.bool true)], args := [d1, d2] }
  | _ => none }
def fnExactGraphOkRow : OpenClaim := { program := "ytabpbmifegfmgaa", sum := "257ea00d3c023401ec762b8619e66dcba01c9322be4f17846fcecd35587015ef", func := "loop.example/g00966/laws.FnExactGraphOk", spec := "fnExactGraphOk", unfollowed := true, recurses := true, apart := false }
def FnExactGraphOkSaid : Prop := fnExactGraphOkRow.holds Try.pinned (OpenSpec.ofChange fnExactGraphOkSpec)

/-- ITS FALSE NEIGHBOUR: 'it returns false'. Refute it at one input. -/
def fnExactGraphOkWrong : ChangeSpec := { name := "fnExactGraphOk", fn := fun _ => fun
  | [d1, d2] => { results := [.lit (.bool false)], args := [d1, d2] }
  | _ => none }
def FnExactGraphOkWrongFalsely : Prop := fnExactGraphOkRow.holds Try.pinned (OpenSpec.ofChange fnExactGraphOkWrong)

/-- 'laws.FnExactReaches': WHATEVER THE INPUT: true; the input reads as it did. -/
def fnExactReachesSpec : ChangeSpec := { name := "fnExactReaches", fn := fun _ => fun
  | [d1, d2, d3, d4] => { results := [.lit (.bool true)], args := [d1, d2, d3, d4] }
  | _ => none }
def fnExactReachesRow : OpenClaim := { program := "ytabpbmifegfmgaa", sum := "257ea00d3c023401ec762b8619e66dcba01c9322be4f17846fcecd35587015ef", func := "loop.example/g00966/laws.FnExactReaches", spec := "fnExactReaches", unfollowed := true, recurses := true, apart := false }
def FnExactReachesSaid : Prop := fnExactReachesRow.holds Try.pinned (OpenSpec.ofChange fnExactReachesSpec)

/-- ITS FALSE NEIGHBOUR: 'it returns false'. Refute it at one input. -/
def fnExactReachesWrong : ChangeSpec := { name := "fnExactReaches", fn := fun _ => fun
  | [d1, d2, d3, d4] => { results := [.lit (.bool false)], args := [d1, d2, d3, d4] }
  | _ => none }
def FnExactReachesWrongFalsely : Prop := fnExactReachesRow.holds Try.pinned (OpenSpec.ofChange fnExactReachesWrong)

/-- 'laws.FnExactCompsOf': WHATEVER THE INPUT: true; the input reads as it did. -/
def fnExactCompsOfSpec : ChangeSpec := { name := "fnExactCompsOf", fn := fun _ => fun
  | [d1, d2] => { results := [.lit (.bool true)], args := [d1, d2] }
  | _ => none }
def fnExactCompsOfRow : OpenClaim := { program := "ytabpbmifegfmgaa", sum := "257ea00d3c023401ec762b8619e66dcba01c9322be4f17846fcecd35587015ef", func := "loop.example/g00966/laws.FnExactCompsOf", spec := "fnExactCompsOf", unfollowed := true, recurses := true, apart := false }
def FnExactCompsOfSaid : Prop := fnExactCompsOfRow.holds Try.pinned (OpenSpec.ofChange fnExactCompsOfSpec)

/-- ITS FALSE NEIGHBOUR: 'it returns false'. Refute it at one input. -/
def fnExactCompsOfWrong : ChangeSpec := { name := "fnExactCompsOf", fn := fun _ => fun
  | [d1, d2] => { results := [.lit (.bool false)], args := [d1, d2] }
  | _ => none }
def FnExactCompsOfWrongFalsely : Prop := fnExactCompsOfRow.holds Try.pinned (OpenSpec.ofChange fnExactCompsOfWrong)

/-- 'laws.FnExactCompAt': WHATEVER THE INPUT: true; the input reads as it did. -/
def fnExactCompAtSpec : ChangeSpec := { name := "fnExactCompAt", fn := fun _ => fun
  | [d1, d2] => { results := [.lit (.bool true)], args := [d1, d2] }
  | _ => none }
def fnExactCompAtRow : OpenClaim := { program := "ytabpbmifegfmgaa", sum := "257ea00d3c023401ec762b8619e66dcba01c9322be4f17846fcecd35587015ef", func := "loop.example/g00966/laws.FnExactCompAt", spec := "fnExactCompAt", unfollowed := true, recurses := true, apart := false }
def FnExactCompAtSaid : Prop := fnExactCompAtRow.holds Try.pinned (OpenSpec.ofChange fnExactCompAtSpec)

/-- ITS FALSE NEIGHBOUR: 'it returns false'. Refute it at one input. -/
def fnExactCompAtWrong : ChangeSpec := { name := "fnExactCompAt", fn := fun _ => fun
  | [d1, d2] => { results := [.lit (.bool false)], args := [d1, d2] }
  | _ => none }
def FnExactCompAtWrongFalsely : Prop := fnExactCompAtRow.holds Try.pinned (OpenSpec.ofChange fnExactCompAtWrong)

/-- 'laws.FnExactCyclic': WHATEVER THE INPUT: true; the input reads as it did. -/
def fnExactCyclicSpec : ChangeSpec := { name := "fnExactCyclic", fn := fun _ => fun
  | [d1, d2, d3] => { results := [.lit (.bool true)], args := [d1, d2, d3] }
  | _ => none }
def fnExactCyclicRow : OpenClaim := { program := "ytabpbmifegfmgaa", sum := "257ea00d3c023401ec762b8619e66dcba01c9322be4f17846fcecd35587015ef", func := "loop.example/g00966/laws.FnExactCyclic", spec := "fnExactCyclic", unfollowed := true, recurses := true, apart := false }
def FnExactCyclicSaid : Prop := fnExactCyclicRow.holds Try.pinned (OpenSpec.ofChange fnExactCyclicSpec)

/-- ITS FALSE NEIGHBOUR: 'it returns false'. Refute it at one input. -/
def fnExactCyclicWrong : ChangeSpec := { name := "fnExactCyclic", fn := fun _ => fun
  | [d1, d2, d3] => { results := [.lit (.bool false)], args := [d1, d2, d3] }
  | _ => none }
def FnExactCyclicWrongFalsely : Prop := fnExactCyclicRow.holds Try.pinned (OpenSpec.ofChange fnExactCyclicWrong)

/- THE SECOND FORM. 'bulk': how many values and letters a reading holds, each counted each time it is reached (what is shared counts as often as it is met; a slice's spare places count too). A statement '..UptoSaid' is the law's where the arguments, and the package variables that the reading takes, are together of bulk at most 1048576: NARROWER than '..Said'. Prove '..Said' where nothing that the law and all that it calls make is longer than what came in: it says more and counts as full. Else prove '..UptoSaid'. A law counts once. -/
mutual
def uptoBulk {H : Type} : DataW H → Nat
  | .lit (.string bytes) => bytes.length + 1
  | .lit _ => 1
  | .nil => 1
  | .ptr d => uptoBulk d + 1
  | .slice elems spare => uptoBulkAll elems + uptoBulkAll spare + 1
  | .agg parts => uptoBulkAll parts + 1
  | .iface _ d => uptoBulk d + 1
  | .map entries => uptoBulkEntries entries + 1
  | .held _ => 1
def uptoBulkAll {H : Type} : List (DataW H) → Nat
  | [] => 0
  | d :: r => uptoBulk d + uptoBulkAll r
def uptoBulkEntries {H : Type} : List (Lit × DataW H) → Nat
  | [] => 0
  | x :: r => uptoBulkEntry x + uptoBulkEntries r
def uptoBulkEntry {H : Type} : Lit × DataW H → Nat
  | (.string bytes, d) => bytes.length + uptoBulk d + 1
  | (_, d) => uptoBulk d + 1
 end
def uptoSmall : (H : Type) → List (DataW H) → Bool := fun _ ds => decide (uptoBulkAll ds ≤ 1048576)
def OpenSpec.upto (s : _root_.Go.ChangeSpec) : _root_.Go.OpenSpec := { _root_.Go.OpenSpec.ofChange s with cond := some uptoSmall }

/-- 'laws.FnComps', WHERE WHAT IT READS IS OF BULK AT MOST 1048576: true; the input reads as it did. -/
def fnCompsUptoRow : OpenClaim := { program := "ytabpbmifegfmgaa", sum := "257ea00d3c023401ec762b8619e66dcba01c9322be4f17846fcecd35587015ef", func := "loop.example/g00966/laws.FnComps", spec := "fnComps", unfollowed := true, recurses := true, apart := false, narrowed := true }
def FnCompsUptoSaid : Prop := fnCompsUptoRow.holds Try.pinned (OpenSpec.upto fnCompsSpec)

/-- 'laws.FnExactGraphOk', WHERE WHAT IT READS IS OF BULK AT MOST 1048576: true; the input reads as it did. -/
def fnExactGraphOkUptoRow : OpenClaim := { program := "ytabpbmifegfmgaa", sum := "257ea00d3c023401ec762b8619e66dcba01c9322be4f17846fcecd35587015ef", func := "loop.example/g00966/laws.FnExactGraphOk", spec := "fnExactGraphOk", unfollowed := true, recurses := true, apart := false, narrowed := true }
def FnExactGraphOkUptoSaid : Prop := fnExactGraphOkUptoRow.holds Try.pinned (OpenSpec.upto fnExactGraphOkSpec)

/-- 'laws.FnExactReaches', WHERE WHAT IT READS IS OF BULK AT MOST 1048576: true; the input reads as it did. -/
def fnExactReachesUptoRow : OpenClaim := { program := "ytabpbmifegfmgaa", sum := "257ea00d3c023401ec762b8619e66dcba01c9322be4f17846fcecd35587015ef", func := "loop.example/g00966/laws.FnExactReaches", spec := "fnExactReaches", unfollowed := true, recurses := true, apart := false, narrowed := true }
def FnExactReachesUptoSaid : Prop := fnExactReachesUptoRow.holds Try.pinned (OpenSpec.upto fnExactReachesSpec)

/-- 'laws.FnExactCompsOf', WHERE WHAT IT READS IS OF BULK AT MOST 1048576: true; the input reads as it did. -/
def fnExactCompsOfUptoRow : OpenClaim := { program := "ytabpbmifegfmgaa", sum := "257ea00d3c023401ec762b8619e66dcba01c9322be4f17846fcecd35587015ef", func := "loop.example/g00966/laws.FnExactCompsOf", spec := "fnExactCompsOf", unfollowed := true, recurses := true, apart := false, narrowed := true }
def FnExactCompsOfUptoSaid : Prop := fnExactCompsOfUptoRow.holds Try.pinned (OpenSpec.upto fnExactCompsOfSpec)

/-- 'laws.FnExactCompAt', WHERE WHAT IT READS IS OF BULK AT MOST 1048576: true; the input reads as it did. -/
def fnExactCompAtUptoRow : OpenClaim := { program := "ytabpbmifegfmgaa", sum := "257ea00d3c023401ec762b8619e66dcba01c9322be4f17846fcecd35587015ef", func := "loop.example/g00966/laws.FnExactCompAt", spec := "fnExactCompAt", unfollowed := true, recurses := true, apart := false, narrowed := true }
def FnExactCompAtUptoSaid : Prop := fnExactCompAtUptoRow.holds Try.pinned (OpenSpec.upto fnExactCompAtSpec)

/-- 'laws.FnExactCyclic', WHERE WHAT IT READS IS OF BULK AT MOST 1048576: true; the input reads as it did. -/
def fnExactCyclicUptoRow : OpenClaim := { program := "ytabpbmifegfmgaa", sum := "257ea00d3c023401ec762b8619e66dcba01c9322be4f17846fcecd35587015ef", func := "loop.example/g00966/laws.FnExactCyclic", spec := "fnExactCyclic", unfollowed := true, recurses := true, apart := false, narrowed := true }
def FnExactCyclicUptoSaid : Prop := fnExactCyclicUptoRow.holds Try.pinned (OpenSpec.upto fnExactCyclicSpec)

end Rows
end Go.Proofs.Ytabpbmifegfmgaa
