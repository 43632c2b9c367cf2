/-
  NARROWER THAN 'FOR EVERY INPUT', by the rows' own cells (each row's printed sentence says how): FnExactCallsOf: loops · FnExactSpawnsOf: loops · FnExactCallsFrom: loops · FnExactCallersOf: loops · FnExactSitesOf: loops · FnExactReturns: loops.
  DERIVED. THE GIVEN ROWS OF THIS SEAT. 8 by the template 'for every input the law returns true; each argument reads behind the call as it read before'; 0 by the template 'total and deterministic' (their statements: YtofmccihehalcaaGreatTotals.lean).
  GIVEN WITH THE SEED: the statements are not yours to turn. If you find one false, say at which input.
  Laid BY PROGRAM, IN A SANDBOX (cutbox-rows.mjs): the forced cells as the released guide's own fill.sh prints them over the translation f2976354057c5576… (all of the seat's roots in one cut). By AI agents, Wed Nov 11 2026. No macro, syntax, notation, axiom, sorry.
-/
import Derived.Test.YtofmccihehalcaaGreatChecked
import GoSem.Claim
import GoSem.ClaimJoined
import GoSem.ClaimMapViews
import Derived.JoinedTies
import Derived.KernelRfl
namespace Go.Proofs.YtofmccihehalcaaGreat
/- THE CELL 'sum', in the pinned program and in every row, IS THE sha256 OF THE DUMP (.gsa) THAT YtofmccihehalcaaGreatProg.lean LOADS. Nothing in Lean hashes anything: it is a label: what it is worth is what the hold of that sum in a sandbox is worth. -/
noncomputable def Tryz.pinned : Pinned := { name := "ytofmccihehalcaagreat", sum := "f2976354057c55766c83299c60f5cfc8d945ceb747a06be38cfa1c27c142bd78", checked := Tryz.checked }
namespace Rows
def none {H : Type} : Left H := { results := [], args := [] }

/-- 'laws.FnCalls': WHATEVER THE INPUT: true; the input reads as it did. -/
def fnCallsSpec : ChangeSpec := { name := "fnCalls", fn := fun _ => fun
  | [d] => { results := [.lit (.bool true)], args := [d] }
  | _ => none }
def fnCallsRow : OpenClaim := { program := "ytofmccihehalcaagreat", sum := "f2976354057c55766c83299c60f5cfc8d945ceb747a06be38cfa1c27c142bd78", func := "loop.example/g00966/laws.FnCalls", spec := "fnCalls", unfollowed := true, recurses := true, apart := false }
def FnCallsSaid : Prop := fnCallsRow.holds Tryz.pinned (OpenSpec.ofChange fnCallsSpec)

/-- ITS FALSE NEIGHBOUR: 'it returns false'. Refute it at one input. -/
def fnCallsWrong : ChangeSpec := { name := "fnCalls", fn := fun _ => fun
  | [d] => { results := [.lit (.bool false)], args := [d] }
  | _ => none }
def FnCallsWrongFalsely : Prop := fnCallsRow.holds Tryz.pinned (OpenSpec.ofChange fnCallsWrong)

/-- 'laws.FnExactCallsOf': WHATEVER THE INPUT: true; the input reads as it did. -/
def fnExactCallsOfSpec : ChangeSpec := { name := "fnExactCallsOf", fn := fun _ => fun
  | [d1, d2] => { results := [.lit (.bool true)], args := [d1, d2] }
  | _ => none }
def fnExactCallsOfRow : OpenClaim := { program := "ytofmccihehalcaagreat", sum := "f2976354057c55766c83299c60f5cfc8d945ceb747a06be38cfa1c27c142bd78", func := "loop.example/g00966/laws.FnExactCallsOf", spec := "fnExactCallsOf", unfollowed := true, recurses := true, loops := true, apart := false }
def FnExactCallsOfSaid : Prop := fnExactCallsOfRow.holds Tryz.pinned (OpenSpec.ofChange fnExactCallsOfSpec)

/-- ITS FALSE NEIGHBOUR: 'it returns false'. Refute it at one input. -/
def fnExactCallsOfWrong : ChangeSpec := { name := "fnExactCallsOf", fn := fun _ => fun
  | [d1, d2] => { results := [.lit (.bool false)], args := [d1, d2] }
  | _ => none }
def FnExactCallsOfWrongFalsely : Prop := fnExactCallsOfRow.holds Tryz.pinned (OpenSpec.ofChange fnExactCallsOfWrong)

/-- 'laws.FnExactSpawnsOf': WHATEVER THE INPUT: true; the input reads as it did. -/
def fnExactSpawnsOfSpec : ChangeSpec := { name := "fnExactSpawnsOf", fn := fun _ => fun
  | [d1, d2] => { results := [.lit (.bool true)], args := [d1, d2] }
  | _ => none }
def fnExactSpawnsOfRow : OpenClaim := { program := "ytofmccihehalcaagreat", sum := "f2976354057c55766c83299c60f5cfc8d945ceb747a06be38cfa1c27c142bd78", func := "loop.example/g00966/laws.FnExactSpawnsOf", spec := "fnExactSpawnsOf", unfollowed := true, recurses := true, loops := true, apart := false }
def FnExactSpawnsOfSaid : Prop := fnExactSpawnsOfRow.holds Tryz.pinned (OpenSpec.ofChange fnExactSpawnsOfSpec)

/-- ITS FALSE NEIGHBOUR: 'it returns false'. Refute it at one input. -/
def fnExactSpawnsOfWrong : ChangeSpec := { name := "fnExactSpawnsOf", fn := fun _ => fun
  | [d1, d2] => { results := [.lit (.bool false)], args := [d1, d2] }
  | _ => none }
def FnExactSpawnsOfWrongFalsely : Prop := fnExactSpawnsOfRow.holds Tryz.pinned (OpenSpec.ofChange fnExactSpawnsOfWrong)

/-- 'laws.FnExactCallsFrom': WHATEVER THE INPUT: true; the input reads as it did. -/
def fnExactCallsFromSpec : ChangeSpec := { name := "fnExactCallsFrom", fn := fun _ => fun
  | [d1, d2] => { results := [.lit (.bool true)], args := [d1, d2] }
  | _ => none }
def fnExactCallsFromRow : OpenClaim := { program := "ytofmccihehalcaagreat", sum := "f2976354057c55766c83299c60f5cfc8d945ceb747a06be38cfa1c27c142bd78", func := "loop.example/g00966/laws.FnExactCallsFrom", spec := "fnExactCallsFrom", unfollowed := true, recurses := true, loops := true, apart := false }
def FnExactCallsFromSaid : Prop := fnExactCallsFromRow.holds Tryz.pinned (OpenSpec.ofChange fnExactCallsFromSpec)

/-- ITS FALSE NEIGHBOUR: 'it returns false'. Refute it at one input. -/
def fnExactCallsFromWrong : ChangeSpec := { name := "fnExactCallsFrom", fn := fun _ => fun
  | [d1, d2] => { results := [.lit (.bool false)], args := [d1, d2] }
  | _ => none }
def FnExactCallsFromWrongFalsely : Prop := fnExactCallsFromRow.holds Tryz.pinned (OpenSpec.ofChange fnExactCallsFromWrong)

/-- 'laws.FnExactCallersOf': WHATEVER THE INPUT: true; the input reads as it did. -/
def fnExactCallersOfSpec : ChangeSpec := { name := "fnExactCallersOf", fn := fun _ => fun
  | [d1, d2] => { results := [.lit (.bool true)], args := [d1, d2] }
  | _ => none }
def fnExactCallersOfRow : OpenClaim := { program := "ytofmccihehalcaagreat", sum := "f2976354057c55766c83299c60f5cfc8d945ceb747a06be38cfa1c27c142bd78", func := "loop.example/g00966/laws.FnExactCallersOf", spec := "fnExactCallersOf", unfollowed := true, recurses := true, loops := true, apart := false }
def FnExactCallersOfSaid : Prop := fnExactCallersOfRow.holds Tryz.pinned (OpenSpec.ofChange fnExactCallersOfSpec)

/-- ITS FALSE NEIGHBOUR: 'it returns false'. Refute it at one input. -/
def fnExactCallersOfWrong : ChangeSpec := { name := "fnExactCallersOf", fn := fun _ => fun
  | [d1, d2] => { results := [.lit (.bool false)], args := [d1, d2] }
  | _ => none }
def FnExactCallersOfWrongFalsely : Prop := fnExactCallersOfRow.holds Tryz.pinned (OpenSpec.ofChange fnExactCallersOfWrong)

/-- 'laws.FnExactSitesOf': WHATEVER THE INPUT: true; the input reads as it did. -/
def fnExactSitesOfSpec : ChangeSpec := { name := "fnExactSitesOf", fn := fun _ => fun
  | [d1, d2] => { results := [.lit (.bool true)], args := [d1, d2] }
  | _ => none }
def fnExactSitesOfRow : OpenClaim := { program := "ytofmccihehalcaagreat", sum := "f2976354057c55766c83299c60f5cfc8d945ceb747a06be38cfa1c27c142bd78", func := "loop.example/g00966/laws.FnExactSitesOf", spec := "fnExactSitesOf", unfollowed := true, recurses := true, loops := true, apart := false }
def FnExactSitesOfSaid : Prop := fnExactSitesOfRow.holds Tryz.pinned (OpenSpec.ofChange fnExactSitesOfSpec)

/-- ITS FALSE NEIGHBOUR: 'it returns false'. Refute it at one input. -/
def fnExactSitesOfWrong : ChangeSpec := { name := "fnExactSitesOf", fn := fun _ => fun
  | [d1, d2] => { results := [.lit (.bool false)], args := [d1, d2] }
  | _ => none }
def FnExactSitesOfWrongFalsely : Prop := fnExactSitesOfRow.holds Tryz.pinned (OpenSpec.ofChange fnExactSitesOfWrong)

/-- 'laws.FnExactReturns': WHATEVER THE INPUT: true; the input reads as it did. -/
def fnExactReturnsSpec : ChangeSpec := { name := "fnExactReturns", fn := fun _ => fun
  | [d1, d2] => { results := [.lit (.bool true)], args := [d1, d2] }
  | _ => none }
def fnExactReturnsRow : OpenClaim := { program := "ytofmccihehalcaagreat", sum := "f2976354057c55766c83299c60f5cfc8d945ceb747a06be38cfa1c27c142bd78", func := "loop.example/g00966/laws.FnExactReturns", spec := "fnExactReturns", unfollowed := true, recurses := true, loops := true, apart := false }
def FnExactReturnsSaid : Prop := fnExactReturnsRow.holds Tryz.pinned (OpenSpec.ofChange fnExactReturnsSpec)

/-- ITS FALSE NEIGHBOUR: 'it returns false'. Refute it at one input. -/
def fnExactReturnsWrong : ChangeSpec := { name := "fnExactReturns", fn := fun _ => fun
  | [d1, d2] => { results := [.lit (.bool false)], args := [d1, d2] }
  | _ => none }
def FnExactReturnsWrongFalsely : Prop := fnExactReturnsRow.holds Tryz.pinned (OpenSpec.ofChange fnExactReturnsWrong)

/-- 'laws.FnFlows': WHATEVER THE INPUT: true; the input reads as it did. -/
def fnFlowsSpec : ChangeSpec := { name := "fnFlows", fn := fun _ => fun
  | [d] => { results := [.lit (.bool true)], args := [d] }
  | _ => none }
def fnFlowsRow : OpenClaim := { program := "ytofmccihehalcaagreat", sum := "f2976354057c55766c83299c60f5cfc8d945ceb747a06be38cfa1c27c142bd78", func := "loop.example/g00966/laws.FnFlows", spec := "fnFlows", unfollowed := true, recurses := true, apart := false }
def FnFlowsSaid : Prop := fnFlowsRow.holds Tryz.pinned (OpenSpec.ofChange fnFlowsSpec)

/-- ITS FALSE NEIGHBOUR: 'it returns false'. Refute it at one input. -/
def fnFlowsWrong : ChangeSpec := { name := "fnFlows", fn := fun _ => fun
  | [d] => { results := [.lit (.bool false)], args := [d] }
  | _ => none }
def FnFlowsWrongFalsely : Prop := fnFlowsRow.holds Tryz.pinned (OpenSpec.ofChange fnFlowsWrong)

/- THE SECOND FORM. 'bulk': how many values and letters a reading holds, each counted each time it is reached (what is shared counts as often as it is met; a slice's spare places count too). A statement '..UptoSaid' is the law's where the arguments, and the package variables that the reading takes, are together of bulk at most 1048576: NARROWER than '..Said'. Prove '..Said' where nothing that the law and all that it calls make is longer than what came in: it says more and counts as full. Else prove '..UptoSaid'. A law counts once. -/
mutual
def uptoBulk {H : Type} : DataW H → Nat
  | .lit (.string bytes) => bytes.length + 1
  | .lit _ => 1
  | .nil => 1
  | .ptr d => uptoBulk d + 1
  | .slice elems spare => uptoBulkAll elems + uptoBulkAll spare + 1
  | .agg parts => uptoBulkAll parts + 1
  | .iface _ d => uptoBulk d + 1
  | .map entries => uptoBulkEntries entries + 1
  | .held _ => 1
def uptoBulkAll {H : Type} : List (DataW H) → Nat
  | [] => 0
  | d :: r => uptoBulk d + uptoBulkAll r
def uptoBulkEntries {H : Type} : List (Lit × DataW H) → Nat
  | [] => 0
  | x :: r => uptoBulkEntry x + uptoBulkEntries r
def uptoBulkEntry {H : Type} : Lit × DataW H → Nat
  | (.string bytes, d) => bytes.length + uptoBulk d + 1
  | (_, d) => uptoBulk d + 1
 end
def uptoSmall : (H : Type) → List (DataW H) → Bool := fun _ ds => decide (uptoBulkAll ds ≤ 1048576)
def OpenSpec.upto (s : _root_.Go.ChangeSpec) : _root_.Go.OpenSpec := { _root_.Go.OpenSpec.ofChange s with cond := some uptoSmall }

/-- 'laws.FnCalls', WHERE WHAT IT READS IS OF BULK AT MOST 1048576: true; the input reads as it did. -/
def fnCallsUptoRow : OpenClaim := { program := "ytofmccihehalcaagreat", sum := "f2976354057c55766c83299c60f5cfc8d945ceb747a06be38cfa1c27c142bd78", func := "loop.example/g00966/laws.FnCalls", spec := "fnCalls", unfollowed := true, recurses := true, apart := false, narrowed := true }
def FnCallsUptoSaid : Prop := fnCallsUptoRow.holds Tryz.pinned (OpenSpec.upto fnCallsSpec)

/-- 'laws.FnExactCallsOf', WHERE WHAT IT READS IS OF BULK AT MOST 1048576: true; the input reads as it did. -/
def fnExactCallsOfUptoRow : OpenClaim := { program := "ytofmccihehalcaagreat", sum := "f2976354057c55766c83299c60f5cfc8d945ceb747a06be38cfa1c27c142bd78", func := "loop.example/g00966/laws.FnExactCallsOf", spec := "fnExactCallsOf", unfollowed := true, recurses := true, loops := true, apart := false, narrowed := true }
def FnExactCallsOfUptoSaid : Prop := fnExactCallsOfUptoRow.holds Tryz.pinned (OpenSpec.upto fnExactCallsOfSpec)

/-- 'laws.FnExactSpawnsOf', WHERE WHAT IT READS IS OF BULK AT MOST 1048576: true; the input reads as it did. -/
def fnExactSpawnsOfUptoRow : OpenClaim := { program := "ytofmccihehalcaagreat", sum := "f2976354057c55766c83299c60f5cfc8d945ceb747a06be38cfa1c27c142bd78", func := "loop.example/g00966/laws.FnExactSpawnsOf", spec := "fnExactSpawnsOf", unfollowed := true, recurses := true, loops := true, apart := false, narrowed := true }
def FnExactSpawnsOfUptoSaid : Prop := fnExactSpawnsOfUptoRow.holds Tryz.pinned (OpenSpec.upto fnExactSpawnsOfSpec)

/-- 'laws.FnExactCallsFrom', WHERE WHAT IT READS IS OF BULK AT MOST 1048576: true; the input reads as it did. -/
def fnExactCallsFromUptoRow : OpenClaim := { program := "ytofmccihehalcaagreat", sum := "f2976354057c55766c83299c60f5cfc8d945ceb747a06be38cfa1c27c142bd78", func := "loop.example/g00966/laws.FnExactCallsFrom", spec := "fnExactCallsFrom", unfollowed := true, recurses := true, loops := true, apart := false, narrowed := true }
def FnExactCallsFromUptoSaid : Prop := fnExactCallsFromUptoRow.holds Tryz.pinned (OpenSpec.upto fnExactCallsFromSpec)

/-- 'laws.FnExactCallersOf', WHERE WHAT IT READS IS OF BULK AT MOST 1048576: true; the input reads as it did. -/
def fnExactCallersOfUptoRow : OpenClaim := { program := "ytofmccihehalcaagreat", sum := "f2976354057c55766c83299c60f5cfc8d945ceb747a06be38cfa1c27c142bd78", func := "loop.example/g00966/laws.FnExactCallersOf", spec := "fnExactCallersOf", unfollowed := true, recurses := true, loops := true, apart := false, narrowed := true }
def FnExactCallersOfUptoSaid : Prop := fnExactCallersOfUptoRow.holds Tryz.pinned (OpenSpec.upto fnExactCallersOfSpec)

/-- 'laws.FnExactSitesOf', WHERE WHAT IT READS IS OF BULK AT MOST 1048576: true; the input reads as it did. -/
def fnExactSitesOfUptoRow : OpenClaim := { program := "ytofmccihehalcaagreat", sum := "f2976354057c55766c83299c60f5cfc8d945ceb747a06be38cfa1c27c142bd78", func := "loop.example/g00966/laws.FnExactSitesOf", spec := "fnExactSitesOf", unfollowed := true, recurses := true, loops := true, apart := false, narrowed := true }
def FnExactSitesOfUptoSaid : Prop := fnExactSitesOfUptoRow.holds Tryz.pinned (OpenSpec.upto fnExactSitesOfSpec)

/-- 'laws.FnExactReturns', WHERE WHAT IT READS IS OF BULK AT MOST 1048576: true; the input reads as it did. -/
def fnExactReturnsUptoRow : OpenClaim := { program := "ytofmccihehalcaagreat", sum := "f2976354057c55766c83299c60f5cfc8d945ceb747a06be38cfa1c27c142bd78", func := "loop.example/g00966/laws.FnExactReturns", spec := "fnExactReturns", unfollowed := true, recurses := true, loops := true, apart := false, narrowed := true }
def FnExactReturnsUptoSaid : Prop := fnExactReturnsUptoRow.holds Tryz.pinned (OpenSpec.upto fnExactReturnsSpec)

/-- 'laws.FnFlows', WHERE WHAT IT READS IS OF BULK AT MOST 1048576: true; the input reads as it did. -/
def fnFlowsUptoRow : OpenClaim := { program := "ytofmccihehalcaagreat", sum := "f2976354057c55766c83299c60f5cfc8d945ceb747a06be38cfa1c27c142bd78", func := "loop.example/g00966/laws.FnFlows", spec := "fnFlows", unfollowed := true, recurses := true, apart := false, narrowed := true }
def FnFlowsUptoSaid : Prop := fnFlowsUptoRow.holds Tryz.pinned (OpenSpec.upto fnFlowsSpec)

end Rows
end Go.Proofs.YtofmccihehalcaaGreat
