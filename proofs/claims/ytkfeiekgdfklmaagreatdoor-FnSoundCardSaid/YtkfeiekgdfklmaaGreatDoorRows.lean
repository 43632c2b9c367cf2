/-
  NARROWER THAN 'FOR EVERY INPUT', by the rows' own cells (each row's printed sentence says how): FnSound: ifaces, laid · FnCodes: ifaces, laid · FnExactProgFault: loops, ifaces, laid · FnExactCodeOf: loops, ifaces, laid.
  DERIVED. THE GIVEN ROWS OF THIS SEAT. 4 by the template 'for every input the law returns true; each argument reads behind the call as it read before'; 0 by the template 'total and deterministic' (their statements: YtkfeiekgdfklmaaGreatDoorTotals.lean).
  GIVEN WITH THE SEED: the statements are not yours to turn. If you find one false, say at which input.
  Laid BY PROGRAM, IN A SANDBOX (cutbox-rows.mjs): the forced cells as the released guide's own fill.sh prints them over the translation 14cb7b747a267260… (all of the seat's roots in one cut). By AI agents, Wed Nov 11 2026. No macro, syntax, notation, axiom, sorry.
-/
import Derived.Test.YtkfeiekgdfklmaaGreatDoorChecked
import GoSem.Claim
import GoSem.ClaimJoined
import GoSem.ClaimMapViews
import Derived.JoinedTies
import Derived.KernelRfl
namespace Go.Proofs.YtkfeiekgdfklmaaGreatDoor
/- THE CELL 'sum', in the pinned program and in every row, IS THE sha256 OF THE DUMP (.gsa) THAT YtkfeiekgdfklmaaGreatDoorProg.lean LOADS. Nothing in Lean hashes anything: it is a label: what it is worth is what the hold of that sum in a sandbox is worth. -/
noncomputable def Tryz.pinned : Pinned := { name := "ytkfeiekgdfklmaagreatdoor", sum := "14cb7b747a26726050a2f0291f6450fffb2bfdb38df3a1f3b8eadf34cdcd6bcc", checked := Tryz.checked }
namespace Rows
def none {H : Type} : Left H := { results := [], args := [] }

/- WHAT THE LISTED PACKAGE-LEVEL VARIABLES READ AS WHEN THE CALL BEGINS. Each datum BY PROGRAM (the guide's laid-datum.mjs) off the statement by which the dump's own 'gosem.cut.vars' lays the variable. In a bare row this is a premise. The card (YtkfeiekgdfklmaaGreatDoorCards.lean) ties it to the program's text. -/
def laid_loop_example_g00966_impl_errForm {H : Type} : DataW H := .iface "*errors.errorString" (.ptr (.agg [.lit (.string [116, 104, 101, 32, 112, 114, 111, 103, 114, 97, 109, 32, 105, 115, 32, 110, 111, 116, 32, 114, 105, 103, 104, 116])]))
def laid_loop_example_g00966_impl_errTwice {H : Type} : DataW H := .iface "*errors.errorString" (.ptr (.agg [.lit (.string [97, 32, 110, 97, 109, 101, 32, 115, 116, 97, 110, 100, 115, 32, 116, 119, 105, 99, 101, 32, 105, 110, 32, 111, 110, 101, 32, 108, 105, 115, 116])]))
def laid_loop_example_g00966_impl_errName {H : Type} : DataW H := .iface "*errors.errorString" (.ptr (.agg [.lit (.string [97, 32, 110, 97, 109, 101, 32, 105, 115, 32, 110, 111, 116, 32, 105, 110, 32, 116, 104, 101, 32, 108, 105, 115, 116, 32, 116, 104, 97, 116, 32, 105, 115, 32, 116, 111, 32, 104, 97, 118, 101, 32, 105, 116])]))
def laid_loop_example_g00966_impl_errMain {H : Type} : DataW H := .iface "*errors.errorString" (.ptr (.agg [.lit (.string [110, 111, 32, 112, 114, 111, 99, 101, 100, 117, 114, 101, 32, 105, 115, 32, 110, 97, 109, 101, 100, 32, 109, 97, 105, 110])]))
def laid_math_bits_deBruijn32tab {H : Type} : DataW H := .agg [.lit (.int .u8 0), .lit (.int .u8 1), .lit (.int .u8 28), .lit (.int .u8 2), .lit (.int .u8 29), .lit (.int .u8 14), .lit (.int .u8 24), .lit (.int .u8 3), .lit (.int .u8 30), .lit (.int .u8 22), .lit (.int .u8 20), .lit (.int .u8 15), .lit (.int .u8 25), .lit (.int .u8 17), .lit (.int .u8 4), .lit (.int .u8 8), .lit (.int .u8 31), .lit (.int .u8 27), .lit (.int .u8 13), .lit (.int .u8 23), .lit (.int .u8 21), .lit (.int .u8 19), .lit (.int .u8 16), .lit (.int .u8 7), .lit (.int .u8 26), .lit (.int .u8 12), .lit (.int .u8 18), .lit (.int .u8 6), .lit (.int .u8 11), .lit (.int .u8 5), .lit (.int .u8 10), .lit (.int .u8 9)]
def laid_math_bits_deBruijn64tab {H : Type} : DataW H := .agg [.lit (.int .u8 0), .lit (.int .u8 1), .lit (.int .u8 56), .lit (.int .u8 2), .lit (.int .u8 57), .lit (.int .u8 49), .lit (.int .u8 28), .lit (.int .u8 3), .lit (.int .u8 61), .lit (.int .u8 58), .lit (.int .u8 42), .lit (.int .u8 50), .lit (.int .u8 38), .lit (.int .u8 29), .lit (.int .u8 17), .lit (.int .u8 4), .lit (.int .u8 62), .lit (.int .u8 47), .lit (.int .u8 59), .lit (.int .u8 36), .lit (.int .u8 45), .lit (.int .u8 43), .lit (.int .u8 51), .lit (.int .u8 22), .lit (.int .u8 53), .lit (.int .u8 39), .lit (.int .u8 33), .lit (.int .u8 30), .lit (.int .u8 24), .lit (.int .u8 18), .lit (.int .u8 12), .lit (.int .u8 5), .lit (.int .u8 63), .lit (.int .u8 55), .lit (.int .u8 48), .lit (.int .u8 27), .lit (.int .u8 60), .lit (.int .u8 41), .lit (.int .u8 37), .lit (.int .u8 16), .lit (.int .u8 46), .lit (.int .u8 35), .lit (.int .u8 44), .lit (.int .u8 21), .lit (.int .u8 52), .lit (.int .u8 32), .lit (.int .u8 23), .lit (.int .u8 11), .lit (.int .u8 54), .lit (.int .u8 26), .lit (.int .u8 40), .lit (.int .u8 15), .lit (.int .u8 34), .lit (.int .u8 20), .lit (.int .u8 31), .lit (.int .u8 10), .lit (.int .u8 25), .lit (.int .u8 14), .lit (.int .u8 19), .lit (.int .u8 9), .lit (.int .u8 13), .lit (.int .u8 8), .lit (.int .u8 7), .lit (.int .u8 6)]
def laid_internal_strconv_uint64pow10 {H : Type} : DataW H := .agg [.lit (.int .u64 1), .lit (.int .u64 10), .lit (.int .u64 100), .lit (.int .u64 1000), .lit (.int .u64 10000), .lit (.int .u64 100000), .lit (.int .u64 1000000), .lit (.int .u64 10000000), .lit (.int .u64 100000000), .lit (.int .u64 1000000000), .lit (.int .u64 10000000000), .lit (.int .u64 100000000000), .lit (.int .u64 1000000000000), .lit (.int .u64 10000000000000), .lit (.int .u64 100000000000000), .lit (.int .u64 1000000000000000), .lit (.int .u64 10000000000000000), .lit (.int .u64 100000000000000000), .lit (.int .u64 1000000000000000000), .lit (.int .u64 10000000000000000000)]

/-- 'laws.FnSound': WHATEVER THE INPUT: true; the input reads as it did. -/
def fnSoundSpec : ChangeSpec := { name := "fnSound", vars := ["loop.example/g00966/impl.errForm", "loop.example/g00966/impl.errTwice", "loop.example/g00966/impl.errName", "loop.example/g00966/impl.errMain"], fn := fun _ => fun
  | [d, g1, g2, g3, g4] => { results := [.lit (.bool true)], args := [d], vars := [g1, g2, g3, g4] }
  | _ => none }
def fnSoundRow : OpenClaim := { program := "ytkfeiekgdfklmaagreatdoor", sum := "14cb7b747a26726050a2f0291f6450fffb2bfdb38df3a1f3b8eadf34cdcd6bcc", func := "loop.example/g00966/laws.FnSound", spec := "fnSound", inPlace := ["internal/reflectlite.TypeOf"], unfollowed := true, recurses := true, named := ["loop.example/g00966/impl.errForm", "loop.example/g00966/impl.errTwice", "loop.example/g00966/impl.errName", "loop.example/g00966/impl.errMain"], ifaces := true, plainKeys := false, apart := false, laid := [("loop.example/g00966/impl.errForm", laid_loop_example_g00966_impl_errForm), ("loop.example/g00966/impl.errTwice", laid_loop_example_g00966_impl_errTwice), ("loop.example/g00966/impl.errName", laid_loop_example_g00966_impl_errName), ("loop.example/g00966/impl.errMain", laid_loop_example_g00966_impl_errMain)] }
def FnSoundSaid : Prop := fnSoundRow.holds Tryz.pinned (OpenSpec.ofChange fnSoundSpec)

/-- ITS FALSE NEIGHBOUR: 'it returns false'. Refute it at one input. -/
def fnSoundWrong : ChangeSpec := { name := "fnSound", vars := ["loop.example/g00966/impl.errForm", "loop.example/g00966/impl.errTwice", "loop.example/g00966/impl.errName", "loop.example/g00966/impl.errMain"], fn := fun _ => fun
  | [d, g1, g2, g3, g4] => { results := [.lit (.bool false)], args := [d], vars := [g1, g2, g3, g4] }
  | _ => none }
def FnSoundWrongFalsely : Prop := fnSoundRow.holds Tryz.pinned (OpenSpec.ofChange fnSoundWrong)

/-- 'laws.FnCodes': WHATEVER THE INPUT: true; the input reads as it did. -/
def fnCodesSpec : ChangeSpec := { name := "fnCodes", vars := ["loop.example/g00966/impl.errForm", "loop.example/g00966/impl.errTwice", "loop.example/g00966/impl.errName", "loop.example/g00966/impl.errMain"], fn := fun _ => fun
  | [d, g1, g2, g3, g4] => { results := [.lit (.bool true)], args := [d], vars := [g1, g2, g3, g4] }
  | _ => none }
def fnCodesRow : OpenClaim := { program := "ytkfeiekgdfklmaagreatdoor", sum := "14cb7b747a26726050a2f0291f6450fffb2bfdb38df3a1f3b8eadf34cdcd6bcc", func := "loop.example/g00966/laws.FnCodes", spec := "fnCodes", inPlace := ["internal/reflectlite.TypeOf"], unfollowed := true, recurses := true, named := ["loop.example/g00966/impl.errForm", "loop.example/g00966/impl.errTwice", "loop.example/g00966/impl.errName", "loop.example/g00966/impl.errMain", "internal/strconv.uint64pow10", "math/bits.deBruijn32tab", "math/bits.deBruijn64tab"], ifaces := true, plainKeys := false, apart := false, laid := [("math/bits.deBruijn32tab", laid_math_bits_deBruijn32tab), ("math/bits.deBruijn64tab", laid_math_bits_deBruijn64tab), ("internal/strconv.uint64pow10", laid_internal_strconv_uint64pow10), ("loop.example/g00966/impl.errForm", laid_loop_example_g00966_impl_errForm), ("loop.example/g00966/impl.errTwice", laid_loop_example_g00966_impl_errTwice), ("loop.example/g00966/impl.errName", laid_loop_example_g00966_impl_errName), ("loop.example/g00966/impl.errMain", laid_loop_example_g00966_impl_errMain)] }
def FnCodesSaid : Prop := fnCodesRow.holds Tryz.pinned (OpenSpec.ofChange fnCodesSpec)

/-- ITS FALSE NEIGHBOUR: 'it returns false'. Refute it at one input. -/
def fnCodesWrong : ChangeSpec := { name := "fnCodes", vars := ["loop.example/g00966/impl.errForm", "loop.example/g00966/impl.errTwice", "loop.example/g00966/impl.errName", "loop.example/g00966/impl.errMain"], fn := fun _ => fun
  | [d, g1, g2, g3, g4] => { results := [.lit (.bool false)], args := [d], vars := [g1, g2, g3, g4] }
  | _ => none }
def FnCodesWrongFalsely : Prop := fnCodesRow.holds Tryz.pinned (OpenSpec.ofChange fnCodesWrong)

/-- 'laws.FnExactProgFault': WHATEVER THE INPUT: true; the input reads as it did. -/
def fnExactProgFaultSpec : ChangeSpec := { name := "fnExactProgFault", vars := ["loop.example/g00966/impl.errForm", "loop.example/g00966/impl.errTwice", "loop.example/g00966/impl.errName", "loop.example/g00966/impl.errMain"], fn := fun _ => fun
  | [d, g1, g2, g3, g4] => { results := [.lit (.bool true)], args := [d], vars := [g1, g2, g3, g4] }
  | _ => none }
def fnExactProgFaultRow : OpenClaim := { program := "ytkfeiekgdfklmaagreatdoor", sum := "14cb7b747a26726050a2f0291f6450fffb2bfdb38df3a1f3b8eadf34cdcd6bcc", func := "loop.example/g00966/laws.FnExactProgFault", spec := "fnExactProgFault", inPlace := ["internal/reflectlite.TypeOf"], unfollowed := true, recurses := true, named := ["loop.example/g00966/impl.errForm", "loop.example/g00966/impl.errTwice", "loop.example/g00966/impl.errName", "loop.example/g00966/impl.errMain"], ifaces := true, loops := true, plainKeys := false, apart := false, laid := [("loop.example/g00966/impl.errForm", laid_loop_example_g00966_impl_errForm), ("loop.example/g00966/impl.errTwice", laid_loop_example_g00966_impl_errTwice), ("loop.example/g00966/impl.errName", laid_loop_example_g00966_impl_errName), ("loop.example/g00966/impl.errMain", laid_loop_example_g00966_impl_errMain)] }
def FnExactProgFaultSaid : Prop := fnExactProgFaultRow.holds Tryz.pinned (OpenSpec.ofChange fnExactProgFaultSpec)

/-- ITS FALSE NEIGHBOUR: 'it returns false'. Refute it at one input. -/
def fnExactProgFaultWrong : ChangeSpec := { name := "fnExactProgFault", vars := ["loop.example/g00966/impl.errForm", "loop.example/g00966/impl.errTwice", "loop.example/g00966/impl.errName", "loop.example/g00966/impl.errMain"], fn := fun _ => fun
  | [d, g1, g2, g3, g4] => { results := [.lit (.bool false)], args := [d], vars := [g1, g2, g3, g4] }
  | _ => none }
def FnExactProgFaultWrongFalsely : Prop := fnExactProgFaultRow.holds Tryz.pinned (OpenSpec.ofChange fnExactProgFaultWrong)

/-- 'laws.FnExactCodeOf': WHATEVER THE INPUT: true; the input reads as it did. -/
def fnExactCodeOfSpec : ChangeSpec := { name := "fnExactCodeOf", vars := ["loop.example/g00966/impl.errForm", "loop.example/g00966/impl.errTwice", "loop.example/g00966/impl.errName", "loop.example/g00966/impl.errMain"], fn := fun _ => fun
  | [d, g1, g2, g3, g4] => { results := [.lit (.bool true)], args := [d], vars := [g1, g2, g3, g4] }
  | _ => none }
def fnExactCodeOfRow : OpenClaim := { program := "ytkfeiekgdfklmaagreatdoor", sum := "14cb7b747a26726050a2f0291f6450fffb2bfdb38df3a1f3b8eadf34cdcd6bcc", func := "loop.example/g00966/laws.FnExactCodeOf", spec := "fnExactCodeOf", inPlace := ["internal/reflectlite.TypeOf"], unfollowed := true, recurses := true, named := ["loop.example/g00966/impl.errForm", "loop.example/g00966/impl.errTwice", "loop.example/g00966/impl.errName", "loop.example/g00966/impl.errMain"], ifaces := true, loops := true, plainKeys := false, apart := false, laid := [("loop.example/g00966/impl.errForm", laid_loop_example_g00966_impl_errForm), ("loop.example/g00966/impl.errTwice", laid_loop_example_g00966_impl_errTwice), ("loop.example/g00966/impl.errName", laid_loop_example_g00966_impl_errName), ("loop.example/g00966/impl.errMain", laid_loop_example_g00966_impl_errMain)] }
def FnExactCodeOfSaid : Prop := fnExactCodeOfRow.holds Tryz.pinned (OpenSpec.ofChange fnExactCodeOfSpec)

/-- ITS FALSE NEIGHBOUR: 'it returns false'. Refute it at one input. -/
def fnExactCodeOfWrong : ChangeSpec := { name := "fnExactCodeOf", vars := ["loop.example/g00966/impl.errForm", "loop.example/g00966/impl.errTwice", "loop.example/g00966/impl.errName", "loop.example/g00966/impl.errMain"], fn := fun _ => fun
  | [d, g1, g2, g3, g4] => { results := [.lit (.bool false)], args := [d], vars := [g1, g2, g3, g4] }
  | _ => none }
def FnExactCodeOfWrongFalsely : Prop := fnExactCodeOfRow.holds Tryz.pinned (OpenSpec.ofChange fnExactCodeOfWrong)

/- THE SECOND FORM. 'bulk': how many values and letters a reading holds, each counted each time it is reached (what is shared counts as often as it is met; a slice's spare places count too). A statement '..UptoSaid' is the law's where the arguments, and the package variables that the reading takes, are together of bulk at most 1048576: NARROWER than '..Said'. Prove '..Said' where nothing that the law and all that it calls make is longer than what came in: it says more and counts as full. Else prove '..UptoSaid'. A law counts once. -/
mutual
def uptoBulk {H : Type} : DataW H → Nat
  | .lit (.string bytes) => bytes.length + 1
  | .lit _ => 1
  | .nil => 1
  | .ptr d => uptoBulk d + 1
  | .slice elems spare => uptoBulkAll elems + uptoBulkAll spare + 1
  | .agg parts => uptoBulkAll parts + 1
  | .iface _ d => uptoBulk d + 1
  | .map entries => uptoBulkEntries entries + 1
  | .held _ => 1
def uptoBulkAll {H : Type} : List (DataW H) → Nat
  | [] => 0
  | d :: r => uptoBulk d + uptoBulkAll r
def uptoBulkEntries {H : Type} : List (Lit × DataW H) → Nat
  | [] => 0
  | x :: r => uptoBulkEntry x + uptoBulkEntries r
def uptoBulkEntry {H : Type} : Lit × DataW H → Nat
  | (.string bytes, d) => bytes.length + uptoBulk d + 1
  | (_, d) => uptoBulk d + 1
 end
def uptoSmall : (H : Type) → List (DataW H) → Bool := fun _ ds => decide (uptoBulkAll ds ≤ 1048576)
def OpenSpec.upto (s : _root_.Go.ChangeSpec) : _root_.Go.OpenSpec := { _root_.Go.OpenSpec.ofChange s with cond := some uptoSmall }

/-- 'laws.FnSound', WHERE WHAT IT READS IS OF BULK AT MOST 1048576: true; the input reads as it did. -/
def fnSoundUptoRow : OpenClaim := { program := "ytkfeiekgdfklmaagreatdoor", sum := "14cb7b747a26726050a2f0291f6450fffb2bfdb38df3a1f3b8eadf34cdcd6bcc", func := "loop.example/g00966/laws.FnSound", spec := "fnSound", inPlace := ["internal/reflectlite.TypeOf"], unfollowed := true, recurses := true, named := ["loop.example/g00966/impl.errForm", "loop.example/g00966/impl.errTwice", "loop.example/g00966/impl.errName", "loop.example/g00966/impl.errMain"], ifaces := true, plainKeys := false, apart := false, laid := [("loop.example/g00966/impl.errForm", laid_loop_example_g00966_impl_errForm), ("loop.example/g00966/impl.errTwice", laid_loop_example_g00966_impl_errTwice), ("loop.example/g00966/impl.errName", laid_loop_example_g00966_impl_errName), ("loop.example/g00966/impl.errMain", laid_loop_example_g00966_impl_errMain)], narrowed := true }
def FnSoundUptoSaid : Prop := fnSoundUptoRow.holds Tryz.pinned (OpenSpec.upto fnSoundSpec)

/-- 'laws.FnCodes', WHERE WHAT IT READS IS OF BULK AT MOST 1048576: true; the input reads as it did. -/
def fnCodesUptoRow : OpenClaim := { program := "ytkfeiekgdfklmaagreatdoor", sum := "14cb7b747a26726050a2f0291f6450fffb2bfdb38df3a1f3b8eadf34cdcd6bcc", func := "loop.example/g00966/laws.FnCodes", spec := "fnCodes", inPlace := ["internal/reflectlite.TypeOf"], unfollowed := true, recurses := true, named := ["loop.example/g00966/impl.errForm", "loop.example/g00966/impl.errTwice", "loop.example/g00966/impl.errName", "loop.example/g00966/impl.errMain", "internal/strconv.uint64pow10", "math/bits.deBruijn32tab", "math/bits.deBruijn64tab"], ifaces := true, plainKeys := false, apart := false, laid := [("math/bits.deBruijn32tab", laid_math_bits_deBruijn32tab), ("math/bits.deBruijn64tab", laid_math_bits_deBruijn64tab), ("internal/strconv.uint64pow10", laid_internal_strconv_uint64pow10), ("loop.example/g00966/impl.errForm", laid_loop_example_g00966_impl_errForm), ("loop.example/g00966/impl.errTwice", laid_loop_example_g00966_impl_errTwice), ("loop.example/g00966/impl.errName", laid_loop_example_g00966_impl_errName), ("loop.example/g00966/impl.errMain", laid_loop_example_g00966_impl_errMain)], narrowed := true }
def FnCodesUptoSaid : Prop := fnCodesUptoRow.holds Tryz.pinned (OpenSpec.upto fnCodesSpec)

/-- 'laws.FnExactProgFault', WHERE WHAT IT READS IS OF BULK AT MOST 1048576: true; the input reads as it did. -/
def fnExactProgFaultUptoRow : OpenClaim := { program := "ytkfeiekgdfklmaagreatdoor", sum := "14cb7b747a26726050a2f0291f6450fffb2bfdb38df3a1f3b8eadf34cdcd6bcc", func := "loop.example/g00966/laws.FnExactProgFault", spec := "fnExactProgFault", inPlace := ["internal/reflectlite.TypeOf"], unfollowed := true, recurses := true, named := ["loop.example/g00966/impl.errForm", "loop.example/g00966/impl.errTwice", "loop.example/g00966/impl.errName", "loop.example/g00966/impl.errMain"], ifaces := true, loops := true, plainKeys := false, apart := false, laid := [("loop.example/g00966/impl.errForm", laid_loop_example_g00966_impl_errForm), ("loop.example/g00966/impl.errTwice", laid_loop_example_g00966_impl_errTwice), ("loop.example/g00966/impl.errName", laid_loop_example_g00966_impl_errName), ("loop.example/g00966/impl.errMain", laid_loop_example_g00966_impl_errMain)], narrowed := true }
def FnExactProgFaultUptoSaid : Prop := fnExactProgFaultUptoRow.holds Tryz.pinned (OpenSpec.upto fnExactProgFaultSpec)

/-- 'laws.FnExactCodeOf', WHERE WHAT IT READS IS OF BULK AT MOST 1048576: true; the input reads as it did. -/
def fnExactCodeOfUptoRow : OpenClaim := { program := "ytkfeiekgdfklmaagreatdoor", sum := "14cb7b747a26726050a2f0291f6450fffb2bfdb38df3a1f3b8eadf34cdcd6bcc", func := "loop.example/g00966/laws.FnExactCodeOf", spec := "fnExactCodeOf", inPlace := ["internal/reflectlite.TypeOf"], unfollowed := true, recurses := true, named := ["loop.example/g00966/impl.errForm", "loop.example/g00966/impl.errTwice", "loop.example/g00966/impl.errName", "loop.example/g00966/impl.errMain"], ifaces := true, loops := true, plainKeys := false, apart := false, laid := [("loop.example/g00966/impl.errForm", laid_loop_example_g00966_impl_errForm), ("loop.example/g00966/impl.errTwice", laid_loop_example_g00966_impl_errTwice), ("loop.example/g00966/impl.errName", laid_loop_example_g00966_impl_errName), ("loop.example/g00966/impl.errMain", laid_loop_example_g00966_impl_errMain)], narrowed := true }
def FnExactCodeOfUptoSaid : Prop := fnExactCodeOfUptoRow.holds Tryz.pinned (OpenSpec.upto fnExactCodeOfSpec)

end Rows
end Go.Proofs.YtkfeiekgdfklmaaGreatDoor
