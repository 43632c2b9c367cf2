/- A mask of the lowest bits, of whatever number of 64 bits. Without conditions. -/
import Derived.WalkKit
import Derived.Laws.Entries
import Derived.Laws.BitsLemmas
import Derived.IntWalk
namespace Go.Proofs.Ytabpbmifegfmgaa.Cur
open Go.RowKit
theorem and_range (x : Int) (m : Nat) (hm : m ≤ 4611686018427387904) : 0 ≤ bits .and .i64 x (m : Int) ∧ bits .and .i64 x (m : Int) ≤ (m : Int) := by
  have h : (BitVec.ofInt 64 x &&& BitVec.ofInt 64 (m : Int)).toNat ≤ m := by
    rw [BitVec.toNat_and]
    refine Nat.le_trans Nat.and_le_right ?_
    rw [BitVec.ofInt_natCast, BitVec.toNat_ofNat]
    exact Nat.mod_le _ _
  have e : bits .and .i64 x (m : Int) = IntKind.i64.wrap (((BitVec.ofInt 64 x &&& BitVec.ofInt 64 (m : Int)).toNat : Nat) : Int) := rfl
  rw [e, IntWalk.i64_in _ (by omega)]
  omega
end Go.Proofs.Ytabpbmifegfmgaa.Cur
