/- What a right term's type switch finds. Without conditions. -/
import Derived.Test.YtegcebjfcmcgmaaRightAny
namespace Go.Proofs.Ytegcebjfcmcgmaa.Trm
open Go.RowKit Own Lexs
theorem as_num_num (W : World) (v : Value) : (Instr.typeAssert (.iface 108 v) 70 108 true).run Try.prog W = .ok (.tuple #[v, .bool true]) W := by kernel_rfl
theorem as_num_var (W : World) (v : Value) : (Instr.typeAssert (.iface 108 v) 70 110 true).run Try.prog W = .ok (.tuple #[.agg #[.string ⟨#[]⟩], .bool false]) W := by kernel_rfl
theorem as_num_not (W : World) (v : Value) : (Instr.typeAssert (.iface 108 v) 70 116 true).run Try.prog W = .ok (.tuple #[.agg #[.nilIface], .bool false]) W := by kernel_rfl
theorem as_num_pair (W : World) (v : Value) : (Instr.typeAssert (.iface 108 v) 70 118 true).run Try.prog W = .ok (.tuple #[.agg #[.int .i64 0, .nilIface, .nilIface], .bool false]) W := by kernel_rfl
theorem as_var_num (W : World) (v : Value) : (Instr.typeAssert (.iface 110 v) 70 108 true).run Try.prog W = .ok (.tuple #[.agg #[.int .i64 0], .bool false]) W := by kernel_rfl
theorem as_var_var (W : World) (v : Value) : (Instr.typeAssert (.iface 110 v) 70 110 true).run Try.prog W = .ok (.tuple #[v, .bool true]) W := by kernel_rfl
theorem as_var_not (W : World) (v : Value) : (Instr.typeAssert (.iface 110 v) 70 116 true).run Try.prog W = .ok (.tuple #[.agg #[.nilIface], .bool false]) W := by kernel_rfl
theorem as_var_pair (W : World) (v : Value) : (Instr.typeAssert (.iface 110 v) 70 118 true).run Try.prog W = .ok (.tuple #[.agg #[.int .i64 0, .nilIface, .nilIface], .bool false]) W := by kernel_rfl
theorem as_not_num (W : World) (v : Value) : (Instr.typeAssert (.iface 116 v) 70 108 true).run Try.prog W = .ok (.tuple #[.agg #[.int .i64 0], .bool false]) W := by kernel_rfl
theorem as_not_var (W : World) (v : Value) : (Instr.typeAssert (.iface 116 v) 70 110 true).run Try.prog W = .ok (.tuple #[.agg #[.string ⟨#[]⟩], .bool false]) W := by kernel_rfl
theorem as_not_not (W : World) (v : Value) : (Instr.typeAssert (.iface 116 v) 70 116 true).run Try.prog W = .ok (.tuple #[v, .bool true]) W := by kernel_rfl
theorem as_not_pair (W : World) (v : Value) : (Instr.typeAssert (.iface 116 v) 70 118 true).run Try.prog W = .ok (.tuple #[.agg #[.int .i64 0, .nilIface, .nilIface], .bool false]) W := by kernel_rfl
theorem as_pair_num (W : World) (v : Value) : (Instr.typeAssert (.iface 118 v) 70 108 true).run Try.prog W = .ok (.tuple #[.agg #[.int .i64 0], .bool false]) W := by kernel_rfl
theorem as_pair_var (W : World) (v : Value) : (Instr.typeAssert (.iface 118 v) 70 110 true).run Try.prog W = .ok (.tuple #[.agg #[.string ⟨#[]⟩], .bool false]) W := by kernel_rfl
theorem as_pair_not (W : World) (v : Value) : (Instr.typeAssert (.iface 118 v) 70 116 true).run Try.prog W = .ok (.tuple #[.agg #[.nilIface], .bool false]) W := by kernel_rfl
theorem as_pair_pair (W : World) (v : Value) : (Instr.typeAssert (.iface 118 v) 70 118 true).run Try.prog W = .ok (.tuple #[v, .bool true]) W := by kernel_rfl
end Go.Proofs.Ytegcebjfcmcgmaa.Trm
