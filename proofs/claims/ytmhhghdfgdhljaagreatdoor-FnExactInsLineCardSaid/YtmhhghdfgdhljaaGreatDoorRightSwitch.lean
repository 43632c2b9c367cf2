/- What a right term's type switch finds. Without conditions. -/
import Derived.Test.YtmhhghdfgdhljaaGreatDoorRightAny
namespace Go.Proofs.YtmhhghdfgdhljaaGreatDoor.Trm
open Go.RowKit Own Lexs
theorem as_num_num (W : World) (v : Value) : (Instr.typeAssert (.iface 203 v) 166 203 true).run Tryz.prog W = .ok (.tuple #[v, .bool true]) W := by kernel_rfl
theorem as_num_var (W : World) (v : Value) : (Instr.typeAssert (.iface 203 v) 166 205 true).run Tryz.prog W = .ok (.tuple #[.agg #[.string ⟨#[]⟩], .bool false]) W := by kernel_rfl
theorem as_num_not (W : World) (v : Value) : (Instr.typeAssert (.iface 203 v) 166 210 true).run Tryz.prog W = .ok (.tuple #[.agg #[.nilIface], .bool false]) W := by kernel_rfl
theorem as_num_pair (W : World) (v : Value) : (Instr.typeAssert (.iface 203 v) 166 212 true).run Tryz.prog W = .ok (.tuple #[.agg #[.int .i64 0, .nilIface, .nilIface], .bool false]) W := by kernel_rfl
theorem as_var_num (W : World) (v : Value) : (Instr.typeAssert (.iface 205 v) 166 203 true).run Tryz.prog W = .ok (.tuple #[.agg #[.int .i64 0], .bool false]) W := by kernel_rfl
theorem as_var_var (W : World) (v : Value) : (Instr.typeAssert (.iface 205 v) 166 205 true).run Tryz.prog W = .ok (.tuple #[v, .bool true]) W := by kernel_rfl
theorem as_var_not (W : World) (v : Value) : (Instr.typeAssert (.iface 205 v) 166 210 true).run Tryz.prog W = .ok (.tuple #[.agg #[.nilIface], .bool false]) W := by kernel_rfl
theorem as_var_pair (W : World) (v : Value) : (Instr.typeAssert (.iface 205 v) 166 212 true).run Tryz.prog W = .ok (.tuple #[.agg #[.int .i64 0, .nilIface, .nilIface], .bool false]) W := by kernel_rfl
theorem as_not_num (W : World) (v : Value) : (Instr.typeAssert (.iface 210 v) 166 203 true).run Tryz.prog W = .ok (.tuple #[.agg #[.int .i64 0], .bool false]) W := by kernel_rfl
theorem as_not_var (W : World) (v : Value) : (Instr.typeAssert (.iface 210 v) 166 205 true).run Tryz.prog W = .ok (.tuple #[.agg #[.string ⟨#[]⟩], .bool false]) W := by kernel_rfl
theorem as_not_not (W : World) (v : Value) : (Instr.typeAssert (.iface 210 v) 166 210 true).run Tryz.prog W = .ok (.tuple #[v, .bool true]) W := by kernel_rfl
theorem as_not_pair (W : World) (v : Value) : (Instr.typeAssert (.iface 210 v) 166 212 true).run Tryz.prog W = .ok (.tuple #[.agg #[.int .i64 0, .nilIface, .nilIface], .bool false]) W := by kernel_rfl
theorem as_pair_num (W : World) (v : Value) : (Instr.typeAssert (.iface 212 v) 166 203 true).run Tryz.prog W = .ok (.tuple #[.agg #[.int .i64 0], .bool false]) W := by kernel_rfl
theorem as_pair_var (W : World) (v : Value) : (Instr.typeAssert (.iface 212 v) 166 205 true).run Tryz.prog W = .ok (.tuple #[.agg #[.string ⟨#[]⟩], .bool false]) W := by kernel_rfl
theorem as_pair_not (W : World) (v : Value) : (Instr.typeAssert (.iface 212 v) 166 210 true).run Tryz.prog W = .ok (.tuple #[.agg #[.nilIface], .bool false]) W := by kernel_rfl
theorem as_pair_pair (W : World) (v : Value) : (Instr.typeAssert (.iface 212 v) 166 212 true).run Tryz.prog W = .ok (.tuple #[v, .bool true]) W := by kernel_rfl
end Go.Proofs.YtmhhghdfgdhljaaGreatDoor.Trm
