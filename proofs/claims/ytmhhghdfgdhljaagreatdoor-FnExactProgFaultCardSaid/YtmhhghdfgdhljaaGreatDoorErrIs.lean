/- The program's four errors as they lie in memory, and the library's errors.Is asked of them, walked. Conditions: the four variables hold four errors of their own. -/
import Derived.Test.YtmhhghdfgdhljaaGreatDoorChecked
import Derived.Test.YtmhhghdfgdhljaaGreatDoorTrees
import Derived.WalkKit
import Derived.LaidEql
import Derived.Stop.Asserts
import Derived.RowKitTokens
import Derived.WalkSmall
namespace Go.Proofs.YtmhhghdfgdhljaaGreatDoor.Er
open Go.RowKit Go.Extern.Stop Go.Stop Go.Extern Trm
theorem isTypeOf (v : Value) (w : World) : (Extern.ReflectliteType.typeOf #[.iface 277 v]).run Tryz.prog w = .ok (.iface 187 (.agg #[.pointer (some ⟨7, 277, none⟩)])) w := by kernel_rfl
/-- What the library's question Comparable does. -/
def cmpX : Array Value → Sem Value := Extern.ReflectliteType.method fun t => do Extern.Rtype.noPackHeld "Comparable" t; pure (.bool (← typeInfo t).comparable)
theorem isComparable (w : World) : (cmpX #[.agg #[.pointer (some ⟨7, 277, none⟩)]]).run Tryz.prog w = .ok (.bool true) w := by kernel_rfl
theorem isMethodComparable (v : Value) (w : World) : (Go.method 413 187 v "Comparable").run Tryz.prog w = .ok (227, v) w := by kernel_rfl
theorem isComp : (Tryz.prog.info? 277).map (·.comparable) = some true := by kernel_rfl
theorem isSize : (Tryz.prog.info? 301).map (·.size) = some 1 := by kernel_rfl
theorem noIsE (v : Value) (xT : TypeId) (w : World) : (Instr.typeAssert (.iface 277 v) xT 189 true).run Tryz.prog w = .ok (.tuple #[.nilIface, .bool false]) w := run_typeAssert_lacksB Tryz.underlying189 (by kernel_rfl) (by kernel_rfl) v xT w
theorem noUnwrapE (v : Value) (xT : TypeId) (w : World) : (Instr.typeAssert (.iface 277 v) xT 192 true).run Tryz.prog w = .ok (.tuple #[.nilIface, .bool false]) w := run_typeAssert_lacksB Tryz.underlying192 (by kernel_rfl) (by kernel_rfl) v xT w
theorem noUnwrapsE (v : Value) (xT : TypeId) (w : World) : (Instr.typeAssert (.iface 277 v) xT 194 true).run Tryz.prog w = .ok (.tuple #[.nilIface, .bool false]) w := run_typeAssert_lacksB Tryz.underlying194 (by kernel_rfl) (by kernel_rfl) v xT w
/-- errors.Is(x, x). -/
theorem is_same (a : Addr) (w : World) :
    Calls Tryz.prog 77 #[.iface 277 (.pointer (some a)), .iface 277 (.pointer (some a))] w fun e w' => e = .returned (.bool true) ∧ w' = w := by
  obtain ⟨i, hi, hcmp⟩ := Option.map_eq_some_iff.1 isComp
  obtain ⟨j, hj, hjs⟩ := Option.map_eq_some_iff.1 isSize
  have h8 := @run_callFunc_extern Tryz.prog 125 _ Extern.ReflectliteType.typeOf Tryz.func125 (by kernel_rfl) (by kernel_rfl) (by kernel_rfl) (by kernel_rfl)
  have h32 := @run_callFunc_extern Tryz.prog 227 _ cmpX Tryz.func227 (by kernel_rfl) (by kernel_rfl) (by kernel_rfl) (by kernel_rfl)
  have tT := isTypeOf
  have cT := isComparable
  have mR := isMethodComparable
  have heq := run_eql_iface_ptr_same (P := Tryz.prog) w a Tryz.underlying102 Tryz.underlying277 hi hcmp hj
  go_enter Tryz.func77, Tryz.ntmps77
  go_wp2
  refine wp_loop_rounds 1 ?_
  rw [rounds_succ]
  go_wp2
  go_ret
  exact ⟨rfl, rfl⟩
/-- errors.Is(nil, x). -/
theorem is_nil (b : Addr) (w : World) :
    Calls Tryz.prog 77 #[.nilIface, .iface 277 (.pointer (some b))] w fun e w' => e = .returned (.bool false) ∧ w' = w := by
  have hn := run_eql_iface_nil_left (P := Tryz.prog) w 277 (.pointer (some b)) Tryz.underlying102
  go_enter Tryz.func77, Tryz.ntmps77
  go_wp2
  go_ret
  exact ⟨rfl, rfl⟩
/-- errors.Is(x, y), two that are not one. -/
theorem is_other (a b : Addr) (ca cb : Array Value) (ta tb : TypeId) (w : World) (hne : a ≠ b) (ha : w.heap[a.block]? = some (.cells ca ta (0, 0))) (hb : w.heap[b.block]? = some (.cells cb tb (0, 0))) :
    Calls Tryz.prog 77 #[.iface 277 (.pointer (some a)), .iface 277 (.pointer (some b))] w fun e w' => e = .returned (.bool false) ∧ w' = w := by
  obtain ⟨i, hi, hcmp⟩ := Option.map_eq_some_iff.1 isComp
  obtain ⟨j, hj, hjs⟩ := Option.map_eq_some_iff.1 isSize
  have h8 := @run_callFunc_extern Tryz.prog 125 _ Extern.ReflectliteType.typeOf Tryz.func125 (by kernel_rfl) (by kernel_rfl) (by kernel_rfl) (by kernel_rfl)
  have h32 := @run_callFunc_extern Tryz.prog 227 _ cmpX Tryz.func227 (by kernel_rfl) (by kernel_rfl) (by kernel_rfl) (by kernel_rfl)
  have tT := isTypeOf
  have cT := isComparable
  have mR := isMethodComparable
  have nE := noIsE
  have uE := noUnwrapE
  have vE := noUnwrapsE
  have heq := run_eql_iface_ptr_other (P := Tryz.prog) w Tryz.underlying102 Tryz.underlying277 hi hcmp hj (by rw [hjs]; decide) hne ha hb
  go_enter Tryz.func77, Tryz.ntmps77
  go_wp2
  refine wp_loop_rounds 1 ?_
  rw [rounds_succ]
  go_wp2
  go_ret
  exact ⟨rfl, rfl⟩
/-- The four variables hold four errors of their own. -/
structure Errs (a : Nat → Addr) (w : World) : Prop where
  var : ∀ i, i < 4 → w.cell? ⟨i, 0, none⟩ = some (.iface 277 (.pointer (some (a i))))
  row : ∀ i, i < 4 → ∃ c t, w.heap[(a i).block]? = some (.cells c t (0, 0))
  ne : ∀ i j, i < 4 → j < 4 → i ≠ j → a i ≠ a j
theorem Errs.below {a : Nat → Addr} {w w' : World} (h : Errs a w) (hb : Below w.heap.size w w') : Errs a w' where
  var i hi := keeps_below hb _ _ (h.var i hi)
  row i hi := by
    obtain ⟨c, t, e⟩ := h.row i hi
    have hlt : (a i).block < w.heap.size := by
      rcases Nat.lt_or_ge (a i).block w.heap.size with h' | h'
      · exact h'
      · rw [Array.getElem?_eq_none h'] at e; cases e
    exact ⟨c, t, (hb.block _ hlt).trans e⟩
  ne := h.ne
/-- The error of a fault. -/
def errV (a : Nat → Addr) (f : Nat) : Value := if f = 0 then .nilIface else .iface 277 (.pointer (some (a (f - 1))))
theorem isErr (a : Nat → Addr) (w : World) (h : Errs a w) (f : Nat) (hf : f ≤ 4) (k : Nat) (hk : k < 4) (b : Bool) (hb : b = decide (f = k + 1)) :
    Calls Tryz.prog 77 #[errV a f, .iface 277 (.pointer (some (a k)))] w fun e w' => e = .returned (.bool b) ∧ w' = w := by
  subst hb
  unfold errV
  by_cases h0 : f = 0
  · subst h0
    rw [if_pos rfl, decide_eq_false (by omega)]
    exact is_nil _ _
  · rw [if_neg h0]
    by_cases he : f = k + 1
    · subst he
      rw [decide_eq_true rfl]
      exact is_same _ _
    · rw [decide_eq_false he]
      obtain ⟨c1, t1, e1⟩ := h.row (f - 1) (by omega)
      obtain ⟨c2, t2, e2⟩ := h.row k hk
      exact is_other _ _ c1 c2 t1 t2 w (h.ne _ _ (by omega) hk (by omega)) e1 e2
end Go.Proofs.YtmhhghdfgdhljaaGreatDoor.Er
