/- A map of lists that were met, whose keys are two addresses and a number: what a look-up tells, and a store. Conditions: the addresses lie in rows that are not frozen. -/
import Derived.Test.YtokmghhnifdcpaaTermOwn
import Derived.Maps.OwnOps
import Derived.LaidEql
import Derived.Laws.StructEq
namespace Go.Proofs.Ytokmghhnifdcpaa.Trm
open Go.RowKit Own
def kidKey (p q : Addr) (n : Int) : Value := .agg #[.pointer (some p), .pointer (some q), .int .i64 n]
def FreeB (w : World) (g : Nat) : Prop := ∃ cs T, w.heap[g]? = some (.cells cs T (0, 0))
theorem infoTermS : (Try.prog.info? 26).map (fun i => i.size) = some 4 := by kernel_rfl
theorem run_ptr_eq (d : Nat) {p q : Addr} {w : World} (hp : FreeB w p.block) (hq : FreeB w q.block) : (Op.equalIn (d + 1) 66 (.pointer (some p)) (.pointer (some q))).run Try.prog w = .ok (decide (p = q)) w := by
  obtain ⟨j, hj, hs⟩ := Option.map_eq_some_iff.1 infoTermS
  obtain ⟨ca, ta, ha⟩ := hp
  obtain ⟨cb, tb, hb⟩ := hq
  by_cases h : p = q
  · subst h
    simp [Op.equalIn, run_underlying Try.underlying66, sizeOf, typeInfo, hj, run_sameAddr_same]
  · simp [Op.equalIn, run_underlying Try.underlying66, sizeOf, typeInfo, hj, hs, run_sameAddr_other w h ha hb, h]
theorem run_key_eq {p q p' q' : Addr} {n n' : Int} {w : World} (h1 : FreeB w p.block) (h2 : FreeB w q.block) (h3 : FreeB w p'.block) (h4 : FreeB w q'.block) :
    (Op.equal 68 (kidKey p q n) (kidKey p' q' n')).run Try.prog w = .ok (decide (p = p' ∧ q = q' ∧ n = n')) w := by
  have hS : Try.prog.underlying 68 = some (.struct (Try.prog.fieldsOf 68)) := by kernel_rfl
  have hp : Try.prog.stoodInHeld 68 = false := by kernel_rfl
  have e1 : (Op.equalIn 9999 66 (.pointer (some p)) (.pointer (some p'))).run Try.prog w = _ := run_ptr_eq 9998 h1 h3
  have e2 : (Op.equalIn 9999 66 (.pointer (some q)) (.pointer (some q'))).run Try.prog w = _ := run_ptr_eq 9998 h2 h4
  unfold Op.equal Op.maxDepth kidKey
  rw [show (10000 : Nat) = 9999 + 1 from rfl, run_equalIn_agg w 9999 68 _ _ hS hp]
  simp only [Program.fieldsOf, Try.underlying68]
  have hr : decide (p = p' ∧ q = q' ∧ n = n') = (decide (p = p') && (decide (q = q') && decide (n = n'))) := by simp
  rw [hr]
  generalize decide (p = p') = b1 at e1
  generalize decide (q = q') = b2 at e2
  cases b1 <;> cases b2 <;> by_cases c3 : n = n' <;> simp [Op.eqFields, go_sem, e1, e2, c3]
theorem run_key_ok (p q : Addr) (n : Int) (b : Bool) (w : World) : (Instr.checkKey b 10000 68 (kidKey p q n)).run Try.prog w = .ok () w := by kernel_rfl
/-- The map's entries: each at a key of the kind, and true. -/
def MetOk (w : World) (es : List MapEntry) : Prop := ∀ x, x ∈ es → ∃ p q n, x.key = kidKey p q n ∧ x.val = .bool true ∧ FreeB w p.block ∧ FreeB w q.block
theorem run_asking {w : World} {p q : Addr} {n : Int} (h1 : FreeB w p.block) (h2 : FreeB w q.block) : ∀ (es : List MapEntry) (i : Nat), MetOk w es →
    ∃ r, (Instr.findAsking 68 (kidKey p q n) es i).run Try.prog w = .ok r w ∧ ((r = none ∧ ∀ x, x ∈ es → x.key ≠ kidKey p q n) ∨ (∃ j, r = some (j, .bool true) ∧ ∃ x, x ∈ es ∧ x.key = kidKey p q n))
  | [], i, _ => ⟨none, by simp [Instr.findAsking], .inl ⟨rfl, fun x h => by cases h⟩⟩
  | e :: es, i, h => by
    obtain ⟨p', q', n', hk, hv, f1, f2⟩ := h e (by simp)
    have he := run_key_eq (n := n) (n' := n') h1 h2 f1 f2
    by_cases hc : p = p' ∧ q = q' ∧ n = n'
    · refine ⟨some (i, .bool true), ?_, .inr ⟨i, rfl, e, by simp, ?_⟩⟩
      · rw [decide_eq_true hc] at he
        rw [Instr.findAsking]
        simp [hk, he, hv]
      · rw [hk, hc.1, hc.2.1, hc.2.2]
    · obtain ⟨r, hr, hres⟩ := run_asking (n := n) h1 h2 es (i + 1) (fun x hx => h x (by simp [hx]))
      refine ⟨r, ?_, ?_⟩
      · rw [decide_eq_false hc] at he
        rw [Instr.findAsking]
        simp [hk, he, hr]
      · rcases hres with ⟨rfl, hn⟩ | ⟨j, rfl, x, hx, hxk⟩
        · refine .inl ⟨rfl, fun x hx => ?_⟩
          rcases List.mem_cons.1 hx with rfl | hx
          · rw [hk]; intro e; apply hc
            unfold kidKey at e
            simp at e
            exact ⟨e.1.symm, e.2.1.symm, e.2.2.symm⟩
          · exact hn x hx
        · exact .inr ⟨j, rfl, x, by simp [hx], hxk⟩
theorem run_findKey {w : World} {p q : Addr} {n : Int} (h1 : FreeB w p.block) (h2 : FreeB w q.block) (es : List MapEntry) (h : MetOk w es) :
    ∃ r, (Instr.findKey 68 (kidKey p q n) es).run Try.prog w = .ok r w ∧ ((r = none ∧ ∀ x, x ∈ es → x.key ≠ kidKey p q n) ∨ (∃ j, r = some (j, .bool true) ∧ ∃ x, x ∈ es ∧ x.key = kidKey p q n)) := by
  have hS : Try.prog.underlying 68 = some (.struct (Try.prog.fieldsOf 68)) := by kernel_rfl
  cases es with
  | nil => exact ⟨none, by simp [Instr.findKey, run_underlying hS, Instr.findNow], .inl ⟨rfl, fun x h => by cases h⟩⟩
  | cons e es =>
    obtain ⟨r, hr, hres⟩ := run_asking (n := n) h1 h2 (e :: es) 0 h
    refine ⟨r, ?_, hres⟩
    simp [Instr.findKey, run_underlying hS, Instr.findNow, Instr.sameNow, hr]
/-- Whether a key is there. -/
theorem run_met {w : World} {b : Nat} {es : Array MapEntry} {clock : Nat} {p q : Addr} {n : Int} (hb : w.heap[b]? = some (.map es clock)) (h : MetOk w es.toList) (h1 : FreeB w p.block) (h2 : FreeB w q.block) :
    ∃ c : Bool, (Instr.lookup 62 (.map (some b)) (kidKey p q n) false).run Try.prog w = .ok (.bool c) w ∧ (c = true → ∃ x, x ∈ es.toList ∧ x.key = kidKey p q n) ∧ (c = false → ∀ x, x ∈ es.toList → x.key ≠ kidKey p q n) := by
  obtain ⟨r, hr, hres⟩ := run_findKey (n := n) h1 h2 es.toList h
  have hz : (zeroValue 4).run Try.prog w = .ok (.bool false) w := by kernel_rfl
  have hk := run_key_ok p q n es.isEmpty w
  have hg : (getObj b).run Try.prog w = .ok (.map es clock) w := MapKept.run_getObj_map hb
  rcases hres with ⟨rfl, hn⟩ | ⟨j, rfl, hx⟩
  · refine ⟨false, ?_, (fun h => by cases h), fun _ => hn⟩
    simp [Instr.lookup, run_underlying Try.underlying62, hg, hk, hr, hz]
  · refine ⟨true, ?_, (fun _ => hx), fun h => by cases h⟩
    simp [Instr.lookup, run_underlying Try.underlying62, hg, hk, hr]
/-- A store at a key that is not there. -/
theorem run_meet {w : World} {b : Nat} {es : Array MapEntry} {clock : Nat} {p q : Addr} {n : Int} (hb : w.heap[b]? = some (.map es clock)) (h : MetOk w es.toList) (h1 : FreeB w p.block) (h2 : FreeB w q.block) (hn : ∀ x, x ∈ es.toList → x.key ≠ kidKey p q n) :
    ∃ w' e, (Instr.mapUpdate 62 (.map (some b)) (kidKey p q n) (.bool true)).run Try.prog w = .ok () w' ∧ w'.heap[b]? = some (.map (es.push e) (clock + 1)) ∧ e.key = kidKey p q n ∧ e.val = .bool true ∧ w.grownBy w' (some b) := by
  obtain ⟨r, hr, hres⟩ := run_findKey (n := n) h1 h2 es.toList h
  have hk := run_key_ok p q n false w
  have hg : (getObj b).run Try.prog w = .ok (.map es clock) w := MapKept.run_getObj_map hb
  rcases hres with ⟨rfl, _⟩ | ⟨j, rfl, x, hx, e⟩
  · refine ⟨ChangeMaps.setBlock w b (.map (es.push { key := kidKey p q n, val := .bool true, born := clock }) (clock + 1)), _, ?_, ChangeMaps.heap_setBlock_same hb _, rfl, rfl, ⟨rfl, rfl, rfl, by simp [ChangeMaps.setBlock], fun i _ hi => ChangeMaps.heap_setBlock_other hb _ (fun e => hi (by rw [e]))⟩⟩
    simp [Instr.mapUpdate, run_underlying Try.underlying62, hg, hk, hr, MapKept.run_setObj_map _ hb, ChangeMaps.setBlock]
  · exact absurd e (hn x hx)
theorem at_met {w : World} {ops : Array Oper} {rest : List Oper} {o : Oper} {a : Act} {Q : Exit → Act → World → Prop}
    (hg : o.guard = none) (m x : Operand) (hop : o.op = Op.lookup 62 m x false) {b : Nat} {es : Array MapEntry} {clock : Nat} {p q : Addr} {n : Int}
    (hm : a.eval m = .map (some b)) (hx : a.eval x = kidKey p q n) (hb : w.heap[b]? = some (.map es clock)) (h : MetOk w es.toList) (h1 : FreeB w p.block) (h2 : FreeB w q.block)
    (hK : ∀ c : Bool, (c = true → ∃ x, x ∈ es.toList ∧ x.key = kidKey p q n) → (c = false → ∀ x, x ∈ es.toList → x.key ≠ kidKey p q n) → wpList Try.prog ops Q rest (a.put o.dst (.bool c)) w) :
    wpList Try.prog ops Q (o :: rest) a w := by
  refine wpList_plain hg fun K' hK' => ?_
  obtain ⟨c, hrun, h3, h4⟩ := run_met (n := n) hb h h1 h2
  unfold Oper.wp
  simp [execOp, hop, hm, hx, hrun, Result.andThen]
  exact hK' _ _ (hK c h3 h4)
theorem at_meet {w : World} {ops : Array Oper} {rest : List Oper} {o : Oper} {a : Act} {Q : Exit → Act → World → Prop}
    (hg : o.guard = none) (m x y : Operand) (hop : o.op = Op.mapUpdate 62 m x y) {b : Nat} {es : Array MapEntry} {clock : Nat} {p q : Addr} {n : Int}
    (hm : a.eval m = .map (some b)) (hx : a.eval x = kidKey p q n) (hy : a.eval y = .bool true) (hb : w.heap[b]? = some (.map es clock)) (h : MetOk w es.toList) (h1 : FreeB w p.block) (h2 : FreeB w q.block) (hn : ∀ x, x ∈ es.toList → x.key ≠ kidKey p q n)
    (hK : ∀ (w' : World) (e : MapEntry), w'.heap[b]? = some (.map (es.push e) (clock + 1)) → e.key = kidKey p q n → e.val = .bool true → w.grownBy w' (some b) → wpList Try.prog ops Q rest (a.put o.dst (.tuple #[])) w') :
    wpList Try.prog ops Q (o :: rest) a w := by
  refine wpList_plain hg fun K' hK' => ?_
  obtain ⟨w', e, hrun, h3, h4, h5, h6⟩ := run_meet (n := n) hb h h1 h2 hn
  unfold Oper.wp
  simp [execOp, hop, hm, hx, hy, hrun, Result.andThen]
  exact hK' _ _ (hK w' e h3 h4 h5 h6)
end Go.Proofs.Ytokmghhnifdcpaa.Trm
