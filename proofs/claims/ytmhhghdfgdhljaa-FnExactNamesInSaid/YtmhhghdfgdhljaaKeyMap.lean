/- Maps whose keys are held against each other by their type's own rule: what a look-up tells, and a store. Conditions: each says its own. -/
import Derived.Test.YtmhhghdfgdhljaaTermOwn
import Derived.Maps.OwnOps
import Derived.LaidEql
import Derived.Laws.StructEq
import Derived.ChangeKeysEq
namespace Go.Proofs.Ytmhhghdfgdhljaa.Km
open Go.RowKit Own
open Classical
/-- Keys of a type that is held against another of its kind part by part. -/
structure KeyT (T : TypeId) (KOk : World → Value → Prop) : Prop where
  eq : ∀ w k k', KOk w k → KOk w k' → ∃ c, (Op.equal T k k').run Try.prog w = .ok c w ∧ (c = true ↔ k = k')
  chk : ∀ w k b, KOk w k → (Instr.checkKey b 10000 T k).run Try.prog w = .ok () w
  now : ∃ D, Try.prog.underlying T = some D ∧ ∀ a b, Instr.sameNow D a b = none
  stay : ∀ w k, KOk w k → Instr.sameBits 10000 k k = true
/-- What lies at a key. -/
noncomputable def lookK : List MapEntry → Value → Option Value
  | [], _ => none
  | e :: es, k => if e.key = k then some e.val else lookK es k
theorem look_none {k : Value} : ∀ {es : List MapEntry}, (∀ x, x ∈ es → x.key ≠ k) → lookK es k = none
  | [], _ => rfl
  | e :: es, h => by rw [lookK, if_neg (h e (by simp)), look_none fun x hx => h x (by simp [hx])]
theorem look_some {k v : Value} : ∀ {es : List MapEntry}, lookK es k = some v → ∃ x, x ∈ es ∧ x.key = k ∧ x.val = v
  | [], h => by cases h
  | e :: es, h => by
    rw [lookK] at h
    split at h
    · rename_i h1
      exact ⟨e, by simp, h1, by simpa using h⟩
    · obtain ⟨x, h1, h2⟩ := look_some h
      exact ⟨x, by simp [h1], h2⟩
theorem look_snoc {k : Value} (x : MapEntry) : ∀ {es : List MapEntry}, lookK es x.key = none → lookK (es ++ [x]) k = if x.key = k then some x.val else lookK es k
  | [], _ => by simp [lookK]
  | e :: es, h => by
    rw [lookK] at h
    split at h
    · cases h
    · rename_i h1
      rw [List.cons_append, lookK, lookK, look_snoc x h]
      by_cases h2 : e.key = k
      · rw [if_pos h2, if_pos h2, if_neg (fun h3 => h1 (h2.trans h3.symm))]
      · rw [if_neg h2, if_neg h2]
def MetK (KOk : World → Value → Prop) (w : World) (es : List MapEntry) : Prop := ∀ x, x ∈ es → KOk w x.key
/-- An entry's value turned. -/
def turn (es : List MapEntry) (j : Nat) (v : Value) : List MapEntry := es.modify j fun e => { e with val := v }
theorem run_asking {T : TypeId} {KOk : World → Value → Prop} (kt : KeyT T KOk) {w : World} {k : Value} (hk : KOk w k) : ∀ (es : List MapEntry) (i : Nat), MetK KOk w es →
    ∃ r, (Instr.findAsking T k es i).run Try.prog w = .ok r w ∧ ((r = none ∧ lookK es k = none) ∨ (∃ j v, r = some (i + j, v) ∧ lookK es k = some v ∧ (∃ e, es[j]? = some e ∧ e.key = k) ∧ ∀ u k', lookK (turn es j u) k' = if k = k' then some u else lookK es k'))
  | [], i, _ => ⟨none, by simp [Instr.findAsking], .inl ⟨rfl, rfl⟩⟩
  | e :: es, i, h => by
    obtain ⟨c, hc, hiff⟩ := kt.eq w k e.key hk (h e (by simp))
    cases c with
    | true =>
      have he := hiff.1 rfl
      refine ⟨some (i, e.val), ?_, .inr ⟨0, e.val, by simp, ?_, ⟨e, rfl, he.symm⟩, fun u k' => ?_⟩⟩
      · rw [Instr.findAsking]; simp [hc]
      · rw [lookK, if_pos he.symm]
      · unfold turn
        rw [List.modify_cons, if_pos rfl, lookK, lookK, ← he]
        by_cases h2 : k = k'
        · rw [if_pos h2, if_pos h2]
        · rw [if_neg h2, if_neg h2, if_neg h2]
    | false =>
      have he : ¬ k = e.key := fun h2 => by have := hiff.2 h2; cases this
      obtain ⟨r, hr, hres⟩ := run_asking kt hk es (i + 1) (fun x hx => h x (by simp [hx]))
      refine ⟨r, ?_, ?_⟩
      · rw [Instr.findAsking]; simp [hc, hr]
      · have he2 : ¬ e.key = k := fun h2 => he h2.symm
        rcases hres with ⟨rfl, h1⟩ | ⟨j, v, rfl, h1, ⟨e', h2, h3⟩, h4⟩
        · exact .inl ⟨rfl, by rw [lookK, if_neg he2]; exact h1⟩
        · refine .inr ⟨j + 1, v, by rw [show i + (j + 1) = i + 1 + j from by omega], by rw [lookK, if_neg he2]; exact h1, ⟨e', by simpa using h2, h3⟩, fun u k' => ?_⟩
          have h5 := h4 u k'
          unfold turn at h5 ⊢
          rw [List.modify_cons, if_neg (by omega), show j + 1 - 1 = j from by omega, lookK, lookK, h5]
          by_cases h6 : e.key = k'
          · rw [if_pos h6, if_pos h6, if_neg (fun h7 => he (h7.trans h6.symm))]
          · rw [if_neg h6, if_neg h6]
theorem run_findKey {T : TypeId} {KOk : World → Value → Prop} (kt : KeyT T KOk) {w : World} {k : Value} (hk : KOk w k) (es : List MapEntry) (h : MetK KOk w es) :
    ∃ r, (Instr.findKey T k es).run Try.prog w = .ok r w ∧ ((r = none ∧ lookK es k = none) ∨ (∃ j v, r = some (j, v) ∧ lookK es k = some v ∧ (∃ e, es[j]? = some e ∧ e.key = k) ∧ ∀ u k', lookK (turn es j u) k' = if k = k' then some u else lookK es k')) := by
  obtain ⟨D, hD, hnow⟩ := kt.now
  cases es with
  | nil => exact ⟨none, by simp [Instr.findKey, run_underlying hD, Instr.findNow], .inl ⟨rfl, rfl⟩⟩
  | cons e es =>
    obtain ⟨r, hr, hres⟩ := run_asking kt hk (e :: es) 0 h
    refine ⟨r, ?_, ?_⟩
    · simp [Instr.findKey, run_underlying hD, Instr.findNow, hnow, hr]
    · simpa using hres
/-- What lies at a key, or nothing of its kind. -/
theorem run_look {T M E : TypeId} {KOk : World → Value → Prop} (kt : KeyT T KOk) (hM : Try.prog.underlying M = some (.map T E)) {z : Value} (hz : ∀ w, (zeroValue E).run Try.prog w = .ok z w) {w : World} {b : Nat} {es : Array MapEntry} {clock : Nat} {k : Value} (hb : w.heap[b]? = some (.map es clock)) (h : MetK KOk w es.toList) (hk : KOk w k) :
    (Instr.lookup M (.map (some b)) k false).run Try.prog w = .ok ((lookK es.toList k).getD z) w ∧ (Instr.lookup M (.map (some b)) k true).run Try.prog w = .ok (.tuple #[(lookK es.toList k).getD z, .bool (lookK es.toList k).isSome]) w := by
  obtain ⟨r, hr, hres⟩ := run_findKey kt hk es.toList h
  have hc := kt.chk w k es.isEmpty hk
  have hg : (getObj b).run Try.prog w = .ok (.map es clock) w := MapKept.run_getObj_map hb
  rcases hres with ⟨rfl, hn⟩ | ⟨j, v, rfl, hn, _⟩
  · rw [hn]
    constructor <;> simp [Instr.lookup, run_underlying hM, hg, hc, hr, hz]
  · rw [hn]
    constructor <;> simp [Instr.lookup, run_underlying hM, hg, hc, hr]
/-- A store. -/
theorem run_put {T M E : TypeId} {KOk : World → Value → Prop} (kt : KeyT T KOk) (hM : Try.prog.underlying M = some (.map T E)) {w : World} {b : Nat} {es : Array MapEntry} {clock : Nat} {k : Value} (v : Value) (hb : w.heap[b]? = some (.map es clock)) (h : MetK KOk w es.toList) (hk : KOk w k) :
    ∃ w' es' clock', (Instr.mapUpdate M (.map (some b)) k v).run Try.prog w = .ok () w' ∧ w'.heap[b]? = some (.map es' clock') ∧ (∀ k', lookK es'.toList k' = if k = k' then some v else lookK es.toList k') ∧ (∀ x, x ∈ es'.toList → x.key = k ∨ ∃ y, y ∈ es.toList ∧ y.key = x.key) ∧ w.grownBy w' (some b) := by
  obtain ⟨r, hr, hres⟩ := run_findKey kt hk es.toList h
  have hc := kt.chk w k false hk
  have hg : (getObj b).run Try.prog w = .ok (.map es clock) w := MapKept.run_getObj_map hb
  have grown : ∀ o, w.grownBy (ChangeMaps.setBlock w b o) (some b) := fun o => ⟨rfl, rfl, rfl, by simp [ChangeMaps.setBlock], fun i _ hi => ChangeMaps.heap_setBlock_other hb _ (fun e => hi (by rw [e]))⟩
  rcases hres with ⟨rfl, hn⟩ | ⟨j, v0, rfl, hn, ⟨e, he, hek⟩, ht⟩
  · refine ⟨ChangeMaps.setBlock w b (.map (es.push { key := k, val := v, born := clock }) (clock + 1)), _, _, ?_, ChangeMaps.heap_setBlock_same hb _, fun k' => ?_, fun x hx => ?_, grown _⟩
    · simp [Instr.mapUpdate, run_underlying hM, hg, hc, hr, MapKept.run_setObj_map _ hb, ChangeMaps.setBlock]
    · rw [Array.toList_push]
      exact look_snoc _ hn
    · rw [Array.toList_push] at hx
      rcases List.mem_append.1 hx with hx | hx
      · exact .inr ⟨x, hx, rfl⟩
      · obtain rfl : x = _ := by simpa using hx
        exact .inl rfl
  · have hj : j < es.size := by
      rcases Nat.lt_or_ge j es.toList.length with h1 | h1
      · simpa using h1
      · rw [List.getElem?_eq_none h1] at he; cases he
    have he2 : es[j]? = some e := by rw [← he]; simp
    have hst : (Instr.keyThatStays k k).run Try.prog w = .ok k w := by unfold Instr.keyThatStays; rw [if_pos (kt.stay w k hk)]; rfl
    have e1 : (es.modify j fun e => { e with key := k, val := v }).toList = turn es.toList j v := by
      unfold turn
      rw [Array.toList_modify]
      refine List.ext_getElem? fun i => ?_
      rw [List.getElem?_modify, List.getElem?_modify]
      by_cases hi : j = i
      · subst hi
        rw [he]
        simp [← hek]
      · simp [hi]
    refine ⟨ChangeMaps.setBlock w b (.map (es.modify j fun e => { e with key := k, val := v }) clock), _, _, ?_, ChangeMaps.heap_setBlock_same hb _, fun k' => ?_, fun x hx => ?_, grown _⟩
    · simp [Instr.mapUpdate, run_underlying hM, hg, hc, hr, he2, hek, hst, MapKept.run_setObj_map _ hb, ChangeMaps.setBlock]
    · rw [e1]; exact ht v k'
    · rw [Array.toList_modify] at hx
      obtain ⟨i, hi⟩ := List.mem_iff_getElem?.1 hx
      rw [List.getElem?_modify] at hi
      by_cases hi2 : j = i
      · subst hi2
        rw [he] at hi
        simp at hi
        rw [← hi]
        exact .inl rfl
      · simp [hi2] at hi
        exact .inr ⟨x, List.mem_iff_getElem?.2 ⟨i, by simpa using hi⟩, rfl⟩
theorem at_look {T M E : TypeId} {KOk : World → Value → Prop} (kt : KeyT T KOk) (hM : Try.prog.underlying M = some (.map T E)) {z : Value} (hz : ∀ w, (zeroValue E).run Try.prog w = .ok z w) {w : World} {ops : Array Oper} {rest : List Oper} {o : Oper} {a : Act} {Q : Exit → Act → World → Prop}
    (hg : o.guard = none) (m x : Operand) (hop : o.op = Op.lookup M m x false) {b : Nat} {es : Array MapEntry} {clock : Nat} {k : Value}
    (hm : a.eval m = .map (some b)) (hx : a.eval x = k) (hb : w.heap[b]? = some (.map es clock)) (h : MetK KOk w es.toList) (hk : KOk w k)
    (hK : wpList Try.prog ops Q rest (a.put o.dst ((lookK es.toList k).getD z)) w) :
    wpList Try.prog ops Q (o :: rest) a w := by
  refine wpList_plain hg fun K' hK' => ?_
  have hrun := (run_look kt hM hz hb h hk).1
  unfold Oper.wp
  simp [execOp, hop, hm, hx, hrun, Result.andThen]
  exact hK' _ _ hK
theorem at_look2 {T M E : TypeId} {KOk : World → Value → Prop} (kt : KeyT T KOk) (hM : Try.prog.underlying M = some (.map T E)) {z : Value} (hz : ∀ w, (zeroValue E).run Try.prog w = .ok z w) {w : World} {ops : Array Oper} {rest : List Oper} {o : Oper} {a : Act} {Q : Exit → Act → World → Prop}
    (hg : o.guard = none) (m x : Operand) (hop : o.op = Op.lookup M m x true) {b : Nat} {es : Array MapEntry} {clock : Nat} {k : Value}
    (hm : a.eval m = .map (some b)) (hx : a.eval x = k) (hb : w.heap[b]? = some (.map es clock)) (h : MetK KOk w es.toList) (hk : KOk w k)
    (hK : wpList Try.prog ops Q rest (a.put o.dst (.tuple #[(lookK es.toList k).getD z, .bool (lookK es.toList k).isSome])) w) :
    wpList Try.prog ops Q (o :: rest) a w := by
  refine wpList_plain hg fun K' hK' => ?_
  have hrun := (run_look kt hM hz hb h hk).2
  unfold Oper.wp
  simp [execOp, hop, hm, hx, hrun, Result.andThen]
  exact hK' _ _ hK
theorem at_put {T M E : TypeId} {KOk : World → Value → Prop} (kt : KeyT T KOk) (hM : Try.prog.underlying M = some (.map T E)) {w : World} {ops : Array Oper} {rest : List Oper} {o : Oper} {a : Act} {Q : Exit → Act → World → Prop}
    (hg : o.guard = none) (m x y : Operand) (hop : o.op = Op.mapUpdate M m x y) {b : Nat} {es : Array MapEntry} {clock : Nat} {k v : Value}
    (hm : a.eval m = .map (some b)) (hx : a.eval x = k) (hy : a.eval y = v) (hb : w.heap[b]? = some (.map es clock)) (h : MetK KOk w es.toList) (hk : KOk w k)
    (hK : ∀ (w' : World) (es' : Array MapEntry) (clock' : Nat), w'.heap[b]? = some (.map es' clock') → (∀ k', lookK es'.toList k' = if k = k' then some v else lookK es.toList k') → (∀ x, x ∈ es'.toList → x.key = k ∨ ∃ y, y ∈ es.toList ∧ y.key = x.key) → w.grownBy w' (some b) → wpList Try.prog ops Q rest (a.put o.dst (.tuple #[])) w') :
    wpList Try.prog ops Q (o :: rest) a w := by
  refine wpList_plain hg fun K' hK' => ?_
  obtain ⟨w', es', clock', hrun, h3, h4, h5, h6⟩ := run_put kt hM v hb h hk
  unfold Oper.wp
  simp [execOp, hop, hm, hx, hy, hrun, Result.andThen]
  exact hK' _ _ (hK w' es' clock' h3 h4 h5 h6)
end Go.Proofs.Ytmhhghdfgdhljaa.Km
