/- The program's CountIn, walked. Conditions: the list lies in rows that are not frozen; there are at most 1100000 statements. With what it stands on, in one text. -/
import Derived.Test.YtkfeiekgdfklmaaGreatDoorSoPackF
import Derived.Test.YtkfeiekgdfklmaaGreatDoorSoPackD
import Derived.Test.YtkfeiekgdfklmaaGreatDoorTermOwn
import Derived.Maps.OwnOps
import Derived.LaidEql
import Derived.Laws.StructEq
import Derived.ChangeKeysEq
import Derived.Test.YtkfeiekgdfklmaaGreatDoorFreeX
import Derived.Test.YtkfeiekgdfklmaaGreatDoorSCnt
import Derived.WalkSmall
import Derived.Outline
import Derived.Test.YtkfeiekgdfklmaaGreatDoorStrCells
import Derived.Lib.Hide
import Derived.Deep.RegionHeld3
import Derived.Deep.DeepCutAuto
/- The procedures' names and where a name is to be, of the program, walked. Conditions: the program lies in memory; at most 2 to the 20 procedures. -/
namespace Go.Proofs.YtkfeiekgdfklmaaGreatDoor.Trm
open Go.RowKit Own
theorem row_wideB {w : World} {base base' : Nat} {e : TypeId} {size : Nat} {v : Value} {n : Nat} {xs : List Value} (h : w.ownsRow base e size v n xs) (hl : base' ≤ base) : w.ownsRow base' e size v n xs := by
  refine ⟨h.1, ?_⟩
  rcases h.2 with h2 | ⟨g, cap, cur, e1, hb, r⟩
  · exact .inl h2
  · exact .inr ⟨g, cap, cur, e1, Nat.le_trans hl hb, r⟩
set_option maxHeartbeats 1600000 in
theorem implProcs_any (x : PTree) (v : Value) (w : World) (hx : x.procs.length ≤ 8000000) (h : PLies w x v) :
    Calls Tryz.prog 48 #[v] w fun e w' => ∃ ov, e = .returned ov ∧ w'.ownsRow w.heap.size 9 1 ov (procNs x.procs).length (strV (procNs x.procs)) ∧ Below w.heap.size w w' := by
  obtain ⟨ga, gc, la, lc, pa, pc, rfl, _, _, hpp⟩ := h
  have hlen : x.procs.length ≤ 9223372036854775807 := hpp.1
  have HPP := Lib.hid hpp
  obtain ⟨i0, hi, hz0, hz1, hz2⟩ := info_parts infoStrR
  clear hpp
  have HLN : Hid ((procNs x.procs).length = x.procs.length) := by show _ = _; unfold procNs; rw [List.length_map]
  have HPN : Hid (∀ j (hj : j < x.procs.length), (procNs x.procs)[j]? = some x.procs[j].name) := fun j hj => by unfold procNs; simp [hj]
  generalize procNs x.procs = ns at *
  generalize x.procs = ps at *
  go_enter Tryz.func48, Tryz.ntmps48
  have X0 := Lib.hid (Box3.new w (.slice ga x.globals.length gc) (.slice la x.locks.length lc) (.slice pa ps.length pc) 27)
  obtain ⟨p0, p1, p2⟩ := X0.out
  go_wp2_with (at_make; refine wpList_make_full _ rfl (.tmp 8) (.tmp 8) 24 rfl (w.heap.size + 1) 9 i0 _ 1 Tryz.underlying24 hi hz0 hz1 .i64 .i64 _ _ ps.length rfl rfl rfl rfl (by rw [hz2]; omega) (by unfold maxLen; omega) (by simp) ?_)
  intro w1 hown hg
  have HO := Lib.hid hown
  have B1 := Lib.hid (((Below.refl w.heap.size w).alloc (Nat.le_refl _) (.cells #[.slice ga x.globals.length gc, .slice la x.locks.length lc, .slice pa ps.length pc] 27)).grown hg (by simp) (fun b hb => by cases hb))
  have X1 := Lib.hid (X0.out.keep (keeps_below (below_none hg)))
  clear hown hg p0 p1 p2
  obtain ⟨p0, p1, p2⟩ := X1.out
  go_wp2
  clear p0 p1 p2
  go_loopw [13] (fun i wr => ∃ (j : Nat) (zs : List Value), j ≤ ps.length ∧ i = .int .i64 j ∧ Hid (wr.ownsRow (w.heap.size + 1) 9 1 (.slice (some ⟨w.heap.size + 1, 0, none⟩) ps.length ps.length) ps.length (strV (ns.take j) ++ zs)) ∧ Hid (Below w.heap.size w wr))
    (fun i _ => ps.length - (intOf i).toNat)
  case atStart => exact ⟨0, _, Nat.zero_le _, rfl, Lib.hid (by simpa [strV] using HO.out), B1.out⟩
  case round =>
    obtain ⟨j, zs, hj, rfl, hrow, hbe⟩ := hrel
    by_cases hlt : j < ps.length
    · obtain ⟨g, o, rfl, _, hel⟩ := HPP.out.elem j hlt
      obtain ⟨_, ba, bc, e0, e1, hb⟩ := hel
      have c0 := keeps_below hbe.out _ _ e0
      have c1 := keeps_below hbe.out _ _ e1
      have hpn := HPN.out j hlt
      have hwr : w.heap.size ≤ wr.heap.size := hbe.out.size
      have hls := hrow.out.1
      simp only [List.length_append, strV, List.length_map, List.length_take] at hls
      have hln := HLN.out
      obtain ⟨z, zs2, rfl⟩ : ∃ z zs2, zs = z :: zs2 := by
        cases zs with
        | nil => simp at hls; omega
        | cons z r => exact ⟨z, r, rfl⟩
      have HLS := Lib.hid hls
      have HHLN := Lib.hid hln
      have HT : Hid (strV (ns.take (j + 1)) = strV (ns.take j) ++ [.string ps[j].name]) := by show _ = _; rw [List.take_add_one, hpn]; simp [strV]
      have W1B : Hid (Below w.heap.size w (wr.alloc (.cells #[.string ps[j].name, .slice ba ps[j].body.length bc] 31))) := hbe.out.alloc hbe.out.size _
      have R2 : Hid ((wr.alloc (.cells #[.string ps[j].name, .slice ba ps[j].body.length bc] 31)).ownsRow (w.heap.size + 1) 9 1 (.slice (some ⟨w.heap.size + 1, 0, none⟩) ps.length ps.length) ps.length (strV (ns.take j) ++ z :: zs2)) := hrow.out.alloc _
      clear e0 e1 hb hls hln hpn
      generalize ps[j].name = nm at *
      generalize ps[j].body = bd at *
      obtain ⟨W2, hW2⟩ : ∃ w1, w1 = wr.alloc (.cells #[.string nm, .slice ba bd.length bc] 31) := ⟨_, rfl⟩
      have hS : Box2 W2 wr.heap.size (.string nm) (.slice ba bd.length bc) := by rw [hW2]; exact Box2.new _ _ _ _
      rw [← hW2] at W1B R2
      have f0 := R2.out.frozenAt j
      obtain ⟨u0, s0⟩ : ∃ u, W2.cell? ⟨w.heap.size + 1, j, none⟩ = some u := ⟨_, (R2.out.cellAt j (by omega)).trans (List.getElem?_eq_getElem (by rw [R2.out.1]; omega))⟩
      obtain ⟨hr2, hg2⟩ := R2.out.stored j (.string nm)
      rw [set_midK _ _ _ _ j (by have := HHLN.out; simp [strV]; omega), ← HT.out] at hr2
      have HR2 := Lib.hid hr2
      have HG2 : Hid (Below w.heap.size w (W2.setCell ⟨w.heap.size + 1, j, none⟩ (.string nm))) := W1B.out.setCell (by simp) _
      clear hr2 hg2
      obtain ⟨q0, q1⟩ := hS
      have HW2 := Lib.hid hW2
      go_upto_region 5 with fail
      rw [← hW2]
      clear hW2
      go_wp2
      go_roundw
      case rel => exact ⟨j + 1, zs2, by omega, by go_num, HR2, HG2⟩
      case measure => simp [intOf]; omega
    · have HE : Hid (wr.ownsRow w.heap.size 9 1 (.slice (some ⟨w.heap.size + 1, 0, none⟩) ps.length ps.length) ns.length (strV ns)) := by
        have h := hrow.out
        have hln := HLN.out
        rw [List.take_of_length_le (by omega)] at h
        have hz : zs = [] := by
          have := h.1
          rw [List.length_append] at this
          simp [strV] at this
          exact List.length_eq_zero_iff.1 (by omega)
        rw [hz, List.append_nil] at h
        show World.ownsRow _ _ _ _ _ _ _
        rw [hln]
        exact row_wideB h (Nat.le_succ _)
      go_wp2
      go_ret
      exact ⟨_, rfl, HE.out, hbe.out⟩
/-- What namesOfSort leaves. -/
def SortPost (ns : List ByteArray) (w : World) (e : Ending) (w' : World) : Prop := ∃ ov, e = .returned ov ∧ StrsAt w' ns ov ∧ Below w.heap.size w w'
set_option maxHeartbeats 1600000 in
theorem implSort_any (x : PTree) (k : Int) (v : Value) (w : World) (hx : x.procs.length ≤ 8000000) (h : PLies w x v) :
    Calls Tryz.prog 44 #[v, .int .i64 k] w (SortPost (knownU x k) w) := by
  have CP := Lib.hid (fun wx hk => implProcs_any x v wx hx (h.keep hk))
  obtain ⟨ga, gc, la, lc, pa, pc, rfl, hg, hlk, _⟩ := h
  have X0 := Lib.hid (Box3.new w (.slice ga x.globals.length gc) (.slice la x.locks.length lc) (.slice pa x.procs.length pc) 27)
  have B0 := Lib.hid ((Below.refl w.heap.size w).alloc (Nat.le_refl _) (.cells #[.slice ga x.globals.length gc, .slice la x.locks.length lc, .slice pa x.procs.length pc] 27))
  have HG := Lib.hid (hg.keep (keeps_below B0.out)).1
  have HL := Lib.hid (hlk.keep (keeps_below B0.out)).1
  obtain ⟨p0, p1, p2⟩ := X0.out
  clear hg hlk hx
  by_cases h0 : k = 0
  · have k0 : (k == 0) = true := by simp [h0]
    have HK : Hid (knownU x k = x.globals) := by show _ = _; unfold knownU; rw [if_pos h0]
    clear h0
    go_enter Tryz.func44, Tryz.ntmps44
    go_wp2
    go_ret
    exact ⟨_, rfl, by rw [HK.out]; exact HG.out, B0.out⟩
  · have k0 : (k == 0) = false := by rw [beq_eq_false_iff_ne]; exact h0
    by_cases h1 : k = 1
    · have k1 : (k == 1) = true := by simp [h1]
      have HK : Hid (knownU x k = x.locks) := by show _ = _; unfold knownU; rw [if_neg h0, if_pos h1]
      clear h0 h1
      go_enter Tryz.func44, Tryz.ntmps44
      go_wp2
      go_ret
      exact ⟨_, rfl, by rw [HK.out]; exact HL.out, B0.out⟩
    · have k1 : (k == 1) = false := by rw [beq_eq_false_iff_ne]; exact h1
      have HK : Hid (knownU x k = procNs x.procs) := by show _ = _; unfold knownU; rw [if_neg h0, if_neg h1]
      clear h0 h1
      go_enter Tryz.func44, Tryz.ntmps44
      go_wp2_with fail
      refine (CP.out _ (keeps_below B0.out)).mono ?_
      rintro e w2 ⟨ov, rfl, hr, hb⟩
      have HS := Lib.hid (strsAt_row rfl hr)
      have HB := Lib.hid (B0.out.trans (hb.mono B0.out.size))
      clear hr hb
      go_wp2
      go_ret
      exact ⟨_, rfl, by rw [HK.out]; exact HS.out, HB.out⟩
end Go.Proofs.YtkfeiekgdfklmaaGreatDoor.Trm
/- Maps whose keys are held against each other by their type's own rule: what a look-up tells, and a store. Conditions: each says its own. -/
namespace Go.Proofs.YtkfeiekgdfklmaaGreatDoor.Km
open Go.RowKit Own
open Classical
/-- Keys of a type that is held against another of its kind part by part. -/
structure KeyT (T : TypeId) (KOk : World → Value → Prop) : Prop where
  eq : ∀ w k k', KOk w k → KOk w k' → ∃ c, (Op.equal T k k').run Tryz.prog w = .ok c w ∧ (c = true ↔ k = k')
  chk : ∀ w k b, KOk w k → (Instr.checkKey b 10000 T k).run Tryz.prog w = .ok () w
  now : ∃ D, Tryz.prog.underlying T = some D ∧ ∀ a b, Instr.sameNow D a b = none
  stay : ∀ w k, KOk w k → Instr.sameBits 10000 k k = true
/-- What lies at a key. -/
noncomputable def lookK : List MapEntry → Value → Option Value
  | [], _ => none
  | e :: es, k => if e.key = k then some e.val else lookK es k
theorem look_none {k : Value} : ∀ {es : List MapEntry}, (∀ x, x ∈ es → x.key ≠ k) → lookK es k = none
  | [], _ => rfl
  | e :: es, h => by rw [lookK, if_neg (h e (by simp)), look_none fun x hx => h x (by simp [hx])]
theorem look_some {k v : Value} : ∀ {es : List MapEntry}, lookK es k = some v → ∃ x, x ∈ es ∧ x.key = k ∧ x.val = v
  | [], h => by cases h
  | e :: es, h => by
    rw [lookK] at h
    split at h
    · rename_i h1
      exact ⟨e, by simp, h1, by simpa using h⟩
    · obtain ⟨x, h1, h2⟩ := look_some h
      exact ⟨x, by simp [h1], h2⟩
theorem look_snoc {k : Value} (x : MapEntry) : ∀ {es : List MapEntry}, lookK es x.key = none → lookK (es ++ [x]) k = if x.key = k then some x.val else lookK es k
  | [], _ => by simp [lookK]
  | e :: es, h => by
    rw [lookK] at h
    split at h
    · cases h
    · rename_i h1
      rw [List.cons_append, lookK, lookK, look_snoc x h]
      by_cases h2 : e.key = k
      · rw [if_pos h2, if_pos h2, if_neg (fun h3 => h1 (h2.trans h3.symm))]
      · rw [if_neg h2, if_neg h2]
def MetK (KOk : World → Value → Prop) (w : World) (es : List MapEntry) : Prop := ∀ x, x ∈ es → KOk w x.key
/-- An entry's value turned. -/
def turn (es : List MapEntry) (j : Nat) (v : Value) : List MapEntry := es.modify j fun e => { e with val := v }
theorem run_asking {T : TypeId} {KOk : World → Value → Prop} (kt : KeyT T KOk) {w : World} {k : Value} (hk : KOk w k) : ∀ (es : List MapEntry) (i : Nat), MetK KOk w es →
    ∃ r, (Instr.findAsking T k es i).run Tryz.prog w = .ok r w ∧ ((r = none ∧ lookK es k = none) ∨ (∃ j v, r = some (i + j, v) ∧ lookK es k = some v ∧ (∃ e, es[j]? = some e ∧ e.key = k) ∧ ∀ u k', lookK (turn es j u) k' = if k = k' then some u else lookK es k'))
  | [], i, _ => ⟨none, by simp [Instr.findAsking], .inl ⟨rfl, rfl⟩⟩
  | e :: es, i, h => by
    obtain ⟨c, hc, hiff⟩ := kt.eq w k e.key hk (h e (by simp))
    cases c with
    | true =>
      have he := hiff.1 rfl
      refine ⟨some (i, e.val), ?_, .inr ⟨0, e.val, by simp, ?_, ⟨e, rfl, he.symm⟩, fun u k' => ?_⟩⟩
      · rw [Instr.findAsking]; simp [hc]
      · rw [lookK, if_pos he.symm]
      · unfold turn
        rw [List.modify_cons, if_pos rfl, lookK, lookK, ← he]
        by_cases h2 : k = k'
        · rw [if_pos h2, if_pos h2]
        · rw [if_neg h2, if_neg h2, if_neg h2]
    | false =>
      have he : ¬ k = e.key := fun h2 => by have := hiff.2 h2; cases this
      obtain ⟨r, hr, hres⟩ := run_asking kt hk es (i + 1) (fun x hx => h x (by simp [hx]))
      refine ⟨r, ?_, ?_⟩
      · rw [Instr.findAsking]; simp [hc, hr]
      · have he2 : ¬ e.key = k := fun h2 => he h2.symm
        rcases hres with ⟨rfl, h1⟩ | ⟨j, v, rfl, h1, ⟨e', h2, h3⟩, h4⟩
        · exact .inl ⟨rfl, by rw [lookK, if_neg he2]; exact h1⟩
        · refine .inr ⟨j + 1, v, by rw [show i + (j + 1) = i + 1 + j from by omega], by rw [lookK, if_neg he2]; exact h1, ⟨e', by simpa using h2, h3⟩, fun u k' => ?_⟩
          have h5 := h4 u k'
          unfold turn at h5 ⊢
          rw [List.modify_cons, if_neg (by omega), show j + 1 - 1 = j from by omega, lookK, lookK, h5]
          by_cases h6 : e.key = k'
          · rw [if_pos h6, if_pos h6, if_neg (fun h7 => he (h7.trans h6.symm))]
          · rw [if_neg h6, if_neg h6]
theorem run_findKey {T : TypeId} {KOk : World → Value → Prop} (kt : KeyT T KOk) {w : World} {k : Value} (hk : KOk w k) (es : List MapEntry) (h : MetK KOk w es) :
    ∃ r, (Instr.findKey T k es).run Tryz.prog w = .ok r w ∧ ((r = none ∧ lookK es k = none) ∨ (∃ j v, r = some (j, v) ∧ lookK es k = some v ∧ (∃ e, es[j]? = some e ∧ e.key = k) ∧ ∀ u k', lookK (turn es j u) k' = if k = k' then some u else lookK es k')) := by
  obtain ⟨D, hD, hnow⟩ := kt.now
  cases es with
  | nil => exact ⟨none, by simp [Instr.findKey, run_underlying hD, Instr.findNow], .inl ⟨rfl, rfl⟩⟩
  | cons e es =>
    obtain ⟨r, hr, hres⟩ := run_asking kt hk (e :: es) 0 h
    refine ⟨r, ?_, ?_⟩
    · simp [Instr.findKey, run_underlying hD, Instr.findNow, hnow, hr]
    · simpa using hres
/-- What lies at a key, or nothing of its kind. -/
theorem run_look {T M E : TypeId} {KOk : World → Value → Prop} (kt : KeyT T KOk) (hM : Tryz.prog.underlying M = some (.map T E)) {z : Value} (hz : ∀ w, (zeroValue E).run Tryz.prog w = .ok z w) {w : World} {b : Nat} {es : Array MapEntry} {clock : Nat} {k : Value} (hb : w.heap[b]? = some (.map es clock)) (h : MetK KOk w es.toList) (hk : KOk w k) :
    (Instr.lookup M (.map (some b)) k false).run Tryz.prog w = .ok ((lookK es.toList k).getD z) w ∧ (Instr.lookup M (.map (some b)) k true).run Tryz.prog w = .ok (.tuple #[(lookK es.toList k).getD z, .bool (lookK es.toList k).isSome]) w := by
  obtain ⟨r, hr, hres⟩ := run_findKey kt hk es.toList h
  have hc := kt.chk w k es.isEmpty hk
  have hg : (getObj b).run Tryz.prog w = .ok (.map es clock) w := MapKept.run_getObj_map hb
  rcases hres with ⟨rfl, hn⟩ | ⟨j, v, rfl, hn, _⟩
  · rw [hn]
    constructor <;> simp [Instr.lookup, run_underlying hM, hg, hc, hr, hz]
  · rw [hn]
    constructor <;> simp [Instr.lookup, run_underlying hM, hg, hc, hr]
/-- A store. -/
theorem run_put {T M E : TypeId} {KOk : World → Value → Prop} (kt : KeyT T KOk) (hM : Tryz.prog.underlying M = some (.map T E)) {w : World} {b : Nat} {es : Array MapEntry} {clock : Nat} {k : Value} (v : Value) (hb : w.heap[b]? = some (.map es clock)) (h : MetK KOk w es.toList) (hk : KOk w k) :
    ∃ w' es' clock', (Instr.mapUpdate M (.map (some b)) k v).run Tryz.prog w = .ok () w' ∧ w'.heap[b]? = some (.map es' clock') ∧ (∀ k', lookK es'.toList k' = if k = k' then some v else lookK es.toList k') ∧ (∀ x, x ∈ es'.toList → x.key = k ∨ ∃ y, y ∈ es.toList ∧ y.key = x.key) ∧ w.grownBy w' (some b) := by
  obtain ⟨r, hr, hres⟩ := run_findKey kt hk es.toList h
  have hc := kt.chk w k false hk
  have hg : (getObj b).run Tryz.prog w = .ok (.map es clock) w := MapKept.run_getObj_map hb
  have grown : ∀ o, w.grownBy (ChangeMaps.setBlock w b o) (some b) := fun o => ⟨rfl, rfl, rfl, by simp [ChangeMaps.setBlock], fun i _ hi => ChangeMaps.heap_setBlock_other hb _ (fun e => hi (by rw [e]))⟩
  rcases hres with ⟨rfl, hn⟩ | ⟨j, v0, rfl, hn, ⟨e, he, hek⟩, ht⟩
  · refine ⟨ChangeMaps.setBlock w b (.map (es.push { key := k, val := v, born := clock }) (clock + 1)), _, _, ?_, ChangeMaps.heap_setBlock_same hb _, fun k' => ?_, fun x hx => ?_, grown _⟩
    · simp [Instr.mapUpdate, run_underlying hM, hg, hc, hr, MapKept.run_setObj_map _ hb, ChangeMaps.setBlock]
    · rw [Array.toList_push]
      exact look_snoc _ hn
    · rw [Array.toList_push] at hx
      rcases List.mem_append.1 hx with hx | hx
      · exact .inr ⟨x, hx, rfl⟩
      · obtain rfl : x = _ := by simpa using hx
        exact .inl rfl
  · have hj : j < es.size := by
      rcases Nat.lt_or_ge j es.toList.length with h1 | h1
      · simpa using h1
      · rw [List.getElem?_eq_none h1] at he; cases he
    have he2 : es[j]? = some e := by rw [← he]; simp
    have hst : (Instr.keyThatStays k k).run Tryz.prog w = .ok k w := by unfold Instr.keyThatStays; rw [if_pos (kt.stay w k hk)]; rfl
    have e1 : (es.modify j fun e => { e with key := k, val := v }).toList = turn es.toList j v := by
      unfold turn
      rw [Array.toList_modify]
      refine List.ext_getElem? fun i => ?_
      rw [List.getElem?_modify, List.getElem?_modify]
      by_cases hi : j = i
      · subst hi
        rw [he]
        simp [← hek]
      · simp [hi]
    refine ⟨ChangeMaps.setBlock w b (.map (es.modify j fun e => { e with key := k, val := v }) clock), _, _, ?_, ChangeMaps.heap_setBlock_same hb _, fun k' => ?_, fun x hx => ?_, grown _⟩
    · simp [Instr.mapUpdate, run_underlying hM, hg, hc, hr, he2, hek, hst, MapKept.run_setObj_map _ hb, ChangeMaps.setBlock]
    · rw [e1]; exact ht v k'
    · rw [Array.toList_modify] at hx
      obtain ⟨i, hi⟩ := List.mem_iff_getElem?.1 hx
      rw [List.getElem?_modify] at hi
      by_cases hi2 : j = i
      · subst hi2
        rw [he] at hi
        simp at hi
        rw [← hi]
        exact .inl rfl
      · simp [hi2] at hi
        exact .inr ⟨x, List.mem_iff_getElem?.2 ⟨i, by simpa using hi⟩, rfl⟩
theorem at_look {T M E : TypeId} {KOk : World → Value → Prop} (kt : KeyT T KOk) (hM : Tryz.prog.underlying M = some (.map T E)) {z : Value} (hz : ∀ w, (zeroValue E).run Tryz.prog w = .ok z w) {w : World} {ops : Array Oper} {rest : List Oper} {o : Oper} {a : Act} {Q : Exit → Act → World → Prop}
    (hg : o.guard = none) (m x : Operand) (hop : o.op = Op.lookup M m x false) {b : Nat} {es : Array MapEntry} {clock : Nat} {k : Value}
    (hm : a.eval m = .map (some b)) (hx : a.eval x = k) (hb : w.heap[b]? = some (.map es clock)) (h : MetK KOk w es.toList) (hk : KOk w k)
    (hK : wpList Tryz.prog ops Q rest (a.put o.dst ((lookK es.toList k).getD z)) w) :
    wpList Tryz.prog ops Q (o :: rest) a w := by
  refine wpList_plain hg fun K' hK' => ?_
  have hrun := (run_look kt hM hz hb h hk).1
  unfold Oper.wp
  simp [execOp, hop, hm, hx, hrun, Result.andThen]
  exact hK' _ _ hK
theorem at_look2 {T M E : TypeId} {KOk : World → Value → Prop} (kt : KeyT T KOk) (hM : Tryz.prog.underlying M = some (.map T E)) {z : Value} (hz : ∀ w, (zeroValue E).run Tryz.prog w = .ok z w) {w : World} {ops : Array Oper} {rest : List Oper} {o : Oper} {a : Act} {Q : Exit → Act → World → Prop}
    (hg : o.guard = none) (m x : Operand) (hop : o.op = Op.lookup M m x true) {b : Nat} {es : Array MapEntry} {clock : Nat} {k : Value}
    (hm : a.eval m = .map (some b)) (hx : a.eval x = k) (hb : w.heap[b]? = some (.map es clock)) (h : MetK KOk w es.toList) (hk : KOk w k)
    (hK : wpList Tryz.prog ops Q rest (a.put o.dst (.tuple #[(lookK es.toList k).getD z, .bool (lookK es.toList k).isSome])) w) :
    wpList Tryz.prog ops Q (o :: rest) a w := by
  refine wpList_plain hg fun K' hK' => ?_
  have hrun := (run_look kt hM hz hb h hk).2
  unfold Oper.wp
  simp [execOp, hop, hm, hx, hrun, Result.andThen]
  exact hK' _ _ hK
theorem at_put {T M E : TypeId} {KOk : World → Value → Prop} (kt : KeyT T KOk) (hM : Tryz.prog.underlying M = some (.map T E)) {w : World} {ops : Array Oper} {rest : List Oper} {o : Oper} {a : Act} {Q : Exit → Act → World → Prop}
    (hg : o.guard = none) (m x y : Operand) (hop : o.op = Op.mapUpdate M m x y) {b : Nat} {es : Array MapEntry} {clock : Nat} {k v : Value}
    (hm : a.eval m = .map (some b)) (hx : a.eval x = k) (hy : a.eval y = v) (hb : w.heap[b]? = some (.map es clock)) (h : MetK KOk w es.toList) (hk : KOk w k)
    (hK : ∀ (w' : World) (es' : Array MapEntry) (clock' : Nat), w'.heap[b]? = some (.map es' clock') → (∀ k', lookK es'.toList k' = if k = k' then some v else lookK es.toList k') → (∀ x, x ∈ es'.toList → x.key = k ∨ ∃ y, y ∈ es.toList ∧ y.key = x.key) → w.grownBy w' (some b) → wpList Tryz.prog ops Q rest (a.put o.dst (.tuple #[])) w') :
    wpList Tryz.prog ops Q (o :: rest) a w := by
  refine wpList_plain hg fun K' hK' => ?_
  obtain ⟨w', es', clock', hrun, h3, h4, h5, h6⟩ := run_put kt hM v hb h hk
  unfold Oper.wp
  simp [execOp, hop, hm, hx, hy, hrun, Result.andThen]
  exact hK' _ _ (hK w' es' clock' h3 h4 h5 h6)
end Go.Proofs.YtkfeiekgdfklmaaGreatDoor.Km
/- Where a list lies, as a key of the program's: two of them held against each other, and what the program reckons of a list. Conditions: the lists lie in rows that are not frozen. -/
namespace Go.Proofs.YtkfeiekgdfklmaaGreatDoor.SpX
open Go.RowKit Own Trm Km
def spV (a : Option Addr) (n : Nat) : Value := .agg #[.pointer a, .int .i64 (n : Int)]
def prV (a b : Option Addr) (n m : Nat) : Value := .agg #[.pointer a, .int .i64 (n : Int), .pointer b, .int .i64 (m : Int)]
def FreeO (w : World) (a : Option Addr) : Prop := ∀ p, a = some p → FreeB w p.block
theorem FreeO.keep {w w' : World} {a : Option Addr} (hk : KeepF w w') (h : FreeO w a) : FreeO w' a := fun p e => (h p e).keep hk
theorem infoE : (Tryz.prog.info? 36).map (fun i => i.size) = some 8 := by kernel_rfl
theorem run_ptr_eq (d : Nat) {a b : Option Addr} {w : World} (ha : FreeO w a) (hb : FreeO w b) : (Op.equalIn (d + 1) 194 (.pointer a) (.pointer b)).run Tryz.prog w = .ok (decide (a = b)) w := by
  obtain ⟨j, hj, hs⟩ := Option.map_eq_some_iff.1 infoE
  cases a with
  | none => cases b <;> simp [Op.equalIn, run_underlying Tryz.underlying194]
  | some p =>
    cases b with
    | none => simp [Op.equalIn, run_underlying Tryz.underlying194]
    | some q =>
      obtain ⟨ca, ta, ha⟩ := ha p rfl
      obtain ⟨cb, tb, hb⟩ := hb q rfl
      by_cases h : p = q
      · subst h
        simp [Op.equalIn, run_underlying Tryz.underlying194, sizeOf, typeInfo, hj, run_sameAddr_same]
      · simp [Op.equalIn, run_underlying Tryz.underlying194, sizeOf, typeInfo, hj, hs, run_sameAddr_other w h ha hb, h]
theorem run_spot_eq (d : Nat) {a b : Option Addr} {n m : Nat} {w : World} (ha : FreeO w a) (hb : FreeO w b) : (Op.equalIn (d + 2) 196 (spV a n) (spV b m)).run Tryz.prog w = .ok (decide (a = b ∧ n = m)) w := by
  have hS : Tryz.prog.underlying 196 = some (.struct (Tryz.prog.fieldsOf 196)) := by kernel_rfl
  have hp : Tryz.prog.stoodInHeld 196 = false := by kernel_rfl
  have e1 := run_ptr_eq d ha hb
  unfold spV
  rw [show d + 2 = (d + 1) + 1 from rfl, run_equalIn_agg w (d + 1) 196 _ _ hS hp]
  simp only [Program.fieldsOf, Tryz.underlying196]
  have hr : decide (a = b ∧ n = m) = (decide (a = b) && decide (n = m)) := by simp
  rw [hr]
  generalize decide (a = b) = c at e1
  by_cases h : n = m
  · subst h
    cases c <;> simp [Op.eqFields, go_sem, e1]
  · have h2 : ¬ (n : Int) = m := by omega
    cases c <;> simp [Op.eqFields, go_sem, e1, h, h2]
def SpOk (w : World) (k : Value) : Prop := ∃ a n, k = spV a n ∧ FreeO w a
def PrOk (w : World) (k : Value) : Prop := ∃ a b n m, k = prV a b n m ∧ FreeO w a ∧ FreeO w b
theorem spV_iff {a b : Option Addr} {n m : Nat} : spV a n = spV b m ↔ (a = b ∧ n = m) := by
  unfold spV
  simp only [Value.agg.injEq, Array.mk.injEq, List.cons.injEq, Value.pointer.injEq, Value.int.injEq, true_and, and_true]
  constructor <;> intro ⟨h1, h2⟩ <;> exact ⟨h1, by omega⟩
theorem prV_iff {a b a' b' : Option Addr} {n m n' m' : Nat} : prV a b n m = prV a' b' n' m' ↔ (a = a' ∧ n = n' ∧ b = b' ∧ m = m') := by
  unfold prV
  simp only [Value.agg.injEq, Array.mk.injEq, List.cons.injEq, Value.pointer.injEq, Value.int.injEq, true_and, and_true]
  constructor <;> intro ⟨h1, h2, h3, h4⟩ <;> exact ⟨h1, by omega, h3, by omega⟩
theorem spot_key : KeyT 196 SpOk where
  eq w k k' h h' := by
    obtain ⟨a, n, rfl, ha⟩ := h
    obtain ⟨b, m, rfl, hb⟩ := h'
    refine ⟨_, run_spot_eq 9998 ha hb, ?_⟩
    rw [spV_iff]; simp
  chk w k b h := by
    obtain ⟨a, n, rfl, _⟩ := h
    kernel_rfl
  now := ⟨_, Tryz.underlying196, fun _ _ => rfl⟩
  stay w k h := by
    obtain ⟨a, n, rfl, _⟩ := h
    simp [Instr.sameBits, spV]
/-- Where a list lies. -/
def spotA : Value → Option Addr
  | .slice a (_ + 1) _ => a
  | _ => none
def spotN : Value → Nat
  | .slice _ n _ => n
  | _ => 0
theorem implSpot_any (a : Option Addr) (n c : Nat) (hn : n ≤ 9223372036854775807) (ha : 0 < n → ∃ g o, a = some ⟨g, o, none⟩) (w : World) :
    Calls Tryz.prog 172 #[.slice a n c] w fun e w' => e = .returned (spV (spotA (.slice a n c)) n) ∧ Below w.heap.size w w' := by
  rcases Nat.eq_zero_or_pos n with h | h
  · subst h
    clear ha hn
    go_enter Tryz.func172, Tryz.ntmps172
    go_wp2
    refine bodyPost_ret (v := spV none 0) (by simp [results, Tryz.results172, go_sem, spV]) rfl ⟨rfl, ?_⟩
    exact (Below.refl _ _).alloc (Nat.le_refl _) _
  · obtain ⟨g, o, rfl⟩ := ha h
    obtain ⟨k, rfl⟩ : ∃ k, n = k + 1 := ⟨n - 1, by omega⟩
    have hq : (((k + 1 : Nat) : Int) == 0) = false := by simp; omega
    clear ha h
    go_enter Tryz.func172, Tryz.ntmps172
    go_wp2
    refine bodyPost_ret (v := spV (some ⟨g, o, none⟩) (k + 1)) (by simp [results, Tryz.results172, go_sem, spV]) rfl ⟨rfl, ?_⟩
    exact (Below.refl _ _).alloc (Nat.le_refl _) _
theorem freeO_of {w : World} {v : Value} {xs : List STree} (h : SListF w v xs) : FreeO w (spotA v) := fun p e => by
  obtain ⟨_, a, c, rfl, hf⟩ := h
  cases hx : xs.length with
  | zero => rw [hx] at e; simp [spotA] at e
  | succ n =>
    obtain ⟨g, o, rfl, f, _⟩ := hf (by omega)
    rw [hx] at e
    simp [spotA] at e
    rw [← e]; exact f
/-- Lists that lie at one spot are one. -/
theorem spot_det {w : World} {v u : Value} {xs ys : List STree} (h : SListF w v xs) (h2 : SListF w u ys) (e : spotA v = spotA u) (hl : xs.length = ys.length) : xs = ys := by
  obtain ⟨_, a, c, rfl, hf⟩ := h
  obtain ⟨_, b, d, rfl, hf2⟩ := h2
  cases hx : xs.length with
  | zero => rw [List.length_eq_zero_iff.1 hx, List.length_eq_zero_iff.1 (by omega : ys.length = 0)]
  | succ n =>
    obtain ⟨g, o, rfl, _, h1⟩ := hf (by omega)
    obtain ⟨g', o', rfl, _, h2⟩ := hf2 (by omega)
    rw [← hl, hx] at e
    simp [spotA] at e
    obtain ⟨rfl, rfl⟩ := e
    exact SLiesLF.det h1 h2 hl
end Go.Proofs.YtkfeiekgdfklmaaGreatDoor.SpX
/- How great statements are, those within them counted, for walks that go down. Without conditions. -/
namespace Go.Proofs.YtkfeiekgdfklmaaGreatDoor.Trm
open Go.RowKit Own
mutual
def kdX : STree → Nat | .node _ _ _ b e => 2 + kdXL b + kdXL e
def kdXL : List STree → Nat | [] => 0 | x :: xs => kdX x + kdXL xs
end
mutual
theorem kdX_le : ∀ x : STree, kdX x ≤ 2 * cntX x
  | .node k s t b e => by rw [kdX, cntX]; have := kdXL_le b; have := kdXL_le e; omega
theorem kdXL_le : ∀ xs : List STree, kdXL xs ≤ 2 * cntXS xs
  | [] => by simp [kdXL]
  | x :: xs => by rw [kdXL, cntXS]; have := kdX_le x; have := kdXL_le xs; omega
end
end Go.Proofs.YtkfeiekgdfklmaaGreatDoor.Trm
/- How statements are counted list by list, with a map of what was counted: what holds of the heap of lists that are to be counted. Without conditions: no Go text is spoken of here. -/
namespace Go.Proofs.YtkfeiekgdfklmaaGreatDoor.Cn
open Go.RowKit Own Trm Km SpX
/-- A list that is to be counted. -/
structure Ce where
  v : Value
  l : List STree
  b : Bool
abbrev keyV (v : Value) (l : List STree) : Value := spV (spotA v) l.length
/-- The lists within an element. -/
def KidAt (V : World) (v : Value) (xs : List STree) (i j : Nat) (mv : Value) (m : List STree) : Prop :=
  ∃ (g o n c : Nat) (hi : i < xs.length), v = .slice (some ⟨g, o, none⟩) n c ∧ V.cell? ⟨g, o + i * 8 + (6 + j), none⟩ = some mv ∧ (j = 0 ∧ m = xs[i].body ∨ j = 1 ∧ m = xs[i].els)
def Done (me : List MapEntry) (v : Value) (l : List STree) : Prop := lookK me (keyV v l) = some (.int .i64 (cntXS l : Int))
def Same (v u : Value) (l m : List STree) : Prop := spotA v = spotA u ∧ l = m
theorem Same.key {v u : Value} {l m : List STree} (h : Same v u l m) : keyV v l = keyV u m := by unfold keyV; rw [h.1, h.2]
theorem Done.of_same {me : List MapEntry} {v u : Value} {l m : List STree} (h : Done me v l) (hs : Same v u l m) : Done me u m := by
  unfold Done at *
  rw [← hs.key, ← hs.2]; exact h
theorem same_of_key {V : World} {v u : Value} {l m : List STree} (h1 : SListF V v l) (h2 : SListF V u m) (e : keyV v l = keyV u m) : Same v u l m := by
  unfold keyV at e
  rw [spV_iff] at e
  exact ⟨e.1, spot_det h1 h2 e.1 e.2⟩
def Wait (V : World) (me : List MapEntry) : List Ce → Prop
  | [] => True
  | e :: B => (e.b = true → ∀ i j mv m, KidAt V e.v e.l i j mv m → Done me mv m ∨ ∃ f, f ∈ B ∧ Same f.v mv f.l m) ∧ Wait V me B
def Ord (es : List Ce) : Prop := es.Pairwise fun e f => e.b = true → kdXL f.l < kdXL e.l
structure Cg (V : World) (rv : Value) (root : List STree) (me : List MapEntry) (es : List Ce) : Prop where
  ord : Ord es
  wait : Wait V me es
  look : ∀ k v, lookK me k = some v → ∃ mv m, k = keyV mv m ∧ SListF V mv m ∧ (v = .int .i64 (cntXS m : Int) ∨ (∃ e, e ∈ es ∧ e.b = true ∧ Same e.v mv e.l m))
  rt : Done me rv root ∨ ∃ e, e ∈ es ∧ Same e.v rv e.l root
  ok : ∀ e, e ∈ es → SListF V e.v e.l
def costE (e : Ce) : Nat := if e.b then 1 else 2 + 2 * kdXL e.l
def cost : List Ce → Nat
  | [] => 0
  | e :: es => costE e + cost es
theorem cost_append : ∀ (a b : List Ce), cost (a ++ b) = cost a + cost b
  | [], b => by simp [cost]
  | e :: a, b => by simp only [List.cons_append, cost, cost_append a b]; omega
theorem cost_len : ∀ es : List Ce, es.length ≤ cost es
  | [] => by simp [cost]
  | e :: es => by
    have := cost_len es
    have h : 1 ≤ costE e := by unfold costE; split <;> omega
    simp only [List.length_cons, cost]; omega
theorem wait_snoc {V : World} {me : List MapEntry} : ∀ {A : List Ce} {c : Ce}, Wait V me (A ++ [c]) ↔ ((∀ (A1 A2 : List Ce) (e : Ce), A = A1 ++ e :: A2 → e.b = true → ∀ i j mv m, KidAt V e.v e.l i j mv m → Done me mv m ∨ (∃ f, f ∈ A2 ∧ Same f.v mv f.l m) ∨ Same c.v mv c.l m) ∧ (c.b = true → ∀ i j mv m, KidAt V c.v c.l i j mv m → Done me mv m))
  | [], c => by
    constructor
    · intro h
      refine ⟨fun A1 A2 e he => by simp at he, fun hb i j mv m hk => ?_⟩
      rcases h.1 hb i j mv m hk with h | ⟨f, hf, _⟩
      · exact h
      · cases hf
    · intro h
      exact ⟨fun hb i j mv m hk => .inl (h.2 hb i j mv m hk), trivial⟩
  | a :: A, c => by
    constructor
    · intro h
      have ih := (wait_snoc (A := A) (c := c)).1 h.2
      refine ⟨fun A1 A2 e he hb i j mv m hk => ?_, ih.2⟩
      cases A1 with
      | nil =>
        simp at he
        obtain ⟨rfl, rfl⟩ := he
        rcases h.1 hb i j mv m hk with h | ⟨f, hf, hs⟩
        · exact .inl h
        · rcases List.mem_append.1 hf with hf | hf
          · exact .inr (.inl ⟨f, hf, hs⟩)
          · obtain rfl : f = c := by simpa using hf
            exact .inr (.inr hs)
      | cons a' A1 =>
        simp at he
        obtain ⟨rfl, he⟩ := he
        exact ih.1 A1 A2 e he hb i j mv m hk
    · intro h
      refine ⟨fun hb i j mv m hk => ?_, (wait_snoc (A := A) (c := c)).2 ⟨fun A1 A2 e he => h.1 (a :: A1) A2 e (by rw [he]; rfl), h.2⟩⟩
      rcases h.1 [] A a rfl hb i j mv m hk with h | ⟨f, hf, hs⟩ | hs
      · exact .inl h
      · exact .inr ⟨f, by simp [hf], hs⟩
      · exact .inr ⟨c, by simp, hs⟩
theorem wait_of {V : World} {me : List MapEntry} : ∀ {A B : List Ce}, (∀ (A1 A2 : List Ce) (e : Ce), A = A1 ++ e :: A2 → e.b = true → ∀ i j mv m, KidAt V e.v e.l i j mv m → Done me mv m ∨ ∃ f, f ∈ A2 ++ B ∧ Same f.v mv f.l m) → Wait V me B → Wait V me (A ++ B)
  | [], B, _, hb => hb
  | a :: A, B, h, hb => ⟨fun ht i j mv m hk => h [] A a rfl ht i j mv m hk, wait_of (A := A) (fun A1 A2 e he => h (a :: A1) A2 e (by rw [he]; rfl)) hb⟩
theorem wait_false {V : World} {me : List MapEntry} : ∀ {B : List Ce}, (∀ f, f ∈ B → f.b = false) → Wait V me B
  | [], _ => trivial
  | b :: B, h => ⟨(fun ht => by rw [h b (by simp)] at ht; cases ht), wait_false fun f hf => h f (by simp [hf])⟩
theorem Cg.start {V : World} {rv : Value} {root : List STree} (h : SListF V rv root) : Cg V rv root [] [⟨rv, root, false⟩] :=
  ⟨List.pairwise_singleton .., ⟨(fun h => by cases h), trivial⟩, (fun k v h => by simp [lookK] at h), .inr ⟨⟨rv, root, false⟩, by simp, rfl, rfl⟩, fun e he => by
    obtain rfl : e = _ := by simpa using he
    exact h⟩
theorem ord_pre {A : List Ce} {c : Ce} (h : Ord (A ++ [c])) : Ord A ∧ ∀ e, e ∈ A → e.b = true → kdXL c.l < kdXL e.l := by
  unfold Ord at *
  rw [List.pairwise_append] at h
  exact ⟨h.1, fun e he hb => h.2.2 e he c (by simp) hb⟩
/-- What was met is done. -/
theorem Cg.met {V : World} {rv : Value} {root : List STree} {me : List MapEntry} {A : List Ce} {c : Ce} (h : Cg V rv root me (A ++ [c])) (hb : c.b = false) {v : Value} (hv : lookK me (keyV c.v c.l) = some v) : Done me c.v c.l := by
  obtain ⟨mv, m, e, hm, hx⟩ := h.look _ _ hv
  have hs := same_of_key (h.ok c (by simp)) hm e
  rcases hx with hx | ⟨f, hf, hfb, hfs⟩
  · unfold Done
    rw [hv, hx, hs.2]
  · rcases List.mem_append.1 hf with hf | hf
    · have := (ord_pre h.ord).2 f hf hfb
      rw [hs.2, hfs.2] at this
      omega
    · obtain rfl : f = c := by simpa using hf
      rw [hb] at hfb; cases hfb
theorem Cg.skip {V : World} {rv : Value} {root : List STree} {me : List MapEntry} {A : List Ce} {c : Ce} (h : Cg V rv root me (A ++ [c])) (hb : c.b = false) (hd : Done me c.v c.l) : Cg V rv root me A := by
  refine ⟨(ord_pre h.ord).1, ?_, fun k v hv => ?_, ?_, fun e he => h.ok e (by simp [he])⟩
  · have hw := wait_snoc.1 h.wait
    have := wait_of (V := V) (me := me) (A := A) (B := []) (fun A1 A2 e he ht i j mv m hk => by
      rcases hw.1 A1 A2 e he ht i j mv m hk with h1 | ⟨f, hf, hs⟩ | hs
      · exact .inl h1
      · exact .inr ⟨f, by simp [hf], hs⟩
      · exact .inl (hd.of_same hs)) trivial
    rw [List.append_nil] at this
    exact this
  · obtain ⟨mv, m, e, hm, hx⟩ := h.look _ _ hv
    refine ⟨mv, m, e, hm, hx.imp id ?_⟩
    rintro ⟨f, hf, hfb, hfs⟩
    rcases List.mem_append.1 hf with hf | hf
    · exact ⟨f, hf, hfb, hfs⟩
    · obtain rfl : f = c := by simpa using hf
      rw [hb] at hfb; cases hfb
  · rcases h.rt with h1 | ⟨f, hf, hs⟩
    · exact .inl h1
    · rcases List.mem_append.1 hf with hf | hf
      · exact .inr ⟨f, hf, hs⟩
      · obtain rfl : f = c := by simpa using hf
        exact .inl (hd.of_same hs)
/-- All within what is counted behind all within it is done. -/
theorem Cg.kids {V : World} {rv : Value} {root : List STree} {me : List MapEntry} {A : List Ce} {c : Ce} (h : Cg V rv root me (A ++ [c])) (hb : c.b = true) : ∀ i j mv m, KidAt V c.v c.l i j mv m → Done me mv m := (wait_snoc.1 h.wait).2 hb
theorem Cg.close {V : World} {rv : Value} {root : List STree} {me me' : List MapEntry} {A : List Ce} {c : Ce} (hr : SListF V rv root) (h : Cg V rv root me (A ++ [c]))
    (hl : ∀ k', lookK me' k' = @ite _ (keyV c.v c.l = k') (Classical.propDecidable _) (some (Value.int .i64 (cntXS c.l : Int))) (lookK me k')) (hkid : ∀ e, e ∈ A → ∀ i j mv m, KidAt V e.v e.l i j mv m → SListF V mv m) : Cg V rv root me' A := by
  have okc : SListF V c.v c.l := h.ok c (by simp)
  have hdc : Done me' c.v c.l := by unfold Done; rw [hl, if_pos rfl]
  have hmono : ∀ v l, SListF V v l → Done me v l → Done me' v l := fun v l hv hd => by
    unfold Done
    rw [hl]
    by_cases he : keyV c.v c.l = keyV v l
    · rw [if_pos he, (same_of_key okc hv he).2]
    · rw [if_neg he]; exact hd
  refine ⟨(ord_pre h.ord).1, ?_, fun k v hv => ?_, ?_, fun e he => h.ok e (by simp [he])⟩
  · have hw := wait_snoc.1 h.wait
    have := wait_of (V := V) (me := me') (A := A) (B := []) (fun A1 A2 e he ht i j mv m hk => by
      have hmv := hkid e (by rw [he]; simp) i j mv m hk
      rcases hw.1 A1 A2 e he ht i j mv m hk with h1 | ⟨f, hf, hs⟩ | hs
      · exact .inl (hmono _ _ hmv h1)
      · exact .inr ⟨f, by simp [hf], hs⟩
      · exact .inl (hdc.of_same hs)) trivial
    rw [List.append_nil] at this
    exact this
  · rw [hl] at hv
    by_cases he : keyV c.v c.l = k
    · rw [if_pos he] at hv
      exact ⟨c.v, c.l, he.symm, okc, .inl (by simpa using hv.symm)⟩
    · rw [if_neg he] at hv
      obtain ⟨mv, m, e, hm, hx⟩ := h.look _ _ hv
      refine ⟨mv, m, e, hm, hx.imp id ?_⟩
      rintro ⟨f, hf, hfb, hfs⟩
      rcases List.mem_append.1 hf with hf | hf
      · exact ⟨f, hf, hfb, hfs⟩
      · obtain rfl : f = c := by simpa using hf
        exact absurd (hfs.key.trans e.symm) he
  · rcases h.rt with h1 | ⟨f, hf, hs⟩
    · exact .inl (hmono _ _ hr h1)
    · rcases List.mem_append.1 hf with hf | hf
      · exact .inr ⟨f, hf, hs⟩
      · obtain rfl : f = c := by simpa using hf
        exact .inl (hdc.of_same hs)
/-- The lists within the first elements, as they are pushed. -/
def kidsE (V : World) (g o : Nat) (xs : List STree) : Nat → List Ce
  | 0 => []
  | i + 1 => kidsE V g o xs i ++ [⟨(V.cell? ⟨g, o + i * 8 + 6, none⟩).getD (.slice none 0 0), (xs[i]?.map (·.body)).getD [], false⟩, ⟨(V.cell? ⟨g, o + i * 8 + 7, none⟩).getD (.slice none 0 0), (xs[i]?.map (·.els)).getD [], false⟩]
theorem kidsE_succ {V : World} {g o : Nat} {xs : List STree} {i : Nat} (hi : i < xs.length) {bv ev : Value} (h6 : V.cell? ⟨g, o + i * 8 + 6, none⟩ = some bv) (h7 : V.cell? ⟨g, o + i * 8 + 7, none⟩ = some ev) : kidsE V g o xs (i + 1) = kidsE V g o xs i ++ [⟨bv, xs[i].body, false⟩, ⟨ev, xs[i].els, false⟩] := by
  rw [kidsE, h6, h7, List.getElem?_eq_getElem hi]
  rfl
theorem kidsE_len {V : World} {g o : Nat} {xs : List STree} : ∀ i, (kidsE V g o xs i).length = 2 * i
  | 0 => rfl
  | i + 1 => by rw [kidsE, List.length_append, kidsE_len i]; simp; omega
theorem kd_mem : ∀ {xs : List STree} {x : STree}, x ∈ xs → kdX x ≤ kdXL xs
  | a :: r, x, h => by
    rw [kdXL]
    rcases List.mem_cons.1 h with rfl | h
    · omega
    · have := kd_mem h; omega
theorem kdX_eq (x : STree) : kdX x = 2 + kdXL x.body + kdXL x.els := by cases x; rfl
theorem kdXL_take {xs : List STree} {i : Nat} (h : i < xs.length) : kdXL (xs.take (i + 1)) = kdXL (xs.take i) + kdX xs[i] := by
  rw [List.take_succ_eq_append_getElem h]
  generalize xs.take i = a
  induction a with
  | nil => simp [kdXL]
  | cons b r ih => simp only [List.cons_append, kdXL, ih]; omega
/-- Each is of its kind. -/
theorem kidsE_at {V : World} {g o : Nat} {xs : List STree} (hl : SLiesLF V g o xs) : ∀ i, i ≤ xs.length → (∀ f, f ∈ kidsE V g o xs i → f.b = false ∧ SListF V f.v f.l ∧ kdXL f.l < kdXL xs) ∧ cost (kidsE V g o xs i) = 2 * kdXL (xs.take i) ∧ (∀ k n c j mv m, k < i → KidAt V (.slice (some ⟨g, o, none⟩) n c) xs k j mv m → ∃ f, f ∈ kidsE V g o xs i ∧ f.v = mv ∧ f.l = m)
  | 0, _ => ⟨(fun f hf => by cases hf), by simp [kidsE, cost, kdXL], fun k n c j mv m hk => by omega⟩
  | i + 1, hi => by
    have hlt : i < xs.length := by omega
    obtain ⟨h1, h2, h3⟩ := kidsE_at hl i (by omega)
    obtain ⟨ta, tc, ba, bc, ea, ec, c0, c1, c2, c3, c4, c5, c6, c7, lx⟩ := hl.at i hlt
    obtain ⟨_, lb, le⟩ := lx.lists
    have hx := kdX_eq xs[i]
    have hm := kd_mem (List.getElem_mem hlt)
    rw [kidsE_succ hlt c6 c7]
    refine ⟨fun f hf => ?_, ?_, fun k n c j mv m hk hkid => ?_⟩
    · rcases List.mem_append.1 hf with hf | hf
      · exact h1 f hf
      · have hf : f = (⟨.slice ba xs[i].body.length bc, xs[i].body, false⟩ : Ce) ∨ f = (⟨.slice ea xs[i].els.length ec, xs[i].els, false⟩ : Ce) := by simpa using hf
        rcases hf with rfl | rfl
        · exact ⟨rfl, lb, by simp only; omega⟩
        · exact ⟨rfl, le, by simp only; omega⟩
    · rw [cost_append, h2, kdXL_take hlt, hx]
      simp [cost, costE]
      omega
    · by_cases hki : k = i
      · subst hki
        obtain ⟨g', o', n', c', hi', e, hcell, hj⟩ := hkid
        simp at e
        obtain ⟨⟨rfl, rfl⟩, _⟩ := e
        rcases hj with ⟨rfl, rfl⟩ | ⟨rfl, rfl⟩
        · rw [Nat.add_zero, c6] at hcell
          exact ⟨_, List.mem_append.2 (.inr (List.mem_cons_self ..)), by simpa using hcell, rfl⟩
        · rw [show o + k * 8 + (6 + 1) = o + k * 8 + 7 from rfl, c7] at hcell
          exact ⟨_, List.mem_append.2 (.inr (List.mem_cons_of_mem _ (List.mem_cons_self ..))), by simpa using hcell, rfl⟩
      · obtain ⟨f, hf, h⟩ := h3 k n c j mv m (by omega) hkid
        exact ⟨f, List.mem_append.2 (.inl hf), h⟩
theorem kid_ok {V : World} {v : Value} {xs : List STree} (h : SListF V v xs) : ∀ i j mv m, KidAt V v xs i j mv m → SListF V mv m := fun i j mv m hk => by
  obtain ⟨g, o, n, c, hi, rfl, hcell, hj⟩ := hk
  obtain ⟨_, a, cap, e, hf⟩ := h
  simp at e
  obtain ⟨rfl, _, _⟩ := e
  obtain ⟨g', o', e, _, hl⟩ := hf (by omega)
  simp at e
  obtain ⟨rfl, rfl⟩ := e
  obtain ⟨ta, tc, ba, bc, ea, ec, c0, c1, c2, c3, c4, c5, c6, c7, lx⟩ := hl.at i hi
  obtain ⟨_, lb, le⟩ := lx.lists
  rcases hj with ⟨rfl, rfl⟩ | ⟨rfl, rfl⟩
  · rw [Nat.add_zero, c6] at hcell
    obtain rfl := Option.some.inj hcell
    exact lb
  · rw [show o + i * 8 + (6 + 1) = o + i * 8 + 7 from rfl, c7] at hcell
    obtain rfl := Option.some.inj hcell
    exact le
/-- A list is opened: it is to be counted behind all within it. -/
theorem Cg.opened {V : World} {rv : Value} {root : List STree} {me me' : List MapEntry} {A B : List Ce} {v : Value} {l : List STree} {mx : Value} (h : Cg V rv root me (A ++ [⟨v, l, false⟩])) (hn : lookK me (keyV v l) = none)
    (hl : ∀ k', lookK me' k' = @ite _ (keyV v l = k') (Classical.propDecidable _) (some mx) (lookK me k'))
    (hB : ∀ f, f ∈ B → f.b = false ∧ SListF V f.v f.l ∧ kdXL f.l < kdXL l) (hk : ∀ i j mv m, KidAt V v l i j mv m → ∃ f, f ∈ B ∧ Same f.v mv f.l m) : Cg V rv root me' (A ++ [⟨v, l, true⟩] ++ B) := by
  have okc : SListF V v l := h.ok ⟨v, l, false⟩ (by simp)
  have hmono : ∀ u m, Done me u m → Done me' u m := fun u m hd => by
    unfold Done
    rw [hl, if_neg (fun e => by unfold Done at hd; rw [← e, hn] at hd; cases hd)]
    exact hd
  have ho := ord_pre h.ord
  refine ⟨?_, ?_, fun k w hv => ?_, ?_, fun e he => ?_⟩
  · unfold Ord
    rw [List.pairwise_append, List.pairwise_append]
    refine ⟨⟨ho.1, List.pairwise_singleton .., fun e he f hf hb => ?_⟩, ?_, fun e he f hf hb => ?_⟩
    · obtain rfl : f = _ := by simpa using hf
      exact ho.2 e he hb
    · refine List.Pairwise.imp_of_mem (R := fun _ _ => True) (fun ha _ _ ht => by rw [(hB _ ha).1] at ht; cases ht) ?_
      exact List.pairwise_of_forall (fun _ _ => trivial)
    · rcases List.mem_append.1 he with he | he
      · exact Nat.lt_trans (hB f hf).2.2 (ho.2 e he hb)
      · obtain rfl : e = _ := by simpa using he
        exact (hB f hf).2.2
  · rw [List.append_assoc]
    have hw := wait_snoc.1 h.wait
    refine wait_of (fun A1 A2 e he ht i j mv m hkd => ?_) ⟨fun _ i j mv m hkd => .inr (hk i j mv m hkd), wait_false fun f hf => (hB f hf).1⟩
    rcases hw.1 A1 A2 e he ht i j mv m hkd with h1 | ⟨f, hf, hs⟩ | hs
    · exact .inl (hmono _ _ h1)
    · exact .inr ⟨f, by simp [hf], hs⟩
    · exact .inr ⟨⟨v, l, true⟩, by simp, hs⟩
  · rw [hl] at hv
    by_cases he : keyV v l = k
    · exact ⟨v, l, he.symm, okc, .inr ⟨⟨v, l, true⟩, by simp, rfl, rfl, rfl⟩⟩
    · rw [if_neg he] at hv
      obtain ⟨mv, m, e, hm, hx⟩ := h.look _ _ hv
      refine ⟨mv, m, e, hm, hx.imp id ?_⟩
      rintro ⟨f, hf, hfb, hfs⟩
      rcases List.mem_append.1 hf with hf | hf
      · exact ⟨f, by simp [hf], hfb, hfs⟩
      · obtain rfl : f = _ := by simpa using hf
        cases hfb
  · rcases h.rt with h1 | ⟨f, hf, hs⟩
    · exact .inl (hmono _ _ h1)
    · rcases List.mem_append.1 hf with hf | hf
      · exact .inr ⟨f, by simp [hf], hs⟩
      · obtain rfl : f = _ := by simpa using hf
        exact .inr ⟨⟨v, l, true⟩, by simp, hs⟩
  · rcases List.mem_append.1 he with he | he
    · rcases List.mem_append.1 he with he | he
      · exact h.ok e (by simp [he])
      · obtain rfl : e = _ := by simpa using he
        exact okc
    · exact (hB e he).2.1
theorem Cg.yes {V : World} {rv : Value} {root : List STree} {me : List MapEntry} (h : Cg V rv root me []) : Done me rv root := h.rt.resolve_right (by simp)
end Go.Proofs.YtkfeiekgdfklmaaGreatDoor.Cn
/- The program's counting of a list by what was counted within it, walked. Conditions: the list lies in rows that are not frozen, what is within it was counted; there are at most 2 millions. -/
namespace Go.Proofs.YtkfeiekgdfklmaaGreatDoor.Cn
open Go.RowKit Own Trm Km SpX
theorem implSum_any (a b : Nat) (h : a + b ≤ 9000000) (w : World) : Calls Tryz.prog 186 #[.int .i64 (a : Int), .int .i64 (b : Int)] w fun e w' => e = .returned (.int .i64 ((a : Int) + (b : Int))) ∧ w = w' := by
  have h1 : (b : Int) ≤ 9223372036854775807 - (a : Int) := by omega
  have h2 : ¬ (9223372036854775807 - (a : Int) < (b : Int)) := by omega
  have h3 : IntKind.i64.wrap (9223372036854775807 - (a : Int)) = 9223372036854775807 - (a : Int) := IntWalk.i64_in _ (by omega)
  have h4 : IntKind.i64.wrap ((a : Int) + (b : Int)) = (a : Int) + (b : Int) := IntWalk.i64_in _ (by omega)
  go_enter Tryz.func186, Tryz.ntmps186
  go_wp2
  go_ret
  exact ⟨rfl, rfl⟩
def inXS : List STree → Nat
  | [] => 0
  | x :: r => cntXS x.body + cntXS x.els + inXS r
theorem cnt_in : ∀ xs : List STree, cntXS xs = xs.length + inXS xs
  | [] => rfl
  | x :: r => by rw [cntXS, inXS, cntX_eq, cnt_in r, List.length_cons]; omega
theorem inXS_drop {xs : List STree} {i : Nat} (h : i < xs.length) : inXS (xs.drop i) = cntXS xs[i].body + cntXS xs[i].els + inXS (xs.drop (i + 1)) := by rw [List.drop_eq_getElem_cons h, inXS]
theorem inXS_end {xs : List STree} {i : Nat} (h : xs.length ≤ i) : inXS (xs.drop i) = 0 := by rw [List.drop_of_length_le h, inXS]
theorem SpOk.keep {V w : World} {k : Value} (hk : KeepF V w) (h : SpOk V k) : SpOk w k := by
  obtain ⟨a, n, e, h⟩ := h
  exact ⟨a, n, e, h.keep hk⟩
theorem spot_ok {V : World} {v : Value} {xs : List STree} (h : SListF V v xs) : SpOk V (keyV v xs) := ⟨_, _, rfl, freeO_of h⟩
theorem KeepF.below {V w w' : World} (hk : KeepF V w) (hb : Below w.heap.size w w') : KeepF V w' := hk.trans (keepF_below hb)
set_option maxHeartbeats 800000 in
theorem implCountBy_any (V w : World) (M : Nat) (xs : List STree) (v : Value) (hk : KeepF V w) (h : SListF V v xs) (hz : cntXS xs ≤ 2000000) (es : Array MapEntry) (clock : Nat) (hm : w.heap[M]? = some (.map es clock)) (hmk : MetK SpOk V es.toList) (hd : ∀ i j mv m, KidAt V v xs i j mv m → Done es.toList mv m) :
    Calls Tryz.prog 173 #[.map (some M), v] w fun e w' => e = .returned (.int .i64 (cntXS xs : Int)) ∧ Below w.heap.size w w' := by
  have HD := Lib.hid hd
  have HK := Lib.hid hk
  have HM := Lib.hid hm
  have HMK := Lib.hid hmk
  have HZ := Lib.hid hz
  have HC := Lib.hid (cnt_in xs)
  obtain ⟨hlen, aa, cap, rfl, hf⟩ := h
  have HF := Lib.hid hf
  clear hd hk hm hmk hz hf
  go_enter Tryz.func173, Tryz.ntmps173
  go_wp2
  go_loopw [5, 12] (fun n i wr => ∃ (j m : Nat), j ≤ xs.length ∧ i = .int .i64 j ∧ n = .int .i64 m ∧ Hid (cntXS xs = m + inXS (xs.drop j)) ∧ Hid (Below w.heap.size w wr))
    (fun _ i _ => xs.length - (intOf i).toNat)
  case atStart => exact ⟨0, xs.length, Nat.zero_le _, rfl, rfl, by show _ = _; rw [HC.out]; simp, Below.refl _ _⟩
  case round =>
    obtain ⟨j, m, hj, rfl, rfl, hsz, hbe⟩ := hrel
    by_cases hlt : j < xs.length
    · obtain ⟨g, o, rfl, f1, l1⟩ := HF.out (by omega)
      obtain ⟨ta, tc, ba, bc, ea, ec, c0, c1, c2, c3, c4, c5, c6, c7, lx⟩ := l1.at j hlt
      have D6 : Hid (lookK es.toList (spV (spotA (.slice ba xs[j].body.length bc)) xs[j].body.length) = some (.int .i64 (cntXS xs[j].body : Int))) := HD.out j 0 _ _ ⟨g, o, _, _, hlt, rfl, by rw [Nat.add_zero]; exact c6, .inl ⟨rfl, rfl⟩⟩
      have D7 : Hid (lookK es.toList (spV (spotA (.slice ea xs[j].els.length ec)) xs[j].els.length) = some (.int .i64 (cntXS xs[j].els : Int))) := HD.out j 1 _ _ ⟨g, o, _, _, hlt, rfl, by exact c7, .inr ⟨rfl, rfl⟩⟩
      have kf := KeepF.below HK.out hbe.out
      rw [← f1.cell kf] at c0 c1 c2 c3 c4 c5 c6 c7
      obtain ⟨_, lb, le⟩ := lx.lists
      have LB := Lib.hid lb
      have LE := Lib.hid le
      have CB := Lib.hid (fun w2 => implSpot_any ba xs[j].body.length bc lb.1 (fun h => by obtain ⟨_, _, _, e, hq⟩ := lb; simp at e; obtain ⟨rfl, _⟩ := e; obtain ⟨g, o, e, _⟩ := hq h; exact ⟨g, o, e⟩) w2)
      have CE := Lib.hid (fun w2 => implSpot_any ea xs[j].els.length ec le.1 (fun h => by obtain ⟨_, _, _, e, hq⟩ := le; simp at e; obtain ⟨rfl, _⟩ := e; obtain ⟨g, o, e, _⟩ := hq h; exact ⟨g, o, e⟩) w2)
      have hdr := inXS_drop hlt
      have hT := hsz.out
      have hZ := HZ.out
      have CS := Lib.hid (fun w2 => implSum_any m (cntXS xs[j].body) (by omega) w2)
      have CS2 := Lib.hid (fun w2 => implSum_any (m + cntXS xs[j].body) (cntXS xs[j].els) (by omega) w2)
      have HS : Hid (cntXS xs = (m + cntXS xs[j].body + cntXS xs[j].els) + inXS (xs.drop (j + 1))) := by show _ = _; omega
      generalize cntXS xs[j].body = na at D6 CS CS2 HS
      generalize cntXS xs[j].els = nb at D7 CS2 HS
      have look : Hid (∀ wx, Below w.heap.size w wx → ∀ mv l, SListF V mv l → ∀ n : Nat, lookK es.toList (spV (spotA mv) l.length) = some (.int .i64 (n : Int)) → (Instr.lookup 190 (.map (some M)) (.agg #[.pointer (spotA mv), .int .i64 (l.length : Int)]) false).run Tryz.prog wx = .ok (.int .i64 (n : Int)) wx) := fun wx hb mv l hl n hn => by
        have hm : wx.heap[M]? = some (.map es clock) := by rw [hb.block M (heap_lt HM.out)]; exact HM.out
        have := (run_look spot_key Tryz.underlying190 (z := .int .i64 0) (fun w => by kernel_rfl) hm (fun x hx => SpOk.keep (KeepF.below HK.out hb) (HMK.out x hx)) (SpOk.keep (KeepF.below HK.out hb) (spot_ok hl))).1
        unfold keyV at this
        rw [hn] at this
        exact this
      clear l1 lx lb le hdr hT hZ f1 kf
      go_wp2_with fail
      refine (CB.out _).mono ?_
      rintro e w1 ⟨rfl, hb1⟩
      have B1 := Lib.hid (hbe.out.trans ((below_box1 hb1).mono hbe.out.size))
      have X1 : Hid (w1.cell? ⟨wr.heap.size, 7, none⟩ = some (.slice ea xs[j].els.length ec)) := keeps_below hb1 _ _ (by simp [go_sem])
      have r1 := look.out _ B1.out _ _ LB.out _ D6.out
      have hsz : wr.heap.size = wr.heap.size := rfl
      obtain ⟨D, hD⟩ : ∃ D, D = wr.heap.size := ⟨_, rfl⟩
      rw [← hD] at X1 ⊢
      clear hb1 hD hsz c0 c1 c2 c3 c4 c5 c6 c7
      unfold spV
      go_wp2_with fail
      refine (CS.out _).mono ?_
      rintro e w2 ⟨rfl, rfl⟩
      have x7 := X1.out
      clear r1
      go_wp2_with fail
      refine (CE.out _).mono ?_
      rintro e w3 ⟨rfl, hb3⟩
      have B3 := Lib.hid (B1.out.trans (hb3.mono B1.out.size))
      have r3 := look.out _ B3.out _ _ LE.out _ D7.out
      clear hb3 x7
      unfold spV
      go_wp2_with fail
      refine (CS2.out _).mono ?_
      rintro e w4 ⟨rfl, rfl⟩
      clear r3
      go_wp2
      go_roundw
      case rel => exact ⟨j + 1, m + na + nb, by omega, by go_num, by simp, HS, B3.out⟩
      case measure => simp [intOf]; omega
    · have HS : Hid (m = cntXS xs) := by show _ = _; have := hsz.out; rw [inXS_end (by omega)] at this; omega
      go_wp2
      go_ret
      exact ⟨ret_n HS.out, hbe.out⟩
end Go.Proofs.YtkfeiekgdfklmaaGreatDoor.Cn
/- Rows and blocks beside a map that a walk keeps. Without conditions. -/
namespace Go.Proofs.YtkfeiekgdfklmaaGreatDoor.SpX
open Go.RowKit Own Trm
/-- The place: the map's block is none that keeps lists; both are newer than the call's world. -/
structure Ctx (V w : World) (M : Nat) : Prop where
  map : ∃ es clock, V.heap[M]? = some (Obj.map es clock)
  hM : w.heap.size ≤ M
  hV : w.heap.size ≤ V.heap.size
theorem Ctx.lt {V w : World} {M : Nat} (c : Ctx V w M) : M < V.heap.size := by obtain ⟨es, k, h⟩ := c.map; exact heap_lt h
theorem row_prefix {w : World} {base : Nat} {e : TypeId} {size n n' cap : Nat} {a : Option Addr} {xs ys : List Value} (h : w.ownsRow base e size (.slice a (n + n') cap) (n + n') (xs ++ ys)) (hx : xs.length = n * size) (hn : 0 < n') : w.ownsRow base e size (.slice a n cap) n xs := by
  refine ⟨hx, ?_⟩
  rcases h.2 with ⟨e1, e2⟩ | ⟨g, cap', cur, e1, h1, h2, h3, h4, h5, h6⟩
  · omega
  · simp at e1
    obtain ⟨rfl, rfl⟩ := e1
    refine .inr ⟨g, cap, cur, rfl, h1, h2, by omega, h4, h5, ?_⟩
    have := congrArg (List.take (n * size)) h6
    rw [List.take_take, List.take_append_of_le_length (by omega), List.take_of_length_le (l := xs) (by omega)] at this
    rw [← this]
    congr 1
    have : n * size ≤ (n + n') * size := Nat.mul_le_mul_right _ (by omega)
    omega
theorem row_cap {w : World} {base : Nat} {e : TypeId} {size n m cap : Nat} {a : Option Addr} {xs : List Value} (h : w.ownsRow base e size (.slice a m cap) n xs) : n ≤ cap := by
  rcases h.2 with ⟨e1, e2⟩ | ⟨g, cap', cur, e1, h1, h2, h3, _⟩
  · omega
  · simp at e1
    omega
theorem blk_at {W : World} {b : Nat} {o o' : Obj} (hb : b < W.heap.size) (h : W.heap[b]? = some o) : (W.alloc o').heap[b]? = some o := by
  rw [((Below.refl W.heap.size W).alloc (Nat.le_refl _) o').block b hb]; exact h
theorem cell_noMap {w : World} {b M : Nat} {i : Nat} {u : Value} {es : Array MapEntry} {k : Nat} (h : w.cell? ⟨b, i, none⟩ = some u) (hm : w.heap[M]? = some (.map es k)) : b ≠ M := fun e => by
  subst e
  simp [World.cell?, hm] at h
theorem cell_grown {w w' : World} {row : Option Nat} {b i : Nat} {u : Value} (h : w.cell? ⟨b, i, none⟩ = some u) (hg : w.grownBy w' row) (hn : some b ≠ row) : w'.cell? ⟨b, i, none⟩ = some u := by
  rw [World.cell?_of_block (hg.block b (cell_lt h) hn)]; exact h
theorem two_cells (a b : Option Addr) (n m c d : Nat) : ∀ u ∈ [Value.slice a n c, Value.slice b m d], u.oneCell' = true := by
  intro u hu
  simp at hu
  rcases hu with rfl | rfl <;> rfl
theorem last_of {α : Type} : ∀ (l : List α), l ≠ [] → ∃ l' e, l = l' ++ [e]
  | [], h => absurd rfl h
  | [a], _ => ⟨[], a, rfl⟩
  | a :: b :: r, _ => by
    obtain ⟨l', e, h⟩ := last_of (b :: r) (by simp)
    exact ⟨a :: l', e, by rw [h]; rfl⟩
end Go.Proofs.YtkfeiekgdfklmaaGreatDoor.SpX
/- When two lists are the same part by part, told by a heap of pairs of lists that are looked at one by one, each once. Without conditions: no Go text is spoken of here. -/
namespace Go.Proofs.YtkfeiekgdfklmaaGreatDoor.Lg
/-- What stands in lists, and the lists within it. -/
structure Kd (α : Type) where
  sh : α → α → Bool
  wi : α → List (List α)
  dp : α → α → Bool
  nd : α → Nat
  many : Nat
variable {α : Type} (K : Kd α)
def DeepP (p : List α × List α) : Prop := p.1.length = p.2.length ∧ ∀ i (h : i < p.1.length) (h2 : i < p.2.length), K.dp p.1[i] p.2[i] = true
def ShalP (p : List α × List α) : Prop := p.1.length = p.2.length ∧ ∀ i (h : i < p.1.length) (h2 : i < p.2.length), K.sh p.1[i] p.2[i] = true
def ndL : List α → Nat
  | [] => 0
  | x :: xs => K.nd x + ndL xs
def wtS : List (List α) → Nat
  | [] => 0
  | l :: r => 1 + ndL K l + wtS r
structure Kd.Ok : Prop where
  len : ∀ x, (K.wi x).length = K.many
  nd : ∀ x, K.nd x = wtS K (K.wi x)
  dp : ∀ x y, K.dp x y = true ↔ (K.sh x y = true ∧ ∀ j (h : j < (K.wi x).length) (h2 : j < (K.wi y).length), DeepP K ((K.wi x)[j], (K.wi y)[j]))
  ind : ∀ P : α → Prop, (∀ x, (∀ l, l ∈ K.wi x → ∀ y, y ∈ l → P y) → P x) → ∀ x, P x
variable {K}
theorem deep_shal (ok : K.Ok) {p : List α × List α} (h : DeepP K p) : ShalP K p := ⟨h.1, fun i h1 h2 => ((ok.dp _ _).1 (h.2 i h1 h2)).1⟩
/-- A pair of lists within the elements at i. -/
def kid (K : Kd α) (p : List α × List α) (i j : Nat) : List α × List α :=
  ((p.1[i]?.bind fun x => (K.wi x)[j]?).getD [], (p.2[i]?.bind fun x => (K.wi x)[j]?).getD [])
theorem kid_eq {p : List α × List α} {i j : Nat} (h1 : i < p.1.length) (h2 : i < p.2.length) (h3 : j < (K.wi p.1[i]).length) (h4 : j < (K.wi p.2[i]).length) : kid K p i j = ((K.wi p.1[i])[j], (K.wi p.2[i])[j]) := by
  unfold kid
  rw [List.getElem?_eq_getElem h1, List.getElem?_eq_getElem h2]
  simp only [Option.bind_some]
  rw [List.getElem?_eq_getElem h3, List.getElem?_eq_getElem h4]
  rfl
theorem deep_kid (ok : K.Ok) {p : List α × List α} (h : DeepP K p) {i j : Nat} (h1 : i < p.1.length) (hj : j < K.many) : DeepP K (kid K p i j) := by
  have h2 : i < p.2.length := by rw [← h.1]; exact h1
  have h3 : j < (K.wi p.1[i]).length := by rw [ok.len]; exact hj
  have h4 : j < (K.wi p.2[i]).length := by rw [ok.len]; exact hj
  rw [kid_eq h1 h2 h3 h4]
  exact ((ok.dp _ _).1 (h.2 i h1 h2)).2 j h3 h4
/-- Looked at, and all within it is met or to be looked at. -/
def Shut (K : Kd α) (ms es : List (List α × List α)) (p : List α × List α) : Prop := ShalP K p ∧ ∀ i j, i < p.1.length → j < K.many → kid K p i j ∈ ms ∨ kid K p i j ∈ es
theorem Shut.imp {ms es ms' es' : List (List α × List α)} {p : List α × List α} (h : Shut K ms es p) (hi : ∀ q, q ∈ ms ∨ q ∈ es → q ∈ ms' ∨ q ∈ es') : Shut K ms' es' p := ⟨h.1, fun i j h1 h2 => hi _ (h.2 i j h1 h2)⟩
theorem shut_deep (ok : K.Ok) {ms : List (List α × List α)} (hs : ∀ p, p ∈ ms → Shut K ms [] p) (p : List α × List α) (h : p ∈ ms) : DeepP K p := by
  have key : ∀ x : α, ∀ p, p ∈ ms → ∀ i (h1 : i < p.1.length) (h2 : i < p.2.length), p.1[i] = x → K.dp p.1[i] p.2[i] = true := by
    refine ok.ind _ fun x ih p hp i h1 h2 hx => ?_
    have sp := hs p hp
    refine (ok.dp _ _).2 ⟨sp.1.2 i h1 h2, fun j h3 h4 => ?_⟩
    have hm := (sp.2 i j h1 (by rw [← ok.len]; exact h3)).resolve_right (by simp)
    rw [kid_eq h1 h2 h3 h4] at hm
    have sk := hs _ hm
    refine ⟨sk.1.1, fun i' h5 h6 => ?_⟩
    exact ih ((K.wi p.1[i])[j]) (by rw [← hx]; exact List.getElem_mem h3) _ (List.getElem_mem h5) _ hm i' h5 h6 rfl
  exact ⟨(hs p h).1.1, fun i h1 h2 => key _ p h i h1 h2 rfl⟩
structure Gh (K : Kd α) (root : List α × List α) (ms es : List (List α × List α)) : Prop where
  rt : root ∈ ms ∨ root ∈ es
  sound : DeepP K root → ∀ p, p ∈ es → DeepP K p
  shut : ∀ p, p ∈ ms → Shut K ms es p
structure Gi (K : Kd α) (root : List α × List α) (ms es : List (List α × List α)) (c : List α × List α) (i j : Nat) : Prop where
  rt : root ∈ ms ∨ root ∈ es
  sound : DeepP K root → (∀ p, p ∈ es → DeepP K p) ∧ DeepP K c
  shut : ∀ p, p ∈ ms → p = c ∨ Shut K ms es p
  shal : ShalP K c
  kids : ∀ i' j', i' < c.1.length → j' < K.many → (i' < i ∨ (i' = i ∧ j' < j)) → kid K c i' j' ∈ ms ∨ kid K c i' j' ∈ es
theorem Gh.start (r : List α × List α) : Gh K r [] [r] := ⟨.inr (by simp), fun h p hp => by simp at hp; rw [hp]; exact h, fun p hp => by cases hp⟩
theorem mem_snoc {es : List (List α × List α)} {c q : List α × List α} : q ∈ es ++ [c] ↔ q ∈ es ∨ q = c := by simp
theorem Gh.skip {r c : List α × List α} {ms es : List (List α × List α)} (h : Gh K r ms (es ++ [c])) (hc : c ∈ ms) : Gh K r ms es := by
  have hi : ∀ q, q ∈ ms ∨ q ∈ es ++ [c] → q ∈ ms ∨ q ∈ es := fun q hq => by
    rcases hq with hq | hq
    · exact .inl hq
    · rcases mem_snoc.1 hq with hq | rfl
      · exact .inr hq
      · exact .inl hc
  exact ⟨hi _ h.rt, fun hr p hp => h.sound hr p (mem_snoc.2 (.inl hp)), fun p hp => (h.shut p hp).imp hi⟩
theorem Gh.no (ok : K.Ok) {r c : List α × List α} {ms es : List (List α × List α)} (h : Gh K r ms (es ++ [c])) (hc : ¬ ShalP K c) : ¬ DeepP K r := fun hr => hc (deep_shal ok (h.sound hr c (mem_snoc.2 (.inr rfl))))
theorem Gh.begin {r c : List α × List α} {ms es : List (List α × List α)} (h : Gh K r ms (es ++ [c])) (hc : ShalP K c) : Gi K r (c :: ms) es c 0 0 := by
  have hi : ∀ q, q ∈ ms ∨ q ∈ es ++ [c] → q ∈ c :: ms ∨ q ∈ es := fun q hq => by
    rcases hq with hq | hq
    · exact .inl (List.mem_cons_of_mem _ hq)
    · rcases mem_snoc.1 hq with hq | rfl
      · exact .inr hq
      · exact .inl (List.mem_cons_self ..)
  refine ⟨hi _ h.rt, fun hr => ⟨fun p hp => h.sound hr p (mem_snoc.2 (.inl hp)), h.sound hr c (mem_snoc.2 (.inr rfl))⟩, fun p hp => ?_, hc, fun i' j' _ _ hlt => by omega⟩
  rcases List.mem_cons.1 hp with rfl | hp
  · exact .inl rfl
  · exact .inr ((h.shut p hp).imp hi)
theorem Gi.push (ok : K.Ok) {r c : List α × List α} {ms es : List (List α × List α)} {i j : Nat} (h : Gi K r ms es c i j) (h1 : i < c.1.length) (hj : j < K.many) : Gi K r ms (es ++ [kid K c i j]) c i (j + 1) := by
  have hi : ∀ q, q ∈ ms ∨ q ∈ es → q ∈ ms ∨ q ∈ es ++ [kid K c i j] := fun q hq => hq.imp id (fun hq => mem_snoc.2 (.inl hq))
  refine ⟨hi _ h.rt, fun hr => ⟨fun p hp => ?_, (h.sound hr).2⟩, fun p hp => (h.shut p hp).imp id (fun hs => hs.imp hi), h.shal, fun i' j' a b hlt => ?_⟩
  · rcases mem_snoc.1 hp with hp | rfl
    · exact (h.sound hr).1 p hp
    · exact deep_kid ok (h.sound hr).2 h1 hj
  · by_cases he : i' = i ∧ j' = j
    · obtain ⟨rfl, rfl⟩ := he
      exact .inr (mem_snoc.2 (.inr rfl))
    · exact hi _ (h.kids i' j' a b (by omega))
theorem Gi.next {r c : List α × List α} {ms es : List (List α × List α)} {i j : Nat} (h : Gi K r ms es c i j) (hj : K.many ≤ j) : Gi K r ms es c (i + 1) 0 :=
  ⟨h.rt, h.sound, h.shut, h.shal, fun i' j' a b hlt => h.kids i' j' a b (by omega)⟩
theorem Gi.done {r c : List α × List α} {ms es : List (List α × List α)} {i : Nat} (h : Gi K r ms es c i 0) (hi : c.1.length ≤ i) : Gh K r ms es :=
  ⟨h.rt, fun hr => (h.sound hr).1, fun p hp => by
    rcases h.shut p hp with rfl | hs
    · exact ⟨h.shal, fun i' j' a b => h.kids i' j' a b (by omega)⟩
    · exact hs⟩
theorem Gh.yes (ok : K.Ok) {r : List α × List α} {ms : List (List α × List α)} (h : Gh K r ms []) : DeepP K r :=
  shut_deep ok h.shut r (h.rt.resolve_right (by simp))
/-- How much is to be done. -/
def wt (K : Kd α) : List (List α × List α) → Nat
  | [] => 0
  | p :: r => 1 + ndL K p.1 + wt K r
theorem wt_snoc : ∀ (es : List (List α × List α)) (c : List α × List α), wt K (es ++ [c]) = wt K es + (1 + ndL K c.1)
  | [], c => by simp [wt]
  | p :: r, c => by simp only [List.cons_append, wt, wt_snoc r c]; omega
theorem wt_len : ∀ es : List (List α × List α), es.length ≤ wt K es
  | [] => by simp [wt]
  | p :: r => by have := wt_len r; simp only [List.length_cons, wt]; omega
theorem ndL_drop {l : List α} {i : Nat} (h : i < l.length) : ndL K (l.drop i) = K.nd l[i] + ndL K (l.drop (i + 1)) := by rw [List.drop_eq_getElem_cons h, ndL]
theorem ndL_end {l : List α} {i : Nat} (h : l.length ≤ i) : ndL K (l.drop i) = 0 := by rw [List.drop_of_length_le h, ndL]
theorem wtS_drop {l : List (List α)} {i : Nat} (h : i < l.length) : wtS K (l.drop i) = 1 + ndL K l[i] + wtS K (l.drop (i + 1)) := by rw [List.drop_eq_getElem_cons h, wtS]
theorem wtS_end {l : List (List α)} {i : Nat} (h : l.length ≤ i) : wtS K (l.drop i) = 0 := by rw [List.drop_of_length_le h, wtS]
theorem least_is {p : Nat → Prop} : ∀ n, p n → ∃ m, p m ∧ ∀ k, p k → m ≤ k := by
  intro n
  induction n using Nat.strongRecOn with
  | ind n ih =>
    intro h
    by_cases hc : ∃ k, k < n ∧ p k
    · obtain ⟨k, hk, hp⟩ := hc
      exact ih k hk hp
    · exact ⟨n, h, fun k hk => Nat.le_of_not_lt fun hl => hc ⟨k, hl, hk⟩⟩
open Classical in
/-- The least number of a kind. -/
noncomputable def leastN (p : Nat → Prop) : Nat := if h : ∃ m, p m ∧ ∀ k, p k → m ≤ k then Classical.choose h else 0
theorem leastN_le {p : Nat → Prop} {m : Nat} (h : p m) : leastN p ≤ m := by
  have hx := least_is m h
  unfold leastN
  rw [dif_pos hx]
  exact (Classical.choose_spec hx).2 m h
theorem leastN_at {p : Nat → Prop} (h : ∃ n, p n) : p (leastN p) := by
  obtain ⟨n, hn⟩ := h
  have hx := least_is n hn
  unfold leastN
  rw [dif_pos hx]
  exact (Classical.choose_spec hx).1
end Go.Proofs.YtkfeiekgdfklmaaGreatDoor.Lg
/- The program's CountIn, walked. Conditions: the list lies in rows that are not frozen; there are at most 1100000 statements. -/
namespace Go.Proofs.YtkfeiekgdfklmaaGreatDoor.Cn
open Go.RowKit Own Trm Km SpX
theorem infoCount : (Tryz.prog.info? 192).map (fun i => (i.zero, i.size, i.bytes)) = some (some (.agg #[.slice none 0 0, .bool false]), 2, 32) := by kernel_rfl
def ceV : List Ce → List Value
  | [] => []
  | e :: es => e.v :: .bool e.b :: ceV es
theorem ceV_len : ∀ es : List Ce, (ceV es).length = es.length * 2
  | [] => rfl
  | e :: es => by simp only [ceV, List.length_cons, ceV_len es]; omega
theorem ceV_append : ∀ (a b : List Ce), ceV (a ++ b) = ceV a ++ ceV b
  | [], _ => rfl
  | e :: a, b => by simp only [List.cons_append, ceV, ceV_append a b]
structure CInv (V w : World) (M : Nat) (me : List MapEntry) (wr : World) : Prop where
  keep : KeepF V wr
  below : Below w.heap.size w wr
  map : ∃ es clock, wr.heap[M]? = some (.map es clock) ∧ es.toList = me
  keys : MetK SpOk V me
  size : V.heap.size ≤ wr.heap.size
theorem CInv.grown {V w : World} {M : Nat} {me : List MapEntry} {wr w' : World} {row : Option Nat} (c : Ctx V w M) (h : CInv V w M me wr) (hg : wr.grownBy w' row) (hr : ∀ b, row = some b → V.heap.size ≤ b) : CInv V w M me w' where
  keep := fun b cs T z e => by
    have hb := heap_lt e
    rw [hg.block b (Nat.lt_of_lt_of_le hb h.size) (fun e2 => by have := hr b e2.symm; omega)]
    exact h.keep b cs T z e
  below := h.below.grown hg h.below.size (fun b hb => Nat.le_trans c.hV (hr b hb))
  map := by
    obtain ⟨es, k, h1, h2⟩ := h.map
    refine ⟨es, k, ?_, h2⟩
    rw [hg.block M (heap_lt h1) (fun e2 => by have := hr M e2.symm; have := c.lt; omega)]
    exact h1
  keys := h.keys
  size := Nat.le_trans h.size hg.size
theorem CInv.alloc {V w : World} {M : Nat} {me : List MapEntry} {wr : World} (c : Ctx V w M) (h : CInv V w M me wr) (o : Obj) : CInv V w M me (wr.alloc o) := h.grown c (World.grownBy_alloc wr o none) (fun b hb => by cases hb)
theorem CInv.belowW {V w : World} {M : Nat} {me : List MapEntry} {wr w' : World} (c : Ctx V w M) (h : CInv V w M me wr) (hb : Below wr.heap.size wr w') : CInv V w M me w' :=
  h.grown (row := none) c ⟨hb.os, hb.tape, hb.output, hb.size, fun k hk _ => hb.block k hk⟩ (fun b hb => by cases hb)
theorem CInv.put {V w : World} {M : Nat} {me : List MapEntry} {wr w' : World} (c : Ctx V w M) (h : CInv V w M me wr) (hg : wr.grownBy w' (some M)) {es' : Array MapEntry} {k' : Nat} {key : Value} (hk : SpOk V key)
    (h3 : w'.heap[M]? = some (.map es' k')) (h5 : ∀ x, x ∈ es'.toList → x.key = key ∨ ∃ y, y ∈ me ∧ y.key = x.key) : CInv V w M es'.toList w' where
  keep := fun b cs T z e => by
    have hb := heap_lt e
    rw [hg.block b (Nat.lt_of_lt_of_le hb h.size) (fun e2 => by obtain ⟨es0, k0, h0⟩ := c.map; simp at e2; rw [e2, h0] at e; simp at e)]
    exact h.keep b cs T z e
  below := h.below.grown hg h.below.size (fun b hb => by cases hb; exact c.hM)
  map := ⟨es', k', h3, rfl⟩
  keys := fun x hx => by
    rcases h5 x hx with e | ⟨y, hy, e⟩
    · rw [e]; exact hk
    · rw [← e]; exact h.keys y hy
  size := Nat.le_trans h.size hg.size
def RelC (V w : World) (M : Nat) (rv : Value) (root : List STree) (n : Nat) (x : Value) (wr : World) : Prop :=
  ∃ (es : List Ce) (me : List MapEntry), Cg V rv root me es ∧ cost es = n ∧ n ≤ 5000000 ∧ wr.ownsRow V.heap.size 192 2 x es.length (ceV es) ∧ CInv V w M me wr ∧ ∀ e, e ∈ es → cntXS e.l ≤ cntXS root
theorem cnt_mem : ∀ {xs : List STree} {x : STree}, x ∈ xs → cntX x ≤ cntXS xs
  | a :: r, x, h => by
    rw [cntXS]
    rcases List.mem_cons.1 h with rfl | h
    · omega
    · have := cnt_mem h; omega
theorem start (w V : World) (xs : List STree) (v : Value) (hz : cntXS xs ≤ 1100000) (h : SListF w v xs) (hV : V = w.alloc (.map #[] 0)) :
    Ctx V w w.heap.size ∧ V.heap.size = w.heap.size + 1 ∧ SListF V v xs ∧ ∃ m, RelC V w w.heap.size v xs m (.slice (some ⟨w.heap.size + 1, 0, none⟩) 1 1) (V.alloc (.cells #[v, .bool false] 192)) := by
  have hn : V.heap.size = w.heap.size + 1 := by rw [hV]; simp
  have bV : Below w.heap.size w V := by rw [hV]; exact (Below.refl _ _).alloc (Nat.le_refl _) _
  have m1 : V.heap[w.heap.size]? = some (.map #[] 0) := by rw [hV]; exact heap_alloc_new _ _
  have cx : Ctx V w w.heap.size := ⟨⟨_, _, m1⟩, Nat.le_refl _, by omega⟩
  have hV2 : SListF V v xs := h.keep (keepF_below bV)
  refine ⟨cx, hn, hV2, _, [⟨v, xs, false⟩], [], Cg.start hV2, rfl, ?_, ?_, ?_, ?_⟩
  · have := kdXL_le xs
    simp [cost, costE]; omega
  · obtain ⟨_, aa, ac, e1, _⟩ := h
    have := World.ownsRow_lit (base := V.heap.size) (size := 2) (e := 192) V #[v, .bool false] 1 (Nat.le_refl _) (by decide) rfl
    rw [hn] at this
    rw [hn]
    exact this
  · exact CInv.alloc cx ⟨fun _ _ _ _ h => h, bV, ⟨#[], 0, m1, rfl⟩, (fun x hx => by cases hx), Nat.le_refl _⟩ _
  · intro e he
    obtain rfl : e = _ := by simpa using he
    exact Nat.le_refl _
theorem two_new (w : World) (o : Obj) (a b c d : Value) (T : TypeId) : ((w.alloc o).alloc (.cells #[a, b, c, d] T)).heap[w.heap.size + 1]? = some (.cells #[a, b, c, d] T (0, 0)) := by
  have := heap_alloc_new (w.alloc o) (.cells #[a, b, c, d] T)
  simpa using this
theorem mark_cells2 (a b : Option Addr) (n c m d : Nat) (x y : Bool) : ∀ u ∈ [Value.slice a n c, Value.bool x, Value.slice b m d, Value.bool y], u.oneCell' = true := by
  intro u hu
  simp at hu
  rcases hu with rfl | rfl | rfl | rfl <;> rfl
theorem kids_cnt {V : World} {g o : Nat} {xs : List STree} (hl : SLiesLF V g o xs) : ∀ i, i ≤ xs.length → ∀ e, e ∈ kidsE V g o xs i → cntXS e.l ≤ cntXS xs
  | 0, _, e, h => by cases h
  | i + 1, hi, e, h => by
    have hlt : i < xs.length := by omega
    obtain ⟨ta, tc, ba, bc, ea, ec, c0, c1, c2, c3, c4, c5, c6, c7, lx⟩ := hl.at i hlt
    rw [kidsE_succ hlt c6 c7] at h
    have hm := cnt_mem (List.getElem_mem hlt)
    rw [cntX_eq] at hm
    rcases List.mem_append.1 h with h | h
    · exact kids_cnt hl i (by omega) e h
    · have h : e = (⟨.slice ba xs[i].body.length bc, xs[i].body, false⟩ : Ce) ∨ e = (⟨.slice ea xs[i].els.length ec, xs[i].els, false⟩ : Ce) := by simpa using h
      rcases h with rfl | rfl <;> simp only <;> omega
theorem len_kd : ∀ l : List STree, 2 * l.length ≤ kdXL l
  | [] => by simp [kdXL]
  | x :: r => by rw [kdXL, List.length_cons, kdX_eq]; have := len_kd r; omega
theorem mark_cells (a : Option Addr) (n c : Nat) (b : Bool) : ∀ u ∈ [Value.slice a n c, Value.bool b], u.oneCell' = true := by
  intro u hu
  simp at hu
  rcases hu with rfl | rfl <;> rfl
set_option maxRecDepth 20000 in
set_option maxHeartbeats 3200000 in
theorem implCount_any (xs : List STree) (v : Value) (w : World) (hz : cntXS xs ≤ 1100000) (h : SListF w v xs) :
    Calls Tryz.prog 140 #[v] w fun e w' => e = .returned (.int .i64 (cntXS xs : Int)) ∧ Below w.heap.size w w' := by
  obtain ⟨i0, hi, hz0, hz1, hz2⟩ := info_parts infoCount
  obtain ⟨V, hV⟩ : ∃ V, V = w.alloc (.map #[] 0) := ⟨_, rfl⟩
  obtain ⟨cx, hVs, hl, m0, hst⟩ := start w V xs v hz h hV
  have CX := Lib.hid cx
  have HV := Lib.hid hV
  have HVs := Lib.hid hVs
  have HST := Lib.hid hst
  have HL := Lib.hid hl
  have HCZ := Lib.hid hz
  obtain ⟨_, aa, ac, rfl, _⟩ := h
  have hmm := @run_makeMap Tryz.prog
  clear hz hV hVs hst cx hl
  go_enter Tryz.func140, Tryz.ntmps140
  go_wp2
  go_loopw [4] (fun x wr => ∃ n, RelC V w w.heap.size (.slice aa xs.length ac) xs n x wr) (fun x wr => Lg.leastN fun n => RelC V w w.heap.size (.slice aa xs.length ac) xs n x wr)
  case atStart => rw [← HV.out]; exact ⟨m0, HST.out⟩
  case round =>
    have hR := Lg.leastN_at hrel
    obtain ⟨n0, hn0⟩ : ∃ n0, n0 = Lg.leastN fun n => RelC V w w.heap.size (.slice aa xs.length ac) xs n u4 wr := ⟨_, rfl⟩
    rw [← hn0] at hR
    have HN0 := Lib.hid hn0
    obtain ⟨es, me, hcg, hwt, hnb, hrow, hci, hcl⟩ := hR
    have HNBD := Lib.hid hnb
    have HCI := Lib.hid hci
    have HCL := Lib.hid hcl
    obtain ⟨oa, oc, rfl, hoa⟩ := row_shape hrow
    by_cases hes : es = []
    · subst hes
      have HD : Hid (lookK me (spV (spotA (.slice aa xs.length ac)) xs.length) = some (.int .i64 (cntXS xs : Int))) := hcg.yes
      have HMK : Hid (MetK SpOk V me) := hci.keys
      obtain ⟨mes, mck, hm1, rfl⟩ := hci.map
      have HM1 := Lib.hid hm1
      have C := Lib.hid (fun w2 => implSpot_any aa xs.length ac HL.out.1 (fun h => by obtain ⟨_, _, _, e, hq⟩ := HL.out; simp at e; obtain ⟨rfl, _⟩ := e; obtain ⟨g, o, e, _⟩ := hq h; exact ⟨g, o, e⟩) w2)
      clear hrel hn0 hcg hwt hnb hrow hci hcl hoa hm1
      simp only [List.length_nil]
      go_wp2_with fail
      refine (C.out _).mono ?_
      rintro e w1 ⟨rfl, hb⟩
      have hm : w1.heap[w.heap.size]? = some (.map mes mck) := by rw [hb.block _ (heap_lt HM1.out)]; exact HM1.out
      have kf := KeepF.below HCI.out.keep hb
      have hrun := (run_look spot_key Tryz.underlying190 (z := .int .i64 0) (fun w => by kernel_rfl) hm (fun x hx => SpOk.keep kf (HMK.out x hx)) (SpOk.keep kf (spot_ok HL.out))).1
      unfold keyV at hrun
      rw [HD.out] at hrun
      simp only [Option.getD_some] at hrun
      have HB := Lib.hid (HCI.out.below.trans (hb.mono HCI.out.below.size))
      clear hb hm kf
      unfold spV at hrun ⊢
      go_wp2
      go_ret
      exact ⟨rfl, HB.out⟩
    · obtain ⟨A, ⟨lv, l, b⟩, rfl⟩ := last_of es hes
      obtain ⟨g, rfl⟩ := hoa (by simp)
      have hK : A.length ≤ 5000000 := by
        have := cost_len (A ++ [(⟨lv, l, b⟩ : Ce)])
        simp at this
        omega
      rw [List.length_append, List.length_singleton, ceV_append] at hrow
      have hcap : A.length ≤ oc := by have := row_cap hrow; omega
      have c0 : wr.cell? ⟨g, A.length * 2, none⟩ = some lv := by
        rw [hrow.cellAt (A.length * 2) (by omega)]; simp [ceV, ceV_len]
      have c1 : wr.cell? ⟨g, A.length * 2 + 1, none⟩ = some (.bool b) := by
        rw [hrow.cellAt (A.length * 2 + 1) (by omega), List.getElem?_append_right (by rw [ceV_len]; omega), ceV_len]; simp [ceV]
      have okE : SListF V lv l := hcg.ok ⟨lv, l, b⟩ (by simp)
      have HOE := Lib.hid okE
      have hcnt : cntXS l ≤ cntXS xs := hcl ⟨lv, l, b⟩ (by simp)
      have HCNT := Lib.hid hcnt
      obtain ⟨ll, la, lc, rfl, laf⟩ := okE
      have HPRE := Lib.hid (row_prefix (n := A.length) (n' := 1) (xs := ceV A) hrow (ceV_len A) (by omega))
      have HCG := Lib.hid hcg
      have HWT : Hid (n0 = cost A + costE ⟨.slice la l.length lc, l, b⟩) := by show _ = _; rw [← hwt, cost_append]; simp [cost]
      have HLF := Lib.hid laf
      have CS := Lib.hid (fun w2 => implSpot_any la l.length lc ll (fun h => by obtain ⟨g, o, e, _⟩ := HLF.out h; exact ⟨g, o, e⟩) w2)
      clear hrel hn0 hcg hwt hnb hrow hci hcl hes laf hcnt
      simp only [List.length_append, List.length_singleton]
      clear hmm
      have HI := Lib.hid hi
      have HZ0 := Lib.hid hz0
      have HZ1 := Lib.hid hz1
      have HZ2 := Lib.hid hz2
      clear hi hz0 hz1 hz2
      obtain ⟨K, hKe⟩ : ∃ K, K = A.length := ⟨_, rfl⟩
      have HK := Lib.hid hKe
      rw [← hKe] at hK c0 c1 hcap ⊢
      clear hKe
      obtain ⟨W1, hW1⟩ : ∃ W1, W1 = wr.alloc (.cells #[.slice la l.length lc, .bool b] 192) := ⟨_, rfl⟩
      have I1 : Hid (CInv V w w.heap.size me W1) := by show CInv _ _ _ _ _; rw [hW1]; exact HCI.out.alloc CX.out _
      have R1 : Hid (W1.ownsRow V.heap.size 192 2 (.slice (some ⟨g, 0, none⟩) K oc) K (ceV A)) := by show World.ownsRow _ _ _ _ _ _ _; rw [hW1, HK.out]; exact HPRE.out.alloc _
      have b0 : W1.cell? ⟨wr.heap.size, 0, none⟩ = some (.slice la l.length lc) := by rw [hW1]; simp [go_sem]
      have b1 : W1.cell? ⟨wr.heap.size, 1, none⟩ = some (.bool b) := by rw [hW1]; simp [go_sem]
      have HW1 := Lib.hid hW1
      obtain ⟨B, hB⟩ : ∃ B, B = wr.heap.size := ⟨_, rfl⟩
      have HB := Lib.hid hB
      rw [← hB] at b0 b1
      have BB := Lib.hid (And.intro b0 b1)
      clear hW1 hB b0 b1
      go_wp2_with fail
      rw [← HW1.out, ← HB.out]
      refine (CS.out _).mono ?_
      rintro e w2 ⟨rfl, hb2⟩
      obtain ⟨W3, hW3⟩ : ∃ W3, W3 = w2.alloc (.cells #[.pointer (spotA (.slice la l.length lc)), .int .i64 (l.length : Int)] 196) := ⟨_, rfl⟩
      have hb3 : Below W1.heap.size W1 W3 := by rw [hW3]; exact hb2.alloc hb2.size _
      have I3 := Lib.hid (I1.out.belowW CX.out hb3)
      have R3 := Lib.hid (row_below R1.out hb3)
      have X3 : Hid (W3.cell? ⟨B, 0, none⟩ = some (.slice la l.length lc) ∧ W3.cell? ⟨B, 1, none⟩ = some (.bool b)) := ⟨keeps_below hb3 _ _ BB.out.1, keeps_below hb3 _ _ BB.out.2⟩
      have s0 : W3.cell? ⟨w2.heap.size, 0, none⟩ = some (.pointer (spotA (.slice la l.length lc))) := by rw [hW3]; simp [go_sem]
      have s1 : W3.cell? ⟨w2.heap.size, 1, none⟩ = some (.int .i64 (l.length : Int)) := by rw [hW3]; simp [go_sem]
      have HW3 := Lib.hid hW3
      obtain ⟨S, hS⟩ : ∃ S, S = w2.heap.size := ⟨_, rfl⟩
      have HS := Lib.hid hS
      rw [← hS] at s0 s1
      have SS := Lib.hid (And.intro s0 s1)
      obtain ⟨x0, x1⟩ := X3.out
      rw [HW3.out] at x0 x1
      unfold spV
      have HKE : Hid (SpOk V (keyV (.slice la l.length lc) l)) := spot_ok HOE.out
      obtain ⟨mes, mck, hm1, hme⟩ := I3.out.map
      have HM1 := Lib.hid hm1
      have HME := Lib.hid hme
      have hkk := SpOk.keep I3.out.keep HKE.out
      have hmk : MetK SpOk W3 mes.toList := fun x hx => SpOk.keep I3.out.keep (I3.out.keys x (by rw [← HME.out]; exact hx))
      have hrun := (run_look spot_key Tryz.underlying190 (z := .int .i64 0) (fun w => by kernel_rfl) hm1 hmk hkk).2
      clear hW3 hS hb2 hb3 hm1 hme
      cases b with
      | true =>
        clear hrun hkk hmk
        have hkids := HCG.out.kids rfl
        rw [← HME.out] at hkids
        have CB : Hid (∀ wx, Below W3.heap.size W3 wx → Calls Tryz.prog 173 #[.map (some w.heap.size), .slice la l.length lc] wx fun e w' => e = .returned (.int .i64 (cntXS l : Int)) ∧ Below W3.heap.size W3 w' ∧ ∃ w5 es5 ck5, (Instr.mapUpdate 190 (.map (some w.heap.size)) (.agg #[.pointer (spotA (.slice la l.length lc)), .int .i64 (l.length : Int)]) (.int .i64 (cntXS l : Int))).run Tryz.prog w' = .ok () w5 ∧ w5.heap[w.heap.size]? = some (.map es5 ck5) ∧ (∀ k', lookK es5.toList k' = @ite _ (keyV (.slice la l.length lc) l = k') (Classical.propDecidable _) (some (Value.int .i64 (cntXS l : Int))) (lookK mes.toList k')) ∧ (∀ x, x ∈ es5.toList → x.key = keyV (.slice la l.length lc) l ∨ ∃ y, y ∈ mes.toList ∧ y.key = x.key) ∧ w'.grownBy w5 (some w.heap.size)) := fun wx hb => by
          have hm : wx.heap[w.heap.size]? = some (.map mes mck) := by rw [hb.block _ (heap_lt HM1.out)]; exact HM1.out
          refine (implCountBy_any V wx w.heap.size l _ (KeepF.below I3.out.keep hb) HOE.out (by have := HCNT.out; have := HCZ.out; omega) mes mck hm (fun x hx => I3.out.keys x (by rw [← HME.out]; exact hx)) hkids).mono ?_
          rintro e w' ⟨rfl, hb'⟩
          have hbb := hb.trans (hb'.mono hb.size)
          have kf := KeepF.below I3.out.keep hbb
          have hm' : w'.heap[w.heap.size]? = some (.map mes mck) := by rw [hbb.block _ (heap_lt HM1.out)]; exact HM1.out
          obtain ⟨w5, es5, ck5, hr, h3, h4, h5, h6⟩ := run_put spot_key Tryz.underlying190 (.int .i64 (cntXS l : Int)) hm' (fun x hx => SpOk.keep kf (I3.out.keys x (by rw [← HME.out]; exact hx))) (SpOk.keep kf HKE.out)
          exact ⟨rfl, hbb, w5, es5, ck5, hr, h3, h4, h5, h6⟩
        clear hkids
        have hb0 : Below W3.heap.size W3 W3.drew := (Below.refl _ _).drew
        have KS : Hid (∀ wx, Below W3.heap.size W3 wx → wx.cell? ⟨B, 0, none⟩ = some (.slice la l.length lc) ∧ wx.cell? ⟨S, 0, none⟩ = some (.pointer (spotA (.slice la l.length lc))) ∧ wx.cell? ⟨S, 1, none⟩ = some (.int .i64 (l.length : Int))) := fun wx hb => ⟨keeps_below hb _ _ X3.out.1, keeps_below hb _ _ SS.out.1, keeps_below hb _ _ SS.out.2⟩
        have KP : Hid (∀ wx w5, Below W3.heap.size W3 wx → wx.grownBy w5 (some w.heap.size) → w5.cell? ⟨B, 0, none⟩ = some (.slice la l.length lc) ∧ w5.cell? ⟨S, 0, none⟩ = some (.pointer (spotA (.slice la l.length lc))) ∧ w5.cell? ⟨S, 1, none⟩ = some (.int .i64 (l.length : Int))) := fun wx w5 hb hg => by
          have hm : wx.heap[w.heap.size]? = some (.map mes mck) := by rw [hb.block _ (heap_lt HM1.out)]; exact HM1.out
          obtain ⟨k0, k1, k2⟩ := KS.out wx hb
          exact ⟨cell_grown k0 hg (fun e => cell_noMap k0 hm (by cases e; rfl)), cell_grown k1 hg (fun e => cell_noMap k1 hm (by cases e; rfl)), cell_grown k2 hg (fun e => cell_noMap k2 hm (by cases e; rfl))⟩
        clear s0 s1
        go_wp2_with fail
        rw [← HW3.out, ← HS.out]
        go_cut [34] (fun s34 wx => ∃ (w' : World) (es5 : Array MapEntry) (ck5 : Nat), Below W3.heap.size W3 w' ∧ wx.heap[w.heap.size]? = some (.map es5 ck5) ∧ (∀ k', lookK es5.toList k' = @ite _ (keyV (.slice la l.length lc) l = k') (Classical.propDecidable _) (some (Value.int .i64 (cntXS l : Int))) (lookK mes.toList k')) ∧ (∀ x, x ∈ es5.toList → x.key = keyV (.slice la l.length lc) l ∨ ∃ y, y ∈ mes.toList ∧ y.key = x.key) ∧ w'.grownBy wx (some w.heap.size))
        case first =>
          go_region_held3 (fun wx => wx.cell? ⟨B, 0, none⟩ = some (.slice la l.length lc) ∧ wx.cell? ⟨S, 0, none⟩ = some (.pointer (spotA (.slice la l.length lc))) ∧ wx.cell? ⟨S, 1, none⟩ = some (.int .i64 (l.length : Int)))
            (first | exact KS.out _ (by assumption) | exact KP.out _ _ (by assumption) (by assumption))
            (first
            | (go_at_call 173; (with_reducible refine (CB.out _ (by assumption)).mono ?_); rintro e w4 ⟨rfl, hb4, w5, es5, ck5, hrun5, h3, h4, h5, h6⟩))
          all_goals
            go_wp2_with fail
            go_meet
            exact ⟨w4, es5, ck5, hb4, h3, h4, h5, h6⟩
        case rest =>
          obtain ⟨w4, es5, ck5, hb4, h3, h4, h5, h6⟩ := hcut
          have I4 := Lib.hid (I3.out.belowW CX.out hb4)
          have I5 : Hid (CInv V w w.heap.size es5.toList wc) := CInv.put CX.out I4.out h6 HKE.out h3 (fun x hx => by rw [← HME.out]; exact h5 x hx)
          have R5 : Hid (wc.ownsRow V.heap.size 192 2 (.slice (some ⟨g, 0, none⟩) K oc) K (ceV A)) := by
            have R4 := row_below R3.out hb4
            exact row_same R4 fun q hq => h6.block q (R4.lt q hq).2 (fun e => by cases e; have := (R4.lt _ hq).1; have := CX.out.lt; omega)
          have CG5 : Hid (Cg V (.slice aa xs.length ac) xs es5.toList A) := HCG.out.close HL.out (fun k' => by rw [← HME.out]; exact h4 k') (fun e he => kid_ok (HCG.out.ok e (by simp [he])))
          have CL5 : Hid (∀ e, e ∈ A → cntXS e.l ≤ cntXS xs) := fun e he => HCL.out e (by simp [he])
          clear hb4 h3 h4 h5 h6 x0 x1
          go_wp2
          go_roundw
          case rel => exact ⟨_, A, es5.toList, CG5.out, rfl, by have := HWT.out; have := HNBD.out; omega, by have := R5.out; rw [HK.out] at this; rw [HK.out]; exact this, I5.out, CL5.out⟩
          case measure =>
            have h1 := HN0.out
            have h2 := HWT.out
            simp only [costE, if_true] at h2
            simp only [List.length_append, List.length_singleton, ← HK.out] at h1
            refine Nat.lt_of_le_of_lt (Lg.leastN_le ⟨A, es5.toList, CG5.out, rfl, by have := HNBD.out; omega, by have := R5.out; rw [HK.out] at this; rw [HK.out]; exact this, I5.out, CL5.out⟩) (by rw [← h1]; omega)
      | false =>
        obtain ⟨w5, es5, ck5, hrun5, m5, l5, k5, g5⟩ := run_put spot_key Tryz.underlying190 (.int .i64 9223372036854775807) HM1.out hmk hkk
        have CL5 : Hid (∀ e, e ∈ A → cntXS e.l ≤ cntXS xs) := fun e he => HCL.out e (by simp [he])
        clear hmk hkk
        cases hlk : lookK mes.toList (keyV (.slice la l.length lc) l) with
        | some u =>
          have HD := Lib.hid (HCG.out.met rfl (v := u) (by rw [← HME.out]; exact hlk))
          have CG5 := Lib.hid (HCG.out.skip rfl HD.out)
          rw [hlk] at hrun
          simp only [Option.getD_some, Option.isSome_some] at hrun
          rw [HW3.out] at hrun
          unfold keyV spV at hrun
          clear hlk hrun5 m5 l5 k5 g5 s0 s1
          go_wp2_with fail
          rw [← HW3.out]
          go_wp2
          go_roundw
          case rel => exact ⟨_, A, me, CG5.out, rfl, by have := HWT.out; have := HNBD.out; omega, by have := R3.out; rw [HK.out] at this; rw [HK.out]; exact this, I3.out, CL5.out⟩
          case measure =>
            have h1 := HN0.out
            have h2 := HWT.out
            simp only [costE] at h2
            simp only [List.length_append, List.length_singleton, ← HK.out] at h1
            refine Nat.lt_of_le_of_lt (Lg.leastN_le ⟨A, me, CG5.out, rfl, by have := HNBD.out; omega, by have := R3.out; rw [HK.out] at this; rw [HK.out]; exact this, I3.out, CL5.out⟩) (by rw [← h1]; simp at h2; omega)
        | none =>
          have HPK := Lib.hid (And.intro m5 (And.intro l5 (And.intro k5 g5)))
          have I5 : Hid (CInv V w w.heap.size es5.toList w5) := CInv.put CX.out I3.out g5 HKE.out m5 (fun x hx => by rw [← HME.out]; exact k5 x hx)
          have R5 : Hid (w5.ownsRow V.heap.size 192 2 (.slice (some ⟨g, 0, none⟩) K oc) K (ceV A)) := row_same R3.out fun q hq => g5.block q (R3.out.lt q hq).2 (fun e => by cases e; have := (R3.out.lt _ hq).1; have := CX.out.lt; omega)
          have X5 : Hid (w5.cell? ⟨B, 0, none⟩ = some (.slice la l.length lc)) := cell_grown X3.out.1 g5 (fun e => cell_noMap X3.out.1 HM1.out (by cases e; rfl))
          obtain ⟨go, oo, hgo⟩ : ∃ go oo, (0 < l.length → la = some ⟨go, oo, none⟩ ∧ FreeB V go) ∧ SLiesLF V go oo l := by
            rcases Nat.eq_zero_or_pos l.length with h0 | h0
            · rw [List.length_eq_zero_iff.1 h0]
              exact ⟨0, 0, (fun h => absurd h (by simp)), trivial⟩
            · obtain ⟨go, oo, e, f, hl⟩ := HLF.out h0
              exact ⟨go, oo, fun _ => ⟨e, f⟩, hl⟩
          have HGO := Lib.hid hgo
          have KA := Lib.hid (kidsE_at hgo.2 l.length (Nat.le_refl _))
          have CG5 : Hid (Cg V (.slice aa xs.length ac) xs es5.toList (A ++ [⟨.slice la l.length lc, l, true⟩] ++ kidsE V go oo l l.length)) :=
            HCG.out.opened (by rw [← HME.out]; exact hlk) (fun k' => by rw [← HME.out]; exact l5 k') KA.out.1 (fun i j mv m hk => by
              obtain ⟨g', o', n', c', hi', e, hcell, hj⟩ := hk
              have h1 := (HGO.out.1 (by omega)).1
              simp at e
              rw [h1] at e
              simp at e
              obtain ⟨⟨rfl, rfl⟩, _⟩ := e
              obtain ⟨f, hf, e1, e2⟩ := KA.out.2.2 i n' c' j mv m hi' ⟨_, _, n', c', hi', rfl, hcell, hj⟩
              exact ⟨f, hf, by rw [e1], e2⟩)
          have HLEN : Hid (2 * l.length ≤ kdXL l ∧ kdXL l ≤ 2200000) := ⟨len_kd l, by have := kdXL_le l; have := HCNT.out; have := HCZ.out; omega⟩
          have hK2 : A.length ≤ 5000000 := by have := HK.out; omega
          rw [hlk] at hrun
          simp only [Option.getD_none, Option.isSome_none] at hrun
          rw [HW3.out] at hrun hrun5
          unfold keyV spV at hrun hrun5
          clear hlk m5 l5 k5 g5 s0 s1 hgo
          have x5 := X5.out
          have hVs5 : V.heap.size ≤ w5.heap.size := I5.out.size
          go_wp2_with (at_builtin; refine wpList_append_lies _ rfl (.tmp 49) (.tmp 53) 193 rfl V.heap.size 192 i0 (.agg #[.slice none 0 0, .bool false]) 2 32 Tryz.underlying193 HI.out HZ0.out HZ1.out HZ2.out rfl (by decide) (.slice (some ⟨g, 0, none⟩) K oc) K _ rfl (R5.out.alloc _) ⟨w5.heap.size, 0, none⟩ 1 1 [.slice la l.length lc, .bool true] rfl rfl (World.news_of_block (heap_alloc_new _ _)) (mark_cells _ _ _ _) (by decide) (by unfold maxLen; omega) (by omega) (by simp; omega) _ rfl ?_)
          intro g6 cap6 w6 hown6 hg6 hat6 hlt6
          have I6 := Lib.hid ((I5.out.alloc CX.out _).grown CX.out hg6 (fun b hb => (R5.out.lt b hb).1))
          have hgB : g ≠ B := fun e => by have := (HPRE.out.lt g rfl).2; have := HB.out; omega
          have x6 : w6.cell? ⟨B, 0, none⟩ = some (.slice la l.length lc) := cell_grown (keeps_alloc _ _ _ _ X5.out) hg6 (fun e => hgB (by simpa [Value.ownBlock] using e.symm))
          have R6 : Hid (w6.ownsRow V.heap.size 192 2 (.slice (some ⟨g6, 0, none⟩) (K + 1) cap6) (A ++ [(⟨.slice la l.length lc, l, true⟩ : Ce)] ++ kidsE V go oo l 0).length (ceV (A ++ [(⟨.slice la l.length lc, l, true⟩ : Ce)] ++ kidsE V go oo l 0))) := by
            show World.ownsRow _ _ _ _ _ _ _
            rw [show kidsE V go oo l 0 = [] from rfl, List.append_nil, List.length_append, ceV_append, ← HK.out]
            exact hown6
          clear hown6 hg6 hat6 hlt6 hrun hrun5 x0 x1 x5
          go_wp2
          go_loopw [4, 58] (fun x i wy => ∃ j : Nat, j ≤ l.length ∧ i = .int .i64 j ∧ Hid (wy.ownsRow V.heap.size 192 2 x (A ++ [(⟨.slice la l.length lc, l, true⟩ : Ce)] ++ kidsE V go oo l j).length (ceV (A ++ [(⟨.slice la l.length lc, l, true⟩ : Ce)] ++ kidsE V go oo l j))) ∧ Hid (CInv V w w.heap.size es5.toList wy))
            (fun _ i _ => l.length - (intOf i).toNat)
          case atStart => exact ⟨0, Nat.zero_le _, rfl, R6.out, I6.out⟩
          case round =>
            obtain ⟨j, hj, rfl, hrj, hij⟩ := hrel
            by_cases hlt : j < l.length
            · obtain ⟨rfl, f1⟩ := HGO.out.1 (by omega)
              obtain ⟨ta, tc, ba, bc, ea, ec, p0, p1, p2, p3, p4, p5, p6, p7, lx⟩ := HGO.out.2.at j hlt
              have HKS := Lib.hid (kidsE_succ hlt p6 p7)
              rw [← f1.cell hij.out.keep] at p0 p1 p2 p3 p4 p5 p6 p7
              have hle : (A ++ [(⟨.slice (some ⟨go, oo, none⟩) l.length lc, l, true⟩ : Ce)] ++ kidsE V go oo l j).length ≤ 8000000 := by
                rw [List.length_append, List.length_append, kidsE_len]
                have := HLEN.out
                simp
                omega
              have HNN : Hid ((A ++ [(⟨.slice (some ⟨go, oo, none⟩) l.length lc, l, true⟩ : Ce)] ++ kidsE V go oo l (j + 1)).length = (A ++ [(⟨.slice (some ⟨go, oo, none⟩) l.length lc, l, true⟩ : Ce)] ++ kidsE V go oo l j).length + 2) := by
                show _ = _
                rw [List.length_append, List.length_append, List.length_append, List.length_append, kidsE_len, kidsE_len]
                omega
              have HVV : Hid (ceV (A ++ [(⟨.slice (some ⟨go, oo, none⟩) l.length lc, l, true⟩ : Ce)] ++ kidsE V go oo l (j + 1)) = ceV (A ++ [(⟨.slice (some ⟨go, oo, none⟩) l.length lc, l, true⟩ : Ce)] ++ kidsE V go oo l j) ++ [.slice ba l[j].body.length bc, .bool false, .slice ea l[j].els.length ec, .bool false]) := by
                show _ = _
                rw [HKS.out, ← List.append_assoc, ceV_append (_ ++ kidsE V go oo l j)]
                rfl
              generalize hN : (A ++ [(⟨.slice (some ⟨go, oo, none⟩) l.length lc, l, true⟩ : Ce)] ++ kidsE V go oo l j).length = N at hrj hle HNN
              generalize hC : ceV (A ++ [(⟨.slice (some ⟨go, oo, none⟩) l.length lc, l, true⟩ : Ce)] ++ kidsE V go oo l j) = cs at hrj HVV
              have hVs7 : V.heap.size ≤ wr.heap.size := hij.out.size
              clear hN hC lx f1 x6
              go_wp2_with (at_builtin; refine wpList_append_lies _ rfl (.tmp 62) (.tmp 69) 193 rfl V.heap.size 192 i0 (.agg #[.slice none 0 0, .bool false]) 2 32 Tryz.underlying193 HI.out HZ0.out HZ1.out HZ2.out rfl (by decide) u4 N _ rfl ((hrj.out.alloc _).alloc _) ⟨wr.heap.size + 1, 0, none⟩ 2 2 [.slice ba l[j].body.length bc, .bool false, .slice ea l[j].els.length ec, .bool false] rfl rfl (World.news_of_block (two_new _ _ _ _ _ _ _)) (mark_cells2 _ _ _ _ _ _ _ _) (by decide) (by unfold maxLen; omega) (by omega) (by simp; omega) _ rfl ?_)
              intro g7 cap7 w7 hown7 hg7 hat7 hlt7
              have I7 := Lib.hid (((hij.out.alloc CX.out _).alloc CX.out _).grown CX.out hg7 (fun b hb => (hrj.out.lt b hb).1))
              have R7 : Hid (w7.ownsRow V.heap.size 192 2 (.slice (some ⟨g7, 0, none⟩) (N + 2) cap7) (A ++ [(⟨.slice (some ⟨go, oo, none⟩) l.length lc, l, true⟩ : Ce)] ++ kidsE V go oo l (j + 1)).length (ceV (A ++ [(⟨.slice (some ⟨go, oo, none⟩) l.length lc, l, true⟩ : Ce)] ++ kidsE V go oo l (j + 1)))) := by
                show World.ownsRow _ _ _ _ _ _ _
                rw [HNN.out, HVV.out]
                exact hown7
              clear hown7 hg7 hat7 hlt7 p0 p1 p2 p3 p4 p5 p6 p7
              go_wp2
              go_roundw
              case rel => exact ⟨j + 1, by omega, by go_num, R7.out, I7.out⟩
              case measure => simp [intOf]; omega
            · obtain rfl : j = l.length := by omega
              have CL8 : Hid (∀ e, e ∈ A ++ [(⟨.slice la l.length lc, l, true⟩ : Ce)] ++ kidsE V go oo l l.length → cntXS e.l ≤ cntXS xs) := fun e he => by
                rcases List.mem_append.1 he with h | h
                · rcases List.mem_append.1 h with h | h
                  · exact CL5.out e h
                  · obtain rfl : e = _ := by simpa using h
                    exact HCNT.out
                · exact Nat.le_trans (kids_cnt HGO.out.2 l.length (Nat.le_refl _) e h) HCNT.out
              have HCO : Hid (cost (A ++ [(⟨.slice la l.length lc, l, true⟩ : Ce)] ++ kidsE V go oo l l.length) + 1 = n0) := by
                show _ = _
                rw [cost_append, cost_append, KA.out.2.1, List.take_length]
                have := HWT.out
                simp [cost, costE] at this ⊢
                omega
              clear x6
              go_wp2
              go_roundw
              case rel => exact ⟨_, _, es5.toList, CG5.out, rfl, by have := HCO.out; have := HNBD.out; omega, hrj.out, hij.out, CL8.out⟩
              case measure =>
                have h1 := HN0.out
                simp only [List.length_append, List.length_singleton, ← HK.out] at h1
                refine Nat.lt_of_le_of_lt (Lg.leastN_le ⟨_, es5.toList, CG5.out, rfl, by have := HCO.out; have := HNBD.out; omega, hrj.out, hij.out, CL8.out⟩) (by rw [← h1]; have := HCO.out; omega)
end Go.Proofs.YtkfeiekgdfklmaaGreatDoor.Cn
