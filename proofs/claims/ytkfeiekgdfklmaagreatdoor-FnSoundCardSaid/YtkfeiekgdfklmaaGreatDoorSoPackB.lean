/- The model's UnknownIn, walked. Conditions: the program lies in memory; it has at most 2 to the 20 names and statements. With what it stands on, in one text. -/
import Derived.Test.YtkfeiekgdfklmaaGreatDoorTrees
import Derived.Test.YtkfeiekgdfklmaaGreatDoorStrCells
import Derived.Lib.AppendStr
import Derived.Deep.AppendLies
import Derived.WalkKit
import Derived.Test.YtkfeiekgdfklmaaGreatDoorChecked
import Derived.Test.YtkfeiekgdfklmaaGreatDoorTermRight
import Derived.Test.YtkfeiekgdfklmaaGreatDoorTermSize
import Derived.Test.YtkfeiekgdfklmaaGreatDoorTermSame
import Derived.Deep.RegionWith
import Derived.BigQuiet
import Derived.OwnWalk
import Derived.WalkSmall
import Derived.Outline
import Derived.Test.YtkfeiekgdfklmaaGreatDoorPTrees
import Derived.Test.YtkfeiekgdfklmaaGreatDoorPOwn
import Derived.Deep.DeepCutAuto
import Derived.Deep.CutBlock
import Derived.Test.YtkfeiekgdfklmaaGreatDoorPOkSpec
/- How a row that is owned goes on, and a text appended to a row of bytes: where the new row lies. Without conditions beyond those of the law that it rests on. -/
namespace Go.Proofs.YtkfeiekgdfklmaaGreatDoor.Trm
open Go.RowKit Own
/-- How a list that is owned goes on: what else there was is as it was; the list lies where it lay, or in new memory. -/
def Moves (w : World) (v : Value) (w' : World) (v' : Value) : Prop := w.grownBy w' v.ownBlock ∧ (v'.ownBlock = v.ownBlock ∨ ∀ k, v'.ownBlock = some k → w.heap.size ≤ k)
theorem Moves.refl (w : World) (v : Value) : Moves w v w v := ⟨World.grownBy.refl _ _, .inl rfl⟩
theorem Moves.trans {a b c : World} {u v x : Value} (h : Moves a u b v) (k : Moves b v c x) : Moves a u c x := by
  refine ⟨⟨k.1.os.trans h.1.os, k.1.tape.trans h.1.tape, k.1.output.trans h.1.output, Nat.le_trans h.1.size k.1.size, fun i hi hn => ?_⟩, ?_⟩
  · refine (k.1.block i (Nat.lt_of_lt_of_le hi h.1.size) (fun e => ?_)).trans (h.1.block i hi hn)
    rcases h.2 with h2 | h2
    · exact hn (e.trans h2)
    · have := h2 i e.symm; omega
  · rcases k.2 with k2 | k2
    · rcases h.2 with h2 | h2
      · exact .inl (k2.trans h2)
      · exact .inr fun j hj => h2 j (k2 ▸ hj)
    · exact .inr fun j hj => Nat.le_trans h.1.size (k2 j hj)
theorem Moves.drewN {w w' : World} {v v' : Value} (h : Moves w v w' v') (m : Nat) : Moves w v (w'.drewN m) v' := ⟨⟨h.1.os, h.1.tape, h.1.output, h.1.size, h.1.block⟩, h.2⟩
theorem Moves.drew {w w' : World} {v v' : Value} (h : Moves w v w' v') : Moves w v w'.drew v' := ⟨⟨h.1.os, h.1.tape, h.1.output, h.1.size, h.1.block⟩, h.2⟩
theorem Moves.alloc (w : World) (o : Obj) (v : Value) : Moves w v (w.alloc o) v := ⟨World.grownBy_alloc _ _ _, .inl rfl⟩
/-- Blocks of another kind stay. -/
theorem Moves.blk {w w' : World} {v v' : Value} {g : Nat} {o : Obj} (h : Moves w v w' v') (hg : w.heap[g]? = some o) (hn : v.ownBlock ≠ some g) : w'.heap[g]? = some o ∧ v'.ownBlock ≠ some g := by
  have hlt : g < w.heap.size := by
    rcases Nat.lt_or_ge g w.heap.size with h' | h'
    · exact h'
    · rw [Array.getElem?_eq_none h'] at hg; cases hg
  refine ⟨(h.1.block g hlt (fun e => hn e.symm)).trans hg, fun e => ?_⟩
  rcases h.2 with h2 | h2
  · exact hn (h2 ▸ e)
  · have := h2 g e; omega
theorem Moves.below {w0 w w' : World} {v v' : Value} {e : TypeId} {size n : Nat} {xs : List Value} (h : Moves w v w' v') (hb : Below w0.heap.size w0 w) (hr : w.ownsRow w0.heap.size e size v n xs) : Below w0.heap.size w0 w' :=
  hb.grown h.1 hb.size (fun k hk => (hr.lt k hk).1)
theorem row_not {w : World} {base : Nat} {e : TypeId} {size n : Nat} {v : Value} {xs : List Value} (h : w.ownsRow base e size v n xs) : v.ownBlock ≠ some w.heap.size := fun e1 => by have := (h.lt _ e1).2; omega
section
variable {P : Program}
/-- A text appended: where the new row lies. -/
theorem run_append_str (w : World) (base : Nat) (t u ty e : TypeId) (i : TypeInfo) (ht : P.underlying t = some (.slice e)) (hu : P.underlying u = some .string) (hi : P.info? e = some i) (hz : i.zero = some (.int .u8 0))
    (hsize : i.size = 1) (hby : i.bytes = 1) (v : Value) (n : Nat) (xs : List Value) (hown : w.ownsRow base e 1 v n xs) (s : ByteArray)
    (h63 : n + s.size ≤ maxLen) (hbytes : n + s.size ≤ 140737488355328) (hbase : base ≤ w.heap.size) :
    ∃ v' w', (Builtin.append_ #[t, u] ty #[v, .string s]).run P w = .ok v' w' ∧ w'.ownsRow base e 1 v' (n + s.size) (xs ++ Lib.strCells s) ∧ Moves w v w' v' := by
  obtain ⟨v', w', hr, h2, h3, h4⟩ := Lib.run_append_own_string (P := P) w base t u ty e i ht hu hi hz hsize hby v n xs hown s h63 hbytes hbase
  refine ⟨v', w', hr, h2, h3, ?_⟩
  have hsmall : n + s.size ≤ 9223372036854775807 := by simp only [maxLen] at h63; omega
  have hxl : xs.length = n := by simpa using hown.1
  rcases hown.2 with ⟨rfl, rfl⟩ | ⟨g, cap, cur, rfl, hbg, hg, hnc, hcm, hcs, htake⟩
  · by_cases hm : s.size = 0
    · left
      rw [h4.2 ⟨rfl, hm⟩]
    · right
      have hr' := run_append_nil_string (P := P) w t u ty e i (.int .u8 0) ht hu hi hz s (by omega) (by omega) (by rw [hby]; omega)
      rw [hr] at hr'
      injection hr' with e1 _
      intro k hk
      rw [e1] at hk
      simp [Value.ownBlock] at hk
      omega
  · by_cases hroom : n + s.size ≤ cap
    · left
      have hcs' : cur.size = cap := by simpa using hcs
      have hr' := Lib.run_append_room_string (P := P) w t u ty e i ht hu hi hsize g n cap cur hg s hroom (by omega)
      rw [hr] at hr'
      injection hr' with e1 _
      rw [e1]; rfl
    · right
      have holds : ∀ j u, xs[j]? = some u → w.cell? ((⟨g, 0, none⟩ : Addr).add j) = some u := hown.cells (g := g) rfl
      have hr' := Lib.run_append_grow_string (P := P) w t u ty e i (.int .u8 0) ht hu hi hz ⟨g, 0, none⟩ n cap xs (by rw [hsize]; simpa using hxl) holds s (by omega) (by omega) (by rw [hby]; exact growslice_fits (by omega) (by omega))
      rw [hr] at hr'
      injection hr' with e1 _
      intro k hk
      rw [e1] at hk
      simp [Value.ownBlock] at hk
      omega
theorem wp_append_str {w : World} {o : Oper} {a : Act} {K : Act → World → Prop} {Q : Exit → Act → World → Prop} (sl x : Operand) (t u : TypeId)
    (ho : o.op = .call { callee := .builtin .append, args := #[sl, x], argTypes := #[t, u] })
    (base : Nat) (e : TypeId) (i : TypeInfo) (ht : P.underlying t = some (.slice e)) (hu : P.underlying u = some .string) (hi : P.info? e = some i) (hz : i.zero = some (.int .u8 0))
    (hsize : i.size = 1) (hby : i.bytes = 1)
    (v : Value) (n : Nat) (xs : List Value) (hs : a.eval sl = v) (hown : w.ownsRow base e 1 v n xs) (s : ByteArray) (hx : a.eval x = .string s)
    (h63 : n + s.size ≤ maxLen) (hbytes : n + s.size ≤ 140737488355328) (hbase : base ≤ w.heap.size)
    (h : ∀ v' w', w'.ownsRow base e 1 v' (n + s.size) (xs ++ Lib.strCells s) → Moves w v w' v' → K (a.put o.dst v') w') : o.wp P a w K Q := by
  obtain ⟨v', w', hr, h2, h3⟩ := run_append_str (P := P) w base t u o.type e i ht hu hi hz hsize hby v n xs hown s h63 hbytes hbase
  unfold Oper.wp execOp
  simp only [ho, resolve, invoke, builtin, Sem.run_bind, Sem.run_pure, Result.andThen_ok, List.map_toArray, List.map_cons, List.map_nil, hs, hx, hr]
  exact h v' w' h2 h3
/-- For the walk. -/
theorem wpList_append_str {w : World} {ops : Array Oper} {rest : List Oper} {o : Oper} {a : Act} {Q : Exit → Act → World → Prop} (hgd : o.guard = none) (sl x : Operand) (t u : TypeId)
    (ho : o.op = .call { callee := .builtin .append, args := #[sl, x], argTypes := #[t, u] })
    (base : Nat) (e : TypeId) (i : TypeInfo) (ht : P.underlying t = some (.slice e)) (hu : P.underlying u = some .string) (hi : P.info? e = some i) (hz : i.zero = some (.int .u8 0))
    (hsize : i.size = 1) (hby : i.bytes = 1)
    (v : Value) (n : Nat) (xs : List Value) (hs : a.eval sl = v) (hown : w.ownsRow base e 1 v n xs) (s : ByteArray) (hx : a.eval x = .string s)
    (h63 : n + s.size ≤ maxLen) (hbytes : n + s.size ≤ 140737488355328) (hbase : base ≤ w.heap.size)
    (h : ∀ v' w', w'.ownsRow base e 1 v' (n + s.size) (xs ++ Lib.strCells s) → Moves w v w' v' → wpList P ops Q rest (a.put o.dst v') w') : wpList P ops Q (o :: rest) a w :=
  wpList_plain hgd fun _ hK => wp_append_str sl x t u ho base e i ht hu hi hz hsize hby v n xs hs hown s hx h63 hbytes hbase fun v' w' h2 h3 => hK _ _ (h v' w' h2 h3)
/-- For a step of a region that draws. -/
theorem step_append_str {w : World} {ops : Array Oper} {o : Oper} {a : Act} {K : Act → World → Prop} {Q : Exit → Act → World → Prop} {E : Prop} (hgd : o.guard = none) (sl x : Operand) (t u : TypeId)
    (ho : o.op = .call { callee := .builtin .append, args := #[sl, x], argTypes := #[t, u] })
    (base : Nat) (e : TypeId) (i : TypeInfo) (ht : P.underlying t = some (.slice e)) (hu : P.underlying u = some .string) (hi : P.info? e = some i) (hz : i.zero = some (.int .u8 0))
    (hsize : i.size = 1) (hby : i.bytes = 1)
    (v : Value) (n : Nat) (xs : List Value) (hs : a.eval sl = v) (hown : w.ownsRow base e 1 v n xs) (s : ByteArray) (hx : a.eval x = .string s)
    (h63 : n + s.size ≤ maxLen) (hbytes : n + s.size ≤ 140737488355328) (hbase : base ≤ w.heap.size)
    (h : ∀ v' w', w'.ownsRow base e 1 v' (n + s.size) (xs ++ Lib.strCells s) → Moves w v w' v' → K (a.put o.dst v') w') :
    if Region.wanted o (yielded ops a.tmps) = true then Oper.wp P o a w K Q else E := by
  have hw : Region.wanted o (yielded ops a.tmps) = true := by simp [Region.wanted, hgd]
  rw [if_pos hw]
  exact wp_append_str sl x t u ho base e i ht hu hi hz hsize hby v n xs hs hown s hx h63 hbytes hbase h
end
end Go.Proofs.YtkfeiekgdfklmaaGreatDoor.Trm
/- A list of names that grows by one that it lacks; a list of texts as a row of the program. -/
namespace Go.Proofs.YtkfeiekgdfklmaaGreatDoor.Trm
open Go.RowKit Own
open Classical in
noncomputable def addN (acc : List ByteArray) (s : ByteArray) : List ByteArray := if s ∈ acc then acc else acc ++ [s]
theorem addN_in {acc : List ByteArray} {s : ByteArray} (h : s ∈ acc) : addN acc s = acc := by unfold addN; rw [if_pos h]
theorem addN_out {acc : List ByteArray} {s : ByteArray} (h : ¬ s ∈ acc) : addN acc s = acc ++ [s] := by unfold addN; rw [if_neg h]
theorem addN_le (acc : List ByteArray) (s : ByteArray) : (addN acc s).length ≤ acc.length + 1 := by unfold addN; split <;> simp
theorem infoStrR : (Tryz.prog.info? 9).map (fun i => (i.zero, i.size, i.bytes)) = some (some (.string ⟨#[]⟩), 1, 16) := by kernel_rfl
theorem one_textR (p : ByteArray) : ∀ u ∈ [Value.string p], u.oneCell' = true := by
  intro u hu
  simp at hu
  subst hu
  rfl
end Go.Proofs.YtkfeiekgdfklmaaGreatDoor.Trm
/- The model's ReadsOf, walked. Conditions: the term lies in memory that is older than the list; it has at most 2 to the 20 kids and bytes. -/
namespace Go.Proofs.YtkfeiekgdfklmaaGreatDoor.Trm
open Go.RowKit Own
mutual
noncomputable def readsT : Tree → List ByteArray → List ByteArray
  | .node k _ s ks, acc => if k = 2 then addN acc s else readsL ks acc
noncomputable def readsL : List Tree → List ByteArray → List ByteArray
  | [], acc => acc
  | t :: ts, acc => readsL ts (readsT t acc)
end
mutual
theorem readsT_le : ∀ (t : Tree) (acc : List ByteArray), (readsT t acc).length ≤ acc.length + 1 + szT t
  | .node k n s ks, acc => by
    rw [readsT, szT]
    split
    · have := addN_le acc s; omega
    · have := readsL_le ks acc; omega
theorem readsL_le : ∀ (ks : List Tree) (acc : List ByteArray), (readsL ks acc).length ≤ acc.length + ks.length + szS ks
  | [], acc => by simp [readsL, szS]
  | t :: ts, acc => by
    rw [readsL, szS]
    have h1 := readsT_le t acc
    have h2 := readsL_le ts (readsT t acc)
    simp only [List.length_cons]
    omega
end
theorem Moves.box {w w' : World} {v v' : Value} {b : Nat} {c0 c1 c2 c3 : Value} (h : Moves w v w' v') (hx : Box4 w b c0 c1 c2 c3) (hn : v.ownBlock ≠ some b) : Box4 w' b c0 c1 c2 c3 ∧ v'.ownBlock ≠ some b := by
  have hlt : b < w.heap.size := cell_lt hx.1
  have hb : w'.heap[b]? = w.heap[b]? := h.1.block b hlt (fun e => hn e.symm)
  have hc : ∀ j, w'.cell? ⟨b, j, none⟩ = w.cell? ⟨b, j, none⟩ := fun j => World.cell?_of_block hb
  refine ⟨⟨(hc 0).trans hx.1, (hc 1).trans hx.2.1, (hc 2).trans hx.2.2.1, (hc 3).trans hx.2.2.2⟩, fun e => ?_⟩
  rcases h.2 with h2 | h2
  · exact hn (h2 ▸ e)
  · have := h2 b e; omega
def ReadsOk (t : Tree) : Prop := ∀ (v ov : Value) (w0 w : World) (acc : List ByteArray), acc.length + 1 + szT t ≤ 2000000 → Lies w0 t v → Below w0.heap.size w0 w → w.ownsRow w0.heap.size 9 1 ov acc.length (strV acc) →
    Calls Tryz.prog 143 #[v, ov] w fun e w' => ∃ ov', e = .returned ov' ∧ w'.ownsRow w0.heap.size 9 1 ov' (readsT t acc).length (strV (readsT t acc)) ∧ Moves w ov w' ov'
set_option maxHeartbeats 800000 in
theorem reads_var (n : Int) (s : ByteArray) (ks : List Tree) (v ov : Value) (w0 w : World) (acc : List ByteArray) (ha : acc.length + 1 + szT (.node 2 n s ks) ≤ 2000000) (hl : Lies w0 (.node 2 n s ks) v) (hbe : Below w0.heap.size w0 w) (hown : w.ownsRow w0.heap.size 9 1 ov acc.length (strV acc)) :
    Calls Tryz.prog 143 #[v, ov] w fun e w' => ∃ ov', e = .returned ov' ∧ w'.ownsRow w0.heap.size 9 1 ov' (readsT (.node 2 n s ks) acc).length (strV (readsT (.node 2 n s ks) acc)) ∧ Moves w ov w' ov' := by
  obtain ⟨i0, hi, hz0, hz1, hz2⟩ := info_parts infoStrR
  obtain ⟨h1, h2, h3, h4, aa, cap, rfl, h5⟩ := hl
  have HR : Hid (readsT (.node 2 n s ks) acc = addN acc s) := by show _ = _; rw [readsT, if_pos rfl]
  obtain ⟨oa, oc, rfl, hoa⟩ := row_shape hown
  have hlen : acc.length ≤ 2000000 := by omega
  have HO := Lib.hid hown
  have HA := Lib.hid hoa
  have X0 := Lib.hid (Box4.new w (.int .i64 2) (.int .i64 n) (.string s) (.slice aa ks.length cap) 34)
  have hbs : w0.heap.size ≤ w.heap.size := hbe.size
  clear h5 h1 h2 hown hoa ha hbe
  go_enter Tryz.func143, Tryz.ntmps143
  go_wp2
  go_loopw [5] (fun i wr => ∃ j : Nat, j ≤ acc.length ∧ i = .int .i64 j ∧ Hid (∀ i (h : i < acc.length), i < j → acc[i] ≠ s) ∧ Hid (wr.ownsRow w0.heap.size 9 1 (.slice oa acc.length oc) acc.length (strV acc)) ∧ Hid (Box4 wr w.heap.size (.int .i64 2) (.int .i64 n) (.string s) (.slice aa ks.length cap)) ∧ Hid (Moves w (.slice oa acc.length oc) wr (.slice oa acc.length oc)))
    (fun i _ => acc.length - (intOf i).toNat)
  case atStart => exact ⟨0, Nat.zero_le _, rfl, fun i _ h => by omega, HO.out.alloc _, X0.out, Moves.alloc _ _ _⟩
  case round =>
    obtain ⟨j, hj, rfl, hne, hrow, hx, hmv⟩ := hrel
    obtain ⟨p0, p1, p2, p3⟩ := hx.out
    by_cases hlt : j < acc.length
    · obtain ⟨g, rfl⟩ := HA.out (by omega)
      have c0 := row_cell hrow.out j hlt
      by_cases he : acc[j] = s
      · have HS : Hid (readsT (.node 2 n s ks) acc = acc) := by show _ = _; rw [HR.out, addN_in (he ▸ List.getElem_mem hlt)]
        rw [he] at c0
        clear he
        go_wp2
        go_quiet (fail)
        go_wp2
        go_ret
        exact ⟨_, rfl, by rw [HS.out]; exact hrow.out, hmv.out.drewN _⟩
      · have hq := bytes_ne he
        have HS : Hid (∀ i (h : i < acc.length), i < j + 1 → acc[i] ≠ s) := fun i h hi => by
          rcases Nat.lt_or_ge i j with h1 | h1
          · exact hne.out i h h1
          · obtain rfl : i = j := by omega
            exact he
        clear he
        go_wp2
        go_quiet (fail)
        go_wp2
        go_roundw
        case rel => exact ⟨j + 1, by omega, by go_num, HS, hrow.out, hx.out, hmv.out.drewN _⟩
        case measure => simp [intOf]; omega
    · have HS : Hid (readsT (.node 2 n s ks) acc = acc ++ [s]) := by
        show _ = _
        rw [HR.out, addN_out]
        intro hm
        obtain ⟨i, hi, e⟩ := List.mem_iff_getElem.1 hm
        exact hne.out i hi (by omega) e
      go_wp2_with (at_builtin; refine wpList_append_lies _ rfl (.tmp 24) (.tmp 27) 24 rfl w0.heap.size 9 i0 (.string ⟨#[]⟩) 1 16 Tryz.underlying24 hi hz0 hz1 hz2 rfl (by decide) (.slice oa acc.length oc) acc.length _ rfl (hrow.out.alloc _) ⟨wr.heap.size, 0, none⟩ 1 1 [.string s] rfl rfl (World.news_of_block (heap_alloc_new _ _)) (one_textR _) (by decide) (by unfold maxLen; omega) (by omega) (by have := hmv.out.1.size; simp; omega) _ rfl ?_)
      intro g1 cap1 w1 hown1 hg1 hat1 hlt1
      have HO1 := Lib.hid hown1
      have HM : Hid (Moves w (.slice oa acc.length oc) w1 (.slice (some ⟨g1, 0, none⟩) (acc.length + 1) cap1)) := by
        refine hmv.out.trans ((Moves.alloc _ _ _).trans ⟨hg1, ?_⟩)
        rcases hat1 with h | h
        · exact .inl h.symm
        · exact .inr fun k hk => by cases hk; simp; omega
      clear hown1 hg1 hat1 hlt1
      go_wp2
      go_ret
      refine ⟨_, rfl, ?_, HM.out⟩
      rw [HS.out]
      have := HO1.out
      simpa [strV] using this
set_option maxHeartbeats 800000 in
theorem reads_more (k n : Int) (s : ByteArray) (ks : List Tree) (ih : ∀ t, t ∈ ks → ReadsOk t) (hk2 : k ≠ 2) (v ov : Value) (w0 w : World) (acc : List ByteArray) (ha : acc.length + 1 + szT (.node k n s ks) ≤ 2000000) (hl : Lies w0 (.node k n s ks) v) (hbe : Below w0.heap.size w0 w) (hown : w.ownsRow w0.heap.size 9 1 ov acc.length (strV acc)) :
    Calls Tryz.prog 143 #[v, ov] w fun e w' => ∃ ov', e = .returned ov' ∧ w'.ownsRow w0.heap.size 9 1 ov' (readsT (.node k n s ks) acc).length (strV (readsT (.node k n s ks) acc)) ∧ Moves w ov w' ov' := by
  obtain ⟨h1, h2, h3, h4, aa, cap, rfl, h5⟩ := hl
  have HR : Hid (readsT (.node k n s ks) acc = readsL (ks.drop 0) acc) := by show _ = _; rw [readsT, if_neg hk2]; rfl
  have e2 := ne_true hk2
  have HZ : Hid (acc.length + (ks.length - 0) + szS (ks.drop 0) ≤ 2000000) := by show _ ≤ _; rw [szT] at ha; simp; omega
  have HO := Lib.hid hown
  have HB := Lib.hid hbe
  have H5 := Lib.hid h5
  have IH := Lib.hid ih
  have X0 := Lib.hid (Box4.new w (.int .i64 k) (.int .i64 n) (.string s) (.slice aa ks.length cap) 34)
  have hbs : w0.heap.size ≤ w.heap.size := hbe.size
  clear h5 h1 h2 hown ha hbe ih hk2
  go_enter Tryz.func143, Tryz.ntmps143
  go_wp2
  go_loopw [1, 6] (fun x i wr => ∃ (j : Nat) (ac : List ByteArray), j ≤ ks.length ∧ i = .int .i64 j ∧ Hid (readsT (.node k n s ks) acc = readsL (ks.drop j) ac) ∧ Hid (ac.length + (ks.length - j) + szS (ks.drop j) ≤ 2000000) ∧ Hid (wr.ownsRow w0.heap.size 9 1 x ac.length (strV ac)) ∧ Hid (Box4 wr w.heap.size (.int .i64 k) (.int .i64 n) (.string s) (.slice aa ks.length cap)) ∧ Hid (x.ownBlock ≠ some w.heap.size) ∧ Hid (Moves w ov wr x))
    (fun _ i _ => ks.length - (intOf i).toNat)
  case atStart => exact ⟨0, acc, Nat.zero_le _, rfl, HR.out, HZ.out, HO.out.alloc _, X0.out, row_not HO.out, Moves.alloc _ _ _⟩
  case round =>
    obtain ⟨j, ac, hj, rfl, hsz, hz, hrow, hx, hnb, hmv⟩ := hrel
    obtain ⟨p0, p1, p2, p3⟩ := hx.out
    by_cases hlt : j < ks.length
    · obtain ⟨g, o, rfl, hl⟩ := H5.out (by omega)
      have hbr := hmv.out.below HB.out HO.out
      obtain ⟨ka, kc, c0, c1, c2, c3, hl2⟩ := hl.at j hlt
      have hd := szS_drop hlt
      have C := Lib.hid (IH.out ks[j] (List.getElem_mem hlt) _ u1 w0 wr ac (by have := hz.out; omega) hl2 hbr hrow.out)
      have hke := keeps_below hbr
      have d0 := hke _ _ c0
      have d1 := hke _ _ c1
      have d2 := hke _ _ c2
      have d3 := hke _ _ c3
      have HS : Hid (readsT (.node k n s ks) acc = readsL (ks.drop (j + 1)) (readsT ks[j] ac)) := by show readsT (.node k n s ks) acc = _; rw [hsz.out, List.drop_eq_getElem_cons hlt, readsL]
      have HZ2 : Hid ((readsT ks[j] ac).length + (ks.length - (j + 1)) + szS (ks.drop (j + 1)) ≤ 2000000) := by show _ ≤ _; have := hz.out; have := readsT_le ks[j] ac; omega
      clear hl hl2 hd hbr hke c0 c1 c2 c3
      go_wp2_with fail
      refine C.out.mono ?_
      rintro e w1 ⟨ov1, rfl, hrow1, hmv1⟩
      have HR1 := Lib.hid hrow1
      have HX1 := Lib.hid (hmv1.box hx.out hnb.out)
      have HM1 := Lib.hid (hmv.out.trans hmv1)
      clear hrow1 hmv1
      go_wp2
      go_roundw
      case rel => exact ⟨j + 1, readsT ks[j] ac, by omega, by go_num, HS, HZ2, HR1.out, HX1.out.1, HX1.out.2, HM1.out⟩
      case measure => simp [intOf]; omega
    · have HS : Hid (readsT (.node k n s ks) acc = ac) := by show _ = _; rw [hsz.out, List.drop_of_length_le (by omega), readsL]
      go_wp2
      go_ret
      exact ⟨_, rfl, by rw [HS.out]; exact hrow.out, hmv.out⟩
theorem specReads_any : ∀ t : Tree, ReadsOk t := treeInd fun k n s ks ih v ov w0 w acc ha hl hbe hown => by
  by_cases h2 : k = 2
  · subst h2; exact reads_var n s ks v ov w0 w acc ha hl hbe hown
  · exact reads_more k n s ks ih h2 v ov w0 w acc ha hl hbe hown
/-- What ReadsOf answers. -/
noncomputable def readsOfT (t : Tree) : List ByteArray := if okB t = true then readsT t [] else []
theorem readsOfT_le (t : Tree) : (readsOfT t).length ≤ 1 + szT t := by
  unfold readsOfT
  split
  · have := readsT_le t []; simp at this; omega
  · simp
theorem specReadsOf_any (t : Tree) (v : Value) (w : World) (hl : Lies w t v) (hz : szT t ≤ 1048576) :
    Calls Tryz.prog 101 #[v] w fun e w' => ∃ ov, e = .returned ov ∧ w'.ownsRow w.heap.size 9 1 ov (readsOfT t).length (strV (readsOfT t)) ∧ Below w.heap.size w w' := by
  have C := Lib.hid (fun w hk => specTermOk_any t v w (hl.keep hk))
  have D := Lib.hid (fun ov w1 hb hr => specReads_any t v ov w w1 [] (by simp; omega) hl hb hr)
  obtain ⟨_, _, _, _, aa, cap, rfl, _⟩ := hl.parts
  have X0 := Lib.hid (Box4.new w (.int .i64 t.kind) (.int .i64 t.num) (.string t.name) (.slice aa t.kids.length cap) 34)
  clear hl hz
  cases hb : okB t with
  | false =>
    have HR : Hid (readsOfT t = []) := by show _ = _; unfold readsOfT; rw [hb]; rfl
    rw [hb] at C
    clear hb
    go_enter Tryz.func101, Tryz.ntmps101
    go_wp2_with fail
    refine (C.out _ (keeps_alloc _ _)).mono ?_
    rintro e w1 ⟨rfl, hb1⟩
    have B1 := Lib.hid (below_box1 hb1)
    clear hb1
    go_wp2
    go_ret
    exact ⟨_, rfl, by rw [HR.out]; exact World.ownsRow_made w1 #[] 0 B1.out.size (by decide) rfl, B1.out.alloc B1.out.size _⟩
  | true =>
    have HR : Hid (readsOfT t = readsT t []) := by show _ = _; unfold readsOfT; rw [hb]; rfl
    rw [hb] at C
    clear hb
    go_enter Tryz.func101, Tryz.ntmps101
    go_wp2_with fail
    refine (C.out _ (keeps_alloc _ _)).mono ?_
    rintro e w1 ⟨rfl, hb1⟩
    obtain ⟨p0, p1, p2, p3⟩ := X0.out.keep (keeps_below hb1)
    have B1 := Lib.hid (below_box1 hb1)
    clear hb1
    go_wp2_with fail
    refine (D.out _ _ (B1.out.alloc B1.out.size _) (World.ownsRow_made w1 #[] 0 B1.out.size (by decide) rfl)).mono ?_
    rintro e w2 ⟨ov, rfl, hrow, hmv⟩
    have HRow := Lib.hid hrow
    have HB2 := Lib.hid (hmv.below (B1.out.alloc B1.out.size _) (World.ownsRow_made (size := 1) w1 #[] 0 B1.out.size (by decide) rfl))
    clear hrow hmv
    go_wp2
    go_ret
    exact ⟨_, rfl, by rw [HR.out]; exact HRow.out, HB2.out⟩
end Go.Proofs.YtkfeiekgdfklmaaGreatDoor.Trm
/- Names that are not there, names that are used, names told twice: what the lists come to. Without conditions. -/
namespace Go.Proofs.YtkfeiekgdfklmaaGreatDoor.Trm
open Go.RowKit Own
open Classical in
/-- A name, where it is neither known nor told before. -/
noncomputable def addU (known acc : List ByteArray) (s : ByteArray) : List ByteArray := if s ∈ known ∨ s ∈ acc then acc else acc ++ [s]
def procNs (ps : List PrT) : List ByteArray := ps.map (·.name)
/-- The name that a statement has, and what it reads. -/
noncomputable def headU (x : PTree) (k : Int) (s : ByteArray) (acc : List ByteArray) : List ByteArray :=
  if k = 1 then addU x.globals acc s else if k = 6 ∨ k = 7 then addU x.locks acc s else if k = 4 ∨ k = 5 then addU (procNs x.procs) acc s else acc
noncomputable def readsU (x : PTree) (k : Int) (t : Tree) (acc : List ByteArray) : List ByteArray :=
  if k = 1 ∨ k = 2 ∨ k = 3 then (readsOfT t).foldl (addU x.globals) acc else acc
mutual
noncomputable def unkX (x : PTree) : STree → List ByteArray → List ByteArray
  | .node k s t b e, acc => unkXS x e (unkXS x b (readsU x k t (headU x k s acc)))
noncomputable def unkXS (x : PTree) : List STree → List ByteArray → List ByteArray
  | [], acc => acc
  | y :: r, acc => unkXS x r (unkX x y acc)
end
theorem unkX_eq (x : PTree) (y : STree) (acc : List ByteArray) : unkX x y acc = unkXS x y.els (unkXS x y.body (readsU x y.kind y.term (headU x y.kind y.name acc))) := by cases y; rw [unkX]; rfl
theorem unkXS_drop (x : PTree) {xs : List STree} {i : Nat} (h : i < xs.length) (acc : List ByteArray) : unkXS x (xs.drop i) acc = unkXS x (xs.drop (i + 1)) (unkX x xs[i] acc) := by rw [List.drop_eq_getElem_cons h, unkXS]
theorem unkXS_end (x : PTree) {xs : List STree} {i : Nat} (h : xs.length ≤ i) (acc : List ByteArray) : unkXS x (xs.drop i) acc = acc := by rw [List.drop_of_length_le h, unkXS]
noncomputable def unkPs (x : PTree) (ps : List PrT) (acc : List ByteArray) : List ByteArray := ps.foldl (fun a p => unkXS x p.body a) acc
mutual
/-- The names that statements have of numbers and locks. -/
noncomputable def useX : STree → List ByteArray → List ByteArray
  | .node k s t b e, acc => useXS e (useXS b ((if k = 1 ∨ k = 6 ∨ k = 7 then acc ++ [s] else acc) ++ readsOfT t))
noncomputable def useXS : List STree → List ByteArray → List ByteArray
  | [], acc => acc
  | y :: r, acc => useXS r (useX y acc)
end
noncomputable def usePs (ps : List PrT) (acc : List ByteArray) : List ByteArray := ps.foldl (fun a p => useXS p.body a) acc
/-- Whether a name is told twice. -/
noncomputable def twiceB : List ByteArray → Bool
  | [] => false
  | s :: r => @decide (s ∈ r) (Classical.propDecidable _) || twiceB r
def mainB : ByteArray := ⟨#[109, 97, 105, 110]⟩
theorem twiceB_eq (ns : List ByteArray) : twiceB ns = true ↔ ∃ i, ∃ h : i < ns.length, ns[i] ∈ ns.take i := by
  induction ns with
  | nil => simp [twiceB]
  | cons s r ih =>
    rw [twiceB]
    simp only [Bool.or_eq_true, decide_eq_true_eq, ih]
    constructor
    · rintro (h | ⟨i, hi, h⟩)
      · obtain ⟨i, hi, e⟩ := List.getElem_of_mem h
        exact ⟨i + 1, by simpa using hi, by simp [e]⟩
      · exact ⟨i + 1, by simpa using hi, by simp [h]⟩
    · rintro ⟨i, hi, h⟩
      cases i with
      | zero => simp at h
      | succ i =>
        simp at h hi
        rcases h with h | h
        · exact .inl (by rw [← h]; exact List.getElem_mem hi)
        · exact .inr ⟨i, hi, h⟩
theorem twiceB_no {ns : List ByteArray} (h : ∀ i (hi : i < ns.length), ¬ ns[i] ∈ ns.take i) : twiceB ns = false := by
  rw [Bool.eq_false_iff]
  intro e
  obtain ⟨i, hi, h2⟩ := (twiceB_eq ns).1 e
  exact h i hi h2
theorem twiceB_yes {ns : List ByteArray} {i : Nat} {hi : i < ns.length} (h : ns[i] ∈ ns.take i) : twiceB ns = true := (twiceB_eq ns).2 ⟨i, hi, h⟩
end Go.Proofs.YtkfeiekgdfklmaaGreatDoor.Trm
/- The model's names that are not there, walked: whether a name is among others. Conditions: the lists lie in memory. -/
namespace Go.Proofs.YtkfeiekgdfklmaaGreatDoor.Trm
open Go.RowKit Own
theorem strsAt_take {w : World} {ns : List ByteArray} {a : Option Addr} {n c j : Nat} (h : StrsAt w ns (.slice a n c)) (hj : j ≤ ns.length) : StrsAt w (ns.take j) (.slice a j c) := by
  obtain ⟨a2, c2, e, h1, h2⟩ := h
  simp at e
  obtain ⟨rfl, rfl, rfl⟩ := e
  have hl : (ns.take j).length = j := by rw [List.length_take]; omega
  refine ⟨a, c, by rw [hl], by omega, fun hp => ?_⟩
  obtain ⟨g, o, rfl, h3⟩ := h2 (by omega)
  exact ⟨g, o, rfl, fun i hi => by rw [List.getElem_take]; exact h3 i (by omega)⟩
theorem strsAt_row {w : World} {base : Nat} {ov : Value} {ss : List ByteArray} {n : Nat} (hn : n = ss.length) (h : w.ownsRow base 9 1 ov n (strV ss)) : StrsAt w ss ov := by
  subst hn
  have hm := row_small h
  unfold maxLen at hm
  obtain ⟨a, c, rfl, ha⟩ := row_shape h
  refine ⟨a, c, rfl, by omega, fun hp => ?_⟩
  obtain ⟨g, rfl⟩ := ha hp
  exact ⟨g, 0, rfl, fun i hi => by rw [Nat.zero_add]; exact row_cell h i hi⟩
/-- Whether a name is among those that lie there. -/
theorem specHasL_any (ns : List ByteArray) (nv : Value) (s : ByteArray) (w : World) (h : StrsAt w ns nv) (r : Bool) (hr : r = true ↔ s ∈ ns) :
    Calls Tryz.prog 47 #[nv, .string s] w fun e w' => e = .returned (.bool r) ∧ w = w' := by
  obtain ⟨a, c, rfl, h1, h2⟩ := h
  have HN := Lib.hid h2
  have HR := Lib.hid hr
  have HL := Lib.hid h1
  clear h1 h2 hr
  go_enter Tryz.func47, Tryz.ntmps47
  go_wp2
  go_loopw [5] (fun i wr => ∃ j : Nat, j ≤ ns.length ∧ i = .int .i64 j ∧ Hid (∀ k (hk : k < ns.length), k < j → ns[k] ≠ s) ∧ w = wr)
    (fun i _ => ns.length - (intOf i).toNat)
  case atStart => exact ⟨0, Nat.zero_le _, rfl, fun _ _ h => by omega, rfl⟩
  case round =>
    obtain ⟨j, hj, rfl, hno, rfl⟩ := hrel
    have hL := HL.out
    by_cases hlt : j < ns.length
    · obtain ⟨g, o, rfl, h3⟩ := HN.out (by omega)
      have c0 := h3 j hlt
      clear h3
      by_cases he : ns[j] = s
      · have hq : (ns[j].toList == s.toList) = true := by rw [he]; simp
        have HT : Hid (r = true) := HR.out.2 (by rw [← he]; exact List.getElem_mem hlt)
        clear he
        go_wp2
        go_ret
        exact ⟨by rw [HT.out]; rfl, rfl⟩
      · have hq := bytes_ne he
        have HNO : Hid (∀ k (hk : k < ns.length), k < j + 1 → ns[k] ≠ s) := fun k hk h => by
          rcases Nat.lt_or_ge k j with h' | h'
          · exact hno.out k hk h'
          · have : k = j := by omega
            subst this; exact he
        clear he
        go_wp2
        go_roundw
        case rel => exact ⟨j + 1, by omega, by go_num, HNO.out, trivial⟩
        case measure => simp [intOf]; omega
    · have HF : Hid (r = false) := by
        show _ = _
        rw [Bool.eq_false_iff]
        intro h
        obtain ⟨k, hk, e⟩ := List.getElem_of_mem (HR.out.1 h)
        exact hno.out k hk (by omega) e
      go_wp2
      go_ret
      exact ⟨by rw [HF.out]; rfl, rfl⟩
open Classical in
noncomputable def hasB (ns : List ByteArray) (s : ByteArray) : Bool := decide (s ∈ ns)
theorem hasB_iff (ns : List ByteArray) (s : ByteArray) : hasB ns s = true ↔ s ∈ ns := by unfold hasB; simp
theorem addU_yes {known acc : List ByteArray} {s : ByteArray} (h : s ∈ known ∨ s ∈ acc) : addU known acc s = acc := by unfold addU; rw [if_pos h]
theorem addU_no {known acc : List ByteArray} {s : ByteArray} (h : ¬ (s ∈ known ∨ s ∈ acc)) : addU known acc s = acc ++ [s] := by unfold addU; rw [if_neg h]
theorem addU_le (known acc : List ByteArray) (s : ByteArray) : (addU known acc s).length ≤ acc.length + 1 := by unfold addU; split <;> simp
/-- A list whose room is what Go asks. -/
def CapOk (v : Value) (n : Nat) : Prop := ∃ a c, v = .slice a n c ∧ n ≤ c
theorem cap_row {w : World} {base : Nat} {e : TypeId} {size n : Nat} {v : Value} {xs : List Value} (h : w.ownsRow base e size v n xs) : CapOk v n := by
  rcases h.2 with ⟨rfl, rfl⟩ | ⟨g, cap, cur, rfl, _, _, hc, _⟩
  · exact ⟨none, 0, rfl, Nat.le_refl _⟩
  · exact ⟨_, cap, rfl, hc⟩
end Go.Proofs.YtkfeiekgdfklmaaGreatDoor.Trm
/- The model's names that are not there, walked: what one name adds, the procedures' names. Conditions: the lists lie in memory. -/
namespace Go.Proofs.YtkfeiekgdfklmaaGreatDoor.Trm
open Go.RowKit Own
/-- A name, added where it is neither known nor told. -/
theorem specAdd_any (known acc : List ByteArray) (kv ov : Value) (s : ByteArray) (w0 w : World) (ha : acc.length ≤ 8000000) (hk : StrsAt w known kv) (hbe : Below w0.heap.size w0 w) (hown : w.ownsRow w0.heap.size 9 1 ov acc.length (strV acc)) :
    Calls Tryz.prog 100 #[ov, kv, .string s] w fun e w' => ∃ ov', e = .returned ov' ∧ w'.ownsRow w0.heap.size 9 1 ov' (addU known acc s).length (strV (addU known acc s)) ∧ Moves w ov w' ov' := by
  obtain ⟨ka, kc, rfl, _, _⟩ := id hk
  obtain ⟨oa, oc, rfl, _⟩ := row_shape hown
  have hbs : w0.heap.size ≤ w.heap.size := hbe.size
  have C2 := Lib.hid (specHasL_any acc _ s w (strsAt_row rfl hown) _ (hasB_iff acc s))
  have HROW := Lib.hid hown
  obtain ⟨i0, hi, hz0, hz1, hz2⟩ := info_parts infoStrR
  by_cases h1 : s ∈ known
  · have C1 := Lib.hid (specHasL_any known _ s w hk true ⟨fun _ => h1, fun _ => rfl⟩)
    have HE : Hid (addU known acc s = acc) := addU_yes (.inl h1)
    clear hk hown hbe h1
    go_enter Tryz.func100, Tryz.ntmps100
    go_wp2_with fail
    refine C1.out.mono ?_
    rintro e w1 ⟨rfl, rfl⟩
    go_wp2
    go_ret
    refine ⟨_, rfl, ?_, Moves.refl _ _⟩
    rw [HE.out]; exact HROW.out
  · have C1 := Lib.hid (specHasL_any known _ s w hk false ⟨fun h => (Bool.noConfusion h), fun h => absurd h h1⟩)
    by_cases h2 : s ∈ acc
    · have HE : Hid (addU known acc s = acc) := addU_yes (.inr h2)
      have C3 := Lib.hid (specHasL_any acc _ s w (strsAt_row rfl hown) true ⟨fun _ => h2, fun _ => rfl⟩)
      clear hk hown hbe h1 h2 C2
      go_enter Tryz.func100, Tryz.ntmps100
      go_wp2_with fail
      refine C1.out.mono ?_
      rintro e w1 ⟨rfl, rfl⟩
      go_wp2_with fail
      refine C3.out.mono ?_
      rintro e w1 ⟨rfl, rfl⟩
      go_wp2
      go_ret
      refine ⟨_, rfl, ?_, Moves.refl _ _⟩
      rw [HE.out]; exact HROW.out
    · have HE : Hid (addU known acc s = acc ++ [s]) := addU_no (fun h => h.elim h1 h2)
      have C3 := Lib.hid (specHasL_any acc _ s w (strsAt_row rfl hown) false ⟨fun h => (Bool.noConfusion h), fun h => absurd h h2⟩)
      clear hk hown hbe h1 h2 C2
      go_enter Tryz.func100, Tryz.ntmps100
      go_wp2_with fail
      refine C1.out.mono ?_
      rintro e w1 ⟨rfl, rfl⟩
      go_wp2_with fail
      refine C3.out.mono ?_
      rintro e w1 ⟨rfl, rfl⟩
      go_wp2_with (at_builtin; refine wpList_append_lies _ rfl (.tmp 16) (.tmp 18) 24 rfl w0.heap.size 9 i0 (.string ⟨#[]⟩) 1 16 Tryz.underlying24 hi hz0 hz1 hz2 rfl (by decide) (.slice oa acc.length oc) acc.length _ rfl (HROW.out.alloc _) ⟨w.heap.size, 0, none⟩ 1 1 [.string s] rfl rfl (World.news_of_block (heap_alloc_new _ _)) (one_textR _) (by decide) (by unfold maxLen; omega) (by omega) (by simp; omega) _ rfl ?_)
      intro g1 cap1 w1 hown1 hg1 hat1 hlt1
      have HRW : Hid (w1.ownsRow w0.heap.size 9 1 (.slice (some ⟨g1, 0, none⟩) (acc.length + 1) cap1) (addU known acc s).length (strV (addU known acc s))) := by
        show World.ownsRow _ _ _ _ _ _ _
        rw [HE.out]
        simpa [strV] using hown1
      have HMA : Hid (Moves w (.slice oa acc.length oc) w1 (.slice (some ⟨g1, 0, none⟩) (acc.length + 1) cap1)) := by
        refine (Moves.alloc _ _ _).trans ⟨hg1, ?_⟩
        rcases hat1 with h | h
        · exact .inl h.symm
        · exact .inr fun k hk => by cases hk; simp; omega
      clear hown1 hg1 hat1 hlt1
      go_wp2
      go_ret
      exact ⟨_, rfl, HRW.out, HMA.out⟩
/-- The procedures' names, in a new list. -/
theorem specProcs_any (x : PTree) (v : Value) (w : World) (hx : x.procs.length ≤ 8000000) (h : PLies w x v) :
    Calls Tryz.prog 38 #[v] w fun e w' => ∃ ov, e = .returned ov ∧ StrsAt w' (procNs x.procs) ov ∧ CapOk ov (procNs x.procs).length ∧ Below w.heap.size w w' := by
  obtain ⟨ga, gc, la, lc, pa, pc, rfl, _, _, h3⟩ := h
  obtain ⟨hlen, a, cap, e, hk⟩ := h3
  simp at e
  obtain ⟨rfl, rfl⟩ := e
  obtain ⟨i0, hi, hz0, hz1, hz2⟩ := info_parts infoStrR
  have HK := Lib.hid hk
  have X0 := Lib.hid (Box3.new w (.slice ga x.globals.length gc) (.slice la x.locks.length lc) (.slice pa x.procs.length pc) 27)
  clear hk
  generalize x.procs = ps at hlen HK X0 hx ⊢
  have B0 : Hid (Below w.heap.size w ((w.alloc (.cells #[.slice ga x.globals.length gc, .slice la x.locks.length lc, .slice pa ps.length pc] 27)).alloc (.cells #[] 9))) := ((Below.refl w.heap.size w).alloc (Nat.le_refl _) _).alloc (by simp) _
  have R0 : Hid (((w.alloc (.cells #[.slice ga x.globals.length gc, .slice la x.locks.length lc, .slice pa ps.length pc] 27)).alloc (.cells #[] 9)).ownsRow (w.heap.size + 1) 9 1 (.slice (some ⟨w.heap.size + 1, 0, none⟩) 0 0) 0 []) := ⟨rfl, .inr ⟨w.heap.size + 1, 0, #[], rfl, Nat.le_refl _, by have := heap_alloc_new (w.alloc (.cells #[.slice ga x.globals.length gc, .slice la x.locks.length lc, .slice pa ps.length pc] 27)) (.cells #[] 9); simpa using this, Nat.le_refl _, by decide, rfl, rfl⟩⟩
  have X1 : Hid (Box3 ((w.alloc (.cells #[.slice ga x.globals.length gc, .slice la x.locks.length lc, .slice pa ps.length pc] 27)).alloc (.cells #[] 9)) w.heap.size (.slice ga x.globals.length gc) (.slice la x.locks.length lc) (.slice pa ps.length pc)) := X0.out.keep (keeps_alloc _ _)
  clear X0
  go_enter Tryz.func38, Tryz.ntmps38
  go_wp2
  go_loopw [3, 4] (fun o i wr => ∃ (j : Nat), j ≤ ps.length ∧ i = .int .i64 j ∧ wr.ownsRow (w.heap.size + 1) 9 1 o j (strV ((procNs ps).take j)) ∧ Hid (Below w.heap.size w wr) ∧ Hid (Box3 wr w.heap.size (.slice ga x.globals.length gc) (.slice la x.locks.length lc) (.slice pa ps.length pc)) ∧ w.heap.size + 1 ≤ wr.heap.size)
    (fun _ i _ => ps.length - (intOf i).toNat)
  case atStart => exact ⟨0, Nat.zero_le _, rfl, R0.out, B0.out, X1.out, by simp⟩
  case round =>
    obtain ⟨j, hj, rfl, hrow, hbe, hbx, hws⟩ := hrel
    obtain ⟨oa, oc, rfl, _⟩ := row_shape hrow
    have HROW := Lib.hid hrow
    obtain ⟨p0, p1, p2⟩ := hbx.out
    have hmx := row_small hrow
    clear hrow
    by_cases hlt : j < ps.length
    · obtain ⟨g, o, rfl, hl⟩ := HK.out (by omega)
      obtain ⟨h0, ba, bc, c0, c1, _⟩ := hl j hlt
      have d0 := keeps_below hbe.out _ _ c0
      have HT : Hid (strV ((procNs ps).take (j + 1)) = strV ((procNs ps).take j) ++ [.string ps[j].name]) := by
        show _ = _
        have hpl : j < (procNs ps).length := by unfold procNs; simpa using hlt
        rw [List.take_add_one, List.getElem?_eq_getElem hpl]
        simp [strV, procNs]
      clear hl c0 c1
      go_wp2_with (at_builtin; refine wpList_append_lies _ rfl (.tmp 13) (.tmp 20) 24 rfl (w.heap.size + 1) 9 i0 (.string ⟨#[]⟩) 1 16 Tryz.underlying24 hi hz0 hz1 hz2 rfl (by decide) (.slice oa j oc) j _ rfl (HROW.out.alloc _) ⟨wr.heap.size, 0, none⟩ 1 1 [.string ps[j].name] rfl rfl (World.news_of_block (heap_alloc_new _ _)) (one_textR _) (by decide) (by unfold maxLen; omega) (by omega) (by simp; omega) _ rfl ?_)
      intro g1 cap1 w1 hown1 hg1 hat1 hlt1
      rw [← HT.out] at hown1
      have hnb : ∀ k, (Value.slice oa j oc).ownBlock = some k → w.heap.size + 1 ≤ k := fun k hk => (HROW.out.lt k hk).1
      have HB1 : Hid (Below w.heap.size w w1) := (hbe.out.alloc hbe.out.size _).grown hg1 (by have := hbe.out.size; simp; omega) (fun k hk => by have := hnb k hk; omega)
      have HX1 : Hid (Box3 w1 w.heap.size (.slice ga x.globals.length gc) (.slice la x.locks.length lc) (.slice (some ⟨g, o, none⟩) ps.length pc)) := by
        have hx := hbx.out.keep (w' := wr.alloc (.cells #[.string ps[j].name] 9)) (keeps_alloc _ _)
        have hblk : w1.heap[w.heap.size]? = (wr.alloc (.cells #[.string ps[j].name] 9)).heap[w.heap.size]? := hg1.block _ (by simp; omega) (fun e => by have := hnb _ e.symm; omega)
        exact ⟨(World.cell?_of_block hblk).trans hx.1, (World.cell?_of_block hblk).trans hx.2.1, (World.cell?_of_block hblk).trans hx.2.2⟩
      have hw1 : w.heap.size + 1 ≤ w1.heap.size := by have := hg1.size; simp at this; omega
      have HR1 := Lib.hid hown1
      clear hown1 hg1 hat1 hlt1 hnb
      go_wp2
      go_roundw
      case rel => exact ⟨j + 1, by omega, by go_num, HR1.out, HB1.out, HX1.out, hw1⟩
      case measure => simp [intOf]; omega
    · have hje : j = ps.length := by omega
      have HS : Hid (StrsAt wr (procNs ps) (.slice oa j oc)) := by
        have h := strsAt_row (ss := (procNs ps).take j) (by simp [procNs]; omega) HROW.out
        rw [List.take_of_length_le (by simp [procNs]; omega)] at h
        exact h
      have HCP : Hid (CapOk (.slice oa j oc) (procNs ps).length) := by
        have e : (procNs ps).length = j := by simp [procNs]; omega
        show CapOk _ _
        rw [e]; exact cap_row HROW.out
      go_wp2
      go_ret
      exact ⟨_, rfl, HS.out, HCP.out, hbe.out⟩
end Go.Proofs.YtkfeiekgdfklmaaGreatDoor.Trm
/- The model's l07Unknown, walked: the names that are not there in a list of statements. Conditions: the program and the statements lie in memory that is older than the list of names; at most 2 to the 20 of them. -/
namespace Go.Proofs.YtkfeiekgdfklmaaGreatDoor.Trm
open Go.RowKit Own
theorem Moves.of_below {w w' : World} (v : Value) (h : Below w.heap.size w w') : Moves w v w' v := ⟨⟨h.os, h.tape, h.output, h.size, fun k hk _ => h.block k hk⟩, .inl rfl⟩
theorem readsU_le (x : PTree) (k : Int) (t : Tree) (acc : List ByteArray) : (readsU x k t acc).length ≤ acc.length + (1 + szT t) := by
  have fold : ∀ (l acc : List ByteArray), (l.foldl (addU x.globals) acc).length ≤ acc.length + l.length := by
    intro l
    induction l with
    | nil => intro acc; simp
    | cons s r ih =>
      intro acc
      have h1 := ih (addU x.globals acc s)
      have h2 := addU_le x.globals acc s
      simp only [List.foldl_cons, List.length_cons]
      omega
  unfold readsU
  split
  · have := fold (readsOfT t) acc
    have := readsOfT_le t
    omega
  · omega
theorem headU_le (x : PTree) (k : Int) (s : ByteArray) (acc : List ByteArray) : (headU x k s acc).length ≤ acc.length + 1 := by
  unfold headU
  split
  · exact addU_le ..
  · split
    · exact addU_le ..
    · split
      · exact addU_le ..
      · omega
mutual
theorem unkX_le (x : PTree) : ∀ (y : STree) (acc : List ByteArray), (unkX x y acc).length ≤ acc.length + (2 + 3 * szX y)
  | .node k s t b e, acc => by
    rw [unkX, szX]
    have h1 := unkXS_le x e (unkXS x b (readsU x k t (headU x k s acc)))
    have h2 := unkXS_le x b (readsU x k t (headU x k s acc))
    have h3 := readsU_le x k t (headU x k s acc)
    have h4 := headU_le x k s acc
    omega
theorem unkXS_le (x : PTree) : ∀ (xs : List STree) (acc : List ByteArray), (unkXS x xs acc).length ≤ acc.length + (2 * xs.length + 3 * szXS xs)
  | [], acc => by rw [unkXS]; omega
  | y :: r, acc => by
    rw [unkXS, szXS, List.length_cons]
    have h1 := unkXS_le x r (unkX x y acc)
    have h2 := unkX_le x y acc
    omega
end
def UnkOk (x : PTree) (xs : List STree) : Prop := ∀ (pv v ov : Value) (w0 w : World) (acc : List ByteArray), acc.length + (2 * xs.length + 3 * szXS xs) ≤ 8000000 → szXS xs ≤ 1048576 → x.procs.length ≤ 8000000 → PLies w0 x pv → SListAt w0 v xs → Below w0.heap.size w0 w → w.ownsRow w0.heap.size 9 1 ov acc.length (strV acc) →
    Calls Tryz.prog 45 #[pv, v, ov] w fun e w' => ∃ ov', e = .returned ov' ∧ w'.ownsRow w0.heap.size 9 1 ov' (unkXS x xs acc).length (strV (unkXS x xs acc)) ∧ Moves w ov w' ov'
/-- A list of names of the call's own, at the world of an operation. -/
def RowAt (w0 w : World) (acc : List ByteArray) (v : Value) : Prop := w.ownsRow w0.heap.size 9 1 v acc.length (strV acc)
theorem blk3 {w w' : World} {v v' : Value} {b : Nat} {T : TypeId} {c0 c1 c2 : Value} (h : Moves w v w' v') (hg : w.heap[b]? = some (.cells #[c0, c1, c2] T (0, 0))) (hn : v.ownBlock ≠ some b) : (w'.heap[b]? = some (.cells #[c0, c1, c2] T (0, 0)) ∧ v'.ownBlock ≠ some b) ∧ Box3 w' b c0 c1 c2 := by
  have h2 := h.blk hg hn
  refine ⟨h2, ?_, ?_, ?_⟩ <;> (rw [cell_of_row w' b _ _ _ _ h2.1]; rfl)
theorem blk8 {w w' : World} {v v' : Value} {b : Nat} {T : TypeId} {c0 c1 c2 c3 c4 c5 c6 c7 : Value} (h : Moves w v w' v') (hg : w.heap[b]? = some (.cells #[c0, c1, c2, c3, c4, c5, c6, c7] T (0, 0))) (hn : v.ownBlock ≠ some b) : (w'.heap[b]? = some (.cells #[c0, c1, c2, c3, c4, c5, c6, c7] T (0, 0)) ∧ v'.ownBlock ≠ some b) ∧ Box8 w' b c0 c1 c2 c3 c4 c5 c6 c7 := by
  have h2 := h.blk hg hn
  refine ⟨h2, ?_, ?_, ?_, ?_, ?_, ?_, ?_, ?_⟩ <;> (rw [cell_of_row w' b _ _ _ _ h2.1]; rfl)
set_option maxRecDepth 20000 in
set_option maxHeartbeats 3200000 in
theorem unk_list (x : PTree) (xs : List STree) (ih : ∀ y, y ∈ xs → UnkOk x y.body ∧ UnkOk x y.els) : UnkOk x xs := fun pv v ov w0 w acc ha hz hpl hp hl hbe hown => by
  obtain ⟨ga, gc, la, lc, pa, pc, rfl, hpg, hpk, hpp⟩ := id hp
  obtain ⟨hlen, aa, cap, rfl, hk⟩ := hl
  have IH := Lib.hid ih
  have HK := Lib.hid hk
  have HZ := Lib.hid ha
  have HZ2 := Lib.hid hz
  have HP := Lib.hid hp
  have HG := Lib.hid hpg.1
  have HLK := Lib.hid hpk.1
  have HB0 : Hid (Below w0.heap.size w0 (w.alloc (.cells #[.slice ga x.globals.length gc, .slice la x.locks.length lc, .slice pa x.procs.length pc] 27))) := hbe.alloc hbe.size _
  have HO : Hid ((w.alloc (.cells #[.slice ga x.globals.length gc, .slice la x.locks.length lc, .slice pa x.procs.length pc] 27)).ownsRow w0.heap.size 9 1 ov acc.length (strV acc)) := hown.alloc _
  have HPB : Hid ((w.alloc (.cells #[.slice ga x.globals.length gc, .slice la x.locks.length lc, .slice pa x.procs.length pc] 27)).heap[w.heap.size]? = some (.cells #[.slice ga x.globals.length gc, .slice la x.locks.length lc, .slice pa x.procs.length pc] 27 (0, 0))) := heap_alloc_new _ _
  have HNO : Hid (ov.ownBlock ≠ some w.heap.size) := row_not hown
  have HMV : Hid (Moves w ov (w.alloc (.cells #[.slice ga x.globals.length gc, .slice la x.locks.length lc, .slice pa x.procs.length pc] 27)) ov) := Moves.alloc _ _ _
  have hbs : w0.heap.size ≤ w.heap.size := hbe.size
  have X0 := Lib.hid (Box3.new w (.slice ga x.globals.length gc) (.slice la x.locks.length lc) (.slice pa x.procs.length pc) 27)
  clear ih hk ha hown hbe hz hp hpg hpk hpp
  go_enter Tryz.func45, Tryz.ntmps45
  go_wp2
  obtain ⟨WP, hWP⟩ : ∃ w1, w1 = w.alloc (.cells #[.slice ga x.globals.length gc, .slice la x.locks.length lc, .slice pa x.procs.length pc] 27) := ⟨_, rfl⟩
  rw [← hWP] at HB0 HO HPB HMV
  rw [← hWP]
  clear X0 hWP
  obtain ⟨B, hB⟩ : ∃ n, n = w.heap.size := ⟨_, rfl⟩
  rw [← hB] at HPB HNO
  rw [← hB]
  clear hB
  go_loopw [2, 7] (fun o i wr => ∃ (j : Nat) (ac : List ByteArray), j ≤ xs.length ∧ i = .int .i64 j ∧ Hid (unkXS x xs acc = unkXS x (xs.drop j) ac) ∧ Hid (ac.length + (2 * (xs.drop j).length + 3 * szXS (xs.drop j)) ≤ 8000000) ∧ wr.ownsRow w0.heap.size 9 1 o ac.length (strV ac) ∧ Hid (Moves WP ov wr o))
    (fun _ i _ => xs.length - (intOf i).toNat)
  case atStart => exact ⟨0, acc, Nat.zero_le _, rfl, rfl, by show _ ≤ _; simpa using HZ.out, HO.out, Moves.refl _ _⟩
  case round =>
    obtain ⟨j, ac, hj, rfl, hsz, hzr, hrow, hmv⟩ := hrel
    by_cases hlt : j < xs.length
    · obtain ⟨g, o, rfl, hl⟩ := HK.out (by omega)
      obtain ⟨oa, oc, rfl, _⟩ := row_shape hrow
      have HROW := Lib.hid hrow
      clear hrow
      have HBR := Lib.hid (hmv.out.below HB0.out HO.out)
      obtain ⟨ta, tc, ba, bc, ea, ec, c0, c1, c2, c3, c4, c5, c6, c7, hl2⟩ := hl.at j hlt
      obtain ⟨hlt2, lb, le⟩ := hl2.lists
      have hcd : (xs.drop j).length = (xs.drop (j + 1)).length + 1 := by rw [List.drop_eq_getElem_cons hlt, List.length_cons]
      have hsd := szXS_drop hlt
      have hsx : szX xs[j] ≤ 1048576 := by have := szXS_mem (List.getElem_mem hlt); have := HZ2.out; omega
      rw [szX_eq] at hsd hsx
      have hin := IH.out xs[j] (List.getElem_mem hlt)
      have IB := Lib.hid (fun ac ov wx hz hb hr => hin.1 _ _ ov w0 wx ac hz (by omega) hpl HP.out lb hb hr)
      have IE := Lib.hid (fun ac ov wx hz hb hr => hin.2 _ _ ov w0 wx ac hz (by omega) hpl HP.out le hb hr)
      have hke := keeps_below HBR.out
      have d0 := hke _ _ c0
      have d1 := hke _ _ c1
      have d2 := hke _ _ c2
      have d3 := hke _ _ c3
      have d4 := hke _ _ c4
      have d5 := hke _ _ c5
      have d6 := hke _ _ c6
      have d7 := hke _ _ c7
      have HTL := Lib.hid hlt2
      have hxl : xs.length ≤ 9223372036854775807 := hlen
      have HHE := Lib.hid ((unkXS_drop x hlt ac).trans (by rw [unkX_eq]))
      have hU1 := unkXS_le x xs[j].body (readsU x xs[j].kind xs[j].term (headU x xs[j].kind xs[j].name ac))
      have hU2 := unkXS_le x xs[j].els (unkXS x xs[j].body (readsU x xs[j].kind xs[j].term (headU x xs[j].kind xs[j].name ac)))
      have hU3 := readsU_le x xs[j].kind xs[j].term (headU x xs[j].kind xs[j].name ac)
      have hU4 := headU_le x xs[j].kind xs[j].name ac
      have hzz := hzr.out
      clear hl hl2 lb le hke c0 c1 c2 c3 c4 c5 c6 c7 hin hlt2
      generalize xs[j].kind = k at *
      generalize xs[j].name = nm at *
      generalize xs[j].term = tm at *
      generalize xs[j].body = bd at *
      generalize xs[j].els = el at *
      have W1B : Hid (Below w0.heap.size w0 (wr.alloc (.cells #[.int .i64 k, .string nm, .int .i64 tm.kind, .int .i64 tm.num, .string tm.name, .slice ta tm.kids.length tc, .slice ba bd.length bc, .slice ea el.length ec] 36))) := HBR.out.alloc HBR.out.size _
      have HM1 : Hid (Moves WP ov (wr.alloc (.cells #[.int .i64 k, .string nm, .int .i64 tm.kind, .int .i64 tm.num, .string tm.name, .slice ta tm.kids.length tc, .slice ba bd.length bc, .slice ea el.length ec] 36)) (.slice oa ac.length oc)) := hmv.out.trans (Moves.alloc _ _ _)
      have HR1 : Hid ((wr.alloc (.cells #[.int .i64 k, .string nm, .int .i64 tm.kind, .int .i64 tm.num, .string tm.name, .slice ta tm.kids.length tc, .slice ba bd.length bc, .slice ea el.length ec] 36)).ownsRow w0.heap.size 9 1 (.slice oa ac.length oc) ac.length (strV ac)) := HROW.out.alloc _
      have HSB : Hid ((wr.alloc (.cells #[.int .i64 k, .string nm, .int .i64 tm.kind, .int .i64 tm.num, .string tm.name, .slice ta tm.kids.length tc, .slice ba bd.length bc, .slice ea el.length ec] 36)).heap[wr.heap.size]? = some (.cells #[.int .i64 k, .string nm, .int .i64 tm.kind, .int .i64 tm.num, .string tm.name, .slice ta tm.kids.length tc, .slice ba bd.length bc, .slice ea el.length ec] 36 (0, 0))) := heap_alloc_new _ _
      have HSN : Hid ((Value.slice oa ac.length oc).ownBlock ≠ some wr.heap.size) := row_not HROW.out
      clear HBR
      obtain ⟨W1, hW1⟩ : ∃ w1, w1 = wr.alloc (.cells #[.int .i64 k, .string nm, .int .i64 tm.kind, .int .i64 tm.num, .string tm.name, .slice ta tm.kids.length tc, .slice ba bd.length bc, .slice ea el.length ec] 36) := ⟨_, rfl⟩
      have HAL : Hid (ac.length ≤ 8000000 - 2) := by show _ ≤ _; omega
      have HXL := Lib.hid hpl
      go_upto_block 2 with fail
      clear d0 d1 d2 d3 d4 d5 d6 d7
      rw [← hW1] at W1B HM1 HR1 HSB
      rw [← hW1]
      clear hW1
      obtain ⟨S, hS⟩ : ∃ n, n = wr.heap.size := ⟨_, rfl⟩
      rw [← hS] at HSB HSN
      rw [← hS]
      clear hS
      obtain ⟨s0, s1, s2, s3, s4, s5, s6, s7⟩ := (blk8 (Moves.refl W1 (.slice oa ac.length oc)) HSB.out HSN.out).2
      have HPB1 := Lib.hid (HM1.out.blk HPB.out HNO.out)
      obtain ⟨p0, p1, p2⟩ := (blk3 HM1.out HPB.out HNO.out).2
      go_cut [2] (fun s2 wx => ∃ oa2 oc2, s2 = .slice oa2 (headU x k nm ac).length oc2 ∧ Hid (wx.ownsRow w0.heap.size 9 1 s2 (headU x k nm ac).length (strV (headU x k nm ac))) ∧ Hid (Moves W1 (.slice oa ac.length oc) wx s2))
      case first =>
        rcases (by omega : k = 1 ∨ k = 6 ∨ k = 7 ∨ k = 4 ∨ k = 5 ∨ (k ≠ 1 ∧ k ≠ 6 ∧ k ≠ 7 ∧ k ≠ 4 ∧ k ≠ 5)) with hkk | hkk | hkk | hkk | hkk | ⟨n1, n6, n7, n4, n5⟩
        · have k1 : (k == 1) = true := by simp [hkk]
          have HU : Hid (headU x k nm ac = addU x.globals ac nm) := by show _ = _; unfold headU; rw [if_pos hkk]
          clear hkk
          go_wp2_with fail
          refine (specAdd_any x.globals ac (.slice ga x.globals.length gc) (.slice oa ac.length oc) nm w0 W1 (by have := HAL.out; omega) (HG.out.keep (keeps_below W1B.out)) W1B.out HR1.out).mono ?_
          rintro e w2 ⟨ov2, rfl, hr2, hm2⟩
          obtain ⟨oa2, oc2, rfl, _⟩ := row_shape hr2
          have HR2 := Lib.hid hr2
          have HM2 := Lib.hid hm2
          clear hr2 hm2
          go_wp2_with fail
          go_meet
          rw [HU.out]
          exact ⟨oa2, oc2, rfl, HR2.out, HM2.out⟩
        · have k1 : (k == 1) = false := by rw [beq_eq_false_iff_ne]; omega
          have k6 : (k == 6) = true := by simp [hkk]
          have HU : Hid (headU x k nm ac = addU x.locks ac nm) := by show _ = _; unfold headU; rw [if_neg (by omega), if_pos (by omega)]
          clear hkk
          go_wp2_with fail
          refine (specAdd_any x.locks ac (.slice la x.locks.length lc) (.slice oa ac.length oc) nm w0 W1 (by have := HAL.out; omega) (HLK.out.keep (keeps_below W1B.out)) W1B.out HR1.out).mono ?_
          rintro e w2 ⟨ov2, rfl, hr2, hm2⟩
          obtain ⟨oa2, oc2, rfl, _⟩ := row_shape hr2
          have HR2 := Lib.hid hr2
          have HM2 := Lib.hid hm2
          clear hr2 hm2
          go_wp2_with fail
          go_meet
          rw [HU.out]
          exact ⟨oa2, oc2, rfl, HR2.out, HM2.out⟩
        · have k1 : (k == 1) = false := by rw [beq_eq_false_iff_ne]; omega
          have k6 : (k == 6) = false := by rw [beq_eq_false_iff_ne]; omega
          have k7 : (k == 7) = true := by simp [hkk]
          have HU : Hid (headU x k nm ac = addU x.locks ac nm) := by show _ = _; unfold headU; rw [if_neg (by omega), if_pos (by omega)]
          clear hkk
          go_wp2_with fail
          refine (specAdd_any x.locks ac (.slice la x.locks.length lc) (.slice oa ac.length oc) nm w0 W1 (by have := HAL.out; omega) (HLK.out.keep (keeps_below W1B.out)) W1B.out HR1.out).mono ?_
          rintro e w2 ⟨ov2, rfl, hr2, hm2⟩
          obtain ⟨oa2, oc2, rfl, _⟩ := row_shape hr2
          have HR2 := Lib.hid hr2
          have HM2 := Lib.hid hm2
          clear hr2 hm2
          go_wp2_with fail
          go_meet
          rw [HU.out]
          exact ⟨oa2, oc2, rfl, HR2.out, HM2.out⟩
        · have k1 : (k == 1) = false := by rw [beq_eq_false_iff_ne]; omega
          have k6 : (k == 6) = false := by rw [beq_eq_false_iff_ne]; omega
          have k7 : (k == 7) = false := by rw [beq_eq_false_iff_ne]; omega
          have k4 : (k == 4) = true := by simp [hkk]
          have HU : Hid (headU x k nm ac = addU (procNs x.procs) ac nm) := by show _ = _; unfold headU; rw [if_neg (by omega), if_neg (by omega), if_pos (by omega)]
          have hb0 : Below W1.heap.size W1 W1.drew := (Below.refl _ _).drew
          have CP := Lib.hid (fun wx (hb : Below W1.heap.size W1 wx) => specProcs_any x (.agg #[.slice ga x.globals.length gc, .slice la x.locks.length lc, .slice pa x.procs.length pc]) wx HXL.out (HP.out.keep (keeps_below (W1B.out.trans (hb.mono W1B.out.size)))))
          have CA := Lib.hid (fun wx kv (hb : Below W1.heap.size W1 wx) hk => specAdd_any (procNs x.procs) ac kv (.slice oa ac.length oc) nm w0 wx (by have := HAL.out; omega) hk (W1B.out.trans (hb.mono W1B.out.size)) (row_below HR1.out hb))
          have KN := Lib.hid (fun wx (hb : Below W1.heap.size W1 wx) => keeps_below hb _ _ s1)
          have sd1 : W1.drew.cell? ⟨S, 1, none⟩ = some (.string nm) := s1
          clear hkk
          go_wp2_with fail
          go_region_with (first
            | (go_at_call 38; refine (CP.out _ (by assumption)).mono ?_; rintro e w2 ⟨kv, rfl, hk2, hc2, hb2⟩; obtain ⟨ka, kc, rfl, hkc⟩ := hc2; have hb2w := hb0.trans (hb2.mono hb0.size); have sn2 := KN.out _ hb2w)
            | (go_at_call 100; refine (CA.out _ _ hb2w hk2).mono ?_; rintro e w3 ⟨ov3, rfl, hr3, hm3⟩; obtain ⟨oa2, oc2, rfl, _⟩ := row_shape hr3))
          all_goals
            have HR3 := Lib.hid hr3
            have HM3 := Lib.hid ((Moves.of_below _ hb2w).trans hm3)
            clear hr3 hm3
            go_wp2_with fail
            go_meet
            rw [HU.out]
            exact ⟨oa2, oc2, rfl, HR3.out, HM3.out⟩
        · have k1 : (k == 1) = false := by rw [beq_eq_false_iff_ne]; omega
          have k6 : (k == 6) = false := by rw [beq_eq_false_iff_ne]; omega
          have k7 : (k == 7) = false := by rw [beq_eq_false_iff_ne]; omega
          have k4 : (k == 4) = false := by rw [beq_eq_false_iff_ne]; omega
          have k5 : (k == 5) = true := by simp [hkk]
          have HU : Hid (headU x k nm ac = addU (procNs x.procs) ac nm) := by show _ = _; unfold headU; rw [if_neg (by omega), if_neg (by omega), if_pos (by omega)]
          have hb0 : Below W1.heap.size W1 W1.drew := (Below.refl _ _).drew
          have CP := Lib.hid (fun wx (hb : Below W1.heap.size W1 wx) => specProcs_any x (.agg #[.slice ga x.globals.length gc, .slice la x.locks.length lc, .slice pa x.procs.length pc]) wx HXL.out (HP.out.keep (keeps_below (W1B.out.trans (hb.mono W1B.out.size)))))
          have CA := Lib.hid (fun wx kv (hb : Below W1.heap.size W1 wx) hk => specAdd_any (procNs x.procs) ac kv (.slice oa ac.length oc) nm w0 wx (by have := HAL.out; omega) hk (W1B.out.trans (hb.mono W1B.out.size)) (row_below HR1.out hb))
          have KN := Lib.hid (fun wx (hb : Below W1.heap.size W1 wx) => keeps_below hb _ _ s1)
          have sd1 : W1.drew.cell? ⟨S, 1, none⟩ = some (.string nm) := s1
          clear hkk
          go_wp2_with fail
          go_region_with (first
            | (go_at_call 38; refine (CP.out _ (by assumption)).mono ?_; rintro e w2 ⟨kv, rfl, hk2, hc2, hb2⟩; obtain ⟨ka, kc, rfl, hkc⟩ := hc2; have hb2w := hb0.trans (hb2.mono hb0.size); have sn2 := KN.out _ hb2w)
            | (go_at_call 100; refine (CA.out _ _ hb2w hk2).mono ?_; rintro e w3 ⟨ov3, rfl, hr3, hm3⟩; obtain ⟨oa2, oc2, rfl, _⟩ := row_shape hr3))
          all_goals
            have HR3 := Lib.hid hr3
            have HM3 := Lib.hid ((Moves.of_below _ hb2w).trans hm3)
            clear hr3 hm3
            go_wp2_with fail
            go_meet
            rw [HU.out]
            exact ⟨oa2, oc2, rfl, HR3.out, HM3.out⟩
        · have k1 : (k == 1) = false := by rw [beq_eq_false_iff_ne]; exact n1
          have k6 : (k == 6) = false := by rw [beq_eq_false_iff_ne]; exact n6
          have k7 : (k == 7) = false := by rw [beq_eq_false_iff_ne]; exact n7
          have k4 : (k == 4) = false := by rw [beq_eq_false_iff_ne]; exact n4
          have k5 : (k == 5) = false := by rw [beq_eq_false_iff_ne]; exact n5
          have HU : Hid (headU x k nm ac = ac) := by show _ = _; unfold headU; rw [if_neg (by omega), if_neg (by omega), if_neg (by omega)]
          clear n1 n6 n7 n4 n5
          go_wp2_with fail
          go_meet
          rw [HU.out]
          exact ⟨oa, oc, rfl, HR1.out, Moves.refl _ _⟩
      case rest =>
        obtain ⟨oa2, oc2, rfl, HR2, HM2⟩ := hcut
        obtain ⟨w2, hw2⟩ : ∃ w0, w0 = wc := ⟨_, rfl⟩
        subst hw2
        generalize headU x k nm ac = a1 at *
        have HSB2 := Lib.hid (blk8 HM2.out HSB.out HSN.out).1
        have HPB2 := Lib.hid (blk3 HM2.out HPB1.out.1 HPB1.out.2).1
        have HMT2 := Lib.hid (HM1.out.trans HM2.out)
        have HBW2 := Lib.hid (HM2.out.below W1B.out HR1.out)
        have hRB : ∀ q, (Value.slice oa2 a1.length oc2).ownBlock = some q → q < w2.heap.size := fun q e => (HR2.out.lt q e).2
        have HRB := Lib.hid hRB
        have HSX : Hid (szT tm ≤ 1048576) := by show _ ≤ _; omega
        clear s0 s1 s2 s3 s4 s5 s6 s7 p0 p1 p2 hRB HSB HSN HPB1 HM1 HM2 HR1 W1B
        obtain ⟨s0, s1, s2, s3, s4, s5, s6, s7⟩ := (blk8 (Moves.refl w2 (.slice oa2 a1.length oc2)) HSB2.out.1 HSB2.out.2).2
        obtain ⟨p0, p1, p2⟩ := (blk3 (Moves.refl w2 (.slice oa2 a1.length oc2)) HPB2.out.1 HPB2.out.2).2
        obtain ⟨Bq, hBq⟩ : ∃ b : Bool, b = decide (k = 1 ∨ k = 2 ∨ k = 3) := ⟨_, rfl⟩
        have HBQ := Lib.hid hBq
        clear hBq
        go_upto_region 14 with fail
        go_cut [61] (fun s61 wx => s61 = .bool Bq ∧ wx = w2)
        case first =>
          rcases (by omega : k = 1 ∨ k = 2 ∨ k = 3 ∨ (k ≠ 1 ∧ k ≠ 2 ∧ k ≠ 3)) with hkk | hkk | hkk | ⟨n1, n2, n3⟩
          · have k1 : (k == 1) = true := by simp [hkk]
            have hb : Bq = true := by rw [HBQ.out]; simp [hkk]
            clear hkk
            go_wp2_with fail
            go_meet
            exact ⟨by rw [hb], rfl⟩
          · have k1 : (k == 1) = false := by rw [beq_eq_false_iff_ne]; omega
            have k2 : (k == 2) = true := by simp [hkk]
            have hb : Bq = true := by rw [HBQ.out]; simp [hkk]
            clear hkk
            go_wp2_with fail
            go_meet
            exact ⟨by rw [hb], rfl⟩
          · have k1 : (k == 1) = false := by rw [beq_eq_false_iff_ne]; omega
            have k2 : (k == 2) = false := by rw [beq_eq_false_iff_ne]; omega
            have k3 : (k == 3) = true := by simp [hkk]
            have hb : Bq = true := by rw [HBQ.out]; simp [hkk]
            clear hkk
            go_wp2_with fail
            go_meet
            exact ⟨by rw [hb], rfl⟩
          · have k1 : (k == 1) = false := by rw [beq_eq_false_iff_ne]; exact n1
            have k2 : (k == 2) = false := by rw [beq_eq_false_iff_ne]; exact n2
            have k3 : (k == 3) = false := by rw [beq_eq_false_iff_ne]; exact n3
            have hb : Bq = false := by rw [HBQ.out]; simp [n1, n2, n3]
            clear n1 n2 n3
            go_wp2_with fail
            go_meet
            exact ⟨by rw [hb], rfl⟩
        case rest =>
          obtain ⟨rfl, hwc⟩ := hcut
          rw [hwc]
          clear hwc
          go_upto_if 61 with fail
          go_cut [2] (fun s2 wx => ∃ oa3 oc3, s2 = .slice oa3 (readsU x k tm a1).length oc3 ∧ Hid (wx.ownsRow w0.heap.size 9 1 s2 (readsU x k tm a1).length (strV (readsU x k tm a1))) ∧ Hid (Moves w2 (.slice oa2 a1.length oc2) wx s2))
          case first =>
            cases Bq with
            | false =>
              have hkk : ¬ (k = 1 ∨ k = 2 ∨ k = 3) := by have := HBQ.out; simpa using this.symm
              have HU : Hid (readsU x k tm a1 = a1) := by show _ = _; unfold readsU; rw [if_neg hkk]
              clear hkk
              go_wp2_with fail
              go_meet
              rw [HU.out]
              exact ⟨oa2, oc2, rfl, HR2.out, Moves.refl _ _⟩
            | true =>
              have hkk : k = 1 ∨ k = 2 ∨ k = 3 := by have := HBQ.out; simpa using this.symm
              have HU : Hid (readsU x k tm a1 = (readsOfT tm).foldl (addU x.globals) a1) := by show _ = _; unfold readsU; rw [if_pos hkk]
              have HRL := Lib.hid (readsOfT_le tm)
              clear hkk
              go_wp2_with fail
              refine (specReadsOf_any tm _ w2 (HTL.out.keep (keeps_below HBW2.out)) HSX.out).mono ?_
              rintro e w3 ⟨rv, rfl, hr3, hb3⟩
              obtain ⟨ra, rc, rfl, _⟩ := row_shape hr3
              generalize readsOfT tm = rs at *
              have RS : Hid (∀ wy oy, Moves w3 (.slice oa2 a1.length oc2) wy oy → StrsAt wy rs (.slice ra rs.length rc)) := fun wy oy hm => strsAt_row rfl (row_same hr3 (fun q e => hm.1.block q (hr3.lt q e).2 (fun e2 => by have := (hr3.lt q e).1; have := HRB.out q e2.symm; omega)))
              have HM3 := Lib.hid (Moves.of_below (.slice oa2 a1.length oc2) hb3)
              have HB3 : Hid (Below w0.heap.size w0 w3) := HBW2.out.trans (hb3.mono HBW2.out.size)
              have HR3 := Lib.hid (row_below HR2.out hb3)
              have HPB3 := Lib.hid (blk3 HM3.out HPB2.out.1 HPB2.out.2).1
              have HBD : Hid (a1.length + rs.length ≤ 8000000) := by show _ ≤ _; have := HRL.out; omega
              have hrl : rs.length ≤ 8000000 := by have := HBD.out; omega
              clear hr3 hb3 s0 s1 s2 s3 s4 s5 s6 s7 p0 p1 p2 HRL
              go_wp2
              go_loopw [2, 10] (fun o i wy => ∃ (m : Nat) (b1 : List ByteArray), m ≤ rs.length ∧ i = .int .i64 m ∧ Hid (rs.foldl (addU x.globals) a1 = (rs.drop m).foldl (addU x.globals) b1) ∧ Hid (b1.length + (rs.drop m).length ≤ 8000000) ∧ wy.ownsRow w0.heap.size 9 1 o b1.length (strV b1) ∧ Hid (Moves w3 (.slice oa2 a1.length oc2) wy o))
                (fun _ i _ => rs.length - (intOf i).toNat)
              case atStart => exact ⟨0, a1, Nat.zero_le _, rfl, rfl, by show _ ≤ _; simpa using HBD.out, HR3.out, Moves.refl _ _⟩
              case round =>
                obtain ⟨m, b1, hm, rfl, hfd, hbd, hrow4, hmv4⟩ := hrel
                obtain ⟨oa4, oc4, rfl, _⟩ := row_shape hrow4
                have HR4 := Lib.hid hrow4
                clear hrow4
                by_cases hml : m < rs.length
                · obtain ⟨q0, q1, q2⟩ := (blk3 hmv4.out HPB3.out.1 HPB3.out.2).2
                  obtain ⟨ra2, rc2, e, _, hrs⟩ := RS.out _ _ hmv4.out
                  simp at e
                  obtain ⟨rfl, rfl⟩ := e
                  obtain ⟨gr, og, rfl, hrc⟩ := hrs (by omega)
                  have qn := hrc m hml
                  have HB4 := Lib.hid (hmv4.out.below HB3.out HR3.out)
                  have hb0 := (Below.refl wr.heap.size wr).drew
                  have hbl : b1.length ≤ 8000000 := by have := hbd.out; omega
                  have HFD : Hid (rs.foldl (addU x.globals) a1 = (rs.drop (m + 1)).foldl (addU x.globals) (addU x.globals b1 rs[m])) := by show _ = _; rw [hfd.out, List.drop_eq_getElem_cons hml, List.foldl_cons]
                  have HBD2 : Hid ((addU x.globals b1 rs[m]).length + (rs.drop (m + 1)).length ≤ 8000000) := by
                    show _ ≤ _
                    have h1 := addU_le x.globals b1 rs[m]
                    have h2 := hbd.out
                    rw [List.drop_eq_getElem_cons hml, List.length_cons] at h2
                    omega
                  have CA := Lib.hid (fun wx (hb : Below wr.heap.size wr wx) => specAdd_any x.globals b1 (.slice ga x.globals.length gc) (.slice oa4 b1.length oc4) rs[m] w0 wx hbl (HG.out.keep (keeps_below (HB4.out.trans (hb.mono HB4.out.size)))) (HB4.out.trans (hb.mono HB4.out.size)) (row_below HR4.out hb))
                  have q0d : wr.drew.cell? ⟨B, 0, none⟩ = some (.slice ga x.globals.length gc) := q0
                  have qnd : wr.drew.cell? ⟨gr, og + m, none⟩ = some (.string rs[m]) := qn
                  clear hrc hrs q1 q2
                  go_wp2_with fail
                  go_region_with (first
                    | (go_at_call 100; refine (CA.out _ (by assumption)).mono ?_; rintro e w5 ⟨ov5, rfl, hr5, hm5⟩))
                  all_goals
                    have HR5 := Lib.hid hr5
                    have HM5 := Lib.hid (hmv4.out.trans ((Moves.of_below _ hb0).trans hm5))
                    clear hr5 hm5
                    go_wp2_with fail
                    go_roundw
                    case rel => exact ⟨m + 1, _, by omega, by go_num, HFD, HBD2, HR5.out, HM5⟩
                    case measure => simp [intOf]; omega
                · have HF : Hid (readsU x k tm a1 = b1) := by
                    show _ = _
                    rw [HU.out, hfd.out, List.drop_of_length_le (by omega)]; rfl
                  go_wp2_with fail
                  go_meet
                  rw [HF.out]
                  exact ⟨oa4, oc4, rfl, HR4.out, HM3.out.trans hmv4.out⟩
          case rest =>
            obtain ⟨oa3, oc3, rfl, HR3, HM3⟩ := hcut
            obtain ⟨w3, hw3⟩ : ∃ w0, w0 = wc := ⟨_, rfl⟩
            subst hw3
            generalize readsU x k tm a1 = a2 at *
            clear s0 s1 s2 s3 s4 s5 s6 s7 p0 p1 p2
            have HSB3 := Lib.hid (blk8 HM3.out HSB2.out.1 HSB2.out.2).1
            have HPB3 := Lib.hid (blk3 HM3.out HPB2.out.1 HPB2.out.2).1
            have HMT3 := Lib.hid (HMT2.out.trans HM3.out)
            have HBW3 := Lib.hid (HM3.out.below HBW2.out HR2.out)
            obtain ⟨s0, s1, s2, s3, s4, s5, s6, s7⟩ := (blk8 (Moves.refl w3 (.slice oa3 a2.length oc3)) HSB3.out.1 HSB3.out.2).2
            obtain ⟨p0, p1, p2⟩ := (blk3 (Moves.refl w3 (.slice oa3 a2.length oc3)) HPB3.out.1 HPB3.out.2).2
            have HZA : Hid (a2.length + (2 * bd.length + 3 * szXS bd) ≤ 8000000) := by show _ ≤ _; omega
            have HZB : Hid ((unkXS x bd a2).length + (2 * el.length + 3 * szXS el) ≤ 8000000) := by show _ ≤ _; omega
            have HZC : Hid ((unkXS x el (unkXS x bd a2)).length + (2 * (xs.drop (j + 1)).length + 3 * szXS (xs.drop (j + 1))) ≤ 8000000) := by show _ ≤ _; omega
            clear HM3 HMT2 HBW2 HR2 HPB2 HSB2 HRB
            go_wp2_with fail
            refine (IB.out a2 _ w3 HZA.out HBW3.out HR3.out).mono ?_
            rintro e w4 ⟨ov4, rfl, hr4, hm4⟩
            have HR4 := Lib.hid hr4
            have HM4 := Lib.hid (HMT3.out.trans hm4)
            have HBW4 := Lib.hid (hm4.below HBW3.out HR3.out)
            clear s0 s1 s2 s3 s4 s5 s6 s7 p0 p1 p2
            obtain ⟨s0, s1, s2, s3, s4, s5, s6, s7⟩ := (blk8 hm4 HSB3.out.1 HSB3.out.2).2
            obtain ⟨p0, p1, p2⟩ := (blk3 hm4 HPB3.out.1 HPB3.out.2).2
            clear hr4 hm4
            go_wp2_with fail
            refine (IE.out _ _ w4 HZB.out HBW4.out HR4.out).mono ?_
            rintro e w5 ⟨ov5, rfl, hr5, hm5⟩
            have HR5 := Lib.hid hr5
            have HM5 := Lib.hid (HM4.out.trans hm5)
            have HS5 : Hid (unkXS x xs acc = unkXS x (xs.drop (j + 1)) (unkXS x el (unkXS x bd a2))) := by show _ = _; rw [hsz.out]; exact HHE.out
            clear hr5 hm5 s0 s1 s2 s3 s4 s5 s6 s7 p0 p1 p2
            go_wp2
            go_roundw
            case rel => exact ⟨j + 1, _, by omega, by go_num, HS5, HZC, HR5.out, HM5⟩
            case measure => simp [intOf]; omega
    · have HS : Hid (unkXS x xs acc = ac) := by
        show _ = _
        rw [hsz.out, unkXS_end x (by omega)]
      obtain ⟨oa, oc, rfl, _⟩ := row_shape hrow
      have HROW := Lib.hid hrow
      clear hrow
      go_wp2
      go_ret
      refine ⟨_, rfl, ?_, HMV.out.trans hmv.out⟩
      rw [HS.out]; exact HROW.out
theorem specUnk_all (x : PTree) : ∀ y : STree, UnkOk x y.body ∧ UnkOk x y.els := streeInd fun _ _ _ b e ihb ihe => ⟨unk_list x b ihb, unk_list x e ihe⟩
theorem specUnk_any (x : PTree) (xs : List STree) : UnkOk x xs := unk_list x xs fun y _ => specUnk_all x y
end Go.Proofs.YtkfeiekgdfklmaaGreatDoor.Trm
/- The model's UnknownIn, walked. Conditions: the program lies in memory; it has at most 2 to the 20 names and statements. -/
namespace Go.Proofs.YtkfeiekgdfklmaaGreatDoor.Trm
open Go.RowKit Own
noncomputable def unkIn (x : PTree) : List ByteArray := if okP x = true then unkPs x x.procs [] else []
theorem unkPs_drop (x : PTree) {ps : List PrT} {i : Nat} (h : i < ps.length) (acc : List ByteArray) : unkPs x (ps.drop i) acc = unkPs x (ps.drop (i + 1)) (unkXS x ps[i].body acc) := by
  unfold unkPs; rw [List.drop_eq_getElem_cons h, List.foldl_cons]
theorem unkPs_end (x : PTree) {ps : List PrT} {i : Nat} (h : ps.length ≤ i) (acc : List ByteArray) : unkPs x (ps.drop i) acc = acc := by
  unfold unkPs; rw [List.drop_of_length_le h]; rfl
set_option maxRecDepth 20000 in
set_option maxHeartbeats 1600000 in
theorem specUnkIn_any (x : PTree) (v : Value) (w : World) (hz : szP x ≤ 1048576) (hp : PLies w x v) :
    Calls Tryz.prog 14 #[v] w fun e w' => ∃ ov, e = .returned ov ∧ w'.ownsRow w.heap.size 9 1 ov (unkIn x).length (strV (unkIn x)) ∧ Below w.heap.size w w' := by
  obtain ⟨ga, gc, la, lc, pa, pc, rfl, hpg, hpk, hpp⟩ := id hp
  have HOK := Lib.hid (fun wx (hb : Below w.heap.size w wx) => specProgOk_any x _ wx (hp.keep (keeps_below hb)))
  obtain ⟨hplen, a, cap, e, hk⟩ := hpp
  simp at e
  obtain ⟨rfl, rfl⟩ := e
  have hpl : x.procs.length ≤ 8000000 := by unfold szP at hz; omega
  have HSZ : Hid (szPrs x.procs ≤ 1048576) := by show _ ≤ _; unfold szP at hz; omega
  have CU := Lib.hid (fun v ov wx xs acc h1 h2 h3 hb hr => specUnk_any x xs _ v ov w wx acc h1 h2 hpl hp h3 hb hr)
  have HK := Lib.hid hk
  have HUI : Hid (unkIn x = if okP x = true then unkPs x x.procs [] else []) := rfl
  obtain ⟨WP, hWP⟩ : ∃ w1, w1 = (w.alloc (.cells #[.slice ga x.globals.length gc, .slice la x.locks.length lc, .slice pa x.procs.length pc] 27)).alloc (.cells #[] 9) := ⟨_, rfl⟩
  have HB0 : Hid (Below w.heap.size w WP) := by show Below _ _ _; rw [hWP]; exact ((Below.refl w.heap.size w).alloc (Nat.le_refl _) _).alloc (by simp) _
  have HPB : Hid (WP.heap[w.heap.size]? = some (.cells #[.slice ga x.globals.length gc, .slice la x.locks.length lc, .slice pa x.procs.length pc] 27 (0, 0))) := by
    show _ = _
    rw [hWP, heap_alloc_old _ _ (by simp)]; exact heap_alloc_new _ _
  have HO : Hid (WP.ownsRow w.heap.size 9 1 (.slice (some ⟨w.heap.size + 1, 0, none⟩) 0 0) 0 []) := by
    show World.ownsRow _ _ _ _ _ _ _
    rw [hWP]
    exact ⟨rfl, .inr ⟨w.heap.size + 1, 0, #[], rfl, by omega, by have := heap_alloc_new (w.alloc (.cells #[.slice ga x.globals.length gc, .slice la x.locks.length lc, .slice pa x.procs.length pc] 27)) (.cells #[] 9); simpa using this, Nat.le_refl _, by decide, rfl, rfl⟩⟩
  have HNO : Hid ((Value.slice (some ⟨w.heap.size + 1, 0, none⟩) 0 0).ownBlock ≠ some w.heap.size) := by show _ ≠ _; simp [Value.ownBlock]
  have X0 := Lib.hid (Box3.new w (.slice ga x.globals.length gc) (.slice la x.locks.length lc) (.slice pa x.procs.length pc) 27)
  generalize unkIn x = ui at HUI ⊢
  clear hk hp hpg hpk hz
  cases hok : okP x with
  | false =>
    rw [hok] at HOK
    have HUF := HUI.out
    rw [hok] at HUF
    simp at HUF
    subst HUF
    clear HUI hok X0
    obtain ⟨p0, p1, p2⟩ := (blk3 (Moves.refl WP _) HPB.out HNO.out).2
    rw [hWP] at p0 p1 p2
    go_enter Tryz.func14, Tryz.ntmps14
    go_wp2
    go_loopw [3, 4] (fun o i wr => o = .slice (some ⟨w.heap.size + 1, 0, none⟩) 0 0 ∧ i = .int .i64 0 ∧ wr = WP)
      (fun _ _ _ => 0)
    case atStart => exact ⟨rfl, rfl, hWP.symm⟩
    case round =>
      obtain ⟨rfl, rfl, rfl⟩ := hrel
      rw [← hWP] at p0 p1 p2
      have HWP := Lib.hid hWP
      clear hWP
      go_wp2_with fail
      refine (HOK.out _ HB0.out).mono ?_
      rintro e w2 ⟨rfl, hb2⟩
      have HB2 := Lib.hid (HB0.out.trans (hb2.mono HB0.out.size))
      have HR2 := Lib.hid (row_below HO.out hb2)
      clear hb2
      go_wp2
      go_ret
      exact ⟨_, rfl, HR2.out, HB2.out⟩
  | true =>
    rw [hok] at HOK
    have HUT := HUI.out
    rw [hok] at HUT
    simp at HUT
    have HU := Lib.hid HUT
    clear HUI HUT hok X0
    obtain ⟨p0, p1, p2⟩ := (blk3 (Moves.refl WP _) HPB.out HNO.out).2
    rw [hWP] at p0 p1 p2
    have HWP := Lib.hid hWP
    go_enter Tryz.func14, Tryz.ntmps14
    go_wp2
    rw [← hWP]
    clear hWP p0 p1 p2
    generalize x.procs = ps at *
    go_loopw [3, 4] (fun o i wr => ∃ (j : Nat) (ac : List ByteArray), j ≤ ps.length ∧ i = .int .i64 j ∧ Hid (ui = unkPs x (ps.drop j) ac) ∧ Hid (ac.length + 3 * szPrs (ps.drop j) ≤ 8000000) ∧ wr.ownsRow w.heap.size 9 1 o ac.length (strV ac) ∧ Hid (Moves WP (.slice (some ⟨w.heap.size + 1, 0, none⟩) 0 0) wr o))
      (fun _ i _ => ps.length - (intOf i).toNat)
    case atStart => exact ⟨0, [], Nat.zero_le _, rfl, HU.out, by show _ ≤ _; have := HSZ.out; simp; omega, HO.out, Moves.refl _ _⟩
    case round =>
      obtain ⟨j, ac, hj, rfl, hui, hbd, hrow, hmv⟩ := hrel
      obtain ⟨oa, oc, rfl, _⟩ := row_shape hrow
      have HR := Lib.hid hrow
      clear hrow
      have HBR := Lib.hid (hmv.out.below HB0.out HO.out)
      have HPB1 := Lib.hid (blk3 hmv.out HPB.out HNO.out).1
      obtain ⟨p0, p1, p2⟩ := (blk3 hmv.out HPB.out HNO.out).2
      by_cases hlt : j < ps.length
      · obtain ⟨g, o, rfl, hl⟩ := HK.out (by omega)
        obtain ⟨h0, ba, bc, c0, c1, hbody⟩ := hl j hlt
        have hsd := szPrs_drop hlt
        have hpr : szPr ps[j] = ps[j].name.size + (ps[j].body.length + szXS ps[j].body) := rfl
        have hsm := szPrs_mem (List.getElem_mem hlt)
        have hSZ := HSZ.out
        have hbb := hbd.out
        have hUL := unkXS_le x ps[j].body ac
        have HUN : Hid (ui = unkPs x (ps.drop (j + 1)) (unkXS x ps[j].body ac)) := by show _ = _; rw [hui.out, unkPs_drop x hlt]
        have HBN : Hid ((unkXS x ps[j].body ac).length + 3 * szPrs (ps.drop (j + 1)) ≤ 8000000) := by show _ ≤ _; omega
        have CB := Lib.hid (fun wx oy hb hr => CU.out (.slice ba ps[j].body.length bc) oy wx ps[j].body ac (by omega) (by omega) hbody hb hr)
        have HCELL := Lib.hid (fun wx (hb : Below w.heap.size w wx) => keeps_below hb _ _ c1)
        clear hl c0 c1 hsd hpr hsm hbb hUL
        go_wp2_with fail
        refine (HOK.out _ HBR.out).mono ?_
        rintro e w2 ⟨rfl, hb2⟩
        have HB2 := Lib.hid (HBR.out.trans (hb2.mono HBR.out.size))
        have HR2 := Lib.hid (row_below HR.out hb2)
        have hm2 := Moves.of_below (.slice oa ac.length oc) hb2
        have HM2 := Lib.hid (hmv.out.trans hm2)
        clear p0 p1 p2
        obtain ⟨p0, p1, p2⟩ := (blk3 hm2 HPB1.out.1 HPB1.out.2).2
        have d1 := HCELL.out _ HB2.out
        have p0d : w2.drew.cell? ⟨w.heap.size, 0, none⟩ = some (.slice ga x.globals.length gc) := p0
        have p1d : w2.drew.cell? ⟨w.heap.size, 1, none⟩ = some (.slice la x.locks.length lc) := p1
        have p2d : w2.drew.cell? ⟨w.heap.size, 2, none⟩ = some (.slice (some ⟨g, o, none⟩) ps.length pc) := p2
        have d1d : w2.drew.cell? ⟨g, o + j * 2 + 1, none⟩ = some (.slice ba ps[j].body.length bc) := d1
        have HB2d := Lib.hid (HB2.out.drew)
        have HR2d := Lib.hid (row_below HR2.out ((Below.refl w2.heap.size w2).drew))
        clear hb2 hm2
        go_wp2_with fail
        go_region_with (first
          | (go_at_call 45; refine (CB.out _ _ HB2d.out HR2d.out).mono ?_; rintro e w5 ⟨ov5, rfl, hr5, hm5⟩))
        all_goals
          have HR5 := Lib.hid hr5
          have HM5 := Lib.hid (HM2.out.trans ((Moves.of_below _ ((Below.refl w2.heap.size w2).drew)).trans hm5))
          clear hr5 hm5
          go_wp2_with fail
          go_roundw
          case rel => exact ⟨j + 1, _, by omega, by go_num, HUN, HBN, HR5.out, HM5⟩
          case measure => simp [intOf]; omega
      · have HUN : Hid (ui = ac) := by show _ = _; rw [hui.out, unkPs_end x (by omega)]
        go_wp2_with fail
        refine (HOK.out _ HBR.out).mono ?_
        rintro e w2 ⟨rfl, hb2⟩
        have HB2 := Lib.hid (HBR.out.trans (hb2.mono HBR.out.size))
        have HR2 := Lib.hid (row_below HR.out hb2)
        have hm2 := Moves.of_below (.slice oa ac.length oc) hb2
        clear p0 p1 p2
        obtain ⟨p0, p1, p2⟩ := (blk3 hm2 HPB1.out.1 HPB1.out.2).2
        clear hb2 hm2
        go_wp2
        go_ret
        refine ⟨_, rfl, ?_, HB2.out⟩
        rw [HUN.out]; exact HR2.out
end Go.Proofs.YtkfeiekgdfklmaaGreatDoor.Trm
