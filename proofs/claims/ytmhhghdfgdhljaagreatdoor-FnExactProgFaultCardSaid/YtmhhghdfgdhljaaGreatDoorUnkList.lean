/- The model's l07Unknown, walked: the names that are not there in a list of statements. Conditions: the program and the statements lie in memory that is older than the list of names; at most 2 to the 20 of them. -/
import Derived.Test.YtmhhghdfgdhljaaGreatDoorUnkSpec
import Derived.Deep.RegionWith
import Derived.Deep.DeepCutAuto
import Derived.Deep.CutBlock
namespace Go.Proofs.YtmhhghdfgdhljaaGreatDoor.Trm
open Go.RowKit Own
theorem Moves.of_below {w w' : World} (v : Value) (h : Below w.heap.size w w') : Moves w v w' v := ⟨⟨h.os, h.tape, h.output, h.size, fun k hk _ => h.block k hk⟩, .inl rfl⟩
theorem readsU_le (x : PTree) (k : Int) (t : Tree) (acc : List ByteArray) : (readsU x k t acc).length ≤ acc.length + (1 + szT t) := by
  have fold : ∀ (l acc : List ByteArray), (l.foldl (addU x.globals) acc).length ≤ acc.length + l.length := by
    intro l
    induction l with
    | nil => intro acc; simp
    | cons s r ih =>
      intro acc
      have h1 := ih (addU x.globals acc s)
      have h2 := addU_le x.globals acc s
      simp only [List.foldl_cons, List.length_cons]
      omega
  unfold readsU
  split
  · have := fold (readsOfT t) acc
    have := readsOfT_le t
    omega
  · omega
theorem headU_le (x : PTree) (k : Int) (s : ByteArray) (acc : List ByteArray) : (headU x k s acc).length ≤ acc.length + 1 := by
  unfold headU
  split
  · exact addU_le ..
  · split
    · exact addU_le ..
    · split
      · exact addU_le ..
      · omega
mutual
theorem unkX_le (x : PTree) : ∀ (y : STree) (acc : List ByteArray), (unkX x y acc).length ≤ acc.length + (2 + 3 * szX y)
  | .node k s t b e, acc => by
    rw [unkX, szX]
    have h1 := unkXS_le x e (unkXS x b (readsU x k t (headU x k s acc)))
    have h2 := unkXS_le x b (readsU x k t (headU x k s acc))
    have h3 := readsU_le x k t (headU x k s acc)
    have h4 := headU_le x k s acc
    omega
theorem unkXS_le (x : PTree) : ∀ (xs : List STree) (acc : List ByteArray), (unkXS x xs acc).length ≤ acc.length + (2 * xs.length + 3 * szXS xs)
  | [], acc => by rw [unkXS]; omega
  | y :: r, acc => by
    rw [unkXS, szXS, List.length_cons]
    have h1 := unkXS_le x r (unkX x y acc)
    have h2 := unkX_le x y acc
    omega
end
def UnkOk (x : PTree) (xs : List STree) : Prop := ∀ (pv v ov : Value) (w0 w : World) (acc : List ByteArray), acc.length + (2 * xs.length + 3 * szXS xs) ≤ 8000000 → szXS xs ≤ 1048576 → x.procs.length ≤ 8000000 → PLies w0 x pv → SListAt w0 v xs → Below w0.heap.size w0 w → w.ownsRow w0.heap.size 9 1 ov acc.length (strV acc) →
    Calls Tryz.prog 121 #[pv, v, ov] w fun e w' => ∃ ov', e = .returned ov' ∧ w'.ownsRow w0.heap.size 9 1 ov' (unkXS x xs acc).length (strV (unkXS x xs acc)) ∧ Moves w ov w' ov'
/-- A list of names of the call's own, at the world of an operation. -/
def RowAt (w0 w : World) (acc : List ByteArray) (v : Value) : Prop := w.ownsRow w0.heap.size 9 1 v acc.length (strV acc)
theorem blk3 {w w' : World} {v v' : Value} {b : Nat} {T : TypeId} {c0 c1 c2 : Value} (h : Moves w v w' v') (hg : w.heap[b]? = some (.cells #[c0, c1, c2] T (0, 0))) (hn : v.ownBlock ≠ some b) : (w'.heap[b]? = some (.cells #[c0, c1, c2] T (0, 0)) ∧ v'.ownBlock ≠ some b) ∧ Box3 w' b c0 c1 c2 := by
  have h2 := h.blk hg hn
  refine ⟨h2, ?_, ?_, ?_⟩ <;> (rw [cell_of_row w' b _ _ _ _ h2.1]; rfl)
theorem blk8 {w w' : World} {v v' : Value} {b : Nat} {T : TypeId} {c0 c1 c2 c3 c4 c5 c6 c7 : Value} (h : Moves w v w' v') (hg : w.heap[b]? = some (.cells #[c0, c1, c2, c3, c4, c5, c6, c7] T (0, 0))) (hn : v.ownBlock ≠ some b) : (w'.heap[b]? = some (.cells #[c0, c1, c2, c3, c4, c5, c6, c7] T (0, 0)) ∧ v'.ownBlock ≠ some b) ∧ Box8 w' b c0 c1 c2 c3 c4 c5 c6 c7 := by
  have h2 := h.blk hg hn
  refine ⟨h2, ?_, ?_, ?_, ?_, ?_, ?_, ?_, ?_⟩ <;> (rw [cell_of_row w' b _ _ _ _ h2.1]; rfl)
set_option maxRecDepth 20000 in
set_option maxHeartbeats 3200000 in
theorem unk_list (x : PTree) (xs : List STree) (ih : ∀ y, y ∈ xs → UnkOk x y.body ∧ UnkOk x y.els) : UnkOk x xs := fun pv v ov w0 w acc ha hz hpl hp hl hbe hown => by
  obtain ⟨ga, gc, la, lc, pa, pc, rfl, hpg, hpk, hpp⟩ := id hp
  obtain ⟨hlen, aa, cap, rfl, hk⟩ := hl
  have IH := Lib.hid ih
  have HK := Lib.hid hk
  have HZ := Lib.hid ha
  have HZ2 := Lib.hid hz
  have HP := Lib.hid hp
  have HG := Lib.hid hpg.1
  have HLK := Lib.hid hpk.1
  have HB0 : Hid (Below w0.heap.size w0 (w.alloc (.cells #[.slice ga x.globals.length gc, .slice la x.locks.length lc, .slice pa x.procs.length pc] 27))) := hbe.alloc hbe.size _
  have HO : Hid ((w.alloc (.cells #[.slice ga x.globals.length gc, .slice la x.locks.length lc, .slice pa x.procs.length pc] 27)).ownsRow w0.heap.size 9 1 ov acc.length (strV acc)) := hown.alloc _
  have HPB : Hid ((w.alloc (.cells #[.slice ga x.globals.length gc, .slice la x.locks.length lc, .slice pa x.procs.length pc] 27)).heap[w.heap.size]? = some (.cells #[.slice ga x.globals.length gc, .slice la x.locks.length lc, .slice pa x.procs.length pc] 27 (0, 0))) := heap_alloc_new _ _
  have HNO : Hid (ov.ownBlock ≠ some w.heap.size) := row_not hown
  have HMV : Hid (Moves w ov (w.alloc (.cells #[.slice ga x.globals.length gc, .slice la x.locks.length lc, .slice pa x.procs.length pc] 27)) ov) := Moves.alloc _ _ _
  have hbs : w0.heap.size ≤ w.heap.size := hbe.size
  have X0 := Lib.hid (Box3.new w (.slice ga x.globals.length gc) (.slice la x.locks.length lc) (.slice pa x.procs.length pc) 27)
  clear ih hk ha hown hbe hz hp hpg hpk hpp
  go_enter Tryz.func121, Tryz.ntmps121
  go_wp2
  obtain ⟨WP, hWP⟩ : ∃ w1, w1 = w.alloc (.cells #[.slice ga x.globals.length gc, .slice la x.locks.length lc, .slice pa x.procs.length pc] 27) := ⟨_, rfl⟩
  rw [← hWP] at HB0 HO HPB HMV
  rw [← hWP]
  clear X0 hWP
  obtain ⟨B, hB⟩ : ∃ n, n = w.heap.size := ⟨_, rfl⟩
  rw [← hB] at HPB HNO
  rw [← hB]
  clear hB
  go_loopw [2, 7] (fun o i wr => ∃ (j : Nat) (ac : List ByteArray), j ≤ xs.length ∧ i = .int .i64 j ∧ Hid (unkXS x xs acc = unkXS x (xs.drop j) ac) ∧ Hid (ac.length + (2 * (xs.drop j).length + 3 * szXS (xs.drop j)) ≤ 8000000) ∧ wr.ownsRow w0.heap.size 9 1 o ac.length (strV ac) ∧ Hid (Moves WP ov wr o))
    (fun _ i _ => xs.length - (intOf i).toNat)
  case atStart => exact ⟨0, acc, Nat.zero_le _, rfl, rfl, by show _ ≤ _; simpa using HZ.out, HO.out, Moves.refl _ _⟩
  case round =>
    obtain ⟨j, ac, hj, rfl, hsz, hzr, hrow, hmv⟩ := hrel
    by_cases hlt : j < xs.length
    · obtain ⟨g, o, rfl, hl⟩ := HK.out (by omega)
      obtain ⟨oa, oc, rfl, _⟩ := row_shape hrow
      have HROW := Lib.hid hrow
      clear hrow
      have HBR := Lib.hid (hmv.out.below HB0.out HO.out)
      obtain ⟨ta, tc, ba, bc, ea, ec, c0, c1, c2, c3, c4, c5, c6, c7, hl2⟩ := hl.at j hlt
      obtain ⟨hlt2, lb, le⟩ := hl2.lists
      have hcd : (xs.drop j).length = (xs.drop (j + 1)).length + 1 := by rw [List.drop_eq_getElem_cons hlt, List.length_cons]
      have hsd := szXS_drop hlt
      have hsx : szX xs[j] ≤ 1048576 := by have := szXS_mem (List.getElem_mem hlt); have := HZ2.out; omega
      rw [szX_eq] at hsd hsx
      have hin := IH.out xs[j] (List.getElem_mem hlt)
      have IB := Lib.hid (fun ac ov wx hz hb hr => hin.1 _ _ ov w0 wx ac hz (by omega) hpl HP.out lb hb hr)
      have IE := Lib.hid (fun ac ov wx hz hb hr => hin.2 _ _ ov w0 wx ac hz (by omega) hpl HP.out le hb hr)
      have hke := keeps_below HBR.out
      have d0 := hke _ _ c0
      have d1 := hke _ _ c1
      have d2 := hke _ _ c2
      have d3 := hke _ _ c3
      have d4 := hke _ _ c4
      have d5 := hke _ _ c5
      have d6 := hke _ _ c6
      have d7 := hke _ _ c7
      have HTL := Lib.hid hlt2
      have hxl : xs.length ≤ 9223372036854775807 := hlen
      have HHE := Lib.hid ((unkXS_drop x hlt ac).trans (by rw [unkX_eq]))
      have hU1 := unkXS_le x xs[j].body (readsU x xs[j].kind xs[j].term (headU x xs[j].kind xs[j].name ac))
      have hU2 := unkXS_le x xs[j].els (unkXS x xs[j].body (readsU x xs[j].kind xs[j].term (headU x xs[j].kind xs[j].name ac)))
      have hU3 := readsU_le x xs[j].kind xs[j].term (headU x xs[j].kind xs[j].name ac)
      have hU4 := headU_le x xs[j].kind xs[j].name ac
      have hzz := hzr.out
      clear hl hl2 lb le hke c0 c1 c2 c3 c4 c5 c6 c7 hin hlt2
      generalize xs[j].kind = k at *
      generalize xs[j].name = nm at *
      generalize xs[j].term = tm at *
      generalize xs[j].body = bd at *
      generalize xs[j].els = el at *
      have W1B : Hid (Below w0.heap.size w0 (wr.alloc (.cells #[.int .i64 k, .string nm, .int .i64 tm.kind, .int .i64 tm.num, .string tm.name, .slice ta tm.kids.length tc, .slice ba bd.length bc, .slice ea el.length ec] 109))) := HBR.out.alloc HBR.out.size _
      have HM1 : Hid (Moves WP ov (wr.alloc (.cells #[.int .i64 k, .string nm, .int .i64 tm.kind, .int .i64 tm.num, .string tm.name, .slice ta tm.kids.length tc, .slice ba bd.length bc, .slice ea el.length ec] 109)) (.slice oa ac.length oc)) := hmv.out.trans (Moves.alloc _ _ _)
      have HR1 : Hid ((wr.alloc (.cells #[.int .i64 k, .string nm, .int .i64 tm.kind, .int .i64 tm.num, .string tm.name, .slice ta tm.kids.length tc, .slice ba bd.length bc, .slice ea el.length ec] 109)).ownsRow w0.heap.size 9 1 (.slice oa ac.length oc) ac.length (strV ac)) := HROW.out.alloc _
      have HSB : Hid ((wr.alloc (.cells #[.int .i64 k, .string nm, .int .i64 tm.kind, .int .i64 tm.num, .string tm.name, .slice ta tm.kids.length tc, .slice ba bd.length bc, .slice ea el.length ec] 109)).heap[wr.heap.size]? = some (.cells #[.int .i64 k, .string nm, .int .i64 tm.kind, .int .i64 tm.num, .string tm.name, .slice ta tm.kids.length tc, .slice ba bd.length bc, .slice ea el.length ec] 109 (0, 0))) := heap_alloc_new _ _
      have HSN : Hid ((Value.slice oa ac.length oc).ownBlock ≠ some wr.heap.size) := row_not HROW.out
      clear HBR
      obtain ⟨W1, hW1⟩ : ∃ w1, w1 = wr.alloc (.cells #[.int .i64 k, .string nm, .int .i64 tm.kind, .int .i64 tm.num, .string tm.name, .slice ta tm.kids.length tc, .slice ba bd.length bc, .slice ea el.length ec] 109) := ⟨_, rfl⟩
      have HAL : Hid (ac.length ≤ 8000000 - 2) := by show _ ≤ _; omega
      have HXL := Lib.hid hpl
      go_upto_block 2 with fail
      clear d0 d1 d2 d3 d4 d5 d6 d7
      rw [← hW1] at W1B HM1 HR1 HSB
      rw [← hW1]
      clear hW1
      obtain ⟨S, hS⟩ : ∃ n, n = wr.heap.size := ⟨_, rfl⟩
      rw [← hS] at HSB HSN
      rw [← hS]
      clear hS
      obtain ⟨s0, s1, s2, s3, s4, s5, s6, s7⟩ := (blk8 (Moves.refl W1 (.slice oa ac.length oc)) HSB.out HSN.out).2
      have HPB1 := Lib.hid (HM1.out.blk HPB.out HNO.out)
      obtain ⟨p0, p1, p2⟩ := (blk3 HM1.out HPB.out HNO.out).2
      go_cut [2] (fun s2 wx => ∃ oa2 oc2, s2 = .slice oa2 (headU x k nm ac).length oc2 ∧ Hid (wx.ownsRow w0.heap.size 9 1 s2 (headU x k nm ac).length (strV (headU x k nm ac))) ∧ Hid (Moves W1 (.slice oa ac.length oc) wx s2))
      case first =>
        rcases (by omega : k = 1 ∨ k = 6 ∨ k = 7 ∨ k = 4 ∨ k = 5 ∨ (k ≠ 1 ∧ k ≠ 6 ∧ k ≠ 7 ∧ k ≠ 4 ∧ k ≠ 5)) with hkk | hkk | hkk | hkk | hkk | ⟨n1, n6, n7, n4, n5⟩
        · have k1 : (k == 1) = true := by simp [hkk]
          have HU : Hid (headU x k nm ac = addU x.globals ac nm) := by show _ = _; unfold headU; rw [if_pos hkk]
          clear hkk
          go_wp2_with fail
          refine (specAdd_any x.globals ac (.slice ga x.globals.length gc) (.slice oa ac.length oc) nm w0 W1 (by have := HAL.out; omega) (HG.out.keep (keeps_below W1B.out)) W1B.out HR1.out).mono ?_
          rintro e w2 ⟨ov2, rfl, hr2, hm2⟩
          obtain ⟨oa2, oc2, rfl, _⟩ := row_shape hr2
          have HR2 := Lib.hid hr2
          have HM2 := Lib.hid hm2
          clear hr2 hm2
          go_wp2_with fail
          go_meet
          rw [HU.out]
          exact ⟨oa2, oc2, rfl, HR2.out, HM2.out⟩
        · have k1 : (k == 1) = false := by rw [beq_eq_false_iff_ne]; omega
          have k6 : (k == 6) = true := by simp [hkk]
          have HU : Hid (headU x k nm ac = addU x.locks ac nm) := by show _ = _; unfold headU; rw [if_neg (by omega), if_pos (by omega)]
          clear hkk
          go_wp2_with fail
          refine (specAdd_any x.locks ac (.slice la x.locks.length lc) (.slice oa ac.length oc) nm w0 W1 (by have := HAL.out; omega) (HLK.out.keep (keeps_below W1B.out)) W1B.out HR1.out).mono ?_
          rintro e w2 ⟨ov2, rfl, hr2, hm2⟩
          obtain ⟨oa2, oc2, rfl, _⟩ := row_shape hr2
          have HR2 := Lib.hid hr2
          have HM2 := Lib.hid hm2
          clear hr2 hm2
          go_wp2_with fail
          go_meet
          rw [HU.out]
          exact ⟨oa2, oc2, rfl, HR2.out, HM2.out⟩
        · have k1 : (k == 1) = false := by rw [beq_eq_false_iff_ne]; omega
          have k6 : (k == 6) = false := by rw [beq_eq_false_iff_ne]; omega
          have k7 : (k == 7) = true := by simp [hkk]
          have HU : Hid (headU x k nm ac = addU x.locks ac nm) := by show _ = _; unfold headU; rw [if_neg (by omega), if_pos (by omega)]
          clear hkk
          go_wp2_with fail
          refine (specAdd_any x.locks ac (.slice la x.locks.length lc) (.slice oa ac.length oc) nm w0 W1 (by have := HAL.out; omega) (HLK.out.keep (keeps_below W1B.out)) W1B.out HR1.out).mono ?_
          rintro e w2 ⟨ov2, rfl, hr2, hm2⟩
          obtain ⟨oa2, oc2, rfl, _⟩ := row_shape hr2
          have HR2 := Lib.hid hr2
          have HM2 := Lib.hid hm2
          clear hr2 hm2
          go_wp2_with fail
          go_meet
          rw [HU.out]
          exact ⟨oa2, oc2, rfl, HR2.out, HM2.out⟩
        · have k1 : (k == 1) = false := by rw [beq_eq_false_iff_ne]; omega
          have k6 : (k == 6) = false := by rw [beq_eq_false_iff_ne]; omega
          have k7 : (k == 7) = false := by rw [beq_eq_false_iff_ne]; omega
          have k4 : (k == 4) = true := by simp [hkk]
          have HU : Hid (headU x k nm ac = addU (procNs x.procs) ac nm) := by show _ = _; unfold headU; rw [if_neg (by omega), if_neg (by omega), if_pos (by omega)]
          have hb0 : Below W1.heap.size W1 W1.drew := (Below.refl _ _).drew
          have CP := Lib.hid (fun wx (hb : Below W1.heap.size W1 wx) => specProcs_any x (.agg #[.slice ga x.globals.length gc, .slice la x.locks.length lc, .slice pa x.procs.length pc]) wx HXL.out (HP.out.keep (keeps_below (W1B.out.trans (hb.mono W1B.out.size)))))
          have CA := Lib.hid (fun wx kv (hb : Below W1.heap.size W1 wx) hk => specAdd_any (procNs x.procs) ac kv (.slice oa ac.length oc) nm w0 wx (by have := HAL.out; omega) hk (W1B.out.trans (hb.mono W1B.out.size)) (row_below HR1.out hb))
          have KN := Lib.hid (fun wx (hb : Below W1.heap.size W1 wx) => keeps_below hb _ _ s1)
          have sd1 : W1.drew.cell? ⟨S, 1, none⟩ = some (.string nm) := s1
          clear hkk
          go_wp2_with fail
          go_region_with (first
            | (go_at_call 73; refine (CP.out _ (by assumption)).mono ?_; rintro e w2 ⟨kv, rfl, hk2, hc2, hb2⟩; obtain ⟨ka, kc, rfl, hkc⟩ := hc2; have hb2w := hb0.trans (hb2.mono hb0.size); have sn2 := KN.out _ hb2w)
            | (go_at_call 161; refine (CA.out _ _ hb2w hk2).mono ?_; rintro e w3 ⟨ov3, rfl, hr3, hm3⟩; obtain ⟨oa2, oc2, rfl, _⟩ := row_shape hr3))
          all_goals
            have HR3 := Lib.hid hr3
            have HM3 := Lib.hid ((Moves.of_below _ hb2w).trans hm3)
            clear hr3 hm3
            go_wp2_with fail
            go_meet
            rw [HU.out]
            exact ⟨oa2, oc2, rfl, HR3.out, HM3.out⟩
        · have k1 : (k == 1) = false := by rw [beq_eq_false_iff_ne]; omega
          have k6 : (k == 6) = false := by rw [beq_eq_false_iff_ne]; omega
          have k7 : (k == 7) = false := by rw [beq_eq_false_iff_ne]; omega
          have k4 : (k == 4) = false := by rw [beq_eq_false_iff_ne]; omega
          have k5 : (k == 5) = true := by simp [hkk]
          have HU : Hid (headU x k nm ac = addU (procNs x.procs) ac nm) := by show _ = _; unfold headU; rw [if_neg (by omega), if_neg (by omega), if_pos (by omega)]
          have hb0 : Below W1.heap.size W1 W1.drew := (Below.refl _ _).drew
          have CP := Lib.hid (fun wx (hb : Below W1.heap.size W1 wx) => specProcs_any x (.agg #[.slice ga x.globals.length gc, .slice la x.locks.length lc, .slice pa x.procs.length pc]) wx HXL.out (HP.out.keep (keeps_below (W1B.out.trans (hb.mono W1B.out.size)))))
          have CA := Lib.hid (fun wx kv (hb : Below W1.heap.size W1 wx) hk => specAdd_any (procNs x.procs) ac kv (.slice oa ac.length oc) nm w0 wx (by have := HAL.out; omega) hk (W1B.out.trans (hb.mono W1B.out.size)) (row_below HR1.out hb))
          have KN := Lib.hid (fun wx (hb : Below W1.heap.size W1 wx) => keeps_below hb _ _ s1)
          have sd1 : W1.drew.cell? ⟨S, 1, none⟩ = some (.string nm) := s1
          clear hkk
          go_wp2_with fail
          go_region_with (first
            | (go_at_call 73; refine (CP.out _ (by assumption)).mono ?_; rintro e w2 ⟨kv, rfl, hk2, hc2, hb2⟩; obtain ⟨ka, kc, rfl, hkc⟩ := hc2; have hb2w := hb0.trans (hb2.mono hb0.size); have sn2 := KN.out _ hb2w)
            | (go_at_call 161; refine (CA.out _ _ hb2w hk2).mono ?_; rintro e w3 ⟨ov3, rfl, hr3, hm3⟩; obtain ⟨oa2, oc2, rfl, _⟩ := row_shape hr3))
          all_goals
            have HR3 := Lib.hid hr3
            have HM3 := Lib.hid ((Moves.of_below _ hb2w).trans hm3)
            clear hr3 hm3
            go_wp2_with fail
            go_meet
            rw [HU.out]
            exact ⟨oa2, oc2, rfl, HR3.out, HM3.out⟩
        · have k1 : (k == 1) = false := by rw [beq_eq_false_iff_ne]; exact n1
          have k6 : (k == 6) = false := by rw [beq_eq_false_iff_ne]; exact n6
          have k7 : (k == 7) = false := by rw [beq_eq_false_iff_ne]; exact n7
          have k4 : (k == 4) = false := by rw [beq_eq_false_iff_ne]; exact n4
          have k5 : (k == 5) = false := by rw [beq_eq_false_iff_ne]; exact n5
          have HU : Hid (headU x k nm ac = ac) := by show _ = _; unfold headU; rw [if_neg (by omega), if_neg (by omega), if_neg (by omega)]
          clear n1 n6 n7 n4 n5
          go_wp2_with fail
          go_meet
          rw [HU.out]
          exact ⟨oa, oc, rfl, HR1.out, Moves.refl _ _⟩
      case rest =>
        obtain ⟨oa2, oc2, rfl, HR2, HM2⟩ := hcut
        obtain ⟨w2, hw2⟩ : ∃ w0, w0 = wc := ⟨_, rfl⟩
        subst hw2
        generalize headU x k nm ac = a1 at *
        have HSB2 := Lib.hid (blk8 HM2.out HSB.out HSN.out).1
        have HPB2 := Lib.hid (blk3 HM2.out HPB1.out.1 HPB1.out.2).1
        have HMT2 := Lib.hid (HM1.out.trans HM2.out)
        have HBW2 := Lib.hid (HM2.out.below W1B.out HR1.out)
        have hRB : ∀ q, (Value.slice oa2 a1.length oc2).ownBlock = some q → q < w2.heap.size := fun q e => (HR2.out.lt q e).2
        have HRB := Lib.hid hRB
        have HSX : Hid (szT tm ≤ 1048576) := by show _ ≤ _; omega
        clear s0 s1 s2 s3 s4 s5 s6 s7 p0 p1 p2 hRB HSB HSN HPB1 HM1 HM2 HR1 W1B
        obtain ⟨s0, s1, s2, s3, s4, s5, s6, s7⟩ := (blk8 (Moves.refl w2 (.slice oa2 a1.length oc2)) HSB2.out.1 HSB2.out.2).2
        obtain ⟨p0, p1, p2⟩ := (blk3 (Moves.refl w2 (.slice oa2 a1.length oc2)) HPB2.out.1 HPB2.out.2).2
        obtain ⟨Bq, hBq⟩ : ∃ b : Bool, b = decide (k = 1 ∨ k = 2 ∨ k = 3) := ⟨_, rfl⟩
        have HBQ := Lib.hid hBq
        clear hBq
        go_upto_region 14 with fail
        go_cut [61] (fun s61 wx => s61 = .bool Bq ∧ wx = w2)
        case first =>
          rcases (by omega : k = 1 ∨ k = 2 ∨ k = 3 ∨ (k ≠ 1 ∧ k ≠ 2 ∧ k ≠ 3)) with hkk | hkk | hkk | ⟨n1, n2, n3⟩
          · have k1 : (k == 1) = true := by simp [hkk]
            have hb : Bq = true := by rw [HBQ.out]; simp [hkk]
            clear hkk
            go_wp2_with fail
            go_meet
            exact ⟨by rw [hb], rfl⟩
          · have k1 : (k == 1) = false := by rw [beq_eq_false_iff_ne]; omega
            have k2 : (k == 2) = true := by simp [hkk]
            have hb : Bq = true := by rw [HBQ.out]; simp [hkk]
            clear hkk
            go_wp2_with fail
            go_meet
            exact ⟨by rw [hb], rfl⟩
          · have k1 : (k == 1) = false := by rw [beq_eq_false_iff_ne]; omega
            have k2 : (k == 2) = false := by rw [beq_eq_false_iff_ne]; omega
            have k3 : (k == 3) = true := by simp [hkk]
            have hb : Bq = true := by rw [HBQ.out]; simp [hkk]
            clear hkk
            go_wp2_with fail
            go_meet
            exact ⟨by rw [hb], rfl⟩
          · have k1 : (k == 1) = false := by rw [beq_eq_false_iff_ne]; exact n1
            have k2 : (k == 2) = false := by rw [beq_eq_false_iff_ne]; exact n2
            have k3 : (k == 3) = false := by rw [beq_eq_false_iff_ne]; exact n3
            have hb : Bq = false := by rw [HBQ.out]; simp [n1, n2, n3]
            clear n1 n2 n3
            go_wp2_with fail
            go_meet
            exact ⟨by rw [hb], rfl⟩
        case rest =>
          obtain ⟨rfl, hwc⟩ := hcut
          rw [hwc]
          clear hwc
          go_upto_if 61 with fail
          go_cut [2] (fun s2 wx => ∃ oa3 oc3, s2 = .slice oa3 (readsU x k tm a1).length oc3 ∧ Hid (wx.ownsRow w0.heap.size 9 1 s2 (readsU x k tm a1).length (strV (readsU x k tm a1))) ∧ Hid (Moves w2 (.slice oa2 a1.length oc2) wx s2))
          case first =>
            cases Bq with
            | false =>
              have hkk : ¬ (k = 1 ∨ k = 2 ∨ k = 3) := by have := HBQ.out; simpa using this.symm
              have HU : Hid (readsU x k tm a1 = a1) := by show _ = _; unfold readsU; rw [if_neg hkk]
              clear hkk
              go_wp2_with fail
              go_meet
              rw [HU.out]
              exact ⟨oa2, oc2, rfl, HR2.out, Moves.refl _ _⟩
            | true =>
              have hkk : k = 1 ∨ k = 2 ∨ k = 3 := by have := HBQ.out; simpa using this.symm
              have HU : Hid (readsU x k tm a1 = (readsOfT tm).foldl (addU x.globals) a1) := by show _ = _; unfold readsU; rw [if_pos hkk]
              have HRL := Lib.hid (readsOfT_le tm)
              clear hkk
              go_wp2_with fail
              refine (specReadsOf_any tm _ w2 (HTL.out.keep (keeps_below HBW2.out)) HSX.out).mono ?_
              rintro e w3 ⟨rv, rfl, hr3, hb3⟩
              obtain ⟨ra, rc, rfl, _⟩ := row_shape hr3
              generalize readsOfT tm = rs at *
              have RS : Hid (∀ wy oy, Moves w3 (.slice oa2 a1.length oc2) wy oy → StrsAt wy rs (.slice ra rs.length rc)) := fun wy oy hm => strsAt_row rfl (row_same hr3 (fun q e => hm.1.block q (hr3.lt q e).2 (fun e2 => by have := (hr3.lt q e).1; have := HRB.out q e2.symm; omega)))
              have HM3 := Lib.hid (Moves.of_below (.slice oa2 a1.length oc2) hb3)
              have HB3 : Hid (Below w0.heap.size w0 w3) := HBW2.out.trans (hb3.mono HBW2.out.size)
              have HR3 := Lib.hid (row_below HR2.out hb3)
              have HPB3 := Lib.hid (blk3 HM3.out HPB2.out.1 HPB2.out.2).1
              have HBD : Hid (a1.length + rs.length ≤ 8000000) := by show _ ≤ _; have := HRL.out; omega
              have hrl : rs.length ≤ 8000000 := by have := HBD.out; omega
              clear hr3 hb3 s0 s1 s2 s3 s4 s5 s6 s7 p0 p1 p2 HRL
              go_wp2
              go_loopw [2, 10] (fun o i wy => ∃ (m : Nat) (b1 : List ByteArray), m ≤ rs.length ∧ i = .int .i64 m ∧ Hid (rs.foldl (addU x.globals) a1 = (rs.drop m).foldl (addU x.globals) b1) ∧ Hid (b1.length + (rs.drop m).length ≤ 8000000) ∧ wy.ownsRow w0.heap.size 9 1 o b1.length (strV b1) ∧ Hid (Moves w3 (.slice oa2 a1.length oc2) wy o))
                (fun _ i _ => rs.length - (intOf i).toNat)
              case atStart => exact ⟨0, a1, Nat.zero_le _, rfl, rfl, by show _ ≤ _; simpa using HBD.out, HR3.out, Moves.refl _ _⟩
              case round =>
                obtain ⟨m, b1, hm, rfl, hfd, hbd, hrow4, hmv4⟩ := hrel
                obtain ⟨oa4, oc4, rfl, _⟩ := row_shape hrow4
                have HR4 := Lib.hid hrow4
                clear hrow4
                by_cases hml : m < rs.length
                · obtain ⟨q0, q1, q2⟩ := (blk3 hmv4.out HPB3.out.1 HPB3.out.2).2
                  obtain ⟨ra2, rc2, e, _, hrs⟩ := RS.out _ _ hmv4.out
                  simp at e
                  obtain ⟨rfl, rfl⟩ := e
                  obtain ⟨gr, og, rfl, hrc⟩ := hrs (by omega)
                  have qn := hrc m hml
                  have HB4 := Lib.hid (hmv4.out.below HB3.out HR3.out)
                  have hb0 := (Below.refl wr.heap.size wr).drew
                  have hbl : b1.length ≤ 8000000 := by have := hbd.out; omega
                  have HFD : Hid (rs.foldl (addU x.globals) a1 = (rs.drop (m + 1)).foldl (addU x.globals) (addU x.globals b1 rs[m])) := by show _ = _; rw [hfd.out, List.drop_eq_getElem_cons hml, List.foldl_cons]
                  have HBD2 : Hid ((addU x.globals b1 rs[m]).length + (rs.drop (m + 1)).length ≤ 8000000) := by
                    show _ ≤ _
                    have h1 := addU_le x.globals b1 rs[m]
                    have h2 := hbd.out
                    rw [List.drop_eq_getElem_cons hml, List.length_cons] at h2
                    omega
                  have CA := Lib.hid (fun wx (hb : Below wr.heap.size wr wx) => specAdd_any x.globals b1 (.slice ga x.globals.length gc) (.slice oa4 b1.length oc4) rs[m] w0 wx hbl (HG.out.keep (keeps_below (HB4.out.trans (hb.mono HB4.out.size)))) (HB4.out.trans (hb.mono HB4.out.size)) (row_below HR4.out hb))
                  have q0d : wr.drew.cell? ⟨B, 0, none⟩ = some (.slice ga x.globals.length gc) := q0
                  have qnd : wr.drew.cell? ⟨gr, og + m, none⟩ = some (.string rs[m]) := qn
                  clear hrc hrs q1 q2
                  go_wp2_with fail
                  go_region_with (first
                    | (go_at_call 161; refine (CA.out _ (by assumption)).mono ?_; rintro e w5 ⟨ov5, rfl, hr5, hm5⟩))
                  all_goals
                    have HR5 := Lib.hid hr5
                    have HM5 := Lib.hid (hmv4.out.trans ((Moves.of_below _ hb0).trans hm5))
                    clear hr5 hm5
                    go_wp2_with fail
                    go_roundw
                    case rel => exact ⟨m + 1, _, by omega, by go_num, HFD, HBD2, HR5.out, HM5⟩
                    case measure => simp [intOf]; omega
                · have HF : Hid (readsU x k tm a1 = b1) := by
                    show _ = _
                    rw [HU.out, hfd.out, List.drop_of_length_le (by omega)]; rfl
                  go_wp2_with fail
                  go_meet
                  rw [HF.out]
                  exact ⟨oa4, oc4, rfl, HR4.out, HM3.out.trans hmv4.out⟩
          case rest =>
            obtain ⟨oa3, oc3, rfl, HR3, HM3⟩ := hcut
            obtain ⟨w3, hw3⟩ : ∃ w0, w0 = wc := ⟨_, rfl⟩
            subst hw3
            generalize readsU x k tm a1 = a2 at *
            clear s0 s1 s2 s3 s4 s5 s6 s7 p0 p1 p2
            have HSB3 := Lib.hid (blk8 HM3.out HSB2.out.1 HSB2.out.2).1
            have HPB3 := Lib.hid (blk3 HM3.out HPB2.out.1 HPB2.out.2).1
            have HMT3 := Lib.hid (HMT2.out.trans HM3.out)
            have HBW3 := Lib.hid (HM3.out.below HBW2.out HR2.out)
            obtain ⟨s0, s1, s2, s3, s4, s5, s6, s7⟩ := (blk8 (Moves.refl w3 (.slice oa3 a2.length oc3)) HSB3.out.1 HSB3.out.2).2
            obtain ⟨p0, p1, p2⟩ := (blk3 (Moves.refl w3 (.slice oa3 a2.length oc3)) HPB3.out.1 HPB3.out.2).2
            have HZA : Hid (a2.length + (2 * bd.length + 3 * szXS bd) ≤ 8000000) := by show _ ≤ _; omega
            have HZB : Hid ((unkXS x bd a2).length + (2 * el.length + 3 * szXS el) ≤ 8000000) := by show _ ≤ _; omega
            have HZC : Hid ((unkXS x el (unkXS x bd a2)).length + (2 * (xs.drop (j + 1)).length + 3 * szXS (xs.drop (j + 1))) ≤ 8000000) := by show _ ≤ _; omega
            clear HM3 HMT2 HBW2 HR2 HPB2 HSB2 HRB
            go_wp2_with fail
            refine (IB.out a2 _ w3 HZA.out HBW3.out HR3.out).mono ?_
            rintro e w4 ⟨ov4, rfl, hr4, hm4⟩
            have HR4 := Lib.hid hr4
            have HM4 := Lib.hid (HMT3.out.trans hm4)
            have HBW4 := Lib.hid (hm4.below HBW3.out HR3.out)
            clear s0 s1 s2 s3 s4 s5 s6 s7 p0 p1 p2
            obtain ⟨s0, s1, s2, s3, s4, s5, s6, s7⟩ := (blk8 hm4 HSB3.out.1 HSB3.out.2).2
            obtain ⟨p0, p1, p2⟩ := (blk3 hm4 HPB3.out.1 HPB3.out.2).2
            clear hr4 hm4
            go_wp2_with fail
            refine (IE.out _ _ w4 HZB.out HBW4.out HR4.out).mono ?_
            rintro e w5 ⟨ov5, rfl, hr5, hm5⟩
            have HR5 := Lib.hid hr5
            have HM5 := Lib.hid (HM4.out.trans hm5)
            have HS5 : Hid (unkXS x xs acc = unkXS x (xs.drop (j + 1)) (unkXS x el (unkXS x bd a2))) := by show _ = _; rw [hsz.out]; exact HHE.out
            clear hr5 hm5 s0 s1 s2 s3 s4 s5 s6 s7 p0 p1 p2
            go_wp2
            go_roundw
            case rel => exact ⟨j + 1, _, by omega, by go_num, HS5, HZC, HR5.out, HM5⟩
            case measure => simp [intOf]; omega
    · have HS : Hid (unkXS x xs acc = ac) := by
        show _ = _
        rw [hsz.out, unkXS_end x (by omega)]
      obtain ⟨oa, oc, rfl, _⟩ := row_shape hrow
      have HROW := Lib.hid hrow
      clear hrow
      go_wp2
      go_ret
      refine ⟨_, rfl, ?_, HMV.out.trans hmv.out⟩
      rw [HS.out]; exact HROW.out
theorem specUnk_all (x : PTree) : ∀ y : STree, UnkOk x y.body ∧ UnkOk x y.els := streeInd fun _ _ _ b e ihb ihe => ⟨unk_list x b ihb, unk_list x e ihe⟩
theorem specUnk_any (x : PTree) (xs : List STree) : UnkOk x xs := unk_list x xs fun y _ => specUnk_all x y
end Go.Proofs.YtmhhghdfgdhljaaGreatDoor.Trm
