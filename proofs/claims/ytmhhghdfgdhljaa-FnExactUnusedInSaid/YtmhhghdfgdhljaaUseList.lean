/- The model's l07Uses, walked: the names that statements have of numbers and locks. Conditions: the statements lie in memory that is older than the list of names; at most 2 to the 20 of them. -/
import Derived.Test.YtmhhghdfgdhljaaUnkList
import Derived.Maps.AppendAt
import Derived.Laws.AppendOwnNone
namespace Go.Proofs.Ytmhhghdfgdhljaa.Trm
open Go.RowKit Own
theorem useX_eq (y : STree) (acc : List ByteArray) : useX y acc = useXS y.els (useXS y.body ((if y.kind = 1 ∨ y.kind = 6 ∨ y.kind = 7 then acc ++ [y.name] else acc) ++ readsOfT y.term)) := by cases y; rw [useX]; rfl
theorem useXS_drop {xs : List STree} {i : Nat} (h : i < xs.length) (acc : List ByteArray) : useXS (xs.drop i) acc = useXS (xs.drop (i + 1)) (useX xs[i] acc) := by rw [List.drop_eq_getElem_cons h, useXS]
theorem useXS_end {xs : List STree} {i : Nat} (h : xs.length ≤ i) (acc : List ByteArray) : useXS (xs.drop i) acc = acc := by rw [List.drop_of_length_le h, useXS]
theorem use_head_le (k : Int) (s : ByteArray) (acc : List ByteArray) : (if k = 1 ∨ k = 6 ∨ k = 7 then acc ++ [s] else acc).length ≤ acc.length + 1 := by split <;> simp
mutual
theorem useX_le : ∀ (y : STree) (acc : List ByteArray), (useX y acc).length ≤ acc.length + (2 + 3 * szX y)
  | .node k s t b e, acc => by
    rw [useX, szX]
    have h1 := useXS_le e (useXS b ((if k = 1 ∨ k = 6 ∨ k = 7 then acc ++ [s] else acc) ++ readsOfT t))
    have h2 := useXS_le b ((if k = 1 ∨ k = 6 ∨ k = 7 then acc ++ [s] else acc) ++ readsOfT t)
    rw [List.length_append] at h2
    have h3 := readsOfT_le t
    have h4 := use_head_le k s acc
    omega
theorem useXS_le : ∀ (xs : List STree) (acc : List ByteArray), (useXS xs acc).length ≤ acc.length + (2 * xs.length + 3 * szXS xs)
  | [], acc => by rw [useXS]; omega
  | y :: r, acc => by
    rw [useXS, szXS, List.length_cons]
    have h1 := useXS_le r (useX y acc)
    have h2 := useX_le y acc
    omega
end
theorem one_strV (ss : List ByteArray) : ∀ u ∈ strV ss, u.oneCell' = true := by
  intro u hu
  obtain ⟨s, _, rfl⟩ := List.mem_map.1 hu
  rfl
theorem strV_append (a b : List ByteArray) : strV (a ++ b) = strV a ++ strV b := by simp [strV]
theorem wpList_append_rows {P : Program} {w : World} {ops : Array Oper} {rest : List Oper} {o : Oper} {a : Act} {Q : Exit → Act → World → Prop} (hgd : o.guard = none) (s x : Operand) (t : TypeId)
    (ho : o.op = .call { callee := .builtin .append, args := #[s, x], argTypes := #[t, t] })
    (base : Nat) (e : TypeId) (i : TypeInfo) (z : Value) (size bytes : Nat) (ht : P.underlying t = some (.slice e)) (hi : P.info? e = some i) (hz : i.zero = some z)
    (hsize : i.size = size) (hby : i.bytes = bytes) (hzs : z.cells.size = size) (hsz : 0 < size)
    (v : Value) (n : Nat) (xs : List Value) (hs : a.eval s = v) (hown : w.ownsRow base e size v n xs)
    (u : Value) (m : Nat) (ys : List Value) (hx : a.eval x = u) (base2 : Nat) (hrow : w.ownsRow base2 e size u m ys) (h1 : ∀ u ∈ ys, u.oneCell' = true)
    (h63 : n + m ≤ maxLen) (hbytes : (n + m) * bytes ≤ 140737488355328) (hbase : base ≤ w.heap.size)
    (h : ∀ v' w', w'.ownsRow base e size v' (n + m) (xs ++ ys) → w.grownBy w' v.ownBlock → (v'.ownBlock = v.ownBlock ∨ v'.ownBlock = some w.heap.size) → wpList P ops Q rest (a.put o.dst v') w') : wpList P ops Q (o :: rest) a w := by
  rcases hrow.2 with ⟨rfl, rfl⟩ | ⟨g, cap, cur, rfl, _, hg, _⟩
  · have hy : ys = [] := List.eq_nil_of_length_eq_zero (by simpa using hrow.1)
    subst hy
    exact wpList_append_own_none hgd s x t ho base e i size ht hi v n xs hs hown hx (h v w (by simpa using hown) (World.grownBy.refl _ _) (.inl rfl))
  · exact wpList_append_own_at w hgd s x t ho base e i z size bytes ht hi hz hsize hby hzs hsz v n xs hs hown ⟨g, 0, none⟩ m cap ys hx hrow.1 (hrow.cells (g := g) rfl) h1 h63 hbytes hbase fun v' w' a1 a2 _ a4 => h v' w' a1 a2 a4
def UseOk (xs : List STree) : Prop := ∀ (v ov : Value) (w0 w : World) (acc : List ByteArray), acc.length + (2 * xs.length + 3 * szXS xs) ≤ 8000000 → szXS xs ≤ 1048576 → SListAt w0 v xs → Below w0.heap.size w0 w → w.ownsRow w0.heap.size 9 1 ov acc.length (strV acc) →
    Calls Try.prog 86 #[v, ov] w fun e w' => ∃ ov', e = .returned ov' ∧ w'.ownsRow w0.heap.size 9 1 ov' (useXS xs acc).length (strV (useXS xs acc)) ∧ Moves w ov w' ov'
theorem moves_append {w w' : World} {v v' : Value} (hg : w.grownBy w' v.ownBlock) (h : v'.ownBlock = v.ownBlock ∨ v'.ownBlock = some w.heap.size) : Moves w v w' v' := by
  refine ⟨hg, ?_⟩
  rcases h with h | h
  · exact .inl h
  · exact .inr fun k hk => by rw [h] at hk; cases hk; exact Nat.le_refl _
set_option maxRecDepth 20000 in
set_option maxHeartbeats 1600000 in
theorem use_list (xs : List STree) (ih : ∀ y, y ∈ xs → UseOk y.body ∧ UseOk y.els) : UseOk xs := fun v ov w0 w acc ha hz hl hbe hown => by
  obtain ⟨hlen, aa, cap, rfl, hk⟩ := hl
  obtain ⟨i0, hi, hz0, hz1, hz2⟩ := info_parts infoStrR
  have HI := Lib.hid hi
  have HZ0 := Lib.hid hz0
  have HZ1 := Lib.hid hz1
  have HZ2 := Lib.hid hz2
  have IH := Lib.hid ih
  have HK := Lib.hid hk
  have HZ := Lib.hid ha
  have HZX := Lib.hid hz
  have HB0 := Lib.hid hbe
  have HO := Lib.hid hown
  have hbs : w0.heap.size ≤ w.heap.size := hbe.size
  clear ih hk ha hown hbe hz hi hz0 hz1 hz2
  go_enter Try.func86, Try.ntmps86
  go_wp2
  go_loopw [1, 5] (fun o i wr => ∃ (j : Nat) (ac : List ByteArray), j ≤ xs.length ∧ i = .int .i64 j ∧ Hid (useXS xs acc = useXS (xs.drop j) ac) ∧ Hid (ac.length + (2 * (xs.drop j).length + 3 * szXS (xs.drop j)) ≤ 8000000) ∧ wr.ownsRow w0.heap.size 9 1 o ac.length (strV ac) ∧ Hid (Moves w ov wr o))
    (fun _ i _ => xs.length - (intOf i).toNat)
  case atStart => exact ⟨0, acc, Nat.zero_le _, rfl, rfl, by show _ ≤ _; simpa using HZ.out, HO.out, Moves.refl _ _⟩
  case round =>
    obtain ⟨j, ac, hj, rfl, hsz, hzr, hrow, hmv⟩ := hrel
    obtain ⟨oa, oc, rfl, _⟩ := row_shape hrow
    have HROW := Lib.hid hrow
    clear hrow
    by_cases hlt : j < xs.length
    · obtain ⟨g, o, rfl, hl⟩ := HK.out (by omega)
      have HBR := Lib.hid (hmv.out.below HB0.out HO.out)
      obtain ⟨ta, tc, ba, bc, ea, ec, c0, c1, c2, c3, c4, c5, c6, c7, hl2⟩ := hl.at j hlt
      obtain ⟨hlt2, lb, le⟩ := hl2.lists
      have hcd : (xs.drop j).length = (xs.drop (j + 1)).length + 1 := by rw [List.drop_eq_getElem_cons hlt, List.length_cons]
      have hsd := szXS_drop hlt
      have hsx : szX xs[j] ≤ 1048576 := by have := szXS_mem (List.getElem_mem hlt); have := HZX.out; omega
      rw [szX_eq] at hsd hsx
      have hin := IH.out xs[j] (List.getElem_mem hlt)
      have IB := Lib.hid (fun ac ov wx hz hb hr => hin.1 _ ov w0 wx ac hz (by omega) lb hb hr)
      have IE := Lib.hid (fun ac ov wx hz hb hr => hin.2 _ ov w0 wx ac hz (by omega) le hb hr)
      have hke := keeps_below HBR.out
      have d0 := hke _ _ c0
      have d1 := hke _ _ c1
      have d2 := hke _ _ c2
      have d3 := hke _ _ c3
      have d4 := hke _ _ c4
      have d5 := hke _ _ c5
      have d6 := hke _ _ c6
      have d7 := hke _ _ c7
      have HTL := Lib.hid hlt2
      have hxl : xs.length ≤ 9223372036854775807 := hlen
      have HHE := Lib.hid ((useXS_drop hlt ac).trans (by rw [useX_eq]))
      have hU4 := use_head_le xs[j].kind xs[j].name ac
      have hU3 := readsOfT_le xs[j].term
      have hU1 := useXS_le xs[j].body ((if xs[j].kind = 1 ∨ xs[j].kind = 6 ∨ xs[j].kind = 7 then ac ++ [xs[j].name] else ac) ++ readsOfT xs[j].term)
      have hU2 := useXS_le xs[j].els (useXS xs[j].body ((if xs[j].kind = 1 ∨ xs[j].kind = 6 ∨ xs[j].kind = 7 then ac ++ [xs[j].name] else ac) ++ readsOfT xs[j].term))
      have hzz := hzr.out
      clear hl hl2 lb le hke c0 c1 c2 c3 c4 c5 c6 c7 hin hlt2
      generalize xs[j].kind = k at *
      generalize xs[j].name = nm at *
      generalize xs[j].term = tm at *
      generalize xs[j].body = bd at *
      generalize xs[j].els = el at *
      have W1B : Hid (Below w0.heap.size w0 (wr.alloc (.cells #[.int .i64 k, .string nm, .int .i64 tm.kind, .int .i64 tm.num, .string tm.name, .slice ta tm.kids.length tc, .slice ba bd.length bc, .slice ea el.length ec] 50))) := HBR.out.alloc HBR.out.size _
      have HM1 : Hid (Moves w ov (wr.alloc (.cells #[.int .i64 k, .string nm, .int .i64 tm.kind, .int .i64 tm.num, .string tm.name, .slice ta tm.kids.length tc, .slice ba bd.length bc, .slice ea el.length ec] 50)) (.slice oa ac.length oc)) := hmv.out.trans (Moves.alloc _ _ _)
      have HR1 : Hid ((wr.alloc (.cells #[.int .i64 k, .string nm, .int .i64 tm.kind, .int .i64 tm.num, .string tm.name, .slice ta tm.kids.length tc, .slice ba bd.length bc, .slice ea el.length ec] 50)).ownsRow w0.heap.size 9 1 (.slice oa ac.length oc) ac.length (strV ac)) := HROW.out.alloc _
      have HSB : Hid ((wr.alloc (.cells #[.int .i64 k, .string nm, .int .i64 tm.kind, .int .i64 tm.num, .string tm.name, .slice ta tm.kids.length tc, .slice ba bd.length bc, .slice ea el.length ec] 50)).heap[wr.heap.size]? = some (.cells #[.int .i64 k, .string nm, .int .i64 tm.kind, .int .i64 tm.num, .string tm.name, .slice ta tm.kids.length tc, .slice ba bd.length bc, .slice ea el.length ec] 50 (0, 0))) := heap_alloc_new _ _
      have HSN : Hid ((Value.slice oa ac.length oc).ownBlock ≠ some wr.heap.size) := row_not HROW.out
      have HAL : Hid (ac.length ≤ 8000000 - 2) := by show _ ≤ _; omega
      have HSX : Hid (szT tm ≤ 1048576) := by show _ ≤ _; omega
      clear HBR
      obtain ⟨W1, hW1⟩ : ∃ w1, w1 = wr.alloc (.cells #[.int .i64 k, .string nm, .int .i64 tm.kind, .int .i64 tm.num, .string tm.name, .slice ta tm.kids.length tc, .slice ba bd.length bc, .slice ea el.length ec] 50) := ⟨_, rfl⟩
      obtain ⟨h1, hh1⟩ : ∃ l, l = (if k = 1 ∨ k = 6 ∨ k = 7 then ac ++ [nm] else ac) := ⟨_, rfl⟩
      rw [← hh1] at hU1 hU2 hU4
      have HH1 := Lib.hid hh1
      have HHE2 : Hid (useXS (xs.drop j) ac = useXS (xs.drop (j + 1)) (useXS el (useXS bd (h1 ++ readsOfT tm)))) := by show _ = _; rw [hh1]; exact HHE.out
      obtain ⟨Bq, hBq⟩ : ∃ b : Bool, b = decide (k = 1 ∨ k = 6 ∨ k = 7) := ⟨_, rfl⟩
      have HBQ := Lib.hid hBq
      clear hBq hh1 HHE
      go_upto_region 5 with fail
      clear d0 d1 d2 d3 d4 d5 d6 d7
      rw [← hW1] at W1B HM1 HR1 HSB
      rw [← hW1]
      clear hW1
      obtain ⟨S, hS⟩ : ∃ n, n = wr.heap.size := ⟨_, rfl⟩
      rw [← hS] at HSB HSN
      rw [← hS]
      clear hS
      obtain ⟨s0, s1, s2, s3, s4, s5, s6, s7⟩ := (blk8 (Moves.refl W1 (.slice oa ac.length oc)) HSB.out HSN.out).2
      go_cut [24, 29] (fun _ s29 wx => s29 = .bool Bq ∧ wx = W1)
      case first =>
        rcases (by omega : k = 1 ∨ k = 6 ∨ k = 7 ∨ (k ≠ 1 ∧ k ≠ 6 ∧ k ≠ 7)) with hkk | hkk | hkk | ⟨n1, n2, n3⟩
        · have k1 : (k == 1) = true := by simp [hkk]
          have hb : Bq = true := by rw [HBQ.out]; simp [hkk]
          clear hkk
          go_wp2_with fail
          go_meet
          exact ⟨by rw [hb], rfl⟩
        · have k1 : (k == 1) = false := by rw [beq_eq_false_iff_ne]; omega
          have k2 : (k == 6) = true := by simp [hkk]
          have hb : Bq = true := by rw [HBQ.out]; simp [hkk]
          clear hkk
          go_wp2_with fail
          go_meet
          exact ⟨by rw [hb], rfl⟩
        · have k1 : (k == 1) = false := by rw [beq_eq_false_iff_ne]; omega
          have k2 : (k == 6) = false := by rw [beq_eq_false_iff_ne]; omega
          have k3 : (k == 7) = true := by simp [hkk]
          have hb : Bq = true := by rw [HBQ.out]; simp [hkk]
          clear hkk
          go_wp2_with fail
          go_meet
          exact ⟨by rw [hb], rfl⟩
        · have k1 : (k == 1) = false := by rw [beq_eq_false_iff_ne]; exact n1
          have k2 : (k == 6) = false := by rw [beq_eq_false_iff_ne]; exact n2
          have k3 : (k == 7) = false := by rw [beq_eq_false_iff_ne]; exact n3
          have hb : Bq = false := by rw [HBQ.out]; simp [n1, n2, n3]
          clear n1 n2 n3
          go_wp2_with fail
          go_meet
          exact ⟨by rw [hb], rfl⟩
      case rest =>
        obtain ⟨rfl, hwc⟩ := hcut
        rw [hwc]
        clear hwc
        go_upto_if 29 with fail
        go_cut [1] (fun s1 wx => ∃ oa2 oc2, s1 = .slice oa2 h1.length oc2 ∧ Hid (wx.ownsRow w0.heap.size 9 1 s1 h1.length (strV h1)) ∧ Hid (Moves W1 (.slice oa ac.length oc) wx s1))
        case first =>
          cases Bq with
          | false =>
            have hkk : ¬ (k = 1 ∨ k = 6 ∨ k = 7) := by have := HBQ.out; simpa using this.symm
            have HU : Hid (h1 = ac) := by show _ = _; rw [HH1.out, if_neg hkk]
            clear hkk
            go_wp2_with fail
            go_meet
            rw [HU.out]
            exact ⟨oa, oc, rfl, HR1.out, Moves.refl _ _⟩
          | true =>
            have hkk : k = 1 ∨ k = 6 ∨ k = 7 := by have := HBQ.out; simpa using this.symm
            have HU : Hid (h1 = ac ++ [nm]) := by show _ = _; rw [HH1.out, if_pos hkk]
            have hal := HAL.out
            have hws : w0.heap.size ≤ W1.heap.size := W1B.out.size
            clear hkk
            go_wp2_with (at_builtin; refine wpList_append_lies _ rfl (.tmp 30) (.tmp 33) 22 rfl w0.heap.size 9 i0 (.string ⟨#[]⟩) 1 16 Try.underlying22 HI.out HZ0.out HZ1.out HZ2.out rfl (by decide) (.slice oa ac.length oc) ac.length _ rfl (HR1.out.alloc _) ⟨W1.heap.size, 0, none⟩ 1 1 [.string nm] rfl rfl (World.news_of_block (heap_alloc_new _ _)) (one_textR _) (by decide) (by unfold maxLen; omega) (by omega) (by simp; omega) _ rfl ?_)
            intro g2 cap2 w2 hown2 hg2 hat2 hlt2
            have HR2 : Hid (w2.ownsRow w0.heap.size 9 1 (.slice (some ⟨g2, 0, none⟩) (ac.length + 1) cap2) (ac ++ [nm]).length (strV (ac ++ [nm]))) := by
              show World.ownsRow _ _ _ _ _ _ _
              simpa [strV] using hown2
            have HM2 : Hid (Moves W1 (.slice oa ac.length oc) w2 (.slice (some ⟨g2, 0, none⟩) (ac.length + 1) cap2)) := by
              refine (Moves.alloc _ _ _).trans ⟨hg2, ?_⟩
              rcases hat2 with h | h
              · exact .inl h.symm
              · exact .inr fun k hk => by cases hk; simp; omega
            clear hown2 hg2 hat2 hlt2
            go_wp2_with fail
            go_meet
            rw [HU.out]
            exact ⟨some ⟨g2, 0, none⟩, cap2, by rw [List.length_append]; rfl, HR2.out, HM2.out⟩
        case rest =>
          obtain ⟨oa2, oc2, rfl, HR2, HM2⟩ := hcut
          obtain ⟨w2, hw2⟩ : ∃ w0, w0 = wc := ⟨_, rfl⟩
          subst hw2
          have HSB2 := Lib.hid (blk8 HM2.out HSB.out HSN.out).1
          have HMT2 := Lib.hid (HM1.out.trans HM2.out)
          have HBW2 := Lib.hid (HM2.out.below W1B.out HR1.out)
          clear s0 s1 s2 s3 s4 s5 s6 s7 HSB HSN HM1 HM2 HR1 W1B HH1 HBQ
          obtain ⟨s0, s1, s2, s3, s4, s5, s6, s7⟩ := (blk8 (Moves.refl w2 (.slice oa2 h1.length oc2)) HSB2.out.1 HSB2.out.2).2
          go_wp2_with fail
          refine (specReadsOf_any tm _ w2 (HTL.out.keep (keeps_below HBW2.out)) HSX.out).mono ?_
          rintro e w3 ⟨rv, rfl, hr3, hb3⟩
          obtain ⟨ra, rc, rfl, _⟩ := row_shape hr3
          have HM3 := Lib.hid (HMT2.out.trans (Moves.of_below (.slice oa2 h1.length oc2) hb3))
          have HB3 : Hid (Below w0.heap.size w0 w3) := HBW2.out.trans (hb3.mono HBW2.out.size)
          have HR3 := Lib.hid (row_below HR2.out hb3)
          have HSB3 := Lib.hid (blk8 (Moves.of_below (.slice oa2 h1.length oc2) hb3) HSB2.out.1 HSB2.out.2).1
          have hws : w0.heap.size ≤ w3.heap.size := HB3.out.size
          generalize readsOfT tm = rs at *
          have hbnd : h1.length + rs.length ≤ 8000000 := by omega
          have HRL := Lib.hid hr3.1
          have HRV := Lib.hid hr3
          clear hr3 hb3 s0 s1 s2 s3 s4 s5 s6 s7
          go_wp2_with (at_builtin; refine wpList_append_rows rfl (.tmp 35) (.tmp 38) 22 rfl w0.heap.size 9 i0 (.string ⟨#[]⟩) 1 16 Try.underlying22 HI.out HZ0.out HZ1.out HZ2.out rfl (by decide) (.slice oa2 h1.length oc2) h1.length _ rfl HR3.out _ rs.length _ rfl w2.heap.size HRV.out (one_strV _) (by unfold maxLen; omega) (by omega) hws ?_)
          intro o4 w4 hown4 hg4 hat4
          rw [← strV_append] at hown4
          obtain ⟨oa4, oc4, rfl, _⟩ := row_shape hown4
          have hm4 := moves_append (v := .slice oa2 h1.length oc2) hg4 hat4
          have HM4 := Lib.hid (HM3.out.trans hm4)
          have HR4 : Hid (w4.ownsRow w0.heap.size 9 1 (.slice oa4 (h1.length + rs.length) oc4) (h1 ++ rs).length (strV (h1 ++ rs))) := by
            show World.ownsRow _ _ _ _ _ _ _
            rw [List.length_append]; exact hown4
          have HB4 := Lib.hid (hm4.below HB3.out HR3.out)
          have HSB4 := Lib.hid (blk8 hm4 HSB3.out.1 HSB3.out.2).1
          obtain ⟨s0, s1, s2, s3, s4, s5, s6, s7⟩ := (blk8 hm4 HSB3.out.1 HSB3.out.2).2
          have hlh : (h1 ++ rs).length = h1.length + rs.length := List.length_append
          have HZA : Hid ((h1 ++ rs).length + (2 * bd.length + 3 * szXS bd) ≤ 8000000) := by show _ ≤ _; omega
          have HZB : Hid ((useXS bd (h1 ++ rs)).length + (2 * el.length + 3 * szXS el) ≤ 8000000) := by show _ ≤ _; omega
          have HZC : Hid ((useXS el (useXS bd (h1 ++ rs))).length + (2 * (xs.drop (j + 1)).length + 3 * szXS (xs.drop (j + 1))) ≤ 8000000) := by show _ ≤ _; omega
          have hs4 : (Below w4.heap.size w4 w4.drew) := (Below.refl _ _).drew
          have CB := Lib.hid (fun wx (hb : Below w4.heap.size w4 wx) => IB.out (h1 ++ rs) (.slice oa4 (h1.length + rs.length) oc4) wx HZA.out (HB4.out.trans (hb.mono HB4.out.size)) (row_below HR4.out hb))
          have KE := Lib.hid (fun wx (hb : Below w4.heap.size w4 wx) w5 v5 (hm : Moves wx (.slice oa4 (h1.length + rs.length) oc4) w5 v5) => (blk8 ((Moves.of_below (.slice oa4 (h1.length + rs.length) oc4) hb).trans hm) HSB4.out.1 HSB4.out.2).2)
          have s6d : w4.drew.cell? ⟨S, 6, none⟩ = some (.slice ba bd.length bc) := s6
          have s7d : w4.drew.cell? ⟨S, 7, none⟩ = some (.slice ea el.length ec) := s7
          clear hown4 hg4 hat4 hm4 hlh
          go_wp2_with fail
          go_region_with (first
            | (go_at_call 86; (with_reducible refine (CB.out _ (by assumption)).mono ?_); rintro e w5 ⟨ov5, rfl, hr5, hm5⟩; have k5 := KE.out _ hs4 _ _ hm5; have t6 := k5.2.2.2.2.2.2.1; have t7 := k5.2.2.2.2.2.2.2; have hb5 := hm5.below (HB4.out.trans (hs4.mono HB4.out.size)) (row_below HR4.out hs4))
            | (go_at_call 86; (with_reducible refine (IE.out (useXS bd (h1 ++ rs)) _ _ HZB.out hb5 hr5).mono ?_); rintro e w6 ⟨ov6, rfl, hr6, hm6⟩))
          all_goals
            have HR6 := Lib.hid hr6
            have HM6 := Lib.hid (HM4.out.trans (((Moves.of_below _ hs4).trans hm5).trans hm6))
            have HS6 : Hid (useXS xs acc = useXS (xs.drop (j + 1)) (useXS el (useXS bd (h1 ++ rs)))) := by show _ = _; rw [hsz.out]; exact HHE2.out
            clear hr6 hm6 hr5 hm5 k5 t6 t7 hb5
            go_wp2_with fail
            go_roundw
            case rel => exact ⟨j + 1, _, by omega, by go_num, HS6, HZC, HR6.out, HM6⟩
            case measure => simp [intOf]; omega
    · have HS : Hid (useXS xs acc = ac) := by
        show _ = _
        rw [hsz.out, useXS_end (by omega)]
      go_wp2
      go_ret
      refine ⟨_, rfl, ?_, hmv.out⟩
      rw [HS.out]; exact HROW.out
theorem specUse_all : ∀ y : STree, UseOk y.body ∧ UseOk y.els := streeInd fun _ _ _ b e ihb ihe => ⟨use_list b ihb, use_list e ihe⟩
theorem specUse_any (xs : List STree) : UseOk xs := use_list xs fun y _ => specUse_all y
end Go.Proofs.Ytmhhghdfgdhljaa.Trm
