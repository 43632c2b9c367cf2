/- The program's CompsOf, walked. Conditions: the arcs lie in memory. -/
import Derived.Test.YtabpbmifegfmgaaPartI
import Derived.Test.YtabpbmifegfmgaaReaches
import Derived.Test.YtabpbmifegfmgaaListsAt
namespace Go.Proofs.Ytabpbmifegfmgaa.Trm
open Go.RowKit Own
/-- What CompsOf tells. -/
def compsI (n : Int) (es : List (Int × Int)) (ok : Bool) : List (List Int) := if ok = true then (compsN (wayM n.toNat es) n.toNat).map upI else []
/-- What a call that answers lists of its own leaves. -/
def ListL (ls : List (List Int)) (w : World) (e : Ending) (w' : World) : Prop := ∃ v hi cs, e = .returned v ∧ LOwn w' w.heap.size hi v cs ls ∧ Below w.heap.size w w'
theorem LOwn.nil {w : World} {base : Nat} {v : Value} (h : w.ownsRow base 34 1 v 0 []) (hb : base ≤ w.heap.size) : LOwn w base w.heap.size v [] [] := RowsOwn.nil h hb
theorem LOwn.snoc {W w' : World} {base hi : Nat} {v v' u : Value} {cs : List Value} {ls : List (List Int)} {l : List Int} (h : LOwn W base hi v cs ls) (hu : W.ownsRow hi 3 1 u l.length (intV l))
    (hr : w'.ownsRow base 34 1 v' (ls.length + 1) (cs ++ [u])) (hg : W.grownBy w' v.ownBlock) (hat : v'.ownBlock = v.ownBlock ∨ ∀ b, v'.ownBlock = some b → W.heap.size ≤ b) : LOwn w' base w'.heap.size v' (cs ++ [u]) (ls ++ [l]) := by
  unfold LOwn
  rw [List.map_append]
  exact RowsOwn.snoc h (by rw [intV_length]; exact hu) (by rw [List.length_map]; exact hr) hg hat
theorem LOwn.row {w : World} {base hi : Nat} {v : Value} {cs : List Value} {ls : List (List Int)} (h : LOwn w base hi v cs ls) : w.ownsRow base 34 1 v ls.length cs := by
  have := h.2.2.2.1
  rw [List.length_map] at this
  exact this
theorem upI_lint (cs : List (List Nat)) (h : ∀ p, p ∈ cs → ∀ x, x ∈ p → x ≤ 9000000) : LInt (cs.map upI) := by
  intro l hl x hx
  obtain ⟨p, hp, rfl⟩ := List.mem_map.1 hl
  unfold upI at hx
  obtain ⟨y, hy, rfl⟩ := List.mem_map.1 hx
  have := h p hp y hy
  unfold InI
  omega
theorem comps_small {W : Mat} {n : Nat} (hw : Ways n W) : ∀ p, p ∈ compsN W n → ∀ x, x ∈ p → x < n := by
  intro p hp x hx
  obtain ⟨i, hi, _, rfl⟩ := (told_all hw).1 p hp
  exact (mem_partL.1 hx).1
theorem partL_le (W : Mat) (n i : Nat) : (partL W n i).length ≤ n := partK_le W i n
theorem tell_take (t : Nat → Bool) (pl : List Nat) (j : Nat) (h : j < pl.length) : (fun x => (t x || decide (x ∈ pl.take j)) || decide (x = pl[j])) = fun x => t x || decide (x ∈ pl.take (j + 1)) := by
  funext x
  rw [List.take_succ_eq_append_getElem h]
  simp only [List.mem_append, List.mem_singleton, Bool.decide_or, Bool.or_assoc]
theorem tell_all (t : Nat → Bool) (pl : List Nat) : (fun x => t x || decide (x ∈ pl.take pl.length)) = tellP t pl := by
  funext x
  rw [List.take_length]
  rfl
theorem tell_none (t : Nat → Bool) (pl : List Nat) : (fun x => t x || decide (x ∈ pl.take 0)) = t := by
  funext x
  simp
set_option maxRecDepth 20000 in
set_option maxHeartbeats 3200000 in
theorem implComps_any (n : Int) (es : List (Int × Int)) (ok : Bool) (hok : ok = true ↔ GOk n es) (v : Value) (w : World) (hl : ArcsAt w es v) :
    Calls Try.prog 11 #[.int .i64 n, v] w (ListL (compsI n es ok) w) := by
  obtain ⟨i0, hi0, hz0, hz1, hz2⟩ := info_parts infoIntsL
  have HL := Lib.hid hl
  have CG := Lib.hid (implGraph_any n es v w hl)
  obtain ⟨aa, cap, rfl, hlen, _, _⟩ := hl
  by_cases hg : GOk n es
  · obtain rfl : ok = true := hok.2 hg
    obtain ⟨m, rfl, hm⟩ := hg.nat
    have HA : Hid (compsI (m : Int) es true = (compsN (wayM m es) m).map upI) := by show _ = _; simp [compsI]
    have CW := Lib.hid (fun w hl => implWaysOf_any m es (.slice aa es.length cap) w hl hg)
    have HW := Lib.hid (way_ways hg)
    have HG := Lib.hid hg
    have HRA := Lib.hid (fun W => run_nodeAlloc W)
    obtain ⟨W, hW⟩ : ∃ W, W = wayM m es := ⟨_, rfl⟩
    rw [← hW] at HA CW HW
    clear hg hW hok
    go_enter Try.func11, Try.ntmps11
    go_wp2_with fail
    refine CG.out.mono ?_
    rintro e w1 ⟨b1, rfl, hb1, hw1⟩
    have hbt : b1 = true := hb1.2 HG.out
    subst hbt
    have B1 := Lib.hid hw1
    clear hb1 hw1
    go_wp2_with fail
    refine (CW.out _ (HL.out.keep (keeps_below B1.out))).mono ?_
    rintro e w2 ⟨rfl, hw2, hb2⟩
    have W2 := Lib.hid hw2
    have B2 := Lib.hid (B1.out.trans (hb2.mono B1.out.size))
    have hs1 : w.heap.size ≤ w1.heap.size := B1.out.size
    have hs2 : w1.heap.size < w2.heap.size := hw2.lt
    obtain ⟨b, hb⟩ : ∃ b, b = w1.heap.size := ⟨_, rfl⟩
    rw [← hb] at W2 hs1 hs2 ⊢
    have hwb : w.heap.size ≤ b := by omega
    clear hw2 hb2 hb CG CW
    have N3 := Lib.hid (NodesAt.new w2)
    have W3 := Lib.hid (W2.out.alloc (.cells nodeC 55))
    have B3 := Lib.hid (B2.out.alloc B2.out.size (.cells nodeC 55))
    have hs3 : (w2.alloc (.cells nodeC 55)).heap.size = w2.heap.size + 1 := by simp
    go_wp2_with (first
      | (refine wpList_alloc_run rfl 55 rfl _ (HRA.out _) ?_))
    obtain ⟨w3, hw3⟩ : ∃ w3, w3 = w2.alloc (.cells nodeC 55) := ⟨_, rfl⟩
    rw [← hw3] at N3 W3 B3 hs3 ⊢
    obtain ⟨p, hp⟩ : ∃ p, p = w2.heap.size := ⟨_, rfl⟩
    rw [← hp] at N3 hs3 hs2 ⊢
    clear hw3 hp W2 B2
    have C3 := Lib.hid (implFreeNode_any W (fun _ => false) b p m w3 W3.out N3.out hm)
    refine C3.out.mono ?_
    rintro e w4 ⟨z, rfl, hz, rfl⟩
    have HZ := Lib.hid hz
    have L3 : Hid (LOwn w3 w.heap.size w3.heap.size (.slice none 0 0) [] []) := LOwn.nil ⟨rfl, .inl ⟨rfl, rfl⟩⟩ B3.out.size
    have S3 := Lib.hid (CSt.start W m)
    have hu0 : ([] : List (List Nat)).length + untold m (fun _ => false) ≤ m := by
      have : untold m (fun _ => false) ≤ (List.range m).length := List.countP_le_length
      simp at this ⊢
      exact this
    have HU0 := Lib.hid hu0
    clear hz hu0
    have hpn : p < w3.heap.size := by omega
    have HNo : Hid (RNot p (.slice none 0 0) []) := by show RNot _ _ _; unfold RNot; simp [Value.ownBlock]
    have HNb : Hid (RNot b (.slice none 0 0) []) := by show RNot _ _ _; unfold RNot; simp [Value.ownBlock]
    go_wp2_with fail
    go_loopg [6, 8] m (fun gg ov zv wr => ∃ (t : Nat → Bool) (done : List (List Nat)) (z : Int) (hb : Nat) (cs : List Value), zv = .int .i64 z ∧ untold m t ≤ gg ∧ Hid (NextZ W m t z) ∧ Hid (CSt W m done t) ∧ Hid (done.length + untold m t ≤ m) ∧ Hid (WaysAt wr b m W) ∧ Hid (NodesAt wr p t) ∧ Hid (LOwn wr w.heap.size hb ov cs (done.map upI)) ∧ p < hb ∧ b < hb ∧ Hid (RNot p ov cs) ∧ Hid (RNot b ov cs) ∧ Hid (Below w.heap.size w wr))
    case atStart =>
      refine ⟨_, [], z, _, [], rfl, ?_, HZ.out, S3.out, HU0.out, W3.out, N3.out, L3.out, hpn, by omega, HNo.out, HNb.out, B3.out⟩
      have := HU0.out
      simpa using this
    case round =>
      obtain ⟨t, done, z, hb, cs, rfl, hgg, hz, hst, hcnt, hways, hnodes, hlo, hph, hbh, hnot, hnb, hbe⟩ := hrel
      obtain ⟨oa, oc, rfl, _⟩ := row_shape hlo.out.row
      rw [List.length_map] at hlo hnot hnb ⊢
      have hdl : done.length ≤ 60 := by have := hcnt.out; omega
      have hsw : w.heap.size ≤ wr.heap.size := hbe.out.size
      obtain ⟨wo, hwo⟩ : ∃ w0, w0 = wr := ⟨_, rfl⟩
      subst hwo
      rcases hz.out with ⟨i, rfl, him, hnx⟩ | ⟨rfl, hnx⟩
      · obtain ⟨hst2, hcnt2⟩ := hst.out.step HW.out hnx
        have C := Lib.hid (implPartOf_any W b m i wo hways.out him hm)
        have hpp := part_pos (W := W) him
        have hpl1 := partL_le W m i
        have hpm : ∀ x, x ∈ partL W m i → x < m := fun x hx => (mem_partL.1 hx).1
        obtain ⟨pl, hpl⟩ : ∃ pl, pl = partL W m i := ⟨_, rfl⟩
        rw [← hpl] at hst2 hcnt2 C hpp hpl1 hpm
        have ST2 := Lib.hid hst2
        have HPM := Lib.hid hpm
        have CN2 : Hid ((done ++ [pl]).length + untold m (tellP t pl) ≤ m) := by show _ ≤ _; have := hcnt.out; rw [List.length_append, List.length_singleton]; omega
        have hless : untold m (tellP t pl) < untold m t := by omega
        clear hst2 hcnt2 hpl hnx hpm hz
        go_wp2_with fail
        refine C.out.mono ?_
        rintro e w5 ⟨pv, rfl, hp5, hb5⟩
        rw [upI_length] at hp5
        obtain ⟨pa, pc, rfl, hpa⟩ := row_shape hp5
        have HPA := Lib.hid hpa
        have P5 := Lib.hid hp5
        have W5 := Lib.hid (hways.out.same (hb5.block b hways.out.lt))
        have N5 := Lib.hid (hnodes.out.same (hb5.block p hnodes.out.lt))
        have L5 := Lib.hid (RowsOwn.below hlo.out hb5)
        have B5 := Lib.hid (hbe.out.trans (hb5.mono hbe.out.size))
        have hs5 : wo.heap.size ≤ w5.heap.size := hb5.size
        have hpw : p < wo.heap.size := hnodes.out.lt
        have hbw : b < wo.heap.size := hways.out.lt
        have hhw : hb ≤ wo.heap.size := hlo.out.2.1
        clear hp5 hb5 hpa
        go_wp2_with fail
        go_loopw [30] (fun xi wr => ∃ (j : Nat), j ≤ pl.length ∧ xi = .int .i64 j ∧ Hid (NodesAt wr p (fun x => t x || decide (x ∈ pl.take j))) ∧ Hid (w5.grownBy wr (some p)))
          (fun xi _ => pl.length - (intOf xi).toNat)
        case atStart => exact ⟨0, Nat.zero_le _, rfl, by rw [tell_none]; exact N5.out, World.grownBy.refl _ _⟩
        case round =>
          obtain ⟨j, hj, rfl, hnd, hgr⟩ := hrel
          by_cases hjt : j < pl.length
          · obtain ⟨pg, rfl⟩ := HPA.out (by omega)
            have hpgl := P5.out.lt pg rfl
            have P6 := row_same P5.out (w' := wr) (fun c hc => hgr.out.block c (P5.out.lt c hc).2 (fun e => by injection e with e; have := (P5.out.lt c hc).1; omega))
            have c0 := natCell P6 j hjt
            have hpj : pl[j] < m := HPM.out _ (List.getElem_mem hjt)
            have c1 := hnd.out.cell pl[j] (by omega)
            have f1 := hnd.out.free pl[j]
            have HN2 : Hid (NodesAt (wr.setCell ⟨p, pl[j], none⟩ (.bool true)) p (fun x => t x || decide (x ∈ pl.take (j + 1)))) := by
              have := hnd.out.put pl[j] (by omega)
              rw [tell_take t pl j hjt] at this
              exact this
            have HG2 := Lib.hid (hgr.out.trans (grown_put wr p pl[j] (.bool true)))
            obtain ⟨u9, hu9⟩ : ∃ u9, u9 = Value.bool (t pl[j] || decide (pl[j] ∈ pl.take j)) := ⟨_, rfl⟩
            rw [← hu9] at c1
            clear P6 hu9
            go_wp2
            go_roundw
            case rel => exact ⟨j + 1, by omega, by go_num, HN2, HG2⟩
            case measure => simp [intOf]; omega
          · obtain rfl : j = pl.length := by omega
            have N6 : Hid (NodesAt wr p (tellP t pl)) := by
              have := hnd.out
              rw [tell_all] at this
              exact this
            have P6 := Lib.hid (row_same P5.out (w' := wr) (fun c hc => hgr.out.block c (P5.out.lt c hc).2 (fun e => by injection e with e; have := (P5.out.lt c hc).1; omega)))
            have W6 := Lib.hid (W5.out.same (hgr.out.block b (by omega) (by intro e; injection e with e; have h1 := W5.out.head; have h2 := N5.out.cell 0 (by omega); rw [e] at h1; rw [h1] at h2; injection h2 with h2; cases h2)))
            have L6 : Hid (LOwn wr w.heap.size hb (.slice oa done.length oc) cs (done.map upI)) := RowsOwn.other L5.out hnot.out hgr.out
            have B6 := Lib.hid (B5.out.grown hgr.out B5.out.size (fun c hc => by injection hc with hc; omega))
            have hp6 : p < wr.heap.size := by have := hgr.out.size; omega
            have hoo : (wr.alloc (.cells #[.slice pa pl.length pc] 34)).heap.size = wr.heap.size + 1 := by simp
            go_wp2_with (at_builtin; refine wpList_append_lies _ rfl (.tmp 37) (.tmp 39) 27 rfl w.heap.size 34 i0 (.slice none 0 0) 1 24 Try.underlying27 hi0 hz0 hz1 hz2 rfl (by decide) (.slice oa done.length oc) done.length _ rfl ((by have := L6.out.row; rw [List.length_map] at this; exact this : wr.ownsRow w.heap.size 34 1 (.slice oa done.length oc) done.length cs).alloc _) ⟨wr.heap.size, 0, none⟩ 1 1 [.slice pa pl.length pc] rfl rfl (World.news_of_block (heap_alloc_new _ _)) (RowsOwn.one (hi := wo.heap.size) (ei := 3) (w := wr) (D := intV (upI pl)) (by rw [intV_length, upI_length]; exact P6.out)) (by decide) (by unfold maxLen; omega) (by omega) (by simp; have := B6.out.size; omega) _ rfl ?_)
            intro g1 cap1 w8 hown1 hg1 hat1 hlt1
            have hat2 : (Value.slice (some ⟨g1, 0, none⟩) (done.length + 1) cap1).ownBlock = (Value.slice oa done.length oc).ownBlock ∨ ∀ c, (Value.slice (some ⟨g1, 0, none⟩) (done.length + 1) cap1).ownBlock = some c → (wr.alloc (.cells #[.slice pa pl.length pc] 34)).heap.size ≤ c := by
              rcases hat1 with h8 | h8
              · exact .inl h8.symm
              · refine .inr fun c hc => ?_
                have h9 : g1 = c := by simpa [Value.ownBlock] using hc
                rw [← h9, h8]
                simp
            have L6a := L6.out.below ((Below.refl _ _).alloc (Nat.le_refl _) (.cells #[.slice pa pl.length pc] 34))
            have P6a := P6.out.alloc (.cells #[.slice pa pl.length pc] 34)
            have L8 : Hid (LOwn w8 w.heap.size w8.heap.size (.slice (some ⟨g1, 0, none⟩) (done.length + 1) cap1) (cs ++ [.slice pa pl.length pc]) ((done ++ [pl]).map upI)) := by
              show LOwn _ _ _ _ _ _
              rw [List.map_append]
              refine LOwn.snoc L6a (l := upI pl) ?_ ?_ hg1 hat2
              · rw [upI_length]; exact P6a.mono hhw
              · rw [List.length_map]; exact hown1
            have NO8 := Lib.hid (hnot.out.snoc hph (P6a.mono hhw) hat2 (by rw [hoo]; omega))
            have hgb : ∀ q, q < wr.heap.size → RNot q (.slice oa done.length oc) cs → w8.heap[q]? = wr.heap[q]? := fun q hq hn => (hg1.block q (by rw [hoo]; omega) (fun e => hn.1 q e.symm rfl)).trans (heap_alloc_old wr _ hq)
            have N8 := Lib.hid (N6.out.same (hgb p hp6 hnot.out))
            have W8 : Hid (WaysAt w8 b m W) := W6.out.same (hgb b W6.out.lt hnb.out)
            have B8 : Hid (Below w.heap.size w w8) := (B6.out.alloc B6.out.size _).grown hg1 (by rw [hoo]; have := B6.out.size; omega) (fun c hc => (L6.out.row.lt c hc).1)
            have NB8 := Lib.hid (hnb.out.snoc (W := wr.alloc (.cells #[.slice pa pl.length pc] 34)) (by omega) (P6a.mono hhw) hat2 (by rw [hoo]; omega))
            have hp8 : p < w8.heap.size := N8.out.lt
            have C8 := Lib.hid (implFreeNode_any W (tellP t pl) b p m w8 W8.out N8.out hm)
            clear hown1 hg1 hat1 hlt1 hat2 L6a P6a hgb hoo
            go_wp2_with fail
            refine C8.out.mono ?_
            rintro e w9 ⟨z9, rfl, hz9, rfl⟩
            have HZ9 := Lib.hid hz9
            clear hz9
            go_wp2_with fail
            go_roundg (untold m (tellP t pl))
            case rel => exact ⟨tellP t pl, done ++ [pl], z9, _, _, rfl, Nat.le_refl _, HZ9.out, ST2.out, CN2.out, W8.out, N8.out, L8.out, hp8, W8.out.lt, NO8.out, NB8.out, B8.out⟩
            case measure => omega
      · have HE := Lib.hid (hst.out.done hnx)
        go_wp2_with fail
        go_ret
        exact ⟨_, _, _, rfl, by rw [HA.out, ← HE.out]; exact hlo.out, hbe.out⟩
  · have hof : ok = false := by
      cases ok with
      | false => rfl
      | true => exact absurd (hok.1 rfl) hg
    subst hof
    have HA : Hid (compsI n es false = []) := by show _ = _; simp [compsI]
    have HG := Lib.hid hg
    clear hg hok
    go_enter Try.func11, Try.ntmps11
    go_wp2_with fail
    refine CG.out.mono ?_
    rintro e w1 ⟨b1, rfl, hb1, hw1⟩
    have hbt : b1 = false := by
      cases b1 with
      | false => rfl
      | true => exact absurd (hb1.1 rfl) HG.out
    subst hbt
    have B1 := Lib.hid hw1
    clear hb1 hw1
    go_wp2_with fail
    go_ret
    refine ⟨_, w1.heap.size, [], rfl, ?_, B1.out⟩
    rw [HA.out]
    exact LOwn.nil ⟨rfl, .inl ⟨rfl, rfl⟩⟩ B1.out.size
end Go.Proofs.Ytabpbmifegfmgaa.Trm
