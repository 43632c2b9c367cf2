/- The program's NamesIn, walked. Conditions: the statements lie in rows that are not frozen; there are at most 2 to the 20 of them. -/
import Derived.Test.YtmhhghdfgdhljaaHasImpl
import Derived.Test.YtmhhghdfgdhljaaSNamesIn
import Derived.Test.YtmhhghdfgdhljaaCountInImpl
namespace Go.Proofs.Ytmhhghdfgdhljaa.Trm
open Go.RowKit Own
/-- Cells of another block stay. -/
theorem Moves.cell {w w' : World} {v v' : Value} {g : Nat} (h : Moves w v w' v') (hg : g < w.heap.size) (hn : v.ownBlock ≠ some g) : (∀ i, w'.cell? ⟨g, i, none⟩ = w.cell? ⟨g, i, none⟩) ∧ v'.ownBlock ≠ some g := by
  have hb : w'.heap[g]? = w.heap[g]? := h.1.block g hg (fun e => hn e.symm)
  refine ⟨fun j => World.cell?_of_block hb, fun e => ?_⟩
  rcases h.2 with h2 | h2
  · exact hn (h2 ▸ e)
  · have := h2 g e; omega
def NamesOkI (kd : Int) (xs : List STree) : Prop := ∀ (v ov : Value) (w0 w : World) (acc : List ByteArray), acc.length + cntXS xs ≤ 2000000 → SListAt w0 v xs → Below w0.heap.size w0 w → w.ownsRow w0.heap.size 9 1 ov acc.length (strV acc) →
    Calls Try.prog 71 #[ov, v, .int .i64 kd] w fun e w' => ∃ ov', e = .returned ov' ∧ w'.ownsRow w0.heap.size 9 1 ov' (namesXS kd xs acc).length (strV (namesXS kd xs acc)) ∧ Moves w ov w' ov'
set_option maxHeartbeats 3200000 in
theorem inames_list (kd : Int) (xs : List STree) (ih : ∀ x, x ∈ xs → NamesOkI kd x.body ∧ NamesOkI kd x.els) : NamesOkI kd xs := fun v ov w0 w acc ha hl hbe hown => by
  obtain ⟨i0, hi, hz0, hz1, hz2⟩ := info_parts infoStrR
  obtain ⟨hlen, aa, cap, rfl, hk⟩ := hl
  have IH := Lib.hid ih
  have HK := Lib.hid hk
  have HZ := Lib.hid ha
  have HO := Lib.hid hown
  have HB := Lib.hid hbe
  have hbs : w0.heap.size ≤ w.heap.size := hbe.size
  clear ih hk ha hown hbe
  go_enter Try.func71, Try.ntmps71
  go_wp2
  go_loopw [0, 11] (fun x i wr => ∃ (j : Nat) (ac : List ByteArray), j ≤ xs.length ∧ i = .int .i64 j ∧ Hid (namesXS kd xs acc = namesXS kd (xs.drop j) ac) ∧ Hid (ac.length + cntXS (xs.drop j) ≤ 2000000) ∧ wr.ownsRow w0.heap.size 9 1 x ac.length (strV ac) ∧ Hid (Moves w ov wr x))
    (fun _ i _ => xs.length - (intOf i).toNat)
  case atStart => exact ⟨0, acc, Nat.zero_le _, rfl, rfl, by show _ ≤ _; simpa using HZ.out, HO.out, Moves.refl _ _⟩
  case round =>
    obtain ⟨j, ac, hj, rfl, hsz, hz, hrow, hmv⟩ := hrel
    by_cases hlt : j < xs.length
    · obtain ⟨g, o, rfl, hl⟩ := HK.out (by omega)
      obtain ⟨oa, oc, rfl, hoa⟩ := row_shape hrow
      have HROW := Lib.hid hrow
      have hst := strs_of_row hrow
      clear hrow hoa
      have HBR := Lib.hid (hmv.out.below HB.out HO.out)
      obtain ⟨ta, tc, ba, bc, ea, ec, c0, c1, c2, c3, c4, c5, c6, c7, hl2⟩ := hl.at j hlt
      obtain ⟨_, lb, le⟩ := hl2.lists
      have hd := cntXS_drop hlt
      have hin := IH.out xs[j] (List.getElem_mem hlt)
      have IB := Lib.hid (fun ac ov wx hz hb hr => hin.1 _ ov w0 wx ac hz lb hb hr)
      have IE := Lib.hid (fun ac ov wx hz hb hr => hin.2 _ ov w0 wx ac hz le hb hr)
      have hke := keeps_below HBR.out
      replace c0 := hke _ _ c0
      replace c1 := hke _ _ c1
      replace c2 := hke _ _ c2
      replace c3 := hke _ _ c3
      replace c4 := hke _ _ c4
      replace c5 := hke _ _ c5
      replace c6 := hke _ _ c6
      replace c7 := hke _ _ c7
      have hzz := hz.out
      have hxl : xs.length ≤ 9223372036854775807 := hlen
      obtain ⟨W1, hW1⟩ : ∃ W1, W1 = (wr.alloc (.cells #[.int .i64 xs[j].kind, .string xs[j].name, .int .i64 xs[j].term.kind, .int .i64 xs[j].term.num, .string xs[j].term.name, .slice ta xs[j].term.kids.length tc, .slice ba xs[j].body.length bc, .slice ea xs[j].els.length ec] 50)) := ⟨_, rfl⟩
      have hk1 : Keeps wr W1 := by rw [hW1]; exact keeps_alloc _ _
      have NB : Hid ((Value.slice oa ac.length oc).ownBlock ≠ some wr.heap.size) := row_not HROW.out
      have x1 : W1.cell? ⟨wr.heap.size, 1, none⟩ = some (.string xs[j].name) := by rw [hW1]; simp [go_sem]
      have x6 : W1.cell? ⟨wr.heap.size, 6, none⟩ = some (.slice ba xs[j].body.length bc) := by rw [hW1]; simp [go_sem]
      have x7 : W1.cell? ⟨wr.heap.size, 7, none⟩ = some (.slice ea xs[j].els.length ec) := by rw [hW1]; simp [go_sem]
      have HROW1 : Hid (W1.ownsRow w0.heap.size 9 1 (.slice oa ac.length oc) ac.length (strV ac)) := by show World.ownsRow _ _ _ _ _ _ _; rw [hW1]; exact HROW.out.alloc _
      have HMV1 : Hid (Moves w ov W1 (.slice oa ac.length oc)) := by rw [hW1]; exact hmv.out.trans (Moves.alloc _ _ _)
      have HBR1 := Lib.hid (HMV1.out.below HB.out HO.out)
      have HST1 := Lib.hid (strs_of_row HROW1.out)
      have HW1 := Lib.hid hW1
      obtain ⟨D, hD⟩ : ∃ D, D = wr.heap.size := ⟨_, rfl⟩
      have HD := Lib.hid hD
      rw [← hD] at NB x1 x6 x7
      have X1 := Lib.hid x1
      have X6 := Lib.hid (And.intro x6 NB.out)
      have X7 := Lib.hid (And.intro x7 NB.out)
      clear hl hl2 lb le hke hin hst hk1 hW1 hD
      by_cases hkk : xs[j].kind = kd
      · have hkq : (xs[j].kind == kd) = true := by simp [hkk]
        by_cases hm : xs[j].name ∈ ac
        · have HN : Hid ((if xs[j].kind = kd then addN ac xs[j].name else ac) = ac) := by show _ = _; rw [if_pos hkk, addN_in hm]
          have CH := Lib.hid (implHas_yes ac xs[j].name _ W1 HST1.out hm)
          have h1 := namesXS_le kd xs[j].body ac
          have h2 := namesXS_le kd xs[j].els (namesXS kd xs[j].body ac)
          have HZA : Hid (ac.length + cntXS xs[j].body ≤ 2000000) := by show _ ≤ _; omega
          have HZB : Hid ((namesXS kd xs[j].body ac).length + cntXS xs[j].els ≤ 2000000) := by show _ ≤ _; omega
          have HZC : Hid ((namesXS kd xs[j].els (namesXS kd xs[j].body ac)).length + cntXS (xs.drop (j + 1)) ≤ 2000000) := by show _ ≤ _; omega
          have HS : Hid (namesXS kd xs acc = namesXS kd (xs.drop (j + 1)) (namesXS kd xs[j].els (namesXS kd xs[j].body ac))) := by show _ = _; rw [hsz.out, List.drop_eq_getElem_cons hlt, namesXS, namesX_eq, HN.out]
          clear h1 h2 hzz hd
          clear hkk hm x1 x6 x7
          have HRW := HROW1
          have HBW := HBR1
          have HMA := HMV1
          have HX7 := X7
          have q6 := X6.out.1
          go_wp2_with fail
          rw [← HW1.out, ← HD.out]
          refine CH.out.mono ?_
          rintro e w1 ⟨rfl, hw1⟩
          obtain rfl := hw1.out
          go_wp2_with fail
          refine (IB.out _ _ _ (by have := HZA.out; omega) HBW.out HRW.out).mono ?_
          rintro e w2 ⟨ov2, rfl, hrow2, hmv2⟩
          have HM2 := Lib.hid (HMA.out.trans hmv2)
          have HB2 := Lib.hid (HM2.out.below HB.out HO.out)
          have HR2 := Lib.hid hrow2
          have q7 : w2.cell? ⟨D, 7, none⟩ = some (.slice ea xs[j].els.length ec) := ((hmv2.cell (cell_lt HX7.out.1) HX7.out.2).1 7).trans HX7.out.1
          clear hrow2 hmv2
          go_wp2_with fail
          refine (IE.out _ _ _ (by have := HZB.out; omega) HB2.out HR2.out).mono ?_
          rintro e w3 ⟨ov3, rfl, hrow3, hmv3⟩
          have HM3 := Lib.hid (HM2.out.trans hmv3)
          have HR3 := Lib.hid hrow3
          clear hrow3 hmv3 q7
          go_wp2
          go_roundw
          case rel => exact ⟨j + 1, _, by omega, by go_num, HS, HZC, HR3.out, HM3⟩
          case measure => simp [intOf]; omega
        · have HN : Hid ((if xs[j].kind = kd then addN ac xs[j].name else ac) = ac ++ [xs[j].name]) := by show _ = _; rw [if_pos hkk, addN_out hm]
          have CH := Lib.hid (implHas_no ac xs[j].name _ W1 HST1.out hm)
          have hal : (ac ++ [xs[j].name]).length = ac.length + 1 := by simp
          have hlen1 : ac.length + 1 ≤ 2000000 := by omega
          have h1 := namesXS_le kd xs[j].body (ac ++ [xs[j].name])
          have h2 := namesXS_le kd xs[j].els (namesXS kd xs[j].body (ac ++ [xs[j].name]))
          have HZA : Hid ((ac ++ [xs[j].name]).length + cntXS xs[j].body ≤ 2000000) := by show _ ≤ _; omega
          have HZB : Hid ((namesXS kd xs[j].body (ac ++ [xs[j].name])).length + cntXS xs[j].els ≤ 2000000) := by show _ ≤ _; omega
          have HZC : Hid ((namesXS kd xs[j].els (namesXS kd xs[j].body (ac ++ [xs[j].name]))).length + cntXS (xs.drop (j + 1)) ≤ 2000000) := by show _ ≤ _; omega
          have HS : Hid (namesXS kd xs acc = namesXS kd (xs.drop (j + 1)) (namesXS kd xs[j].els (namesXS kd xs[j].body (ac ++ [xs[j].name])))) := by show _ = _; rw [hsz.out, List.drop_eq_getElem_cons hlt, namesXS, namesX_eq, HN.out]
          clear h1 h2 hzz hd
          clear hkk hm x6 x7
          go_wp2_with fail
          rw [← HW1.out, ← HD.out]
          refine CH.out.mono ?_
          rintro e w1 ⟨rfl, hw1⟩
          obtain rfl := hw1.out
          clear hw1
          go_wp2_with (at_builtin; refine wpList_append_lies _ rfl (.tmp 26) (.tmp 29) 22 rfl w0.heap.size 9 i0 (.string ⟨#[]⟩) 1 16 Try.underlying22 hi hz0 hz1 hz2 rfl (by decide) (.slice oa ac.length oc) ac.length _ rfl (HROW1.out.alloc _) ⟨w1.heap.size, 0, none⟩ 1 1 [.string xs[j].name] rfl rfl (World.news_of_block (heap_alloc_new _ _)) (one_textR _) (by decide) (by unfold maxLen; omega) (by omega) (by have := HMV1.out.1.size; simp; omega) _ rfl ?_)
          intro g1 cap1 w4 hown1 hg1 hat1 hlt1
          have HRW : Hid (w4.ownsRow w0.heap.size 9 1 (.slice (some ⟨g1, 0, none⟩) (ac.length + 1) cap1) (ac ++ [xs[j].name]).length (strV (ac ++ [xs[j].name]))) := by
            show World.ownsRow _ _ _ _ _ _ _
            simpa [strV] using hown1
          have HMC : Hid (Moves w1 (.slice oa ac.length oc) w4 (.slice (some ⟨g1, 0, none⟩) (ac.length + 1) cap1)) := by
            refine (Moves.alloc _ _ _).trans ⟨hg1, ?_⟩
            rcases hat1 with h | h
            · exact .inl h.symm
            · exact .inr fun k hk => by cases hk; simp; omega
          have HMA := Lib.hid (HMV1.out.trans HMC.out)
          have HBW := Lib.hid (HMA.out.below HB.out HO.out)
          have q6 : w4.cell? ⟨D, 6, none⟩ = some (.slice ba xs[j].body.length bc) := ((HMC.out.cell (cell_lt X6.out.1) X6.out.2).1 6).trans X6.out.1
          have HX7 : Hid (w4.cell? ⟨D, 7, none⟩ = some (.slice ea xs[j].els.length ec) ∧ (Value.slice (some ⟨g1, 0, none⟩) (ac.length + 1) cap1).ownBlock ≠ some D) := ⟨((HMC.out.cell (cell_lt X7.out.1) X7.out.2).1 7).trans X7.out.1, (HMC.out.cell (cell_lt X7.out.1) X7.out.2).2⟩
          clear hown1 hg1 hat1 hlt1 x1
          go_wp2_with fail
          refine (IB.out _ _ _ (by have := HZA.out; omega) HBW.out HRW.out).mono ?_
          rintro e w2 ⟨ov2, rfl, hrow2, hmv2⟩
          have HM2 := Lib.hid (HMA.out.trans hmv2)
          have HB2 := Lib.hid (HM2.out.below HB.out HO.out)
          have HR2 := Lib.hid hrow2
          have q7 : w2.cell? ⟨D, 7, none⟩ = some (.slice ea xs[j].els.length ec) := ((hmv2.cell (cell_lt HX7.out.1) HX7.out.2).1 7).trans HX7.out.1
          clear hrow2 hmv2
          go_wp2_with fail
          refine (IE.out _ _ _ (by have := HZB.out; omega) HB2.out HR2.out).mono ?_
          rintro e w3 ⟨ov3, rfl, hrow3, hmv3⟩
          have HM3 := Lib.hid (HM2.out.trans hmv3)
          have HR3 := Lib.hid hrow3
          clear hrow3 hmv3 q7
          go_wp2
          go_roundw
          case rel => exact ⟨j + 1, _, by omega, by go_num, HS, HZC, HR3.out, HM3⟩
          case measure => simp [intOf]; omega
      · have HN : Hid ((if xs[j].kind = kd then addN ac xs[j].name else ac) = ac) := by show _ = _; rw [if_neg hkk]
        have hkq : (xs[j].kind == kd) = false := by simp [hkk]
        have h1 := namesXS_le kd xs[j].body ac
        have h2 := namesXS_le kd xs[j].els (namesXS kd xs[j].body ac)
        have HZA : Hid (ac.length + cntXS xs[j].body ≤ 2000000) := by show _ ≤ _; omega
        have HZB : Hid ((namesXS kd xs[j].body ac).length + cntXS xs[j].els ≤ 2000000) := by show _ ≤ _; omega
        have HZC : Hid ((namesXS kd xs[j].els (namesXS kd xs[j].body ac)).length + cntXS (xs.drop (j + 1)) ≤ 2000000) := by show _ ≤ _; omega
        have HS : Hid (namesXS kd xs acc = namesXS kd (xs.drop (j + 1)) (namesXS kd xs[j].els (namesXS kd xs[j].body ac))) := by show _ = _; rw [hsz.out, List.drop_eq_getElem_cons hlt, namesXS, namesX_eq, HN.out]
        clear h1 h2 hzz hd
        have HRW := HROW1
        have HBW := HBR1
        have HMA := HMV1
        have HX7 := X7
        clear hkk x1 x6 x7
        go_wp2_with fail
        rw [← HW1.out, ← HD.out]
        refine (IB.out _ _ _ (by have := HZA.out; omega) HBW.out HRW.out).mono ?_
        rintro e w2 ⟨ov2, rfl, hrow2, hmv2⟩
        have HM2 := Lib.hid (HMA.out.trans hmv2)
        have HB2 := Lib.hid (HM2.out.below HB.out HO.out)
        have HR2 := Lib.hid hrow2
        have q7 : w2.cell? ⟨D, 7, none⟩ = some (.slice ea xs[j].els.length ec) := ((hmv2.cell (cell_lt HX7.out.1) HX7.out.2).1 7).trans HX7.out.1
        clear hrow2 hmv2
        go_wp2_with fail
        refine (IE.out _ _ _ (by have := HZB.out; omega) HB2.out HR2.out).mono ?_
        rintro e w3 ⟨ov3, rfl, hrow3, hmv3⟩
        have HM3 := Lib.hid (HM2.out.trans hmv3)
        have HR3 := Lib.hid hrow3
        clear hrow3 hmv3 q7
        go_wp2
        go_roundw
        case rel => exact ⟨j + 1, _, by omega, by go_num, HS, HZC, HR3.out, HM3⟩
        case measure => simp [intOf]; omega
    · have HS : Hid (namesXS kd xs acc = ac) := by show _ = _; rw [hsz.out, List.drop_of_length_le (by omega), namesXS]
      have HROW := Lib.hid hrow
      clear hrow
      go_wp2
      go_ret
      exact ⟨_, rfl, by rw [HS.out]; exact HROW.out, hmv.out⟩
theorem implNames_all (kd : Int) : ∀ x : STree, NamesOkI kd x.body ∧ NamesOkI kd x.els := streeInd fun _ _ _ b e ihb ihe => ⟨inames_list kd b ihb, inames_list kd e ihe⟩
theorem implNames_any (kd : Int) (xs : List STree) : NamesOkI kd xs := inames_list kd xs fun x _ => implNames_all kd x
theorem implNamesIn_any (kd : Int) (xs : List STree) (v : Value) (w : World) (hz : cntXS xs ≤ 1100000) (hf : SListF w v xs) (hl : SListAt w v xs) :
    Calls Try.prog 28 #[v, .int .i64 kd] w fun e w' => ∃ ov, e = .returned ov ∧ w'.ownsRow w.heap.size 9 1 ov (namesIn kd xs).length (strV (namesIn kd xs)) ∧ Below w.heap.size w w' := by
  have C := Lib.hid (Cn.implCount_any xs v w hz hf)
  obtain ⟨_, a, c, rfl, _⟩ := hf
  by_cases hc : cntXS xs ≤ 60
  · have HR : Hid (namesIn kd xs = namesXS kd xs []) := by show _ = _; unfold namesIn; rw [if_pos hc]
    have D := Lib.hid (fun w1 hb => implNames_any kd xs (.slice a xs.length c) (.slice none 0 0) w w1 [] (by simp; omega) hl hb ⟨by simp [strV], .inl ⟨rfl, rfl⟩⟩)
    have hq : ¬ (60 : Int) < (cntXS xs : Int) := by omega
    have HN : Hid (w.ownsRow w.heap.size 9 1 (.slice none 0 0) ([] : List ByteArray).length (strV [])) := ⟨by simp [strV], .inl ⟨rfl, rfl⟩⟩
    generalize cntXS xs = n at C hq
    clear hl hc hz
    go_enter Try.func28, Try.ntmps28
    go_wp2_with fail
    refine C.out.mono ?_
    rintro e w1 ⟨rfl, hb1⟩
    have B1 := Lib.hid hb1
    clear hb1
    go_wp2_with fail
    refine (D.out _ B1.out).mono ?_
    rintro e w2 ⟨ov, rfl, hrow, hmv⟩
    have HRow := Lib.hid hrow
    have HB2 := Lib.hid (hmv.below B1.out (e := 9) (size := 1) (n := 0) (xs := []) ⟨by simp, .inl ⟨rfl, rfl⟩⟩)
    clear hrow hmv
    go_wp2
    go_ret
    exact ⟨_, rfl, by rw [HR.out]; exact HRow.out, HB2.out⟩
  · have HR : Hid (namesIn kd xs = []) := by show _ = _; unfold namesIn; rw [if_neg hc]
    have hq : (60 : Int) < (cntXS xs : Int) := by omega
    generalize cntXS xs = n at C hq
    clear hl hc hz
    go_enter Try.func28, Try.ntmps28
    go_wp2_with fail
    refine C.out.mono ?_
    rintro e w1 ⟨rfl, hb1⟩
    have B1 := Lib.hid hb1
    clear hb1
    go_wp2
    go_ret
    exact ⟨_, rfl, by rw [HR.out]; exact ⟨by simp [strV], .inl ⟨rfl, rfl⟩⟩, B1.out⟩
end Go.Proofs.Ytmhhghdfgdhljaa.Trm
