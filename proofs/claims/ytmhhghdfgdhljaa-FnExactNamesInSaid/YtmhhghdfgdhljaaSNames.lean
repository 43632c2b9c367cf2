/- The model's list of names of one kind, walked. Conditions: the statements lie in memory that is older than the list of names; together at most 2 millions. -/
import Derived.Test.YtmhhghdfgdhljaaChecked
import Derived.Test.YtmhhghdfgdhljaaSTrees
import Derived.Test.YtmhhghdfgdhljaaSCnt
import Derived.Test.YtmhhghdfgdhljaaNamed
import Derived.Test.YtmhhghdfgdhljaaTermSame
import Derived.Deep.AppendLies
import Derived.BigQuiet
import Derived.OwnWalk
import Derived.WalkSmall
import Derived.Outline
namespace Go.Proofs.Ytmhhghdfgdhljaa.Trm
open Go.RowKit Own
mutual
noncomputable def namesX (kd : Int) : STree → List ByteArray → List ByteArray
  | .node k s _ b e, acc => namesXS kd e (namesXS kd b (if k = kd then addN acc s else acc))
noncomputable def namesXS (kd : Int) : List STree → List ByteArray → List ByteArray
  | [], acc => acc
  | x :: xs, acc => namesXS kd xs (namesX kd x acc)
end
theorem namesX_eq (kd : Int) (x : STree) (acc : List ByteArray) : namesX kd x acc = namesXS kd x.els (namesXS kd x.body (if x.kind = kd then addN acc x.name else acc)) := by cases x; rw [namesX]; rfl
mutual
theorem namesX_le (kd : Int) : ∀ (x : STree) (acc : List ByteArray), (namesX kd x acc).length ≤ acc.length + cntX x
  | .node k s t b e, acc => by
    rw [namesX, cntX]
    have h0 : (if k = kd then addN acc s else acc).length ≤ acc.length + 1 := by
      split
      · exact addN_le acc s
      · omega
    have h1 := namesXS_le kd b (if k = kd then addN acc s else acc)
    have h2 := namesXS_le kd e (namesXS kd b (if k = kd then addN acc s else acc))
    omega
theorem namesXS_le (kd : Int) : ∀ (xs : List STree) (acc : List ByteArray), (namesXS kd xs acc).length ≤ acc.length + cntXS xs
  | [], acc => by simp [namesXS, cntXS]
  | x :: xs, acc => by
    rw [namesXS, cntXS]
    have h1 := namesX_le kd x acc
    have h2 := namesXS_le kd xs (namesX kd x acc)
    omega
end
theorem specHas_any (acc : List ByteArray) (ov : Value) (s : ByteArray) (w : World) (base : Nat) (ha : acc.length ≤ 2000000) (hown : w.ownsRow base 9 1 ov acc.length (strV acc)) (r : Bool) (hr : r = true ↔ s ∈ acc) :
    Calls Try.prog 87 #[ov, .string s] w fun e w' => e = .returned (.bool r) ∧ w = w' := by
  obtain ⟨oa, oc, rfl, hoa⟩ := row_shape hown
  have HO := Lib.hid hown
  have HA := Lib.hid hoa
  have HR := Lib.hid hr
  clear hown hoa hr
  go_enter Try.func87, Try.ntmps87
  go_wp2
  go_loopw [5] (fun i wr => ∃ j : Nat, j ≤ acc.length ∧ i = .int .i64 j ∧ Hid (∀ i (h : i < acc.length), i < j → acc[i] ≠ s) ∧ w = wr)
    (fun i _ => acc.length - (intOf i).toNat)
  case atStart => exact ⟨0, Nat.zero_le _, rfl, fun i _ h => by omega, rfl⟩
  case round =>
    obtain ⟨j, hj, rfl, hne, rfl⟩ := hrel
    by_cases hlt : j < acc.length
    · obtain ⟨g, rfl⟩ := HA.out (by omega)
      have c0 := row_cell HO.out j hlt
      by_cases he : acc[j] = s
      · have HS : Hid (r = true) := HR.out.2 (he ▸ List.getElem_mem hlt)
        rw [he] at c0
        clear he
        go_wp2
        go_ret
        exact ⟨ret_b (by rw [HS.out]), rfl⟩
      · have hq := bytes_ne he
        have HS : Hid (∀ i (h : i < acc.length), i < j + 1 → acc[i] ≠ s) := fun i h hi => by
          rcases Nat.lt_or_ge i j with h1 | h1
          · exact hne.out i h h1
          · obtain rfl : i = j := by omega
            exact he
        clear he
        go_wp2
        go_roundw
        case rel => exact ⟨j + 1, by omega, by go_num, HS, trivial⟩
        case measure => simp [intOf]; omega
    · have HS : Hid (r = false) := by
        show _ = _
        cases r with
        | false => rfl
        | true =>
          obtain ⟨i, hi, e⟩ := List.mem_iff_getElem.1 (HR.out.1 rfl)
          exact absurd e (hne.out i hi (by omega))
      go_wp2
      go_ret
      exact ⟨ret_b (by rw [HS.out]), rfl⟩
def NamesOk (kd : Int) (xs : List STree) : Prop := ∀ (v ov : Value) (w0 w : World) (acc : List ByteArray), acc.length + cntXS xs ≤ 2000000 → SListAt w0 v xs → Below w0.heap.size w0 w → w.ownsRow w0.heap.size 9 1 ov acc.length (strV acc) →
    Calls Try.prog 69 #[v, .int .i64 kd, ov] w fun e w' => ∃ ov', e = .returned ov' ∧ w'.ownsRow w0.heap.size 9 1 ov' (namesXS kd xs acc).length (strV (namesXS kd xs acc)) ∧ Moves w ov w' ov'
set_option maxHeartbeats 1600000 in
theorem names_list (kd : Int) (xs : List STree) (ih : ∀ x, x ∈ xs → NamesOk kd x.body ∧ NamesOk kd x.els) : NamesOk kd xs := fun v ov w0 w acc ha hl hbe hown => by
  obtain ⟨i0, hi, hz0, hz1, hz2⟩ := info_parts infoStrR
  obtain ⟨hlen, aa, cap, rfl, hk⟩ := hl
  have IH := Lib.hid ih
  have HK := Lib.hid hk
  have HZ := Lib.hid ha
  have HO := Lib.hid hown
  have HB := Lib.hid hbe
  have hbs : w0.heap.size ≤ w.heap.size := hbe.size
  clear ih hk ha hown hbe
  go_enter Try.func69, Try.ntmps69
  go_wp2
  go_loopw [2, 7] (fun x i wr => ∃ (j : Nat) (ac : List ByteArray), j ≤ xs.length ∧ i = .int .i64 j ∧ Hid (namesXS kd xs acc = namesXS kd (xs.drop j) ac) ∧ Hid (ac.length + cntXS (xs.drop j) ≤ 2000000) ∧ wr.ownsRow w0.heap.size 9 1 x ac.length (strV ac) ∧ Hid (Moves w ov wr x))
    (fun _ i _ => xs.length - (intOf i).toNat)
  case atStart => exact ⟨0, acc, Nat.zero_le _, rfl, rfl, by show _ ≤ _; simpa using HZ.out, HO.out, Moves.refl _ _⟩
  case round =>
    obtain ⟨j, ac, hj, rfl, hsz, hz, hrow, hmv⟩ := hrel
    by_cases hlt : j < xs.length
    · obtain ⟨g, o, rfl, hl⟩ := HK.out (by omega)
      obtain ⟨oa, oc, rfl, hoa⟩ := row_shape hrow
      have HROW := Lib.hid hrow
      clear hrow hoa
      have HBR := Lib.hid (hmv.out.below HB.out HO.out)
      obtain ⟨ta, tc, ba, bc, ea, ec, c0, c1, c2, c3, c4, c5, c6, c7, hl2⟩ := hl.at j hlt
      obtain ⟨_, lb, le⟩ := hl2.lists
      have hd := cntXS_drop hlt
      have hin := IH.out xs[j] (List.getElem_mem hlt)
      have IB := Lib.hid (fun ac ov wx hz hb hr => hin.1 _ ov w0 wx ac hz lb hb hr)
      have IE := Lib.hid (fun ac ov wx hz hb hr => hin.2 _ ov w0 wx ac hz le hb hr)
      have hke := keeps_below HBR.out
      have d0 := hke _ _ c0
      have d1 := hke _ _ c1
      have d6 := hke _ _ c6
      have d7 := hke _ _ c7
      replace c6 := Lib.hid c6
      replace c7 := Lib.hid c7
      have hzz := hz.out
      have hxl : xs.length ≤ 9223372036854775807 := hlen
      clear hl hl2 lb le hke c0 c1 c2 c3 c4 c5 hin
      by_cases hkk : xs[j].kind = kd
      · by_cases hm : xs[j].name ∈ ac
        · have HN : Hid ((if xs[j].kind = kd then addN ac xs[j].name else ac) = ac) := by show _ = _; rw [if_pos hkk, addN_in hm]
          have CH := Lib.hid (specHas_any ac (.slice oa ac.length oc) xs[j].name wr w0.heap.size (by omega) HROW.out true ⟨fun _ => hm, fun _ => rfl⟩)
          have HS : Hid (namesXS kd xs acc = namesXS kd (xs.drop (j + 1)) (namesXS kd xs[j].els (namesXS kd xs[j].body ac))) := by show _ = _; rw [hsz.out, List.drop_eq_getElem_cons hlt, namesXS, namesX_eq, HN.out]
          have h1 := namesXS_le kd xs[j].body ac
          have h2 := namesXS_le kd xs[j].els (namesXS kd xs[j].body ac)
          have HZA : Hid (ac.length + cntXS xs[j].body ≤ 2000000) := by show _ ≤ _; omega
          have HZB : Hid ((namesXS kd xs[j].body ac).length + cntXS xs[j].els ≤ 2000000) := by show _ ≤ _; omega
          have HZC : Hid ((namesXS kd xs[j].els (namesXS kd xs[j].body ac)).length + cntXS (xs.drop (j + 1)) ≤ 2000000) := by show _ ≤ _; omega
          clear h1 h2 hzz hd
          have HRW := HROW
          have HBW := HBR
          have HMA := hmv
          rw [hkk] at d0
          clear hkk hm d7
          go_wp2_with fail
          refine CH.out.mono ?_
          rintro e w1 ⟨rfl, rfl⟩
          go_wp2_with fail
          refine (IB.out _ _ _ (by have := HZA.out; omega) HBW.out HRW.out).mono ?_
          rintro e w2 ⟨ov2, rfl, hrow2, hmv2⟩
          have HM2 := Lib.hid (HMA.out.trans hmv2)
          have HB2 := Lib.hid (HM2.out.below HB.out HO.out)
          have HR2 := Lib.hid hrow2
          have q7 := keeps_below HB2.out _ _ c7.out
          clear hrow2 hmv2
          go_wp2_with fail
          refine (IE.out _ _ _ (by have := HZB.out; omega) HB2.out HR2.out).mono ?_
          rintro e w3 ⟨ov3, rfl, hrow3, hmv3⟩
          have HM3 := Lib.hid (HM2.out.trans hmv3)
          have HR3 := Lib.hid hrow3
          clear hrow3 hmv3 q7
          go_wp2
          go_roundw
          case rel => exact ⟨j + 1, _, by omega, by go_num, HS, HZC, HR3.out, HM3⟩
          case measure => simp [intOf]; omega
        · have HN : Hid ((if xs[j].kind = kd then addN ac xs[j].name else ac) = ac ++ [xs[j].name]) := by show _ = _; rw [if_pos hkk, addN_out hm]
          have CH := Lib.hid (specHas_any ac (.slice oa ac.length oc) xs[j].name wr w0.heap.size (by omega) HROW.out false ⟨fun h => (Bool.noConfusion h), fun h => absurd h hm⟩)
          have hal : (ac ++ [xs[j].name]).length = ac.length + 1 := by simp
          have hlen1 : ac.length + 1 ≤ 2000000 := by omega
          have HS : Hid (namesXS kd xs acc = namesXS kd (xs.drop (j + 1)) (namesXS kd xs[j].els (namesXS kd xs[j].body (ac ++ [xs[j].name])))) := by show _ = _; rw [hsz.out, List.drop_eq_getElem_cons hlt, namesXS, namesX_eq, HN.out]
          have h1 := namesXS_le kd xs[j].body (ac ++ [xs[j].name])
          have h2 := namesXS_le kd xs[j].els (namesXS kd xs[j].body (ac ++ [xs[j].name]))
          have HZA : Hid ((ac ++ [xs[j].name]).length + cntXS xs[j].body ≤ 2000000) := by show _ ≤ _; omega
          have HZB : Hid ((namesXS kd xs[j].body (ac ++ [xs[j].name])).length + cntXS xs[j].els ≤ 2000000) := by show _ ≤ _; omega
          have HZC : Hid ((namesXS kd xs[j].els (namesXS kd xs[j].body (ac ++ [xs[j].name]))).length + cntXS (xs.drop (j + 1)) ≤ 2000000) := by show _ ≤ _; omega
          clear h1 h2 hzz hd
          rw [hkk] at d0
          clear hkk hm
          go_wp2_with fail
          refine CH.out.mono ?_
          rintro e w1 ⟨rfl, rfl⟩
          go_wp2_with (at_builtin; refine wpList_append_lies _ rfl (.tmp 31) (.tmp 37) 22 rfl w0.heap.size 9 i0 (.string ⟨#[]⟩) 1 16 Try.underlying22 hi hz0 hz1 hz2 rfl (by decide) (.slice oa ac.length oc) ac.length _ rfl (HROW.out.alloc _) ⟨wr.heap.size, 0, none⟩ 1 1 [.string xs[j].name] rfl rfl (World.news_of_block (heap_alloc_new _ _)) (one_textR _) (by decide) (by unfold maxLen; omega) (by omega) (by have := hmv.out.1.size; simp; omega) _ rfl ?_)
          intro g1 cap1 w1 hown1 hg1 hat1 hlt1
          have HRW : Hid (w1.ownsRow w0.heap.size 9 1 (.slice (some ⟨g1, 0, none⟩) (ac.length + 1) cap1) (ac ++ [xs[j].name]).length (strV (ac ++ [xs[j].name]))) := by
            show World.ownsRow _ _ _ _ _ _ _
            simpa [strV] using hown1
          have HMA : Hid (Moves w ov w1 (.slice (some ⟨g1, 0, none⟩) (ac.length + 1) cap1)) := by
            refine hmv.out.trans ((Moves.alloc _ _ _).trans ⟨hg1, ?_⟩)
            rcases hat1 with h | h
            · exact .inl h.symm
            · exact .inr fun k hk => by cases hk; simp; omega
          have HBW := Lib.hid (HMA.out.below HB.out HO.out)
          have q6 := keeps_below HBW.out _ _ c6.out
          clear hown1 hg1 hat1 hlt1 d0 d1 d6 d7
          go_wp2_with fail
          refine (IB.out _ _ _ (by have := HZA.out; omega) HBW.out HRW.out).mono ?_
          rintro e w2 ⟨ov2, rfl, hrow2, hmv2⟩
          have HM2 := Lib.hid (HMA.out.trans hmv2)
          have HB2 := Lib.hid (HM2.out.below HB.out HO.out)
          have HR2 := Lib.hid hrow2
          have q7 := keeps_below HB2.out _ _ c7.out
          clear hrow2 hmv2
          go_wp2_with fail
          refine (IE.out _ _ _ (by have := HZB.out; omega) HB2.out HR2.out).mono ?_
          rintro e w3 ⟨ov3, rfl, hrow3, hmv3⟩
          have HM3 := Lib.hid (HM2.out.trans hmv3)
          have HR3 := Lib.hid hrow3
          clear hrow3 hmv3 q7 q6
          go_wp2
          go_roundw
          case rel => exact ⟨j + 1, _, by omega, by go_num, HS, HZC, HR3.out, HM3⟩
          case measure => simp [intOf]; omega
      · have HN : Hid ((if xs[j].kind = kd then addN ac xs[j].name else ac) = ac) := by show _ = _; rw [if_neg hkk]
        have hkq : (xs[j].kind == kd) = false := by simp [hkk]
        have HS : Hid (namesXS kd xs acc = namesXS kd (xs.drop (j + 1)) (namesXS kd xs[j].els (namesXS kd xs[j].body ac))) := by show _ = _; rw [hsz.out, List.drop_eq_getElem_cons hlt, namesXS, namesX_eq, HN.out]
        have h1 := namesXS_le kd xs[j].body ac
        have h2 := namesXS_le kd xs[j].els (namesXS kd xs[j].body ac)
        have HZA : Hid (ac.length + cntXS xs[j].body ≤ 2000000) := by show _ ≤ _; omega
        have HZB : Hid ((namesXS kd xs[j].body ac).length + cntXS xs[j].els ≤ 2000000) := by show _ ≤ _; omega
        have HZC : Hid ((namesXS kd xs[j].els (namesXS kd xs[j].body ac)).length + cntXS (xs.drop (j + 1)) ≤ 2000000) := by show _ ≤ _; omega
        clear h1 h2 hzz hd
        have HRW := HROW
        have HBW := HBR
        have HMA := hmv
        clear hkk d7
        go_wp2_with fail
        refine (IB.out _ _ _ (by have := HZA.out; omega) HBW.out HRW.out).mono ?_
        rintro e w2 ⟨ov2, rfl, hrow2, hmv2⟩
        have HM2 := Lib.hid (HMA.out.trans hmv2)
        have HB2 := Lib.hid (HM2.out.below HB.out HO.out)
        have HR2 := Lib.hid hrow2
        have q7 := keeps_below HB2.out _ _ c7.out
        clear hrow2 hmv2
        go_wp2_with fail
        refine (IE.out _ _ _ (by have := HZB.out; omega) HB2.out HR2.out).mono ?_
        rintro e w3 ⟨ov3, rfl, hrow3, hmv3⟩
        have HM3 := Lib.hid (HM2.out.trans hmv3)
        have HR3 := Lib.hid hrow3
        clear hrow3 hmv3 q7
        go_wp2
        go_roundw
        case rel => exact ⟨j + 1, _, by omega, by go_num, HS, HZC, HR3.out, HM3⟩
        case measure => simp [intOf]; omega
    · have HS : Hid (namesXS kd xs acc = ac) := by show _ = _; rw [hsz.out, List.drop_of_length_le (by omega), namesXS]
      have HROW := Lib.hid hrow
      clear hrow
      go_wp2
      go_ret
      exact ⟨_, rfl, by rw [HS.out]; exact HROW.out, hmv.out⟩
theorem specNames_all (kd : Int) : ∀ x : STree, NamesOk kd x.body ∧ NamesOk kd x.els := streeInd fun _ _ _ b e ihb ihe => ⟨names_list kd b ihb, names_list kd e ihe⟩
theorem specNames_any (kd : Int) (xs : List STree) : NamesOk kd xs := names_list kd xs fun x _ => specNames_all kd x
end Go.Proofs.Ytmhhghdfgdhljaa.Trm
