/- The model's UnusedIn, walked. Conditions: the program lies in memory; it has at most 2 to the 20 names and statements. -/
import Derived.Test.YtmhhghdfgdhljaaUseList
import Derived.Test.YtmhhghdfgdhljaaUnkIn
import Derived.Deep.RegionLaw
namespace Go.Proofs.Ytmhhghdfgdhljaa.Trm
open Go.RowKit Own
noncomputable def unuIn (x : PTree) : List ByteArray := if okP x = true then (x.globals ++ x.locks).filter (fun s => @decide (¬ s ∈ usePs x.procs []) (Classical.propDecidable _)) else []
theorem usePs_drop {ps : List PrT} {i : Nat} (h : i < ps.length) (acc : List ByteArray) : usePs (ps.drop i) acc = usePs (ps.drop (i + 1)) (useXS ps[i].body acc) := by
  unfold usePs; rw [List.drop_eq_getElem_cons h, List.foldl_cons]
theorem usePs_end {ps : List PrT} {i : Nat} (h : ps.length ≤ i) (acc : List ByteArray) : usePs (ps.drop i) acc = acc := by
  unfold usePs; rw [List.drop_of_length_le h]; rfl
/-- What an append reads: nothing, or cells one behind the other. -/
def Src (w : World) (sa : Option Addr) (m sc : Nat) (ys : List Value) : Prop := (sa = none ∧ m = 0 ∧ sc = 0 ∧ ys = []) ∨ ∃ ad, sa = some ad ∧ ys.length = m ∧ ∀ j u, ys[j]? = some u → w.cell? (ad.add j) = some u
theorem Src.keep {w w' : World} {sa : Option Addr} {m sc : Nat} {ys : List Value} (h : Src w sa m sc ys) (hk : Keeps w w') : Src w' sa m sc ys := by
  rcases h with h | ⟨ad, h1, h2, h3⟩
  · exact .inl h
  · exact .inr ⟨ad, h1, h2, fun j u e => hk _ _ (h3 j u e)⟩
theorem src_strs {w : World} {ns : List ByteArray} {a : Option Addr} {c : Nat} (h : StrsAt w ns (.slice a ns.length c)) (hn : a = none → c = 0) : Src w a ns.length c (strV ns) := by
  obtain ⟨a2, c2, e, _, h2⟩ := h
  simp at e
  obtain ⟨rfl, rfl⟩ := e
  rcases Nat.eq_zero_or_pos ns.length with h0 | h0
  · obtain rfl := List.length_eq_zero_iff.1 h0
    cases a with
    | none => exact .inl ⟨rfl, rfl, hn rfl, rfl⟩
    | some ad => exact .inr ⟨ad, rfl, rfl, fun j u e => by simp [strV] at e⟩
  · obtain ⟨g, o, rfl, h3⟩ := h2 h0
    refine .inr ⟨⟨g, o, none⟩, rfl, by simp [strV], fun j u e => ?_⟩
    have hj : j < ns.length := by
      rcases Nat.lt_or_ge j ns.length with h | h
      · exact h
      · rw [List.getElem?_eq_none (by simpa [strV] using h)] at e; cases e
    have e2 : u = .string ns[j] := by simp [strV, hj] at e; exact e.symm
    rw [e2, show (⟨g, o, none⟩ : Addr).add j = ⟨g, o + j, none⟩ from by unfold Addr.add; split <;> simp_all]
    exact h3 j hj
theorem step_append_src {P : Program} {w : World} {ops : Array Oper} {o : Oper} {a : Act} {K : Act → World → Prop} {Q : Exit → Act → World → Prop} {E : Prop} (hgd : o.guard = none) (s x : Operand) (t : TypeId)
    (ho : o.op = .call { callee := .builtin .append, args := #[s, x], argTypes := #[t, t] })
    (base : Nat) (e : TypeId) (i : TypeInfo) (z : Value) (bytes : Nat) (ht : P.underlying t = some (.slice e)) (hi : P.info? e = some i) (hz : i.zero = some z)
    (hsize : i.size = 1) (hby : i.bytes = bytes) (hzs : z.cells.size = 1)
    (v : Value) (n : Nat) (xs : List Value) (hs : a.eval s = v) (hown : w.ownsRow base e 1 v n xs)
    (sa : Option Addr) (m sc : Nat) (ys : List Value) (hx : a.eval x = .slice sa m sc) (hsrc : Src w sa m sc ys) (h1 : ∀ u ∈ ys, u.oneCell' = true)
    (h63 : n + m ≤ maxLen) (hbytes : (n + m) * bytes ≤ 140737488355328) (hbase : base ≤ w.heap.size)
    (h : ∀ v' w', w'.ownsRow base e 1 v' (n + m) (xs ++ ys) → Moves w v w' v' → K (a.put o.dst v') w') :
    if Region.wanted o (yielded ops a.tmps) = true then Oper.wp P o a w K Q else E := by
  have hw : Region.wanted o (yielded ops a.tmps) = true := by simp [Region.wanted, hgd]
  rw [if_pos hw]
  rcases hsrc with ⟨rfl, rfl, rfl, rfl⟩ | ⟨ad, rfl, hl, hc⟩
  · have hrun := run_append_owned_none (P := P) (w := w) base t o.type e i 1 ht hi v n xs hown
    unfold Oper.wp
    simp [execOp, ho, resolve, invoke, builtin, hs, hx, hrun, Result.andThen]
    exact h v w (by simpa using hown) (Moves.refl _ _)
  · obtain ⟨v', w', hr, h2, h3, _, h5⟩ := run_append_own_at (P := P) w base t o.type e i z 1 bytes ht hi hz hsize hby hzs (by decide) v n xs hown ad m sc ys (by simpa using hl) hc h1 h63 hbytes hbase
    unfold Oper.wp execOp
    simp only [ho, resolve, invoke, builtin, Sem.run_bind, Sem.run_pure, Result.andThen_ok, List.map_toArray, List.map_cons, List.map_nil, hs, hx, hr]
    exact h v' w' h2 (moves_append h3 h5)
/-- A list without memory has no room. -/
def PRoom (x : PTree) (v : Value) : Prop := ∃ ga gc la lc pv, v = .agg #[.slice ga x.globals.length gc, .slice la x.locks.length lc, pv] ∧ (ga = none → gc = 0) ∧ (la = none → lc = 0)
theorem POwn.room {w : World} {x : PTree} {v : Value} (h : POwn w x v) : PRoom x v := by
  obtain ⟨ga, gc, la, lc, pa, pc, rfl, _, _, _, h1, h2⟩ := h
  exact ⟨_, _, _, _, _, rfl, h1.2, h2.2⟩
set_option maxRecDepth 20000 in
set_option maxHeartbeats 1600000 in
theorem specUnuIn_any (x : PTree) (v : Value) (w : World) (hz : szP x ≤ 1048576) (hp : PLies w x v) (hrm : PRoom x v) :
    Calls Try.prog 42 #[v] w fun e w' => ∃ ov, e = .returned ov ∧ w'.ownsRow w.heap.size 9 1 ov (unuIn x).length (strV (unuIn x)) ∧ Below w.heap.size w w' := by
  obtain ⟨ga, gc, la, lc, pa, pc, rfl, hpg, hpk, hpp⟩ := id hp
  obtain ⟨ga2, gc2, la2, lc2, pv, e, hng, hnl⟩ := hrm
  simp at e
  obtain ⟨⟨rfl, rfl⟩, ⟨rfl, rfl⟩, rfl⟩ := e
  have HOK := Lib.hid (fun wx (hb : Below w.heap.size w wx) => specProgOk_any x _ wx (hp.keep (keeps_below hb)))
  obtain ⟨hplen, a, cap, e, hk⟩ := hpp
  simp at e
  obtain ⟨rfl, rfl⟩ := e
  have HSZ : Hid (szPrs x.procs ≤ 1048576) := by show _ ≤ _; unfold szP at hz; omega
  have HAL : Hid ((x.globals ++ x.locks).length ≤ 1048576) := by show _ ≤ _; rw [List.length_append]; unfold szP at hz; omega
  have HSG := Lib.hid (fun wx (hb : Below w.heap.size w wx) => (src_strs hpg.1 hng).keep (keeps_below hb))
  have HSL := Lib.hid (fun wx (hb : Below w.heap.size w wx) => (src_strs hpk.1 hnl).keep (keeps_below hb))
  have HK := Lib.hid hk
  have HUI : Hid (unuIn x = if okP x = true then (x.globals ++ x.locks).filter (fun s => @decide (¬ s ∈ usePs x.procs []) (Classical.propDecidable _)) else []) := rfl
  obtain ⟨i0, hi, hz0, hz1, hz2⟩ := info_parts infoStrR
  have HI := Lib.hid hi
  have HZ0 := Lib.hid hz0
  have HZ1 := Lib.hid hz1
  have HZ2 := Lib.hid hz2
  obtain ⟨WP, hWP⟩ : ∃ w1, w1 = (w.alloc (.cells #[.slice ga x.globals.length gc, .slice la x.locks.length lc, .slice pa x.procs.length pc] 69)).alloc (.cells #[] 9) := ⟨_, rfl⟩
  have HB0 : Hid (Below w.heap.size w WP) := by show Below _ _ _; rw [hWP]; exact ((Below.refl w.heap.size w).alloc (Nat.le_refl _) _).alloc (by simp) _
  have HPS : Hid (WP.heap.size = w.heap.size + 2) := by show _ = _; rw [hWP]; simp
  have X0 : Hid (Box3 WP w.heap.size (.slice ga x.globals.length gc) (.slice la x.locks.length lc) (.slice pa x.procs.length pc)) := by
    show Box3 _ _ _ _ _
    rw [hWP]; exact (Box3.new w _ _ _ _).keep (keeps_alloc _ _)
  have HO : Hid (WP.ownsRow w.heap.size 9 1 (.slice (some ⟨w.heap.size + 1, 0, none⟩) 0 0) 0 []) := by
    show World.ownsRow _ _ _ _ _ _ _
    rw [hWP]
    exact ⟨rfl, .inr ⟨w.heap.size + 1, 0, #[], rfl, by omega, by have := heap_alloc_new (w.alloc (.cells #[.slice ga x.globals.length gc, .slice la x.locks.length lc, .slice pa x.procs.length pc] 69)) (.cells #[] 9); simpa using this, Nat.le_refl _, by decide, rfl, rfl⟩⟩
  generalize unuIn x = ui at HUI ⊢
  clear hk hp hpg hpk hz hi hz0 hz1 hz2 hng hnl
  obtain ⟨p0, p1, p2⟩ := X0.out
  have HWP := Lib.hid hWP
  rw [hWP] at p0 p1 p2
  cases hok : okP x with
  | false =>
    rw [hok] at HOK
    have HUF := HUI.out
    rw [hok] at HUF
    simp at HUF
    subst HUF
    clear HUI hok hWP
    go_enter Try.func42, Try.ntmps42
    go_wp2_with fail
    rw [← HWP.out]
    refine (HOK.out _ HB0.out).mono ?_
    rintro e w2 ⟨rfl, hb2⟩
    have HB2 := Lib.hid (HB0.out.trans (hb2.mono HB0.out.size))
    have HR2 := Lib.hid (row_below HO.out hb2)
    clear hb2
    go_wp2
    go_ret
    exact ⟨_, rfl, HR2.out, HB2.out⟩
  | true =>
    rw [hok] at HOK
    have HUT := HUI.out
    rw [hok] at HUT
    simp only [if_true] at HUT
    have HU := Lib.hid HUT
    clear HUI HUT hok hWP
    go_enter Try.func42, Try.ntmps42
    go_wp2_with fail
    rw [← HWP.out]
    refine (HOK.out _ HB0.out).mono ?_
    rintro e w2 ⟨rfl, hb2⟩
    have HB2 := Lib.hid (HB0.out.trans (hb2.mono HB0.out.size))
    have HR2 := Lib.hid (row_below HO.out hb2)
    have X2 := Lib.hid (X0.out.keep (keeps_below hb2))
    have hs2 : w.heap.size + 2 ≤ w2.heap.size := by have := hb2.size; have := HPS.out; omega
    have RU : Hid ((w2.alloc (.cells #[] 9)).ownsRow w2.heap.size 9 1 (.slice (some ⟨w2.heap.size, 0, none⟩) 0 0) 0 []) := World.ownsRow_made w2 #[] 0 (Nat.le_refl _) (by decide) rfl
    have BU : Hid (Below w2.heap.size w2 (w2.alloc (.cells #[] 9))) := (Below.refl _ _).alloc (Nat.le_refl _) _
    clear hb2 p0 p1 p2 HWP
    generalize x.procs = ps at *
    obtain ⟨WU, hWU⟩ : ∃ w1, w1 = w2.alloc (.cells #[] 9) := ⟨_, rfl⟩
    rw [← hWU] at RU BU
    have HWU := Lib.hid hWU
    clear hWU
    go_wp2
    rw [← HWU.out]
    go_loopw [4, 5] (fun u i wr => ∃ (j : Nat) (ac : List ByteArray), j ≤ ps.length ∧ i = .int .i64 j ∧ Hid (usePs ps [] = usePs (ps.drop j) ac) ∧ Hid (ac.length + 3 * szPrs (ps.drop j) ≤ 8000000) ∧ wr.ownsRow w2.heap.size 9 1 u ac.length (strV ac) ∧ Hid (Moves WU (.slice (some ⟨w2.heap.size, 0, none⟩) 0 0) wr u))
      (fun _ i _ => ps.length - (intOf i).toNat)
    case atStart => exact ⟨0, [], Nat.zero_le _, rfl, rfl, by show _ ≤ _; have := HSZ.out; simp; omega, RU.out, Moves.refl _ _⟩
    case round =>
      obtain ⟨j, ac, hj, rfl, hui, hbd, hrow, hmv⟩ := hrel
      obtain ⟨oa, oc, rfl, _⟩ := row_shape hrow
      have HR := Lib.hid hrow
      clear hrow
      have HBR := Lib.hid (hmv.out.below BU.out RU.out)
      have X3 := Lib.hid (X2.out.keep (keeps_below HBR.out))
      obtain ⟨p0, p1, p2⟩ := X3.out
      by_cases hlt : j < ps.length
      · obtain ⟨g, o, rfl, hl⟩ := HK.out (by omega)
        obtain ⟨h0, ba, bc, c0, c1, hbody⟩ := hl j hlt
        have hsd := szPrs_drop hlt
        have hpr : szPr ps[j] = ps[j].name.size + (ps[j].body.length + szXS ps[j].body) := rfl
        have hsm := szPrs_mem (List.getElem_mem hlt)
        have hSZ := HSZ.out
        have hbb := hbd.out
        have hUL := useXS_le ps[j].body ac
        have HUN : Hid (usePs ps [] = usePs (ps.drop (j + 1)) (useXS ps[j].body ac)) := by show _ = _; rw [hui.out, usePs_drop hlt]
        have HBN : Hid ((useXS ps[j].body ac).length + 3 * szPrs (ps.drop (j + 1)) ≤ 8000000) := by show _ ≤ _; omega
        have CB := Lib.hid (specUse_any ps[j].body (.slice ba ps[j].body.length bc) (.slice oa ac.length oc) w2 wr ac (by omega) (by omega) (hbody.keep (keeps_below HB2.out)) HBR.out HR.out)
        have d1 := keeps_below HBR.out _ _ (keeps_below HB2.out _ _ c1)
        clear hl c0 c1 hsd hpr hsm hbb hUL hbody
        go_wp2_with fail
        refine CB.out.mono ?_
        rintro e w5 ⟨ov5, rfl, hr5, hm5⟩
        have HR5 := Lib.hid hr5
        have HM5 := Lib.hid (hmv.out.trans hm5)
        clear hr5 hm5
        go_wp2
        go_roundw
        case rel => exact ⟨j + 1, _, by omega, by go_num, HUN, HBN, HR5.out, HM5⟩
        case measure => simp [intOf]; omega
      · have HUS : Hid (usePs ps [] = ac) := by show _ = _; rw [hui.out, usePs_end (by omega)]
        have HUU := HU.out
        rw [HUS.out] at HUU
        have HU2 := Lib.hid HUU
        have hs5 : w2.heap.size ≤ wr.heap.size := HBR.out.size
        have HB5 := Lib.hid (HB2.out.trans (HBR.out.mono HB2.out.size))
        have HO5 := Lib.hid (row_below HR2.out HBR.out)
        have hal := HAL.out
        have hal2 := hal
        rw [List.length_append] at hal2
        have bA : Below wr.heap.size wr ((wr.alloc (.cells #[] 9)).drew) := ((Below.refl wr.heap.size wr).alloc (Nat.le_refl _) _).drew
        have RA : Hid (((wr.alloc (.cells #[] 9)).drew).ownsRow wr.heap.size 9 1 (.slice (some ⟨wr.heap.size, 0, none⟩) 0 0) 0 []) := World.ownsRow_made wr #[] 0 (Nat.le_refl _) (by decide) rfl
        have HBA := Lib.hid bA
        have KX := Lib.hid (fun wx (hb : Below wr.heap.size wr wx) => X3.out.keep (keeps_below hb))
        have p0d : wr.drew.cell? ⟨w.heap.size, 0, none⟩ = some (.slice ga x.globals.length gc) := p0
        have p1d : wr.drew.cell? ⟨w.heap.size, 1, none⟩ = some (.slice la x.locks.length lc) := p1
        have p0a : ((wr.alloc (.cells #[] 9)).drew).cell? ⟨w.heap.size, 0, none⟩ = some (.slice ga x.globals.length gc) := keeps_alloc wr _ _ _ p0
        have p1a : ((wr.alloc (.cells #[] 9)).drew).cell? ⟨w.heap.size, 1, none⟩ = some (.slice la x.locks.length lc) := keeps_alloc wr _ _ _ p1
        clear HUU HU hui hbd
        go_upto_region 9 with fail
        go_cut [6] (fun s6 wx => ∃ oa6 oc6, s6 = .slice oa6 (x.globals ++ x.locks).length oc6 ∧ Hid (wx.ownsRow wr.heap.size 9 1 s6 (x.globals ++ x.locks).length (strV (x.globals ++ x.locks))) ∧ Hid (Below wr.heap.size wr wx))
        case first =>
          go_region_law (first
            | (refine step_append_src rfl (.tmp 29) (.tmp 31) 22 rfl wr.heap.size 9 i0 (.string ⟨#[]⟩) 16 Try.underlying22 HI.out HZ0.out HZ1.out HZ2.out rfl (.slice (some ⟨wr.heap.size, 0, none⟩) 0 0) 0 [] rfl RA.out ga x.globals.length gc (strV x.globals) rfl (HSG.out _ (HB5.out.trans (HBA.out.mono HB5.out.size))) (one_strV _) (by unfold maxLen; omega) (by omega) HBA.out.size ?_; intro v6 w6 hown6 hm6; have hb6 := hm6.below HBA.out RA.out; have t1 := (KX.out _ hb6).2.1)
            | (refine step_append_src rfl (.tmp 32) (.tmp 34) 22 rfl wr.heap.size 9 i0 (.string ⟨#[]⟩) 16 Try.underlying22 HI.out HZ0.out HZ1.out HZ2.out rfl _ _ _ rfl hown6 la x.locks.length lc (strV x.locks) rfl (HSL.out _ (HB5.out.trans (hb6.mono HB5.out.size))) (one_strV _) (by unfold maxLen; omega) (by omega) hb6.size ?_; intro v7 w7 hown7 hm7; have hb7 := hm7.below hb6 hown6; obtain ⟨oa7, oc7, rfl, _⟩ := row_shape hown7))
          all_goals
            go_wp2_with fail
            go_meet
            refine ⟨oa7, oc7, by simp, ?_, hb7⟩
            show World.ownsRow _ _ _ _ _ _ _
            simpa [strV] using hown7
        case rest =>
          obtain ⟨oa6, oc6, rfl, R6, B6⟩ := hcut
          obtain ⟨w6, hw6⟩ : ∃ w0, w0 = wc := ⟨_, rfl⟩
          subst hw6
          generalize x.globals ++ x.locks = al at *
          have HO6 := Lib.hid (row_below HO5.out B6.out)
          have HB6 := Lib.hid (HB5.out.trans (B6.out.mono HB5.out.size))
          have HU6 := Lib.hid (row_below HR.out B6.out)
          have hs6 : wr.heap.size ≤ w6.heap.size := B6.out.size
          have UW : Hid (∀ wy oy, Moves w6 (.slice (some ⟨w.heap.size + 1, 0, none⟩) 0 0) wy oy → StrsAt wy ac (.slice oa ac.length oc)) := fun wy oy hm => strsAt_row rfl (row_same HU6.out (fun q e => hm.1.block q (HU6.out.lt q e).2 (fun e2 => absurd ((HU6.out.lt q e).1) (by simp [Value.ownBlock] at e2; omega))))
          have AW : Hid (∀ wy oy, Moves w6 (.slice (some ⟨w.heap.size + 1, 0, none⟩) 0 0) wy oy → StrsAt wy al (.slice oa6 al.length oc6)) := fun wy oy hm => strsAt_row rfl (row_same R6.out (fun q e => hm.1.block q (R6.out.lt q e).2 (fun e2 => absurd ((R6.out.lt q e).1) (by simp [Value.ownBlock] at e2; omega))))
          clear p0 p1 p2 p0d p1d p0a p1a bA RA HBA KX X3 X2 X0 HSG HSL HR R6 HU6
          go_wp2
          go_loopw [3, 7] (fun o i wy => ∃ (m : Nat) (bc : List ByteArray), m ≤ al.length ∧ i = .int .i64 m ∧ bc.length ≤ m ∧ Hid (ui = bc ++ (al.drop m).filter (fun s => @decide (¬ s ∈ ac) (Classical.propDecidable _))) ∧ wy.ownsRow w.heap.size 9 1 o bc.length (strV bc) ∧ Hid (Moves w6 (.slice (some ⟨w.heap.size + 1, 0, none⟩) 0 0) wy o))
            (fun _ i _ => al.length - (intOf i).toNat)
          case atStart => exact ⟨0, [], Nat.zero_le _, rfl, Nat.le_refl _, by show _ = _; rw [HU2.out]; rfl, HO6.out, Moves.refl _ _⟩
          case round =>
            obtain ⟨m, b1, hm, rfl, hbl, hfd, hrow7, hmv7⟩ := hrel
            obtain ⟨ob, ox, rfl, _⟩ := row_shape hrow7
            have HR7 := Lib.hid hrow7
            clear hrow7
            have HB7 := Lib.hid (hmv7.out.below HB6.out HO6.out)
            have hu7 := UW.out _ _ hmv7.out
            have ha7 := AW.out _ _ hmv7.out
            by_cases hml : m < al.length
            · obtain ⟨a2, c2, e2, _, h3⟩ := ha7
              simp at e2
              obtain ⟨rfl, rfl⟩ := e2
              obtain ⟨gr, og, rfl, hrc⟩ := h3 (by omega)
              have qn := hrc m hml
              clear hrc h3
              by_cases hin : al[m] ∈ ac
              · have C := Lib.hid (specHasL_any ac _ al[m] _ hu7 true ⟨fun _ => hin, fun _ => rfl⟩)
                have HN : Hid (ui = b1 ++ (al.drop (m + 1)).filter (fun s => @decide (¬ s ∈ ac) (Classical.propDecidable _))) := by
                  show _ = _
                  rw [hfd.out, List.drop_eq_getElem_cons hml, List.filter_cons]
                  simp [hin]
                clear hu7 hin
                go_wp2_with fail
                refine C.out.mono ?_
                rintro e w8 ⟨rfl, rfl⟩
                go_wp2
                go_roundw
                case rel => exact ⟨m + 1, b1, by omega, by go_num, by omega, HN, HR7.out, hmv7⟩
                case measure => simp [intOf]; omega
              · have C := Lib.hid (specHasL_any ac _ al[m] _ hu7 false ⟨fun h => (Bool.noConfusion h), fun h => absurd h hin⟩)
                have HN : Hid (ui = (b1 ++ [al[m]]) ++ (al.drop (m + 1)).filter (fun s => @decide (¬ s ∈ ac) (Classical.propDecidable _))) := by
                  show _ = _
                  rw [hfd.out, List.drop_eq_getElem_cons hml, List.filter_cons]
                  simp [hin]
                have hws : w.heap.size ≤ wr.heap.size := HB7.out.size
                clear hu7 hin
                go_wp2_with fail
                refine C.out.mono ?_
                rintro e w8 ⟨rfl, rfl⟩
                go_wp2_with (at_builtin; refine wpList_append_lies _ rfl (.tmp 49) (.tmp 54) 22 rfl w.heap.size 9 i0 (.string ⟨#[]⟩) 1 16 Try.underlying22 HI.out HZ0.out HZ1.out HZ2.out rfl (by decide) (.slice ob b1.length ox) b1.length _ rfl (HR7.out.alloc _) ⟨wr.heap.size, 0, none⟩ 1 1 [.string al[m]] rfl rfl (World.news_of_block (heap_alloc_new _ _)) (one_textR _) (by decide) (by unfold maxLen; omega) (by omega) (by simp; omega) _ rfl ?_)
                intro g9 cap9 w9 hown9 hg9 hat9 hlt9
                have HR9 : Hid (w9.ownsRow w.heap.size 9 1 (.slice (some ⟨g9, 0, none⟩) (b1.length + 1) cap9) (b1 ++ [al[m]]).length (strV (b1 ++ [al[m]]))) := by
                  show World.ownsRow _ _ _ _ _ _ _
                  simpa [strV] using hown9
                have HM9 : Hid (Moves w6 (.slice (some ⟨w.heap.size + 1, 0, none⟩) 0 0) w9 (.slice (some ⟨g9, 0, none⟩) (b1.length + 1) cap9)) := by
                  refine hmv7.out.trans ((Moves.alloc _ _ _).trans ⟨hg9, ?_⟩)
                  rcases hat9 with h | h
                  · exact .inl h.symm
                  · exact .inr fun k hk => by cases hk; simp; omega
                have hbl9 : (b1 ++ [al[m]]).length ≤ m + 1 := by rw [List.length_append]; simp; omega
                clear hown9 hg9 hat9 hlt9
                go_wp2
                go_roundw
                case rel => exact ⟨m + 1, _, by omega, by go_num, hbl9, HN, HR9.out, HM9⟩
                case measure => simp [intOf]; omega
            · have HF : Hid (ui = b1) := by
                show _ = _
                rw [hfd.out, List.drop_of_length_le (by omega)]; simp
              go_wp2
              go_ret
              refine ⟨_, rfl, ?_, HB7.out⟩
              rw [HF.out]; exact HR7.out
end Go.Proofs.Ytmhhghdfgdhljaa.Trm
