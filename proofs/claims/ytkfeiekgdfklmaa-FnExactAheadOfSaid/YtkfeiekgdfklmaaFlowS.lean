/- The places of a code, of the model: whether there is one, what comes next, what has it next, walked. Conditions: the code lies in memory; at most 2 to the 20 names and terms. -/
import Derived.Test.YtkfeiekgdfklmaaFlowNextS
import Derived.Test.YtkfeiekgdfklmaaIntRows
namespace Go.Proofs.Ytkfeiekgdfklmaa.Trm
open Go.RowKit Own
theorem ret_b2 {a b : Bool} (h : a = b) : Ending.returned (.bool a) = .returned (.bool b) := by rw [h]
set_option maxRecDepth 20000 in
set_option maxHeartbeats 1600000 in
theorem specAt_any (x : KTree) (a : Int) (v : Value) (w : World) (hl : KIn w x v) (hz : szK x ≤ 1048576) :
    Calls Try.prog 28 #[v, .int .i64 a] w fun e w' => e = .returned (.bool (atB x a)) ∧ Below w.heap.size w w' := by
  have CK := Lib.hid (fun wx (hb : Below w.heap.size w wx) => specCodeOk_any x v wx (hl.keep (keeps_below hb)) hz)
  obtain ⟨ga, gc, la, lc, pa, pc, ea, ec, ia, ic, rfl, h1, h2, h3, h4, h5, _⟩ := hl
  obtain ⟨n, hn⟩ : ∃ n, n = x.ins.length := ⟨_, rfl⟩
  have HA : Hid (atB x a = (okK x && decide (0 ≤ a ∧ a < (n : Int)))) := by show _ = _; unfold atB; rw [hn]
  rw [← hn] at h5 CK ⊢
  have hlm : n ≤ 9223372036854775807 := by rw [hn]; exact h5.1
  have X0 := Lib.hid (Box5.new w (.slice ga x.globals.length gc) (.slice la x.locks.length lc) (.slice pa x.procs.length pc) (.slice ea x.entry.length ec) (.slice ia n ic) 31)
  have B0 := Lib.hid ((Below.refl w.heap.size w).alloc (Nat.le_refl _) (.cells #[.slice ga x.globals.length gc, .slice la x.locks.length lc, .slice pa x.procs.length pc, .slice ea x.entry.length ec, .slice ia n ic] 31))
  obtain ⟨kb, hkb⟩ : ∃ b, okK x = b := ⟨_, rfl⟩
  rw [hkb] at CK HA
  obtain ⟨rr, hrr⟩ : ∃ b, atB x a = b := ⟨_, rfl⟩
  rw [hrr] at HA ⊢
  clear h1 h2 h3 h4 h5 hz hn hkb hrr
  obtain ⟨W1, hW1⟩ : ∃ W, W = w.alloc (.cells #[.slice ga x.globals.length gc, .slice la x.locks.length lc, .slice pa x.procs.length pc, .slice ea x.entry.length ec, .slice ia n ic] 31) := ⟨_, rfl⟩
  obtain ⟨p0, p1, p2, p3, p4⟩ := X0.out
  rw [← hW1] at X0 B0
  have HW1 := Lib.hid hW1
  clear hW1
  go_enter Try.func28, Try.ntmps28
  go_wp2_with fail
  rw [← HW1.out] at p0 p1 p2 p3 p4 ⊢
  refine (CK.out _ B0.out).mono ?_
  rintro e w2 ⟨rfl, hb⟩
  have B2 := Lib.hid (B0.out.trans (hb.mono B0.out.size))
  have X2 := Lib.hid (X0.out.keep (keeps_below hb))
  clear hb p0 p1 p2 p3 p4
  obtain ⟨p0, p1, p2, p3, p4⟩ := X2.out
  cases kb with
  | false =>
    have HF : Hid (rr = false) := by show _ = _; rw [HA.out]; simp
    go_wp2_with fail
    go_ret
    exact ⟨ret_b2 (by rw [HF.out]), B2.out⟩
  | true =>
    go_wp2_with fail
    by_cases ha : 0 ≤ a ∧ a ≤ (n : Int) - 1
    · have HF : Hid (rr = true) := by show _ = _; rw [HA.out]; simp; omega
      refine (in_yes _ _ _ _ ha.1 ha.2).mono ?_
      rintro e w3 ⟨rfl, rfl⟩
      go_wp2_with fail
      go_ret
      exact ⟨ret_b2 (by rw [HF.out]), B2.out⟩
    · have HF : Hid (rr = false) := by show _ = _; rw [HA.out]; simp; omega
      refine (in_no _ _ _ _ (by omega)).mono ?_
      rintro e w3 ⟨rfl, rfl⟩
      go_wp2_with fail
      go_ret
      exact ⟨ret_b2 (by rw [HF.out]), B2.out⟩
/-- A code in memory, its instructions at hand. -/
theorem atIns {w : World} {x : KTree} {ia : Option Addr} {ic n i : Nat} (hn : n = x.ins.length) (h : IsAt w (.slice ia n ic) x.ins) (hi : i < x.ins.length) : ∃ g o, ia = some ⟨g, o, none⟩ ∧ ∀ i (h : i < x.ins.length), IElem w g (o + i * 7) x.ins[i] := by
  obtain ⟨_, a2, c2, e, hk⟩ := h
  rw [hn] at e
  simp at e
  obtain ⟨rfl, rfl⟩ := e
  exact hk (by omega)
set_option maxRecDepth 20000 in
set_option maxHeartbeats 1600000 in
theorem specNextOf_any (x : KTree) (a : Int) (v : Value) (w : World) (hl : KIn w x v) (hz : szK x ≤ 1048576) :
    Calls Try.prog 9 #[v, .int .i64 a] w (ListI (upI (nextAns x a)) w) := by
  have CA := Lib.hid (fun wx (hb : Below w.heap.size w wx) => specAt_any x a v wx (hl.keep (keeps_below hb)) hz)
  obtain ⟨ga, gc, la, lc, pa, pc, ea, ec, ia, ic, rfl, h1, h2, h3, h4, h5, _⟩ := hl
  obtain ⟨n, hn⟩ : ∃ n, n = x.ins.length := ⟨_, rfl⟩
  rw [← hn] at h5 CA ⊢
  have HI := Lib.hid h5
  have HN := Lib.hid hn
  have X0 := Lib.hid (Box5.new w (.slice ga x.globals.length gc) (.slice la x.locks.length lc) (.slice pa x.procs.length pc) (.slice ea x.entry.length ec) (.slice ia n ic) 31)
  have B0 := Lib.hid ((Below.refl w.heap.size w).alloc (Nat.le_refl _) (.cells #[.slice ga x.globals.length gc, .slice la x.locks.length lc, .slice pa x.procs.length pc, .slice ea x.entry.length ec, .slice ia n ic] 31))
  obtain ⟨kb, hkb⟩ : ∃ b, atB x a = b := ⟨_, rfl⟩
  rw [hkb] at CA
  have HR : Hid (∃ rs, rs = upI (nextAns x a)) := ⟨_, rfl⟩
  obtain ⟨rs, hrs⟩ := HR.out
  have HRS := Lib.hid hrs
  rw [← hrs]
  have HKB := Lib.hid hkb
  clear h1 h2 h3 h4 h5 hz hn hkb hrs
  obtain ⟨W1, hW1⟩ : ∃ W, W = w.alloc (.cells #[.slice ga x.globals.length gc, .slice la x.locks.length lc, .slice pa x.procs.length pc, .slice ea x.entry.length ec, .slice ia n ic] 31) := ⟨_, rfl⟩
  obtain ⟨p0, p1, p2, p3, p4⟩ := X0.out
  rw [← hW1] at X0 B0
  have HW1 := Lib.hid hW1
  clear hW1
  go_enter Try.func9, Try.ntmps9
  go_wp2_with fail
  rw [← HW1.out] at p0 p1 p2 p3 p4 ⊢
  refine (CA.out _ B0.out).mono ?_
  rintro e w2 ⟨rfl, hb⟩
  have B2 := Lib.hid (B0.out.trans (hb.mono B0.out.size))
  have X2 := Lib.hid (X0.out.keep (keeps_below hb))
  clear hb p0 p1 p2 p3 p4
  obtain ⟨p0, p1, p2, p3, p4⟩ := X2.out
  cases kb with
  | false =>
    have HF : Hid (rs = []) := by show _ = _; rw [HRS.out]; unfold nextAns; rw [dif_neg (fun h => by have h1 := h.1; rw [HKB.out] at h1; cases h1)]; rfl
    go_wp2_with fail
    go_ret
    exact listI0 HF.out B2.out _ rfl
  | true =>
    obtain ⟨hk, ha0, ha1⟩ := atB_iff.1 HKB.out
    obtain ⟨i, rfl⟩ : ∃ i : Nat, a = (i : Int) := ⟨a.toNat, by omega⟩
    have hi : i < x.ins.length := by omega
    obtain ⟨g, o, rfl, hc⟩ := atIns HN.out HI.out hi
    have hlen := okK_len hk
    have HF : Hid (rs = upI (nextN i x.ins[i])) := by
      show _ = _
      rw [HRS.out]
      unfold nextAns
      rw [dif_pos ⟨HKB.out, by simpa using hi⟩]
      rfl
    have CN := Lib.hid (fun wx (hb : Below w.heap.size w wx) => specNext_any x.ins[i] i n (.slice ga x.globals.length gc) (.slice la x.locks.length lc) (.slice pa x.procs.length pc) (.slice ea x.entry.length ec) g o ic wx (by have := HN.out; omega) (by have := HN.out; omega) ((hc i hi).keep (keeps_below hb)) (fun h => (okK_to hk hi h).1))
    rw [← HF.out] at CN
    clear hc hk ha0 ha1 hlen
    go_wp2_with fail
    refine (CN.out _ B2.out).mono ?_
    rintro e w3 ⟨ov, rfl, hr, hb⟩
    have HRo := Lib.hid (World.ownsRow.mono hr B2.out.size)
    have B3 := Lib.hid (B2.out.trans (hb.mono B2.out.size))
    clear hr hb p0 p1 p2 p3 p4
    go_wp2_with fail
    go_ret
    exact ⟨_, rfl, HRo.out, B3.out⟩
/-- Whether a number is in a list. -/
theorem specHas9_any (zs : List Int) (v : Value) (z : Int) (w : World) (h : IntsAt w zs v) :
    Calls Try.prog 40 #[v, .int .i64 z] w fun e w' => e = .returned (.bool (zs.contains z)) ∧ w = w' := by
  obtain ⟨a, c, rfl, hm, _, h2⟩ := h
  have HN := Lib.hid h2
  have HL := Lib.hid hm
  obtain ⟨rr, hrr⟩ : ∃ b, zs.contains z = b := ⟨_, rfl⟩
  have HR : Hid (rr = true ↔ z ∈ zs) := by show (_ ↔ _); rw [← hrr]; simp
  rw [hrr]
  clear h2 hm hrr
  go_enter Try.func40, Try.ntmps40
  go_wp2
  go_loopw [5] (fun i wr => ∃ j : Nat, j ≤ zs.length ∧ i = .int .i64 j ∧ Hid (∀ k (hk : k < zs.length), k < j → zs[k] ≠ z) ∧ w = wr)
    (fun i _ => zs.length - (intOf i).toNat)
  case atStart => exact ⟨0, Nat.zero_le _, rfl, fun _ _ h => by omega, rfl⟩
  case round =>
    obtain ⟨j, hj, rfl, hno, rfl⟩ := hrel
    have hL := HL.out
    by_cases hlt : j < zs.length
    · obtain ⟨g, o, rfl, h3⟩ := HN.out (by omega)
      have c0 := h3 j hlt
      clear h3
      by_cases he : zs[j] = z
      · have HT : Hid (rr = true) := HR.out.2 (by rw [← he]; exact List.getElem_mem hlt)
        rw [he] at c0
        clear he
        go_wp2
        go_ret
        exact ⟨ret_b2 (by rw [HT.out]), rfl⟩
      · have hq : (zs[j] == z) = false := by rw [beq_eq_false_iff_ne]; exact he
        have HNO : Hid (∀ k (hk : k < zs.length), k < j + 1 → zs[k] ≠ z) := fun k hk h => by
          rcases Nat.lt_or_ge k j with h' | h'
          · exact hno.out k hk h'
          · have : k = j := by omega
            subst this; exact he
        clear he
        go_wp2
        go_roundw
        case rel => exact ⟨j + 1, by omega, by go_num, HNO.out, trivial⟩
        case measure => simp [intOf]; omega
    · have HF : Hid (rr = false) := by
        show _ = _
        rw [Bool.eq_false_iff]
        intro h
        obtain ⟨k, hk, e⟩ := List.getElem_of_mem (HR.out.1 h)
        exact hno.out k hk (by omega) e
      go_wp2
      go_ret
      exact ⟨ret_b2 (by rw [HF.out]), rfl⟩
theorem upI_contains (l : List Nat) (s : Nat) : (upI l).contains (s : Int) = l.contains s := by
  have h : (upI l).contains (s : Int) = true ↔ l.contains s = true := by
    unfold upI
    simp only [List.contains_iff_mem, List.mem_map]
    constructor
    · rintro ⟨y, hy, e⟩
      have : y = s := by omega
      exact this ▸ hy
    · exact fun h => ⟨s, h, rfl⟩
  cases h1 : (upI l).contains (s : Int) <;> cases h2 : l.contains s <;> simp_all
set_option maxRecDepth 20000 in
set_option maxHeartbeats 3200000 in
theorem specAheadOf_any (x : KTree) (a : Int) (v : Value) (w : World) (hl : KIn w x v) (hz : szK x ≤ 1048576) :
    Calls Try.prog 17 #[v, .int .i64 a] w (ListI (upI (aheadAns x a)) w) := by
  obtain ⟨i0, hi, hz0, hz1, hz2⟩ := info_parts infoIntL
  have CA := Lib.hid (fun wx (hb : Below w.heap.size w wx) => specAt_any x a v wx (hl.keep (keeps_below hb)) hz)
  obtain ⟨ga, gc, la, lc, pa, pc, ea, ec, ia, ic, rfl, h1, h2, h3, h4, h5, _⟩ := hl
  obtain ⟨n, hn⟩ : ∃ n, n = x.ins.length := ⟨_, rfl⟩
  rw [← hn] at h5 CA ⊢
  have HI := Lib.hid h5
  have HN := Lib.hid hn
  have X0 := Lib.hid (Box5.new w (.slice ga x.globals.length gc) (.slice la x.locks.length lc) (.slice pa x.procs.length pc) (.slice ea x.entry.length ec) (.slice ia n ic) 31)
  have b0 := (Below.refl w.heap.size w).alloc (Nat.le_refl _) (.cells #[.slice ga x.globals.length gc, .slice la x.locks.length lc, .slice pa x.procs.length pc, .slice ea x.entry.length ec, .slice ia n ic] 31)
  obtain ⟨kb, hkb⟩ : ∃ b, atB x a = b := ⟨_, rfl⟩
  rw [hkb] at CA
  obtain ⟨rs, hrs⟩ : ∃ rs, rs = upI (aheadAns x a) := ⟨_, rfl⟩
  have HRS := Lib.hid hrs
  rw [← hrs]
  have HKB := Lib.hid hkb
  clear h1 h2 h3 h4 h5 hz hn hkb hrs
  obtain ⟨W1, hW1⟩ : ∃ W, W = (w.alloc (.cells #[.slice ga x.globals.length gc, .slice la x.locks.length lc, .slice pa x.procs.length pc, .slice ea x.entry.length ec, .slice ia n ic] 31)).alloc (.cells #[] 3) := ⟨_, rfl⟩
  have X1 := Lib.hid (X0.out.keep (keeps_alloc _ (.cells #[] 3)))
  have B1 := Lib.hid (b0.alloc (by simp) (.cells #[] 3))
  have R1 := Lib.hid (litI0 (w.alloc (.cells #[.slice ga x.globals.length gc, .slice la x.locks.length lc, .slice pa x.procs.length pc, .slice ea x.entry.length ec, .slice ia n ic] 31)))
  rw [World.size_alloc] at R1
  obtain ⟨p0, p1, p2, p3, p4⟩ := X1.out
  rw [← hW1] at X1 B1 R1
  have HW1 := Lib.hid hW1
  clear hW1 b0 X0
  go_enter Try.func17, Try.ntmps17
  go_wp2_with fail
  rw [← HW1.out] at p0 p1 p2 p3 p4 ⊢
  refine (CA.out _ B1.out).mono ?_
  rintro e w2 ⟨rfl, hb⟩
  have B2 := Lib.hid (B1.out.trans (hb.mono B1.out.size))
  have X2 := Lib.hid (X1.out.keep (keeps_below hb))
  have R2 := Lib.hid (row_below R1.out hb)
  clear hb p0 p1 p2 p3 p4
  obtain ⟨p0, p1, p2, p3, p4⟩ := X2.out
  cases kb with
  | false =>
    have HF : Hid (rs = []) := by show _ = _; rw [HRS.out]; unfold aheadAns; rw [if_neg (fun h => by rw [HKB.out] at h; cases h)]; rfl
    go_wp2_with fail
    go_ret
    exact ⟨_, rfl, by rw [HF.out]; exact R2.out.mono (by omega), B2.out⟩
  | true =>
    obtain ⟨hk, ha0, ha1⟩ := atB_iff.1 HKB.out
    obtain ⟨s, rfl⟩ : ∃ s : Nat, a = (s : Int) := ⟨a.toNat, by omega⟩
    have hlen := okK_len hk
    have HF : Hid (rs = upI (aheadN s 0 x.ins)) := by
      show _ = _
      rw [HRS.out]
      unfold aheadAns
      rw [if_pos HKB.out]
      rfl
    have HK := Lib.hid hk
    have hn15 : n ≤ 1500 := by have := HN.out; omega
    have CN := Lib.hid (fun wx g o i (h : i < x.ins.length) (hel : IElem wx g (o + i * 7) (x.ins[i]'h)) => specNext_any (x.ins[i]'h) i n (.slice ga x.globals.length gc) (.slice la x.locks.length lc) (.slice pa x.procs.length pc) (.slice ea x.entry.length ec) g o ic wx (by have := HN.out; omega) hn15 hel (fun h2 => (okK_to HK.out h h2).1))
    clear hk ha0 ha1 hlen
    go_wp2_with fail
    clear p0 p1 p2 p3 p4
    go_loopw [5, 6] (fun ov iv wr => ∃ (j : Nat) (ls : List Nat), j ≤ n ∧ iv = .int .i64 j ∧ Hid (ls = aheadN s 0 (x.ins.take j)) ∧ Hid (wr.ownsRow (w.heap.size + 1) 3 1 ov ls.length (intV (upI ls))) ∧ Hid (Box5 wr w.heap.size (.slice ga x.globals.length gc) (.slice la x.locks.length lc) (.slice pa x.procs.length pc) (.slice ea x.entry.length ec) (.slice ia n ic)) ∧ Hid (Below w.heap.size w wr))
      (fun _ iv _ => n - (intOf iv).toNat)
    case atStart => exact ⟨0, [], Nat.zero_le _, rfl, rfl, R2.out, X2.out, B2.out⟩
    case round =>
      obtain ⟨j, ls, hj, rfl, hls, hrow, hbx, hbe⟩ := hrel
      obtain ⟨p0, p1, p2, p3, p4⟩ := hbx.out
      obtain ⟨oa, oc, rfl, _⟩ := row_shape hrow.out
      by_cases hlt : j < n
      · have hlt2 : j < x.ins.length := by have := HN.out; omega
        obtain ⟨g, o, rfl, hc⟩ := atIns HN.out HI.out hlt2
        have C := Lib.hid (CN.out wr g o j hlt2 ((hc j hlt2).keep (keeps_below hbe.out)))
        have hta := aheadN_take (s := s) hlt2
        have hll : ls.length ≤ 1500 := by rw [hls.out]; have := aheadN_le s 0 (x.ins.take j); rw [List.length_take] at this; omega
        have hnl := nextN_lt HK.out hlt2
        obtain ⟨nx, hnx⟩ : ∃ z, z = nextN j x.ins[j] := ⟨_, rfl⟩
        rw [← hnx] at C hta hnl
        have HNI : Hid (∀ z, z ∈ upI nx → InI z) := fun z hz => by
          unfold upI at hz
          obtain ⟨y, hy, rfl⟩ := List.mem_map.1 hz
          have := hnl y hy
          unfold InI
          have := HN.out
          omega
        have hct := upI_contains nx s
        obtain ⟨cb, hcb⟩ : ∃ b, nx.contains s = b := ⟨_, rfl⟩
        rw [hcb] at hct hta
        have HTA : Hid (aheadN s 0 (x.ins.take (j + 1)) = ls ++ (if cb then [j] else [])) := by show _ = _; rw [hta, hls.out]
        have HCT := Lib.hid hct
        clear hc hta hnl hnx hct hcb
        go_wp2_with fail
        refine C.out.mono ?_
        rintro e w3 ⟨nv, rfl, hr3, hb3⟩
        have HN3 := Lib.hid (ints_of_row hr3 HNI.out)
        have B3 := Lib.hid (hbe.out.trans (hb3.mono hbe.out.size))
        have X3 := Lib.hid (hbx.out.keep (keeps_below hb3))
        have R3 := Lib.hid (row_below hrow.out hb3)
        clear hr3 hb3 p0 p1 p2 p3 p4
        go_wp2_with fail
        refine (specHas9_any (upI nx) nv (s : Int) w3 HN3.out).mono ?_
        rintro e w4 ⟨rfl, rfl⟩
        rw [HCT.out]
        cases cb with
        | false =>
          have HL : Hid (ls = aheadN s 0 (x.ins.take (j + 1))) := by show _ = _; rw [HTA.out]; simp
          go_wp2_with fail
          go_roundw
          case rel => exact ⟨j + 1, ls, by omega, by go_num, HL.out, R3.out, X3.out, B3.out⟩
          case measure => simp [intOf]; omega
        | true =>
          have HL : Hid (ls ++ [j] = aheadN s 0 (x.ins.take (j + 1))) := by show _ = _; rw [HTA.out]; simp
          have hs3 : w.heap.size + 1 ≤ w3.heap.size := cell_lt X3.out.1
          have hll2 : ls.length + 1 ≤ 1501 := by omega
          go_wp2_with (at_builtin; refine wpList_append_lies _ rfl (.tmp 25) (.tmp 27) 23 rfl (w.heap.size + 1) 3 i0 (.int .i64 0) 1 8 Try.underlying23 hi hz0 hz1 hz2 rfl (by decide) (.slice oa ls.length oc) ls.length _ rfl (R3.out.alloc _) ⟨w3.heap.size, 0, none⟩ 1 1 [.int .i64 (j : Int)] rfl rfl (World.news_of_block (heap_alloc_new _ _)) (one_intV [(j : Int)]) (by decide) (by unfold maxLen; omega) (by omega) (by simp; omega) _ rfl ?_)
          intro g1 cap1 w5 hown1 hg1 hat1 hlt1
          have HB5 : Hid (Below w.heap.size w w5) := (B3.out.alloc B3.out.size _).grown hg1 (by simp; omega) (fun k hk => by have := (R3.out.lt k hk).1; omega)
          have HX5 : Hid (Box5 w5 w.heap.size (.slice ga x.globals.length gc) (.slice la x.locks.length lc) (.slice pa x.procs.length pc) (.slice ea x.entry.length ec) (.slice (some ⟨g, o, none⟩) n ic)) := by
            have hx := X3.out.keep (keeps_alloc _ (.cells #[.int .i64 (j : Int)] 3))
            have hblk : w5.heap[w.heap.size]? = (w3.alloc (.cells #[.int .i64 (j : Int)] 3)).heap[w.heap.size]? := hg1.block _ (by simp; omega) (fun e => by have := (R3.out.lt _ e.symm).1; omega)
            exact ⟨(World.cell?_of_block hblk).trans hx.1, (World.cell?_of_block hblk).trans hx.2.1, (World.cell?_of_block hblk).trans hx.2.2.1, (World.cell?_of_block hblk).trans hx.2.2.2.1, (World.cell?_of_block hblk).trans hx.2.2.2.2⟩
          have HR5 : Hid (w5.ownsRow (w.heap.size + 1) 3 1 (.slice (some ⟨g1, 0, none⟩) (ls.length + 1) cap1) (ls ++ [j]).length (intV (upI (ls ++ [j])))) := by
            show World.ownsRow _ _ _ _ _ _ _
            have := hown1
            simpa [intV, upI] using this
          clear hown1 hg1 hat1 hlt1
          go_wp2
          go_roundw
          case rel => exact ⟨j + 1, ls ++ [j], by omega, by go_num, HL.out, HR5.out, HX5.out, HB5.out⟩
          case measure => simp [intOf]; omega
      · have HL : Hid (rs = upI ls) := by show _ = _; rw [HF.out, hls.out, List.take_of_length_le (by have := HN.out; omega)]
        have hul := upI_length ls
        go_wp2_with fail
        go_ret
        exact ⟨_, rfl, by rw [HL.out, hul]; exact hrow.out.mono (by omega), hbe.out⟩
end Go.Proofs.Ytkfeiekgdfklmaa.Trm
