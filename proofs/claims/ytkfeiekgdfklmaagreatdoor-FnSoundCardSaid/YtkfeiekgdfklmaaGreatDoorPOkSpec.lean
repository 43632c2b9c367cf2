/- The model's ProgOk, walked. Conditions: the program lies in memory. -/
import Derived.Test.YtkfeiekgdfklmaaGreatDoorPNames
import Derived.Test.YtkfeiekgdfklmaaGreatDoorSRight
namespace Go.Proofs.YtkfeiekgdfklmaaGreatDoor.Trm
open Go.RowKit Own Lexs
def okPr (p : PrT) : Bool := isNm p.name.data.toList && okXS p.body
def okPrs (ps : List PrT) : Bool := ps.all okPr
theorem okPrs_drop {ps : List PrT} {i : Nat} (h : i < ps.length) : okPrs (ps.drop i) = (isNm ps[i].name.data.toList && (okXS ps[i].body && okPrs (ps.drop (i + 1)))) := by
  unfold okPrs; rw [List.drop_eq_getElem_cons h, List.all_cons, okPr, Bool.and_assoc]
theorem okPrs_end {ps : List PrT} {i : Nat} (h : ps.length ≤ i) : okPrs (ps.drop i) = true := by
  unfold okPrs; rw [List.drop_of_length_le h]; rfl
def okP (x : PTree) : Bool := okNs x.globals 6 && (okNs x.locks 6 && (decide (x.procs.length ≤ 8) && okPrs x.procs))
set_option maxHeartbeats 1600000 in
theorem specProgOk_any (x : PTree) (v : Value) (w : World) (hl : PLies w x v) :
    Calls Tryz.prog 36 #[v] w fun e w' => e = .returned (.bool (okP x)) ∧ Below w.heap.size w w' := by
  obtain ⟨ga, gc, la, lc, pa, pc, rfl, h1, h2, hlen, pa', pc', e, hk⟩ := hl
  cases e
  have HE : Hid (okP x = (okNs x.globals 6 && (okNs x.locks 6 && (decide (x.procs.length ≤ 8) && okPrs x.procs)))) := rfl
  generalize x.procs = ps at hlen hk HE
  have HK := Lib.hid hk
  have C1 := Lib.hid (fun w hk => specNames_any x.globals 6 (.slice ga x.globals.length gc) w (by omega) (h1.keep hk))
  have C2 := Lib.hid (fun w hk => specNames_any x.locks 6 (.slice la x.locks.length lc) w (by omega) (h2.keep hk))
  have X0 := Lib.hid (Box3.new w (.slice ga x.globals.length gc) (.slice la x.locks.length lc) (.slice pa ps.length pc) 27)
  have B0 := Lib.hid ((Below.refl w.heap.size w).alloc (Nat.le_refl _) (.cells #[.slice ga x.globals.length gc, .slice la x.locks.length lc, .slice pa ps.length pc] 27))
  clear hk h1 h2
  generalize okP x = rr at HE
  generalize okNs x.globals 6 = r1 at HE C1
  generalize okNs x.locks 6 = r2 at HE C2
  obtain ⟨p0, p1, p2⟩ := X0.out
  cases r1 with
  | false =>
    have HF : Hid (rr = false) := by show _ = _; rw [HE.out]; rfl
    clear HE
    go_enter Tryz.func36, Tryz.ntmps36
    go_wp2_with fail
    refine (C1.out _ (keeps_alloc _ _)).mono ?_
    rintro e w1 ⟨rfl, rfl⟩
    go_wp2
    go_ret
    exact ⟨ret_b (by rw [HF.out]), B0.out⟩
  | true =>
    cases r2 with
    | false =>
      have HF : Hid (rr = false) := by show _ = _; rw [HE.out]; rfl
      clear HE
      go_enter Tryz.func36, Tryz.ntmps36
      go_wp2_with fail
      refine (C1.out _ (keeps_alloc _ _)).mono ?_
      rintro e w1 ⟨rfl, rfl⟩
      go_wp2_with fail
      refine (C2.out _ (keeps_alloc _ _)).mono ?_
      rintro e w2 ⟨rfl, rfl⟩
      go_wp2
      go_ret
      exact ⟨ret_b (by rw [HF.out]), B0.out⟩
    | true =>
      by_cases h8 : ps.length ≤ 8
      · have HR : Hid (rr = okPrs ps) := by show _ = _; rw [HE.out]; simp [h8]
        have hq : ¬ (8 : Int) < (ps.length : Int) := by omega
        have hq2 : ¬ 8 < ps.length := by omega
        clear HE
        go_enter Tryz.func36, Tryz.ntmps36
        go_wp2_with fail
        refine (C1.out _ (keeps_alloc _ _)).mono ?_
        rintro e w1 ⟨rfl, rfl⟩
        go_wp2_with fail
        refine (C2.out _ (keeps_alloc _ _)).mono ?_
        rintro e w2 ⟨rfl, rfl⟩
        go_wp2
        clear p0 p1 p2
        go_loopw [3] (fun i wr => ∃ (j : Nat), j ≤ ps.length ∧ i = .int .i64 j ∧ Hid (rr = okPrs (ps.drop j)) ∧ Hid (Box3 wr w.heap.size (.slice ga x.globals.length gc) (.slice la x.locks.length lc) (.slice pa ps.length pc)) ∧ Hid (Below w.heap.size w wr))
          (fun i _ => ps.length - (intOf i).toNat)
        case atStart => exact ⟨0, Nat.zero_le _, rfl, HR.out, X0.out, B0.out⟩
        case round =>
          obtain ⟨j, hj, rfl, hsz, hbx, hbe⟩ := hrel
          obtain ⟨p0, p1, p2⟩ := hbx.out
          by_cases hlt : j < ps.length
          · obtain ⟨g, o, rfl, hl⟩ := HK.out (by omega)
            obtain ⟨h0, ba, bc, c0, c1, lb⟩ := (hl j hlt).keep (keeps_below hbe.out)
            have hd := okPrs_drop hlt
            rw [← hsz.out] at hd
            have CN := Lib.hid (specIsName_any ps[j].name wr h0)
            have CB := Lib.hid (specOk_any ps[j].body _ wr lb)
            clear hl lb
            generalize isNm ps[j].name.data.toList = rn at CN hd
            generalize okXS ps[j].body = rb at CB hd
            cases rn with
            | false =>
              have HF : Hid (rr = false) := hd
              clear hd
              go_wp2_with fail
              refine CN.out.mono ?_
              rintro e w1 ⟨rfl, rfl⟩
              go_wp2
              go_ret
              exact ⟨ret_b (by rw [HF.out]), hbe.out⟩
            | true =>
              cases rb with
              | false =>
                have HF : Hid (rr = false) := hd
                clear hd
                go_wp2_with fail
                refine CN.out.mono ?_
                rintro e w1 ⟨rfl, rfl⟩
                go_wp2_with fail
                refine CB.out.mono ?_
                rintro e w2 ⟨rfl, hb⟩
                have B2 := Lib.hid (hbe.out.trans (hb.mono hbe.out.size))
                clear hb
                go_wp2
                go_ret
                exact ⟨ret_b (by rw [HF.out]), B2.out⟩
              | true =>
                have HF : Hid (rr = okPrs (ps.drop (j + 1))) := hd
                clear hd
                go_wp2_with fail
                refine CN.out.mono ?_
                rintro e w1 ⟨rfl, rfl⟩
                go_wp2_with fail
                refine CB.out.mono ?_
                rintro e w2 ⟨rfl, hb⟩
                have B2 := Lib.hid (hbe.out.trans (hb.mono hbe.out.size))
                have X2 := Lib.hid (hbx.out.keep (keeps_below hb))
                clear hb
                go_wp2
                go_roundw
                case rel => exact ⟨j + 1, by omega, by go_num, HF, X2, B2⟩
                case measure => simp [intOf]; omega
          · have HF : Hid (rr = true) := by show _ = _; rw [hsz.out, okPrs_end (by omega)]
            go_wp2
            go_ret
            exact ⟨ret_b (by rw [HF.out]), hbe.out⟩
      · have HF : Hid (rr = false) := by show _ = _; rw [HE.out]; simp [h8]
        have hq : (8 : Int) < (ps.length : Int) := by omega
        have hq2 : 8 < ps.length := by omega
        clear HE
        go_enter Tryz.func36, Tryz.ntmps36
        go_wp2_with fail
        refine (C1.out _ (keeps_alloc _ _)).mono ?_
        rintro e w1 ⟨rfl, rfl⟩
        go_wp2_with fail
        refine (C2.out _ (keeps_alloc _ _)).mono ?_
        rintro e w2 ⟨rfl, rfl⟩
        go_wp2
        go_ret
        exact ⟨ret_b (by rw [HF.out]), B0.out⟩
end Go.Proofs.YtkfeiekgdfklmaaGreatDoor.Trm
