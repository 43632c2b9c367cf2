/- The program's UnusedIn, walked. Conditions: the program is of the call's own, of at most 2 to the 20. With what it stands on, in one text. -/
import Derived.Test.YtkfeiekgdfklmaaGreatDoorSoPackE
import Derived.Test.YtkfeiekgdfklmaaGreatDoorSoPackG
import Derived.Test.YtkfeiekgdfklmaaGreatDoorPOkSpec
import Derived.Test.YtkfeiekgdfklmaaGreatDoorPOwn
import Derived.Deep.RegionHeld3
import Derived.Test.YtkfeiekgdfklmaaGreatDoorSoPackC
import Derived.Test.YtkfeiekgdfklmaaGreatDoorSoPackB
import Derived.Maps.AppendAt
import Derived.Laws.AppendOwnNone
import Derived.Deep.RegionLaw
import Derived.Lib.AppendZeros
/- The program's rightness of a statement within others, of any. Conditions: as WithinAll. -/
namespace Go.Proofs.YtkfeiekgdfklmaaGreatDoor.Trm
open Go.RowKit Own Lexs
theorem within_of (x : STree) (ihb : LOk x.body) (ihe : LOk x.els) : WOk x := fun v w r hr hz hx => by
  by_cases h : 1 ≤ x.kind ∧ x.kind ≤ 8
  · rcases (by omega : x.kind = 1 ∨ x.kind = 2 ∨ x.kind = 3 ∨ (x.kind = 4 ∨ x.kind = 5 ∨ x.kind = 6 ∨ x.kind = 7) ∨ x.kind = 8) with h | h | h | h | h
    · exact within_set x v w r hr hz hx h
    · exact within_if x ihb ihe v w r hr hz hx h
    · exact within_while x ihb v w r hr hz hx h
    · exact within_word x v w r hr hz hx h
    · exact within_skip x v w r hr hz hx h
  · exact within_none x v w r hr hz hx h
theorem within_any : ∀ x : STree, WOk x := streeInd fun _ _ _ b e ihb ihe => within_of _ (right_slist b ihb) (right_slist e ihe)
end Go.Proofs.YtkfeiekgdfklmaaGreatDoor.Trm
/- Whether a procedure's body is right, of the program, walked. Conditions: the body lies in rows that are not frozen; it has at most 2 to the 20 statements, kids and bytes within it. -/
namespace Go.Proofs.YtkfeiekgdfklmaaGreatDoor.Trm
open Go.RowKit Own Lexs
theorem implBody_any (xs : List STree) (v : Value) (w : World) (hz : xs.length + szXS xs ≤ 1048576) (h : SBL w xs v) :
    Calls Tryz.prog 96 #[v] w fun e w' => e = .returned (.bool (okXS xs)) ∧ Below w.heap.size w w' := by
  have hcnt : cntXS xs ≤ 1100000 := by have := cntXS_le xs; omega
  have C1 := Lib.hid (Cn.implCount_any xs v w hcnt h.f)
  have C2 := Lib.hid (fun w2 hb => right_slist xs (fun x _ => within_any x) v w2 6 (Nat.le_refl _) hz (h.below (w' := w2) hb))
  have HE : Hid (okXS xs = (decide (cntXS xs ≤ 60) && rightXS xs 6)) := rfl
  obtain ⟨_, a, c, rfl, _⟩ := h.l
  clear h hz
  generalize okXS xs = rr at HE
  by_cases hc : cntXS xs ≤ 60
  · have HR : Hid (rr = rightXS xs 6) := by show _ = _; rw [HE.out]; simp [hc]
    have hq : ¬ (60 : Int) < (cntXS xs : Int) := by omega
    clear HE
    generalize cntXS xs = n at C1 hq
    clear hc hcnt
    go_enter Tryz.func96, Tryz.ntmps96
    go_wp2_with fail
    refine C1.out.mono ?_
    rintro e w1 ⟨rfl, hb1⟩
    have B1 := Lib.hid hb1
    clear hb1
    go_wp2_with fail
    refine (C2.out _ B1.out).mono ?_
    rintro e w2 ⟨hb2, hp⟩
    have B2 := Lib.hid (B1.out.trans (hb2.mono B1.out.size))
    clear hb2
    rcases hp with ⟨hr, u, rfl, _⟩ | ⟨hr, rfl⟩
    · have HF : Hid (rr = true) := by show _ = _; rw [HR.out, hr]
      clear hr
      go_wp2
      go_ret
      exact ⟨ret_b (by rw [HF.out]), B2.out⟩
    · have HF : Hid (rr = false) := by show _ = _; rw [HR.out, hr]
      clear hr
      go_wp2
      go_ret
      exact ⟨ret_b (by rw [HF.out]), B2.out⟩
  · have HF : Hid (rr = false) := by show _ = _; rw [HE.out]; simp [hc]
    have hq : (60 : Int) < (cntXS xs : Int) := by omega
    clear HE
    generalize cntXS xs = n at C1 hq
    clear hc hcnt
    go_enter Tryz.func96, Tryz.ntmps96
    go_wp2_with fail
    refine C1.out.mono ?_
    rintro e w1 ⟨rfl, hb1⟩
    have B1 := Lib.hid hb1
    clear hb1
    go_wp2
    go_ret
    exact ⟨ret_b (by rw [HF.out]), B1.out⟩
end Go.Proofs.YtkfeiekgdfklmaaGreatDoor.Trm
/- The program's ProgOk, walked. Conditions: the program is of the call's own, of at most 2 to the 20. -/
namespace Go.Proofs.YtkfeiekgdfklmaaGreatDoor.Trm
open Go.RowKit Own Lexs
set_option maxHeartbeats 1600000 in
theorem implProgOk_any (x : PTree) (v : Value) (w : World) (hz : szP x ≤ 1048576) (hl : POwn w x v) :
    Calls Tryz.prog 40 #[v] w fun e w' => e = .returned (.bool (okP x)) ∧ Below w.heap.size w w' := by
  obtain ⟨ga, gc, la, lc, pa, pc, rfl, h1, h2, h3, _⟩ := hl
  obtain ⟨hlen, pa', pc', e, hk⟩ := h3
  cases e
  have hz3 : szPrs x.procs ≤ 1048576 := by unfold szP at hz; omega
  have HE : Hid (okP x = ((decide (x.globals.length ≤ 6) && nmsB x.globals) && ((decide (x.locks.length ≤ 6) && nmsB x.locks) && (decide (x.procs.length ≤ 8) && okPrs x.procs)))) := rfl
  have HZ := Lib.hid hz3
  generalize x.procs = ps at hlen hk HE HZ
  have HK := Lib.hid hk
  have C1 := Lib.hid (fun w hk => implNames_any x.globals (.slice ga x.globals.length gc) w (h1.keep hk))
  have C2 := Lib.hid (fun w hk => implNames_any x.locks (.slice la x.locks.length lc) w (h2.keep hk))
  have X0 := Lib.hid (Box3.new w (.slice ga x.globals.length gc) (.slice la x.locks.length lc) (.slice pa ps.length pc) 27)
  have B0 := Lib.hid ((Below.refl w.heap.size w).alloc (Nat.le_refl _) (.cells #[.slice ga x.globals.length gc, .slice la x.locks.length lc, .slice pa ps.length pc] 27))
  clear hk h1 h2 hz hz3
  generalize okP x = rr at HE
  obtain ⟨p0, p1, p2⟩ := X0.out
  by_cases h6 : x.globals.length ≤ 6
  · by_cases h7 : x.locks.length ≤ 6
    · by_cases h8 : ps.length ≤ 8
      · generalize nmsB x.globals = r1 at HE C1
        generalize nmsB x.locks = r2 at HE C2
        have HR : Hid (rr = (r1 && (r2 && okPrs ps))) := by show _ = _; rw [HE.out]; simp [h6, h7, h8]
        have hq : ¬ (8 : Int) < (ps.length : Int) := by omega
        have hq2 : ¬ 8 < ps.length := by omega
        have hq3 : ¬ (6 : Int) < (x.globals.length : Int) := by omega
        have hq4 : ¬ 6 < x.globals.length := by omega
        have hq5 : ¬ (6 : Int) < (x.locks.length : Int) := by omega
        have hq6 : ¬ 6 < x.locks.length := by omega
        clear HE
        go_enter Tryz.func40, Tryz.ntmps40
        go_wp2
        clear p0 p1 p2
        go_loopw [24] (fun i wr => ∃ (j : Nat), j ≤ ps.length ∧ i = .int .i64 j ∧ Hid (rr = (r1 && (r2 && okPrs (ps.drop j)))) ∧ Hid (Box3 wr w.heap.size (.slice ga x.globals.length gc) (.slice la x.locks.length lc) (.slice pa ps.length pc)) ∧ Hid (Below w.heap.size w wr))
          (fun i _ => ps.length - (intOf i).toNat)
        case atStart => exact ⟨0, Nat.zero_le _, rfl, HR.out, X0.out, B0.out⟩
        case round =>
          obtain ⟨j, hj, rfl, hsz, hbx, hbe⟩ := hrel
          obtain ⟨p0, p1, p2⟩ := hbx.out
          by_cases hlt : j < ps.length
          · obtain ⟨g, rfl, hl⟩ := HK.out (by omega)
            obtain ⟨ba, bc, h0, c0, c1, ol, of⟩ := (hl j hlt).below hbe.out
            have hd := okPrs_drop hlt
            have hzj : ps[j].body.length + szXS ps[j].body ≤ 1048576 := by have h := szPrs_mem (List.getElem_mem hlt); have := HZ.out; unfold szPr at h; omega
            have CN := Lib.hid (fun w2 => implIsName_any ps[j].name w2 h0)
            have sb : SBL wr ps[j].body (.slice ba ps[j].body.length bc) := ⟨ol, of⟩
            have CB := Lib.hid (fun w2 hb => implBody_any ps[j].body (.slice ba ps[j].body.length bc) w2 hzj (sb.below (w' := w2) hb))
            clear hl ol of sb hzj
            generalize isNm ps[j].name.data.toList = rn at CN hd
            generalize okXS ps[j].body = rb at CB hd
            cases rn with
            | false =>
              have HF : Hid (rr = false) := by show _ = _; rw [hsz.out, hd]; simp
              clear hd
              go_wp2_with fail
              refine (CN.out _).mono ?_
              rintro e w1 ⟨rfl, rfl⟩
              have B1 := Lib.hid (hbe.out.alloc hbe.out.size (.cells #[.string ps[j].name, .slice ba ps[j].body.length bc] 31))
              go_wp2
              go_ret
              exact ⟨ret_b (by rw [HF.out]), B1.out⟩
            | true =>
              cases rb with
              | false =>
                have HF : Hid (rr = false) := by show _ = _; rw [hsz.out, hd]; simp
                clear hd
                go_wp2_with fail
                refine (CN.out _).mono ?_
                rintro e w1 ⟨rfl, rfl⟩
                go_wp2_with fail
                refine (CB.out _ ((Below.refl _ _).alloc (Nat.le_refl _) _)).mono ?_
                rintro e w2 ⟨rfl, hb⟩
                have B2 := Lib.hid (hbe.out.trans ((below_box1 hb).mono hbe.out.size))
                clear hb
                go_wp2
                go_ret
                exact ⟨ret_b (by rw [HF.out]), B2.out⟩
              | true =>
                have HF : Hid (rr = (r1 && (r2 && okPrs (ps.drop (j + 1))))) := by show _ = _; rw [hsz.out, hd]; simp
                clear hd
                go_wp2_with fail
                refine (CN.out _).mono ?_
                rintro e w1 ⟨rfl, rfl⟩
                go_wp2_with fail
                refine (CB.out _ ((Below.refl _ _).alloc (Nat.le_refl _) _)).mono ?_
                rintro e w2 ⟨rfl, hb⟩
                have B2 := Lib.hid (hbe.out.trans ((below_box1 hb).mono hbe.out.size))
                have X2 := Lib.hid (hbx.out.keep (keeps_below (below_box1 hb)))
                clear hb
                go_wp2
                go_roundw
                case rel => exact ⟨j + 1, by omega, by go_num, HF, X2, B2⟩
                case measure => simp [intOf]; omega
          · have HG : Hid (rr = (r1 && r2)) := by show _ = _; rw [hsz.out, okPrs_end (by omega)]; simp
            cases r1 with
            | false =>
              have HF : Hid (rr = false) := HG.out
              go_wp2_with fail
              refine (C1.out _ (keeps_below hbe.out)).mono ?_
              rintro e w1 ⟨rfl, rfl⟩
              go_wp2
              go_ret
              exact ⟨ret_b (by rw [HF.out]), hbe.out⟩
            | true =>
              have HF : Hid (rr = r2) := HG.out
              go_wp2_with fail
              refine (C1.out _ (keeps_below hbe.out)).mono ?_
              rintro e w1 ⟨rfl, rfl⟩
              go_wp2_with fail
              refine (C2.out _ (keeps_below hbe.out)).mono ?_
              rintro e w2 ⟨rfl, rfl⟩
              go_wp2
              go_ret
              exact ⟨ret_b (by rw [HF.out]), hbe.out⟩
      · have HF : Hid (rr = false) := by show _ = _; rw [HE.out]; simp [h8]
        have hq2 : 8 < ps.length := by omega
        have hq4 : ¬ 6 < x.globals.length := by omega
        have hq6 : ¬ 6 < x.locks.length := by omega
        clear HE
        go_enter Tryz.func40, Tryz.ntmps40
        go_wp2
        go_ret
        exact ⟨ret_b (by rw [HF.out]), B0.out⟩
    · have HF : Hid (rr = false) := by show _ = _; rw [HE.out]; simp [h7]
      have hq4 : ¬ 6 < x.globals.length := by omega
      have hq6 : 6 < x.locks.length := by omega
      clear HE
      go_enter Tryz.func40, Tryz.ntmps40
      go_wp2
      go_ret
      exact ⟨ret_b (by rw [HF.out]), B0.out⟩
  · have HF : Hid (rr = false) := by show _ = _; rw [HE.out]; simp [h6]
    have hq4 : 6 < x.globals.length := by omega
    clear HE
    go_enter Tryz.func40, Tryz.ntmps40
    go_wp2
    go_ret
    exact ⟨ret_b (by rw [HF.out]), B0.out⟩
end Go.Proofs.YtkfeiekgdfklmaaGreatDoor.Trm
/- The program's UnknownIn, walked. Conditions: the program is of the call's own, of at most 2 to the 20. -/
namespace Go.Proofs.YtkfeiekgdfklmaaGreatDoor.Trm
open Go.RowKit Own
theorem UsRow.cells {w : World} {base g n c : Nat} {us : List Use} (h : UsRow w base (.slice (some ⟨g, 0, none⟩) n c) us) (i : Nat) (hi : i < us.length) : w.cell? ⟨g, i * 2, none⟩ = some (.int .i64 us[i].1) ∧ w.cell? ⟨g, i * 2 + 1, none⟩ = some (.string us[i].2) := by
  obtain ⟨e0, e1⟩ := usV_at us hi
  have hl := usV_len us
  have h2 : n = us.length := by
    obtain ⟨a, c2, e⟩ := h.shape
    simp at e
    exact e.2.1
  subst h2
  exact ⟨(World.ownsRow.cellAt h (i * 2) (by omega)).trans e0, (World.ownsRow.cellAt h (i * 2 + 1) (by omega)).trans e1⟩
theorem addUs_take (x : PTree) {us : List Use} {j : Nat} (h : j < us.length) : (us.take (j + 1)).foldl (addUs x) [] = addU (knownU x us[j].1) ((us.take j).foldl (addUs x) []) us[j].2 := by
  rw [List.take_add_one, List.getElem?_eq_getElem h, Option.toList, List.foldl_append]; rfl
theorem addUs_le (x : PTree) : ∀ (us : List Use) (acc : List ByteArray), (us.foldl (addUs x) acc).length ≤ acc.length + us.length
  | [], acc => by simp
  | u :: r, acc => by
    rw [List.foldl_cons, List.length_cons]
    have h1 := addUs_le x r (addUs x acc u)
    have h2 := addU_le (knownU x u.1) acc u.2
    unfold addUs at h1 ⊢
    omega
set_option maxRecDepth 20000 in
set_option maxHeartbeats 1600000 in
theorem implUnkIn_any (x : PTree) (v : Value) (w : World) (hz : szP x ≤ 1048576) (hl : POwn w x v) :
    Calls Tryz.prog 13 #[v] w fun e w' => ∃ ov, e = .returned ov ∧ w'.ownsRow w.heap.size 9 1 ov (unkIn x).length (strV (unkIn x)) ∧ Below w.heap.size w w' := by
  have hll := hl.lies
  have CO := Lib.hid (fun wx (hb : Below w.heap.size w wx) => implProgOk_any x v wx hz (hl.below hb))
  have CU := Lib.hid (fun wx (hb : Below w.heap.size w wx) => implUsesProg_any x v wx hz (hll.keep (keeps_below hb)))
  have CS := Lib.hid (fun k wx (hb : Below w.heap.size w wx) => implSort_any x k v wx (by unfold szP at hz; omega) (hll.keep (keeps_below hb)))
  obtain ⟨ga, gc, la, lc, pa, pc, rfl⟩ := hll.shape
  have X0 := Lib.hid (Box3.new w (.slice ga x.globals.length gc) (.slice la x.locks.length lc) (.slice pa x.procs.length pc) 27)
  have B0 := Lib.hid ((Below.refl w.heap.size w).alloc (Nat.le_refl _) (.cells #[.slice ga x.globals.length gc, .slice la x.locks.length lc, .slice pa x.procs.length pc] 27))
  have HE := Lib.hid (unkIn_us x)
  have HUL : Hid ((usPs x.procs).length ≤ 8000000) := by show _ ≤ _; have := usPs_le x.procs; unfold szP at hz; omega
  generalize unkIn x = ui at HE ⊢
  clear hl hll hz
  cases hok : okP x with
  | false =>
    rw [hok] at CO
    have HR : Hid (ui = []) := by show _ = _; rw [HE.out, hok]; rfl
    clear hok
    obtain ⟨p0, p1, p2⟩ := X0.out
    go_enter Tryz.func13, Tryz.ntmps13
    go_wp2_with fail
    refine (CO.out _ B0.out).mono ?_
    rintro e w1 ⟨rfl, hb1⟩
    have B1 := Lib.hid (B0.out.trans (hb1.mono B0.out.size))
    clear hb1
    go_wp2
    go_ret
    exact ⟨_, rfl, by rw [HR.out]; exact ⟨rfl, .inl ⟨rfl, rfl⟩⟩, B1.out⟩
  | true =>
    rw [hok] at CO
    have HR : Hid (ui = (usPs x.procs).foldl (addUs x) []) := by show _ = _; rw [HE.out, hok]; rfl
    clear hok HE
    obtain ⟨p0, p1, p2⟩ := X0.out
    obtain ⟨i0, hi, hz0, hz1, hz2⟩ := info_parts infoStrR
    go_enter Tryz.func13, Tryz.ntmps13
    go_wp2_with fail
    refine (CO.out _ B0.out).mono ?_
    rintro e w1 ⟨rfl, hb1⟩
    have B1 := Lib.hid (B0.out.trans (hb1.mono B0.out.size))
    have X1 := Lib.hid (X0.out.keep (keeps_below hb1))
    clear hb1 p0 p1 p2
    obtain ⟨p0, p1, p2⟩ := X1.out
    go_wp2_with fail
    refine (CU.out _ B1.out).mono ?_
    rintro e w2 ⟨uv, rfl, hru, hb2⟩
    have B2 := Lib.hid (B1.out.trans (hb2.mono B1.out.size))
    have X2 := Lib.hid (X1.out.keep (keeps_below hb2))
    obtain ⟨ua, uc, rfl, hua⟩ := row_shape hru
    have HRU : Hid (UsRow w2 w1.heap.size (.slice ua (usPs x.procs).length uc) (usPs x.procs)) := hru
    have HUA := Lib.hid hua
    have hbs : w.heap.size ≤ w2.heap.size := B2.out.size
    clear hb2 p0 p1 p2 hru hua
    generalize usPs x.procs = us at *
    have husl : us.length ≤ 8000000 := HUL.out
    go_wp2_with fail
    go_loopw [3, 13] (fun o i wr => ∃ (j : Nat) (ac : List ByteArray), j ≤ us.length ∧ i = .int .i64 j ∧ Hid (ac = (us.take j).foldl (addUs x) []) ∧ Hid (wr.ownsRow w2.heap.size 9 1 o ac.length (strV ac)) ∧ Hid (Below w2.heap.size w2 wr))
      (fun _ i _ => us.length - (intOf i).toNat)
    case atStart => exact ⟨0, [], Nat.zero_le _, rfl, rfl, ⟨rfl, .inl ⟨rfl, rfl⟩⟩, Below.refl _ _⟩
    case round =>
      obtain ⟨j, ac, hj, rfl, hac, hrow, hbe⟩ := hrel
      obtain ⟨oa, oc, rfl, _⟩ := row_shape hrow.out
      by_cases hlt : j < us.length
      · obtain ⟨g, rfl⟩ := HUA.out (by omega)
        obtain ⟨e0, e1⟩ := HRU.out.cells j hlt
        have c0 := keeps_below hbe.out _ _ e0
        have c1 := keeps_below hbe.out _ _ e1
        have HAC : Hid ((us.take (j + 1)).foldl (addUs x) [] = addU (knownU x us[j].1) ac us[j].2) := by show _ = _; rw [addUs_take x hlt, hac.out]
        have hale : ac.length ≤ 8000000 := by
          have h1 := addUs_le x (us.take j) []
          rw [← hac.out, List.length_take, List.length_nil] at h1
          have := HUL.out
          omega
        clear e0 e1
        generalize us[j].1 = k at *
        generalize us[j].2 = nm at *
        have W1B : Hid (Below w2.heap.size w2 (wr.alloc (.cells #[.int .i64 k, .string nm] 75))) := hbe.out.alloc hbe.out.size _
        have HR1 : Hid ((wr.alloc (.cells #[.int .i64 k, .string nm] 75)).ownsRow w2.heap.size 9 1 (.slice oa ac.length oc) ac.length (strV ac)) := hrow.out.alloc _
        have Q1 : Hid (Box2 (wr.alloc (.cells #[.int .i64 k, .string nm] 75)) wr.heap.size (.int .i64 k) (.string nm)) := Box2.new _ _ _ _
        have HSN : Hid ((Value.slice oa ac.length oc).ownBlock ≠ some wr.heap.size) := row_not hrow.out
        obtain ⟨W1, hW1⟩ : ∃ w1, w1 = wr.alloc (.cells #[.int .i64 k, .string nm] 75) := ⟨_, rfl⟩
        go_upto_region 7 with fail
        clear c0 c1
        rw [← hW1] at W1B HR1 Q1
        rw [← hW1]
        clear hW1
        obtain ⟨S, hS⟩ : ∃ n, n = wr.heap.size := ⟨_, rfl⟩
        rw [← hS] at Q1 HSN
        rw [← hS]
        clear hS
        have hws1 : w2.heap.size ≤ W1.heap.size := W1B.out.size
        have X3 := Lib.hid (X2.out.keep (keeps_below W1B.out))
        have KS : Hid (∀ wx, Below W1.heap.size W1 wx → wx.cell? ⟨w.heap.size, 0, none⟩ = some (.slice ga x.globals.length gc) ∧ wx.cell? ⟨w.heap.size, 1, none⟩ = some (.slice la x.locks.length lc) ∧ wx.cell? ⟨w.heap.size, 2, none⟩ = some (.slice pa x.procs.length pc) ∧ wx.cell? ⟨S, 0, none⟩ = some (.int .i64 k) ∧ wx.cell? ⟨S, 1, none⟩ = some (.string nm) ∧ Below W1.heap.size W1 wx) := fun wx hb => by
          have h1 := X3.out.keep (keeps_below hb)
          have h2 := Q1.out.keep (keeps_below hb)
          exact ⟨h1.1, h1.2.1, h1.2.2, h2.1, h2.2, hb⟩
        have CN : Hid (∀ wx, Below W1.heap.size W1 wx → Calls Tryz.prog 44 #[.agg #[.slice ga x.globals.length gc, .slice la x.locks.length lc, .slice pa x.procs.length pc], .int .i64 k] wx fun e w' => ∃ kv, e = .returned kv ∧ StrsAt w' (knownU x k) kv ∧ Below W1.heap.size W1 w') := fun wx hb =>
          (CS.out k wx (B2.out.trans ((W1B.out.trans (hb.mono hws1)).mono hbs))).mono fun e w' ⟨kv, he, h1, h2⟩ => ⟨kv, he, h1, hb.trans (h2.mono hb.size)⟩
        obtain ⟨B, hB⟩ : ∃ b, b = hasB (knownU x k) nm := ⟨_, rfl⟩
        have CH : Hid (∀ kv wx, StrsAt wx (knownU x k) kv → Below W1.heap.size W1 wx → Calls Tryz.prog 43 #[kv, .string nm] wx fun e w' => e = .returned (.bool B) ∧ Below W1.heap.size W1 w') := fun kv wx h1 h2 => by
          by_cases hm : nm ∈ knownU x k
          · rw [hB, (hasB_iff _ _).2 hm]
            exact (implHas_yes _ nm kv wx h1 hm).mono fun e w' ⟨he, hw⟩ => ⟨he, by rw [hw.out]; exact h2⟩
          · have : hasB (knownU x k) nm = false := by rw [Bool.eq_false_iff]; intro h; exact hm ((hasB_iff _ _).1 h)
            rw [hB, this]
            exact (implHas_no _ nm kv wx h1 hm).mono fun e w' ⟨he, hw⟩ => ⟨he, by rw [hw.out]; exact h2⟩
        have HB := Lib.hid hB
        clear hB
        have b0 : Below W1.heap.size W1 W1.drew := (Below.refl _ _).drew
        have hb00 : Below W1.heap.size W1 W1 := Below.refl _ _
        obtain ⟨p0, p1, p2, q0, q1, _⟩ := KS.out _ hb00
        go_cut [6] (fun s6 wx => s6 = .bool B ∧ Hid (Below W1.heap.size W1 wx))
        case first =>
          go_wp2_with fail
          go_region_held3 (fun wx => wx.cell? ⟨w.heap.size, 0, none⟩ = some (.slice ga x.globals.length gc) ∧ wx.cell? ⟨w.heap.size, 1, none⟩ = some (.slice la x.locks.length lc) ∧ wx.cell? ⟨w.heap.size, 2, none⟩ = some (.slice pa x.procs.length pc) ∧ wx.cell? ⟨S, 0, none⟩ = some (.int .i64 k) ∧ wx.cell? ⟨S, 1, none⟩ = some (.string nm) ∧ Below W1.heap.size W1 wx)
            (exact KS.out _ (by assumption))
            (first
            | (go_at_call 44; (with_reducible refine (CN.out _ (by assumption)).mono ?_); rintro e w5 ⟨kv, rfl, hk5, b5⟩)
            | (go_at_call 43; (with_reducible refine (CH.out _ _ (by assumption) (by assumption)).mono ?_); rintro e w6 ⟨rfl, b6⟩))
          all_goals
            have HB6 : Hid (Below W1.heap.size W1 _) := (by assumption)
            go_wp2_with fail
            go_meet
            exact ⟨rfl, HB6⟩
        case rest =>
          obtain ⟨rfl, hbc⟩ := hcut
          obtain ⟨w7, hw7⟩ : ∃ w0, w0 = wc := ⟨_, rfl⟩
          subst hw7
          have r0 := keeps_below hbc.out _ _ Q1.out.1
          have r1 := keeps_below hbc.out _ _ Q1.out.2
          have HR7 := Lib.hid (row_below HR1.out hbc.out)
          have HB7 := Lib.hid (W1B.out.trans (hbc.out.mono hws1))
          have hws7 : w2.heap.size ≤ w7.heap.size := HB7.out.size
          clear p0 p1 p2 q0 q1 b0 hb00 KS CN CH
          cases B with
          | true =>
            have HA : Hid (ac = (us.take (j + 1)).foldl (addUs x) []) := by show _ = _; rw [HAC.out, addU_yes (.inl ((hasB_iff _ _).1 HB.out.symm))]
            go_wp2_with fail
            go_roundw
            case rel => exact ⟨j + 1, ac, by omega, by go_num, HA, HR7, HB7⟩
            case measure => simp [intOf]; omega
          | false =>
            have hnk : ¬ nm ∈ knownU x k := fun h => by have := HB.out; rw [(hasB_iff _ _).2 h] at this; cases this
            by_cases hm : nm ∈ ac
            · have HA : Hid (ac = (us.take (j + 1)).foldl (addUs x) []) := by show _ = _; rw [HAC.out, addU_yes (.inr hm)]
              have C3 := Lib.hid (implHas_yes ac nm (.slice oa ac.length oc) w7 (strsAt_row rfl HR7.out) hm)
              clear hm hnk
              go_wp2_with fail
              refine C3.out.mono ?_
              rintro e w8 ⟨rfl, hw8⟩
              obtain rfl := hw8.out
              clear hw8
              go_wp2_with fail
              go_roundw
              case rel => exact ⟨j + 1, ac, by omega, by go_num, HA, HR7, HB7⟩
              case measure => simp [intOf]; omega
            · have HA : Hid (ac ++ [nm] = (us.take (j + 1)).foldl (addUs x) []) := by show _ = _; rw [HAC.out, addU_no (fun h => h.elim hnk hm)]
              have C3 := Lib.hid (implHas_no ac nm (.slice oa ac.length oc) w7 (strsAt_row rfl HR7.out) hm)
              clear hm hnk
              go_wp2_with fail
              refine C3.out.mono ?_
              rintro e w8 ⟨rfl, hw8⟩
              obtain rfl := hw8.out
              clear hw8
              go_wp2_with (at_builtin; refine wpList_append_lies _ rfl (.tmp 33) (.tmp 36) 24 rfl w2.heap.size 9 i0 (.string ⟨#[]⟩) 1 16 Tryz.underlying24 hi hz0 hz1 hz2 rfl (by decide) (.slice oa ac.length oc) ac.length _ rfl (HR7.out.alloc _) ⟨w8.heap.size, 0, none⟩ 1 1 [.string nm] rfl rfl (World.news_of_block (heap_alloc_new _ _)) (one_textR _) (by decide) (by unfold maxLen; omega) (by omega) (by simp; omega) _ rfl ?_)
              intro g9 cap9 w9 hown9 hg9 hat9 hlt9
              have HR9 : Hid (w9.ownsRow w2.heap.size 9 1 (.slice (some ⟨g9, 0, none⟩) (ac.length + 1) cap9) (ac ++ [nm]).length (strV (ac ++ [nm]))) := by
                show World.ownsRow _ _ _ _ _ _ _
                simpa [strV] using hown9
              have HB9 : Hid (Below w2.heap.size w2 w9) := (HB7.out.alloc HB7.out.size _).grown hg9 (by simp; omega) (fun k hk => (HR7.out.lt k hk).1)
              clear hown9 hg9 hat9 hlt9
              go_wp2_with fail
              go_roundw
              case rel => exact ⟨j + 1, ac ++ [nm], by omega, by go_num, HA, HR9, HB9⟩
              case measure => simp [intOf]; omega
      · have HF : ui = ac := by rw [HR.out, hac.out, List.take_of_length_le (by omega)]
        have HB := Lib.hid (B2.out.trans (hbe.out.mono hbs))
        have HRW := Lib.hid (row_wideB hrow.out hbs)
        go_wp2_with fail
        go_ret
        exact ⟨_, rfl, by rw [HF]; exact HRW.out, HB.out⟩
end Go.Proofs.YtkfeiekgdfklmaaGreatDoor.Trm
/- The program's PlaceOf, walked. Conditions: the row lies in memory. -/
namespace Go.Proofs.YtkfeiekgdfklmaaGreatDoor.Trm
open Go.RowKit Own
theorem implPlace_any (ns : List ByteArray) (s : ByteArray) (nv : Value) (w : World) (hn : StrsAt w ns nv) :
    Calls Tryz.prog 56 #[nv, .string s] w fun e w' => ∃ x, e = .returned (.int .i64 x) ∧ IdxI ns s x ∧ w = w' := by
  have C := Lib.hid (implIndex_any ns s nv w hn)
  obtain ⟨na, nc, rfl, hn1, hn2⟩ := hn
  clear hn2
  go_enter Tryz.func56, Tryz.ntmps56
  go_wp2_with fail
  refine C.out.mono ?_
  rintro e w1 ⟨x, rfl, hx, rfl⟩
  have HX := Lib.hid hx
  clear hx
  go_wp2
  go_ret
  exact ⟨_, rfl, HX.out, rfl⟩
end Go.Proofs.YtkfeiekgdfklmaaGreatDoor.Trm
/- The program's hasTwice, walked. Conditions: the row lies in memory. -/
namespace Go.Proofs.YtkfeiekgdfklmaaGreatDoor.Trm
open Go.RowKit Own
theorem implTwice_any (ns : List ByteArray) (nv : Value) (w : World) (h : StrsAt w ns nv) :
    Calls Tryz.prog 55 #[nv] w fun e w' => e = .returned (.bool (twiceB ns)) ∧ w = w' := by
  have CP := Lib.hid (fun s => implPlace_any ns s nv w h)
  obtain ⟨a, c, rfl, h1, h2⟩ := id h
  have HN := Lib.hid h2
  have HTY : Hid (∀ i (hi : i < ns.length), ns[i] ∈ ns.take i → twiceB ns = true) := fun i hi h => twiceB_yes h
  have HTN : Hid ((∀ i (hi : i < ns.length), ¬ ns[i] ∈ ns.take i) → twiceB ns = false) := twiceB_no
  generalize twiceB ns = tb at HTY HTN ⊢
  clear h2 h
  go_enter Tryz.func55, Tryz.ntmps55
  go_wp2
  go_loopw [7] (fun i wr => ∃ j : Nat, j ≤ ns.length ∧ i = .int .i64 j ∧ Hid (∀ k (hk : k < ns.length), k < j → ¬ ns[k] ∈ ns.take k) ∧ w = wr)
    (fun i _ => ns.length - (intOf i).toNat)
  case atStart => exact ⟨0, Nat.zero_le _, rfl, fun _ _ h => by omega, rfl⟩
  case round =>
    obtain ⟨j, hj, rfl, hno, rfl⟩ := hrel
    by_cases hlt : j < ns.length
    · obtain ⟨g, o, rfl, h3⟩ := HN.out (by omega)
      have c0 := h3 j hlt
      have CPJ := Lib.hid (CP.out ns[j])
      clear h3
      by_cases he : ns[j] ∈ ns.take j
      · have HT : Hid (tb = true) := HTY.out j hlt he
        have HX : Hid (∀ x, IdxI ns ns[j] x → x < (j : Int)) := fun x hx => by
          obtain ⟨k, hk, ek⟩ := List.getElem_of_mem he
          rw [List.getElem_take] at ek
          rw [List.length_take] at hk
          rcases hx with ⟨i, hi, rfl, _, hf⟩ | ⟨rfl, hf⟩
          · have : ¬ k < i := fun h => hf k (by omega) h ek
            omega
          · exact absurd ek (hf k (by omega))
        clear he
        generalize ns[j] = z at *
        go_wp2_with fail
        refine CPJ.out.mono ?_
        rintro e w2 ⟨x, rfl, hx, rfl⟩
        have hxj := HX.out x hx
        clear hx
        go_wp2_with fail
        go_ret
        exact ⟨by rw [HT.out]; rfl, rfl⟩
      · have HNO : Hid (∀ k (hk : k < ns.length), k < j + 1 → ¬ ns[k] ∈ ns.take k) := fun k hk h => by
          rcases Nat.lt_or_ge k j with h' | h'
          · exact hno.out k hk h'
          · have : k = j := by omega
            subst this; exact he
        have HX : Hid (∀ x, IdxI ns ns[j] x → ¬ x < (j : Int)) := fun x hx => by
          rcases hx with ⟨i, hi, rfl, ei, hf⟩ | ⟨rfl, hf⟩
          · intro hlt2
            refine he (List.mem_iff_getElem.2 ⟨i, ?_, ?_⟩)
            · rw [List.length_take]; omega
            · rw [List.getElem_take]; exact ei
          · exact absurd rfl (hf j hlt)
        clear he
        generalize ns[j] = z at *
        go_wp2_with fail
        refine CPJ.out.mono ?_
        rintro e w2 ⟨x, rfl, hx, rfl⟩
        have hxj := HX.out x hx
        clear hx
        go_wp2_with fail
        go_roundw
        case rel => exact ⟨j + 1, by omega, by go_num, HNO.out, by first | rfl | trivial⟩
        case measure => simp [intOf]; omega
    · have HF : Hid (tb = false) := HTN.out (fun k hk => hno.out k hk (by omega))
      go_wp2
      go_ret
      exact ⟨by rw [HF.out]; rfl, rfl⟩
end Go.Proofs.YtkfeiekgdfklmaaGreatDoor.Trm
/- The program's ProgFault, walked. Conditions: the program is of the call's own, of at most 2 to the 20; the four errors lie in memory. -/
namespace Go.Proofs.YtkfeiekgdfklmaaGreatDoor.Trm
open Go.RowKit Own Er
/-- What wrongWith leaves. -/
def WrongPost (a : Nat → Addr) (f : Nat) (w : World) (e : Ending) (w' : World) : Prop := e = .returned (errV a f) ∧ Below w.heap.size w w'
noncomputable def faultN (x : PTree) : Nat := (faultI x).toNat
theorem faultN_cases (x : PTree) : faultI x = (faultN x : Int) ∧ faultN x ≤ 4 := by
  unfold faultN faultI
  split
  · decide
  · split
    · decide
    · split
      · decide
      · split <;> decide
open Classical in
set_option maxHeartbeats 1600000 in
theorem implWrong_any (a : Nat → Addr) (x : PTree) (v : Value) (w : World) (hz : szP x ≤ 1048576) (hl : POwn w x v) (hE : Errs a w) :
    Calls Tryz.prog 34 #[v] w (WrongPost a (faultN x) w) := by
  have hll := hl.lies
  have CO := Lib.hid (fun wx (hb : Below w.heap.size w wx) => implProgOk_any x v wx hz (hl.below hb))
  have CU := Lib.hid (fun wx (hb : Below w.heap.size w wx) => implUnkIn_any x v wx hz (hl.below hb))
  have CP := Lib.hid (fun wx (hb : Below w.heap.size w wx) => implProcs_any x v wx (by unfold szP at hz; omega) (hll.keep (keeps_below hb)))
  have CM := Lib.hid (fun wx (hb : Below w.heap.size w wx) => implProc_any x mainB v wx (hll.keep (keeps_below hb)))
  have HE := Lib.hid (fun wx (hb : Below w.heap.size w wx) => hE.below hb)
  obtain ⟨ga, gc, la, lc, pa, pc, rfl, hg, hlk, _⟩ := hl
  have CT1 := Lib.hid (fun wx (hb : Below w.heap.size w wx) => implTwice_any x.globals _ wx (hg.1.keep (keeps_below hb)))
  have CT2 := Lib.hid (fun wx (hb : Below w.heap.size w wx) => implTwice_any x.locks _ wx (hlk.1.keep (keeps_below hb)))
  have X0 := Lib.hid (Box3.new w (.slice ga x.globals.length gc) (.slice la x.locks.length lc) (.slice pa x.procs.length pc) 27)
  have B0 := Lib.hid ((Below.refl w.heap.size w).alloc (Nat.le_refl _) (.cells #[.slice ga x.globals.length gc, .slice la x.locks.length lc, .slice pa x.procs.length pc] 27))
  have HF := Lib.hid (show faultI x = if okP x = false then 1 else if (twiceB x.globals || (twiceB x.locks || twiceB (procNs x.procs))) = true then 2 else if unkIn x ≠ [] then 3 else if ¬ mainB ∈ procNs x.procs then 4 else 0 from rfl)
  have HFN := Lib.hid (faultN_cases x).1
  clear hll hg hlk hE hz
  generalize faultN x = fn at HFN ⊢
  rw [HFN.out] at HF
  generalize okP x = b0 at CO HF
  generalize twiceB x.globals = b1 at CT1 HF
  generalize twiceB x.locks = b2 at CT2 HF
  obtain ⟨p0, p1, p2⟩ := X0.out
  go_enter Tryz.func34, Tryz.ntmps34
  go_wp2_with fail
  refine (CO.out _ B0.out).mono ?_
  rintro e w1 ⟨rfl, hb1⟩
  have B1 := Lib.hid (B0.out.trans (hb1.mono B0.out.size))
  have X1 := Lib.hid (X0.out.keep (keeps_below hb1))
  clear hb1 p0 p1 p2
  cases b0 with
  | false =>
    have HR : Hid (fn = 1) := by show _ = _; have := HF.out; simp at this; omega
    have g0 := (HE.out _ B1.out).var 0 (by omega)
    go_wp2_with fail
    go_ret
    exact ⟨by rw [HR.out]; rfl, B1.out⟩
  | true =>
    obtain ⟨p0, p1, p2⟩ := X1.out
    go_wp2_with fail
    refine (CT1.out _ B1.out).mono ?_
    rintro e w2 ⟨rfl, rfl⟩
    cases b1 with
    | true =>
      have HR : Hid (fn = 2) := by show _ = _; have := HF.out; simp at this; omega
      have g1 := (HE.out _ B1.out).var 1 (by omega)
      go_wp2_with fail
      go_ret
      exact ⟨by rw [HR.out]; rfl, B1.out⟩
    | false =>
      go_wp2_with fail
      refine (CT2.out _ B1.out).mono ?_
      rintro e w2 ⟨rfl, rfl⟩
      cases b2 with
      | true =>
        have HR : Hid (fn = 2) := by show _ = _; have := HF.out; simp at this; omega
        have g1 := (HE.out _ B1.out).var 1 (by omega)
        go_wp2_with fail
        go_ret
        exact ⟨by rw [HR.out]; rfl, B1.out⟩
      | false =>
        go_wp2_with fail
        refine (CP.out _ B1.out).mono ?_
        rintro e w3 ⟨kv, rfl, hr3, hb3⟩
        have B3 := Lib.hid (B1.out.trans (hb3.mono B1.out.size))
        have X3 := Lib.hid (X1.out.keep (keeps_below hb3))
        have CT3 := Lib.hid (implTwice_any (procNs x.procs) kv w3 (strsAt_row rfl hr3))
        obtain ⟨ka, kc, rfl, _⟩ := row_shape hr3
        clear hr3 hb3 p0 p1 p2
        generalize twiceB (procNs x.procs) = b3 at CT3 HF
        go_wp2_with fail
        refine CT3.out.mono ?_
        rintro e w4 ⟨rfl, rfl⟩
        cases b3 with
        | true =>
          have HR : Hid (fn = 2) := by show _ = _; have := HF.out; simp at this; omega
          have g1 := (HE.out _ B3.out).var 1 (by omega)
          go_wp2_with fail
          go_ret
          exact ⟨by rw [HR.out]; rfl, B3.out⟩
        | false =>
          obtain ⟨p0, p1, p2⟩ := X3.out
          go_wp2_with fail
          refine (CU.out _ B3.out).mono ?_
          rintro e w5 ⟨uv, rfl, hr5, hb5⟩
          have B5 := Lib.hid (B3.out.trans (hb5.mono B3.out.size))
          have X5 := Lib.hid (X3.out.keep (keeps_below hb5))
          obtain ⟨ua, uc, rfl, _⟩ := row_shape hr5
          clear hr5 hb5 p0 p1 p2
          by_cases hu : unkIn x = []
          · have hul : ¬ (0 : Int) < ((unkIn x).length : Int) := by rw [hu]; simp
            have HF2 : Hid ((fn : Int) = if ¬ mainB ∈ procNs x.procs then 4 else 0) := by show _ = _; rw [HF.out]; simp [hu]
            clear hu HF
            generalize (unkIn x).length = ul at hul ⊢
            obtain ⟨p0, p1, p2⟩ := X5.out
            go_wp2_with fail
            refine (CM.out _ B5.out).mono ?_
            rintro e w6 ⟨n, rfl, hn, hb6⟩
            have B6 := Lib.hid (B5.out.trans (hb6.mono B5.out.size))
            have hnn := idx_neg hn
            clear hn hb6
            by_cases hm : mainB ∈ procNs x.procs
            · have hq : ¬ n < 0 := fun h => (hnn.1 h) hm
              have HR : Hid (fn = 0) := by show _ = _; have := HF2.out; rw [if_neg (fun h => h hm)] at this; omega
              clear hnn hm HF2
              go_wp2_with fail
              go_ret
              exact ⟨by rw [HR.out]; rfl, B6.out⟩
            · have hq : n < 0 := hnn.2 hm
              have HR : Hid (fn = 4) := by show _ = _; have := HF2.out; rw [if_pos hm] at this; omega
              clear hnn hm HF2
              have h45 := B5
              have g3 := (HE.out _ B6.out).var 3 (by omega)
              go_wp2_with fail
              go_ret
              exact ⟨by rw [HR.out]; rfl, B6.out⟩
          · have hul : (0 : Int) < ((unkIn x).length : Int) := by have := List.length_pos_iff.2 hu; omega
            have HR : Hid (fn = 3) := by show _ = _; have := HF.out; rw [if_neg (by simp), if_neg (by simp), if_pos hu] at this; omega
            clear hu HF
            generalize (unkIn x).length = ul at hul ⊢
            have h45 := B5
            have g2 := (HE.out _ B5.out).var 2 (by omega)
            go_wp2_with fail
            go_ret
            exact ⟨by rw [HR.out]; rfl, B5.out⟩
set_option maxHeartbeats 1600000 in
theorem implFault_any (a : Nat → Addr) (x : PTree) (v : Value) (w : World) (hz : szP x ≤ 1048576) (hl : POwn w x v) (hE : Errs a w) :
    Calls Tryz.prog 9 #[v] w fun e w' => e = .returned (.int .i64 (faultI x)) ∧ Below w.heap.size w w' := by
  have hll := hl.lies
  have CW := Lib.hid (fun wx (hb : Below w.heap.size w wx) => implWrong_any a x v wx hz (hl.below hb) (hE.below hb))
  have HE := Lib.hid (fun wx (hb : Below w.heap.size w wx) => hE.below hb)
  obtain ⟨ga, gc, la, lc, pa, pc, rfl⟩ := hll.shape
  have X0 := Lib.hid (Box3.new w (.slice ga x.globals.length gc) (.slice la x.locks.length lc) (.slice pa x.procs.length pc) 27)
  have B0 := Lib.hid ((Below.refl w.heap.size w).alloc (Nat.le_refl _) (.cells #[.slice ga x.globals.length gc, .slice la x.locks.length lc, .slice pa x.procs.length pc] 27))
  have HFN := Lib.hid (faultN_cases x).1
  have hf4 := (faultN_cases x).2
  generalize faultI x = fi at HFN ⊢
  generalize faultN x = fn at *
  clear hll hl hE hz
  obtain ⟨p0, p1, p2⟩ := X0.out
  go_enter Tryz.func9, Tryz.ntmps9
  go_wp2_with fail
  refine (CW.out _ B0.out).mono ?_
  rintro e w1 ⟨rfl, hb1⟩
  have B1 := Lib.hid (B0.out.trans (hb1.mono B0.out.size))
  clear hb1 p0 p1 p2
  have IS := Lib.hid (fun k hk b hb => isErr a w1 (HE.out _ B1.out) fn hf4 k hk b hb)
  have g0 := (HE.out _ B1.out).var 0 (by omega)
  have g1 := (HE.out _ B1.out).var 1 (by omega)
  have g2 := (HE.out _ B1.out).var 2 (by omega)
  have g3 := (HE.out _ B1.out).var 3 (by omega)
  rcases (by omega : fn = 1 ∨ fn = 2 ∨ fn = 3 ∨ fn = 4 ∨ fn = 0) with rfl | rfl | rfl | rfl | rfl
  · go_wp2_with fail
    refine (IS.out 0 (by omega) true rfl).mono ?_
    rintro e w2 ⟨rfl, rfl⟩
    go_wp2_with fail
    go_ret
    exact ⟨by rw [HFN.out]; rfl, B1.out⟩
  · go_wp2_with fail
    refine (IS.out 0 (by omega) false rfl).mono ?_
    rintro e w2 ⟨rfl, rfl⟩
    go_wp2_with fail
    refine (IS.out 1 (by omega) true rfl).mono ?_
    rintro e w2 ⟨rfl, rfl⟩
    go_wp2_with fail
    go_ret
    exact ⟨by rw [HFN.out]; rfl, B1.out⟩
  · go_wp2_with fail
    refine (IS.out 0 (by omega) false rfl).mono ?_
    rintro e w2 ⟨rfl, rfl⟩
    go_wp2_with fail
    refine (IS.out 1 (by omega) false rfl).mono ?_
    rintro e w2 ⟨rfl, rfl⟩
    go_wp2_with fail
    refine (IS.out 2 (by omega) true rfl).mono ?_
    rintro e w2 ⟨rfl, rfl⟩
    go_wp2_with fail
    go_ret
    exact ⟨by rw [HFN.out]; rfl, B1.out⟩
  · go_wp2_with fail
    refine (IS.out 0 (by omega) false rfl).mono ?_
    rintro e w2 ⟨rfl, rfl⟩
    go_wp2_with fail
    refine (IS.out 1 (by omega) false rfl).mono ?_
    rintro e w2 ⟨rfl, rfl⟩
    go_wp2_with fail
    refine (IS.out 2 (by omega) false rfl).mono ?_
    rintro e w2 ⟨rfl, rfl⟩
    go_wp2_with fail
    refine (IS.out 3 (by omega) true rfl).mono ?_
    rintro e w2 ⟨rfl, rfl⟩
    go_wp2_with fail
    go_ret
    exact ⟨by rw [HFN.out]; rfl, B1.out⟩
  · go_wp2_with fail
    refine (IS.out 0 (by omega) false rfl).mono ?_
    rintro e w2 ⟨rfl, rfl⟩
    go_wp2_with fail
    refine (IS.out 1 (by omega) false rfl).mono ?_
    rintro e w2 ⟨rfl, rfl⟩
    go_wp2_with fail
    refine (IS.out 2 (by omega) false rfl).mono ?_
    rintro e w2 ⟨rfl, rfl⟩
    go_wp2_with fail
    refine (IS.out 3 (by omega) false rfl).mono ?_
    rintro e w2 ⟨rfl, rfl⟩
    go_wp2_with fail
    go_ret
    exact ⟨by rw [HFN.out]; rfl, B1.out⟩
end Go.Proofs.YtkfeiekgdfklmaaGreatDoor.Trm
/- The model's l07Uses, walked: the names that statements have of numbers and locks. Conditions: the statements lie in memory that is older than the list of names; at most 2 to the 20 of them. -/
namespace Go.Proofs.YtkfeiekgdfklmaaGreatDoor.Trm
open Go.RowKit Own
def UseOk (xs : List STree) : Prop := ∀ (v ov : Value) (w0 w : World) (acc : List ByteArray), acc.length + (2 * xs.length + 3 * szXS xs) ≤ 8000000 → szXS xs ≤ 1048576 → SListAt w0 v xs → Below w0.heap.size w0 w → w.ownsRow w0.heap.size 9 1 ov acc.length (strV acc) →
    Calls Tryz.prog 46 #[v, ov] w fun e w' => ∃ ov', e = .returned ov' ∧ w'.ownsRow w0.heap.size 9 1 ov' (useXS xs acc).length (strV (useXS xs acc)) ∧ Moves w ov w' ov'
set_option maxRecDepth 20000 in
set_option maxHeartbeats 1600000 in
theorem use_list (xs : List STree) (ih : ∀ y, y ∈ xs → UseOk y.body ∧ UseOk y.els) : UseOk xs := fun v ov w0 w acc ha hz hl hbe hown => by
  obtain ⟨hlen, aa, cap, rfl, hk⟩ := hl
  obtain ⟨i0, hi, hz0, hz1, hz2⟩ := info_parts infoStrR
  have HI := Lib.hid hi
  have HZ0 := Lib.hid hz0
  have HZ1 := Lib.hid hz1
  have HZ2 := Lib.hid hz2
  have IH := Lib.hid ih
  have HK := Lib.hid hk
  have HZ := Lib.hid ha
  have HZX := Lib.hid hz
  have HB0 := Lib.hid hbe
  have HO := Lib.hid hown
  have hbs : w0.heap.size ≤ w.heap.size := hbe.size
  clear ih hk ha hown hbe hz hi hz0 hz1 hz2
  go_enter Tryz.func46, Tryz.ntmps46
  go_wp2
  go_loopw [1, 5] (fun o i wr => ∃ (j : Nat) (ac : List ByteArray), j ≤ xs.length ∧ i = .int .i64 j ∧ Hid (useXS xs acc = useXS (xs.drop j) ac) ∧ Hid (ac.length + (2 * (xs.drop j).length + 3 * szXS (xs.drop j)) ≤ 8000000) ∧ wr.ownsRow w0.heap.size 9 1 o ac.length (strV ac) ∧ Hid (Moves w ov wr o))
    (fun _ i _ => xs.length - (intOf i).toNat)
  case atStart => exact ⟨0, acc, Nat.zero_le _, rfl, rfl, by show _ ≤ _; simpa using HZ.out, HO.out, Moves.refl _ _⟩
  case round =>
    obtain ⟨j, ac, hj, rfl, hsz, hzr, hrow, hmv⟩ := hrel
    obtain ⟨oa, oc, rfl, _⟩ := row_shape hrow
    have HROW := Lib.hid hrow
    clear hrow
    by_cases hlt : j < xs.length
    · obtain ⟨g, o, rfl, hl⟩ := HK.out (by omega)
      have HBR := Lib.hid (hmv.out.below HB0.out HO.out)
      obtain ⟨ta, tc, ba, bc, ea, ec, c0, c1, c2, c3, c4, c5, c6, c7, hl2⟩ := hl.at j hlt
      obtain ⟨hlt2, lb, le⟩ := hl2.lists
      have hcd : (xs.drop j).length = (xs.drop (j + 1)).length + 1 := by rw [List.drop_eq_getElem_cons hlt, List.length_cons]
      have hsd := szXS_drop hlt
      have hsx : szX xs[j] ≤ 1048576 := by have := szXS_mem (List.getElem_mem hlt); have := HZX.out; omega
      rw [szX_eq] at hsd hsx
      have hin := IH.out xs[j] (List.getElem_mem hlt)
      have IB := Lib.hid (fun ac ov wx hz hb hr => hin.1 _ ov w0 wx ac hz (by omega) lb hb hr)
      have IE := Lib.hid (fun ac ov wx hz hb hr => hin.2 _ ov w0 wx ac hz (by omega) le hb hr)
      have hke := keeps_below HBR.out
      have d0 := hke _ _ c0
      have d1 := hke _ _ c1
      have d2 := hke _ _ c2
      have d3 := hke _ _ c3
      have d4 := hke _ _ c4
      have d5 := hke _ _ c5
      have d6 := hke _ _ c6
      have d7 := hke _ _ c7
      have HTL := Lib.hid hlt2
      have hxl : xs.length ≤ 9223372036854775807 := hlen
      have HHE := Lib.hid ((useXS_drop hlt ac).trans (by rw [useX_eq]))
      have hU4 := use_head_le xs[j].kind xs[j].name ac
      have hU3 := readsOfT_le xs[j].term
      have hU1 := useXS_le xs[j].body ((if xs[j].kind = 1 ∨ xs[j].kind = 6 ∨ xs[j].kind = 7 then ac ++ [xs[j].name] else ac) ++ readsOfT xs[j].term)
      have hU2 := useXS_le xs[j].els (useXS xs[j].body ((if xs[j].kind = 1 ∨ xs[j].kind = 6 ∨ xs[j].kind = 7 then ac ++ [xs[j].name] else ac) ++ readsOfT xs[j].term))
      have hzz := hzr.out
      clear hl hl2 lb le hke c0 c1 c2 c3 c4 c5 c6 c7 hin hlt2
      generalize xs[j].kind = k at *
      generalize xs[j].name = nm at *
      generalize xs[j].term = tm at *
      generalize xs[j].body = bd at *
      generalize xs[j].els = el at *
      have W1B : Hid (Below w0.heap.size w0 (wr.alloc (.cells #[.int .i64 k, .string nm, .int .i64 tm.kind, .int .i64 tm.num, .string tm.name, .slice ta tm.kids.length tc, .slice ba bd.length bc, .slice ea el.length ec] 36))) := HBR.out.alloc HBR.out.size _
      have HM1 : Hid (Moves w ov (wr.alloc (.cells #[.int .i64 k, .string nm, .int .i64 tm.kind, .int .i64 tm.num, .string tm.name, .slice ta tm.kids.length tc, .slice ba bd.length bc, .slice ea el.length ec] 36)) (.slice oa ac.length oc)) := hmv.out.trans (Moves.alloc _ _ _)
      have HR1 : Hid ((wr.alloc (.cells #[.int .i64 k, .string nm, .int .i64 tm.kind, .int .i64 tm.num, .string tm.name, .slice ta tm.kids.length tc, .slice ba bd.length bc, .slice ea el.length ec] 36)).ownsRow w0.heap.size 9 1 (.slice oa ac.length oc) ac.length (strV ac)) := HROW.out.alloc _
      have HSB : Hid ((wr.alloc (.cells #[.int .i64 k, .string nm, .int .i64 tm.kind, .int .i64 tm.num, .string tm.name, .slice ta tm.kids.length tc, .slice ba bd.length bc, .slice ea el.length ec] 36)).heap[wr.heap.size]? = some (.cells #[.int .i64 k, .string nm, .int .i64 tm.kind, .int .i64 tm.num, .string tm.name, .slice ta tm.kids.length tc, .slice ba bd.length bc, .slice ea el.length ec] 36 (0, 0))) := heap_alloc_new _ _
      have HSN : Hid ((Value.slice oa ac.length oc).ownBlock ≠ some wr.heap.size) := row_not HROW.out
      have HAL : Hid (ac.length ≤ 8000000 - 2) := by show _ ≤ _; omega
      have HSX : Hid (szT tm ≤ 1048576) := by show _ ≤ _; omega
      clear HBR
      obtain ⟨W1, hW1⟩ : ∃ w1, w1 = wr.alloc (.cells #[.int .i64 k, .string nm, .int .i64 tm.kind, .int .i64 tm.num, .string tm.name, .slice ta tm.kids.length tc, .slice ba bd.length bc, .slice ea el.length ec] 36) := ⟨_, rfl⟩
      obtain ⟨h1, hh1⟩ : ∃ l, l = (if k = 1 ∨ k = 6 ∨ k = 7 then ac ++ [nm] else ac) := ⟨_, rfl⟩
      rw [← hh1] at hU1 hU2 hU4
      have HH1 := Lib.hid hh1
      have HHE2 : Hid (useXS (xs.drop j) ac = useXS (xs.drop (j + 1)) (useXS el (useXS bd (h1 ++ readsOfT tm)))) := by show _ = _; rw [hh1]; exact HHE.out
      obtain ⟨Bq, hBq⟩ : ∃ b : Bool, b = decide (k = 1 ∨ k = 6 ∨ k = 7) := ⟨_, rfl⟩
      have HBQ := Lib.hid hBq
      clear hBq hh1 HHE
      go_upto_region 5 with fail
      clear d0 d1 d2 d3 d4 d5 d6 d7
      rw [← hW1] at W1B HM1 HR1 HSB
      rw [← hW1]
      clear hW1
      obtain ⟨S, hS⟩ : ∃ n, n = wr.heap.size := ⟨_, rfl⟩
      rw [← hS] at HSB HSN
      rw [← hS]
      clear hS
      obtain ⟨s0, s1, s2, s3, s4, s5, s6, s7⟩ := (blk8 (Moves.refl W1 (.slice oa ac.length oc)) HSB.out HSN.out).2
      go_cut [24, 29] (fun _ s29 wx => s29 = .bool Bq ∧ wx = W1)
      case first =>
        rcases (by omega : k = 1 ∨ k = 6 ∨ k = 7 ∨ (k ≠ 1 ∧ k ≠ 6 ∧ k ≠ 7)) with hkk | hkk | hkk | ⟨n1, n2, n3⟩
        · have k1 : (k == 1) = true := by simp [hkk]
          have hb : Bq = true := by rw [HBQ.out]; simp [hkk]
          clear hkk
          go_wp2_with fail
          go_meet
          exact ⟨by rw [hb], rfl⟩
        · have k1 : (k == 1) = false := by rw [beq_eq_false_iff_ne]; omega
          have k2 : (k == 6) = true := by simp [hkk]
          have hb : Bq = true := by rw [HBQ.out]; simp [hkk]
          clear hkk
          go_wp2_with fail
          go_meet
          exact ⟨by rw [hb], rfl⟩
        · have k1 : (k == 1) = false := by rw [beq_eq_false_iff_ne]; omega
          have k2 : (k == 6) = false := by rw [beq_eq_false_iff_ne]; omega
          have k3 : (k == 7) = true := by simp [hkk]
          have hb : Bq = true := by rw [HBQ.out]; simp [hkk]
          clear hkk
          go_wp2_with fail
          go_meet
          exact ⟨by rw [hb], rfl⟩
        · have k1 : (k == 1) = false := by rw [beq_eq_false_iff_ne]; exact n1
          have k2 : (k == 6) = false := by rw [beq_eq_false_iff_ne]; exact n2
          have k3 : (k == 7) = false := by rw [beq_eq_false_iff_ne]; exact n3
          have hb : Bq = false := by rw [HBQ.out]; simp [n1, n2, n3]
          clear n1 n2 n3
          go_wp2_with fail
          go_meet
          exact ⟨by rw [hb], rfl⟩
      case rest =>
        obtain ⟨rfl, hwc⟩ := hcut
        rw [hwc]
        clear hwc
        go_upto_if 29 with fail
        go_cut [1] (fun s1 wx => ∃ oa2 oc2, s1 = .slice oa2 h1.length oc2 ∧ Hid (wx.ownsRow w0.heap.size 9 1 s1 h1.length (strV h1)) ∧ Hid (Moves W1 (.slice oa ac.length oc) wx s1))
        case first =>
          cases Bq with
          | false =>
            have hkk : ¬ (k = 1 ∨ k = 6 ∨ k = 7) := by have := HBQ.out; simpa using this.symm
            have HU : Hid (h1 = ac) := by show _ = _; rw [HH1.out, if_neg hkk]
            clear hkk
            go_wp2_with fail
            go_meet
            rw [HU.out]
            exact ⟨oa, oc, rfl, HR1.out, Moves.refl _ _⟩
          | true =>
            have hkk : k = 1 ∨ k = 6 ∨ k = 7 := by have := HBQ.out; simpa using this.symm
            have HU : Hid (h1 = ac ++ [nm]) := by show _ = _; rw [HH1.out, if_pos hkk]
            have hal := HAL.out
            have hws : w0.heap.size ≤ W1.heap.size := W1B.out.size
            clear hkk
            go_wp2_with (at_builtin; refine wpList_append_lies _ rfl (.tmp 30) (.tmp 33) 24 rfl w0.heap.size 9 i0 (.string ⟨#[]⟩) 1 16 Tryz.underlying24 HI.out HZ0.out HZ1.out HZ2.out rfl (by decide) (.slice oa ac.length oc) ac.length _ rfl (HR1.out.alloc _) ⟨W1.heap.size, 0, none⟩ 1 1 [.string nm] rfl rfl (World.news_of_block (heap_alloc_new _ _)) (one_textR _) (by decide) (by unfold maxLen; omega) (by omega) (by simp; omega) _ rfl ?_)
            intro g2 cap2 w2 hown2 hg2 hat2 hlt2
            have HR2 : Hid (w2.ownsRow w0.heap.size 9 1 (.slice (some ⟨g2, 0, none⟩) (ac.length + 1) cap2) (ac ++ [nm]).length (strV (ac ++ [nm]))) := by
              show World.ownsRow _ _ _ _ _ _ _
              simpa [strV] using hown2
            have HM2 : Hid (Moves W1 (.slice oa ac.length oc) w2 (.slice (some ⟨g2, 0, none⟩) (ac.length + 1) cap2)) := by
              refine (Moves.alloc _ _ _).trans ⟨hg2, ?_⟩
              rcases hat2 with h | h
              · exact .inl h.symm
              · exact .inr fun k hk => by cases hk; simp; omega
            clear hown2 hg2 hat2 hlt2
            go_wp2_with fail
            go_meet
            rw [HU.out]
            exact ⟨some ⟨g2, 0, none⟩, cap2, by rw [List.length_append]; rfl, HR2.out, HM2.out⟩
        case rest =>
          obtain ⟨oa2, oc2, rfl, HR2, HM2⟩ := hcut
          obtain ⟨w2, hw2⟩ : ∃ w0, w0 = wc := ⟨_, rfl⟩
          subst hw2
          have HSB2 := Lib.hid (blk8 HM2.out HSB.out HSN.out).1
          have HMT2 := Lib.hid (HM1.out.trans HM2.out)
          have HBW2 := Lib.hid (HM2.out.below W1B.out HR1.out)
          clear s0 s1 s2 s3 s4 s5 s6 s7 HSB HSN HM1 HM2 HR1 W1B HH1 HBQ
          obtain ⟨s0, s1, s2, s3, s4, s5, s6, s7⟩ := (blk8 (Moves.refl w2 (.slice oa2 h1.length oc2)) HSB2.out.1 HSB2.out.2).2
          go_wp2_with fail
          refine (specReadsOf_any tm _ w2 (HTL.out.keep (keeps_below HBW2.out)) HSX.out).mono ?_
          rintro e w3 ⟨rv, rfl, hr3, hb3⟩
          obtain ⟨ra, rc, rfl, _⟩ := row_shape hr3
          have HM3 := Lib.hid (HMT2.out.trans (Moves.of_below (.slice oa2 h1.length oc2) hb3))
          have HB3 : Hid (Below w0.heap.size w0 w3) := HBW2.out.trans (hb3.mono HBW2.out.size)
          have HR3 := Lib.hid (row_below HR2.out hb3)
          have HSB3 := Lib.hid (blk8 (Moves.of_below (.slice oa2 h1.length oc2) hb3) HSB2.out.1 HSB2.out.2).1
          have hws : w0.heap.size ≤ w3.heap.size := HB3.out.size
          generalize readsOfT tm = rs at *
          have hbnd : h1.length + rs.length ≤ 8000000 := by omega
          have HRL := Lib.hid hr3.1
          have HRV := Lib.hid hr3
          clear hr3 hb3 s0 s1 s2 s3 s4 s5 s6 s7
          go_wp2_with (at_builtin; refine wpList_append_rows rfl (.tmp 35) (.tmp 38) 24 rfl w0.heap.size 9 i0 (.string ⟨#[]⟩) 1 16 Tryz.underlying24 HI.out HZ0.out HZ1.out HZ2.out rfl (by decide) (.slice oa2 h1.length oc2) h1.length _ rfl HR3.out _ rs.length _ rfl w2.heap.size HRV.out (one_strV _) (by unfold maxLen; omega) (by omega) hws ?_)
          intro o4 w4 hown4 hg4 hat4
          rw [← strV_append] at hown4
          obtain ⟨oa4, oc4, rfl, _⟩ := row_shape hown4
          have hm4 := moves_append (v := .slice oa2 h1.length oc2) hg4 hat4
          have HM4 := Lib.hid (HM3.out.trans hm4)
          have HR4 : Hid (w4.ownsRow w0.heap.size 9 1 (.slice oa4 (h1.length + rs.length) oc4) (h1 ++ rs).length (strV (h1 ++ rs))) := by
            show World.ownsRow _ _ _ _ _ _ _
            rw [List.length_append]; exact hown4
          have HB4 := Lib.hid (hm4.below HB3.out HR3.out)
          have HSB4 := Lib.hid (blk8 hm4 HSB3.out.1 HSB3.out.2).1
          obtain ⟨s0, s1, s2, s3, s4, s5, s6, s7⟩ := (blk8 hm4 HSB3.out.1 HSB3.out.2).2
          have hlh : (h1 ++ rs).length = h1.length + rs.length := List.length_append
          have HZA : Hid ((h1 ++ rs).length + (2 * bd.length + 3 * szXS bd) ≤ 8000000) := by show _ ≤ _; omega
          have HZB : Hid ((useXS bd (h1 ++ rs)).length + (2 * el.length + 3 * szXS el) ≤ 8000000) := by show _ ≤ _; omega
          have HZC : Hid ((useXS el (useXS bd (h1 ++ rs))).length + (2 * (xs.drop (j + 1)).length + 3 * szXS (xs.drop (j + 1))) ≤ 8000000) := by show _ ≤ _; omega
          have hs4 : (Below w4.heap.size w4 w4.drew) := (Below.refl _ _).drew
          have CB := Lib.hid (fun wx (hb : Below w4.heap.size w4 wx) => IB.out (h1 ++ rs) (.slice oa4 (h1.length + rs.length) oc4) wx HZA.out (HB4.out.trans (hb.mono HB4.out.size)) (row_below HR4.out hb))
          have KE := Lib.hid (fun wx (hb : Below w4.heap.size w4 wx) w5 v5 (hm : Moves wx (.slice oa4 (h1.length + rs.length) oc4) w5 v5) => (blk8 ((Moves.of_below (.slice oa4 (h1.length + rs.length) oc4) hb).trans hm) HSB4.out.1 HSB4.out.2).2)
          have s6d : w4.drew.cell? ⟨S, 6, none⟩ = some (.slice ba bd.length bc) := s6
          have s7d : w4.drew.cell? ⟨S, 7, none⟩ = some (.slice ea el.length ec) := s7
          clear hown4 hg4 hat4 hm4 hlh
          go_wp2_with fail
          go_region_with (first
            | (go_at_call 46; (with_reducible refine (CB.out _ (by assumption)).mono ?_); rintro e w5 ⟨ov5, rfl, hr5, hm5⟩; have k5 := KE.out _ hs4 _ _ hm5; have t6 := k5.2.2.2.2.2.2.1; have t7 := k5.2.2.2.2.2.2.2; have hb5 := hm5.below (HB4.out.trans (hs4.mono HB4.out.size)) (row_below HR4.out hs4))
            | (go_at_call 46; (with_reducible refine (IE.out (useXS bd (h1 ++ rs)) _ _ HZB.out hb5 hr5).mono ?_); rintro e w6 ⟨ov6, rfl, hr6, hm6⟩))
          all_goals
            have HR6 := Lib.hid hr6
            have HM6 := Lib.hid (HM4.out.trans (((Moves.of_below _ hs4).trans hm5).trans hm6))
            have HS6 : Hid (useXS xs acc = useXS (xs.drop (j + 1)) (useXS el (useXS bd (h1 ++ rs)))) := by show _ = _; rw [hsz.out]; exact HHE2.out
            clear hr6 hm6 hr5 hm5 k5 t6 t7 hb5
            go_wp2_with fail
            go_roundw
            case rel => exact ⟨j + 1, _, by omega, by go_num, HS6, HZC, HR6.out, HM6⟩
            case measure => simp [intOf]; omega
    · have HS : Hid (useXS xs acc = ac) := by
        show _ = _
        rw [hsz.out, useXS_end (by omega)]
      go_wp2
      go_ret
      refine ⟨_, rfl, ?_, hmv.out⟩
      rw [HS.out]; exact HROW.out
theorem specUse_all : ∀ y : STree, UseOk y.body ∧ UseOk y.els := streeInd fun _ _ _ b e ihb ihe => ⟨use_list b ihb, use_list e ihe⟩
theorem specUse_any (xs : List STree) : UseOk xs := use_list xs fun y _ => specUse_all y
end Go.Proofs.YtkfeiekgdfklmaaGreatDoor.Trm
/- The model's UnusedIn, walked. Conditions: the program lies in memory; it has at most 2 to the 20 names and statements. -/
namespace Go.Proofs.YtkfeiekgdfklmaaGreatDoor.Trm
open Go.RowKit Own
theorem src_strs {w : World} {ns : List ByteArray} {a : Option Addr} {c : Nat} (h : StrsAt w ns (.slice a ns.length c)) (hn : a = none → c = 0) : Src w a ns.length c (strV ns) := by
  obtain ⟨a2, c2, e, _, h2⟩ := h
  simp at e
  obtain ⟨rfl, rfl⟩ := e
  rcases Nat.eq_zero_or_pos ns.length with h0 | h0
  · obtain rfl := List.length_eq_zero_iff.1 h0
    cases a with
    | none => exact .inl ⟨rfl, rfl, hn rfl, rfl⟩
    | some ad => exact .inr ⟨ad, rfl, rfl, fun j u e => by simp [strV] at e⟩
  · obtain ⟨g, o, rfl, h3⟩ := h2 h0
    refine .inr ⟨⟨g, o, none⟩, rfl, by simp [strV], fun j u e => ?_⟩
    have hj : j < ns.length := by
      rcases Nat.lt_or_ge j ns.length with h | h
      · exact h
      · rw [List.getElem?_eq_none (by simpa [strV] using h)] at e; cases e
    have e2 : u = .string ns[j] := by simp [strV, hj] at e; exact e.symm
    rw [e2, show (⟨g, o, none⟩ : Addr).add j = ⟨g, o + j, none⟩ from by unfold Addr.add; split <;> simp_all]
    exact h3 j hj
theorem step_append_src {P : Program} {w : World} {ops : Array Oper} {o : Oper} {a : Act} {K : Act → World → Prop} {Q : Exit → Act → World → Prop} {E : Prop} (hgd : o.guard = none) (s x : Operand) (t : TypeId)
    (ho : o.op = .call { callee := .builtin .append, args := #[s, x], argTypes := #[t, t] })
    (base : Nat) (e : TypeId) (i : TypeInfo) (z : Value) (bytes : Nat) (ht : P.underlying t = some (.slice e)) (hi : P.info? e = some i) (hz : i.zero = some z)
    (hsize : i.size = 1) (hby : i.bytes = bytes) (hzs : z.cells.size = 1)
    (v : Value) (n : Nat) (xs : List Value) (hs : a.eval s = v) (hown : w.ownsRow base e 1 v n xs)
    (sa : Option Addr) (m sc : Nat) (ys : List Value) (hx : a.eval x = .slice sa m sc) (hsrc : Src w sa m sc ys) (h1 : ∀ u ∈ ys, u.oneCell' = true)
    (h63 : n + m ≤ maxLen) (hbytes : (n + m) * bytes ≤ 140737488355328) (hbase : base ≤ w.heap.size)
    (h : ∀ v' w', w'.ownsRow base e 1 v' (n + m) (xs ++ ys) → Moves w v w' v' → K (a.put o.dst v') w') :
    if Region.wanted o (yielded ops a.tmps) = true then Oper.wp P o a w K Q else E := by
  have hw : Region.wanted o (yielded ops a.tmps) = true := by simp [Region.wanted, hgd]
  rw [if_pos hw]
  rcases hsrc with ⟨rfl, rfl, rfl, rfl⟩ | ⟨ad, rfl, hl, hc⟩
  · have hrun := run_append_owned_none (P := P) (w := w) base t o.type e i 1 ht hi v n xs hown
    unfold Oper.wp
    simp [execOp, ho, resolve, invoke, builtin, hs, hx, hrun, Result.andThen]
    exact h v w (by simpa using hown) (Moves.refl _ _)
  · obtain ⟨v', w', hr, h2, h3, _, h5⟩ := run_append_own_at (P := P) w base t o.type e i z 1 bytes ht hi hz hsize hby hzs (by decide) v n xs hown ad m sc ys (by simpa using hl) hc h1 h63 hbytes hbase
    unfold Oper.wp execOp
    simp only [ho, resolve, invoke, builtin, Sem.run_bind, Sem.run_pure, Result.andThen_ok, List.map_toArray, List.map_cons, List.map_nil, hs, hx, hr]
    exact h v' w' h2 (moves_append h3 h5)
/-- A list without memory has no room. -/
def PRoom (x : PTree) (v : Value) : Prop := ∃ ga gc la lc pv, v = .agg #[.slice ga x.globals.length gc, .slice la x.locks.length lc, pv] ∧ (ga = none → gc = 0) ∧ (la = none → lc = 0)
theorem POwn.room {w : World} {x : PTree} {v : Value} (h : POwn w x v) : PRoom x v := by
  obtain ⟨ga, gc, la, lc, pa, pc, rfl, _, _, _, h1, h2⟩ := h
  exact ⟨_, _, _, _, _, rfl, h1.2, h2.2⟩
set_option maxRecDepth 20000 in
set_option maxHeartbeats 1600000 in
theorem specUnuIn_any (x : PTree) (v : Value) (w : World) (hz : szP x ≤ 1048576) (hp : PLies w x v) (hrm : PRoom x v) :
    Calls Tryz.prog 15 #[v] w fun e w' => ∃ ov, e = .returned ov ∧ w'.ownsRow w.heap.size 9 1 ov (unuIn x).length (strV (unuIn x)) ∧ Below w.heap.size w w' := by
  obtain ⟨ga, gc, la, lc, pa, pc, rfl, hpg, hpk, hpp⟩ := id hp
  obtain ⟨ga2, gc2, la2, lc2, pv, e, hng, hnl⟩ := hrm
  simp at e
  obtain ⟨⟨rfl, rfl⟩, ⟨rfl, rfl⟩, rfl⟩ := e
  have HOK := Lib.hid (fun wx (hb : Below w.heap.size w wx) => specProgOk_any x _ wx (hp.keep (keeps_below hb)))
  obtain ⟨hplen, a, cap, e, hk⟩ := hpp
  simp at e
  obtain ⟨rfl, rfl⟩ := e
  have HSZ : Hid (szPrs x.procs ≤ 1048576) := by show _ ≤ _; unfold szP at hz; omega
  have HAL : Hid ((x.globals ++ x.locks).length ≤ 1048576) := by show _ ≤ _; rw [List.length_append]; unfold szP at hz; omega
  have HSG := Lib.hid (fun wx (hb : Below w.heap.size w wx) => (src_strs hpg.1 hng).keep (keeps_below hb))
  have HSL := Lib.hid (fun wx (hb : Below w.heap.size w wx) => (src_strs hpk.1 hnl).keep (keeps_below hb))
  have HK := Lib.hid hk
  have HUI : Hid (unuIn x = if okP x = true then (x.globals ++ x.locks).filter (fun s => @decide (¬ s ∈ usePs x.procs []) (Classical.propDecidable _)) else []) := rfl
  obtain ⟨i0, hi, hz0, hz1, hz2⟩ := info_parts infoStrR
  have HI := Lib.hid hi
  have HZ0 := Lib.hid hz0
  have HZ1 := Lib.hid hz1
  have HZ2 := Lib.hid hz2
  obtain ⟨WP, hWP⟩ : ∃ w1, w1 = (w.alloc (.cells #[.slice ga x.globals.length gc, .slice la x.locks.length lc, .slice pa x.procs.length pc] 27)).alloc (.cells #[] 9) := ⟨_, rfl⟩
  have HB0 : Hid (Below w.heap.size w WP) := by show Below _ _ _; rw [hWP]; exact ((Below.refl w.heap.size w).alloc (Nat.le_refl _) _).alloc (by simp) _
  have HPS : Hid (WP.heap.size = w.heap.size + 2) := by show _ = _; rw [hWP]; simp
  have X0 : Hid (Box3 WP w.heap.size (.slice ga x.globals.length gc) (.slice la x.locks.length lc) (.slice pa x.procs.length pc)) := by
    show Box3 _ _ _ _ _
    rw [hWP]; exact (Box3.new w _ _ _ _).keep (keeps_alloc _ _)
  have HO : Hid (WP.ownsRow w.heap.size 9 1 (.slice (some ⟨w.heap.size + 1, 0, none⟩) 0 0) 0 []) := by
    show World.ownsRow _ _ _ _ _ _ _
    rw [hWP]
    exact ⟨rfl, .inr ⟨w.heap.size + 1, 0, #[], rfl, by omega, by have := heap_alloc_new (w.alloc (.cells #[.slice ga x.globals.length gc, .slice la x.locks.length lc, .slice pa x.procs.length pc] 27)) (.cells #[] 9); simpa using this, Nat.le_refl _, by decide, rfl, rfl⟩⟩
  generalize unuIn x = ui at HUI ⊢
  clear hk hp hpg hpk hz hi hz0 hz1 hz2 hng hnl
  obtain ⟨p0, p1, p2⟩ := X0.out
  have HWP := Lib.hid hWP
  rw [hWP] at p0 p1 p2
  cases hok : okP x with
  | false =>
    rw [hok] at HOK
    have HUF := HUI.out
    rw [hok] at HUF
    simp at HUF
    subst HUF
    clear HUI hok hWP
    go_enter Tryz.func15, Tryz.ntmps15
    go_wp2_with fail
    rw [← HWP.out]
    refine (HOK.out _ HB0.out).mono ?_
    rintro e w2 ⟨rfl, hb2⟩
    have HB2 := Lib.hid (HB0.out.trans (hb2.mono HB0.out.size))
    have HR2 := Lib.hid (row_below HO.out hb2)
    clear hb2
    go_wp2
    go_ret
    exact ⟨_, rfl, HR2.out, HB2.out⟩
  | true =>
    rw [hok] at HOK
    have HUT := HUI.out
    rw [hok] at HUT
    simp only [if_true] at HUT
    have HU := Lib.hid HUT
    clear HUI HUT hok hWP
    go_enter Tryz.func15, Tryz.ntmps15
    go_wp2_with fail
    rw [← HWP.out]
    refine (HOK.out _ HB0.out).mono ?_
    rintro e w2 ⟨rfl, hb2⟩
    have HB2 := Lib.hid (HB0.out.trans (hb2.mono HB0.out.size))
    have HR2 := Lib.hid (row_below HO.out hb2)
    have X2 := Lib.hid (X0.out.keep (keeps_below hb2))
    have hs2 : w.heap.size + 2 ≤ w2.heap.size := by have := hb2.size; have := HPS.out; omega
    have RU : Hid ((w2.alloc (.cells #[] 9)).ownsRow w2.heap.size 9 1 (.slice (some ⟨w2.heap.size, 0, none⟩) 0 0) 0 []) := World.ownsRow_made w2 #[] 0 (Nat.le_refl _) (by decide) rfl
    have BU : Hid (Below w2.heap.size w2 (w2.alloc (.cells #[] 9))) := (Below.refl _ _).alloc (Nat.le_refl _) _
    clear hb2 p0 p1 p2 HWP
    generalize x.procs = ps at *
    obtain ⟨WU, hWU⟩ : ∃ w1, w1 = w2.alloc (.cells #[] 9) := ⟨_, rfl⟩
    rw [← hWU] at RU BU
    have HWU := Lib.hid hWU
    clear hWU
    go_wp2
    rw [← HWU.out]
    go_loopw [4, 5] (fun u i wr => ∃ (j : Nat) (ac : List ByteArray), j ≤ ps.length ∧ i = .int .i64 j ∧ Hid (usePs ps [] = usePs (ps.drop j) ac) ∧ Hid (ac.length + 3 * szPrs (ps.drop j) ≤ 8000000) ∧ wr.ownsRow w2.heap.size 9 1 u ac.length (strV ac) ∧ Hid (Moves WU (.slice (some ⟨w2.heap.size, 0, none⟩) 0 0) wr u))
      (fun _ i _ => ps.length - (intOf i).toNat)
    case atStart => exact ⟨0, [], Nat.zero_le _, rfl, rfl, by show _ ≤ _; have := HSZ.out; simp; omega, RU.out, Moves.refl _ _⟩
    case round =>
      obtain ⟨j, ac, hj, rfl, hui, hbd, hrow, hmv⟩ := hrel
      obtain ⟨oa, oc, rfl, _⟩ := row_shape hrow
      have HR := Lib.hid hrow
      clear hrow
      have HBR := Lib.hid (hmv.out.below BU.out RU.out)
      have X3 := Lib.hid (X2.out.keep (keeps_below HBR.out))
      obtain ⟨p0, p1, p2⟩ := X3.out
      by_cases hlt : j < ps.length
      · obtain ⟨g, o, rfl, hl⟩ := HK.out (by omega)
        obtain ⟨h0, ba, bc, c0, c1, hbody⟩ := hl j hlt
        have hsd := szPrs_drop hlt
        have hpr : szPr ps[j] = ps[j].name.size + (ps[j].body.length + szXS ps[j].body) := rfl
        have hsm := szPrs_mem (List.getElem_mem hlt)
        have hSZ := HSZ.out
        have hbb := hbd.out
        have hUL := useXS_le ps[j].body ac
        have HUN : Hid (usePs ps [] = usePs (ps.drop (j + 1)) (useXS ps[j].body ac)) := by show _ = _; rw [hui.out, usePs_drop hlt]
        have HBN : Hid ((useXS ps[j].body ac).length + 3 * szPrs (ps.drop (j + 1)) ≤ 8000000) := by show _ ≤ _; omega
        have CB := Lib.hid (specUse_any ps[j].body (.slice ba ps[j].body.length bc) (.slice oa ac.length oc) w2 wr ac (by omega) (by omega) (hbody.keep (keeps_below HB2.out)) HBR.out HR.out)
        have d1 := keeps_below HBR.out _ _ (keeps_below HB2.out _ _ c1)
        clear hl c0 c1 hsd hpr hsm hbb hUL hbody
        go_wp2_with fail
        refine CB.out.mono ?_
        rintro e w5 ⟨ov5, rfl, hr5, hm5⟩
        have HR5 := Lib.hid hr5
        have HM5 := Lib.hid (hmv.out.trans hm5)
        clear hr5 hm5
        go_wp2
        go_roundw
        case rel => exact ⟨j + 1, _, by omega, by go_num, HUN, HBN, HR5.out, HM5⟩
        case measure => simp [intOf]; omega
      · have HUS : Hid (usePs ps [] = ac) := by show _ = _; rw [hui.out, usePs_end (by omega)]
        have HUU := HU.out
        rw [HUS.out] at HUU
        have HU2 := Lib.hid HUU
        have hs5 : w2.heap.size ≤ wr.heap.size := HBR.out.size
        have HB5 := Lib.hid (HB2.out.trans (HBR.out.mono HB2.out.size))
        have HO5 := Lib.hid (row_below HR2.out HBR.out)
        have hal := HAL.out
        have hal2 := hal
        rw [List.length_append] at hal2
        have bA : Below wr.heap.size wr ((wr.alloc (.cells #[] 9)).drew) := ((Below.refl wr.heap.size wr).alloc (Nat.le_refl _) _).drew
        have RA : Hid (((wr.alloc (.cells #[] 9)).drew).ownsRow wr.heap.size 9 1 (.slice (some ⟨wr.heap.size, 0, none⟩) 0 0) 0 []) := World.ownsRow_made wr #[] 0 (Nat.le_refl _) (by decide) rfl
        have HBA := Lib.hid bA
        have KX := Lib.hid (fun wx (hb : Below wr.heap.size wr wx) => X3.out.keep (keeps_below hb))
        have p0d : wr.drew.cell? ⟨w.heap.size, 0, none⟩ = some (.slice ga x.globals.length gc) := p0
        have p1d : wr.drew.cell? ⟨w.heap.size, 1, none⟩ = some (.slice la x.locks.length lc) := p1
        have p0a : ((wr.alloc (.cells #[] 9)).drew).cell? ⟨w.heap.size, 0, none⟩ = some (.slice ga x.globals.length gc) := keeps_alloc wr _ _ _ p0
        have p1a : ((wr.alloc (.cells #[] 9)).drew).cell? ⟨w.heap.size, 1, none⟩ = some (.slice la x.locks.length lc) := keeps_alloc wr _ _ _ p1
        clear HUU HU hui hbd
        go_upto_region 9 with fail
        go_cut [6] (fun s6 wx => ∃ oa6 oc6, s6 = .slice oa6 (x.globals ++ x.locks).length oc6 ∧ Hid (wx.ownsRow wr.heap.size 9 1 s6 (x.globals ++ x.locks).length (strV (x.globals ++ x.locks))) ∧ Hid (Below wr.heap.size wr wx))
        case first =>
          go_region_law (first
            | (refine step_append_src rfl (.tmp 29) (.tmp 31) 24 rfl wr.heap.size 9 i0 (.string ⟨#[]⟩) 16 Tryz.underlying24 HI.out HZ0.out HZ1.out HZ2.out rfl (.slice (some ⟨wr.heap.size, 0, none⟩) 0 0) 0 [] rfl RA.out ga x.globals.length gc (strV x.globals) rfl (HSG.out _ (HB5.out.trans (HBA.out.mono HB5.out.size))) (one_strV _) (by unfold maxLen; omega) (by omega) HBA.out.size ?_; intro v6 w6 hown6 hm6; have hb6 := hm6.below HBA.out RA.out; have t1 := (KX.out _ hb6).2.1)
            | (refine step_append_src rfl (.tmp 32) (.tmp 34) 24 rfl wr.heap.size 9 i0 (.string ⟨#[]⟩) 16 Tryz.underlying24 HI.out HZ0.out HZ1.out HZ2.out rfl _ _ _ rfl hown6 la x.locks.length lc (strV x.locks) rfl (HSL.out _ (HB5.out.trans (hb6.mono HB5.out.size))) (one_strV _) (by unfold maxLen; omega) (by omega) hb6.size ?_; intro v7 w7 hown7 hm7; have hb7 := hm7.below hb6 hown6; obtain ⟨oa7, oc7, rfl, _⟩ := row_shape hown7))
          all_goals
            go_wp2_with fail
            go_meet
            refine ⟨oa7, oc7, by simp, ?_, hb7⟩
            show World.ownsRow _ _ _ _ _ _ _
            simpa [strV] using hown7
        case rest =>
          obtain ⟨oa6, oc6, rfl, R6, B6⟩ := hcut
          obtain ⟨w6, hw6⟩ : ∃ w0, w0 = wc := ⟨_, rfl⟩
          subst hw6
          generalize x.globals ++ x.locks = al at *
          have HO6 := Lib.hid (row_below HO5.out B6.out)
          have HB6 := Lib.hid (HB5.out.trans (B6.out.mono HB5.out.size))
          have HU6 := Lib.hid (row_below HR.out B6.out)
          have hs6 : wr.heap.size ≤ w6.heap.size := B6.out.size
          have UW : Hid (∀ wy oy, Moves w6 (.slice (some ⟨w.heap.size + 1, 0, none⟩) 0 0) wy oy → StrsAt wy ac (.slice oa ac.length oc)) := fun wy oy hm => strsAt_row rfl (row_same HU6.out (fun q e => hm.1.block q (HU6.out.lt q e).2 (fun e2 => absurd ((HU6.out.lt q e).1) (by simp [Value.ownBlock] at e2; omega))))
          have AW : Hid (∀ wy oy, Moves w6 (.slice (some ⟨w.heap.size + 1, 0, none⟩) 0 0) wy oy → StrsAt wy al (.slice oa6 al.length oc6)) := fun wy oy hm => strsAt_row rfl (row_same R6.out (fun q e => hm.1.block q (R6.out.lt q e).2 (fun e2 => absurd ((R6.out.lt q e).1) (by simp [Value.ownBlock] at e2; omega))))
          clear p0 p1 p2 p0d p1d p0a p1a bA RA HBA KX X3 X2 X0 HSG HSL HR R6 HU6
          go_wp2
          go_loopw [3, 7] (fun o i wy => ∃ (m : Nat) (bc : List ByteArray), m ≤ al.length ∧ i = .int .i64 m ∧ bc.length ≤ m ∧ Hid (ui = bc ++ (al.drop m).filter (fun s => @decide (¬ s ∈ ac) (Classical.propDecidable _))) ∧ wy.ownsRow w.heap.size 9 1 o bc.length (strV bc) ∧ Hid (Moves w6 (.slice (some ⟨w.heap.size + 1, 0, none⟩) 0 0) wy o))
            (fun _ i _ => al.length - (intOf i).toNat)
          case atStart => exact ⟨0, [], Nat.zero_le _, rfl, Nat.le_refl _, by show _ = _; rw [HU2.out]; rfl, HO6.out, Moves.refl _ _⟩
          case round =>
            obtain ⟨m, b1, hm, rfl, hbl, hfd, hrow7, hmv7⟩ := hrel
            obtain ⟨ob, ox, rfl, _⟩ := row_shape hrow7
            have HR7 := Lib.hid hrow7
            clear hrow7
            have HB7 := Lib.hid (hmv7.out.below HB6.out HO6.out)
            have hu7 := UW.out _ _ hmv7.out
            have ha7 := AW.out _ _ hmv7.out
            by_cases hml : m < al.length
            · obtain ⟨a2, c2, e2, _, h3⟩ := ha7
              simp at e2
              obtain ⟨rfl, rfl⟩ := e2
              obtain ⟨gr, og, rfl, hrc⟩ := h3 (by omega)
              have qn := hrc m hml
              clear hrc h3
              by_cases hin : al[m] ∈ ac
              · have C := Lib.hid (specHasL_any ac _ al[m] _ hu7 true ⟨fun _ => hin, fun _ => rfl⟩)
                have HN : Hid (ui = b1 ++ (al.drop (m + 1)).filter (fun s => @decide (¬ s ∈ ac) (Classical.propDecidable _))) := by
                  show _ = _
                  rw [hfd.out, List.drop_eq_getElem_cons hml, List.filter_cons]
                  simp [hin]
                clear hu7 hin
                go_wp2_with fail
                refine C.out.mono ?_
                rintro e w8 ⟨rfl, rfl⟩
                go_wp2
                go_roundw
                case rel => exact ⟨m + 1, b1, by omega, by go_num, by omega, HN, HR7.out, hmv7⟩
                case measure => simp [intOf]; omega
              · have C := Lib.hid (specHasL_any ac _ al[m] _ hu7 false ⟨fun h => (Bool.noConfusion h), fun h => absurd h hin⟩)
                have HN : Hid (ui = (b1 ++ [al[m]]) ++ (al.drop (m + 1)).filter (fun s => @decide (¬ s ∈ ac) (Classical.propDecidable _))) := by
                  show _ = _
                  rw [hfd.out, List.drop_eq_getElem_cons hml, List.filter_cons]
                  simp [hin]
                have hws : w.heap.size ≤ wr.heap.size := HB7.out.size
                clear hu7 hin
                go_wp2_with fail
                refine C.out.mono ?_
                rintro e w8 ⟨rfl, rfl⟩
                go_wp2_with (at_builtin; refine wpList_append_lies _ rfl (.tmp 49) (.tmp 54) 24 rfl w.heap.size 9 i0 (.string ⟨#[]⟩) 1 16 Tryz.underlying24 HI.out HZ0.out HZ1.out HZ2.out rfl (by decide) (.slice ob b1.length ox) b1.length _ rfl (HR7.out.alloc _) ⟨wr.heap.size, 0, none⟩ 1 1 [.string al[m]] rfl rfl (World.news_of_block (heap_alloc_new _ _)) (one_textR _) (by decide) (by unfold maxLen; omega) (by omega) (by simp; omega) _ rfl ?_)
                intro g9 cap9 w9 hown9 hg9 hat9 hlt9
                have HR9 : Hid (w9.ownsRow w.heap.size 9 1 (.slice (some ⟨g9, 0, none⟩) (b1.length + 1) cap9) (b1 ++ [al[m]]).length (strV (b1 ++ [al[m]]))) := by
                  show World.ownsRow _ _ _ _ _ _ _
                  simpa [strV] using hown9
                have HM9 : Hid (Moves w6 (.slice (some ⟨w.heap.size + 1, 0, none⟩) 0 0) w9 (.slice (some ⟨g9, 0, none⟩) (b1.length + 1) cap9)) := by
                  refine hmv7.out.trans ((Moves.alloc _ _ _).trans ⟨hg9, ?_⟩)
                  rcases hat9 with h | h
                  · exact .inl h.symm
                  · exact .inr fun k hk => by cases hk; simp; omega
                have hbl9 : (b1 ++ [al[m]]).length ≤ m + 1 := by rw [List.length_append]; simp; omega
                clear hown9 hg9 hat9 hlt9
                go_wp2
                go_roundw
                case rel => exact ⟨m + 1, _, by omega, by go_num, hbl9, HN, HR9.out, HM9⟩
                case measure => simp [intOf]; omega
            · have HF : Hid (ui = b1) := by
                show _ = _
                rw [hfd.out, List.drop_of_length_le (by omega)]; simp
              go_wp2
              go_ret
              refine ⟨_, rfl, ?_, HB7.out⟩
              rw [HF.out]; exact HR7.out
end Go.Proofs.YtkfeiekgdfklmaaGreatDoor.Trm
/- The library's concatenation of two rows of texts, walked. Conditions: the rows lie in memory; each has at most 2 to the 20 texts. -/
namespace Go.Proofs.YtkfeiekgdfklmaaGreatDoor.Trm
open Go.RowKit Own
set_option maxRecDepth 20000 in
set_option maxHeartbeats 800000 in
theorem implGrow_nil (n : Nat) (w : World) (hn : n ≤ 8000000) :
    Calls Tryz.prog 98 #[.slice none 0 0, .int .i64 (n : Int)] w fun e w' => ∃ ov, e = .returned ov ∧ w'.ownsRow w.heap.size 9 1 ov 0 [] ∧ w.grownBy w' none := by
  obtain ⟨i0, hi, hz0, hz1, hz2⟩ := info_parts infoStrR
  rcases Nat.eq_zero_or_pos n with h0 | h0
  · subst h0
    go_enter Tryz.func98, Tryz.ntmps98
    go_wp2
    go_ret
    exact ⟨_, rfl, ⟨rfl, .inl ⟨rfl, rfl⟩⟩, World.grownBy.refl _ _⟩
  · have hr := Lib.run_append_nil_zeros (P := Tryz.prog) w 24 3 24 9 i0 (.string ⟨#[]⟩) .i64 .i64 Tryz.underlying24 (by kernel_rfl) hi hz0 n h0 (by omega) (by omega) (by rw [hz2]; omega)
    have hge := grownCap_ge w n 0 9
    have hle := grownCap_le_maxLen w n 0 9 (by unfold maxLen; omega)
    have HOW : Hid ((w.drew.alloc (.cells (Builtin.zeroCells (Value.string ⟨#[]⟩).cells n ++ Builtin.zeroCells (Value.string ⟨#[]⟩).cells (grownCap w n 0 9 - n)) 9)).ownsRow w.heap.size 9 1 (.slice (some ⟨w.heap.size, 0, none⟩) 0 (grownCap w n 0 9)) 0 []) := by
      refine ⟨rfl, .inr ⟨w.heap.size, _, _, rfl, Nat.le_refl _, heap_alloc_new w.drew _, Nat.zero_le _, hle, ?_, by simp⟩⟩
      simp only [Array.size_append, size_zeroCells]
      show n * 1 + (grownCap w n 0 9 - n) * 1 = grownCap w n 0 9 * 1
      omega
    have HG : Hid (w.grownBy (w.drew.alloc (.cells (Builtin.zeroCells (Value.string ⟨#[]⟩).cells n ++ Builtin.zeroCells (Value.string ⟨#[]⟩).cells (grownCap w n 0 9 - n)) 9)) none) := ⟨rfl, rfl, rfl, by simp, fun k hk _ => Below.heap_alloc w.drew _ k hk⟩
    have HR := Lib.hid hr
    have hp : (0 : Int) < (n : Int) := by omega
    generalize (w.drew.alloc (.cells (Builtin.zeroCells (Value.string ⟨#[]⟩).cells n ++ Builtin.zeroCells (Value.string ⟨#[]⟩).cells (grownCap w n 0 9 - n)) 9)) = w2 at HR HOW HG
    generalize grownCap w n 0 9 = cp at *
    clear hr hi hz0 hz1 hz2
    go_enter Tryz.func98, Tryz.ntmps98
    go_wp2_with (at_builtin; refine Lib.wpList_append_run _ rfl (.tmp 20) (.tmp 21) 24 3 rfl _ _ rfl rfl _ _ HR.out ?_)
    go_wp2
    go_ret
    exact ⟨_, rfl, HOW.out, HG.out⟩
def catL (xs ys : List ByteArray) (j : Nat) : List ByteArray := if j = 0 then [] else if j = 1 then xs else xs ++ ys
set_option maxRecDepth 20000 in
set_option maxHeartbeats 1600000 in
theorem implConcat_any (xs ys : List ByteArray) (a b : Option Addr) (ac bc g : Nat) (w : World) (ha : xs.length ≤ 1048576) (hb : ys.length ≤ 1048576)
    (c0 : w.cell? ⟨g, 0, none⟩ = some (.slice a xs.length ac)) (c1 : w.cell? ⟨g, 1, none⟩ = some (.slice b ys.length bc)) (sa : Src w a xs.length ac (strV xs)) (sb : Src w b ys.length bc (strV ys)) :
    Calls Tryz.prog 42 #[.slice (some ⟨g, 0, none⟩) 2 2] w fun e w' => ∃ ov, e = .returned ov ∧ w'.ownsRow w.heap.size 9 1 ov (xs ++ ys).length (strV (xs ++ ys)) ∧ Below w.heap.size w w' := by
  obtain ⟨i0, hi, hz0, hz1, hz2⟩ := info_parts infoStrR
  have CG := Lib.hid (implGrow_nil (xs.length + ys.length) w (by omega))
  have HSA := Lib.hid (fun wx (hk : Below w.heap.size w wx) => sa.keep (keeps_below hk))
  have HSB := Lib.hid (fun wx (hk : Below w.heap.size w wx) => sb.keep (keeps_below hk))
  have HC := Lib.hid (fun wx (hk : Below w.heap.size w wx) => (⟨keeps_below hk _ _ c0, keeps_below hk _ _ c1⟩ : wx.cell? ⟨g, 0, none⟩ = some (.slice a xs.length ac) ∧ wx.cell? ⟨g, 1, none⟩ = some (.slice b ys.length bc)))
  have HA := Lib.hid ha
  have HB := Lib.hid hb
  clear sa sb
  go_enter Tryz.func42, Tryz.ntmps42
  go_wp2
  go_loopw [3, 11] (fun z i wr => ∃ j : Nat, j ≤ 2 ∧ i = .int .i64 j ∧ z = .int .i64 ((if j = 0 then 0 else if j = 1 then xs.length else xs.length + ys.length : Nat) : Int) ∧ wr = w)
    (fun _ i _ => 2 - (intOf i).toNat)
  case atStart => exact ⟨0, Nat.zero_le _, rfl, rfl, rfl⟩
  case round =>
    obtain ⟨j, hj, rfl, rfl, rfl⟩ := hrel
    rcases (by omega : j = 0 ∨ j = 1 ∨ j = 2) with rfl | rfl | rfl
    · go_wp2
      go_roundw
      case rel => exact ⟨1, by omega, by go_num, by go_num, by first | rfl | trivial⟩
      case measure => simp [intOf]
    · have hq : ¬ ((xs.length : Int) + (ys.length : Int) < 0) := by omega
      go_wp2
      go_roundw
      case rel => exact ⟨2, by omega, by go_num, by go_num, by first | rfl | trivial⟩
      case measure => simp [intOf]
    · obtain ⟨w1, hw1⟩ : ∃ w0, w0 = wr := ⟨_, rfl⟩
      subst hw1
      have e : ((xs.length + ys.length : Nat) : Int) = (xs.length : Int) + (ys.length : Int) := by omega
      rw [e] at CG
      clear e
      go_wp2_with fail
      refine CG.out.mono ?_
      rintro en w2 ⟨ov, rfl, hr2, hg2⟩
      have HR2 := Lib.hid hr2
      have HB2 : Hid (Below w1.heap.size w1 w2) := below_none hg2
      obtain ⟨va, vc, rfl, _⟩ := row_shape hr2
      clear hr2 hg2 c0 c1
      go_wp2_with fail
      go_loopw [6, 27] (fun o i wr => ∃ (j : Nat) (ls : List ByteArray), j ≤ 2 ∧ i = .int .i64 j ∧ Hid (ls = catL xs ys j) ∧ Hid (wr.ownsRow w1.heap.size 9 1 o ls.length (strV ls)) ∧ Hid (Below w1.heap.size w1 wr))
        (fun _ i _ => 2 - (intOf i).toNat)
      case atStart => exact ⟨0, [], Nat.zero_le _, rfl, rfl, HR2, HB2⟩
      case round =>
        obtain ⟨j, ls, hj, rfl, hls, hrow, hbe⟩ := hrel
        obtain ⟨oa, oc, rfl, _⟩ := row_shape hrow.out
        obtain ⟨d0, d1⟩ := HC.out _ hbe.out
        have hws : w1.heap.size ≤ wr.heap.size := hbe.out.size
        rcases (by omega : j = 0 ∨ j = 1 ∨ j = 2) with rfl | rfl | rfl
        · obtain rfl : ls = [] := hls.out
          go_wp2_with (at_builtin; refine wpList_append_src rfl (.tmp 31) (.tmp 32) 24 rfl w1.heap.size 9 i0 (.string ⟨#[]⟩) 16 Tryz.underlying24 hi hz0 hz1 hz2 rfl (.slice oa 0 oc) 0 _ rfl hrow.out a xs.length ac (strV xs) rfl (HSA.out _ hbe.out) (one_strV _) (by unfold maxLen; omega) (by omega) hws ?_)
          intro o3 w3 hr3 hm3
          have HR3 : Hid (w3.ownsRow w1.heap.size 9 1 o3 xs.length (strV xs)) := by
            show World.ownsRow _ _ _ _ _ _ _
            simpa [strV] using hr3
          have HB3 := Lib.hid (hm3.below hbe.out hrow.out)
          clear hr3 hm3
          go_wp2_with fail
          go_roundw
          case rel => exact ⟨1, xs, by omega, by go_num, rfl, HR3, HB3⟩
          case measure => simp [intOf]
        · obtain rfl : ls = xs := hls.out
          go_wp2_with (at_builtin; refine wpList_append_src rfl (.tmp 31) (.tmp 32) 24 rfl w1.heap.size 9 i0 (.string ⟨#[]⟩) 16 Tryz.underlying24 hi hz0 hz1 hz2 rfl (.slice oa ls.length oc) ls.length _ rfl hrow.out b ys.length bc (strV ys) rfl (HSB.out _ hbe.out) (one_strV _) (by unfold maxLen; omega) (by omega) hws ?_)
          intro o3 w3 hr3 hm3
          have HR3 : Hid (w3.ownsRow w1.heap.size 9 1 o3 (ls ++ ys).length (strV (ls ++ ys))) := by
            show World.ownsRow _ _ _ _ _ _ _
            rw [List.length_append, strV_append]
            exact hr3
          have HB3 := Lib.hid (hm3.below hbe.out hrow.out)
          clear hr3 hm3
          go_wp2_with fail
          go_roundw
          case rel => exact ⟨2, ls ++ ys, by omega, by go_num, rfl, HR3, HB3⟩
          case measure => simp [intOf]
        · obtain rfl : ls = xs ++ ys := hls.out
          obtain ⟨l, hl⟩ : ∃ l, l = xs ++ ys := ⟨_, rfl⟩
          rw [← hl] at hrow
          rw [← hl]
          have HL := Lib.hid hl
          have HR3 := hrow
          clear hl hls
          go_wp2_with fail
          go_ret
          exact ⟨_, rfl, by rw [← HL.out]; exact HR3.out, hbe.out⟩
end Go.Proofs.YtkfeiekgdfklmaaGreatDoor.Trm
/- The program's UnusedIn, walked. Conditions: the program is of the call's own, of at most 2 to the 20. -/
namespace Go.Proofs.YtkfeiekgdfklmaaGreatDoor.Trm
open Go.RowKit Own
theorem dataN_take {us : List Use} {j : Nat} (h : j < us.length) : dataN (us.take (j + 1)) = dataN (us.take j) ++ (if us[j].1 = 2 then [] else [us[j].2]) := by
  rw [List.take_add_one, List.getElem?_eq_getElem h, Option.toList, dataN_append]
  congr 1
  unfold dataN
  by_cases h2 : us[j].1 = 2 <;> simp [h2]
theorem dataN_le (us : List Use) : (dataN us).length ≤ us.length := by
  unfold dataN
  rw [List.length_map]
  exact List.length_filter_le ..
noncomputable def unuL (used ns : List ByteArray) : List ByteArray := ns.filter (fun s => @decide (¬ s ∈ used) (Classical.propDecidable _))
theorem unuL_take {used ns : List ByteArray} {j : Nat} (h : j < ns.length) : unuL used (ns.take (j + 1)) = unuL used (ns.take j) ++ (if hasB used ns[j] = true then [] else [ns[j]]) := by
  rw [List.take_add_one, List.getElem?_eq_getElem h, Option.toList]
  unfold unuL
  rw [List.filter_append]
  congr 1
  by_cases h2 : ns[j] ∈ used
  · rw [if_pos ((hasB_iff _ _).2 h2)]; simp [h2]
  · rw [if_neg (fun h => h2 ((hasB_iff _ _).1 h))]; simp [h2]
theorem unuL_le (used ns : List ByteArray) : (unuL used ns).length ≤ ns.length := List.length_filter_le ..
theorem src_names {w : World} {ns : List ByteArray} {a : Option Addr} {c : Nat} (h : NamesAt w ns (.slice a ns.length c)) (hr : Room a ns.length c) : Src w a ns.length c (strV ns) := src_strs h.1 hr.2
set_option maxRecDepth 20000 in
set_option maxHeartbeats 1600000 in
theorem implUnuIn_any (x : PTree) (v : Value) (w : World) (hz : szP x ≤ 1048576) (hl : POwn w x v) :
    Calls Tryz.prog 11 #[v] w fun e w' => ∃ ov, e = .returned ov ∧ w'.ownsRow w.heap.size 9 1 ov (unuIn x).length (strV (unuIn x)) ∧ Below w.heap.size w w' := by
  have hll := hl.lies
  have CO := Lib.hid (fun wx (hb : Below w.heap.size w wx) => implProgOk_any x v wx hz (hl.below hb))
  have CU := Lib.hid (fun wx (hb : Below w.heap.size w wx) => implUsesProg_any x v wx hz (hll.keep (keeps_below hb)))
  obtain ⟨ga, gc, la, lc, pa, pc, rfl, hg, hlk, _, hrg, hrl⟩ := hl
  have HG := Lib.hid (fun wx (hb : Below w.heap.size w wx) => (src_names hg hrg).keep (keeps_below hb))
  have HLK := Lib.hid (fun wx (hb : Below w.heap.size w wx) => (src_names hlk hrl).keep (keeps_below hb))
  have X0 := Lib.hid (Box3.new w (.slice ga x.globals.length gc) (.slice la x.locks.length lc) (.slice pa x.procs.length pc) 27)
  have B0 := Lib.hid ((Below.refl w.heap.size w).alloc (Nat.le_refl _) (.cells #[.slice ga x.globals.length gc, .slice la x.locks.length lc, .slice pa x.procs.length pc] 27))
  have HE := Lib.hid (unuIn_us x)
  have HUL : Hid ((usPs x.procs).length ≤ 8000000) := by show _ ≤ _; have := usPs_le x.procs; unfold szP at hz; omega
  have HNL : Hid (x.globals.length ≤ 1048576 ∧ x.locks.length ≤ 1048576) := by constructor <;> unfold szP at hz <;> omega
  generalize unuIn x = ui at HE ⊢
  clear hg hlk hrg hrl hll hz
  cases hok : okP x with
  | false =>
    rw [hok] at CO
    have HR : Hid (ui = []) := by show _ = _; rw [HE.out, hok]; rfl
    clear hok
    obtain ⟨p0, p1, p2⟩ := X0.out
    go_enter Tryz.func11, Tryz.ntmps11
    go_wp2_with fail
    refine (CO.out _ B0.out).mono ?_
    rintro e w1 ⟨rfl, hb1⟩
    have B1 := Lib.hid (B0.out.trans (hb1.mono B0.out.size))
    clear hb1
    go_wp2
    go_ret
    exact ⟨_, rfl, by rw [HR.out]; exact ⟨rfl, .inl ⟨rfl, rfl⟩⟩, B1.out⟩
  | true =>
    rw [hok] at CO
    have HR : Hid (ui = unuL (dataN (usPs x.procs)) (x.globals ++ x.locks)) := by show _ = _; rw [HE.out, hok]; rfl
    clear hok HE
    obtain ⟨p0, p1, p2⟩ := X0.out
    obtain ⟨i0, hi, hz0, hz1, hz2⟩ := info_parts infoStrR
    go_enter Tryz.func11, Tryz.ntmps11
    go_wp2_with fail
    refine (CO.out _ B0.out).mono ?_
    rintro e w1 ⟨rfl, hb1⟩
    have B1 := Lib.hid (B0.out.trans (hb1.mono B0.out.size))
    have X1 := Lib.hid (X0.out.keep (keeps_below hb1))
    clear hb1 p0 p1 p2
    obtain ⟨p0, p1, p2⟩ := X1.out
    go_wp2_with fail
    refine (CU.out _ B1.out).mono ?_
    rintro e w2 ⟨uv, rfl, hru, hb2⟩
    have B2 := Lib.hid (B1.out.trans (hb2.mono B1.out.size))
    have X2 := Lib.hid (X1.out.keep (keeps_below hb2))
    obtain ⟨ua, uc, rfl, hua⟩ := row_shape hru
    have HRU : Hid (UsRow w2 w1.heap.size (.slice ua (usPs x.procs).length uc) (usPs x.procs)) := hru
    have HUA := Lib.hid hua
    have hbs : w.heap.size ≤ w2.heap.size := B2.out.size
    clear hb2 p0 p1 p2 hru hua
    generalize usPs x.procs = us at *
    have husl : us.length ≤ 8000000 := HUL.out
    go_wp2_with fail
    go_loopw [3, 15] (fun o i wr => ∃ (j : Nat) (ac : List ByteArray), j ≤ us.length ∧ i = .int .i64 j ∧ Hid (ac = dataN (us.take j)) ∧ Hid (wr.ownsRow w2.heap.size 9 1 o ac.length (strV ac)) ∧ Hid (Below w2.heap.size w2 wr))
      (fun _ i _ => us.length - (intOf i).toNat)
    case atStart => exact ⟨0, [], Nat.zero_le _, rfl, rfl, ⟨rfl, .inl ⟨rfl, rfl⟩⟩, Below.refl _ _⟩
    case round =>
      obtain ⟨j, ac, hj, rfl, hac, hrow, hbe⟩ := hrel
      obtain ⟨oa, oc, rfl, _⟩ := row_shape hrow.out
      by_cases hlt : j < us.length
      · obtain ⟨g, rfl⟩ := HUA.out (by omega)
        obtain ⟨e0, e1⟩ := HRU.out.cells j hlt
        have c0 := keeps_below hbe.out _ _ e0
        have c1 := keeps_below hbe.out _ _ e1
        have HAC : Hid (dataN (us.take (j + 1)) = ac ++ (if us[j].1 = 2 then [] else [us[j].2])) := by show _ = _; rw [dataN_take hlt, hac.out]
        have hale : ac.length ≤ 8000000 := by
          have h1 := dataN_le (us.take j)
          rw [← hac.out, List.length_take] at h1
          omega
        clear e0 e1
        generalize us[j].1 = k at *
        generalize us[j].2 = nm at *
        have W1B : Hid (Below w2.heap.size w2 (wr.alloc (.cells #[.int .i64 k, .string nm] 75))) := hbe.out.alloc hbe.out.size _
        have HR1 : Hid ((wr.alloc (.cells #[.int .i64 k, .string nm] 75)).ownsRow w2.heap.size 9 1 (.slice oa ac.length oc) ac.length (strV ac)) := hrow.out.alloc _
        have Q1 : Hid (Box2 (wr.alloc (.cells #[.int .i64 k, .string nm] 75)) wr.heap.size (.int .i64 k) (.string nm)) := Box2.new _ _ _ _
        obtain ⟨W1, hW1⟩ : ∃ w1, w1 = wr.alloc (.cells #[.int .i64 k, .string nm] 75) := ⟨_, rfl⟩
        go_upto_region 7 with fail
        clear c0 c1
        rw [← hW1] at W1B HR1 Q1
        rw [← hW1]
        clear hW1
        obtain ⟨S, hS⟩ : ∃ n, n = wr.heap.size := ⟨_, rfl⟩
        rw [← hS] at Q1
        rw [← hS]
        clear hS
        obtain ⟨q0, q1⟩ := Q1.out
        have hws1 : w2.heap.size ≤ W1.heap.size := W1B.out.size
        by_cases h2 : k = 2
        · have k2 : (k != 2) = false := by simp [h2]
          have HA : Hid (ac = dataN (us.take (j + 1))) := by show _ = _; rw [HAC.out, if_pos h2, List.append_nil]
          clear h2
          go_wp2_with fail
          go_roundw
          case rel => exact ⟨j + 1, ac, by omega, by go_num, HA, HR1, W1B⟩
          case measure => simp [intOf]; omega
        · have k2 : (k != 2) = true := by simp [h2]
          have HA : Hid (ac ++ [nm] = dataN (us.take (j + 1))) := by show _ = _; rw [HAC.out, if_neg h2]
          clear h2
          go_wp2_with (at_builtin; refine wpList_append_lies _ rfl (.tmp 22) (.tmp 25) 24 rfl w2.heap.size 9 i0 (.string ⟨#[]⟩) 1 16 Tryz.underlying24 hi hz0 hz1 hz2 rfl (by decide) (.slice oa ac.length oc) ac.length _ rfl (HR1.out.alloc _) ⟨W1.heap.size, 0, none⟩ 1 1 [.string nm] rfl rfl (World.news_of_block (heap_alloc_new _ _)) (one_textR _) (by decide) (by unfold maxLen; omega) (by omega) (by simp; omega) _ rfl ?_)
          intro g9 cap9 w9 hown9 hg9 hat9 hlt9
          have HR9 : Hid (w9.ownsRow w2.heap.size 9 1 (.slice (some ⟨g9, 0, none⟩) (ac.length + 1) cap9) (ac ++ [nm]).length (strV (ac ++ [nm]))) := by
            show World.ownsRow _ _ _ _ _ _ _
            simpa [strV] using hown9
          have HB9 : Hid (Below w2.heap.size w2 w9) := (W1B.out.alloc W1B.out.size _).grown hg9 (by simp; omega) (fun k hk => (HR1.out.lt k hk).1)
          clear hown9 hg9 hat9 hlt9
          go_wp2_with fail
          go_roundw
          case rel => exact ⟨j + 1, ac ++ [nm], by omega, by go_num, HA, HR9, HB9⟩
          case measure => simp [intOf]; omega
      · have HF : ac = dataN us := by rw [hac.out, List.take_of_length_le (by omega)]
        have X3 := Lib.hid (X2.out.keep (keeps_below hbe.out))
        obtain ⟨p0, p1, p2⟩ := X3.out
        have HSG := HG.out
        obtain ⟨oa2, oc2, hoe, _⟩ := row_shape hrow.out
        have HRC := hrow
        have HWB := Lib.hid (B2.out.trans (hbe.out.mono hbs))
        have hnl := HNL.out
        obtain ⟨used, hused⟩ : ∃ l, l = dataN us := ⟨_, rfl⟩
        rw [← hused] at HR HF
        subst HF
        have HW3 : Hid (Below w.heap.size w (wr.alloc (.cells #[.slice ga x.globals.length gc, .slice la x.locks.length lc] 24))) := HWB.out.alloc HWB.out.size _
        have CC := Lib.hid (implConcat_any x.globals x.locks ga la gc lc wr.heap.size (wr.alloc (.cells #[.slice ga x.globals.length gc, .slice la x.locks.length lc] 24)) hnl.1 hnl.2 (by simp [go_sem]) (by simp [go_sem]) (HG.out _ HW3.out) (HLK.out _ HW3.out))
        have HRC1 : Hid ((wr.alloc (.cells #[.slice ga x.globals.length gc, .slice la x.locks.length lc] 24)).ownsRow w2.heap.size 9 1 (.slice oa ac.length oc) ac.length (strV ac)) := hrow.out.alloc _
        have hws3 : w.heap.size ≤ (wr.alloc (.cells #[.slice ga x.globals.length gc, .slice la x.locks.length lc] 24)).heap.size := HW3.out.size
        clear hused hoe
        go_wp2_with fail
        refine CC.out.mono ?_
        rintro e w4 ⟨cv, rfl, hr4, hb4⟩
        have HB4 := Lib.hid (HW3.out.trans (hb4.mono hws3))
        have HU4 := Lib.hid (row_below HRC1.out hb4)
        obtain ⟨ca, cc, rfl, hca⟩ := row_shape hr4
        have HR4 := Lib.hid hr4
        have HCA := Lib.hid hca
        have hall : (x.globals ++ x.locks).length ≤ 4000000 := by rw [List.length_append]; omega
        clear p0 p1 p2 hr4 hb4 hca
        generalize x.globals ++ x.locks = all at *
        have hws4 : w.heap.size ≤ w4.heap.size := HB4.out.size
        obtain ⟨w5, hw5⟩ : ∃ w0, w0 = wr := ⟨_, rfl⟩
        subst hw5
        go_wp2_with fail
        go_loopw [6, 35] (fun o i wr => ∃ (j : Nat) (rs : List ByteArray), j ≤ all.length ∧ i = .int .i64 j ∧ Hid (rs = unuL ac (all.take j)) ∧ Hid (wr.ownsRow w4.heap.size 9 1 o rs.length (strV rs)) ∧ Hid (Below w4.heap.size w4 wr))
          (fun _ i _ => all.length - (intOf i).toNat)
        case atStart => exact ⟨0, [], Nat.zero_le _, rfl, rfl, ⟨rfl, .inl ⟨rfl, rfl⟩⟩, Below.refl _ _⟩
        case round =>
          obtain ⟨j, rs, hj, rfl, hrs, hrow2, hbe2⟩ := hrel
          obtain ⟨na, nc, rfl, _⟩ := row_shape hrow2.out
          by_cases hlt : j < all.length
          · obtain ⟨g, rfl⟩ := HCA.out (by omega)
            have c0 := keeps_below hbe2.out _ _ (row_cell HR4.out j hlt)
            have HRS : Hid (unuL ac (all.take (j + 1)) = rs ++ (if hasB ac all[j] = true then [] else [all[j]])) := by show _ = _; rw [unuL_take hlt, hrs.out]
            have hrl : rs.length ≤ 8000000 := by
              have h1 := unuL_le ac (all.take j)
              rw [← hrs.out, List.length_take] at h1
              omega
            have hws5 : w4.heap.size ≤ wr.heap.size := hbe2.out.size
            have HST := Lib.hid (strsAt_row rfl (row_below HU4.out hbe2.out))
            generalize all[j] = z at *
            by_cases hm : z ∈ ac
            · have HA : Hid (rs = unuL ac (all.take (j + 1))) := by show _ = _; rw [HRS.out, if_pos ((hasB_iff _ _).2 hm), List.append_nil]
              have C3 := Lib.hid (implHas_yes ac z _ wr HST.out hm)
              clear hm
              go_wp2_with fail
              refine C3.out.mono ?_
              rintro e w8 ⟨rfl, hw8⟩
              obtain rfl := hw8.out
              clear hw8
              go_wp2_with fail
              go_roundw
              case rel => exact ⟨j + 1, rs, by omega, by go_num, HA, hrow2, hbe2⟩
              case measure => simp [intOf]; omega
            · have HA : Hid (rs ++ [z] = unuL ac (all.take (j + 1))) := by show _ = _; rw [HRS.out, if_neg (fun h => hm ((hasB_iff _ _).1 h))]
              have C3 := Lib.hid (implHas_no ac z _ wr HST.out hm)
              clear hm
              go_wp2_with fail
              refine C3.out.mono ?_
              rintro e w8 ⟨rfl, hw8⟩
              obtain rfl := hw8.out
              clear hw8
              go_wp2_with (at_builtin; refine wpList_append_lies _ rfl (.tmp 43) (.tmp 45) 24 rfl w4.heap.size 9 i0 (.string ⟨#[]⟩) 1 16 Tryz.underlying24 hi hz0 hz1 hz2 rfl (by decide) (.slice na rs.length nc) rs.length _ rfl (hrow2.out.alloc _) ⟨w8.heap.size, 0, none⟩ 1 1 [.string z] rfl rfl (World.news_of_block (heap_alloc_new _ _)) (one_textR _) (by decide) (by unfold maxLen; omega) (by omega) (by simp; omega) _ rfl ?_)
              intro g9 cap9 w9 hown9 hg9 hat9 hlt9
              have HR9 : Hid (w9.ownsRow w4.heap.size 9 1 (.slice (some ⟨g9, 0, none⟩) (rs.length + 1) cap9) (rs ++ [z]).length (strV (rs ++ [z]))) := by
                show World.ownsRow _ _ _ _ _ _ _
                simpa [strV] using hown9
              have HB9 : Hid (Below w4.heap.size w4 w9) := (hbe2.out.alloc hbe2.out.size _).grown hg9 (by simp; omega) (fun k hk => (hrow2.out.lt k hk).1)
              clear hown9 hg9 hat9 hlt9
              go_wp2_with fail
              go_roundw
              case rel => exact ⟨j + 1, rs ++ [z], by omega, by go_num, HA, HR9, HB9⟩
              case measure => simp [intOf]; omega
          · have HF : ui = rs := by rw [HR.out, hrs.out, List.take_of_length_le (by omega)]
            have HB := Lib.hid (HB4.out.trans (hbe2.out.mono hws4))
            have HRW := Lib.hid (row_wideB hrow2.out hws4)
            go_wp2_with fail
            go_ret
            exact ⟨_, rfl, by rw [HF]; exact HRW.out, HB.out⟩
end Go.Proofs.YtkfeiekgdfklmaaGreatDoor.Trm
