/- The program's UnusedIn, walked. Conditions: the program is of the call's own, of at most 2 to the 20. With what it stands on, in one text. -/
import Derived.Test.YtibkmcfinkadhaaGreatDoorSoPackE
import Derived.Test.YtibkmcfinkadhaaGreatDoorSoPackG
import Derived.Test.YtibkmcfinkadhaaGreatDoorPOkSpec
import Derived.Test.YtibkmcfinkadhaaGreatDoorPOwn
import Derived.Deep.RegionHeld3
import Derived.Test.YtibkmcfinkadhaaGreatDoorSoPackC
import Derived.Lib.AppendZeros
/- The program's rightness of a statement within others, of any. Conditions: as WithinAll. -/
namespace Go.Proofs.YtibkmcfinkadhaaGreatDoor.Trm
open Go.RowKit Own Lexs
theorem within_of (x : STree) (ihb : LOk x.body) (ihe : LOk x.els) : WOk x := fun v w r hr hz hx => by
  by_cases h : 1 ≤ x.kind ∧ x.kind ≤ 8
  · rcases (by omega : x.kind = 1 ∨ x.kind = 2 ∨ x.kind = 3 ∨ (x.kind = 4 ∨ x.kind = 5 ∨ x.kind = 6 ∨ x.kind = 7) ∨ x.kind = 8) with h | h | h | h | h
    · exact within_set x v w r hr hz hx h
    · exact within_if x ihb ihe v w r hr hz hx h
    · exact within_while x ihb v w r hr hz hx h
    · exact within_word x v w r hr hz hx h
    · exact within_skip x v w r hr hz hx h
  · exact within_none x v w r hr hz hx h
theorem within_any : ∀ x : STree, WOk x := streeInd fun _ _ _ b e ihb ihe => within_of _ (right_slist b ihb) (right_slist e ihe)
end Go.Proofs.YtibkmcfinkadhaaGreatDoor.Trm
/- Whether a procedure's body is right, of the program, walked. Conditions: the body lies in rows that are not frozen; it has at most 2 to the 20 statements, kids and bytes within it. -/
namespace Go.Proofs.YtibkmcfinkadhaaGreatDoor.Trm
open Go.RowKit Own Lexs
theorem implBody_any (xs : List STree) (v : Value) (w : World) (hz : xs.length + szXS xs ≤ 1048576) (h : SBL w xs v) :
    Calls Tryz.prog 55 #[v] w fun e w' => e = .returned (.bool (okXS xs)) ∧ Below w.heap.size w w' := by
  have hcnt : cntXS xs ≤ 1100000 := by have := cntXS_le xs; omega
  have C1 := Lib.hid (Cn.implCount_any xs v w hcnt h.f)
  have C2 := Lib.hid (fun w2 hb => right_slist xs (fun x _ => within_any x) v w2 6 (Nat.le_refl _) hz (h.below (w' := w2) hb))
  have HE : Hid (okXS xs = (decide (cntXS xs ≤ 60) && rightXS xs 6)) := rfl
  obtain ⟨_, a, c, rfl, _⟩ := h.l
  clear h hz
  generalize okXS xs = rr at HE
  by_cases hc : cntXS xs ≤ 60
  · have HR : Hid (rr = rightXS xs 6) := by show _ = _; rw [HE.out]; simp [hc]
    have hq : ¬ (60 : Int) < (cntXS xs : Int) := by omega
    clear HE
    generalize cntXS xs = n at C1 hq
    clear hc hcnt
    go_enter Tryz.func55, Tryz.ntmps55
    go_wp2_with fail
    refine C1.out.mono ?_
    rintro e w1 ⟨rfl, hb1⟩
    have B1 := Lib.hid hb1
    clear hb1
    go_wp2_with fail
    refine (C2.out _ B1.out).mono ?_
    rintro e w2 ⟨hb2, hp⟩
    have B2 := Lib.hid (B1.out.trans (hb2.mono B1.out.size))
    clear hb2
    rcases hp with ⟨hr, u, rfl, _⟩ | ⟨hr, rfl⟩
    · have HF : Hid (rr = true) := by show _ = _; rw [HR.out, hr]
      clear hr
      go_wp2
      go_ret
      exact ⟨ret_b (by rw [HF.out]), B2.out⟩
    · have HF : Hid (rr = false) := by show _ = _; rw [HR.out, hr]
      clear hr
      go_wp2
      go_ret
      exact ⟨ret_b (by rw [HF.out]), B2.out⟩
  · have HF : Hid (rr = false) := by show _ = _; rw [HE.out]; simp [hc]
    have hq : (60 : Int) < (cntXS xs : Int) := by omega
    clear HE
    generalize cntXS xs = n at C1 hq
    clear hc hcnt
    go_enter Tryz.func55, Tryz.ntmps55
    go_wp2_with fail
    refine C1.out.mono ?_
    rintro e w1 ⟨rfl, hb1⟩
    have B1 := Lib.hid hb1
    clear hb1
    go_wp2
    go_ret
    exact ⟨ret_b (by rw [HF.out]), B1.out⟩
end Go.Proofs.YtibkmcfinkadhaaGreatDoor.Trm
/- The program's ProgOk, walked. Conditions: the program is of the call's own, of at most 2 to the 20. -/
namespace Go.Proofs.YtibkmcfinkadhaaGreatDoor.Trm
open Go.RowKit Own Lexs
set_option maxHeartbeats 1600000 in
theorem implProgOk_any (x : PTree) (v : Value) (w : World) (hz : szP x ≤ 1048576) (hl : POwn w x v) :
    Calls Tryz.prog 26 #[v] w fun e w' => e = .returned (.bool (okP x)) ∧ Below w.heap.size w w' := by
  obtain ⟨ga, gc, la, lc, pa, pc, rfl, h1, h2, h3, _⟩ := hl
  obtain ⟨hlen, pa', pc', e, hk⟩ := h3
  cases e
  have hz3 : szPrs x.procs ≤ 1048576 := by unfold szP at hz; omega
  have HE : Hid (okP x = ((decide (x.globals.length ≤ 6) && nmsB x.globals) && ((decide (x.locks.length ≤ 6) && nmsB x.locks) && (decide (x.procs.length ≤ 8) && okPrs x.procs)))) := rfl
  have HZ := Lib.hid hz3
  generalize x.procs = ps at hlen hk HE HZ
  have HK := Lib.hid hk
  have C1 := Lib.hid (fun w hk => implNames_any x.globals (.slice ga x.globals.length gc) w (h1.keep hk))
  have C2 := Lib.hid (fun w hk => implNames_any x.locks (.slice la x.locks.length lc) w (h2.keep hk))
  have X0 := Lib.hid (Box3.new w (.slice ga x.globals.length gc) (.slice la x.locks.length lc) (.slice pa ps.length pc) 27)
  have B0 := Lib.hid ((Below.refl w.heap.size w).alloc (Nat.le_refl _) (.cells #[.slice ga x.globals.length gc, .slice la x.locks.length lc, .slice pa ps.length pc] 27))
  clear hk h1 h2 hz hz3
  generalize okP x = rr at HE
  obtain ⟨p0, p1, p2⟩ := X0.out
  by_cases h6 : x.globals.length ≤ 6
  · by_cases h7 : x.locks.length ≤ 6
    · by_cases h8 : ps.length ≤ 8
      · generalize nmsB x.globals = r1 at HE C1
        generalize nmsB x.locks = r2 at HE C2
        have HR : Hid (rr = (r1 && (r2 && okPrs ps))) := by show _ = _; rw [HE.out]; simp [h6, h7, h8]
        have hq : ¬ (8 : Int) < (ps.length : Int) := by omega
        have hq2 : ¬ 8 < ps.length := by omega
        have hq3 : ¬ (6 : Int) < (x.globals.length : Int) := by omega
        have hq4 : ¬ 6 < x.globals.length := by omega
        have hq5 : ¬ (6 : Int) < (x.locks.length : Int) := by omega
        have hq6 : ¬ 6 < x.locks.length := by omega
        clear HE
        go_enter Tryz.func26, Tryz.ntmps26
        go_wp2
        clear p0 p1 p2
        go_loopw [24] (fun i wr => ∃ (j : Nat), j ≤ ps.length ∧ i = .int .i64 j ∧ Hid (rr = (r1 && (r2 && okPrs (ps.drop j)))) ∧ Hid (Box3 wr w.heap.size (.slice ga x.globals.length gc) (.slice la x.locks.length lc) (.slice pa ps.length pc)) ∧ Hid (Below w.heap.size w wr))
          (fun i _ => ps.length - (intOf i).toNat)
        case atStart => exact ⟨0, Nat.zero_le _, rfl, HR.out, X0.out, B0.out⟩
        case round =>
          obtain ⟨j, hj, rfl, hsz, hbx, hbe⟩ := hrel
          obtain ⟨p0, p1, p2⟩ := hbx.out
          by_cases hlt : j < ps.length
          · obtain ⟨g, rfl, hl⟩ := HK.out (by omega)
            obtain ⟨ba, bc, h0, c0, c1, ol, of⟩ := (hl j hlt).below hbe.out
            have hd := okPrs_drop hlt
            have hzj : ps[j].body.length + szXS ps[j].body ≤ 1048576 := by have h := szPrs_mem (List.getElem_mem hlt); have := HZ.out; unfold szPr at h; omega
            have CN := Lib.hid (fun w2 => implIsName_any ps[j].name w2 h0)
            have sb : SBL wr ps[j].body (.slice ba ps[j].body.length bc) := ⟨ol, of⟩
            have CB := Lib.hid (fun w2 hb => implBody_any ps[j].body (.slice ba ps[j].body.length bc) w2 hzj (sb.below (w' := w2) hb))
            clear hl ol of sb hzj
            generalize isNm ps[j].name.data.toList = rn at CN hd
            generalize okXS ps[j].body = rb at CB hd
            cases rn with
            | false =>
              have HF : Hid (rr = false) := by show _ = _; rw [hsz.out, hd]; simp
              clear hd
              go_wp2_with fail
              refine (CN.out _).mono ?_
              rintro e w1 ⟨rfl, rfl⟩
              have B1 := Lib.hid (hbe.out.alloc hbe.out.size (.cells #[.string ps[j].name, .slice ba ps[j].body.length bc] 31))
              go_wp2
              go_ret
              exact ⟨ret_b (by rw [HF.out]), B1.out⟩
            | true =>
              cases rb with
              | false =>
                have HF : Hid (rr = false) := by show _ = _; rw [hsz.out, hd]; simp
                clear hd
                go_wp2_with fail
                refine (CN.out _).mono ?_
                rintro e w1 ⟨rfl, rfl⟩
                go_wp2_with fail
                refine (CB.out _ ((Below.refl _ _).alloc (Nat.le_refl _) _)).mono ?_
                rintro e w2 ⟨rfl, hb⟩
                have B2 := Lib.hid (hbe.out.trans ((below_box1 hb).mono hbe.out.size))
                clear hb
                go_wp2
                go_ret
                exact ⟨ret_b (by rw [HF.out]), B2.out⟩
              | true =>
                have HF : Hid (rr = (r1 && (r2 && okPrs (ps.drop (j + 1))))) := by show _ = _; rw [hsz.out, hd]; simp
                clear hd
                go_wp2_with fail
                refine (CN.out _).mono ?_
                rintro e w1 ⟨rfl, rfl⟩
                go_wp2_with fail
                refine (CB.out _ ((Below.refl _ _).alloc (Nat.le_refl _) _)).mono ?_
                rintro e w2 ⟨rfl, hb⟩
                have B2 := Lib.hid (hbe.out.trans ((below_box1 hb).mono hbe.out.size))
                have X2 := Lib.hid (hbx.out.keep (keeps_below (below_box1 hb)))
                clear hb
                go_wp2
                go_roundw
                case rel => exact ⟨j + 1, by omega, by go_num, HF, X2, B2⟩
                case measure => simp [intOf]; omega
          · have HG : Hid (rr = (r1 && r2)) := by show _ = _; rw [hsz.out, okPrs_end (by omega)]; simp
            cases r1 with
            | false =>
              have HF : Hid (rr = false) := HG.out
              go_wp2_with fail
              refine (C1.out _ (keeps_below hbe.out)).mono ?_
              rintro e w1 ⟨rfl, rfl⟩
              go_wp2
              go_ret
              exact ⟨ret_b (by rw [HF.out]), hbe.out⟩
            | true =>
              have HF : Hid (rr = r2) := HG.out
              go_wp2_with fail
              refine (C1.out _ (keeps_below hbe.out)).mono ?_
              rintro e w1 ⟨rfl, rfl⟩
              go_wp2_with fail
              refine (C2.out _ (keeps_below hbe.out)).mono ?_
              rintro e w2 ⟨rfl, rfl⟩
              go_wp2
              go_ret
              exact ⟨ret_b (by rw [HF.out]), hbe.out⟩
      · have HF : Hid (rr = false) := by show _ = _; rw [HE.out]; simp [h8]
        have hq2 : 8 < ps.length := by omega
        have hq4 : ¬ 6 < x.globals.length := by omega
        have hq6 : ¬ 6 < x.locks.length := by omega
        clear HE
        go_enter Tryz.func26, Tryz.ntmps26
        go_wp2
        go_ret
        exact ⟨ret_b (by rw [HF.out]), B0.out⟩
    · have HF : Hid (rr = false) := by show _ = _; rw [HE.out]; simp [h7]
      have hq4 : ¬ 6 < x.globals.length := by omega
      have hq6 : 6 < x.locks.length := by omega
      clear HE
      go_enter Tryz.func26, Tryz.ntmps26
      go_wp2
      go_ret
      exact ⟨ret_b (by rw [HF.out]), B0.out⟩
  · have HF : Hid (rr = false) := by show _ = _; rw [HE.out]; simp [h6]
    have hq4 : 6 < x.globals.length := by omega
    clear HE
    go_enter Tryz.func26, Tryz.ntmps26
    go_wp2
    go_ret
    exact ⟨ret_b (by rw [HF.out]), B0.out⟩
end Go.Proofs.YtibkmcfinkadhaaGreatDoor.Trm
/- The program's UnknownIn, walked. Conditions: the program is of the call's own, of at most 2 to the 20. -/
namespace Go.Proofs.YtibkmcfinkadhaaGreatDoor.Trm
open Go.RowKit Own
theorem UsRow.cells {w : World} {base g n c : Nat} {us : List Use} (h : UsRow w base (.slice (some ⟨g, 0, none⟩) n c) us) (i : Nat) (hi : i < us.length) : w.cell? ⟨g, i * 2, none⟩ = some (.int .i64 us[i].1) ∧ w.cell? ⟨g, i * 2 + 1, none⟩ = some (.string us[i].2) := by
  obtain ⟨e0, e1⟩ := usV_at us hi
  have hl := usV_len us
  have h2 : n = us.length := by
    obtain ⟨a, c2, e⟩ := h.shape
    simp at e
    exact e.2.1
  subst h2
  exact ⟨(World.ownsRow.cellAt h (i * 2) (by omega)).trans e0, (World.ownsRow.cellAt h (i * 2 + 1) (by omega)).trans e1⟩
theorem addUs_take (x : PTree) {us : List Use} {j : Nat} (h : j < us.length) : (us.take (j + 1)).foldl (addUs x) [] = addU (knownU x us[j].1) ((us.take j).foldl (addUs x) []) us[j].2 := by
  rw [List.take_add_one, List.getElem?_eq_getElem h, Option.toList, List.foldl_append]; rfl
theorem addUs_le (x : PTree) : ∀ (us : List Use) (acc : List ByteArray), (us.foldl (addUs x) acc).length ≤ acc.length + us.length
  | [], acc => by simp
  | u :: r, acc => by
    rw [List.foldl_cons, List.length_cons]
    have h1 := addUs_le x r (addUs x acc u)
    have h2 := addU_le (knownU x u.1) acc u.2
    unfold addUs at h1 ⊢
    omega
set_option maxRecDepth 20000 in
set_option maxHeartbeats 1600000 in
theorem implUnkIn_any (x : PTree) (v : Value) (w : World) (hz : szP x ≤ 1048576) (hl : POwn w x v) :
    Calls Tryz.prog 11 #[v] w fun e w' => ∃ ov, e = .returned ov ∧ w'.ownsRow w.heap.size 9 1 ov (unkIn x).length (strV (unkIn x)) ∧ Below w.heap.size w w' := by
  have hll := hl.lies
  have CO := Lib.hid (fun wx (hb : Below w.heap.size w wx) => implProgOk_any x v wx hz (hl.below hb))
  have CU := Lib.hid (fun wx (hb : Below w.heap.size w wx) => implUsesProg_any x v wx hz (hll.keep (keeps_below hb)))
  have CS := Lib.hid (fun k wx (hb : Below w.heap.size w wx) => implSort_any x k v wx (by unfold szP at hz; omega) (hll.keep (keeps_below hb)))
  obtain ⟨ga, gc, la, lc, pa, pc, rfl⟩ := hll.shape
  have X0 := Lib.hid (Box3.new w (.slice ga x.globals.length gc) (.slice la x.locks.length lc) (.slice pa x.procs.length pc) 27)
  have B0 := Lib.hid ((Below.refl w.heap.size w).alloc (Nat.le_refl _) (.cells #[.slice ga x.globals.length gc, .slice la x.locks.length lc, .slice pa x.procs.length pc] 27))
  have HE := Lib.hid (unkIn_us x)
  have HUL : Hid ((usPs x.procs).length ≤ 8000000) := by show _ ≤ _; have := usPs_le x.procs; unfold szP at hz; omega
  generalize unkIn x = ui at HE ⊢
  clear hl hll hz
  cases hok : okP x with
  | false =>
    rw [hok] at CO
    have HR : Hid (ui = []) := by show _ = _; rw [HE.out, hok]; rfl
    clear hok
    obtain ⟨p0, p1, p2⟩ := X0.out
    go_enter Tryz.func11, Tryz.ntmps11
    go_wp2_with fail
    refine (CO.out _ B0.out).mono ?_
    rintro e w1 ⟨rfl, hb1⟩
    have B1 := Lib.hid (B0.out.trans (hb1.mono B0.out.size))
    clear hb1
    go_wp2
    go_ret
    exact ⟨_, rfl, by rw [HR.out]; exact ⟨rfl, .inl ⟨rfl, rfl⟩⟩, B1.out⟩
  | true =>
    rw [hok] at CO
    have HR : Hid (ui = (usPs x.procs).foldl (addUs x) []) := by show _ = _; rw [HE.out, hok]; rfl
    clear hok HE
    obtain ⟨p0, p1, p2⟩ := X0.out
    obtain ⟨i0, hi, hz0, hz1, hz2⟩ := info_parts infoStrR
    go_enter Tryz.func11, Tryz.ntmps11
    go_wp2_with fail
    refine (CO.out _ B0.out).mono ?_
    rintro e w1 ⟨rfl, hb1⟩
    have B1 := Lib.hid (B0.out.trans (hb1.mono B0.out.size))
    have X1 := Lib.hid (X0.out.keep (keeps_below hb1))
    clear hb1 p0 p1 p2
    obtain ⟨p0, p1, p2⟩ := X1.out
    go_wp2_with fail
    refine (CU.out _ B1.out).mono ?_
    rintro e w2 ⟨uv, rfl, hru, hb2⟩
    have B2 := Lib.hid (B1.out.trans (hb2.mono B1.out.size))
    have X2 := Lib.hid (X1.out.keep (keeps_below hb2))
    obtain ⟨ua, uc, rfl, hua⟩ := row_shape hru
    have HRU : Hid (UsRow w2 w1.heap.size (.slice ua (usPs x.procs).length uc) (usPs x.procs)) := hru
    have HUA := Lib.hid hua
    have hbs : w.heap.size ≤ w2.heap.size := B2.out.size
    clear hb2 p0 p1 p2 hru hua
    generalize usPs x.procs = us at *
    have husl : us.length ≤ 8000000 := HUL.out
    go_wp2_with fail
    go_loopw [3, 13] (fun o i wr => ∃ (j : Nat) (ac : List ByteArray), j ≤ us.length ∧ i = .int .i64 j ∧ Hid (ac = (us.take j).foldl (addUs x) []) ∧ Hid (wr.ownsRow w2.heap.size 9 1 o ac.length (strV ac)) ∧ Hid (Below w2.heap.size w2 wr))
      (fun _ i _ => us.length - (intOf i).toNat)
    case atStart => exact ⟨0, [], Nat.zero_le _, rfl, rfl, ⟨rfl, .inl ⟨rfl, rfl⟩⟩, Below.refl _ _⟩
    case round =>
      obtain ⟨j, ac, hj, rfl, hac, hrow, hbe⟩ := hrel
      obtain ⟨oa, oc, rfl, _⟩ := row_shape hrow.out
      by_cases hlt : j < us.length
      · obtain ⟨g, rfl⟩ := HUA.out (by omega)
        obtain ⟨e0, e1⟩ := HRU.out.cells j hlt
        have c0 := keeps_below hbe.out _ _ e0
        have c1 := keeps_below hbe.out _ _ e1
        have HAC : Hid ((us.take (j + 1)).foldl (addUs x) [] = addU (knownU x us[j].1) ac us[j].2) := by show _ = _; rw [addUs_take x hlt, hac.out]
        have hale : ac.length ≤ 8000000 := by
          have h1 := addUs_le x (us.take j) []
          rw [← hac.out, List.length_take, List.length_nil] at h1
          have := HUL.out
          omega
        clear e0 e1
        generalize us[j].1 = k at *
        generalize us[j].2 = nm at *
        have W1B : Hid (Below w2.heap.size w2 (wr.alloc (.cells #[.int .i64 k, .string nm] 62))) := hbe.out.alloc hbe.out.size _
        have HR1 : Hid ((wr.alloc (.cells #[.int .i64 k, .string nm] 62)).ownsRow w2.heap.size 9 1 (.slice oa ac.length oc) ac.length (strV ac)) := hrow.out.alloc _
        have Q1 : Hid (Box2 (wr.alloc (.cells #[.int .i64 k, .string nm] 62)) wr.heap.size (.int .i64 k) (.string nm)) := Box2.new _ _ _ _
        have HSN : Hid ((Value.slice oa ac.length oc).ownBlock ≠ some wr.heap.size) := row_not hrow.out
        obtain ⟨W1, hW1⟩ : ∃ w1, w1 = wr.alloc (.cells #[.int .i64 k, .string nm] 62) := ⟨_, rfl⟩
        go_upto_region 7 with fail
        clear c0 c1
        rw [← hW1] at W1B HR1 Q1
        rw [← hW1]
        clear hW1
        obtain ⟨S, hS⟩ : ∃ n, n = wr.heap.size := ⟨_, rfl⟩
        rw [← hS] at Q1 HSN
        rw [← hS]
        clear hS
        have hws1 : w2.heap.size ≤ W1.heap.size := W1B.out.size
        have X3 := Lib.hid (X2.out.keep (keeps_below W1B.out))
        have KS : Hid (∀ wx, Below W1.heap.size W1 wx → wx.cell? ⟨w.heap.size, 0, none⟩ = some (.slice ga x.globals.length gc) ∧ wx.cell? ⟨w.heap.size, 1, none⟩ = some (.slice la x.locks.length lc) ∧ wx.cell? ⟨w.heap.size, 2, none⟩ = some (.slice pa x.procs.length pc) ∧ wx.cell? ⟨S, 0, none⟩ = some (.int .i64 k) ∧ wx.cell? ⟨S, 1, none⟩ = some (.string nm) ∧ Below W1.heap.size W1 wx) := fun wx hb => by
          have h1 := X3.out.keep (keeps_below hb)
          have h2 := Q1.out.keep (keeps_below hb)
          exact ⟨h1.1, h1.2.1, h1.2.2, h2.1, h2.2, hb⟩
        have CN : Hid (∀ wx, Below W1.heap.size W1 wx → Calls Tryz.prog 30 #[.agg #[.slice ga x.globals.length gc, .slice la x.locks.length lc, .slice pa x.procs.length pc], .int .i64 k] wx fun e w' => ∃ kv, e = .returned kv ∧ StrsAt w' (knownU x k) kv ∧ Below W1.heap.size W1 w') := fun wx hb =>
          (CS.out k wx (B2.out.trans ((W1B.out.trans (hb.mono hws1)).mono hbs))).mono fun e w' ⟨kv, he, h1, h2⟩ => ⟨kv, he, h1, hb.trans (h2.mono hb.size)⟩
        obtain ⟨B, hB⟩ : ∃ b, b = hasB (knownU x k) nm := ⟨_, rfl⟩
        have CH : Hid (∀ kv wx, StrsAt wx (knownU x k) kv → Below W1.heap.size W1 wx → Calls Tryz.prog 29 #[kv, .string nm] wx fun e w' => e = .returned (.bool B) ∧ Below W1.heap.size W1 w') := fun kv wx h1 h2 => by
          by_cases hm : nm ∈ knownU x k
          · rw [hB, (hasB_iff _ _).2 hm]
            exact (implHas_yes _ nm kv wx h1 hm).mono fun e w' ⟨he, hw⟩ => ⟨he, by rw [hw.out]; exact h2⟩
          · have : hasB (knownU x k) nm = false := by rw [Bool.eq_false_iff]; intro h; exact hm ((hasB_iff _ _).1 h)
            rw [hB, this]
            exact (implHas_no _ nm kv wx h1 hm).mono fun e w' ⟨he, hw⟩ => ⟨he, by rw [hw.out]; exact h2⟩
        have HB := Lib.hid hB
        clear hB
        have b0 : Below W1.heap.size W1 W1.drew := (Below.refl _ _).drew
        have hb00 : Below W1.heap.size W1 W1 := Below.refl _ _
        obtain ⟨p0, p1, p2, q0, q1, _⟩ := KS.out _ hb00
        go_cut [6] (fun s6 wx => s6 = .bool B ∧ Hid (Below W1.heap.size W1 wx))
        case first =>
          go_wp2_with fail
          go_region_held3 (fun wx => wx.cell? ⟨w.heap.size, 0, none⟩ = some (.slice ga x.globals.length gc) ∧ wx.cell? ⟨w.heap.size, 1, none⟩ = some (.slice la x.locks.length lc) ∧ wx.cell? ⟨w.heap.size, 2, none⟩ = some (.slice pa x.procs.length pc) ∧ wx.cell? ⟨S, 0, none⟩ = some (.int .i64 k) ∧ wx.cell? ⟨S, 1, none⟩ = some (.string nm) ∧ Below W1.heap.size W1 wx)
            (exact KS.out _ (by assumption))
            (first
            | (go_at_call 30; (with_reducible refine (CN.out _ (by assumption)).mono ?_); rintro e w5 ⟨kv, rfl, hk5, b5⟩)
            | (go_at_call 29; (with_reducible refine (CH.out _ _ (by assumption) (by assumption)).mono ?_); rintro e w6 ⟨rfl, b6⟩))
          all_goals
            have HB6 : Hid (Below W1.heap.size W1 _) := (by assumption)
            go_wp2_with fail
            go_meet
            exact ⟨rfl, HB6⟩
        case rest =>
          obtain ⟨rfl, hbc⟩ := hcut
          obtain ⟨w7, hw7⟩ : ∃ w0, w0 = wc := ⟨_, rfl⟩
          subst hw7
          have r0 := keeps_below hbc.out _ _ Q1.out.1
          have r1 := keeps_below hbc.out _ _ Q1.out.2
          have HR7 := Lib.hid (row_below HR1.out hbc.out)
          have HB7 := Lib.hid (W1B.out.trans (hbc.out.mono hws1))
          have hws7 : w2.heap.size ≤ w7.heap.size := HB7.out.size
          clear p0 p1 p2 q0 q1 b0 hb00 KS CN CH
          cases B with
          | true =>
            have HA : Hid (ac = (us.take (j + 1)).foldl (addUs x) []) := by show _ = _; rw [HAC.out, addU_yes (.inl ((hasB_iff _ _).1 HB.out.symm))]
            go_wp2_with fail
            go_roundw
            case rel => exact ⟨j + 1, ac, by omega, by go_num, HA, HR7, HB7⟩
            case measure => simp [intOf]; omega
          | false =>
            have hnk : ¬ nm ∈ knownU x k := fun h => by have := HB.out; rw [(hasB_iff _ _).2 h] at this; cases this
            by_cases hm : nm ∈ ac
            · have HA : Hid (ac = (us.take (j + 1)).foldl (addUs x) []) := by show _ = _; rw [HAC.out, addU_yes (.inr hm)]
              have C3 := Lib.hid (implHas_yes ac nm (.slice oa ac.length oc) w7 (strsAt_row rfl HR7.out) hm)
              clear hm hnk
              go_wp2_with fail
              refine C3.out.mono ?_
              rintro e w8 ⟨rfl, hw8⟩
              obtain rfl := hw8.out
              clear hw8
              go_wp2_with fail
              go_roundw
              case rel => exact ⟨j + 1, ac, by omega, by go_num, HA, HR7, HB7⟩
              case measure => simp [intOf]; omega
            · have HA : Hid (ac ++ [nm] = (us.take (j + 1)).foldl (addUs x) []) := by show _ = _; rw [HAC.out, addU_no (fun h => h.elim hnk hm)]
              have C3 := Lib.hid (implHas_no ac nm (.slice oa ac.length oc) w7 (strsAt_row rfl HR7.out) hm)
              clear hm hnk
              go_wp2_with fail
              refine C3.out.mono ?_
              rintro e w8 ⟨rfl, hw8⟩
              obtain rfl := hw8.out
              clear hw8
              go_wp2_with (at_builtin; refine wpList_append_lies _ rfl (.tmp 33) (.tmp 36) 24 rfl w2.heap.size 9 i0 (.string ⟨#[]⟩) 1 16 Tryz.underlying24 hi hz0 hz1 hz2 rfl (by decide) (.slice oa ac.length oc) ac.length _ rfl (HR7.out.alloc _) ⟨w8.heap.size, 0, none⟩ 1 1 [.string nm] rfl rfl (World.news_of_block (heap_alloc_new _ _)) (one_textR _) (by decide) (by unfold maxLen; omega) (by omega) (by simp; omega) _ rfl ?_)
              intro g9 cap9 w9 hown9 hg9 hat9 hlt9
              have HR9 : Hid (w9.ownsRow w2.heap.size 9 1 (.slice (some ⟨g9, 0, none⟩) (ac.length + 1) cap9) (ac ++ [nm]).length (strV (ac ++ [nm]))) := by
                show World.ownsRow _ _ _ _ _ _ _
                simpa [strV] using hown9
              have HB9 : Hid (Below w2.heap.size w2 w9) := (HB7.out.alloc HB7.out.size _).grown hg9 (by simp; omega) (fun k hk => (HR7.out.lt k hk).1)
              clear hown9 hg9 hat9 hlt9
              go_wp2_with fail
              go_roundw
              case rel => exact ⟨j + 1, ac ++ [nm], by omega, by go_num, HA, HR9, HB9⟩
              case measure => simp [intOf]; omega
      · have HF : ui = ac := by rw [HR.out, hac.out, List.take_of_length_le (by omega)]
        have HB := Lib.hid (B2.out.trans (hbe.out.mono hbs))
        have HRW := Lib.hid (row_wideB hrow.out hbs)
        go_wp2_with fail
        go_ret
        exact ⟨_, rfl, by rw [HF]; exact HRW.out, HB.out⟩
end Go.Proofs.YtibkmcfinkadhaaGreatDoor.Trm
/- The program's PlaceOf, walked. Conditions: the row lies in memory. -/
namespace Go.Proofs.YtibkmcfinkadhaaGreatDoor.Trm
open Go.RowKit Own
theorem implPlace_any (ns : List ByteArray) (s : ByteArray) (nv : Value) (w : World) (hn : StrsAt w ns nv) :
    Calls Tryz.prog 68 #[nv, .string s] w fun e w' => ∃ x, e = .returned (.int .i64 x) ∧ IdxI ns s x ∧ w = w' := by
  have C := Lib.hid (implIndex_any ns s nv w hn)
  obtain ⟨na, nc, rfl, hn1, hn2⟩ := hn
  clear hn2
  go_enter Tryz.func68, Tryz.ntmps68
  go_wp2_with fail
  refine C.out.mono ?_
  rintro e w1 ⟨x, rfl, hx, rfl⟩
  have HX := Lib.hid hx
  clear hx
  go_wp2
  go_ret
  exact ⟨_, rfl, HX.out, rfl⟩
end Go.Proofs.YtibkmcfinkadhaaGreatDoor.Trm
/- The program's ProgFault, walked. Conditions: the program is of the call's own, of at most 2 to the 20; the four errors lie in memory. -/
namespace Go.Proofs.YtibkmcfinkadhaaGreatDoor.Trm
open Go.RowKit Own Er
theorem implTwice_any (ns : List ByteArray) (nv : Value) (w : World) (h : StrsAt w ns nv) :
    Calls Tryz.prog 46 #[nv] w fun e w' => e = .returned (.bool (twiceB ns)) ∧ w = w' := by
  have CP := Lib.hid (fun s => implPlace_any ns s nv w h)
  obtain ⟨a, c, rfl, h1, h2⟩ := id h
  have HN := Lib.hid h2
  have HTY : Hid (∀ i (hi : i < ns.length), ns[i] ∈ ns.take i → twiceB ns = true) := fun i hi h => twiceB_yes h
  have HTN : Hid ((∀ i (hi : i < ns.length), ¬ ns[i] ∈ ns.take i) → twiceB ns = false) := twiceB_no
  generalize twiceB ns = tb at HTY HTN ⊢
  clear h2 h
  go_enter Tryz.func46, Tryz.ntmps46
  go_wp2
  go_loopw [7] (fun i wr => ∃ j : Nat, j ≤ ns.length ∧ i = .int .i64 j ∧ Hid (∀ k (hk : k < ns.length), k < j → ¬ ns[k] ∈ ns.take k) ∧ w = wr)
    (fun i _ => ns.length - (intOf i).toNat)
  case atStart => exact ⟨0, Nat.zero_le _, rfl, fun _ _ h => by omega, rfl⟩
  case round =>
    obtain ⟨j, hj, rfl, hno, rfl⟩ := hrel
    by_cases hlt : j < ns.length
    · obtain ⟨g, o, rfl, h3⟩ := HN.out (by omega)
      have c0 := h3 j hlt
      have CPJ := Lib.hid (CP.out ns[j])
      clear h3
      by_cases he : ns[j] ∈ ns.take j
      · have HT : Hid (tb = true) := HTY.out j hlt he
        have HX : Hid (∀ x, IdxI ns ns[j] x → x < (j : Int)) := fun x hx => by
          obtain ⟨k, hk, ek⟩ := List.getElem_of_mem he
          rw [List.getElem_take] at ek
          rw [List.length_take] at hk
          rcases hx with ⟨i, hi, rfl, _, hf⟩ | ⟨rfl, hf⟩
          · have : ¬ k < i := fun h => hf k (by omega) h ek
            omega
          · exact absurd ek (hf k (by omega))
        clear he
        generalize ns[j] = z at *
        go_wp2_with fail
        refine CPJ.out.mono ?_
        rintro e w2 ⟨x, rfl, hx, rfl⟩
        have hxj := HX.out x hx
        clear hx
        go_wp2_with fail
        go_ret
        exact ⟨by rw [HT.out]; rfl, rfl⟩
      · have HNO : Hid (∀ k (hk : k < ns.length), k < j + 1 → ¬ ns[k] ∈ ns.take k) := fun k hk h => by
          rcases Nat.lt_or_ge k j with h' | h'
          · exact hno.out k hk h'
          · have : k = j := by omega
            subst this; exact he
        have HX : Hid (∀ x, IdxI ns ns[j] x → ¬ x < (j : Int)) := fun x hx => by
          rcases hx with ⟨i, hi, rfl, ei, hf⟩ | ⟨rfl, hf⟩
          · intro hlt2
            refine he (List.mem_iff_getElem.2 ⟨i, ?_, ?_⟩)
            · rw [List.length_take]; omega
            · rw [List.getElem_take]; exact ei
          · exact absurd rfl (hf j hlt)
        clear he
        generalize ns[j] = z at *
        go_wp2_with fail
        refine CPJ.out.mono ?_
        rintro e w2 ⟨x, rfl, hx, rfl⟩
        have hxj := HX.out x hx
        clear hx
        go_wp2_with fail
        go_roundw
        case rel => exact ⟨j + 1, by omega, by go_num, HNO.out, by first | rfl | trivial⟩
        case measure => simp [intOf]; omega
    · have HF : Hid (tb = false) := HTN.out (fun k hk => hno.out k hk (by omega))
      go_wp2
      go_ret
      exact ⟨by rw [HF.out]; rfl, rfl⟩
/-- What wrongWith leaves. -/
def WrongPost (a : Nat → Addr) (f : Nat) (w : World) (e : Ending) (w' : World) : Prop := e = .returned (errV a f) ∧ Below w.heap.size w w'
noncomputable def faultN (x : PTree) : Nat := (faultI x).toNat
theorem faultN_cases (x : PTree) : faultI x = (faultN x : Int) ∧ faultN x ≤ 4 := by
  unfold faultN faultI
  split
  · decide
  · split
    · decide
    · split
      · decide
      · split <;> decide
open Classical in
set_option maxHeartbeats 1600000 in
theorem implWrong_any (a : Nat → Addr) (x : PTree) (v : Value) (w : World) (hz : szP x ≤ 1048576) (hl : POwn w x v) (hE : Errs a w) :
    Calls Tryz.prog 20 #[v] w (WrongPost a (faultN x) w) := by
  have hll := hl.lies
  have CO := Lib.hid (fun wx (hb : Below w.heap.size w wx) => implProgOk_any x v wx hz (hl.below hb))
  have CU := Lib.hid (fun wx (hb : Below w.heap.size w wx) => implUnkIn_any x v wx hz (hl.below hb))
  have CP := Lib.hid (fun wx (hb : Below w.heap.size w wx) => implProcs_any x v wx (by unfold szP at hz; omega) (hll.keep (keeps_below hb)))
  have CM := Lib.hid (fun wx (hb : Below w.heap.size w wx) => implProc_any x mainB v wx (hll.keep (keeps_below hb)))
  have HE := Lib.hid (fun wx (hb : Below w.heap.size w wx) => hE.below hb)
  obtain ⟨ga, gc, la, lc, pa, pc, rfl, hg, hlk, _⟩ := hl
  have CT1 := Lib.hid (fun wx (hb : Below w.heap.size w wx) => implTwice_any x.globals _ wx (hg.1.keep (keeps_below hb)))
  have CT2 := Lib.hid (fun wx (hb : Below w.heap.size w wx) => implTwice_any x.locks _ wx (hlk.1.keep (keeps_below hb)))
  have X0 := Lib.hid (Box3.new w (.slice ga x.globals.length gc) (.slice la x.locks.length lc) (.slice pa x.procs.length pc) 27)
  have B0 := Lib.hid ((Below.refl w.heap.size w).alloc (Nat.le_refl _) (.cells #[.slice ga x.globals.length gc, .slice la x.locks.length lc, .slice pa x.procs.length pc] 27))
  have HF := Lib.hid (show faultI x = if okP x = false then 1 else if (twiceB x.globals || (twiceB x.locks || twiceB (procNs x.procs))) = true then 2 else if unkIn x ≠ [] then 3 else if ¬ mainB ∈ procNs x.procs then 4 else 0 from rfl)
  have HFN := Lib.hid (faultN_cases x).1
  clear hll hg hlk hE hz
  generalize faultN x = fn at HFN ⊢
  rw [HFN.out] at HF
  generalize okP x = b0 at CO HF
  generalize twiceB x.globals = b1 at CT1 HF
  generalize twiceB x.locks = b2 at CT2 HF
  obtain ⟨p0, p1, p2⟩ := X0.out
  go_enter Tryz.func20, Tryz.ntmps20
  go_wp2_with fail
  refine (CO.out _ B0.out).mono ?_
  rintro e w1 ⟨rfl, hb1⟩
  have B1 := Lib.hid (B0.out.trans (hb1.mono B0.out.size))
  have X1 := Lib.hid (X0.out.keep (keeps_below hb1))
  clear hb1 p0 p1 p2
  cases b0 with
  | false =>
    have HR : Hid (fn = 1) := by show _ = _; have := HF.out; simp at this; omega
    have g0 := (HE.out _ B1.out).var 0 (by omega)
    go_wp2_with fail
    go_ret
    exact ⟨by rw [HR.out]; rfl, B1.out⟩
  | true =>
    obtain ⟨p0, p1, p2⟩ := X1.out
    go_wp2_with fail
    refine (CT1.out _ B1.out).mono ?_
    rintro e w2 ⟨rfl, rfl⟩
    cases b1 with
    | true =>
      have HR : Hid (fn = 2) := by show _ = _; have := HF.out; simp at this; omega
      have g1 := (HE.out _ B1.out).var 1 (by omega)
      go_wp2_with fail
      go_ret
      exact ⟨by rw [HR.out]; rfl, B1.out⟩
    | false =>
      go_wp2_with fail
      refine (CT2.out _ B1.out).mono ?_
      rintro e w2 ⟨rfl, rfl⟩
      cases b2 with
      | true =>
        have HR : Hid (fn = 2) := by show _ = _; have := HF.out; simp at this; omega
        have g1 := (HE.out _ B1.out).var 1 (by omega)
        go_wp2_with fail
        go_ret
        exact ⟨by rw [HR.out]; rfl, B1.out⟩
      | false =>
        go_wp2_with fail
        refine (CP.out _ B1.out).mono ?_
        rintro e w3 ⟨kv, rfl, hr3, hb3⟩
        have B3 := Lib.hid (B1.out.trans (hb3.mono B1.out.size))
        have X3 := Lib.hid (X1.out.keep (keeps_below hb3))
        have CT3 := Lib.hid (implTwice_any (procNs x.procs) kv w3 (strsAt_row rfl hr3))
        obtain ⟨ka, kc, rfl, _⟩ := row_shape hr3
        clear hr3 hb3 p0 p1 p2
        generalize twiceB (procNs x.procs) = b3 at CT3 HF
        go_wp2_with fail
        refine CT3.out.mono ?_
        rintro e w4 ⟨rfl, rfl⟩
        cases b3 with
        | true =>
          have HR : Hid (fn = 2) := by show _ = _; have := HF.out; simp at this; omega
          have g1 := (HE.out _ B3.out).var 1 (by omega)
          go_wp2_with fail
          go_ret
          exact ⟨by rw [HR.out]; rfl, B3.out⟩
        | false =>
          obtain ⟨p0, p1, p2⟩ := X3.out
          go_wp2_with fail
          refine (CU.out _ B3.out).mono ?_
          rintro e w5 ⟨uv, rfl, hr5, hb5⟩
          have B5 := Lib.hid (B3.out.trans (hb5.mono B3.out.size))
          have X5 := Lib.hid (X3.out.keep (keeps_below hb5))
          obtain ⟨ua, uc, rfl, _⟩ := row_shape hr5
          clear hr5 hb5 p0 p1 p2
          by_cases hu : unkIn x = []
          · have hul : ¬ (0 : Int) < ((unkIn x).length : Int) := by rw [hu]; simp
            have HF2 : Hid ((fn : Int) = if ¬ mainB ∈ procNs x.procs then 4 else 0) := by show _ = _; rw [HF.out]; simp [hu]
            clear hu HF
            generalize (unkIn x).length = ul at hul ⊢
            obtain ⟨p0, p1, p2⟩ := X5.out
            go_wp2_with fail
            refine (CM.out _ B5.out).mono ?_
            rintro e w6 ⟨n, rfl, hn, hb6⟩
            have B6 := Lib.hid (B5.out.trans (hb6.mono B5.out.size))
            have hnn := idx_neg hn
            clear hn hb6
            by_cases hm : mainB ∈ procNs x.procs
            · have hq : ¬ n < 0 := fun h => (hnn.1 h) hm
              have HR : Hid (fn = 0) := by show _ = _; have := HF2.out; rw [if_neg (fun h => h hm)] at this; omega
              clear hnn hm HF2
              go_wp2_with fail
              go_ret
              exact ⟨by rw [HR.out]; rfl, B6.out⟩
            · have hq : n < 0 := hnn.2 hm
              have HR : Hid (fn = 4) := by show _ = _; have := HF2.out; rw [if_pos hm] at this; omega
              clear hnn hm HF2
              have h45 := B5
              have g3 := (HE.out _ B6.out).var 3 (by omega)
              go_wp2_with fail
              go_ret
              exact ⟨by rw [HR.out]; rfl, B6.out⟩
          · have hul : (0 : Int) < ((unkIn x).length : Int) := by have := List.length_pos_iff.2 hu; omega
            have HR : Hid (fn = 3) := by show _ = _; have := HF.out; rw [if_neg (by simp), if_neg (by simp), if_pos hu] at this; omega
            clear hu HF
            generalize (unkIn x).length = ul at hul ⊢
            have h45 := B5
            have g2 := (HE.out _ B5.out).var 2 (by omega)
            go_wp2_with fail
            go_ret
            exact ⟨by rw [HR.out]; rfl, B5.out⟩
set_option maxHeartbeats 1600000 in
theorem implFault_any (a : Nat → Addr) (x : PTree) (v : Value) (w : World) (hz : szP x ≤ 1048576) (hl : POwn w x v) (hE : Errs a w) :
    Calls Tryz.prog 7 #[v] w fun e w' => e = .returned (.int .i64 (faultI x)) ∧ Below w.heap.size w w' := by
  have hll := hl.lies
  have CW := Lib.hid (fun wx (hb : Below w.heap.size w wx) => implWrong_any a x v wx hz (hl.below hb) (hE.below hb))
  have HE := Lib.hid (fun wx (hb : Below w.heap.size w wx) => hE.below hb)
  obtain ⟨ga, gc, la, lc, pa, pc, rfl⟩ := hll.shape
  have X0 := Lib.hid (Box3.new w (.slice ga x.globals.length gc) (.slice la x.locks.length lc) (.slice pa x.procs.length pc) 27)
  have B0 := Lib.hid ((Below.refl w.heap.size w).alloc (Nat.le_refl _) (.cells #[.slice ga x.globals.length gc, .slice la x.locks.length lc, .slice pa x.procs.length pc] 27))
  have HFN := Lib.hid (faultN_cases x).1
  have hf4 := (faultN_cases x).2
  generalize faultI x = fi at HFN ⊢
  generalize faultN x = fn at *
  clear hll hl hE hz
  obtain ⟨p0, p1, p2⟩ := X0.out
  go_enter Tryz.func7, Tryz.ntmps7
  go_wp2_with fail
  refine (CW.out _ B0.out).mono ?_
  rintro e w1 ⟨rfl, hb1⟩
  have B1 := Lib.hid (B0.out.trans (hb1.mono B0.out.size))
  clear hb1 p0 p1 p2
  have IS := Lib.hid (fun k hk b hb => isErr a w1 (HE.out _ B1.out) fn hf4 k hk b hb)
  have g0 := (HE.out _ B1.out).var 0 (by omega)
  have g1 := (HE.out _ B1.out).var 1 (by omega)
  have g2 := (HE.out _ B1.out).var 2 (by omega)
  have g3 := (HE.out _ B1.out).var 3 (by omega)
  rcases (by omega : fn = 1 ∨ fn = 2 ∨ fn = 3 ∨ fn = 4 ∨ fn = 0) with rfl | rfl | rfl | rfl | rfl
  · go_wp2_with fail
    refine (IS.out 0 (by omega) true rfl).mono ?_
    rintro e w2 ⟨rfl, rfl⟩
    go_wp2_with fail
    go_ret
    exact ⟨by rw [HFN.out]; rfl, B1.out⟩
  · go_wp2_with fail
    refine (IS.out 0 (by omega) false rfl).mono ?_
    rintro e w2 ⟨rfl, rfl⟩
    go_wp2_with fail
    refine (IS.out 1 (by omega) true rfl).mono ?_
    rintro e w2 ⟨rfl, rfl⟩
    go_wp2_with fail
    go_ret
    exact ⟨by rw [HFN.out]; rfl, B1.out⟩
  · go_wp2_with fail
    refine (IS.out 0 (by omega) false rfl).mono ?_
    rintro e w2 ⟨rfl, rfl⟩
    go_wp2_with fail
    refine (IS.out 1 (by omega) false rfl).mono ?_
    rintro e w2 ⟨rfl, rfl⟩
    go_wp2_with fail
    refine (IS.out 2 (by omega) true rfl).mono ?_
    rintro e w2 ⟨rfl, rfl⟩
    go_wp2_with fail
    go_ret
    exact ⟨by rw [HFN.out]; rfl, B1.out⟩
  · go_wp2_with fail
    refine (IS.out 0 (by omega) false rfl).mono ?_
    rintro e w2 ⟨rfl, rfl⟩
    go_wp2_with fail
    refine (IS.out 1 (by omega) false rfl).mono ?_
    rintro e w2 ⟨rfl, rfl⟩
    go_wp2_with fail
    refine (IS.out 2 (by omega) false rfl).mono ?_
    rintro e w2 ⟨rfl, rfl⟩
    go_wp2_with fail
    refine (IS.out 3 (by omega) true rfl).mono ?_
    rintro e w2 ⟨rfl, rfl⟩
    go_wp2_with fail
    go_ret
    exact ⟨by rw [HFN.out]; rfl, B1.out⟩
  · go_wp2_with fail
    refine (IS.out 0 (by omega) false rfl).mono ?_
    rintro e w2 ⟨rfl, rfl⟩
    go_wp2_with fail
    refine (IS.out 1 (by omega) false rfl).mono ?_
    rintro e w2 ⟨rfl, rfl⟩
    go_wp2_with fail
    refine (IS.out 2 (by omega) false rfl).mono ?_
    rintro e w2 ⟨rfl, rfl⟩
    go_wp2_with fail
    refine (IS.out 3 (by omega) false rfl).mono ?_
    rintro e w2 ⟨rfl, rfl⟩
    go_wp2_with fail
    go_ret
    exact ⟨by rw [HFN.out]; rfl, B1.out⟩
end Go.Proofs.YtibkmcfinkadhaaGreatDoor.Trm
/- The library's concatenation of two rows of texts, walked. Conditions: the rows lie in memory; each has at most 2 to the 20 texts. -/
namespace Go.Proofs.YtibkmcfinkadhaaGreatDoor.Trm
open Go.RowKit Own
theorem wpList_append_src {P : Program} {w : World} {ops : Array Oper} {rest : List Oper} {o : Oper} {a : Act} {Q : Exit → Act → World → Prop} (hgd : o.guard = none) (s x : Operand) (t : TypeId)
    (ho : o.op = .call { callee := .builtin .append, args := #[s, x], argTypes := #[t, t] })
    (base : Nat) (e : TypeId) (i : TypeInfo) (z : Value) (bytes : Nat) (ht : P.underlying t = some (.slice e)) (hi : P.info? e = some i) (hz : i.zero = some z)
    (hsize : i.size = 1) (hby : i.bytes = bytes) (hzs : z.cells.size = 1)
    (v : Value) (n : Nat) (xs : List Value) (hs : a.eval s = v) (hown : w.ownsRow base e 1 v n xs)
    (sa : Option Addr) (m sc : Nat) (ys : List Value) (hx : a.eval x = .slice sa m sc) (hsrc : Src w sa m sc ys) (h1 : ∀ u ∈ ys, u.oneCell' = true)
    (h63 : n + m ≤ maxLen) (hbytes : (n + m) * bytes ≤ 140737488355328) (hbase : base ≤ w.heap.size)
    (h : ∀ v' w', w'.ownsRow base e 1 v' (n + m) (xs ++ ys) → Moves w v w' v' → wpList P ops Q rest (a.put o.dst v') w') : wpList P ops Q (o :: rest) a w := by
  rcases hsrc with ⟨rfl, rfl, rfl, rfl⟩ | ⟨ad, rfl, hl, hc⟩
  · exact wpList_append_own_none hgd s x t ho base e i 1 ht hi v n xs hs hown hx (h v w (by simpa using hown) (Moves.refl _ _))
  · exact wpList_append_own_at w hgd s x t ho base e i z 1 bytes ht hi hz hsize hby hzs (by decide) v n xs hs hown ad m sc ys hx (by simpa using hl) hc h1 h63 hbytes hbase fun v' w' a1 a2 _ a4 => h v' w' a1 (moves_append a2 a4)
set_option maxRecDepth 20000 in
set_option maxHeartbeats 800000 in
theorem implGrow_nil (n : Nat) (w : World) (hn : n ≤ 8000000) :
    Calls Tryz.prog 58 #[.slice none 0 0, .int .i64 (n : Int)] w fun e w' => ∃ ov, e = .returned ov ∧ w'.ownsRow w.heap.size 9 1 ov 0 [] ∧ w.grownBy w' none := by
  obtain ⟨i0, hi, hz0, hz1, hz2⟩ := info_parts infoStrR
  rcases Nat.eq_zero_or_pos n with h0 | h0
  · subst h0
    go_enter Tryz.func58, Tryz.ntmps58
    go_wp2
    go_ret
    exact ⟨_, rfl, ⟨rfl, .inl ⟨rfl, rfl⟩⟩, World.grownBy.refl _ _⟩
  · have hr := Lib.run_append_nil_zeros (P := Tryz.prog) w 24 3 24 9 i0 (.string ⟨#[]⟩) .i64 .i64 Tryz.underlying24 (by kernel_rfl) hi hz0 n h0 (by omega) (by omega) (by rw [hz2]; omega)
    have hge := grownCap_ge w n 0 9
    have hle := grownCap_le_maxLen w n 0 9 (by unfold maxLen; omega)
    have HOW : Hid ((w.drew.alloc (.cells (Builtin.zeroCells (Value.string ⟨#[]⟩).cells n ++ Builtin.zeroCells (Value.string ⟨#[]⟩).cells (grownCap w n 0 9 - n)) 9)).ownsRow w.heap.size 9 1 (.slice (some ⟨w.heap.size, 0, none⟩) 0 (grownCap w n 0 9)) 0 []) := by
      refine ⟨rfl, .inr ⟨w.heap.size, _, _, rfl, Nat.le_refl _, heap_alloc_new w.drew _, Nat.zero_le _, hle, ?_, by simp⟩⟩
      simp only [Array.size_append, size_zeroCells]
      show n * 1 + (grownCap w n 0 9 - n) * 1 = grownCap w n 0 9 * 1
      omega
    have HG : Hid (w.grownBy (w.drew.alloc (.cells (Builtin.zeroCells (Value.string ⟨#[]⟩).cells n ++ Builtin.zeroCells (Value.string ⟨#[]⟩).cells (grownCap w n 0 9 - n)) 9)) none) := ⟨rfl, rfl, rfl, by simp, fun k hk _ => Below.heap_alloc w.drew _ k hk⟩
    have HR := Lib.hid hr
    have hp : (0 : Int) < (n : Int) := by omega
    generalize (w.drew.alloc (.cells (Builtin.zeroCells (Value.string ⟨#[]⟩).cells n ++ Builtin.zeroCells (Value.string ⟨#[]⟩).cells (grownCap w n 0 9 - n)) 9)) = w2 at HR HOW HG
    generalize grownCap w n 0 9 = cp at *
    clear hr hi hz0 hz1 hz2
    go_enter Tryz.func58, Tryz.ntmps58
    go_wp2_with (at_builtin; refine Lib.wpList_append_run _ rfl (.tmp 20) (.tmp 21) 24 3 rfl _ _ rfl rfl _ _ HR.out ?_)
    go_wp2
    go_ret
    exact ⟨_, rfl, HOW.out, HG.out⟩
def catL (xs ys : List ByteArray) (j : Nat) : List ByteArray := if j = 0 then [] else if j = 1 then xs else xs ++ ys
set_option maxRecDepth 20000 in
set_option maxHeartbeats 1600000 in
theorem implConcat_any (xs ys : List ByteArray) (a b : Option Addr) (ac bc g : Nat) (w : World) (ha : xs.length ≤ 1048576) (hb : ys.length ≤ 1048576)
    (c0 : w.cell? ⟨g, 0, none⟩ = some (.slice a xs.length ac)) (c1 : w.cell? ⟨g, 1, none⟩ = some (.slice b ys.length bc)) (sa : Src w a xs.length ac (strV xs)) (sb : Src w b ys.length bc (strV ys)) :
    Calls Tryz.prog 28 #[.slice (some ⟨g, 0, none⟩) 2 2] w fun e w' => ∃ ov, e = .returned ov ∧ w'.ownsRow w.heap.size 9 1 ov (xs ++ ys).length (strV (xs ++ ys)) ∧ Below w.heap.size w w' := by
  obtain ⟨i0, hi, hz0, hz1, hz2⟩ := info_parts infoStrR
  have CG := Lib.hid (implGrow_nil (xs.length + ys.length) w (by omega))
  have HSA := Lib.hid (fun wx (hk : Below w.heap.size w wx) => sa.keep (keeps_below hk))
  have HSB := Lib.hid (fun wx (hk : Below w.heap.size w wx) => sb.keep (keeps_below hk))
  have HC := Lib.hid (fun wx (hk : Below w.heap.size w wx) => (⟨keeps_below hk _ _ c0, keeps_below hk _ _ c1⟩ : wx.cell? ⟨g, 0, none⟩ = some (.slice a xs.length ac) ∧ wx.cell? ⟨g, 1, none⟩ = some (.slice b ys.length bc)))
  have HA := Lib.hid ha
  have HB := Lib.hid hb
  clear sa sb
  go_enter Tryz.func28, Tryz.ntmps28
  go_wp2
  go_loopw [3, 11] (fun z i wr => ∃ j : Nat, j ≤ 2 ∧ i = .int .i64 j ∧ z = .int .i64 ((if j = 0 then 0 else if j = 1 then xs.length else xs.length + ys.length : Nat) : Int) ∧ wr = w)
    (fun _ i _ => 2 - (intOf i).toNat)
  case atStart => exact ⟨0, Nat.zero_le _, rfl, rfl, rfl⟩
  case round =>
    obtain ⟨j, hj, rfl, rfl, rfl⟩ := hrel
    rcases (by omega : j = 0 ∨ j = 1 ∨ j = 2) with rfl | rfl | rfl
    · go_wp2
      go_roundw
      case rel => exact ⟨1, by omega, by go_num, by go_num, by first | rfl | trivial⟩
      case measure => simp [intOf]
    · have hq : ¬ ((xs.length : Int) + (ys.length : Int) < 0) := by omega
      go_wp2
      go_roundw
      case rel => exact ⟨2, by omega, by go_num, by go_num, by first | rfl | trivial⟩
      case measure => simp [intOf]
    · obtain ⟨w1, hw1⟩ : ∃ w0, w0 = wr := ⟨_, rfl⟩
      subst hw1
      have e : ((xs.length + ys.length : Nat) : Int) = (xs.length : Int) + (ys.length : Int) := by omega
      rw [e] at CG
      clear e
      go_wp2_with fail
      refine CG.out.mono ?_
      rintro en w2 ⟨ov, rfl, hr2, hg2⟩
      have HR2 := Lib.hid hr2
      have HB2 : Hid (Below w1.heap.size w1 w2) := below_none hg2
      obtain ⟨va, vc, rfl, _⟩ := row_shape hr2
      clear hr2 hg2 c0 c1
      go_wp2_with fail
      go_loopw [6, 27] (fun o i wr => ∃ (j : Nat) (ls : List ByteArray), j ≤ 2 ∧ i = .int .i64 j ∧ Hid (ls = catL xs ys j) ∧ Hid (wr.ownsRow w1.heap.size 9 1 o ls.length (strV ls)) ∧ Hid (Below w1.heap.size w1 wr))
        (fun _ i _ => 2 - (intOf i).toNat)
      case atStart => exact ⟨0, [], Nat.zero_le _, rfl, rfl, HR2, HB2⟩
      case round =>
        obtain ⟨j, ls, hj, rfl, hls, hrow, hbe⟩ := hrel
        obtain ⟨oa, oc, rfl, _⟩ := row_shape hrow.out
        obtain ⟨d0, d1⟩ := HC.out _ hbe.out
        have hws : w1.heap.size ≤ wr.heap.size := hbe.out.size
        rcases (by omega : j = 0 ∨ j = 1 ∨ j = 2) with rfl | rfl | rfl
        · obtain rfl : ls = [] := hls.out
          go_wp2_with (at_builtin; refine wpList_append_src rfl (.tmp 31) (.tmp 32) 24 rfl w1.heap.size 9 i0 (.string ⟨#[]⟩) 16 Tryz.underlying24 hi hz0 hz1 hz2 rfl (.slice oa 0 oc) 0 _ rfl hrow.out a xs.length ac (strV xs) rfl (HSA.out _ hbe.out) (one_strV _) (by unfold maxLen; omega) (by omega) hws ?_)
          intro o3 w3 hr3 hm3
          have HR3 : Hid (w3.ownsRow w1.heap.size 9 1 o3 xs.length (strV xs)) := by
            show World.ownsRow _ _ _ _ _ _ _
            simpa [strV] using hr3
          have HB3 := Lib.hid (hm3.below hbe.out hrow.out)
          clear hr3 hm3
          go_wp2_with fail
          go_roundw
          case rel => exact ⟨1, xs, by omega, by go_num, rfl, HR3, HB3⟩
          case measure => simp [intOf]
        · obtain rfl : ls = xs := hls.out
          go_wp2_with (at_builtin; refine wpList_append_src rfl (.tmp 31) (.tmp 32) 24 rfl w1.heap.size 9 i0 (.string ⟨#[]⟩) 16 Tryz.underlying24 hi hz0 hz1 hz2 rfl (.slice oa ls.length oc) ls.length _ rfl hrow.out b ys.length bc (strV ys) rfl (HSB.out _ hbe.out) (one_strV _) (by unfold maxLen; omega) (by omega) hws ?_)
          intro o3 w3 hr3 hm3
          have HR3 : Hid (w3.ownsRow w1.heap.size 9 1 o3 (ls ++ ys).length (strV (ls ++ ys))) := by
            show World.ownsRow _ _ _ _ _ _ _
            rw [List.length_append, strV_append]
            exact hr3
          have HB3 := Lib.hid (hm3.below hbe.out hrow.out)
          clear hr3 hm3
          go_wp2_with fail
          go_roundw
          case rel => exact ⟨2, ls ++ ys, by omega, by go_num, rfl, HR3, HB3⟩
          case measure => simp [intOf]
        · obtain rfl : ls = xs ++ ys := hls.out
          obtain ⟨l, hl⟩ : ∃ l, l = xs ++ ys := ⟨_, rfl⟩
          rw [← hl] at hrow
          rw [← hl]
          have HL := Lib.hid hl
          have HR3 := hrow
          clear hl hls
          go_wp2_with fail
          go_ret
          exact ⟨_, rfl, by rw [← HL.out]; exact HR3.out, hbe.out⟩
end Go.Proofs.YtibkmcfinkadhaaGreatDoor.Trm
/- The program's UnusedIn, walked. Conditions: the program is of the call's own, of at most 2 to the 20. -/
namespace Go.Proofs.YtibkmcfinkadhaaGreatDoor.Trm
open Go.RowKit Own
theorem dataN_take {us : List Use} {j : Nat} (h : j < us.length) : dataN (us.take (j + 1)) = dataN (us.take j) ++ (if us[j].1 = 2 then [] else [us[j].2]) := by
  rw [List.take_add_one, List.getElem?_eq_getElem h, Option.toList, dataN_append]
  congr 1
  unfold dataN
  by_cases h2 : us[j].1 = 2 <;> simp [h2]
theorem dataN_le (us : List Use) : (dataN us).length ≤ us.length := by
  unfold dataN
  rw [List.length_map]
  exact List.length_filter_le ..
noncomputable def unuL (used ns : List ByteArray) : List ByteArray := ns.filter (fun s => @decide (¬ s ∈ used) (Classical.propDecidable _))
theorem unuL_take {used ns : List ByteArray} {j : Nat} (h : j < ns.length) : unuL used (ns.take (j + 1)) = unuL used (ns.take j) ++ (if hasB used ns[j] = true then [] else [ns[j]]) := by
  rw [List.take_add_one, List.getElem?_eq_getElem h, Option.toList]
  unfold unuL
  rw [List.filter_append]
  congr 1
  by_cases h2 : ns[j] ∈ used
  · rw [if_pos ((hasB_iff _ _).2 h2)]; simp [h2]
  · rw [if_neg (fun h => h2 ((hasB_iff _ _).1 h))]; simp [h2]
theorem unuL_le (used ns : List ByteArray) : (unuL used ns).length ≤ ns.length := List.length_filter_le ..
theorem src_names {w : World} {ns : List ByteArray} {a : Option Addr} {c : Nat} (h : NamesAt w ns (.slice a ns.length c)) (hr : Room a ns.length c) : Src w a ns.length c (strV ns) := src_strs h.1 hr.2
set_option maxRecDepth 20000 in
set_option maxHeartbeats 1600000 in
theorem implUnuIn_any (x : PTree) (v : Value) (w : World) (hz : szP x ≤ 1048576) (hl : POwn w x v) :
    Calls Tryz.prog 9 #[v] w fun e w' => ∃ ov, e = .returned ov ∧ w'.ownsRow w.heap.size 9 1 ov (unuIn x).length (strV (unuIn x)) ∧ Below w.heap.size w w' := by
  have hll := hl.lies
  have CO := Lib.hid (fun wx (hb : Below w.heap.size w wx) => implProgOk_any x v wx hz (hl.below hb))
  have CU := Lib.hid (fun wx (hb : Below w.heap.size w wx) => implUsesProg_any x v wx hz (hll.keep (keeps_below hb)))
  obtain ⟨ga, gc, la, lc, pa, pc, rfl, hg, hlk, _, hrg, hrl⟩ := hl
  have HG := Lib.hid (fun wx (hb : Below w.heap.size w wx) => (src_names hg hrg).keep (keeps_below hb))
  have HLK := Lib.hid (fun wx (hb : Below w.heap.size w wx) => (src_names hlk hrl).keep (keeps_below hb))
  have X0 := Lib.hid (Box3.new w (.slice ga x.globals.length gc) (.slice la x.locks.length lc) (.slice pa x.procs.length pc) 27)
  have B0 := Lib.hid ((Below.refl w.heap.size w).alloc (Nat.le_refl _) (.cells #[.slice ga x.globals.length gc, .slice la x.locks.length lc, .slice pa x.procs.length pc] 27))
  have HE := Lib.hid (unuIn_us x)
  have HUL : Hid ((usPs x.procs).length ≤ 8000000) := by show _ ≤ _; have := usPs_le x.procs; unfold szP at hz; omega
  have HNL : Hid (x.globals.length ≤ 1048576 ∧ x.locks.length ≤ 1048576) := by constructor <;> unfold szP at hz <;> omega
  generalize unuIn x = ui at HE ⊢
  clear hg hlk hrg hrl hll hz
  cases hok : okP x with
  | false =>
    rw [hok] at CO
    have HR : Hid (ui = []) := by show _ = _; rw [HE.out, hok]; rfl
    clear hok
    obtain ⟨p0, p1, p2⟩ := X0.out
    go_enter Tryz.func9, Tryz.ntmps9
    go_wp2_with fail
    refine (CO.out _ B0.out).mono ?_
    rintro e w1 ⟨rfl, hb1⟩
    have B1 := Lib.hid (B0.out.trans (hb1.mono B0.out.size))
    clear hb1
    go_wp2
    go_ret
    exact ⟨_, rfl, by rw [HR.out]; exact ⟨rfl, .inl ⟨rfl, rfl⟩⟩, B1.out⟩
  | true =>
    rw [hok] at CO
    have HR : Hid (ui = unuL (dataN (usPs x.procs)) (x.globals ++ x.locks)) := by show _ = _; rw [HE.out, hok]; rfl
    clear hok HE
    obtain ⟨p0, p1, p2⟩ := X0.out
    obtain ⟨i0, hi, hz0, hz1, hz2⟩ := info_parts infoStrR
    go_enter Tryz.func9, Tryz.ntmps9
    go_wp2_with fail
    refine (CO.out _ B0.out).mono ?_
    rintro e w1 ⟨rfl, hb1⟩
    have B1 := Lib.hid (B0.out.trans (hb1.mono B0.out.size))
    have X1 := Lib.hid (X0.out.keep (keeps_below hb1))
    clear hb1 p0 p1 p2
    obtain ⟨p0, p1, p2⟩ := X1.out
    go_wp2_with fail
    refine (CU.out _ B1.out).mono ?_
    rintro e w2 ⟨uv, rfl, hru, hb2⟩
    have B2 := Lib.hid (B1.out.trans (hb2.mono B1.out.size))
    have X2 := Lib.hid (X1.out.keep (keeps_below hb2))
    obtain ⟨ua, uc, rfl, hua⟩ := row_shape hru
    have HRU : Hid (UsRow w2 w1.heap.size (.slice ua (usPs x.procs).length uc) (usPs x.procs)) := hru
    have HUA := Lib.hid hua
    have hbs : w.heap.size ≤ w2.heap.size := B2.out.size
    clear hb2 p0 p1 p2 hru hua
    generalize usPs x.procs = us at *
    have husl : us.length ≤ 8000000 := HUL.out
    go_wp2_with fail
    go_loopw [3, 15] (fun o i wr => ∃ (j : Nat) (ac : List ByteArray), j ≤ us.length ∧ i = .int .i64 j ∧ Hid (ac = dataN (us.take j)) ∧ Hid (wr.ownsRow w2.heap.size 9 1 o ac.length (strV ac)) ∧ Hid (Below w2.heap.size w2 wr))
      (fun _ i _ => us.length - (intOf i).toNat)
    case atStart => exact ⟨0, [], Nat.zero_le _, rfl, rfl, ⟨rfl, .inl ⟨rfl, rfl⟩⟩, Below.refl _ _⟩
    case round =>
      obtain ⟨j, ac, hj, rfl, hac, hrow, hbe⟩ := hrel
      obtain ⟨oa, oc, rfl, _⟩ := row_shape hrow.out
      by_cases hlt : j < us.length
      · obtain ⟨g, rfl⟩ := HUA.out (by omega)
        obtain ⟨e0, e1⟩ := HRU.out.cells j hlt
        have c0 := keeps_below hbe.out _ _ e0
        have c1 := keeps_below hbe.out _ _ e1
        have HAC : Hid (dataN (us.take (j + 1)) = ac ++ (if us[j].1 = 2 then [] else [us[j].2])) := by show _ = _; rw [dataN_take hlt, hac.out]
        have hale : ac.length ≤ 8000000 := by
          have h1 := dataN_le (us.take j)
          rw [← hac.out, List.length_take] at h1
          omega
        clear e0 e1
        generalize us[j].1 = k at *
        generalize us[j].2 = nm at *
        have W1B : Hid (Below w2.heap.size w2 (wr.alloc (.cells #[.int .i64 k, .string nm] 62))) := hbe.out.alloc hbe.out.size _
        have HR1 : Hid ((wr.alloc (.cells #[.int .i64 k, .string nm] 62)).ownsRow w2.heap.size 9 1 (.slice oa ac.length oc) ac.length (strV ac)) := hrow.out.alloc _
        have Q1 : Hid (Box2 (wr.alloc (.cells #[.int .i64 k, .string nm] 62)) wr.heap.size (.int .i64 k) (.string nm)) := Box2.new _ _ _ _
        obtain ⟨W1, hW1⟩ : ∃ w1, w1 = wr.alloc (.cells #[.int .i64 k, .string nm] 62) := ⟨_, rfl⟩
        go_upto_region 7 with fail
        clear c0 c1
        rw [← hW1] at W1B HR1 Q1
        rw [← hW1]
        clear hW1
        obtain ⟨S, hS⟩ : ∃ n, n = wr.heap.size := ⟨_, rfl⟩
        rw [← hS] at Q1
        rw [← hS]
        clear hS
        obtain ⟨q0, q1⟩ := Q1.out
        have hws1 : w2.heap.size ≤ W1.heap.size := W1B.out.size
        by_cases h2 : k = 2
        · have k2 : (k != 2) = false := by simp [h2]
          have HA : Hid (ac = dataN (us.take (j + 1))) := by show _ = _; rw [HAC.out, if_pos h2, List.append_nil]
          clear h2
          go_wp2_with fail
          go_roundw
          case rel => exact ⟨j + 1, ac, by omega, by go_num, HA, HR1, W1B⟩
          case measure => simp [intOf]; omega
        · have k2 : (k != 2) = true := by simp [h2]
          have HA : Hid (ac ++ [nm] = dataN (us.take (j + 1))) := by show _ = _; rw [HAC.out, if_neg h2]
          clear h2
          go_wp2_with (at_builtin; refine wpList_append_lies _ rfl (.tmp 22) (.tmp 25) 24 rfl w2.heap.size 9 i0 (.string ⟨#[]⟩) 1 16 Tryz.underlying24 hi hz0 hz1 hz2 rfl (by decide) (.slice oa ac.length oc) ac.length _ rfl (HR1.out.alloc _) ⟨W1.heap.size, 0, none⟩ 1 1 [.string nm] rfl rfl (World.news_of_block (heap_alloc_new _ _)) (one_textR _) (by decide) (by unfold maxLen; omega) (by omega) (by simp; omega) _ rfl ?_)
          intro g9 cap9 w9 hown9 hg9 hat9 hlt9
          have HR9 : Hid (w9.ownsRow w2.heap.size 9 1 (.slice (some ⟨g9, 0, none⟩) (ac.length + 1) cap9) (ac ++ [nm]).length (strV (ac ++ [nm]))) := by
            show World.ownsRow _ _ _ _ _ _ _
            simpa [strV] using hown9
          have HB9 : Hid (Below w2.heap.size w2 w9) := (W1B.out.alloc W1B.out.size _).grown hg9 (by simp; omega) (fun k hk => (HR1.out.lt k hk).1)
          clear hown9 hg9 hat9 hlt9
          go_wp2_with fail
          go_roundw
          case rel => exact ⟨j + 1, ac ++ [nm], by omega, by go_num, HA, HR9, HB9⟩
          case measure => simp [intOf]; omega
      · have HF : ac = dataN us := by rw [hac.out, List.take_of_length_le (by omega)]
        have X3 := Lib.hid (X2.out.keep (keeps_below hbe.out))
        obtain ⟨p0, p1, p2⟩ := X3.out
        have HSG := HG.out
        obtain ⟨oa2, oc2, hoe, _⟩ := row_shape hrow.out
        have HRC := hrow
        have HWB := Lib.hid (B2.out.trans (hbe.out.mono hbs))
        have hnl := HNL.out
        obtain ⟨used, hused⟩ : ∃ l, l = dataN us := ⟨_, rfl⟩
        rw [← hused] at HR HF
        subst HF
        have HW3 : Hid (Below w.heap.size w (wr.alloc (.cells #[.slice ga x.globals.length gc, .slice la x.locks.length lc] 24))) := HWB.out.alloc HWB.out.size _
        have CC := Lib.hid (implConcat_any x.globals x.locks ga la gc lc wr.heap.size (wr.alloc (.cells #[.slice ga x.globals.length gc, .slice la x.locks.length lc] 24)) hnl.1 hnl.2 (by simp [go_sem]) (by simp [go_sem]) (HG.out _ HW3.out) (HLK.out _ HW3.out))
        have HRC1 : Hid ((wr.alloc (.cells #[.slice ga x.globals.length gc, .slice la x.locks.length lc] 24)).ownsRow w2.heap.size 9 1 (.slice oa ac.length oc) ac.length (strV ac)) := hrow.out.alloc _
        have hws3 : w.heap.size ≤ (wr.alloc (.cells #[.slice ga x.globals.length gc, .slice la x.locks.length lc] 24)).heap.size := HW3.out.size
        clear hused hoe
        go_wp2_with fail
        refine CC.out.mono ?_
        rintro e w4 ⟨cv, rfl, hr4, hb4⟩
        have HB4 := Lib.hid (HW3.out.trans (hb4.mono hws3))
        have HU4 := Lib.hid (row_below HRC1.out hb4)
        obtain ⟨ca, cc, rfl, hca⟩ := row_shape hr4
        have HR4 := Lib.hid hr4
        have HCA := Lib.hid hca
        have hall : (x.globals ++ x.locks).length ≤ 4000000 := by rw [List.length_append]; omega
        clear p0 p1 p2 hr4 hb4 hca
        generalize x.globals ++ x.locks = all at *
        have hws4 : w.heap.size ≤ w4.heap.size := HB4.out.size
        obtain ⟨w5, hw5⟩ : ∃ w0, w0 = wr := ⟨_, rfl⟩
        subst hw5
        go_wp2_with fail
        go_loopw [6, 35] (fun o i wr => ∃ (j : Nat) (rs : List ByteArray), j ≤ all.length ∧ i = .int .i64 j ∧ Hid (rs = unuL ac (all.take j)) ∧ Hid (wr.ownsRow w4.heap.size 9 1 o rs.length (strV rs)) ∧ Hid (Below w4.heap.size w4 wr))
          (fun _ i _ => all.length - (intOf i).toNat)
        case atStart => exact ⟨0, [], Nat.zero_le _, rfl, rfl, ⟨rfl, .inl ⟨rfl, rfl⟩⟩, Below.refl _ _⟩
        case round =>
          obtain ⟨j, rs, hj, rfl, hrs, hrow2, hbe2⟩ := hrel
          obtain ⟨na, nc, rfl, _⟩ := row_shape hrow2.out
          by_cases hlt : j < all.length
          · obtain ⟨g, rfl⟩ := HCA.out (by omega)
            have c0 := keeps_below hbe2.out _ _ (row_cell HR4.out j hlt)
            have HRS : Hid (unuL ac (all.take (j + 1)) = rs ++ (if hasB ac all[j] = true then [] else [all[j]])) := by show _ = _; rw [unuL_take hlt, hrs.out]
            have hrl : rs.length ≤ 8000000 := by
              have h1 := unuL_le ac (all.take j)
              rw [← hrs.out, List.length_take] at h1
              omega
            have hws5 : w4.heap.size ≤ wr.heap.size := hbe2.out.size
            have HST := Lib.hid (strsAt_row rfl (row_below HU4.out hbe2.out))
            generalize all[j] = z at *
            by_cases hm : z ∈ ac
            · have HA : Hid (rs = unuL ac (all.take (j + 1))) := by show _ = _; rw [HRS.out, if_pos ((hasB_iff _ _).2 hm), List.append_nil]
              have C3 := Lib.hid (implHas_yes ac z _ wr HST.out hm)
              clear hm
              go_wp2_with fail
              refine C3.out.mono ?_
              rintro e w8 ⟨rfl, hw8⟩
              obtain rfl := hw8.out
              clear hw8
              go_wp2_with fail
              go_roundw
              case rel => exact ⟨j + 1, rs, by omega, by go_num, HA, hrow2, hbe2⟩
              case measure => simp [intOf]; omega
            · have HA : Hid (rs ++ [z] = unuL ac (all.take (j + 1))) := by show _ = _; rw [HRS.out, if_neg (fun h => hm ((hasB_iff _ _).1 h))]
              have C3 := Lib.hid (implHas_no ac z _ wr HST.out hm)
              clear hm
              go_wp2_with fail
              refine C3.out.mono ?_
              rintro e w8 ⟨rfl, hw8⟩
              obtain rfl := hw8.out
              clear hw8
              go_wp2_with (at_builtin; refine wpList_append_lies _ rfl (.tmp 43) (.tmp 45) 24 rfl w4.heap.size 9 i0 (.string ⟨#[]⟩) 1 16 Tryz.underlying24 hi hz0 hz1 hz2 rfl (by decide) (.slice na rs.length nc) rs.length _ rfl (hrow2.out.alloc _) ⟨w8.heap.size, 0, none⟩ 1 1 [.string z] rfl rfl (World.news_of_block (heap_alloc_new _ _)) (one_textR _) (by decide) (by unfold maxLen; omega) (by omega) (by simp; omega) _ rfl ?_)
              intro g9 cap9 w9 hown9 hg9 hat9 hlt9
              have HR9 : Hid (w9.ownsRow w4.heap.size 9 1 (.slice (some ⟨g9, 0, none⟩) (rs.length + 1) cap9) (rs ++ [z]).length (strV (rs ++ [z]))) := by
                show World.ownsRow _ _ _ _ _ _ _
                simpa [strV] using hown9
              have HB9 : Hid (Below w4.heap.size w4 w9) := (hbe2.out.alloc hbe2.out.size _).grown hg9 (by simp; omega) (fun k hk => (hrow2.out.lt k hk).1)
              clear hown9 hg9 hat9 hlt9
              go_wp2_with fail
              go_roundw
              case rel => exact ⟨j + 1, rs ++ [z], by omega, by go_num, HA, HR9, HB9⟩
              case measure => simp [intOf]; omega
          · have HF : ui = rs := by rw [HR.out, hrs.out, List.take_of_length_le (by omega)]
            have HB := Lib.hid (HB4.out.trans (hbe2.out.mono hws4))
            have HRW := Lib.hid (row_wideB hrow2.out hws4)
            go_wp2_with fail
            go_ret
            exact ⟨_, rfl, by rw [HF]; exact HRW.out, HB.out⟩
end Go.Proofs.YtibkmcfinkadhaaGreatDoor.Trm
