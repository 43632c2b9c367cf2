/- The model's table of ways, made, filled by arcs and turn by turn, walked. Conditions: the graph is right, its arcs lie in memory. -/
import Derived.Test.YtabpbmifegfmgaaWayMat
import Derived.Test.YtabpbmifegfmgaaWays
import Derived.Deep.DeepCutAuto
namespace Go.Proofs.Ytabpbmifegfmgaa.Trm
open Go.RowKit Own
theorem infoBoolsL : (Try.prog.info? 61).map (fun i => (i.zero, i.size, i.bytes)) = some (some (.slice none 0 0), 1, 24) := by kernel_rfl
theorem madeB (n : Nat) : (madeCells #[Value.bool false] n).toList = boolV (List.replicate n false) := boolV_made n
theorem repl_snoc {α : Type} (k : Nat) (x : α) : List.replicate k x ++ [x] = List.replicate (k + 1) x := by rw [List.replicate_succ']
/-- What a call that answers a table leaves. -/
def ListM (n : Nat) (M : Mat) (w : World) (e : Ending) (w' : World) : Prop := ∃ v hi, e = .returned v ∧ MatAt w' w.heap.size hi n v M ∧ Below w.heap.size w w'
set_option maxRecDepth 20000 in
set_option maxHeartbeats 6400000 in
theorem specReachM_any (n : Nat) (es : List (Int × Int)) (v : Value) (w : World) (hl : ArcsAt w es v) (hg : GOk (n : Int) es) :
    Calls Try.prog 39 #[.int .i64 (n : Int), v] w (ListM n (wayM n es) w) := by
  obtain ⟨i0, hi, hz0, hz1, hz2⟩ := info_parts infoBoolsL
  obtain ⟨j0, hj, jz0, jz1, jz2⟩ := info_parts infoBoolL
  obtain ⟨aa, cap, rfl, hlen, _, hk⟩ := hl
  have HK := Lib.hid hk
  have hn : n ≤ 60 := by have := hg.2.1; omega
  have HOK := Lib.hid hg.2.2.2
  have HS := Lib.hid (sup_arc hg)
  have L0 := Lib.hid (RowsOwn.nil (ei := 4) (litE0 w 61) (by simp))
  have B0 := Lib.hid ((Below.refl w.heap.size w).alloc (Nat.le_refl _) (.cells #[] 61))
  clear hk hg
  go_enter Try.func39, Try.ntmps39
  go_wp2
  go_loopw [5, 6] (fun ov i wr => ∃ (k hb : Nat) (cs : List Value), k ≤ n ∧ i = .int .i64 k ∧ Hid (RowsOwn wr w.heap.size hb 61 4 ov cs (List.replicate k (boolV (List.replicate n false)))) ∧ Hid (Below w.heap.size w wr))
    (fun _ i _ => n - (intOf i).toNat)
  case atStart => exact ⟨0, _, [], Nat.zero_le _, rfl, L0.out, B0.out⟩
  case round =>
    obtain ⟨k, hb, cs, hk, rfl, hrow, hbe⟩ := hrel
    by_cases hlt : k < n
    · obtain ⟨oa, oc, rfl, _⟩ := hrow.out.shape
      rw [List.length_replicate] at hrow ⊢
      have hsw : w.heap.size ≤ wr.heap.size := hbe.out.size
      go_wp2_with (at_make; refine wpList_make_full _ rfl (.tmp 18) (.tmp 18) 61 rfl wr.heap.size 4 j0 _ 1 Try.underlying61 hj jz0 jz1 .i64 .i64 _ _ n rfl rfl rfl rfl (by rw [jz2]; omega) (by unfold maxLen; omega) (Nat.le_refl _) ?_)
      intro w1 hown hg
      rw [madeB] at hown
      have B1 := Lib.hid (hbe.out.grown hg hbe.out.size (fun b hb => by cases hb))
      have R1 := Lib.hid (hrow.out.below (below_none hg))
      have hs1 : wr.heap.size < w1.heap.size := (hown.lt wr.heap.size rfl).2
      have M1 := Lib.hid hown
      clear hown hg
      go_wp2_with (at_builtin; refine wpList_append_lies _ rfl (.tmp 17) (.tmp 20) 59 rfl w.heap.size 61 i0 (.slice none 0 0) 1 24 Try.underlying59 hi hz0 hz1 hz2 rfl (by decide) (.slice oa k oc) k _ rfl ((by have := R1.out.2.2.2.1; rw [List.length_replicate] at this; exact this : w1.ownsRow w.heap.size 61 1 (.slice oa k oc) k cs).alloc _) ⟨w1.heap.size, 0, none⟩ 1 1 [.slice (some ⟨wr.heap.size, 0, none⟩) n n] rfl rfl (World.news_of_block (heap_alloc_new _ _)) (RowsOwn.one (hi := wr.heap.size) (ei := 4) (w := w1) (D := boolV (List.replicate n false)) (by rw [boolV_length, List.length_replicate]; exact M1.out)) (by decide) (by unfold maxLen; omega) (by omega) (by simp; omega) _ rfl ?_)
      intro g1 cap1 w5 hown1 hg1 hat1 hlt1
      have R5 : Hid (RowsOwn w5 w.heap.size w5.heap.size 61 4 (.slice (some ⟨g1, 0, none⟩) (k + 1) cap1) (cs ++ [.slice (some ⟨wr.heap.size, 0, none⟩) n n]) (List.replicate (k + 1) (boolV (List.replicate n false)))) := by
        show RowsOwn _ _ _ _ _ _ _ _
        rw [← repl_snoc]
        have hRa := R1.out.below ((Below.refl _ _).alloc (Nat.le_refl _) (.cells #[.slice (some ⟨wr.heap.size, 0, none⟩) n n] 61))
        have hhb : hb ≤ wr.heap.size := hrow.out.2.1
        refine hRa.snoc (v := .slice oa k oc) (((show w1.ownsRow wr.heap.size 4 1 (.slice (some ⟨wr.heap.size, 0, none⟩) n n) (boolV (List.replicate n false)).length (boolV (List.replicate n false)) by rw [boolV_length, List.length_replicate]; exact M1.out).alloc _).mono hhb) ?_ hg1 ?_
        · rw [List.length_replicate]; exact hown1
        · rcases hat1 with h8 | h8
          · exact .inl h8.symm
          · refine .inr fun b hb4 => ?_
            have h9 : g1 = b := by simpa [Value.ownBlock] using hb4
            rw [← h9, h8]
            simp
      have B5 : Hid (Below w.heap.size w w5) := (B1.out.alloc B1.out.size _).grown hg1 (by simp; have := B1.out.size; omega) (fun b hb => (hrow.out.2.2.2.1.lt b hb).1)
      clear hown1 hg1 hat1 hlt1
      go_wp2
      go_roundw
      case rel => exact ⟨k + 1, _, _, by omega, by go_num, R5.out, B5.out⟩
      case measure => simp [intOf]; omega
    · obtain rfl : k = n := by omega
      obtain ⟨wo, hwo⟩ : ∃ w0, w0 = wr := ⟨_, rfl⟩
      subst hwo
      obtain ⟨oa, oc, rfl, hoa⟩ := hrow.out.shape
      rw [List.length_replicate] at hrow hoa ⊢
      have M0 : Hid (MatAt wo w.heap.size hb k (.slice oa k oc) (fun _ _ => false)) := by
        refine ⟨cs, ?_⟩
        rw [matC_none]
        exact hrow.out
      have BE := hbe
      have HOA := Lib.hid hoa
      clear hrow hbe hoa
      go_wp2
      go_loopw [7] (fun i wr => ∃ (q : Nat), q ≤ es.length ∧ i = .int .i64 q ∧ Hid (MatAt wr w.heap.size hb k (.slice oa k oc) (arcM (es.take q))) ∧ Hid (Below w.heap.size w wr))
        (fun i _ => es.length - (intOf i).toNat)
      case atStart => exact ⟨0, Nat.zero_le _, rfl, M0.out, BE.out⟩
      case round =>
        obtain ⟨q, hq, rfl, hm, hbe⟩ := hrel
        by_cases hqt : q < es.length
        · obtain ⟨g, o, rfl, hc⟩ := HK.out (by omega)
          have c0 := keeps_below hbe.out _ _ (hc q hqt).1
          have c1 := keeps_below hbe.out _ _ (hc q hqt).2
          have hok := HOK.out q hqt
          unfold ArcOk at hok
          obtain ⟨x, hx⟩ : ∃ x : Nat, es[q].1 = (x : Int) := ⟨es[q].1.toNat, by omega⟩
          obtain ⟨y, hy⟩ : ∃ y : Nat, es[q].2 = (y : Int) := ⟨es[q].2.toNat, by omega⟩
          have HT : Hid (arcM (es.take (q + 1)) = updM (arcM (es.take q)) x y) := by
            show _ = _
            rw [List.take_succ_eq_append_getElem hqt, show es[q] = ((x : Int), (y : Int)) from Prod.ext hx hy, arcM_snoc]
          rw [hx] at c0 hok
          rw [hy] at c1 hok
          have hxk : x < k := by omega
          have hyk : y < k := by omega
          obtain ⟨og, rfl⟩ := HOA.out (by omega)
          obtain ⟨r, rc, d0, d1, f1, hr1, hr2, hput⟩ := hm.out.put x y hxk hyk
          have HP : Hid (MatAt (wr.setCell ⟨r, y, none⟩ (.bool true)) w.heap.size hb k (.slice (some ⟨og, 0, none⟩) k oc) (arcM (es.take (q + 1)))) := by
            show MatAt _ _ _ _ _ _
            rw [HT.out]
            exact hput
          have HB2 := Lib.hid (hbe.out.setCell hr1 (p := ⟨r, y, none⟩) (.bool true))
          clear hc hok hx hy hput
          go_wp2
          go_region
          all_goals
            go_wp2
            go_roundw
            case rel => exact ⟨q + 1, by omega, by go_num, HP.out, HB2.out.drew⟩
            case measure => simp [intOf]; omega
        · have M1 : Hid (MatAt wr w.heap.size hb k (.slice oa k oc) (warK (arcM es) 0)) := by
            have := hm.out
            rw [List.take_of_length_le (by omega)] at this
            exact this
          obtain ⟨w3, hw3⟩ : ∃ w0, w0 = wr := ⟨_, rfl⟩
          subst hw3
          have B3 := hbe
          clear hm hbe
          go_wp2
          go_loopw [8] (fun i wr => ∃ (m : Nat), m ≤ k ∧ i = .int .i64 m ∧ Hid (MatAt wr w.heap.size hb k (.slice oa k oc) (warK (arcM es) m)) ∧ Hid (Below w.heap.size w wr))
            (fun i _ => k - (intOf i).toNat)
          case atStart => exact ⟨0, Nat.zero_le _, rfl, M1.out, B3.out⟩
          case round =>
            obtain ⟨m, hm, rfl, hma, hbe⟩ := hrel
            by_cases hmt : m < k
            · obtain ⟨og, rfl⟩ := HOA.out (by omega)
              obtain ⟨w4, hw4⟩ : ∃ w0, w0 = wr := ⟨_, rfl⟩
              subst hw4
              have P0 : Hid (MatAt w4 w.heap.size hb k (.slice (some ⟨og, 0, none⟩) k oc) (progM (warK (arcM es) m) m 0 0)) := by
                show MatAt _ _ _ _ _ _
                rw [progM_start]
                exact hma.out
              have B4 := hbe
              clear hma hbe
              go_wp2
              go_loopw [9] (fun i wr => ∃ (a : Nat), a ≤ k ∧ i = .int .i64 a ∧ Hid (MatAt wr w.heap.size hb k (.slice (some ⟨og, 0, none⟩) k oc) (progM (warK (arcM es) m) m a 0)) ∧ Hid (Below w.heap.size w wr))
                (fun i _ => k - (intOf i).toNat)
              case atStart => exact ⟨0, Nat.zero_le _, rfl, P0.out, B4.out⟩
              case round =>
                obtain ⟨a, ha, rfl, hma, hbe⟩ := hrel
                by_cases hat : a < k
                · obtain ⟨w6, hw6⟩ : ∃ w0, w0 = wr := ⟨_, rfl⟩
                  subst hw6
                  have Q0 := hma
                  have B6 := hbe
                  clear hma hbe
                  go_wp2
                  go_loopw [10] (fun i wr => ∃ (j : Nat), j ≤ k ∧ i = .int .i64 j ∧ Hid (MatAt wr w.heap.size hb k (.slice (some ⟨og, 0, none⟩) k oc) (progM (warK (arcM es) m) m a j)) ∧ Hid (Below w.heap.size w wr))
                    (fun i _ => k - (intOf i).toNat)
                  case atStart => exact ⟨0, Nat.zero_le _, rfl, Q0.out, B6.out⟩
                  case round =>
                    obtain ⟨j, hj2, rfl, hma, hbe⟩ := hrel
                    by_cases hjt : j < k
                    · obtain ⟨r1, rc1, d0, d1⟩ := hma.out.cell a m hat hmt
                      rw [progM_in] at d1
                      obtain ⟨z, hz⟩ : ∃ z, warK (arcM es) m a m = z := ⟨_, rfl⟩
                      rw [hz] at d1
                      cases z with
                      | false =>
                        have HN : Hid (MatAt wr w.heap.size hb k (.slice (some ⟨og, 0, none⟩) k oc) (progM (warK (arcM es) m) m (a + 1) 0)) := by
                          have h1 := hma.out
                          have e : progM (warK (arcM es) m) m a j = progM (warK (arcM es) m) m (a + 1) 0 := by
                            rw [← progM_skip _ _ _ hz]
                            funext x y
                            unfold progM
                            by_cases hx : x = a
                            · subst hx; simp [hz]
                            · simp [hx]
                          rw [e] at h1
                          exact h1
                        clear hz
                        go_wp2
                        go_roundw
                        case rel => exact ⟨a + 1, by omega, by go_num, HN.out, hbe.out⟩
                        case measure => simp [intOf]; omega
                      | true =>
                        obtain ⟨r2, rc2, e0, e1⟩ := hma.out.cell m j hmt hjt
                        rw [progM_from] at e1
                        obtain ⟨y, hy⟩ : ∃ y, warK (arcM es) m m j = y := ⟨_, rfl⟩
                        rw [hy] at e1
                        obtain ⟨r3, rc3, g0, g1, f1, hr1, hr2, hput⟩ := hma.out.put a j hat hjt
                        cases y with
                        | true =>
                          have HP : Hid (MatAt (wr.setCell ⟨r3, j, none⟩ (.bool true)) w.heap.size hb k (.slice (some ⟨og, 0, none⟩) k oc) (progM (warK (arcM es) m) m a (j + 1))) := by
                            have := hput
                            rw [progM_put _ _ _ _ hz hy] at this
                            exact this
                          have HB2 := Lib.hid (hbe.out.setCell hr1 (p := ⟨r3, j, none⟩) (.bool true))
                          have e3 : some (Value.slice (some ⟨r1, 0, none⟩) k rc1) = some (.slice (some ⟨r3, 0, none⟩) k rc3) := d0.symm.trans g0
                          simp at e3
                          obtain ⟨rfl, rfl⟩ := e3
                          clear hz hy hput d0
                          go_wp2
                          go_roundw
                          case rel => exact ⟨j + 1, by omega, by go_num, HP.out, HB2.out⟩
                          case measure => simp [intOf]; omega
                        | false =>
                          have HP : Hid (MatAt wr w.heap.size hb k (.slice (some ⟨og, 0, none⟩) k oc) (progM (warK (arcM es) m) m a (j + 1))) := by
                            have := hma.out
                            rw [progM_pass _ _ _ _ hy] at this
                            exact this
                          clear hz hy hput g0 g1 f1
                          go_wp2
                          go_roundw
                          case rel => exact ⟨j + 1, by omega, by go_num, HP.out, hbe.out⟩
                          case measure => simp [intOf]; omega
                    · obtain rfl : j = k := by omega
                      have HN : Hid (MatAt wr w.heap.size hb j (.slice (some ⟨og, 0, none⟩) j oc) (progM (warK (arcM es) m) m (a + 1) 0)) := by
                        have := hma.out
                        rw [progM_row (HS.out.war m)] at this
                        exact this
                      go_wp2
                      go_roundw
                      case rel => exact ⟨a + 1, by omega, by go_num, HN.out, hbe.out⟩
                      case measure => simp [intOf]; omega
                · obtain rfl : a = k := by omega
                  have HN : Hid (MatAt wr w.heap.size hb a (.slice (some ⟨og, 0, none⟩) a oc) (warK (arcM es) (m + 1))) := by
                    have := hma.out
                    rw [progM_turn HS.out] at this
                    exact this
                  go_wp2
                  go_roundw
                  case rel => exact ⟨m + 1, by omega, by go_num, HN.out, hbe.out⟩
                  case measure => simp [intOf]; omega
            · obtain rfl : m = k := by omega
              go_wp2
              go_ret
              exact ⟨_, _, rfl, hma.out, hbe.out⟩
end Go.Proofs.Ytabpbmifegfmgaa.Trm
