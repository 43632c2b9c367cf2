/- The law of ProgFault, walked. Conditions: the argument reads; the four variables hold four errors of their own. With what it stands on, in one text. -/
import Derived.Test.YtmhhghdfgdhljaaGreatDoorChecked
import Derived.Test.YtmhhghdfgdhljaaGreatDoorSTrees
import Derived.Test.YtmhhghdfgdhljaaGreatDoorTermSize
import Derived.WalkSmall
import Derived.Outline
import Derived.Test.YtmhhghdfgdhljaaGreatDoorLists
import Derived.BigQuiet
import Derived.OwnWalk
import Derived.Test.YtmhhghdfgdhljaaGreatDoorPTrees
import Derived.Test.YtmhhghdfgdhljaaGreatDoorSOwn
import Derived.Test.YtmhhghdfgdhljaaGreatDoorPOwn
import Derived.Deep.RegionWith
import Derived.Deep.RegionHeld3
import Derived.Test.YtmhhghdfgdhljaaGreatDoorPArg
import Derived.Test.YtmhhghdfgdhljaaGreatDoorPfPackF
/- The laws' count of a statement's names and what is within it, walked. Conditions: the statement lies in memory; the room left is at most 2 to the 20. -/
namespace Go.Proofs.YtmhhghdfgdhljaaGreatDoor.Trm
open Go.RowKit Own
def SzXOk (x : STree) : Prop := ∀ (v : Value) (w : World) (a : Nat), a ≤ 1048576 → SLies w x v →
    Calls Tryz.prog 177 #[v, .int .i64 (a : Int)] w fun e w' => e = .returned (.int .i64 (leftR a (szX x))) ∧ Below w.heap.size w w'
theorem szXS_any (xs : List STree) (ih : ∀ x, x ∈ xs → SzXOk x) (v : Value) (w : World) (a : Nat) (ha : a ≤ 1048576) (hl : SListAt w v xs) :
    Calls Tryz.prog 153 #[v, .int .i64 (a : Int)] w fun e w' => e = .returned (.int .i64 (leftR a (xs.length + szXS xs))) ∧ Below w.heap.size w w' := by
  obtain ⟨hlen, aa, cap, rfl, hk⟩ := hl
  have IH := Lib.hid ih
  have HK := Lib.hid hk
  clear ih hk
  by_cases hb : a < xs.length
  · have HO := Lib.hid (leftR_no (a := a) (n := xs.length + szXS xs) (by omega))
    go_enter Tryz.func153, Tryz.ntmps153
    go_wp2
    go_ret
    exact ⟨by rw [HO.out]; rfl, Below.refl _ _⟩
  · go_enter Tryz.func153, Tryz.ntmps153
    go_wp2
    go_loopw [1, 5] (fun x i wr => ∃ (k b : Nat), k ≤ xs.length ∧ b ≤ 1048576 ∧ i = .int .i64 k ∧ x = .int .i64 b ∧ Hid (leftR a (xs.length + szXS xs) = leftR b (szXS (xs.drop k))) ∧ Hid (Below w.heap.size w wr))
      (fun _ i _ => xs.length - (intOf i).toNat)
    case atStart => exact ⟨0, a - xs.length, Nat.zero_le _, by omega, rfl, by go_num, leftR_step (by omega), Below.refl _ _⟩
    case round =>
      obtain ⟨k, b, hk, hb2, rfl, rfl, hsz, hbe⟩ := hrel
      by_cases hlt : k < xs.length
      · obtain ⟨g, o, rfl, hl⟩ := HK.out (by omega)
        obtain ⟨ta, tc, ba, bc, ea, ec, c0, c1, c2, c3, c4, c5, c6, c7, hl2⟩ := (hl.keep (keeps_below hbe.out)).at k hlt
        have C := Lib.hid (IH.out xs[k] (List.getElem_mem hlt) _ wr b hb2 hl2)
        have hd := szXS_drop hlt
        by_cases hle : szX xs[k] ≤ b
        · have HS : Hid (leftR a (xs.length + szXS xs) = leftR (b - szX xs[k]) (szXS (xs.drop (k + 1)))) := by
            show leftR a (xs.length + szXS xs) = _
            rw [hsz.out, hd]; exact leftR_step hle
          rw [leftR_yes hle] at C
          clear hl hl2 hd
          go_wp2_with fail
          refine C.out.mono ?_
          rintro e w1 ⟨rfl, hb1⟩
          have HB1 := Lib.hid (hbe.out.trans (hb1.mono hbe.out.size))
          clear hb1
          go_wp2
          go_roundw
          case rel => exact ⟨k + 1, b - szX xs[k], by omega, by omega, by go_num, rfl, HS, HB1⟩
          case measure => simp [intOf]; omega
        · have HS : Hid (leftR a (xs.length + szXS xs) = -1) := by
            show leftR a (xs.length + szXS xs) = _
            rw [hsz.out, hd]; exact leftR_no (by omega)
          rw [leftR_no (by omega)] at C
          clear hl hl2 hd
          go_wp2_with fail
          refine C.out.mono ?_
          rintro e w1 ⟨rfl, hb1⟩
          have HB1 := Lib.hid (hbe.out.trans (hb1.mono hbe.out.size))
          clear hb1
          go_wp2
          go_ret
          exact ⟨by rw [HS.out]; rfl, HB1.out⟩
      · have HS : Hid (leftR a (xs.length + szXS xs) = (b : Int)) := by
          show leftR a (xs.length + szXS xs) = _
          rw [hsz.out, szXS_end (by omega), leftR_yes (by omega)]; rfl
        go_wp2
        go_ret
        exact ⟨by rw [HS.out]; rfl, hbe.out⟩
set_option maxHeartbeats 800000 in
theorem szStmt_any : ∀ x : STree, SzXOk x := streeInd fun k s t b e ihb ihe v w a ha hl => by
  obtain ⟨h1, h2, h3, h4, ta, tc, ba, bc, ea, ec, rfl, h5, h6, h7⟩ := hl
  have CT := Lib.hid (fun w a ha hk => szTerm_any t _ w a ha (h5.keep hk))
  have CB := Lib.hid (fun w a ha hk => szXS_any b ihb (.slice ba b.length bc) w a ha (SListAt.keep ⟨h3, _, _, rfl, h6⟩ hk))
  have CE := Lib.hid (fun w a ha hk => szXS_any e ihe (.slice ea e.length ec) w a ha (SListAt.keep ⟨h4, _, _, rfl, h7⟩ hk))
  have X0 := Lib.hid (Box8.new w (.int .i64 k) (.string s) (.int .i64 t.kind) (.int .i64 t.num) (.string t.name) (.slice ta t.kids.length tc) (.slice ba b.length bc) (.slice ea e.length ec) 216)
  clear ihb ihe h5 h6 h7
  by_cases hb : a < s.size
  · have HS : Hid (leftR a (szX (.node k s t b e)) = -1) := leftR_no (by rw [szX]; omega)
    go_enter Tryz.func177, Tryz.ntmps177
    go_wp2
    go_ret
    exact ⟨by rw [HS.out]; rfl, (Below.refl _ _).alloc (Nat.le_refl _) _⟩
  · have hsub : ((a : Int) - (s.size : Int)) = ((a - s.size : Nat) : Int) := by omega
    have HSub := Lib.hid hsub
    have HS : Hid (leftR a (szX (.node k s t b e)) = leftR (a - s.size) (szT t + ((b.length + szXS b) + (e.length + szXS e)))) := by
      show leftR a (szX (.node k s t b e)) = _
      rw [szX]; exact leftR_step (by omega)
    have ha1 : a - s.size ≤ 1048576 := by omega
    clear hsub
    go_enter Tryz.func177, Tryz.ntmps177
    go_wp2_with fail
    rw [HSub.out]
    generalize a - s.size = a1 at HS ha1
    refine (CT.out _ a1 ha1 (keeps_alloc _ _)).mono ?_
    rintro e1 w1 ⟨rfl, hb1⟩
    have B1 := Lib.hid (below_box1 hb1)
    have K1 := Lib.hid ((keeps_alloc w _).trans (keeps_below hb1))
    obtain ⟨p0, p1, p2, p3, p4, p5, p6, p7⟩ := X0.out.keep (keeps_below hb1)
    clear hb1
    by_cases hle : szT t ≤ a1
    · have HS1 : Hid (leftR a (szX (.node k s t b e)) = leftR (a1 - szT t) ((b.length + szXS b) + (e.length + szXS e))) := by show leftR a (szX (.node k s t b e)) = _; rw [HS.out]; exact leftR_step hle
      have ha2 : a1 - szT t ≤ 1048576 := by omega
      rw [leftR_yes hle]
      generalize a1 - szT t = a2 at HS1 ha2
      go_wp2_with fail
      refine (CB.out _ a2 ha2 K1.out).mono ?_
      rintro e2 w2 ⟨rfl, hb2⟩
      have B2 := Lib.hid (B1.out.trans (hb2.mono B1.out.size))
      have K2 := Lib.hid (K1.out.trans (keeps_below hb2))
      have X2 := Lib.hid ((Box8.keep ⟨p0, p1, p2, p3, p4, p5, p6, p7⟩ (keeps_below hb2)))
      clear hb2 p0 p1 p2 p3 p4 p5 p6 p7
      obtain ⟨p0, p1, p2, p3, p4, p5, p6, p7⟩ := X2.out
      by_cases hle2 : b.length + szXS b ≤ a2
      · have HS2 : Hid (leftR a (szX (.node k s t b e)) = leftR (a2 - (b.length + szXS b)) (e.length + szXS e)) := by show leftR a (szX (.node k s t b e)) = _; rw [HS1.out]; exact leftR_step hle2
        have ha3 : a2 - (b.length + szXS b) ≤ 1048576 := by omega
        rw [leftR_yes hle2]
        generalize a2 - (b.length + szXS b) = a3 at HS2 ha3
        go_wp2_with fail
        refine (CE.out _ a3 ha3 K2.out).mono ?_
        rintro e3 w3 ⟨rfl, hb3⟩
        have B3 := Lib.hid (B2.out.trans (hb3.mono B2.out.size))
        clear hb3
        by_cases hle3 : e.length + szXS e ≤ a3
        · have HL := Lib.hid (leftR_yes hle3)
          rw [leftR_yes hle3]
          go_wp2
          go_ret
          exact ⟨by rw [HS2.out, HL.out]; rfl, B3.out⟩
        · have HL := Lib.hid (leftR_no (a := a3) (n := e.length + szXS e) (by omega))
          rw [HL.out]
          go_wp2
          go_ret
          exact ⟨by rw [HS2.out, HL.out]; rfl, B3.out⟩
      · have HL := Lib.hid (leftR_no (a := a2) (n := b.length + szXS b) (by omega))
        have HS2 : Hid (leftR a (szX (.node k s t b e)) = -1) := by show leftR a (szX (.node k s t b e)) = _; rw [HS1.out]; exact leftR_no (by omega)
        rw [HL.out]
        go_wp2
        go_ret
        exact ⟨by rw [HS2.out]; rfl, B2.out⟩
    · have HL := Lib.hid (leftR_no (a := a1) (n := szT t) (by omega))
      have HS2 : Hid (leftR a (szX (.node k s t b e)) = -1) := by show leftR a (szX (.node k s t b e)) = _; rw [HS.out]; exact leftR_no (by omega)
      rw [HL.out]
      go_wp2
      go_ret
      exact ⟨by rw [HS2.out]; rfl, B1.out⟩
end Go.Proofs.YtmhhghdfgdhljaaGreatDoor.Trm
/- The laws' helpers over lists of texts and of numbers, walked: compared. Conditions: the lists lie in memory. -/
namespace Go.Proofs.YtmhhghdfgdhljaaGreatDoor.Trm
open Go.RowKit Own
theorem infoStrL : (Tryz.prog.info? 9).map (fun i => (i.zero, i.size, i.bytes)) = some (some (.string ⟨#[]⟩), 1, 16) := by kernel_rfl
theorem infoIntL : (Tryz.prog.info? 3).map (fun i => (i.zero, i.size, i.bytes)) = some (some (.int .i64 0), 1, 8) := by kernel_rfl
theorem below_noneL {w w' : World} (h : w.grownBy w' none) : Below w.heap.size w w' := ⟨h.os, h.tape, h.output, h.size, fun k hk => h.block k hk (by simp)⟩
theorem set_mid (ys : List Value) (z : Value) (zs : List Value) (u : Value) (j : Nat) (h : ys.length = j) : (ys ++ z :: zs).set j u = (ys ++ [u]) ++ zs := by
  subst h
  rw [List.set_append_right _ _ (Nat.le_refl _), Nat.sub_self, List.set_cons_zero]
  simp
set_option maxHeartbeats 400000 in
theorem eqStrs_at (u v : Value) (ss : List ByteArray) (w : World) (h1 : StrsAt w ss u) (h2 : StrsAt w ss v) :
    Calls Tryz.prog 56 #[u, v] w fun e w' => e = .returned (.bool true) ∧ Below w.heap.size w w' := by
  obtain ⟨a1, c1, rfl, hm, ha1⟩ := h1
  obtain ⟨a2, c2, rfl, _, ha2⟩ := h2
  have HA1 := Lib.hid ha1
  have HA2 := Lib.hid ha2
  clear ha1 ha2
  go_enter Tryz.func56, Tryz.ntmps56
  go_wp2
  go_loopw [5] (fun i wr => ∃ k m : Nat, k ≤ ss.length ∧ i = .int .i64 k ∧ wr = w.drewN m)
    (fun i _ => ss.length - (intOf i).toNat)
  case atStart => exact ⟨0, 0, Nat.zero_le _, rfl, (World.drewN_zero _).symm⟩
  case round =>
    obtain ⟨k, m, hk, rfl, rfl⟩ := hrel
    by_cases hlt : k < ss.length
    · obtain ⟨g1, o1, rfl, q1⟩ := HA1.out (by omega)
      obtain ⟨g2, o2, rfl, q2⟩ := HA2.out (by omega)
      have d1 := q1 k hlt
      have d2 := q2 k hlt
      clear q1 q2
      go_wp2
      go_quiet (fail)
      go_wp2
      go_roundw
      case rel => exact ⟨k + 1, m + nq, by omega, by go_num, rfl⟩
      case measure => simp [intOf]; omega
    · go_wp2
      go_ret
      exact ⟨rfl, below_drewN (Below.refl _ _) _⟩
end Go.Proofs.YtmhhghdfgdhljaaGreatDoor.Trm
/- The laws' helpers over lists of texts and of numbers, walked: counted, copied, compared. Conditions: the lists lie in memory; they have at most 2 to the 20 elements. -/
namespace Go.Proofs.YtmhhghdfgdhljaaGreatDoor.Trm
open Go.RowKit Own
set_option maxHeartbeats 400000 in
theorem toStrings_any (ns : List ByteArray) (v : Value) (w : World) (hl : StrsAt w ns v) (hz : ns.length ≤ 1048576) :
    Calls Tryz.prog 54 #[v] w fun e w' => ∃ v', e = .returned v' ∧ w'.ownsRow w.heap.size 9 1 v' ns.length (strV ns) ∧ Below w.heap.size w w' := by
  obtain ⟨i0, hi, hz0, hz1, hz2⟩ := info_parts infoStrL
  obtain ⟨a, cap, rfl, h1, h2⟩ := hl
  have HK := Lib.hid h2
  clear h2
  go_enter Tryz.func54, Tryz.ntmps54
  go_wp2_with (at_make; refine wpList_make_full _ rfl (.tmp 6) (.tmp 6) 24 rfl w.heap.size 9 i0 _ 1 Tryz.underlying24 hi hz0 hz1 .i64 .i64 _ _ ns.length rfl rfl rfl rfl (by rw [hz2]; omega) (by unfold maxLen; omega) (Nat.le_refl _) ?_)
  intro w1 hown hg
  have HO := Lib.hid hown
  have HG := Lib.hid hg
  clear hown hg
  go_wp2
  go_loopw [4] (fun i wr => ∃ (k : Nat) (zs : List Value), k ≤ ns.length ∧ i = .int .i64 k ∧ Hid (wr.ownsRow w.heap.size 9 1 (.slice (some ⟨w.heap.size, 0, none⟩) ns.length ns.length) ns.length (strV (ns.take k) ++ zs)) ∧ Hid (Below w.heap.size w wr))
    (fun i _ => ns.length - (intOf i).toNat)
  case atStart => exact ⟨0, _, Nat.zero_le _, rfl, HO.out, below_noneL HG.out⟩
  case round =>
    obtain ⟨k, zs, hk, rfl, hrow, hbe⟩ := hrel
    by_cases hlt : k < ns.length
    · obtain ⟨g, o, rfl, hc⟩ := HK.out (by omega)
      have c0 := keeps_below hbe.out _ _ (hc k hlt)
      have hls := hrow.out.1
      simp only [strV, List.length_append, List.length_map, List.length_take] at hls
      obtain ⟨z, zs2, rfl⟩ : ∃ z zs2, zs = z :: zs2 := by
        cases zs with
        | nil => simp at hls; omega
        | cons z r => exact ⟨z, r, rfl⟩
      have f0 := hrow.out.frozenAt k
      obtain ⟨u0, s0⟩ : ∃ u, wr.cell? ⟨w.heap.size, k, none⟩ = some u := ⟨_, (hrow.out.cellAt k (by omega)).trans (List.getElem?_eq_getElem (by rw [hrow.out.1]; omega))⟩
      obtain ⟨hr2, hg2⟩ := hrow.out.stored k (.string ns[k])
      rw [set_mid _ _ _ _ k (by simp [strV]; omega)] at hr2
      have HR2 : Hid ((wr.setCell ⟨w.heap.size, k, none⟩ (.string ns[k])).ownsRow w.heap.size 9 1 (.slice (some ⟨w.heap.size, 0, none⟩) ns.length ns.length) ns.length (strV (ns.take (k + 1)) ++ zs2)) := by
        have e : strV (ns.take (k + 1)) = strV (ns.take k) ++ [Value.string ns[k]] := by rw [List.take_succ_eq_append_getElem hlt]; simp only [strV, List.map_append, List.map_cons, List.map_nil]
        rw [e]
        exact hr2
      have HB2 := Lib.hid (hbe.out.grown hg2 hbe.out.size (fun b hb => by cases hb; exact Nat.le_refl _))
      clear hc hls hr2 hg2
      go_wp2
      go_roundw
      case rel => exact ⟨k + 1, zs2, by omega, by go_num, HR2, HB2⟩
      case measure => simp [intOf]; omega
    · obtain rfl : k = ns.length := by omega
      have h1 := hrow.out
      rw [List.take_length] at h1
      have hz : zs = [] := by have := h1.1; simpa [strV] using this
      rw [hz, List.append_nil] at h1
      have H1 := Lib.hid h1
      clear h1 hz
      go_wp2
      go_ret
      exact ⟨_, rfl, H1.out, hbe.out⟩
def szB (ss : List ByteArray) : Nat := (ss.map (·.size)).sum
theorem szB_drop {ss : List ByteArray} {i : Nat} (h : i < ss.length) : szB (ss.drop i) = ss[i].size + szB (ss.drop (i + 1)) := by unfold szB; rw [List.drop_eq_getElem_cons h, List.map_cons, List.sum_cons]
theorem szB_end {ss : List ByteArray} {i : Nat} (h : ss.length ≤ i) : szB (ss.drop i) = 0 := by rw [List.drop_of_length_le h]; rfl
set_option maxHeartbeats 400000 in
theorem szStrings_any (ss : List ByteArray) (v : Value) (w : World) (a : Nat) (ha : a ≤ 1048576) (h1 : StrsAt w ss v) (hs : ∀ s, s ∈ ss → s.size ≤ 9223372036854775807) :
    Calls Tryz.prog 52 #[v, .int .i64 (a : Int)] w fun e w' => e = .returned (.int .i64 (leftR a (ss.length + szB ss))) ∧ w = w' := by
  obtain ⟨aa, cap, rfl, hm, ha1⟩ := h1
  have HA := Lib.hid ha1
  have HS0 := Lib.hid hs
  clear ha1 hs
  by_cases hb : a < ss.length
  · have HO := Lib.hid (leftR_no (a := a) (n := ss.length + szB ss) (by omega))
    go_enter Tryz.func52, Tryz.ntmps52
    go_wp2
    go_ret
    exact ⟨by rw [HO.out]; rfl, rfl⟩
  · go_enter Tryz.func52, Tryz.ntmps52
    go_wp2
    go_loop [1, 5] (fun x i => ∃ (k b : Nat), k ≤ ss.length ∧ b ≤ 1048576 ∧ i = .int .i64 k ∧ x = .int .i64 b ∧ Hid (leftR a (ss.length + szB ss) = leftR b (szB (ss.drop k))))
      (fun _ i => ss.length - (intOf i).toNat)
    case atStart => exact ⟨0, a - ss.length, Nat.zero_le _, by omega, rfl, by go_num, leftR_step (by omega)⟩
    case round =>
      obtain ⟨k, b, hk, hb2, rfl, rfl, hsz⟩ := hrel
      by_cases hlt : k < ss.length
      · obtain ⟨g, o, rfl, q1⟩ := HA.out (by omega)
        have d1 := q1 k hlt
        have hz := HS0.out _ (List.getElem_mem hlt)
        have hd := szB_drop hlt
        clear q1
        by_cases hle : ss[k].size ≤ b
        · have HS : Hid (leftR a (ss.length + szB ss) = leftR (b - ss[k].size) (szB (ss.drop (k + 1)))) := by
            show leftR a (ss.length + szB ss) = _
            rw [hsz.out, hd]; exact leftR_step hle
          clear hd
          go_wp2
          go_round
          case rel => exact ⟨k + 1, b - ss[k].size, by omega, by omega, by go_num, by go_num, HS⟩
          case measure => simp [intOf]; omega
        · have HS : Hid (leftR a (ss.length + szB ss) = -1) := by
            show leftR a (ss.length + szB ss) = _
            rw [hsz.out, hd]; exact leftR_no (by omega)
          clear hd
          go_wp2
          go_ret
          exact ⟨by rw [HS.out]; rfl, rfl⟩
      · have HS : Hid (leftR a (ss.length + szB ss) = (b : Int)) := by
          show leftR a (ss.length + szB ss) = _
          rw [hsz.out, szB_end (by omega), leftR_yes (by omega)]; rfl
        go_wp2
        go_ret
        exact ⟨by rw [HS.out]; rfl, rfl⟩
end Go.Proofs.YtmhhghdfgdhljaaGreatDoor.Trm
/- The laws' count of a program's names and statements, walked. Conditions: the program lies in memory; the room left is at most 2 to the 20. -/
namespace Go.Proofs.YtmhhghdfgdhljaaGreatDoor.Trm
open Go.RowKit Own
theorem szProc_any (p : PrT) (v : Value) (w : World) (a : Nat) (ha : a ≤ 1048576) (hl : PrLies w p v) :
    Calls Tryz.prog 107 #[v, .int .i64 (a : Int)] w fun e w' => e = .returned (.int .i64 (leftR a (szPr p))) ∧ Below w.heap.size w w' := by
  obtain ⟨h1, ba, bc, rfl, h6⟩ := hl
  have CB := Lib.hid (fun w a ha hk => szXS_any p.body (fun x _ => szStmt_any x) (.slice ba p.body.length bc) w a ha (h6.keep hk))
  have X0 := Lib.hid (Box2.new w (.string p.name) (.slice ba p.body.length bc) 133)
  clear h6
  by_cases hb : a < p.name.size
  · have HS : Hid (leftR a (szPr p) = -1) := leftR_no (by rw [szPr]; omega)
    go_enter Tryz.func107, Tryz.ntmps107
    go_wp2
    go_ret
    exact ⟨by rw [HS.out]; rfl, (Below.refl _ _).alloc (Nat.le_refl _) _⟩
  · have hsub : ((a : Int) - (p.name.size : Int)) = ((a - p.name.size : Nat) : Int) := by omega
    have HSub := Lib.hid hsub
    have HS : Hid (leftR a (szPr p) = leftR (a - p.name.size) (p.body.length + szXS p.body)) := by
      show leftR a (szPr p) = _
      rw [szPr]; exact leftR_step (by omega)
    have ha1 : a - p.name.size ≤ 1048576 := by omega
    clear hsub
    go_enter Tryz.func107, Tryz.ntmps107
    go_wp2_with fail
    rw [HSub.out]
    generalize a - p.name.size = a1 at HS ha1
    refine (CB.out _ a1 ha1 (keeps_alloc _ _)).mono ?_
    rintro e1 w1 ⟨rfl, hb1⟩
    have B1 := Lib.hid (below_box1 hb1)
    clear hb1
    by_cases hle : p.body.length + szXS p.body ≤ a1
    · have HL := Lib.hid (leftR_yes hle)
      rw [leftR_yes hle]
      go_wp2
      go_ret
      exact ⟨by rw [HS.out, HL.out]; rfl, B1.out⟩
    · have HL := Lib.hid (leftR_no (a := a1) (n := p.body.length + szXS p.body) (by omega))
      rw [HL.out]
      go_wp2
      go_ret
      exact ⟨by rw [HS.out, HL.out]; rfl, B1.out⟩
theorem szPrs_any (xs : List PrT) (v : Value) (w : World) (a : Nat) (ha : a ≤ 1048576) (hl : PrsAt w v xs) :
    Calls Tryz.prog 53 #[v, .int .i64 (a : Int)] w fun e w' => e = .returned (.int .i64 (leftR a (xs.length + szPrs xs))) ∧ Below w.heap.size w w' := by
  obtain ⟨hlen, aa, cap, rfl, hk⟩ := hl
  have HK := Lib.hid hk
  clear hk
  by_cases hb : a < xs.length
  · have HO := Lib.hid (leftR_no (a := a) (n := xs.length + szPrs xs) (by omega))
    go_enter Tryz.func53, Tryz.ntmps53
    go_wp2
    go_ret
    exact ⟨by rw [HO.out]; rfl, Below.refl _ _⟩
  · go_enter Tryz.func53, Tryz.ntmps53
    go_wp2
    go_loopw [1, 5] (fun x i wr => ∃ (k b : Nat), k ≤ xs.length ∧ b ≤ 1048576 ∧ i = .int .i64 k ∧ x = .int .i64 b ∧ Hid (leftR a (xs.length + szPrs xs) = leftR b (szPrs (xs.drop k))) ∧ Hid (Below w.heap.size w wr))
      (fun _ i _ => xs.length - (intOf i).toNat)
    case atStart => exact ⟨0, a - xs.length, Nat.zero_le _, by omega, rfl, by go_num, leftR_step (by omega), Below.refl _ _⟩
    case round =>
      obtain ⟨k, b, hk, hb2, rfl, rfl, hsz, hbe⟩ := hrel
      by_cases hlt : k < xs.length
      · obtain ⟨g, o, rfl, hl⟩ := HK.out (by omega)
        obtain ⟨h0, ba, bc, c0, c1, hl2⟩ := (hl k hlt).keep (keeps_below hbe.out)
        have C := Lib.hid (szProc_any xs[k] _ wr b hb2 ⟨h0, ba, bc, rfl, hl2⟩)
        have hd := szPrs_drop hlt
        by_cases hle : szPr xs[k] ≤ b
        · have HS : Hid (leftR a (xs.length + szPrs xs) = leftR (b - szPr xs[k]) (szPrs (xs.drop (k + 1)))) := by
            show leftR a (xs.length + szPrs xs) = _
            rw [hsz.out, hd]; exact leftR_step hle
          rw [leftR_yes hle] at C
          clear hl hl2 hd
          go_wp2_with fail
          refine C.out.mono ?_
          rintro e w1 ⟨rfl, hb1⟩
          have HB1 := Lib.hid (hbe.out.trans (hb1.mono hbe.out.size))
          clear hb1
          go_wp2
          go_roundw
          case rel => exact ⟨k + 1, b - szPr xs[k], by omega, by omega, by go_num, rfl, HS, HB1⟩
          case measure => simp [intOf]; omega
        · have HS : Hid (leftR a (xs.length + szPrs xs) = -1) := by
            show leftR a (xs.length + szPrs xs) = _
            rw [hsz.out, hd]; exact leftR_no (by omega)
          rw [leftR_no (by omega)] at C
          clear hl hl2 hd
          go_wp2_with fail
          refine C.out.mono ?_
          rintro e w1 ⟨rfl, hb1⟩
          have HB1 := Lib.hid (hbe.out.trans (hb1.mono hbe.out.size))
          clear hb1
          go_wp2
          go_ret
          exact ⟨by rw [HS.out]; rfl, HB1.out⟩
      · have HS : Hid (leftR a (xs.length + szPrs xs) = (b : Int)) := by
          show leftR a (xs.length + szPrs xs) = _
          rw [hsz.out, szPrs_end (by omega), leftR_yes (by omega)]; rfl
        go_wp2
        go_ret
        exact ⟨by rw [HS.out]; rfl, hbe.out⟩
theorem szNs_eq (ss : List ByteArray) : szNs ss = szB ss := rfl
set_option maxHeartbeats 800000 in
theorem szProg_any (x : PTree) (v : Value) (w : World) (a : Nat) (ha : a ≤ 1048576) (hl : PLies w x v) :
    Calls Tryz.prog 17 #[v, .int .i64 (a : Int)] w fun e w' => e = .returned (.int .i64 (leftR a (szP x))) ∧ Below w.heap.size w w' := by
  obtain ⟨ga, gc, la, lc, pa, pc, rfl, h1, h2, h3⟩ := hl
  have C1 := Lib.hid (fun w a ha hk => szStrings_any x.globals (.slice ga x.globals.length gc) w a ha (h1.1.keep hk) h1.2)
  have C2 := Lib.hid (fun w a ha hk => szStrings_any x.locks (.slice la x.locks.length lc) w a ha (h2.1.keep hk) h2.2)
  have C3 := Lib.hid (fun w a ha hk => szPrs_any x.procs (.slice pa x.procs.length pc) w a ha (h3.keep hk))
  have X0 := Lib.hid (Box3.new w (.slice ga x.globals.length gc) (.slice la x.locks.length lc) (.slice pa x.procs.length pc) 49)
  clear h1 h2 h3
  have HE : Hid (szP x = (x.globals.length + szB x.globals) + ((x.locks.length + szB x.locks) + (x.procs.length + szPrs x.procs))) := rfl
  generalize szP x = n at HE
  generalize x.globals.length + szB x.globals = n1 at HE C1
  generalize x.locks.length + szB x.locks = n2 at HE C2
  generalize x.procs.length + szPrs x.procs = n3 at HE C3
  obtain rfl := HE.out
  clear HE
  have B0 := Lib.hid ((Below.refl w.heap.size w).alloc (Nat.le_refl _) (.cells #[.slice ga x.globals.length gc, .slice la x.locks.length lc, .slice pa x.procs.length pc] 49))
  go_enter Tryz.func17, Tryz.ntmps17
  go_wp2_with fail
  refine (C1.out _ a ha (keeps_alloc _ _)).mono ?_
  rintro e1 w1 ⟨rfl, rfl⟩
  obtain ⟨p0, p1, p2⟩ := X0.out
  by_cases hle : n1 ≤ a
  · have HS1 : Hid (leftR a (n1 + (n2 + n3)) = leftR (a - n1) (n2 + n3)) := leftR_step hle
    have ha2 : a - n1 ≤ 1048576 := by omega
    rw [leftR_yes hle]
    generalize a - n1 = a2 at HS1 ha2
    go_wp2_with fail
    refine (C2.out _ a2 ha2 (keeps_alloc _ _)).mono ?_
    rintro e2 w2 ⟨rfl, rfl⟩
    by_cases hle2 : n2 ≤ a2
    · have HS2 : Hid (leftR a (n1 + (n2 + n3)) = leftR (a2 - n2) n3) := by show _ = _; rw [HS1.out]; exact leftR_step hle2
      have ha3 : a2 - n2 ≤ 1048576 := by omega
      rw [leftR_yes hle2]
      generalize a2 - n2 = a3 at HS2 ha3
      go_wp2_with fail
      refine (C3.out _ a3 ha3 (keeps_alloc _ _)).mono ?_
      rintro e3 w3 ⟨rfl, hb3⟩
      have B3 := Lib.hid (below_box1 hb3)
      clear hb3
      by_cases hle3 : n3 ≤ a3
      · have HL := Lib.hid (leftR_yes hle3)
        rw [leftR_yes hle3]
        go_wp2
        go_ret
        exact ⟨by rw [HS2.out, HL.out]; rfl, B3.out⟩
      · have HL := Lib.hid (leftR_no (a := a3) (n := n3) (by omega))
        rw [HL.out]
        go_wp2
        go_ret
        exact ⟨by rw [HS2.out, HL.out]; rfl, B3.out⟩
    · have HL := Lib.hid (leftR_no (a := a2) (n := n2) (by omega))
      have HS2 : Hid (leftR a (n1 + (n2 + n3)) = -1) := by show _ = _; rw [HS1.out]; exact leftR_no (by omega)
      rw [HL.out]
      go_wp2
      go_ret
      exact ⟨by rw [HS2.out]; rfl, B0.out⟩
  · have HL := Lib.hid (leftR_no (a := a) (n := n1) (by omega))
    have HS2 : Hid (leftR a (n1 + (n2 + n3)) = -1) := leftR_no (by omega)
    rw [HL.out]
    go_wp2
    go_ret
    exact ⟨by rw [HS2.out]; rfl, B0.out⟩
end Go.Proofs.YtmhhghdfgdhljaaGreatDoor.Trm
/- The laws' copy of a statement, walked. Conditions: the statement lies in memory; it has at most 2 to the 20 names and statements at once. -/
namespace Go.Proofs.YtmhhghdfgdhljaaGreatDoor.Trm
open Go.RowKit Own
theorem infoStmt : (Tryz.prog.info? 109).map (fun i => (i.zero, i.size, i.bytes)) = some (some (.agg #[.int .i64 0, .string ⟨#[]⟩, .int .i64 0, .int .i64 0, .string ⟨#[]⟩, .slice none 0 0, .slice none 0 0, .slice none 0 0]), 8, 128) := by kernel_rfl
def ToXOk (x : STree) : Prop := ∀ (v : Value) (w : World), szX x ≤ 1048576 → SLies w x v →
    Calls Tryz.prog 178 #[v] w fun e w' => ∃ v', e = .returned v' ∧ SOwns w' w.heap.size w'.heap.size x v' ∧ Below w.heap.size w w'
theorem row_some8 {w : World} {lo : Nat} {e : TypeId} {g cap n j : Nat} {xs : List Value} (h : w.ownsRow lo e 8 (.slice (some ⟨g, 0, none⟩) n cap) n xs) (hj : j < n * 8) : ∃ u, w.cell? ⟨g, j, none⟩ = some u := by
  refine ⟨xs[j]'(by rw [h.1]; exact hj), ?_⟩
  rw [h.cellAt j hj]; simp
theorem set8 : ∀ (ys : List Value) (z0 z1 z2 z3 z4 z5 z6 z7 v0 v1 v2 v3 v4 v5 v6 v7 : Value) (r : List Value) (j : Nat), ys.length = j → ((((((((ys ++ z0 :: z1 :: z2 :: z3 :: z4 :: z5 :: z6 :: z7 :: r).set j v0).set (j + 1) v1).set (j + 2) v2).set (j + 3) v3).set (j + 4) v4).set (j + 5) v5).set (j + 6) v6).set (j + 7) v7 = ys ++ [v0, v1, v2, v3, v4, v5, v6, v7] ++ r
  | [], _, _, _, _, _, _, _, _, _, _, _, _, _, _, _, _, _, _, h => by subst h; rfl
  | y :: ys, z0, z1, z2, z3, z4, z5, z6, z7, v0, v1, v2, v3, v4, v5, v6, v7, r, j, h => by
    subst h
    have e := set8 ys z0 z1 z2 z3 z4 z5 z6 z7 v0 v1 v2 v3 v4 v5 v6 v7 r ys.length rfl
    simp only [List.cons_append, List.length_cons, List.set_cons_succ, Nat.add_right_comm _ 1] at e ⊢
    rw [e]
theorem row_put8 {w : World} {lo : Nat} {e : TypeId} {g cap n k : Nat} {ys zs : List Value} (h : w.ownsRow lo e 8 (.slice (some ⟨g, 0, none⟩) n cap) n (ys ++ zs)) (hy : ys.length = k * 8) (hk : k < n) (v0 v1 v2 v3 v4 v5 v6 v7 : Value) :
    ∃ zs2, ((((((((w.setCell ⟨g, k * 8, none⟩ v0).setCell ⟨g, k * 8 + 1, none⟩ v1).setCell ⟨g, k * 8 + 2, none⟩ v2).setCell ⟨g, k * 8 + 3, none⟩ v3).setCell ⟨g, k * 8 + 4, none⟩ v4).setCell ⟨g, k * 8 + 5, none⟩ v5).setCell ⟨g, k * 8 + 6, none⟩ v6).setCell ⟨g, k * 8 + 7, none⟩ v7).ownsRow lo e 8 (.slice (some ⟨g, 0, none⟩) n cap) n (ys ++ [v0, v1, v2, v3, v4, v5, v6, v7] ++ zs2) ∧
      w.grownBy ((((((((w.setCell ⟨g, k * 8, none⟩ v0).setCell ⟨g, k * 8 + 1, none⟩ v1).setCell ⟨g, k * 8 + 2, none⟩ v2).setCell ⟨g, k * 8 + 3, none⟩ v3).setCell ⟨g, k * 8 + 4, none⟩ v4).setCell ⟨g, k * 8 + 5, none⟩ v5).setCell ⟨g, k * 8 + 6, none⟩ v6).setCell ⟨g, k * 8 + 7, none⟩ v7) (some g) := by
  have hl := h.1
  rw [List.length_append, hy] at hl
  obtain ⟨z0, z1, z2, z3, z4, z5, z6, z7, r, rfl⟩ : ∃ z0 z1 z2 z3 z4 z5 z6 z7 r, zs = z0 :: z1 :: z2 :: z3 :: z4 :: z5 :: z6 :: z7 :: r := by
    match zs, hl with
    | z0 :: z1 :: z2 :: z3 :: z4 :: z5 :: z6 :: z7 :: r, _ => exact ⟨z0, z1, z2, z3, z4, z5, z6, z7, r, rfl⟩
    | [], hl => exact absurd hl (by simp; omega)
    | [_], hl => exact absurd hl (by simp; omega)
    | [_, _], hl => exact absurd hl (by simp; omega)
    | [_, _, _], hl => exact absurd hl (by simp; omega)
    | [_, _, _, _], hl => exact absurd hl (by simp; omega)
    | [_, _, _, _, _], hl => exact absurd hl (by simp; omega)
    | [_, _, _, _, _, _], hl => exact absurd hl (by simp; omega)
    | [_, _, _, _, _, _, _], hl => exact absurd hl (by simp; omega)
  have a0 := h.stored (k * 8) v0
  have a1 := a0.1.stored (k * 8 + 1) v1
  have a2 := a1.1.stored (k * 8 + 2) v2
  have a3 := a2.1.stored (k * 8 + 3) v3
  have a4 := a3.1.stored (k * 8 + 4) v4
  have a5 := a4.1.stored (k * 8 + 5) v5
  have a6 := a5.1.stored (k * 8 + 6) v6
  have a7 := a6.1.stored (k * 8 + 7) v7
  refine ⟨r, ?_, a0.2.trans (a1.2.trans (a2.2.trans (a3.2.trans (a4.2.trans (a5.2.trans (a6.2.trans (a7.2)))))))⟩
  have := a7.1
  rw [set8 ys z0 z1 z2 z3 z4 z5 z6 z7 v0 v1 v2 v3 v4 v5 v6 v7 r (k * 8) hy] at this
  exact this
set_option maxHeartbeats 1600000 in
theorem toXS_any (xs : List STree) (ih : ∀ x, x ∈ xs → ToXOk x) (v : Value) (w : World) (hsz : xs.length + szXS xs ≤ 1048576) (hl : SListAt w v xs) :
    Calls Tryz.prog 154 #[v] w fun e w' => ∃ kv, e = .returned kv ∧ SOwnsK w' w.heap.size w'.heap.size xs kv ∧ Below w.heap.size w w' := by
  obtain ⟨hlen0, aa, cap, rfl, hk⟩ := hl
  obtain ⟨i0, hi, hz0, hz1, hz2⟩ := info_parts infoStmt
  have IH := Lib.hid ih
  have HK := Lib.hid hk
  have HZ := Lib.hid hsz
  have hlen : xs.length ≤ 1048576 := by omega
  clear ih hk hsz hlen0
  go_enter Tryz.func154, Tryz.ntmps154
  go_wp2_with (at_make; refine wpList_make_full _ rfl (.tmp 6) (.tmp 6) 38 rfl w.heap.size 109 i0 _ 8 Tryz.underlying38 hi hz0 hz1 .i64 .i64 _ _ xs.length rfl rfl rfl rfl (by rw [hz2]; omega) (by unfold maxLen; omega) (Nat.le_refl _) ?_)
  intro w1 hown hg
  have HO := Lib.hid hown
  have HG := Lib.hid hg
  clear hown hg
  go_wp2
  go_loopw [4] (fun i wr => ∃ (k : Nat) (ys zs : List Value), k ≤ xs.length ∧ i = .int .i64 k ∧ Hid (ys.length = k * 8) ∧ Hid (wr.ownsRow w.heap.size 109 8 (.slice (some ⟨w.heap.size, 0, none⟩) xs.length xs.length) xs.length (ys ++ zs)) ∧ Hid (SOwnsL wr (w.heap.size + 1) wr.heap.size (xs.take k) ys) ∧ Hid (Below w.heap.size w wr))
    (fun i _ => xs.length - (intOf i).toNat)
  case atStart => exact ⟨0, [], _, Nat.zero_le _, rfl, rfl, HO.out, ⟨rfl, by have := HO.out.lt _ rfl; omega⟩, below_none HG.out⟩
  case round =>
    obtain ⟨k, ys, zs, hk, rfl, hy, hrow, hol, hbe⟩ := hrel
    by_cases hlt : k < xs.length
    · obtain ⟨g, o, rfl, hl⟩ := HK.out (by omega)
      obtain ⟨ta, tc, ba, bc, ea, ec, c0, c1, c2, c3, c4, c5, c6, c7, hl2⟩ := (hl.keep (keeps_below hbe.out)).at k hlt
      have C := Lib.hid (IH.out xs[k] (List.getElem_mem hlt) _ wr (by have := szXS_mem (List.getElem_mem hlt); have := HZ.out; omega) hl2)
      clear hl hl2
      go_wp2_with fail
      refine C.out.mono ?_
      rintro e w2 ⟨v2, rfl, how, hb2⟩
      obtain ⟨va, vc, vb, vd, ve, vf, rfl⟩ := how.lies.shape
      have HOw := Lib.hid how
      have HB2 := Lib.hid hb2
      have R2 := Lib.hid (row_below hrow.out hb2)
      clear how hb2 c0 c1 c2 c3 c4 c5 c6 c7
      have f0 := R2.out.frozenAt (k * 8)
      have f1 := R2.out.frozenAt (k * 8 + 1)
      have f2 := R2.out.frozenAt (k * 8 + 2)
      have f3 := R2.out.frozenAt (k * 8 + 3)
      have f4 := R2.out.frozenAt (k * 8 + 4)
      have f5 := R2.out.frozenAt (k * 8 + 5)
      have f6 := R2.out.frozenAt (k * 8 + 6)
      have f7 := R2.out.frozenAt (k * 8 + 7)
      obtain ⟨u0, s0⟩ := row_some8 R2.out (j := k * 8) (by omega)
      obtain ⟨u1, s1⟩ := row_some8 R2.out (j := k * 8 + 1) (by omega)
      obtain ⟨u2, s2⟩ := row_some8 R2.out (j := k * 8 + 2) (by omega)
      obtain ⟨u3, s3⟩ := row_some8 R2.out (j := k * 8 + 3) (by omega)
      obtain ⟨u4, s4⟩ := row_some8 R2.out (j := k * 8 + 4) (by omega)
      obtain ⟨u5, s5⟩ := row_some8 R2.out (j := k * 8 + 5) (by omega)
      obtain ⟨u6, s6⟩ := row_some8 R2.out (j := k * 8 + 6) (by omega)
      obtain ⟨u7, s7⟩ := row_some8 R2.out (j := k * 8 + 7) (by omega)
      obtain ⟨zs2, hr4, hg4⟩ := row_put8 R2.out hy.out hlt (.int .i64 xs[k].kind) (.string xs[k].name) (.int .i64 xs[k].term.kind) (.int .i64 xs[k].term.num) (.string xs[k].term.name) (.slice va xs[k].term.kids.length vc) (.slice vb xs[k].body.length vd) (.slice ve xs[k].els.length vf)
      have HR4 := Lib.hid hr4
      have HG4 := Lib.hid hg4
      clear hr4 hg4
      go_wp2
      go_roundw
      case rel =>
        refine ⟨k + 1, ys ++ cellsX xs[k] (.slice va xs[k].term.kids.length vc) (.slice vb xs[k].body.length vd) (.slice ve xs[k].els.length vf), zs2, by omega, by go_num, ?_, HR4.out, ?_, ?_⟩
        · show _ = _
          rw [List.length_append, hy.out]; simp [cellsX]; omega
        · have hlt0 : w.heap.size < wr.heap.size := (hrow.out.lt _ rfl).2
          have e1 : List.take (k + 1) xs = List.take k xs ++ [xs[k]] := List.take_succ_eq_append_getElem hlt
          rw [e1]
          refine SOwnsL.snoc (mid := wr.heap.size) (SOwnsL.same (fun b h1 h2 => ?_) hol.out) (SOwns.same (fun b h1 h2 => ?_) (HOw.out.wide (Nat.le_refl _) HG4.out.size))
          · exact (HG4.out.block b (Nat.lt_of_lt_of_le h2 HB2.out.size) (by simp; omega)).trans (HB2.out.block b h2)
          · exact HG4.out.block b (by simpa using h2) (by simp; omega)
        · exact (hbe.out.trans (HB2.out.mono hbe.out.size)).grown HG4.out (Nat.le_trans hbe.out.size HB2.out.size) (fun b hb => by cases hb; exact Nat.le_refl _)
      case measure => simp [intOf]; omega
    · obtain rfl : k = xs.length := by omega
      have hz : zs = [] := List.eq_nil_of_length_eq_zero (by have := hrow.out.1; rw [List.length_append, hy.out] at this; omega)
      have HZS := Lib.hid hz
      clear hz
      go_wp2
      go_ret
      have h1 := hrow.out
      have h2 := hol.out
      rw [HZS.out, List.append_nil] at h1
      rw [List.take_length] at h2
      exact ⟨_, rfl, ⟨ys, w.heap.size + 1, h1, by omega, fun b hb => by cases hb; exact Nat.lt_succ_self _, h2⟩, hbe.out⟩
end Go.Proofs.YtmhhghdfgdhljaaGreatDoor.Trm
/- The laws' copy of one statement, walked. Conditions: the statement lies in memory; it has at most 2 to the 20 names and statements at once. -/
namespace Go.Proofs.YtmhhghdfgdhljaaGreatDoor.Trm
open Go.RowKit Own
/-- A statement's block of eight cells, known whole. -/
def Row8 (w : World) (b : Nat) (c0 c1 c2 c3 c4 c5 c6 c7 : Value) : Prop := w.heap[b]? = some (.cells #[c0, c1, c2, c3, c4, c5, c6, c7] 109 (0, 0))
theorem Row8.cells {w : World} {b : Nat} {c0 c1 c2 c3 c4 c5 c6 c7 : Value} (h : Row8 w b c0 c1 c2 c3 c4 c5 c6 c7) : Box8 w b c0 c1 c2 c3 c4 c5 c6 c7 := by
  unfold Row8 at h
  refine ⟨?_, ?_, ?_, ?_, ?_, ?_, ?_, ?_⟩ <;> (rw [cell_of_row w b _ _ _ _ h]; rfl)
theorem Row8.free {w : World} {b : Nat} {c0 c1 c2 c3 c4 c5 c6 c7 : Value} (h : Row8 w b c0 c1 c2 c3 c4 c5 c6 c7) (j : Nat) : w.frozen? ⟨b, j, none⟩ = false := frozen_of_row w b j _ _ h
theorem Row8.below {w w' : World} {b B : Nat} {c0 c1 c2 c3 c4 c5 c6 c7 : Value} (h : Row8 w b c0 c1 c2 c3 c4 c5 c6 c7) (hb : Below B w w') (hlt : b < B) : Row8 w' b c0 c1 c2 c3 c4 c5 c6 c7 := (hb.block b hlt).trans h
theorem Row8.other {w : World} {b q i : Nat} {v c0 c1 c2 c3 c4 c5 c6 c7 : Value} (h : Row8 w b c0 c1 c2 c3 c4 c5 c6 c7) (hn : b ≠ q) : Row8 (w.setCell ⟨q, i, none⟩ v) b c0 c1 c2 c3 c4 c5 c6 c7 := (heap_setCell_other w _ b v hn).trans h
theorem Row8.put {w : World} {b i : Nat} {v c0 c1 c2 c3 c4 c5 c6 c7 : Value} (h : Row8 w b c0 c1 c2 c3 c4 c5 c6 c7) : (w.setCell ⟨b, i, none⟩ v).heap[b]? = some (.cells (#[c0, c1, c2, c3, c4, c5, c6, c7].setIfInBounds i v) 109 (0, 0)) := heap_setCell_same w b i _ _ v h
theorem top_at (w : World) (o : Obj) (k : Nat) (h : k = w.heap.size) : (w.alloc o).heap[k]? = some o := by subst h; exact heap_alloc_new w o
set_option maxRecDepth 20000 in
set_option maxHeartbeats 1600000 in
theorem toStmt_any : ∀ x : STree, ToXOk x := streeInd fun k s t b e ihb ihe v w hz hl => by
  obtain ⟨h1, h2, h3, h4, ta, tc, ba, bc, ea, ec, rfl, h5, h6, h7⟩ := hl
  rw [szX] at hz
  have CT := Lib.hid (fun w hk => toTerm_any t _ w (by omega) (h5.keep hk))
  have CB := Lib.hid (fun w hk => toXS_any b ihb (.slice ba b.length bc) w (by omega) (SListAt.keep ⟨h3, _, _, rfl, h6⟩ hk))
  have CE := Lib.hid (fun w hk => toXS_any e ihe (.slice ea e.length ec) w (by omega) (SListAt.keep ⟨h4, _, _, rfl, h7⟩ hk))
  have H1 := Lib.hid h1
  have H2 := Lib.hid h2
  obtain ⟨W, hW⟩ : ∃ W, W = ((w.alloc (.cells #[.int .i64 k, .string s, .int .i64 t.kind, .int .i64 t.num, .string t.name, .slice ta t.kids.length tc, .slice ba b.length bc, .slice ea e.length ec] 216)).alloc (.cells #[.int .i64 0, .string ⟨#[]⟩, .int .i64 0, .int .i64 0, .string ⟨#[]⟩, .slice none 0 0, .slice none 0 0, .slice none 0 0] 109)).alloc (.cells #[.int .i64 k, .string s, .int .i64 0, .int .i64 0, .string ⟨#[]⟩, .slice none 0 0, .slice none 0 0, .slice none 0 0] 109) := ⟨_, rfl⟩
  have hWs : W.heap.size = w.heap.size + 1 + 1 + 1 := by rw [hW]; simp
  have kW : Keeps w W := by rw [hW]; exact ((keeps_alloc _ _).trans (keeps_alloc _ _)).trans (keeps_alloc _ _)
  have bW : Below w.heap.size w W := by rw [hW]; exact (((Below.refl _ _).alloc (Nat.le_refl _) _).alloc (by simp) _).alloc (by simp; omega) _
  have XW : Box8 W w.heap.size (.int .i64 k) (.string s) (.int .i64 t.kind) (.int .i64 t.num) (.string t.name) (.slice ta t.kids.length tc) (.slice ba b.length bc) (.slice ea e.length ec) := by
    rw [hW]
    exact (Box8.new w _ _ _ _ _ _ _ _ _).keep ((keeps_alloc _ _).trans (keeps_alloc _ _))
  have RW : Row8 W (w.heap.size + 1) (.int .i64 0) (.string ⟨#[]⟩) (.int .i64 0) (.int .i64 0) (.string ⟨#[]⟩) (.slice none 0 0) (.slice none 0 0) (.slice none 0 0) := by
    rw [hW]
    exact (heap_alloc_old _ _ (by simp)).trans (top_at _ _ _ (by simp))
  have OW : Row8 W (w.heap.size + 1 + 1) (.int .i64 k) (.string s) (.int .i64 0) (.int .i64 0) (.string ⟨#[]⟩) (.slice none 0 0) (.slice none 0 0) (.slice none 0 0) := by
    rw [hW]
    exact top_at _ _ _ (by simp)
  have HW := Lib.hid hW
  have HWs := Lib.hid hWs
  have KW := Lib.hid kW
  have BW := Lib.hid bW
  have XW' := Lib.hid XW
  have RW' := Lib.hid RW
  have OW' := Lib.hid OW
  clear ihb ihe h1 h2 h5 h6 h7 hz hW hWs kW bW XW RW OW
  go_enter Tryz.func178, Tryz.ntmps178
  go_wp2_with fail
  rw [← HW.out]
  refine (CT.out W KW.out).mono ?_
  rintro e1 w1 ⟨v1, rfl, ho1, hb1⟩
  obtain ⟨va, vc, rfl⟩ := ho1.shape
  have HO1 := Lib.hid ho1
  have HB1 := Lib.hid hb1
  have X1 := Lib.hid (XW'.out.keep (keeps_below hb1))
  have R1 := Lib.hid (RW'.out.below hb1 (by rw [HWs.out]; omega))
  have O1 := Lib.hid (OW'.out.below hb1 (by rw [HWs.out]; omega))
  obtain ⟨x0, x1, x2, x3, x4, x5, x6, x7⟩ := X1.out
  obtain ⟨o0, o1, o2, o3, o4, o5, o6, o7⟩ := O1.out.cells
  have f2 := O1.out.free 2
  have f3 := O1.out.free 3
  have f4 := O1.out.free 4
  have f5 := O1.out.free 5
  clear ho1 hb1
  go_wp2_with fail
  obtain ⟨W2, hW2⟩ : ∃ W2, W2 = (((w1.setCell ⟨w.heap.size + 1 + 1, 2, none⟩ (.int .i64 t.kind)).setCell ⟨w.heap.size + 1 + 1, 3, none⟩ (.int .i64 t.num)).setCell ⟨w.heap.size + 1 + 1, 4, none⟩ (.string t.name)).setCell ⟨w.heap.size + 1 + 1, 5, none⟩ (.slice va t.kids.length vc) := ⟨_, rfl⟩
  rw [← hW2]
  have hs2 : W2.heap.size = w1.heap.size := by rw [hW2]; simp
  have hsw1 : w.heap.size + 1 + 1 + 1 ≤ w1.heap.size := by have := HB1.out.size; rw [HWs.out] at this; exact this
  have B2 : Below w.heap.size w W2 := by
    rw [hW2]
    exact ((((BW.out.trans (HB1.out.mono BW.out.size)).setCell (by simp; omega) _).setCell (by simp; omega) _).setCell (by simp; omega) _).setCell (by simp; omega) _
  have O2 : Row8 W2 (w.heap.size + 1 + 1) (.int .i64 k) (.string s) (.int .i64 t.kind) (.int .i64 t.num) (.string t.name) (.slice va t.kids.length vc) (.slice none 0 0) (.slice none 0 0) := by
    rw [hW2]
    exact Row8.put (i := 5) (Row8.put (i := 4) (Row8.put (i := 3) (Row8.put (i := 2) O1.out)))
  have R2 : Row8 W2 (w.heap.size + 1) (.int .i64 0) (.string ⟨#[]⟩) (.int .i64 0) (.int .i64 0) (.string ⟨#[]⟩) (.slice none 0 0) (.slice none 0 0) (.slice none 0 0) := by
    rw [hW2]
    exact (((R1.out.other (by omega)).other (by omega)).other (by omega)).other (by omega)
  have S2 : ∀ q, w.heap.size + 1 + 1 < q → W2.heap[q]? = w1.heap[q]? := fun q hq => by
    rw [hW2, heap_setCell_other _ _ _ _ (by simp; omega), heap_setCell_other _ _ _ _ (by simp; omega), heap_setCell_other _ _ _ _ (by simp; omega), heap_setCell_other _ _ _ _ (by simp; omega)]
  have X2 : Box8 W2 w.heap.size (.int .i64 k) (.string s) (.int .i64 t.kind) (.int .i64 t.num) (.string t.name) (.slice ta t.kids.length tc) (.slice ba b.length bc) (.slice ea e.length ec) := by
    have h : W2.heap[w.heap.size]? = w1.heap[w.heap.size]? := by
      rw [hW2, heap_setCell_other _ _ _ _ (by simp; omega), heap_setCell_other _ _ _ _ (by simp; omega), heap_setCell_other _ _ _ _ (by simp; omega), heap_setCell_other _ _ _ _ (by simp; omega)]
    have hc : ∀ j, W2.cell? ⟨w.heap.size, j, none⟩ = w1.cell? ⟨w.heap.size, j, none⟩ := fun j => World.cell?_of_block h
    exact ⟨(hc 0).trans x0, (hc 1).trans x1, (hc 2).trans x2, (hc 3).trans x3, (hc 4).trans x4, (hc 5).trans x5, (hc 6).trans x6, (hc 7).trans x7⟩
  have HS2 := Lib.hid hs2
  have HB2 := Lib.hid B2
  have HO2 := Lib.hid O2
  have HR2 := Lib.hid R2
  have HSm2 := Lib.hid S2
  have HX2 := Lib.hid X2
  have K2 := Lib.hid (keeps_below B2)
  clear hs2 B2 O2 R2 S2 X2 hW2 x0 x1 x2 x3 x4 x5 x6 x7 o0 o1 o2 o3 o4 o5 o6 o7 f2 f3 f4 f5
  refine (CB.out W2 K2.out).mono ?_
  rintro e2 w3 ⟨bv, rfl, ho3, hb3⟩
  have hlt3 : w.heap.size + 1 + 1 < W2.heap.size := by rw [HS2.out]; omega
  have O3 := Lib.hid (HO2.out.below hb3 hlt3)
  have R3 := Lib.hid (HR2.out.below hb3 (by omega))
  have X3 := Lib.hid (HX2.out.keep (keeps_below hb3))
  have HO3 := Lib.hid ho3
  have HB3 := Lib.hid hb3
  obtain ⟨_, bva, bvc, rfl, _⟩ := ho3.list
  obtain ⟨x0, x1, x2, x3, x4, x5, x6, x7⟩ := X3.out
  obtain ⟨o0, o1, o2, o3, o4, o5, o6, o7⟩ := O3.out.cells
  have f6 := O3.out.free 6
  clear ho3 hb3
  go_wp2_with fail
  obtain ⟨W4, hW4⟩ : ∃ W4, W4 = w3.setCell ⟨w.heap.size + 1 + 1, 6, none⟩ (.slice bva b.length bvc) := ⟨_, rfl⟩
  rw [← hW4]
  have hs4 : W4.heap.size = w3.heap.size := by rw [hW4]; simp
  have hsw3 : W2.heap.size ≤ w3.heap.size := HB3.out.size
  have B4 : Below w.heap.size w W4 := by
    rw [hW4]
    exact (HB2.out.trans (HB3.out.mono HB2.out.size)).setCell (by simp; omega) _
  have O4 : Row8 W4 (w.heap.size + 1 + 1) (.int .i64 k) (.string s) (.int .i64 t.kind) (.int .i64 t.num) (.string t.name) (.slice va t.kids.length vc) (.slice bva b.length bvc) (.slice none 0 0) := by
    rw [hW4]
    exact Row8.put (i := 6) O3.out
  have R4 : Row8 W4 (w.heap.size + 1) (.int .i64 0) (.string ⟨#[]⟩) (.int .i64 0) (.int .i64 0) (.string ⟨#[]⟩) (.slice none 0 0) (.slice none 0 0) (.slice none 0 0) := by
    rw [hW4]
    exact R3.out.other (by omega)
  have S4 : ∀ q, w.heap.size + 1 + 1 < q → W4.heap[q]? = w3.heap[q]? := fun q hq => by
    rw [hW4, heap_setCell_other _ _ _ _ (by simp; omega)]
  have X4 : Box8 W4 w.heap.size (.int .i64 k) (.string s) (.int .i64 t.kind) (.int .i64 t.num) (.string t.name) (.slice ta t.kids.length tc) (.slice ba b.length bc) (.slice ea e.length ec) := by
    have h : W4.heap[w.heap.size]? = w3.heap[w.heap.size]? := by rw [hW4, heap_setCell_other _ _ _ _ (by simp; omega)]
    have hc : ∀ j, W4.cell? ⟨w.heap.size, j, none⟩ = w3.cell? ⟨w.heap.size, j, none⟩ := fun j => World.cell?_of_block h
    exact ⟨(hc 0).trans x0, (hc 1).trans x1, (hc 2).trans x2, (hc 3).trans x3, (hc 4).trans x4, (hc 5).trans x5, (hc 6).trans x6, (hc 7).trans x7⟩
  have HS4 := Lib.hid hs4
  have HB4 := Lib.hid B4
  have HO4 := Lib.hid O4
  have HR4 := Lib.hid R4
  have HSm4 := Lib.hid S4
  have HX4 := Lib.hid X4
  have K4 := Lib.hid (keeps_below B4)
  clear hs4 B4 O4 R4 S4 X4 hW4 x0 x1 x2 x3 x4 x5 x6 x7 o0 o1 o2 o3 o4 o5 o6 o7 f6
  refine (CE.out W4 K4.out).mono ?_
  rintro e3 w5 ⟨ev, rfl, ho5, hb5⟩
  have hlt5 : w.heap.size + 1 + 1 < W4.heap.size := by rw [HS4.out]; omega
  have O5 := Lib.hid (HO4.out.below hb5 hlt5)
  have R5 := Lib.hid (HR4.out.below hb5 (by omega))
  have HO5 := Lib.hid ho5
  have HB5 := Lib.hid hb5
  obtain ⟨_, eva, evc, rfl, _⟩ := ho5.list
  obtain ⟨o0, o1, o2, o3, o4, o5, o6, o7⟩ := O5.out.cells
  obtain ⟨r0, r1, r2, r3, r4, r5, r6, r7⟩ := R5.out.cells
  have f7 := O5.out.free 7
  have g0 := R5.out.free 0
  have g1 := R5.out.free 1
  have g2 := R5.out.free 2
  have g3 := R5.out.free 3
  have g4 := R5.out.free 4
  have g5 := R5.out.free 5
  have g6 := R5.out.free 6
  have g7 := R5.out.free 7
  have hsw5 : W4.heap.size ≤ w5.heap.size := HB5.out.size
  clear ho5 hb5
  go_wp2
  refine bodyPost_ret (v := .agg #[.int .i64 k, .string s, .int .i64 t.kind, .int .i64 t.num, .string t.name, .slice va t.kids.length vc, .slice bva b.length bvc, .slice eva e.length evc]) (by simp [results, Tryz.results178, go_sem, r0, r1, r2, r3, r4, r5, r6, r7]) rfl ⟨_, rfl, ?_, ?_⟩
  · have e24 := HS2.out
    have e44 := HS4.out
    refine SOwns.mk (x := .node k s t b e) (m1 := w1.heap.size) (m2 := w3.heap.size) H1.out H2.out ?_ ?_ ?_
    · refine Owns.wide (lo := W.heap.size) (by rw [HWs.out]; omega) (Nat.le_refl _) (Owns.same (fun q h1 h2 => ?_) HO1.out)
      rw [HWs.out] at h1
      rw [heap_setCell_other _ _ _ _ (by simp; omega), heap_setCell_other _ _ _ _ (by simp; omega), heap_setCell_other _ _ _ _ (by simp; omega), heap_setCell_other _ _ _ _ (by simp; omega), heap_setCell_other _ _ _ _ (by simp; omega), heap_setCell_other _ _ _ _ (by simp; omega), heap_setCell_other _ _ _ _ (by simp; omega), heap_setCell_other _ _ _ _ (by simp; omega), heap_setCell_other _ _ _ _ (by simp; omega)]
      rw [HB5.out.block q (by omega), HSm4.out q (by omega), HB3.out.block q (by omega), HSm2.out q (by omega)]
    · refine SOwnsK.wide (lo := W2.heap.size) (by omega) (Nat.le_refl _) (SOwnsK.same (fun q h1 h2 => ?_) HO3.out)
      rw [heap_setCell_other _ _ _ _ (by simp; omega), heap_setCell_other _ _ _ _ (by simp; omega), heap_setCell_other _ _ _ _ (by simp; omega), heap_setCell_other _ _ _ _ (by simp; omega), heap_setCell_other _ _ _ _ (by simp; omega), heap_setCell_other _ _ _ _ (by simp; omega), heap_setCell_other _ _ _ _ (by simp; omega), heap_setCell_other _ _ _ _ (by simp; omega), heap_setCell_other _ _ _ _ (by simp; omega)]
      rw [HB5.out.block q (by omega), HSm4.out q (by omega)]
    · refine SOwnsK.wide (lo := W4.heap.size) (by omega) (by simp) (SOwnsK.same (fun q h1 h2 => ?_) HO5.out)
      rw [heap_setCell_other _ _ _ _ (by simp; omega), heap_setCell_other _ _ _ _ (by simp; omega), heap_setCell_other _ _ _ _ (by simp; omega), heap_setCell_other _ _ _ _ (by simp; omega), heap_setCell_other _ _ _ _ (by simp; omega), heap_setCell_other _ _ _ _ (by simp; omega), heap_setCell_other _ _ _ _ (by simp; omega), heap_setCell_other _ _ _ _ (by simp; omega), heap_setCell_other _ _ _ _ (by simp; omega)]
  · exact (((((((((HB4.out.trans (HB5.out.mono HB4.out.size)).setCell (by simp; omega) _).setCell (by simp) _).setCell (by simp) _).setCell (by simp) _).setCell (by simp) _).setCell (by simp) _).setCell (by simp) _).setCell (by simp) _).setCell (by simp) _
end Go.Proofs.YtmhhghdfgdhljaaGreatDoor.Trm
/- The laws' copies of procedures and programs, walked. Conditions: they lie in memory, at most 2 to the 20 in all. -/
namespace Go.Proofs.YtmhhghdfgdhljaaGreatDoor.Trm
open Go.RowKit Own
theorem infoProc : (Tryz.prog.info? 40).map (fun i => (i.zero, i.size, i.bytes)) = some (some (.agg #[.string ⟨#[]⟩, .slice none 0 0]), 2, 40) := by kernel_rfl
/-- A block of two cells that is not frozen, whatever its type. -/
def Row2 (w : World) (b : Nat) (c0 c1 : Value) : Prop := w.heap[b]? = some (.cells #[c0, c1] 40 (0, 0))
theorem Row2.cells {w : World} {b : Nat} {c0 c1 : Value} (h : Row2 w b c0 c1) : Box2 w b c0 c1 := by
  unfold Row2 at h
  refine ⟨?_, ?_⟩ <;> simp [World.cell?, h]
theorem Row2.free {w : World} {b : Nat} {c0 c1 : Value} (h : Row2 w b c0 c1) (j : Nat) : w.frozen? ⟨b, j, none⟩ = false := frozen_of_row w b j _ _ h
theorem Row2.below {w w' : World} {b B : Nat} {c0 c1 : Value} (h : Row2 w b c0 c1) (hb : Below B w w') (hlt : b < B) : Row2 w' b c0 c1 := (hb.block b hlt).trans h
theorem Row2.other {w : World} {b q i : Nat} {v c0 c1 : Value} (h : Row2 w b c0 c1) (hn : b ≠ q) : Row2 (w.setCell ⟨q, i, none⟩ v) b c0 c1 := (heap_setCell_other w _ b v hn).trans h
theorem toProc_any (p : PrT) (v : Value) (w : World) (hz : szPr p ≤ 1048576) (hl : PrLies w p v) :
    Calls Tryz.prog 108 #[v] w fun e w' => ∃ u, e = .returned u ∧ PrOwn w' w.heap.size p u ∧ Below w.heap.size w w' := by
  obtain ⟨h1, ba, bc, rfl, h6⟩ := hl
  unfold szPr at hz
  have CB := Lib.hid (fun w hk => toXS_any p.body (fun x _ => toStmt_any x) (.slice ba p.body.length bc) w (by omega) (h6.keep hk))
  have H1 := Lib.hid h1
  obtain ⟨W, hW⟩ : ∃ W, W = ((w.alloc (.cells #[.string p.name, .slice ba p.body.length bc] 133)).alloc (.cells #[.string ⟨#[]⟩, .slice none 0 0] 40)).alloc (.cells #[.string p.name, .slice none 0 0] 40) := ⟨_, rfl⟩
  have hWs : W.heap.size = w.heap.size + 1 + 1 + 1 := by rw [hW]; simp
  have kW : Keeps w W := by rw [hW]; exact ((keeps_alloc _ _).trans (keeps_alloc _ _)).trans (keeps_alloc _ _)
  have bW : Below w.heap.size w W := by rw [hW]; exact (((Below.refl _ _).alloc (Nat.le_refl _) _).alloc (by simp) _).alloc (by simp; omega) _
  have RW : Row2 W (w.heap.size + 1) (.string ⟨#[]⟩) (.slice none 0 0) := by
    rw [hW]
    exact (heap_alloc_old _ _ (by simp)).trans (top_at _ _ _ (by simp))
  have OW : Row2 W (w.heap.size + 1 + 1) (.string p.name) (.slice none 0 0) := by
    rw [hW]
    exact top_at _ _ _ (by simp)
  have HW := Lib.hid hW
  have HWs := Lib.hid hWs
  have KW := Lib.hid kW
  have BW := Lib.hid bW
  have RW' := Lib.hid RW
  have OW' := Lib.hid OW
  clear h1 h6 hz hW hWs kW bW RW OW
  go_enter Tryz.func108, Tryz.ntmps108
  go_wp2_with fail
  rw [← HW.out]
  refine (CB.out W KW.out).mono ?_
  rintro e1 w1 ⟨v1, rfl, ho1, hb1⟩
  obtain ⟨_, va, vc, rfl, _⟩ := ho1.list
  have HO1 := Lib.hid ho1
  have HB1 := Lib.hid hb1
  have R1 := Lib.hid (RW'.out.below hb1 (by rw [HWs.out]; omega))
  have O1 := Lib.hid (OW'.out.below hb1 (by rw [HWs.out]; omega))
  obtain ⟨o0, o1⟩ := O1.out.cells
  obtain ⟨r0, r1⟩ := R1.out.cells
  have f1 := O1.out.free 1
  have g0 := R1.out.free 0
  have g1 := R1.out.free 1
  have hsw := HB1.out.size
  rw [HWs.out] at hsw
  clear ho1 hb1
  go_wp2
  refine bodyPost_ret (v := .agg #[.string p.name, .slice va p.body.length vc]) (by simp [results, Tryz.results108, go_sem, r0, r1]) rfl ⟨_, rfl, ?_, ?_⟩
  · refine ⟨H1.out, va, vc, W.heap.size, w1.heap.size, rfl, by rw [HWs.out]; omega, by simp, SOwnsK.same (fun q q1 q2 => ?_) HO1.out⟩
    rw [HWs.out] at q1
    rw [heap_setCell_other _ _ _ _ (by simp; omega), heap_setCell_other _ _ _ _ (by simp; omega), heap_setCell_other _ _ _ _ (by simp; omega)]
  · exact ((((BW.out.trans (HB1.out.mono BW.out.size)).setCell (by simp; omega) _).setCell (by simp) _).setCell (by simp) _)
theorem row_some2 {w : World} {lo : Nat} {e : TypeId} {g cap n j : Nat} {xs : List Value} (h : w.ownsRow lo e 2 (.slice (some ⟨g, 0, none⟩) n cap) n xs) (hj : j < n * 2) : ∃ u, w.cell? ⟨g, j, none⟩ = some u := by
  refine ⟨xs[j]'(by rw [h.1]; exact hj), ?_⟩
  rw [h.cellAt j hj]; simp
theorem set2 : ∀ (ys : List Value) (z0 z1 v0 v1 : Value) (r : List Value) (j : Nat), ys.length = j → ((ys ++ z0 :: z1 :: r).set j v0).set (j + 1) v1 = ys ++ [v0, v1] ++ r
  | [], _, _, _, _, _, _, h => by subst h; rfl
  | y :: ys, z0, z1, v0, v1, r, j, h => by
    subst h
    have e := set2 ys z0 z1 v0 v1 r ys.length rfl
    simp only [List.cons_append, List.length_cons, List.set_cons_succ] at e ⊢
    rw [e]
theorem row_put2 {w : World} {lo : Nat} {e : TypeId} {g cap n k : Nat} {ys zs : List Value} (h : w.ownsRow lo e 2 (.slice (some ⟨g, 0, none⟩) n cap) n (ys ++ zs)) (hy : ys.length = k * 2) (hk : k < n) (v0 v1 : Value) :
    ∃ zs2, ((w.setCell ⟨g, k * 2, none⟩ v0).setCell ⟨g, k * 2 + 1, none⟩ v1).ownsRow lo e 2 (.slice (some ⟨g, 0, none⟩) n cap) n (ys ++ [v0, v1] ++ zs2) ∧
      w.grownBy ((w.setCell ⟨g, k * 2, none⟩ v0).setCell ⟨g, k * 2 + 1, none⟩ v1) (some g) := by
  have hl := h.1
  rw [List.length_append, hy] at hl
  obtain ⟨z0, z1, r, rfl⟩ : ∃ z0 z1 r, zs = z0 :: z1 :: r := by
    match zs, hl with
    | z0 :: z1 :: r, _ => exact ⟨z0, z1, r, rfl⟩
    | [], hl => exact absurd hl (by simp; omega)
    | [_], hl => exact absurd hl (by simp; omega)
  have a0 := h.stored (k * 2) v0
  have a1 := a0.1.stored (k * 2 + 1) v1
  refine ⟨r, ?_, a0.2.trans a1.2⟩
  have := a1.1
  rw [set2 ys z0 z1 v0 v1 r (k * 2) hy] at this
  exact this
set_option maxHeartbeats 800000 in
theorem toPrs_any (xs : List PrT) (v : Value) (w : World) (hsz : xs.length + szPrs xs ≤ 1048576) (hl : PrsAt w v xs) :
    Calls Tryz.prog 55 #[v] w fun e w' => ∃ kv, e = .returned kv ∧ PrsOwn w' w.heap.size xs kv ∧ Below w.heap.size w w' := by
  obtain ⟨hlen0, aa, cap, rfl, hk⟩ := hl
  obtain ⟨i0, hi, hz0, hz1, hz2⟩ := info_parts infoProc
  have HK := Lib.hid hk
  have HZ := Lib.hid hsz
  have hlen : xs.length ≤ 1048576 := by omega
  clear hk hsz hlen0
  go_enter Tryz.func55, Tryz.ntmps55
  go_wp2_with (at_make; refine wpList_make_full _ rfl (.tmp 6) (.tmp 6) 25 rfl w.heap.size 40 i0 _ 2 Tryz.underlying25 hi hz0 hz1 .i64 .i64 _ _ xs.length rfl rfl rfl rfl (by rw [hz2]; omega) (by unfold maxLen; omega) (Nat.le_refl _) ?_)
  intro w1 hown hg
  have HO := Lib.hid hown
  have HG := Lib.hid hg
  clear hown hg
  go_wp2
  go_loopw [4] (fun i wr => ∃ (k : Nat) (ys zs : List Value), k ≤ xs.length ∧ i = .int .i64 k ∧ Hid (ys.length = k * 2) ∧ Hid (wr.ownsRow w.heap.size 40 2 (.slice (some ⟨w.heap.size, 0, none⟩) xs.length xs.length) xs.length (ys ++ zs)) ∧ Hid (PrI wr (w.heap.size + 1) wr.heap.size (xs.take k) ys) ∧ Hid (Below w.heap.size w wr))
    (fun i _ => xs.length - (intOf i).toNat)
  case atStart => exact ⟨0, [], _, Nat.zero_le _, rfl, rfl, HO.out, ⟨rfl, (HO.out.lt _ rfl).2⟩, below_noneL HG.out⟩
  case round =>
    obtain ⟨k, ys, zs, hk, rfl, hy, hrow, hol, hbe⟩ := hrel
    by_cases hlt : k < xs.length
    · obtain ⟨g, o, rfl, hl⟩ := HK.out (by omega)
      obtain ⟨h0, ba, bc, c0, c1, hl2⟩ := (hl k hlt).keep (keeps_below hbe.out)
      have C := Lib.hid (toProc_any xs[k] _ wr (by have := szPrs_mem (List.getElem_mem hlt); have := HZ.out; omega) ⟨h0, ba, bc, rfl, hl2⟩)
      clear hl hl2
      go_wp2_with fail
      refine C.out.mono ?_
      rintro e w2 ⟨v2, rfl, how, hb2⟩
      obtain ⟨_, va, vc, _, _, rfl, _⟩ := id how
      have HOw := Lib.hid how
      have HB2 := Lib.hid hb2
      have R2 := Lib.hid (row_below hrow.out hb2)
      clear how hb2 c0 c1
      have f0 := R2.out.frozenAt (k * 2)
      have f1 := R2.out.frozenAt (k * 2 + 1)
      obtain ⟨u0, s0⟩ := row_some2 R2.out (j := k * 2) (by omega)
      obtain ⟨u1, s1⟩ := row_some2 R2.out (j := k * 2 + 1) (by omega)
      obtain ⟨zs2, hr4, hg4⟩ := row_put2 R2.out hy.out hlt (.string xs[k].name) (.slice va xs[k].body.length vc)
      have HR4 := Lib.hid hr4
      have HG4 := Lib.hid hg4
      clear hr4 hg4
      go_wp2
      go_roundw
      case rel =>
        refine ⟨k + 1, ys ++ [Value.string xs[k].name, Value.slice va xs[k].body.length vc], zs2, by omega, by go_num, ?_, HR4.out, ?_, ?_⟩
        · show _ = _
          rw [List.length_append, hy.out]; simp; omega
        · have hlt0 : w.heap.size < wr.heap.size := (hrow.out.lt _ rfl).2
          have e1 : List.take (k + 1) xs = List.take k xs ++ [xs[k]] := List.take_succ_eq_append_getElem hlt
          have hst : Stays (w.heap.size + 1) w2 ((w2.setCell ⟨w.heap.size, k * 2, none⟩ (.string xs[k].name)).setCell ⟨w.heap.size, k * 2 + 1, none⟩ (.slice va xs[k].body.length vc)) := (Stays.set (by omega)).trans (Stays.set (by omega))
          rw [e1]
          have hsz := HB2.out.size
          obtain ⟨hn, a2, c2, l2, h2, e2, hl1, hl2, hS⟩ := HOw.out
          simp at e2
          obtain ⟨rfl, rfl⟩ := e2
          have hS2 : SOwnsK ((w2.setCell ⟨w.heap.size, k * 2, none⟩ (.string xs[k].name)).setCell ⟨w.heap.size, k * 2 + 1, none⟩ (.slice va xs[k].body.length vc)) wr.heap.size w2.heap.size xs[k].body (.slice va xs[k].body.length vc) := (hS.wide hl1 hl2).same (fun b g1 g2 => hst.2 b (by omega) g2)
          exact PrI.wideR (hi := w2.heap.size) (by simp) ((hol.out.same (fun b g1 g2 => (hst.2 b (by omega) (by omega)).trans (HB2.out.block b g2))).snoc hn hS2)
        · exact (hbe.out.trans (HB2.out.mono hbe.out.size)).grown HG4.out (Nat.le_trans hbe.out.size HB2.out.size) (fun b hb => by cases hb; exact Nat.le_refl _)
      case measure => simp [intOf]; omega
    · obtain rfl : k = xs.length := by omega
      have hz : zs = [] := List.eq_nil_of_length_eq_zero (by have := hrow.out.1; rw [List.length_append, hy.out] at this; omega)
      have HZS := Lib.hid hz
      clear hz
      go_wp2
      go_ret
      have h1 := hrow.out
      have h2 := hol.out
      rw [HZS.out, List.append_nil] at h1
      rw [List.take_length] at h2
      exact ⟨_, rfl, ⟨ys, w.heap.size + 1, wr.heap.size, h1, by omega, fun b hb => by simp [Value.ownBlock] at hb; omega, Nat.le_refl _, h2⟩, hbe.out⟩
/-- A block of three cells. -/
def Row3 (w : World) (b : Nat) (c0 c1 c2 : Value) : Prop := w.heap[b]? = some (.cells #[c0, c1, c2] 27 (0, 0))
theorem Row3.cells {w : World} {b : Nat} {c0 c1 c2 : Value} (h : Row3 w b c0 c1 c2) : Box3 w b c0 c1 c2 := by
  unfold Row3 at h
  refine ⟨?_, ?_, ?_⟩ <;> simp [World.cell?, h]
theorem Row3.free {w : World} {b : Nat} {c0 c1 c2 : Value} (h : Row3 w b c0 c1 c2) (j : Nat) : w.frozen? ⟨b, j, none⟩ = false := frozen_of_row w b j _ _ h
theorem Row3.below {w w' : World} {b B : Nat} {c0 c1 c2 : Value} (h : Row3 w b c0 c1 c2) (hb : Below B w w') (hlt : b < B) : Row3 w' b c0 c1 c2 := (hb.block b hlt).trans h
theorem Row3.other {w : World} {b q i : Nat} {v c0 c1 c2 : Value} (h : Row3 w b c0 c1 c2) (hn : b ≠ q) : Row3 (w.setCell ⟨q, i, none⟩ v) b c0 c1 c2 := (heap_setCell_other w _ b v hn).trans h
theorem Row3.put {w : World} {b i : Nat} {v c0 c1 c2 : Value} (h : Row3 w b c0 c1 c2) : (w.setCell ⟨b, i, none⟩ v).heap[b]? = some (.cells (#[c0, c1, c2].setIfInBounds i v) 27 (0, 0)) := heap_setCell_same w b i _ _ v h
set_option maxHeartbeats 1600000 in
theorem toProgF_any (x : PTree) (v : Value) (w : World) (hz : szP x ≤ 1048576) (hl : PLies w x v) :
    Calls Tryz.prog 18 #[v] w fun e w' => ∃ u, e = .returned u ∧ PFull w' w.heap.size x u ∧ Below w.heap.size w w' := by
  obtain ⟨ga, gc, la, lc, pa, pc, rfl, h1, h2, h3⟩ := hl
  unfold szP at hz
  have C1 := Lib.hid (fun w hk => toStrings_any x.globals (.slice ga x.globals.length gc) w (h1.1.keep hk) (by omega))
  have C2 := Lib.hid (fun w hk => toStrings_any x.locks (.slice la x.locks.length lc) w (h2.1.keep hk) (by omega))
  have C3 := Lib.hid (fun w hk => toPrs_any x.procs (.slice pa x.procs.length pc) w (by omega) (h3.keep hk))
  have N1 := Lib.hid h1.2
  have N2 := Lib.hid h2.2
  obtain ⟨W, hW⟩ : ∃ W, W = ((w.alloc (.cells #[.slice ga x.globals.length gc, .slice la x.locks.length lc, .slice pa x.procs.length pc] 49)).alloc (.cells #[.slice none 0 0, .slice none 0 0, .slice none 0 0] 27)).alloc (.cells #[.slice none 0 0, .slice none 0 0, .slice none 0 0] 27) := ⟨_, rfl⟩
  have hWs : W.heap.size = w.heap.size + 1 + 1 + 1 := by rw [hW]; simp
  have kW : Keeps w W := by rw [hW]; exact ((keeps_alloc _ _).trans (keeps_alloc _ _)).trans (keeps_alloc _ _)
  have bW : Below w.heap.size w W := by rw [hW]; exact (((Below.refl _ _).alloc (Nat.le_refl _) _).alloc (by simp) _).alloc (by simp; omega) _
  have XW : Box3 W w.heap.size (.slice ga x.globals.length gc) (.slice la x.locks.length lc) (.slice pa x.procs.length pc) := by
    rw [hW]
    exact (Box3.new w _ _ _ _).keep ((keeps_alloc _ _).trans (keeps_alloc _ _))
  have RW : Row3 W (w.heap.size + 1) (.slice none 0 0) (.slice none 0 0) (.slice none 0 0) := by
    rw [hW]
    exact (heap_alloc_old _ _ (by simp)).trans (top_at _ _ _ (by simp))
  have OW : Row3 W (w.heap.size + 1 + 1) (.slice none 0 0) (.slice none 0 0) (.slice none 0 0) := by
    rw [hW]
    exact top_at _ _ _ (by simp)
  have HW := Lib.hid hW
  have HWs := Lib.hid hWs
  have KW := Lib.hid kW
  have BW := Lib.hid bW
  have XW' := Lib.hid XW
  have RW' := Lib.hid RW
  have OW' := Lib.hid OW
  clear h1 h2 h3 hz hW hWs kW bW XW RW OW
  go_enter Tryz.func18, Tryz.ntmps18
  go_wp2_with fail
  rw [← HW.out]
  refine (C1.out W KW.out).mono ?_
  rintro e1 w1 ⟨v1, rfl, ho1, hb1⟩
  have HO1 : Hid (NRow w1 (w.heap.size + 1 + 1 + 1) x.globals v1) := by show NRow _ _ _ _; have := ho1; rw [HWs.out] at this; exact this
  obtain ⟨va, vc, rfl⟩ := HO1.out.shape
  have HB1 := Lib.hid hb1
  have X1 := Lib.hid (XW'.out.keep (keeps_below hb1))
  have R1 := Lib.hid (RW'.out.below hb1 (by rw [HWs.out]; omega))
  have O1 := Lib.hid (OW'.out.below hb1 (by rw [HWs.out]; omega))
  have hsw1 : w.heap.size + 1 + 1 + 1 ≤ w1.heap.size := by have := hb1.size; rw [HWs.out] at this; exact this
  obtain ⟨x0, x1, x2⟩ := X1.out
  obtain ⟨o0, o1, o2⟩ := O1.out.cells
  have f0 := O1.out.free 0
  clear ho1 hb1
  go_wp2_with fail
  obtain ⟨W2, hW2⟩ : ∃ W2, W2 = w1.setCell ⟨w.heap.size + 1 + 1, 0, none⟩ (.slice va x.globals.length vc) := ⟨_, rfl⟩
  rw [← hW2]
  have HS2 : Hid (Stays (w.heap.size + 1 + 1 + 1) w1 W2) := by rw [hW2]; exact Stays.set (by omega)
  have B2 : Hid (Below w.heap.size w W2) := by rw [hW2]; exact (BW.out.trans (HB1.out.mono BW.out.size)).setCell (by simp; omega) _
  have O2 : Hid (Row3 W2 (w.heap.size + 1 + 1) (.slice va x.globals.length vc) (.slice none 0 0) (.slice none 0 0)) := by rw [hW2]; exact Row3.put (i := 0) O1.out
  have R2 : Hid (Row3 W2 (w.heap.size + 1) (.slice none 0 0) (.slice none 0 0) (.slice none 0 0)) := by rw [hW2]; exact R1.out.other (by omega)
  have X2 : Hid (Box3 W2 w.heap.size (.slice ga x.globals.length gc) (.slice la x.locks.length lc) (.slice pa x.procs.length pc)) := by
    have h : W2.heap[w.heap.size]? = w1.heap[w.heap.size]? := by rw [hW2, heap_setCell_other _ _ _ _ (by simp; omega)]
    have hc : ∀ j, W2.cell? ⟨w.heap.size, j, none⟩ = w1.cell? ⟨w.heap.size, j, none⟩ := fun j => World.cell?_of_block h
    exact ⟨(hc 0).trans x0, (hc 1).trans x1, (hc 2).trans x2⟩
  have hs2 : W2.heap.size = w1.heap.size := by rw [hW2]; simp
  have M2 := Lib.hid (HO1.out.keep HS2.out)
  clear hW2 x0 x1 x2 o0 o1 o2 f0
  refine (C2.out W2 (keeps_below B2.out)).mono ?_
  rintro e2 w3 ⟨v3, rfl, ho3, hb3⟩
  have HO3b : Hid (NRow w3 w1.heap.size x.locks v3) := by show NRow _ _ _ _; have := ho3; rw [hs2] at this; exact this
  have HO3 : Hid (NRow w3 (w.heap.size + 1 + 1 + 1) x.locks v3) := World.ownsRow.mono ho3 (by omega)
  obtain ⟨ua, uc, rfl⟩ := HO3.out.shape
  have M3 := Lib.hid (M2.out.keep (Stays.of hb3))
  have HB3 := Lib.hid hb3
  have X3 := Lib.hid (X2.out.keep (keeps_below hb3))
  have R3 := Lib.hid (R2.out.below hb3 (by omega))
  have O3 := Lib.hid (O2.out.below hb3 (by omega))
  have hsw3 : w.heap.size + 1 + 1 + 1 ≤ w3.heap.size := by have := hb3.size; omega
  obtain ⟨x0, x1, x2⟩ := X3.out
  obtain ⟨o0, o1, o2⟩ := O3.out.cells
  have f1 := O3.out.free 1
  clear ho3 hb3
  go_wp2_with fail
  obtain ⟨W4, hW4⟩ : ∃ W4, W4 = w3.setCell ⟨w.heap.size + 1 + 1, 1, none⟩ (.slice ua x.locks.length uc) := ⟨_, rfl⟩
  rw [← hW4]
  have HS4 : Hid (Stays (w.heap.size + 1 + 1 + 1) w3 W4) := by rw [hW4]; exact Stays.set (by omega)
  have B4 : Hid (Below w.heap.size w W4) := by rw [hW4]; exact (B2.out.trans (HB3.out.mono B2.out.size)).setCell (by simp; omega) _
  have O4 : Hid (Row3 W4 (w.heap.size + 1 + 1) (.slice va x.globals.length vc) (.slice ua x.locks.length uc) (.slice none 0 0)) := by rw [hW4]; exact Row3.put (i := 1) O3.out
  have R4 : Hid (Row3 W4 (w.heap.size + 1) (.slice none 0 0) (.slice none 0 0) (.slice none 0 0)) := by rw [hW4]; exact R3.out.other (by omega)
  have X4 : Hid (Box3 W4 w.heap.size (.slice ga x.globals.length gc) (.slice la x.locks.length lc) (.slice pa x.procs.length pc)) := by
    have h : W4.heap[w.heap.size]? = w3.heap[w.heap.size]? := by rw [hW4, heap_setCell_other _ _ _ _ (by simp; omega)]
    have hc : ∀ j, W4.cell? ⟨w.heap.size, j, none⟩ = w3.cell? ⟨w.heap.size, j, none⟩ := fun j => World.cell?_of_block h
    exact ⟨(hc 0).trans x0, (hc 1).trans x1, (hc 2).trans x2⟩
  have hs4 : W4.heap.size = w3.heap.size := by rw [hW4]; simp
  have M4 := Lib.hid (M3.out.keep HS4.out)
  have L4 := Lib.hid (HO3.out.keep HS4.out)
  clear hW4 x0 x1 x2 o0 o1 o2 f1
  refine (C3.out W4 (keeps_below B4.out)).mono ?_
  rintro e3 w5 ⟨v5, rfl, ho5, hb5⟩
  obtain ⟨_, ta, tc, rfl, _⟩ := ho5.free
  have M5 := Lib.hid (M4.out.keep (Stays.of hb5))
  have L5 := Lib.hid (L4.out.keep (Stays.of hb5))
  have HO5 := Lib.hid ho5
  have HB5 := Lib.hid hb5
  have R5 := Lib.hid (R4.out.below hb5 (by omega))
  have O5 := Lib.hid (O4.out.below hb5 (by omega))
  have hsw5 : w.heap.size + 1 + 1 + 1 ≤ w5.heap.size := by have := hb5.size; omega
  obtain ⟨o0, o1, o2⟩ := O5.out.cells
  obtain ⟨r0, r1, r2⟩ := R5.out.cells
  have f2 := O5.out.free 2
  have g0 := R5.out.free 0
  have g1 := R5.out.free 1
  have g2 := R5.out.free 2
  clear ho5 hb5
  go_wp2
  refine bodyPost_ret (v := .agg #[.slice va x.globals.length vc, .slice ua x.locks.length uc, .slice ta x.procs.length tc]) (by simp [results, Tryz.results18, go_sem, r0, r1, r2]) rfl ⟨_, rfl, ⟨va, vc, ua, uc, ta, tc, w1.heap.size, W4.heap.size, rfl, N1.out, N2.out, World.ownsRow.mono (M5.out.keep ?_) (by omega), by omega, fun b hb => (HO1.out.lt b hb).2, (((HO3b.out.keep (HS4.out.mono (by omega))).keep (Stays.of HB5.out)).keep ?_), by have := HB3.out.size; omega, fun b hb => by rw [hs4]; exact (HO3b.out.lt b hb).2, HO5.out.keep ?_⟩, ?_⟩
  · exact (((Stays.set (by omega)).trans (Stays.set (by omega))).trans (Stays.set (by omega))).trans (Stays.set (by omega))
  · exact (((Stays.set (by omega)).trans (Stays.set (by omega))).trans (Stays.set (by omega))).trans (Stays.set (by omega))
  · exact (((Stays.set (by omega)).trans (Stays.set (by omega))).trans (Stays.set (by omega))).trans (Stays.set (by omega))
  · exact ((((B4.out.trans (HB5.out.mono B4.out.size)).setCell (by simp; omega) _).setCell (by simp) _).setCell (by simp) _).setCell (by simp) _
theorem toProg_any (x : PTree) (v : Value) (w : World) (hz : szP x ≤ 1048576) (hl : PLies w x v) :
    Calls Tryz.prog 18 #[v] w fun e w' => ∃ u, e = .returned u ∧ POwn w' x u ∧ Below w.heap.size w w' := by
  refine (toProgF_any x v w hz hl).mono ?_
  rintro e w' ⟨u, rfl, h, hb⟩
  exact ⟨u, rfl, h.own, hb⟩
end Go.Proofs.YtmhhghdfgdhljaaGreatDoor.Trm
/- The laws' comparison of two terms that are the same, walked. Conditions: both lie in memory. -/
namespace Go.Proofs.YtmhhghdfgdhljaaGreatDoor.Trm
open Go.RowKit Own
def EqOk (t : Tree) : Prop := ∀ (u v : Value) (w : World), Lies w t u → Lies w t v →
    Calls Tryz.prog 155 #[u, v] w fun e w' => e = .returned (.bool true) ∧ Below w.heap.size w w'
theorem eqS_any (ks : List Tree) (ih : ∀ t, t ∈ ks → EqOk t) (aa bb : Option Addr) (cap dap : Nat) (w : World) (hlen : ks.length ≤ 9223372036854775807) (hk : 0 < ks.length → ∃ g o, aa = some ⟨g, o, none⟩ ∧ LiesL w g o ks) (hk2 : 0 < ks.length → ∃ g o, bb = some ⟨g, o, none⟩ ∧ LiesL w g o ks) :
    Calls Tryz.prog 179 #[.slice aa ks.length cap, .slice bb ks.length dap] w fun e w' => e = .returned (.bool true) ∧ Below w.heap.size w w' := by
  have IH := Lib.hid ih
  have HK := Lib.hid hk
  have HK2 := Lib.hid hk2
  clear ih hk hk2
  go_enter Tryz.func179, Tryz.ntmps179
  go_wp2
  go_loopw [5] (fun i wr => ∃ (k : Nat), k ≤ ks.length ∧ i = .int .i64 k ∧ Hid (Below w.heap.size w wr))
    (fun i _ => ks.length - (intOf i).toNat)
  case atStart => exact ⟨0, Nat.zero_le _, rfl, Below.refl _ _⟩
  case round =>
    obtain ⟨k, hk, rfl, hbe⟩ := hrel
    by_cases hlt : k < ks.length
    · obtain ⟨g, o, rfl, hl⟩ := HK.out (by omega)
      obtain ⟨h, p, rfl, hm⟩ := HK2.out (by omega)
      obtain ⟨ka, kc, c0, c1, c2, c3, hl2⟩ := (hl.keep (keeps_below hbe.out)).at k hlt
      obtain ⟨la, lc, d0, d1, d2, d3, hm2⟩ := (hm.keep (keeps_below hbe.out)).at k hlt
      have C := Lib.hid (fun w hk => IH.out ks[k] (List.getElem_mem hlt) _ _ w (hl2.keep hk) (hm2.keep hk))
      clear hl hl2 hm hm2
      go_wp2
      go_region_with (go_at_call 155; refine (C.out _ (keeps_drew _)).mono ?_; rintro e w1 ⟨rfl, hb1⟩)
      all_goals
        have HB1 := Lib.hid (hbe.out.trans ((below_of_drew hb1).mono hbe.out.size))
        clear hb1
        go_wp2
        go_roundw
        case rel => exact ⟨k + 1, by omega, by go_num, HB1⟩
        case measure => simp [intOf]; omega
    · go_wp2
      go_ret
      exact ⟨rfl, hbe.out⟩
theorem eqTerm_any : ∀ t : Tree, EqOk t := treeInd fun k n s ks ih u v w hu hv => by
  obtain ⟨h1, h2, h3, h4, aa, cap, rfl, h5⟩ := hu
  obtain ⟨_, _, _, _, bb, dap, rfl, h6⟩ := hv
  have C := Lib.hid (fun w hk hk2 => eqS_any ks ih aa bb cap dap w h4 hk hk2)
  have H5 := Lib.hid h5
  have H6 := Lib.hid h6
  clear ih h5 h6
  go_enter Tryz.func155, Tryz.ntmps155
  go_wp2_with fail
  refine (C.out _ (fun h => by obtain ⟨g, o, e, hl⟩ := H5.out h; exact ⟨g, o, e, hl.keep ((keeps_alloc _ _).trans (keeps_alloc _ _))⟩) (fun h => by obtain ⟨g, o, e, hl⟩ := H6.out h; exact ⟨g, o, e, hl.keep ((keeps_alloc _ _).trans (keeps_alloc _ _))⟩)).mono ?_
  rintro e w1 ⟨rfl, hb1⟩
  have HB1 := Lib.hid ((((Below.refl w.heap.size w).alloc (Nat.le_refl _) _).alloc (by simp) _).trans (hb1.mono (by simp; omega)))
  clear hb1
  go_wp2
  go_ret
  exact ⟨rfl, HB1.out⟩
end Go.Proofs.YtmhhghdfgdhljaaGreatDoor.Trm
/- The laws' comparison of two statements that are the same, walked. Conditions: both lie in memory. -/
namespace Go.Proofs.YtmhhghdfgdhljaaGreatDoor.Trm
open Go.RowKit Own
def EqXOk (x : STree) : Prop := ∀ (u v : Value) (w : World), SLies w x u → SLies w x v →
    Calls Tryz.prog 180 #[u, v] w fun e w' => e = .returned (.bool true) ∧ Below w.heap.size w w'
set_option maxHeartbeats 1600000 in
theorem eqXS_any (xs : List STree) (ih : ∀ x, x ∈ xs → EqXOk x) (va vb : Value) (w : World) (h1 : SListAt w va xs) (h2 : SListAt w vb xs) :
    Calls Tryz.prog 156 #[va, vb] w fun e w' => e = .returned (.bool true) ∧ Below w.heap.size w w' := by
  obtain ⟨hlen, aa, cap, rfl, hk⟩ := h1
  obtain ⟨_, bb, dap, rfl, hk2⟩ := h2
  have IH := Lib.hid ih
  have HK := Lib.hid hk
  have HK2 := Lib.hid hk2
  clear ih hk hk2
  go_enter Tryz.func156, Tryz.ntmps156
  go_wp2
  go_loopw [5] (fun i wr => ∃ (k : Nat), k ≤ xs.length ∧ i = .int .i64 k ∧ Hid (Below w.heap.size w wr))
    (fun i _ => xs.length - (intOf i).toNat)
  case atStart => exact ⟨0, Nat.zero_le _, rfl, Below.refl _ _⟩
  case round =>
    obtain ⟨k, hk, rfl, hbe⟩ := hrel
    by_cases hlt : k < xs.length
    · obtain ⟨g, o, rfl, hl⟩ := HK.out (by omega)
      obtain ⟨h, p, rfl, hm⟩ := HK2.out (by omega)
      obtain ⟨ta, tc, ba, bc, ea, ec, c0, c1, c2, c3, c4, c5, c6, c7, hl2⟩ := (hl.keep (keeps_below hbe.out)).at k hlt
      obtain ⟨ua, uc, da, dc, fa, fc, d0, d1, d2, d3, d4, d5, d6, d7, hm2⟩ := (hm.keep (keeps_below hbe.out)).at k hlt
      have C : Hid (∀ wx, Below wr.heap.size wr wx → Calls Tryz.prog 180 #[.agg #[.int .i64 xs[k].kind, .string xs[k].name, .int .i64 xs[k].term.kind, .int .i64 xs[k].term.num, .string xs[k].term.name, .slice ta xs[k].term.kids.length tc, .slice ba xs[k].body.length bc, .slice ea xs[k].els.length ec], .agg #[.int .i64 xs[k].kind, .string xs[k].name, .int .i64 xs[k].term.kind, .int .i64 xs[k].term.num, .string xs[k].term.name, .slice ua xs[k].term.kids.length uc, .slice da xs[k].body.length dc, .slice fa xs[k].els.length fc]] wx fun e w' => e = .returned (.bool true) ∧ Below wr.heap.size wr w') :=
        fun wx hb => (IH.out xs[k] (List.getElem_mem hlt) _ _ wx (hl2.keep (keeps_below hb)) (hm2.keep (keeps_below hb))).mono fun e w' ⟨he, h⟩ => ⟨he, hb.trans (h.mono hb.size)⟩
      have KS : Hid (∀ wx, Below wr.heap.size wr wx → wx.cell? ⟨g, o + k * 8, none⟩ = some (.int .i64 xs[k].kind) ∧ wx.cell? ⟨g, o + k * 8 + 1, none⟩ = some (.string xs[k].name) ∧ wx.cell? ⟨g, o + k * 8 + 2, none⟩ = some (.int .i64 xs[k].term.kind) ∧ wx.cell? ⟨g, o + k * 8 + 3, none⟩ = some (.int .i64 xs[k].term.num) ∧ wx.cell? ⟨g, o + k * 8 + 4, none⟩ = some (.string xs[k].term.name) ∧ wx.cell? ⟨g, o + k * 8 + 5, none⟩ = some (.slice ta xs[k].term.kids.length tc) ∧ wx.cell? ⟨g, o + k * 8 + 6, none⟩ = some (.slice ba xs[k].body.length bc) ∧ wx.cell? ⟨g, o + k * 8 + 7, none⟩ = some (.slice ea xs[k].els.length ec) ∧ wx.cell? ⟨h, p + k * 8, none⟩ = some (.int .i64 xs[k].kind) ∧ wx.cell? ⟨h, p + k * 8 + 1, none⟩ = some (.string xs[k].name) ∧ wx.cell? ⟨h, p + k * 8 + 2, none⟩ = some (.int .i64 xs[k].term.kind) ∧ wx.cell? ⟨h, p + k * 8 + 3, none⟩ = some (.int .i64 xs[k].term.num) ∧ wx.cell? ⟨h, p + k * 8 + 4, none⟩ = some (.string xs[k].term.name) ∧ wx.cell? ⟨h, p + k * 8 + 5, none⟩ = some (.slice ua xs[k].term.kids.length uc) ∧ wx.cell? ⟨h, p + k * 8 + 6, none⟩ = some (.slice da xs[k].body.length dc) ∧ wx.cell? ⟨h, p + k * 8 + 7, none⟩ = some (.slice fa xs[k].els.length fc) ∧ Below wr.heap.size wr wx) := fun wx hb => by
        have hk := keeps_below hb
        exact ⟨hk _ _ c0, hk _ _ c1, hk _ _ c2, hk _ _ c3, hk _ _ c4, hk _ _ c5, hk _ _ c6, hk _ _ c7, hk _ _ d0, hk _ _ d1, hk _ _ d2, hk _ _ d3, hk _ _ d4, hk _ _ d5, hk _ _ d6, hk _ _ d7, hb⟩
      have b0 : Below wr.heap.size wr wr.drew := (Below.refl _ _).drew
      clear hl hl2 hm hm2 c0 c1 c2 c3 c4 c5 c6 c7 d0 d1 d2 d3 d4 d5 d6 d7
      go_wp2_with fail
      go_region_held3 (fun wx => wx.cell? ⟨g, o + k * 8, none⟩ = some (.int .i64 xs[k].kind) ∧ wx.cell? ⟨g, o + k * 8 + 1, none⟩ = some (.string xs[k].name) ∧ wx.cell? ⟨g, o + k * 8 + 2, none⟩ = some (.int .i64 xs[k].term.kind) ∧ wx.cell? ⟨g, o + k * 8 + 3, none⟩ = some (.int .i64 xs[k].term.num) ∧ wx.cell? ⟨g, o + k * 8 + 4, none⟩ = some (.string xs[k].term.name) ∧ wx.cell? ⟨g, o + k * 8 + 5, none⟩ = some (.slice ta xs[k].term.kids.length tc) ∧ wx.cell? ⟨g, o + k * 8 + 6, none⟩ = some (.slice ba xs[k].body.length bc) ∧ wx.cell? ⟨g, o + k * 8 + 7, none⟩ = some (.slice ea xs[k].els.length ec) ∧ wx.cell? ⟨h, p + k * 8, none⟩ = some (.int .i64 xs[k].kind) ∧ wx.cell? ⟨h, p + k * 8 + 1, none⟩ = some (.string xs[k].name) ∧ wx.cell? ⟨h, p + k * 8 + 2, none⟩ = some (.int .i64 xs[k].term.kind) ∧ wx.cell? ⟨h, p + k * 8 + 3, none⟩ = some (.int .i64 xs[k].term.num) ∧ wx.cell? ⟨h, p + k * 8 + 4, none⟩ = some (.string xs[k].term.name) ∧ wx.cell? ⟨h, p + k * 8 + 5, none⟩ = some (.slice ua xs[k].term.kids.length uc) ∧ wx.cell? ⟨h, p + k * 8 + 6, none⟩ = some (.slice da xs[k].body.length dc) ∧ wx.cell? ⟨h, p + k * 8 + 7, none⟩ = some (.slice fa xs[k].els.length fc) ∧ Below wr.heap.size wr wx)
        (exact KS.out _ (by assumption))
        (first
        | (go_at_call 180; (with_reducible refine (C.out _ (by assumption)).mono ?_); rintro e w1 ⟨rfl, b1⟩))
      all_goals
        have HB1 := Lib.hid (hbe.out.trans (b1.mono hbe.out.size))
        clear b1
        go_wp2
        go_roundw
        case rel => exact ⟨k + 1, by omega, by go_num, HB1⟩
        case measure => simp [intOf]; omega
    · go_wp2
      go_ret
      exact ⟨rfl, hbe.out⟩
set_option maxHeartbeats 800000 in
theorem eqStmt_any : ∀ x : STree, EqXOk x := streeInd fun k s t b e ihb ihe u v w hu hv => by
  obtain ⟨h1, h2, h3, h4, ta, tc, ba, bc, ea, ec, rfl, h5, h6, h7⟩ := hu
  obtain ⟨_, _, _, _, ua, uc, da, dc, fa, fc, rfl, i5, i6, i7⟩ := hv
  have CT := Lib.hid (fun w hk => eqTerm_any t _ _ w (h5.keep hk) (i5.keep hk))
  have CB := Lib.hid (fun w hk => eqXS_any b ihb (.slice ba b.length bc) (.slice da b.length dc) w (SListAt.keep ⟨h3, _, _, rfl, h6⟩ hk) (SListAt.keep ⟨h3, _, _, rfl, i6⟩ hk))
  have CE := Lib.hid (fun w hk => eqXS_any e ihe (.slice ea e.length ec) (.slice fa e.length fc) w (SListAt.keep ⟨h4, _, _, rfl, h7⟩ hk) (SListAt.keep ⟨h4, _, _, rfl, i7⟩ hk))
  have X0 := Lib.hid ((Box8.new w (.int .i64 k) (.string s) (.int .i64 t.kind) (.int .i64 t.num) (.string t.name) (.slice ta t.kids.length tc) (.slice ba b.length bc) (.slice ea e.length ec) 109).keep (keeps_alloc _ (.cells #[.int .i64 k, .string s, .int .i64 t.kind, .int .i64 t.num, .string t.name, .slice ua t.kids.length uc, .slice da b.length dc, .slice fa e.length fc] 109)))
  have Y0 := Lib.hid (Box8.new (w.alloc (.cells #[.int .i64 k, .string s, .int .i64 t.kind, .int .i64 t.num, .string t.name, .slice ta t.kids.length tc, .slice ba b.length bc, .slice ea e.length ec] 109)) (.int .i64 k) (.string s) (.int .i64 t.kind) (.int .i64 t.num) (.string t.name) (.slice ua t.kids.length uc) (.slice da b.length dc) (.slice fa e.length fc) 109)
  have hsz0 : (w.alloc (.cells #[.int .i64 k, .string s, .int .i64 t.kind, .int .i64 t.num, .string t.name, .slice ta t.kids.length tc, .slice ba b.length bc, .slice ea e.length ec] 109)).heap.size = w.heap.size + 1 := by simp
  rw [hsz0] at Y0
  clear ihb ihe h1 h2 h5 h6 h7 i5 i6 i7 hsz0
  go_enter Tryz.func180, Tryz.ntmps180
  go_wp2_with fail
  refine (CT.out _ ((keeps_alloc _ _).trans (keeps_alloc _ _))).mono ?_
  rintro e1 w1 ⟨rfl, hb1⟩
  have K1 := Lib.hid (((keeps_alloc w _).trans (keeps_alloc _ _)).trans (keeps_below hb1))
  have B1 := Lib.hid (below_box1 (below_box1 hb1))
  have X1 := Lib.hid (X0.out.keep (keeps_below hb1))
  have Y1 := Lib.hid (Y0.out.keep (keeps_below hb1))
  obtain ⟨p0, p1, p2, p3, p4, p5, p6, p7⟩ := X1.out
  obtain ⟨q0, q1, q2, q3, q4, q5, q6, q7⟩ := Y1.out
  clear hb1
  go_wp2_with fail
  refine (CB.out _ K1.out).mono ?_
  rintro e2 w2 ⟨rfl, hb2⟩
  have K2 := Lib.hid (K1.out.trans (keeps_below hb2))
  have B2 := Lib.hid (B1.out.trans (hb2.mono B1.out.size))
  have X2 := Lib.hid (X1.out.keep (keeps_below hb2))
  have Y2 := Lib.hid (Y1.out.keep (keeps_below hb2))
  clear hb2 p0 p1 p2 p3 p4 p5 p6 p7 q0 q1 q2 q3 q4 q5 q6 q7
  obtain ⟨p0, p1, p2, p3, p4, p5, p6, p7⟩ := X2.out
  obtain ⟨q0, q1, q2, q3, q4, q5, q6, q7⟩ := Y2.out
  go_wp2_with fail
  refine (CE.out _ K2.out).mono ?_
  rintro e3 w3 ⟨rfl, hb3⟩
  have B3 := Lib.hid (B2.out.trans (hb3.mono B2.out.size))
  clear hb3
  go_wp2
  go_ret
  exact ⟨rfl, B3.out⟩
end Go.Proofs.YtmhhghdfgdhljaaGreatDoor.Trm
/- The laws' comparison of two programs that are the same, walked. Conditions: both lie in memory. -/
namespace Go.Proofs.YtmhhghdfgdhljaaGreatDoor.Trm
open Go.RowKit Own
theorem eqProc_any (p : PrT) (u v : Value) (w : World) (hu : PrLies w p u) (hv : PrLies w p v) :
    Calls Tryz.prog 110 #[u, v] w fun e w' => e = .returned (.bool true) ∧ Below w.heap.size w w' := by
  obtain ⟨h1, ba, bc, rfl, h6⟩ := hu
  obtain ⟨_, da, dc, rfl, i6⟩ := hv
  have CB := Lib.hid (fun w hk => eqXS_any p.body (fun x _ => eqStmt_any x) (.slice ba p.body.length bc) (.slice da p.body.length dc) w (h6.keep hk) (i6.keep hk))
  have X0 := Lib.hid ((Box2.new w (.string p.name) (.slice ba p.body.length bc) 40).keep (keeps_alloc _ (.cells #[.string p.name, .slice da p.body.length dc] 40)))
  have Y0 := Lib.hid (Box2.new (w.alloc (.cells #[.string p.name, .slice ba p.body.length bc] 40)) (.string p.name) (.slice da p.body.length dc) 40)
  have hsz0 : (w.alloc (.cells #[.string p.name, .slice ba p.body.length bc] 40)).heap.size = w.heap.size + 1 := by simp
  rw [hsz0] at Y0
  clear h1 h6 i6 hsz0
  go_enter Tryz.func110, Tryz.ntmps110
  go_wp2_with fail
  refine (CB.out _ ((keeps_alloc _ _).trans (keeps_alloc _ _))).mono ?_
  rintro e1 w1 ⟨rfl, hb1⟩
  have B1 := Lib.hid (below_box1 (below_box1 hb1))
  clear hb1
  go_wp2
  go_ret
  exact ⟨rfl, B1.out⟩
set_option maxHeartbeats 1600000 in
theorem eqPrs_any (xs : List PrT) (va vb : Value) (w : World) (h1 : PrsAt w va xs) (h2 : PrsAt w vb xs) :
    Calls Tryz.prog 59 #[va, vb] w fun e w' => e = .returned (.bool true) ∧ Below w.heap.size w w' := by
  obtain ⟨hlen, aa, cap, rfl, hk⟩ := h1
  obtain ⟨_, bb, dap, rfl, hk2⟩ := h2
  have HK := Lib.hid hk
  have HK2 := Lib.hid hk2
  clear hk hk2
  go_enter Tryz.func59, Tryz.ntmps59
  go_wp2
  go_loopw [5] (fun i wr => ∃ (k : Nat), k ≤ xs.length ∧ i = .int .i64 k ∧ Hid (Below w.heap.size w wr))
    (fun i _ => xs.length - (intOf i).toNat)
  case atStart => exact ⟨0, Nat.zero_le _, rfl, Below.refl _ _⟩
  case round =>
    obtain ⟨k, hk, rfl, hbe⟩ := hrel
    by_cases hlt : k < xs.length
    · obtain ⟨g, o, rfl, hl⟩ := HK.out (by omega)
      obtain ⟨h, p, rfl, hm⟩ := HK2.out (by omega)
      obtain ⟨h0, ba, bc, c0, c1, hl2⟩ := (hl k hlt).keep (keeps_below hbe.out)
      obtain ⟨_, da, dc, d0, d1, hm2⟩ := (hm k hlt).keep (keeps_below hbe.out)
      have C : Hid (∀ wx, Below wr.heap.size wr wx → Calls Tryz.prog 110 #[.agg #[.string xs[k].name, .slice ba xs[k].body.length bc], .agg #[.string xs[k].name, .slice da xs[k].body.length dc]] wx fun e w' => e = .returned (.bool true) ∧ Below wr.heap.size wr w') :=
        fun wx hb => (eqProc_any xs[k] _ _ wx ⟨h0, ba, bc, rfl, hl2.keep (keeps_below hb)⟩ ⟨h0, da, dc, rfl, hm2.keep (keeps_below hb)⟩).mono fun e w' ⟨he, h⟩ => ⟨he, hb.trans (h.mono hb.size)⟩
      have KS : Hid (∀ wx, Below wr.heap.size wr wx → wx.cell? ⟨g, o + k * 2, none⟩ = some (.string xs[k].name) ∧ wx.cell? ⟨g, o + k * 2 + 1, none⟩ = some (.slice ba xs[k].body.length bc) ∧ wx.cell? ⟨h, p + k * 2, none⟩ = some (.string xs[k].name) ∧ wx.cell? ⟨h, p + k * 2 + 1, none⟩ = some (.slice da xs[k].body.length dc) ∧ Below wr.heap.size wr wx) := fun wx hb => by
        have hk := keeps_below hb
        exact ⟨hk _ _ c0, hk _ _ c1, hk _ _ d0, hk _ _ d1, hb⟩
      have b0 : Below wr.heap.size wr wr.drew := (Below.refl _ _).drew
      clear hl hl2 hm hm2 c0 c1 d0 d1
      go_wp2_with fail
      go_region_held3 (fun wx => wx.cell? ⟨g, o + k * 2, none⟩ = some (.string xs[k].name) ∧ wx.cell? ⟨g, o + k * 2 + 1, none⟩ = some (.slice ba xs[k].body.length bc) ∧ wx.cell? ⟨h, p + k * 2, none⟩ = some (.string xs[k].name) ∧ wx.cell? ⟨h, p + k * 2 + 1, none⟩ = some (.slice da xs[k].body.length dc) ∧ Below wr.heap.size wr wx)
        (exact KS.out _ (by assumption))
        (first
        | (go_at_call 110; (with_reducible refine (C.out _ (by assumption)).mono ?_); rintro e w1 ⟨rfl, b1⟩))
      all_goals
        have HB1 := Lib.hid (hbe.out.trans (b1.mono hbe.out.size))
        clear b1
        go_wp2
        go_roundw
        case rel => exact ⟨k + 1, by omega, by go_num, HB1⟩
        case measure => simp [intOf]; omega
    · go_wp2
      go_ret
      exact ⟨rfl, hbe.out⟩
set_option maxHeartbeats 800000 in
theorem eqProg_any (x : PTree) (u v : Value) (w : World) (hu : PLies w x u) (hv : PLies w x v) :
    Calls Tryz.prog 20 #[u, v] w fun e w' => e = .returned (.bool true) ∧ Below w.heap.size w w' := by
  obtain ⟨ga, gc, la, lc, pa, pc, rfl, h1, h2, h3⟩ := hu
  obtain ⟨gb, gd, lb, ld, pb, pd, rfl, i1, i2, i3⟩ := hv
  have C1 := Lib.hid (fun w hk => eqStrs_at (.slice ga x.globals.length gc) (.slice gb x.globals.length gd) x.globals w (h1.1.keep hk) (i1.1.keep hk))
  have C2 := Lib.hid (fun w hk => eqStrs_at (.slice la x.locks.length lc) (.slice lb x.locks.length ld) x.locks w (h2.1.keep hk) (i2.1.keep hk))
  have C3 := Lib.hid (fun w hk => eqPrs_any x.procs (.slice pa x.procs.length pc) (.slice pb x.procs.length pd) w (h3.keep hk) (i3.keep hk))
  have X0 := Lib.hid ((Box3.new w (.slice ga x.globals.length gc) (.slice la x.locks.length lc) (.slice pa x.procs.length pc) 27).keep (keeps_alloc _ (.cells #[.slice gb x.globals.length gd, .slice lb x.locks.length ld, .slice pb x.procs.length pd] 27)))
  have Y0 := Lib.hid (Box3.new (w.alloc (.cells #[.slice ga x.globals.length gc, .slice la x.locks.length lc, .slice pa x.procs.length pc] 27)) (.slice gb x.globals.length gd) (.slice lb x.locks.length ld) (.slice pb x.procs.length pd) 27)
  have hsz0 : (w.alloc (.cells #[.slice ga x.globals.length gc, .slice la x.locks.length lc, .slice pa x.procs.length pc] 27)).heap.size = w.heap.size + 1 := by simp
  rw [hsz0] at Y0
  clear h1 h2 h3 i1 i2 i3 hsz0
  go_enter Tryz.func20, Tryz.ntmps20
  go_wp2_with fail
  refine (C1.out _ ((keeps_alloc _ _).trans (keeps_alloc _ _))).mono ?_
  rintro e1 w1 ⟨rfl, hb1⟩
  have K1 := Lib.hid (((keeps_alloc w _).trans (keeps_alloc _ _)).trans (keeps_below hb1))
  have B1 := Lib.hid (below_box1 (below_box1 hb1))
  have X1 := Lib.hid (X0.out.keep (keeps_below hb1))
  have Y1 := Lib.hid (Y0.out.keep (keeps_below hb1))
  obtain ⟨p0, p1, p2⟩ := X1.out
  obtain ⟨q0, q1, q2⟩ := Y1.out
  clear hb1
  go_wp2_with fail
  refine (C2.out _ K1.out).mono ?_
  rintro e2 w2 ⟨rfl, hb2⟩
  have K2 := Lib.hid (K1.out.trans (keeps_below hb2))
  have B2 := Lib.hid (B1.out.trans (hb2.mono B1.out.size))
  have X2 := Lib.hid (X1.out.keep (keeps_below hb2))
  have Y2 := Lib.hid (Y1.out.keep (keeps_below hb2))
  clear hb2 p0 p1 p2 q0 q1 q2
  obtain ⟨p0, p1, p2⟩ := X2.out
  obtain ⟨q0, q1, q2⟩ := Y2.out
  go_wp2_with fail
  refine (C3.out _ K2.out).mono ?_
  rintro e3 w3 ⟨rfl, hb3⟩
  have B3 := Lib.hid (B2.out.trans (hb3.mono B2.out.size))
  clear hb3
  go_wp2
  go_ret
  exact ⟨rfl, B3.out⟩
end Go.Proofs.YtmhhghdfgdhljaaGreatDoor.Trm
/- The law of ProgFault out of two contracts, walked. Conditions: the arguments read; both sides answer the same. -/
namespace Go.Proofs.YtmhhghdfgdhljaaGreatDoor.FnExactProgFaultW
open Go.RowKit Own Trm
set_option maxHeartbeats 800000 in
theorem core (x : PTree) (v : Value) (w : World) (n : Int) (hl : PLies w x v) (hz : szP x ≤ 1048576)
    (c1 : ∀ v w, POwn w x v → Calls Tryz.prog 26 #[v] w fun e w' => e = .returned (.int .i64 n) ∧ Below w.heap.size w w')
    (c2 : ∀ v wx, Below w.heap.size w wx → POwn wx x v → Calls Tryz.prog 27 #[v] wx fun e w' => e = .returned (.int .i64 n) ∧ Below wx.heap.size wx w') :
    Calls Tryz.prog 6 #[v] w fun e w' => e = .returned (.bool true) ∧ Below w.heap.size w w' := by
  have C1 := Lib.hid c1
  have C2 := Lib.hid c2
  have CS := Lib.hid (fun y hk => szProg_any x v y 1048576 (by omega) (hl.keep hk))
  have CT := Lib.hid (fun y hk => toProg_any x v y hz (hl.keep hk))
  have CE := Lib.hid (eqProg_any x)
  have HZ := Lib.hid (leftR_yes hz)
  have hz2 : 0 ≤ ((1048576 - szP x : Nat) : Int) := by omega
  obtain ⟨ga, gc, la, lc, pa, pc, rfl⟩ := hl.shape
  have X0 := Lib.hid (Box3.new w (.slice ga x.globals.length gc) (.slice la x.locks.length lc) (.slice pa x.procs.length pc) 49)
  clear c1 c2 hz hl
  go_enter Tryz.func6, Tryz.ntmps6
  go_wp2_with fail
  refine (CS.out _ (keeps_alloc _ _)).mono ?_
  rintro e w1 ⟨rfl, hb⟩
  rw [HZ.out]
  have B1 := Lib.hid (below_box1 hb)
  have X1 := Lib.hid (X0.out.keep (keeps_below hb))
  clear hb X0
  obtain ⟨p0, p1, p2⟩ := X1.out
  go_wp2_with fail
  refine (CT.out _ (keeps_below B1.out)).mono ?_
  rintro e w2 ⟨v2, rfl, ho, hb⟩
  have O2 := Lib.hid ho
  obtain ⟨_, _, _, _, _, _, rfl⟩ := ho.lies.shape
  have B2 := Lib.hid (B1.out.trans (hb.mono B1.out.size))
  have X2 := Lib.hid (X1.out.keep (keeps_below hb))
  clear ho hb p0 p1 p2
  go_wp2_with fail
  refine (C1.out _ _ O2.out).mono ?_
  rintro e w3 ⟨rfl, hb⟩
  have B3 := Lib.hid (B2.out.trans (hb.mono B2.out.size))
  have X3 := Lib.hid (X2.out.keep (keeps_below hb))
  clear hb
  obtain ⟨p0, p1, p2⟩ := X3.out
  go_wp2_with fail
  refine (CT.out _ (keeps_below B3.out)).mono ?_
  rintro e w4 ⟨v4, rfl, ho, hb⟩
  obtain ⟨ua, uc, da, dc, fa, fc, rfl⟩ := ho.lies.shape
  have HO4 := Lib.hid ho
  have B4 := Lib.hid (B3.out.trans (hb.mono B3.out.size))
  have X4 := Lib.hid (X3.out.keep (keeps_below hb))
  clear ho hb p0 p1 p2
  have Y4 := Lib.hid (Box3.new w4 (.slice ua x.globals.length uc) (.slice da x.locks.length dc) (.slice fa x.procs.length fc) 27)
  have A4 := Lib.hid (HO4.out.below ((Below.refl w4.heap.size w4).alloc (Nat.le_refl _) (.cells #[.slice ua x.globals.length uc, .slice da x.locks.length dc, .slice fa x.procs.length fc] 27)))
  go_wp2_with fail
  refine (C2.out _ _ (B4.out.alloc B4.out.size _) A4.out).mono ?_
  rintro e w5 ⟨rfl, hb⟩
  have B5 := Lib.hid ((B4.out.alloc B4.out.size _).trans (hb.mono (Nat.le_trans B4.out.size (by simp))))
  have X5 := Lib.hid (X4.out.keep ((keeps_alloc _ _).trans (keeps_below hb)))
  have Y5 := Lib.hid (Y4.out.keep (keeps_below hb))
  have L5 := Lib.hid (A4.out.lies.keep (keeps_below hb))
  clear hb
  obtain ⟨p0, p1, p2⟩ := X5.out
  obtain ⟨q0, q1, q2⟩ := Y5.out
  go_wp2
  go_region_with (first
    | (go_at_call 18; refine (CT.out _ ((keeps_below B5.out).trans (keeps_drew _))).mono ?_; rintro e w7 ⟨v7, rfl, ho, hb⟩; have HO7 := Lib.hid ho.lies; have HB7 := Lib.hid hb; have Y7 := Y5.out.keep ((keeps_drew _).trans (keeps_below hb)); clear ho hb; obtain ⟨r0, r1, r2⟩ := Y7)
    | (go_at_call 20; refine (CE.out _ _ _ (L5.out.keep ((keeps_drew _).trans (keeps_below HB7.out))) HO7.out).mono ?_; rintro e w8 ⟨rfl, hb⟩; have HB8 := Lib.hid hb; clear hb))
  all_goals
    go_wp2
    go_ret
    have B7 := B5.out.trans ((below_of_drew HB7.out).mono B5.out.size)
    exact ⟨rfl, B7.trans (HB8.out.mono B7.size)⟩
theorem big (x : PTree) (v : Value) (w : World) (hl : PLies w x v) (hz : 1048576 < szP x) :
    Calls Tryz.prog 6 #[v] w fun e w' => e = .returned (.bool true) ∧ Below w.heap.size w w' := by
  have CS := Lib.hid (fun y hk => szProg_any x v y 1048576 (by omega) (hl.keep hk))
  obtain ⟨ga, gc, la, lc, pa, pc, rfl⟩ := hl.shape
  have HZ := Lib.hid (leftR_no (a := 1048576) (n := szP x) (by omega))
  clear hl hz
  go_enter Tryz.func6, Tryz.ntmps6
  go_wp2_with fail
  refine (CS.out _ (keeps_alloc _ _)).mono ?_
  rintro e w1 ⟨rfl, hb⟩
  rw [HZ.out]
  have B1 := Lib.hid (below_box1 hb)
  clear hb
  go_wp2
  go_ret
  exact ⟨rfl, B1.out⟩
end Go.Proofs.YtmhhghdfgdhljaaGreatDoor.FnExactProgFaultW
/- The law of ProgFault, walked. Conditions: the argument reads; the four variables hold four errors of their own. -/
namespace Go.Proofs.YtmhhghdfgdhljaaGreatDoor.FnExactProgFaultW
open Go.RowKit Own Trm Er
set_option maxRecDepth 100000 in
theorem walk {H : Type} {enc : TypeId × Value → H} {base b0 : Nat} {spare : Nat → Bool} {held : Bool} {r : Reach} {d : DataW H} {p : List MemPlace} (v : Value) (w : World) (ok : Value.okWide Tryz.prog w r b0 49 v) (k : DataW.Trod enc Tryz.prog w base spare held 49 v d p) (a : Nat → Addr) (hE : Errs a w) :
    Calls Tryz.prog 6 #[v] w fun e w' => e = .returned (.bool true) ∧ Below w.heap.size w w' := by
  obtain ⟨x, hl⟩ := plies_of_Trod ok k
  by_cases hz : szP x ≤ 1048576
  · exact core x v w (faultI x) hl hz (fun v w h => specFault_any x v w hz h.lies h.cap) (fun v wx hb h => implFault_any a x v wx hz h (hE.below hb))
  · exact big x v w hl (by omega)
end Go.Proofs.YtmhhghdfgdhljaaGreatDoor.FnExactProgFaultW
