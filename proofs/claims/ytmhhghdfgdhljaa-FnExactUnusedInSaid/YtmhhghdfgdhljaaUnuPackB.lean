/- The law of UnusedIn, walked. Conditions: the argument reads. With what it stands on, in one text. -/
import Derived.Test.YtmhhghdfgdhljaaChecked
import Derived.Test.YtmhhghdfgdhljaaSTrees
import Derived.Test.YtmhhghdfgdhljaaTermSize
import Derived.WalkSmall
import Derived.Outline
import Derived.Test.YtmhhghdfgdhljaaLists
import Derived.BigQuiet
import Derived.OwnWalk
import Derived.Test.YtmhhghdfgdhljaaPTrees
import Derived.Test.YtmhhghdfgdhljaaSOwn
import Derived.Test.YtmhhghdfgdhljaaPOwn
import Derived.Deep.RegionWith
import Derived.Deep.RegionHeld3
import Derived.Test.YtmhhghdfgdhljaaDigits
import Derived.Test.YtmhhghdfgdhljaaOwnStr
import Derived.Laws.IdiomStrings
import Derived.Laws.Concat
import Derived.Test.YtmhhghdfgdhljaaTermOwn
import Derived.Test.YtmhhghdfgdhljaaTermTo
import Derived.Test.YtmhhghdfgdhljaaStrCells
import Derived.Deep.AppendLies
import Derived.Lib.Hide
import Derived.Test.YtmhhghdfgdhljaaPArg
import Derived.Test.YtmhhghdfgdhljaaUnuPackA
/- The laws' count of a statement's names and what is within it, walked. Conditions: the statement lies in memory; the room left is at most 2 to the 20. -/
namespace Go.Proofs.Ytmhhghdfgdhljaa.Trm
open Go.RowKit Own
def SzXOk (x : STree) : Prop := ∀ (v : Value) (w : World) (a : Nat), a ≤ 1048576 → SLies w x v →
    Calls Try.prog 20 #[v, .int .i64 (a : Int)] w fun e w' => e = .returned (.int .i64 (leftR a (szX x))) ∧ Below w.heap.size w w'
theorem szXS_any (xs : List STree) (ih : ∀ x, x ∈ xs → SzXOk x) (v : Value) (w : World) (a : Nat) (ha : a ≤ 1048576) (hl : SListAt w v xs) :
    Calls Try.prog 25 #[v, .int .i64 (a : Int)] w fun e w' => e = .returned (.int .i64 (leftR a (xs.length + szXS xs))) ∧ Below w.heap.size w w' := by
  obtain ⟨hlen, aa, cap, rfl, hk⟩ := hl
  have IH := Lib.hid ih
  have HK := Lib.hid hk
  clear ih hk
  by_cases hb : a < xs.length
  · have HO := Lib.hid (leftR_no (a := a) (n := xs.length + szXS xs) (by omega))
    go_enter Try.func25, Try.ntmps25
    go_wp2
    go_ret
    exact ⟨by rw [HO.out]; rfl, Below.refl _ _⟩
  · go_enter Try.func25, Try.ntmps25
    go_wp2
    go_loopw [1, 5] (fun x i wr => ∃ (k b : Nat), k ≤ xs.length ∧ b ≤ 1048576 ∧ i = .int .i64 k ∧ x = .int .i64 b ∧ Hid (leftR a (xs.length + szXS xs) = leftR b (szXS (xs.drop k))) ∧ Hid (Below w.heap.size w wr))
      (fun _ i _ => xs.length - (intOf i).toNat)
    case atStart => exact ⟨0, a - xs.length, Nat.zero_le _, by omega, rfl, by go_num, leftR_step (by omega), Below.refl _ _⟩
    case round =>
      obtain ⟨k, b, hk, hb2, rfl, rfl, hsz, hbe⟩ := hrel
      by_cases hlt : k < xs.length
      · obtain ⟨g, o, rfl, hl⟩ := HK.out (by omega)
        obtain ⟨ta, tc, ba, bc, ea, ec, c0, c1, c2, c3, c4, c5, c6, c7, hl2⟩ := (hl.keep (keeps_below hbe.out)).at k hlt
        have C := Lib.hid (IH.out xs[k] (List.getElem_mem hlt) _ wr b hb2 hl2)
        have hd := szXS_drop hlt
        by_cases hle : szX xs[k] ≤ b
        · have HS : Hid (leftR a (xs.length + szXS xs) = leftR (b - szX xs[k]) (szXS (xs.drop (k + 1)))) := by
            show leftR a (xs.length + szXS xs) = _
            rw [hsz.out, hd]; exact leftR_step hle
          rw [leftR_yes hle] at C
          clear hl hl2 hd
          go_wp2_with fail
          refine C.out.mono ?_
          rintro e w1 ⟨rfl, hb1⟩
          have HB1 := Lib.hid (hbe.out.trans (hb1.mono hbe.out.size))
          clear hb1
          go_wp2
          go_roundw
          case rel => exact ⟨k + 1, b - szX xs[k], by omega, by omega, by go_num, rfl, HS, HB1⟩
          case measure => simp [intOf]; omega
        · have HS : Hid (leftR a (xs.length + szXS xs) = -1) := by
            show leftR a (xs.length + szXS xs) = _
            rw [hsz.out, hd]; exact leftR_no (by omega)
          rw [leftR_no (by omega)] at C
          clear hl hl2 hd
          go_wp2_with fail
          refine C.out.mono ?_
          rintro e w1 ⟨rfl, hb1⟩
          have HB1 := Lib.hid (hbe.out.trans (hb1.mono hbe.out.size))
          clear hb1
          go_wp2
          go_ret
          exact ⟨by rw [HS.out]; rfl, HB1.out⟩
      · have HS : Hid (leftR a (xs.length + szXS xs) = (b : Int)) := by
          show leftR a (xs.length + szXS xs) = _
          rw [hsz.out, szXS_end (by omega), leftR_yes (by omega)]; rfl
        go_wp2
        go_ret
        exact ⟨by rw [HS.out]; rfl, hbe.out⟩
set_option maxHeartbeats 800000 in
theorem szStmt_any : ∀ x : STree, SzXOk x := streeInd fun k s t b e ihb ihe v w a ha hl => by
  obtain ⟨h1, h2, h3, h4, ta, tc, ba, bc, ea, ec, rfl, h5, h6, h7⟩ := hl
  have CT := Lib.hid (fun w a ha hk => szTerm_any t _ w a ha (h5.keep hk))
  have CB := Lib.hid (fun w a ha hk => szXS_any b ihb (.slice ba b.length bc) w a ha (SListAt.keep ⟨h3, _, _, rfl, h6⟩ hk))
  have CE := Lib.hid (fun w a ha hk => szXS_any e ihe (.slice ea e.length ec) w a ha (SListAt.keep ⟨h4, _, _, rfl, h7⟩ hk))
  have X0 := Lib.hid (Box8.new w (.int .i64 k) (.string s) (.int .i64 t.kind) (.int .i64 t.num) (.string t.name) (.slice ta t.kids.length tc) (.slice ba b.length bc) (.slice ea e.length ec) 42)
  clear ihb ihe h5 h6 h7
  by_cases hb : a < s.size
  · have HS : Hid (leftR a (szX (.node k s t b e)) = -1) := leftR_no (by rw [szX]; omega)
    go_enter Try.func20, Try.ntmps20
    go_wp2
    go_ret
    exact ⟨by rw [HS.out]; rfl, (Below.refl _ _).alloc (Nat.le_refl _) _⟩
  · have hsub : ((a : Int) - (s.size : Int)) = ((a - s.size : Nat) : Int) := by omega
    have HSub := Lib.hid hsub
    have HS : Hid (leftR a (szX (.node k s t b e)) = leftR (a - s.size) (szT t + ((b.length + szXS b) + (e.length + szXS e)))) := by
      show leftR a (szX (.node k s t b e)) = _
      rw [szX]; exact leftR_step (by omega)
    have ha1 : a - s.size ≤ 1048576 := by omega
    clear hsub
    go_enter Try.func20, Try.ntmps20
    go_wp2_with fail
    rw [HSub.out]
    generalize a - s.size = a1 at HS ha1
    refine (CT.out _ a1 ha1 (keeps_alloc _ _)).mono ?_
    rintro e1 w1 ⟨rfl, hb1⟩
    have B1 := Lib.hid (below_box1 hb1)
    have K1 := Lib.hid ((keeps_alloc w _).trans (keeps_below hb1))
    obtain ⟨p0, p1, p2, p3, p4, p5, p6, p7⟩ := X0.out.keep (keeps_below hb1)
    clear hb1
    by_cases hle : szT t ≤ a1
    · have HS1 : Hid (leftR a (szX (.node k s t b e)) = leftR (a1 - szT t) ((b.length + szXS b) + (e.length + szXS e))) := by show leftR a (szX (.node k s t b e)) = _; rw [HS.out]; exact leftR_step hle
      have ha2 : a1 - szT t ≤ 1048576 := by omega
      rw [leftR_yes hle]
      generalize a1 - szT t = a2 at HS1 ha2
      go_wp2_with fail
      refine (CB.out _ a2 ha2 K1.out).mono ?_
      rintro e2 w2 ⟨rfl, hb2⟩
      have B2 := Lib.hid (B1.out.trans (hb2.mono B1.out.size))
      have K2 := Lib.hid (K1.out.trans (keeps_below hb2))
      have X2 := Lib.hid ((Box8.keep ⟨p0, p1, p2, p3, p4, p5, p6, p7⟩ (keeps_below hb2)))
      clear hb2 p0 p1 p2 p3 p4 p5 p6 p7
      obtain ⟨p0, p1, p2, p3, p4, p5, p6, p7⟩ := X2.out
      by_cases hle2 : b.length + szXS b ≤ a2
      · have HS2 : Hid (leftR a (szX (.node k s t b e)) = leftR (a2 - (b.length + szXS b)) (e.length + szXS e)) := by show leftR a (szX (.node k s t b e)) = _; rw [HS1.out]; exact leftR_step hle2
        have ha3 : a2 - (b.length + szXS b) ≤ 1048576 := by omega
        rw [leftR_yes hle2]
        generalize a2 - (b.length + szXS b) = a3 at HS2 ha3
        go_wp2_with fail
        refine (CE.out _ a3 ha3 K2.out).mono ?_
        rintro e3 w3 ⟨rfl, hb3⟩
        have B3 := Lib.hid (B2.out.trans (hb3.mono B2.out.size))
        clear hb3
        by_cases hle3 : e.length + szXS e ≤ a3
        · have HL := Lib.hid (leftR_yes hle3)
          rw [leftR_yes hle3]
          go_wp2
          go_ret
          exact ⟨by rw [HS2.out, HL.out]; rfl, B3.out⟩
        · have HL := Lib.hid (leftR_no (a := a3) (n := e.length + szXS e) (by omega))
          rw [HL.out]
          go_wp2
          go_ret
          exact ⟨by rw [HS2.out, HL.out]; rfl, B3.out⟩
      · have HL := Lib.hid (leftR_no (a := a2) (n := b.length + szXS b) (by omega))
        have HS2 : Hid (leftR a (szX (.node k s t b e)) = -1) := by show leftR a (szX (.node k s t b e)) = _; rw [HS1.out]; exact leftR_no (by omega)
        rw [HL.out]
        go_wp2
        go_ret
        exact ⟨by rw [HS2.out]; rfl, B2.out⟩
    · have HL := Lib.hid (leftR_no (a := a1) (n := szT t) (by omega))
      have HS2 : Hid (leftR a (szX (.node k s t b e)) = -1) := by show leftR a (szX (.node k s t b e)) = _; rw [HS.out]; exact leftR_no (by omega)
      rw [HL.out]
      go_wp2
      go_ret
      exact ⟨by rw [HS2.out]; rfl, B1.out⟩
end Go.Proofs.Ytmhhghdfgdhljaa.Trm
/- The laws' helpers over lists of texts and of numbers, walked: compared. Conditions: the lists lie in memory. -/
namespace Go.Proofs.Ytmhhghdfgdhljaa.Trm
open Go.RowKit Own
theorem infoStrL : (Try.prog.info? 9).map (fun i => (i.zero, i.size, i.bytes)) = some (some (.string ⟨#[]⟩), 1, 16) := by kernel_rfl
theorem infoIntL : (Try.prog.info? 3).map (fun i => (i.zero, i.size, i.bytes)) = some (some (.int .i64 0), 1, 8) := by kernel_rfl
theorem below_noneL {w w' : World} (h : w.grownBy w' none) : Below w.heap.size w w' := ⟨h.os, h.tape, h.output, h.size, fun k hk => h.block k hk (by simp)⟩
theorem set_mid (ys : List Value) (z : Value) (zs : List Value) (u : Value) (j : Nat) (h : ys.length = j) : (ys ++ z :: zs).set j u = (ys ++ [u]) ++ zs := by
  subst h
  rw [List.set_append_right _ _ (Nat.le_refl _), Nat.sub_self, List.set_cons_zero]
  simp
set_option maxHeartbeats 400000 in
theorem eqStrs_at (u v : Value) (ss : List ByteArray) (w : World) (h1 : StrsAt w ss u) (h2 : StrsAt w ss v) :
    Calls Try.prog 29 #[u, v] w fun e w' => e = .returned (.bool true) ∧ Below w.heap.size w w' := by
  obtain ⟨a1, c1, rfl, hm, ha1⟩ := h1
  obtain ⟨a2, c2, rfl, _, ha2⟩ := h2
  have HA1 := Lib.hid ha1
  have HA2 := Lib.hid ha2
  clear ha1 ha2
  go_enter Try.func29, Try.ntmps29
  go_wp2
  go_loopw [5] (fun i wr => ∃ k m : Nat, k ≤ ss.length ∧ i = .int .i64 k ∧ wr = w.drewN m)
    (fun i _ => ss.length - (intOf i).toNat)
  case atStart => exact ⟨0, 0, Nat.zero_le _, rfl, (World.drewN_zero _).symm⟩
  case round =>
    obtain ⟨k, m, hk, rfl, rfl⟩ := hrel
    by_cases hlt : k < ss.length
    · obtain ⟨g1, o1, rfl, q1⟩ := HA1.out (by omega)
      obtain ⟨g2, o2, rfl, q2⟩ := HA2.out (by omega)
      have d1 := q1 k hlt
      have d2 := q2 k hlt
      clear q1 q2
      go_wp2
      go_quiet (fail)
      go_wp2
      go_roundw
      case rel => exact ⟨k + 1, m + nq, by omega, by go_num, rfl⟩
      case measure => simp [intOf]; omega
    · go_wp2
      go_ret
      exact ⟨rfl, below_drewN (Below.refl _ _) _⟩
end Go.Proofs.Ytmhhghdfgdhljaa.Trm
/- The laws' helpers over lists of texts and of numbers, walked: counted, copied, compared. Conditions: the lists lie in memory; they have at most 2 to the 20 elements. -/
namespace Go.Proofs.Ytmhhghdfgdhljaa.Trm
open Go.RowKit Own
set_option maxHeartbeats 400000 in
theorem toStrings_any (ns : List ByteArray) (v : Value) (w : World) (hl : StrsAt w ns v) (hz : ns.length ≤ 1048576) :
    Calls Try.prog 49 #[v] w fun e w' => ∃ v', e = .returned v' ∧ w'.ownsRow w.heap.size 9 1 v' ns.length (strV ns) ∧ Below w.heap.size w w' := by
  obtain ⟨i0, hi, hz0, hz1, hz2⟩ := info_parts infoStrL
  obtain ⟨a, cap, rfl, h1, h2⟩ := hl
  have HK := Lib.hid h2
  clear h2
  go_enter Try.func49, Try.ntmps49
  go_wp2_with (at_make; refine wpList_make_full _ rfl (.tmp 6) (.tmp 6) 22 rfl w.heap.size 9 i0 _ 1 Try.underlying22 hi hz0 hz1 .i64 .i64 _ _ ns.length rfl rfl rfl rfl (by rw [hz2]; omega) (by unfold maxLen; omega) (Nat.le_refl _) ?_)
  intro w1 hown hg
  have HO := Lib.hid hown
  have HG := Lib.hid hg
  clear hown hg
  go_wp2
  go_loopw [4] (fun i wr => ∃ (k : Nat) (zs : List Value), k ≤ ns.length ∧ i = .int .i64 k ∧ Hid (wr.ownsRow w.heap.size 9 1 (.slice (some ⟨w.heap.size, 0, none⟩) ns.length ns.length) ns.length (strV (ns.take k) ++ zs)) ∧ Hid (Below w.heap.size w wr))
    (fun i _ => ns.length - (intOf i).toNat)
  case atStart => exact ⟨0, _, Nat.zero_le _, rfl, HO.out, below_noneL HG.out⟩
  case round =>
    obtain ⟨k, zs, hk, rfl, hrow, hbe⟩ := hrel
    by_cases hlt : k < ns.length
    · obtain ⟨g, o, rfl, hc⟩ := HK.out (by omega)
      have c0 := keeps_below hbe.out _ _ (hc k hlt)
      have hls := hrow.out.1
      simp only [strV, List.length_append, List.length_map, List.length_take] at hls
      obtain ⟨z, zs2, rfl⟩ : ∃ z zs2, zs = z :: zs2 := by
        cases zs with
        | nil => simp at hls; omega
        | cons z r => exact ⟨z, r, rfl⟩
      have f0 := hrow.out.frozenAt k
      obtain ⟨u0, s0⟩ : ∃ u, wr.cell? ⟨w.heap.size, k, none⟩ = some u := ⟨_, (hrow.out.cellAt k (by omega)).trans (List.getElem?_eq_getElem (by rw [hrow.out.1]; omega))⟩
      obtain ⟨hr2, hg2⟩ := hrow.out.stored k (.string ns[k])
      rw [set_mid _ _ _ _ k (by simp [strV]; omega)] at hr2
      have HR2 : Hid ((wr.setCell ⟨w.heap.size, k, none⟩ (.string ns[k])).ownsRow w.heap.size 9 1 (.slice (some ⟨w.heap.size, 0, none⟩) ns.length ns.length) ns.length (strV (ns.take (k + 1)) ++ zs2)) := by
        have e : strV (ns.take (k + 1)) = strV (ns.take k) ++ [Value.string ns[k]] := by rw [List.take_succ_eq_append_getElem hlt]; simp only [strV, List.map_append, List.map_cons, List.map_nil]
        rw [e]
        exact hr2
      have HB2 := Lib.hid (hbe.out.grown hg2 hbe.out.size (fun b hb => by cases hb; exact Nat.le_refl _))
      clear hc hls hr2 hg2
      go_wp2
      go_roundw
      case rel => exact ⟨k + 1, zs2, by omega, by go_num, HR2, HB2⟩
      case measure => simp [intOf]; omega
    · obtain rfl : k = ns.length := by omega
      have h1 := hrow.out
      rw [List.take_length] at h1
      have hz : zs = [] := by have := h1.1; simpa [strV] using this
      rw [hz, List.append_nil] at h1
      have H1 := Lib.hid h1
      clear h1 hz
      go_wp2
      go_ret
      exact ⟨_, rfl, H1.out, hbe.out⟩
def szB (ss : List ByteArray) : Nat := (ss.map (·.size)).sum
theorem szB_drop {ss : List ByteArray} {i : Nat} (h : i < ss.length) : szB (ss.drop i) = ss[i].size + szB (ss.drop (i + 1)) := by unfold szB; rw [List.drop_eq_getElem_cons h, List.map_cons, List.sum_cons]
theorem szB_end {ss : List ByteArray} {i : Nat} (h : ss.length ≤ i) : szB (ss.drop i) = 0 := by rw [List.drop_of_length_le h]; rfl
set_option maxHeartbeats 400000 in
theorem szStrings_any (ss : List ByteArray) (v : Value) (w : World) (a : Nat) (ha : a ≤ 1048576) (h1 : StrsAt w ss v) (hs : ∀ s, s ∈ ss → s.size ≤ 9223372036854775807) :
    Calls Try.prog 44 #[v, .int .i64 (a : Int)] w fun e w' => e = .returned (.int .i64 (leftR a (ss.length + szB ss))) ∧ w = w' := by
  obtain ⟨aa, cap, rfl, hm, ha1⟩ := h1
  have HA := Lib.hid ha1
  have HS0 := Lib.hid hs
  clear ha1 hs
  by_cases hb : a < ss.length
  · have HO := Lib.hid (leftR_no (a := a) (n := ss.length + szB ss) (by omega))
    go_enter Try.func44, Try.ntmps44
    go_wp2
    go_ret
    exact ⟨by rw [HO.out]; rfl, rfl⟩
  · go_enter Try.func44, Try.ntmps44
    go_wp2
    go_loop [1, 5] (fun x i => ∃ (k b : Nat), k ≤ ss.length ∧ b ≤ 1048576 ∧ i = .int .i64 k ∧ x = .int .i64 b ∧ Hid (leftR a (ss.length + szB ss) = leftR b (szB (ss.drop k))))
      (fun _ i => ss.length - (intOf i).toNat)
    case atStart => exact ⟨0, a - ss.length, Nat.zero_le _, by omega, rfl, by go_num, leftR_step (by omega)⟩
    case round =>
      obtain ⟨k, b, hk, hb2, rfl, rfl, hsz⟩ := hrel
      by_cases hlt : k < ss.length
      · obtain ⟨g, o, rfl, q1⟩ := HA.out (by omega)
        have d1 := q1 k hlt
        have hz := HS0.out _ (List.getElem_mem hlt)
        have hd := szB_drop hlt
        clear q1
        by_cases hle : ss[k].size ≤ b
        · have HS : Hid (leftR a (ss.length + szB ss) = leftR (b - ss[k].size) (szB (ss.drop (k + 1)))) := by
            show leftR a (ss.length + szB ss) = _
            rw [hsz.out, hd]; exact leftR_step hle
          clear hd
          go_wp2
          go_round
          case rel => exact ⟨k + 1, b - ss[k].size, by omega, by omega, by go_num, by go_num, HS⟩
          case measure => simp [intOf]; omega
        · have HS : Hid (leftR a (ss.length + szB ss) = -1) := by
            show leftR a (ss.length + szB ss) = _
            rw [hsz.out, hd]; exact leftR_no (by omega)
          clear hd
          go_wp2
          go_ret
          exact ⟨by rw [HS.out]; rfl, rfl⟩
      · have HS : Hid (leftR a (ss.length + szB ss) = (b : Int)) := by
          show leftR a (ss.length + szB ss) = _
          rw [hsz.out, szB_end (by omega), leftR_yes (by omega)]; rfl
        go_wp2
        go_ret
        exact ⟨by rw [HS.out]; rfl, rfl⟩
end Go.Proofs.Ytmhhghdfgdhljaa.Trm
/- The laws' count of a program's names and statements, walked. Conditions: the program lies in memory; the room left is at most 2 to the 20. -/
namespace Go.Proofs.Ytmhhghdfgdhljaa.Trm
open Go.RowKit Own
theorem szProc_any (p : PrT) (v : Value) (w : World) (a : Nat) (ha : a ≤ 1048576) (hl : PrLies w p v) :
    Calls Try.prog 111 #[v, .int .i64 (a : Int)] w fun e w' => e = .returned (.int .i64 (leftR a (szPr p))) ∧ Below w.heap.size w w' := by
  obtain ⟨h1, ba, bc, rfl, h6⟩ := hl
  have CB := Lib.hid (fun w a ha hk => szXS_any p.body (fun x _ => szStmt_any x) (.slice ba p.body.length bc) w a ha (h6.keep hk))
  have X0 := Lib.hid (Box2.new w (.string p.name) (.slice ba p.body.length bc) 149)
  clear h6
  by_cases hb : a < p.name.size
  · have HS : Hid (leftR a (szPr p) = -1) := leftR_no (by rw [szPr]; omega)
    go_enter Try.func111, Try.ntmps111
    go_wp2
    go_ret
    exact ⟨by rw [HS.out]; rfl, (Below.refl _ _).alloc (Nat.le_refl _) _⟩
  · have hsub : ((a : Int) - (p.name.size : Int)) = ((a - p.name.size : Nat) : Int) := by omega
    have HSub := Lib.hid hsub
    have HS : Hid (leftR a (szPr p) = leftR (a - p.name.size) (p.body.length + szXS p.body)) := by
      show leftR a (szPr p) = _
      rw [szPr]; exact leftR_step (by omega)
    have ha1 : a - p.name.size ≤ 1048576 := by omega
    clear hsub
    go_enter Try.func111, Try.ntmps111
    go_wp2_with fail
    rw [HSub.out]
    generalize a - p.name.size = a1 at HS ha1
    refine (CB.out _ a1 ha1 (keeps_alloc _ _)).mono ?_
    rintro e1 w1 ⟨rfl, hb1⟩
    have B1 := Lib.hid (below_box1 hb1)
    clear hb1
    by_cases hle : p.body.length + szXS p.body ≤ a1
    · have HL := Lib.hid (leftR_yes hle)
      rw [leftR_yes hle]
      go_wp2
      go_ret
      exact ⟨by rw [HS.out, HL.out]; rfl, B1.out⟩
    · have HL := Lib.hid (leftR_no (a := a1) (n := p.body.length + szXS p.body) (by omega))
      rw [HL.out]
      go_wp2
      go_ret
      exact ⟨by rw [HS.out, HL.out]; rfl, B1.out⟩
theorem szPrs_any (xs : List PrT) (v : Value) (w : World) (a : Nat) (ha : a ≤ 1048576) (hl : PrsAt w v xs) :
    Calls Try.prog 74 #[v, .int .i64 (a : Int)] w fun e w' => e = .returned (.int .i64 (leftR a (xs.length + szPrs xs))) ∧ Below w.heap.size w w' := by
  obtain ⟨hlen, aa, cap, rfl, hk⟩ := hl
  have HK := Lib.hid hk
  clear hk
  by_cases hb : a < xs.length
  · have HO := Lib.hid (leftR_no (a := a) (n := xs.length + szPrs xs) (by omega))
    go_enter Try.func74, Try.ntmps74
    go_wp2
    go_ret
    exact ⟨by rw [HO.out]; rfl, Below.refl _ _⟩
  · go_enter Try.func74, Try.ntmps74
    go_wp2
    go_loopw [1, 5] (fun x i wr => ∃ (k b : Nat), k ≤ xs.length ∧ b ≤ 1048576 ∧ i = .int .i64 k ∧ x = .int .i64 b ∧ Hid (leftR a (xs.length + szPrs xs) = leftR b (szPrs (xs.drop k))) ∧ Hid (Below w.heap.size w wr))
      (fun _ i _ => xs.length - (intOf i).toNat)
    case atStart => exact ⟨0, a - xs.length, Nat.zero_le _, by omega, rfl, by go_num, leftR_step (by omega), Below.refl _ _⟩
    case round =>
      obtain ⟨k, b, hk, hb2, rfl, rfl, hsz, hbe⟩ := hrel
      by_cases hlt : k < xs.length
      · obtain ⟨g, o, rfl, hl⟩ := HK.out (by omega)
        obtain ⟨h0, ba, bc, c0, c1, hl2⟩ := (hl k hlt).keep (keeps_below hbe.out)
        have C := Lib.hid (szProc_any xs[k] _ wr b hb2 ⟨h0, ba, bc, rfl, hl2⟩)
        have hd := szPrs_drop hlt
        by_cases hle : szPr xs[k] ≤ b
        · have HS : Hid (leftR a (xs.length + szPrs xs) = leftR (b - szPr xs[k]) (szPrs (xs.drop (k + 1)))) := by
            show leftR a (xs.length + szPrs xs) = _
            rw [hsz.out, hd]; exact leftR_step hle
          rw [leftR_yes hle] at C
          clear hl hl2 hd
          go_wp2_with fail
          refine C.out.mono ?_
          rintro e w1 ⟨rfl, hb1⟩
          have HB1 := Lib.hid (hbe.out.trans (hb1.mono hbe.out.size))
          clear hb1
          go_wp2
          go_roundw
          case rel => exact ⟨k + 1, b - szPr xs[k], by omega, by omega, by go_num, rfl, HS, HB1⟩
          case measure => simp [intOf]; omega
        · have HS : Hid (leftR a (xs.length + szPrs xs) = -1) := by
            show leftR a (xs.length + szPrs xs) = _
            rw [hsz.out, hd]; exact leftR_no (by omega)
          rw [leftR_no (by omega)] at C
          clear hl hl2 hd
          go_wp2_with fail
          refine C.out.mono ?_
          rintro e w1 ⟨rfl, hb1⟩
          have HB1 := Lib.hid (hbe.out.trans (hb1.mono hbe.out.size))
          clear hb1
          go_wp2
          go_ret
          exact ⟨by rw [HS.out]; rfl, HB1.out⟩
      · have HS : Hid (leftR a (xs.length + szPrs xs) = (b : Int)) := by
          show leftR a (xs.length + szPrs xs) = _
          rw [hsz.out, szPrs_end (by omega), leftR_yes (by omega)]; rfl
        go_wp2
        go_ret
        exact ⟨by rw [HS.out]; rfl, hbe.out⟩
theorem szNs_eq (ss : List ByteArray) : szNs ss = szB ss := rfl
set_option maxHeartbeats 800000 in
theorem szProg_any (x : PTree) (v : Value) (w : World) (a : Nat) (ha : a ≤ 1048576) (hl : PLies w x v) :
    Calls Try.prog 34 #[v, .int .i64 (a : Int)] w fun e w' => e = .returned (.int .i64 (leftR a (szP x))) ∧ Below w.heap.size w w' := by
  obtain ⟨ga, gc, la, lc, pa, pc, rfl, h1, h2, h3⟩ := hl
  have C1 := Lib.hid (fun w a ha hk => szStrings_any x.globals (.slice ga x.globals.length gc) w a ha (h1.1.keep hk) h1.2)
  have C2 := Lib.hid (fun w a ha hk => szStrings_any x.locks (.slice la x.locks.length lc) w a ha (h2.1.keep hk) h2.2)
  have C3 := Lib.hid (fun w a ha hk => szPrs_any x.procs (.slice pa x.procs.length pc) w a ha (h3.keep hk))
  have X0 := Lib.hid (Box3.new w (.slice ga x.globals.length gc) (.slice la x.locks.length lc) (.slice pa x.procs.length pc) 64)
  clear h1 h2 h3
  have HE : Hid (szP x = (x.globals.length + szB x.globals) + ((x.locks.length + szB x.locks) + (x.procs.length + szPrs x.procs))) := rfl
  generalize szP x = n at HE
  generalize x.globals.length + szB x.globals = n1 at HE C1
  generalize x.locks.length + szB x.locks = n2 at HE C2
  generalize x.procs.length + szPrs x.procs = n3 at HE C3
  obtain rfl := HE.out
  clear HE
  have B0 := Lib.hid ((Below.refl w.heap.size w).alloc (Nat.le_refl _) (.cells #[.slice ga x.globals.length gc, .slice la x.locks.length lc, .slice pa x.procs.length pc] 64))
  go_enter Try.func34, Try.ntmps34
  go_wp2_with fail
  refine (C1.out _ a ha (keeps_alloc _ _)).mono ?_
  rintro e1 w1 ⟨rfl, rfl⟩
  obtain ⟨p0, p1, p2⟩ := X0.out
  by_cases hle : n1 ≤ a
  · have HS1 : Hid (leftR a (n1 + (n2 + n3)) = leftR (a - n1) (n2 + n3)) := leftR_step hle
    have ha2 : a - n1 ≤ 1048576 := by omega
    rw [leftR_yes hle]
    generalize a - n1 = a2 at HS1 ha2
    go_wp2_with fail
    refine (C2.out _ a2 ha2 (keeps_alloc _ _)).mono ?_
    rintro e2 w2 ⟨rfl, rfl⟩
    by_cases hle2 : n2 ≤ a2
    · have HS2 : Hid (leftR a (n1 + (n2 + n3)) = leftR (a2 - n2) n3) := by show _ = _; rw [HS1.out]; exact leftR_step hle2
      have ha3 : a2 - n2 ≤ 1048576 := by omega
      rw [leftR_yes hle2]
      generalize a2 - n2 = a3 at HS2 ha3
      go_wp2_with fail
      refine (C3.out _ a3 ha3 (keeps_alloc _ _)).mono ?_
      rintro e3 w3 ⟨rfl, hb3⟩
      have B3 := Lib.hid (below_box1 hb3)
      clear hb3
      by_cases hle3 : n3 ≤ a3
      · have HL := Lib.hid (leftR_yes hle3)
        rw [leftR_yes hle3]
        go_wp2
        go_ret
        exact ⟨by rw [HS2.out, HL.out]; rfl, B3.out⟩
      · have HL := Lib.hid (leftR_no (a := a3) (n := n3) (by omega))
        rw [HL.out]
        go_wp2
        go_ret
        exact ⟨by rw [HS2.out, HL.out]; rfl, B3.out⟩
    · have HL := Lib.hid (leftR_no (a := a2) (n := n2) (by omega))
      have HS2 : Hid (leftR a (n1 + (n2 + n3)) = -1) := by show _ = _; rw [HS1.out]; exact leftR_no (by omega)
      rw [HL.out]
      go_wp2
      go_ret
      exact ⟨by rw [HS2.out]; rfl, B0.out⟩
  · have HL := Lib.hid (leftR_no (a := a) (n := n1) (by omega))
    have HS2 : Hid (leftR a (n1 + (n2 + n3)) = -1) := leftR_no (by omega)
    rw [HL.out]
    go_wp2
    go_ret
    exact ⟨by rw [HS2.out]; rfl, B0.out⟩
end Go.Proofs.Ytmhhghdfgdhljaa.Trm
/- The laws' copy of a statement, walked. Conditions: the statement lies in memory; it has at most 2 to the 20 names and statements at once. -/
namespace Go.Proofs.Ytmhhghdfgdhljaa.Trm
open Go.RowKit Own
theorem infoStmt : (Try.prog.info? 50).map (fun i => (i.zero, i.size, i.bytes)) = some (some (.agg #[.int .i64 0, .string ⟨#[]⟩, .int .i64 0, .int .i64 0, .string ⟨#[]⟩, .slice none 0 0, .slice none 0 0, .slice none 0 0]), 8, 128) := by kernel_rfl
def ToXOk (x : STree) : Prop := ∀ (v : Value) (w : World), szX x ≤ 1048576 → SLies w x v →
    Calls Try.prog 22 #[v] w fun e w' => ∃ v', e = .returned v' ∧ SOwns w' w.heap.size w'.heap.size x v' ∧ Below w.heap.size w w'
theorem row_some8 {w : World} {lo : Nat} {e : TypeId} {g cap n j : Nat} {xs : List Value} (h : w.ownsRow lo e 8 (.slice (some ⟨g, 0, none⟩) n cap) n xs) (hj : j < n * 8) : ∃ u, w.cell? ⟨g, j, none⟩ = some u := by
  refine ⟨xs[j]'(by rw [h.1]; exact hj), ?_⟩
  rw [h.cellAt j hj]; simp
theorem set8 : ∀ (ys : List Value) (z0 z1 z2 z3 z4 z5 z6 z7 v0 v1 v2 v3 v4 v5 v6 v7 : Value) (r : List Value) (j : Nat), ys.length = j → ((((((((ys ++ z0 :: z1 :: z2 :: z3 :: z4 :: z5 :: z6 :: z7 :: r).set j v0).set (j + 1) v1).set (j + 2) v2).set (j + 3) v3).set (j + 4) v4).set (j + 5) v5).set (j + 6) v6).set (j + 7) v7 = ys ++ [v0, v1, v2, v3, v4, v5, v6, v7] ++ r
  | [], _, _, _, _, _, _, _, _, _, _, _, _, _, _, _, _, _, _, h => by subst h; rfl
  | y :: ys, z0, z1, z2, z3, z4, z5, z6, z7, v0, v1, v2, v3, v4, v5, v6, v7, r, j, h => by
    subst h
    have e := set8 ys z0 z1 z2 z3 z4 z5 z6 z7 v0 v1 v2 v3 v4 v5 v6 v7 r ys.length rfl
    simp only [List.cons_append, List.length_cons, List.set_cons_succ, Nat.add_right_comm _ 1] at e ⊢
    rw [e]
theorem row_put8 {w : World} {lo : Nat} {e : TypeId} {g cap n k : Nat} {ys zs : List Value} (h : w.ownsRow lo e 8 (.slice (some ⟨g, 0, none⟩) n cap) n (ys ++ zs)) (hy : ys.length = k * 8) (hk : k < n) (v0 v1 v2 v3 v4 v5 v6 v7 : Value) :
    ∃ zs2, ((((((((w.setCell ⟨g, k * 8, none⟩ v0).setCell ⟨g, k * 8 + 1, none⟩ v1).setCell ⟨g, k * 8 + 2, none⟩ v2).setCell ⟨g, k * 8 + 3, none⟩ v3).setCell ⟨g, k * 8 + 4, none⟩ v4).setCell ⟨g, k * 8 + 5, none⟩ v5).setCell ⟨g, k * 8 + 6, none⟩ v6).setCell ⟨g, k * 8 + 7, none⟩ v7).ownsRow lo e 8 (.slice (some ⟨g, 0, none⟩) n cap) n (ys ++ [v0, v1, v2, v3, v4, v5, v6, v7] ++ zs2) ∧
      w.grownBy ((((((((w.setCell ⟨g, k * 8, none⟩ v0).setCell ⟨g, k * 8 + 1, none⟩ v1).setCell ⟨g, k * 8 + 2, none⟩ v2).setCell ⟨g, k * 8 + 3, none⟩ v3).setCell ⟨g, k * 8 + 4, none⟩ v4).setCell ⟨g, k * 8 + 5, none⟩ v5).setCell ⟨g, k * 8 + 6, none⟩ v6).setCell ⟨g, k * 8 + 7, none⟩ v7) (some g) := by
  have hl := h.1
  rw [List.length_append, hy] at hl
  obtain ⟨z0, z1, z2, z3, z4, z5, z6, z7, r, rfl⟩ : ∃ z0 z1 z2 z3 z4 z5 z6 z7 r, zs = z0 :: z1 :: z2 :: z3 :: z4 :: z5 :: z6 :: z7 :: r := by
    match zs, hl with
    | z0 :: z1 :: z2 :: z3 :: z4 :: z5 :: z6 :: z7 :: r, _ => exact ⟨z0, z1, z2, z3, z4, z5, z6, z7, r, rfl⟩
    | [], hl => exact absurd hl (by simp; omega)
    | [_], hl => exact absurd hl (by simp; omega)
    | [_, _], hl => exact absurd hl (by simp; omega)
    | [_, _, _], hl => exact absurd hl (by simp; omega)
    | [_, _, _, _], hl => exact absurd hl (by simp; omega)
    | [_, _, _, _, _], hl => exact absurd hl (by simp; omega)
    | [_, _, _, _, _, _], hl => exact absurd hl (by simp; omega)
    | [_, _, _, _, _, _, _], hl => exact absurd hl (by simp; omega)
  have a0 := h.stored (k * 8) v0
  have a1 := a0.1.stored (k * 8 + 1) v1
  have a2 := a1.1.stored (k * 8 + 2) v2
  have a3 := a2.1.stored (k * 8 + 3) v3
  have a4 := a3.1.stored (k * 8 + 4) v4
  have a5 := a4.1.stored (k * 8 + 5) v5
  have a6 := a5.1.stored (k * 8 + 6) v6
  have a7 := a6.1.stored (k * 8 + 7) v7
  refine ⟨r, ?_, a0.2.trans (a1.2.trans (a2.2.trans (a3.2.trans (a4.2.trans (a5.2.trans (a6.2.trans (a7.2)))))))⟩
  have := a7.1
  rw [set8 ys z0 z1 z2 z3 z4 z5 z6 z7 v0 v1 v2 v3 v4 v5 v6 v7 r (k * 8) hy] at this
  exact this
set_option maxHeartbeats 1600000 in
theorem toXS_any (xs : List STree) (ih : ∀ x, x ∈ xs → ToXOk x) (v : Value) (w : World) (hsz : xs.length + szXS xs ≤ 1048576) (hl : SListAt w v xs) :
    Calls Try.prog 27 #[v] w fun e w' => ∃ kv, e = .returned kv ∧ SOwnsK w' w.heap.size w'.heap.size xs kv ∧ Below w.heap.size w w' := by
  obtain ⟨hlen0, aa, cap, rfl, hk⟩ := hl
  obtain ⟨i0, hi, hz0, hz1, hz2⟩ := info_parts infoStmt
  have IH := Lib.hid ih
  have HK := Lib.hid hk
  have HZ := Lib.hid hsz
  have hlen : xs.length ≤ 1048576 := by omega
  clear ih hk hsz hlen0
  go_enter Try.func27, Try.ntmps27
  go_wp2_with (at_make; refine wpList_make_full _ rfl (.tmp 6) (.tmp 6) 48 rfl w.heap.size 50 i0 _ 8 Try.underlying48 hi hz0 hz1 .i64 .i64 _ _ xs.length rfl rfl rfl rfl (by rw [hz2]; omega) (by unfold maxLen; omega) (Nat.le_refl _) ?_)
  intro w1 hown hg
  have HO := Lib.hid hown
  have HG := Lib.hid hg
  clear hown hg
  go_wp2
  go_loopw [4] (fun i wr => ∃ (k : Nat) (ys zs : List Value), k ≤ xs.length ∧ i = .int .i64 k ∧ Hid (ys.length = k * 8) ∧ Hid (wr.ownsRow w.heap.size 50 8 (.slice (some ⟨w.heap.size, 0, none⟩) xs.length xs.length) xs.length (ys ++ zs)) ∧ Hid (SOwnsL wr (w.heap.size + 1) wr.heap.size (xs.take k) ys) ∧ Hid (Below w.heap.size w wr))
    (fun i _ => xs.length - (intOf i).toNat)
  case atStart => exact ⟨0, [], _, Nat.zero_le _, rfl, rfl, HO.out, ⟨rfl, by have := HO.out.lt _ rfl; omega⟩, below_none HG.out⟩
  case round =>
    obtain ⟨k, ys, zs, hk, rfl, hy, hrow, hol, hbe⟩ := hrel
    by_cases hlt : k < xs.length
    · obtain ⟨g, o, rfl, hl⟩ := HK.out (by omega)
      obtain ⟨ta, tc, ba, bc, ea, ec, c0, c1, c2, c3, c4, c5, c6, c7, hl2⟩ := (hl.keep (keeps_below hbe.out)).at k hlt
      have C := Lib.hid (IH.out xs[k] (List.getElem_mem hlt) _ wr (by have := szXS_mem (List.getElem_mem hlt); have := HZ.out; omega) hl2)
      clear hl hl2
      go_wp2_with fail
      refine C.out.mono ?_
      rintro e w2 ⟨v2, rfl, how, hb2⟩
      obtain ⟨va, vc, vb, vd, ve, vf, rfl⟩ := how.lies.shape
      have HOw := Lib.hid how
      have HB2 := Lib.hid hb2
      have R2 := Lib.hid (row_below hrow.out hb2)
      clear how hb2 c0 c1 c2 c3 c4 c5 c6 c7
      have f0 := R2.out.frozenAt (k * 8)
      have f1 := R2.out.frozenAt (k * 8 + 1)
      have f2 := R2.out.frozenAt (k * 8 + 2)
      have f3 := R2.out.frozenAt (k * 8 + 3)
      have f4 := R2.out.frozenAt (k * 8 + 4)
      have f5 := R2.out.frozenAt (k * 8 + 5)
      have f6 := R2.out.frozenAt (k * 8 + 6)
      have f7 := R2.out.frozenAt (k * 8 + 7)
      obtain ⟨u0, s0⟩ := row_some8 R2.out (j := k * 8) (by omega)
      obtain ⟨u1, s1⟩ := row_some8 R2.out (j := k * 8 + 1) (by omega)
      obtain ⟨u2, s2⟩ := row_some8 R2.out (j := k * 8 + 2) (by omega)
      obtain ⟨u3, s3⟩ := row_some8 R2.out (j := k * 8 + 3) (by omega)
      obtain ⟨u4, s4⟩ := row_some8 R2.out (j := k * 8 + 4) (by omega)
      obtain ⟨u5, s5⟩ := row_some8 R2.out (j := k * 8 + 5) (by omega)
      obtain ⟨u6, s6⟩ := row_some8 R2.out (j := k * 8 + 6) (by omega)
      obtain ⟨u7, s7⟩ := row_some8 R2.out (j := k * 8 + 7) (by omega)
      obtain ⟨zs2, hr4, hg4⟩ := row_put8 R2.out hy.out hlt (.int .i64 xs[k].kind) (.string xs[k].name) (.int .i64 xs[k].term.kind) (.int .i64 xs[k].term.num) (.string xs[k].term.name) (.slice va xs[k].term.kids.length vc) (.slice vb xs[k].body.length vd) (.slice ve xs[k].els.length vf)
      have HR4 := Lib.hid hr4
      have HG4 := Lib.hid hg4
      clear hr4 hg4
      go_wp2
      go_roundw
      case rel =>
        refine ⟨k + 1, ys ++ cellsX xs[k] (.slice va xs[k].term.kids.length vc) (.slice vb xs[k].body.length vd) (.slice ve xs[k].els.length vf), zs2, by omega, by go_num, ?_, HR4.out, ?_, ?_⟩
        · show _ = _
          rw [List.length_append, hy.out]; simp [cellsX]; omega
        · have hlt0 : w.heap.size < wr.heap.size := (hrow.out.lt _ rfl).2
          have e1 : List.take (k + 1) xs = List.take k xs ++ [xs[k]] := List.take_succ_eq_append_getElem hlt
          rw [e1]
          refine SOwnsL.snoc (mid := wr.heap.size) (SOwnsL.same (fun b h1 h2 => ?_) hol.out) (SOwns.same (fun b h1 h2 => ?_) (HOw.out.wide (Nat.le_refl _) HG4.out.size))
          · exact (HG4.out.block b (Nat.lt_of_lt_of_le h2 HB2.out.size) (by simp; omega)).trans (HB2.out.block b h2)
          · exact HG4.out.block b (by simpa using h2) (by simp; omega)
        · exact (hbe.out.trans (HB2.out.mono hbe.out.size)).grown HG4.out (Nat.le_trans hbe.out.size HB2.out.size) (fun b hb => by cases hb; exact Nat.le_refl _)
      case measure => simp [intOf]; omega
    · obtain rfl : k = xs.length := by omega
      have hz : zs = [] := List.eq_nil_of_length_eq_zero (by have := hrow.out.1; rw [List.length_append, hy.out] at this; omega)
      have HZS := Lib.hid hz
      clear hz
      go_wp2
      go_ret
      have h1 := hrow.out
      have h2 := hol.out
      rw [HZS.out, List.append_nil] at h1
      rw [List.take_length] at h2
      exact ⟨_, rfl, ⟨ys, w.heap.size + 1, h1, by omega, fun b hb => by cases hb; exact Nat.lt_succ_self _, h2⟩, hbe.out⟩
end Go.Proofs.Ytmhhghdfgdhljaa.Trm
/- The laws' copy of one statement, walked. Conditions: the statement lies in memory; it has at most 2 to the 20 names and statements at once. -/
namespace Go.Proofs.Ytmhhghdfgdhljaa.Trm
open Go.RowKit Own
/-- A statement's block of eight cells, known whole. -/
def Row8 (w : World) (b : Nat) (c0 c1 c2 c3 c4 c5 c6 c7 : Value) : Prop := w.heap[b]? = some (.cells #[c0, c1, c2, c3, c4, c5, c6, c7] 50 (0, 0))
theorem Row8.cells {w : World} {b : Nat} {c0 c1 c2 c3 c4 c5 c6 c7 : Value} (h : Row8 w b c0 c1 c2 c3 c4 c5 c6 c7) : Box8 w b c0 c1 c2 c3 c4 c5 c6 c7 := by
  unfold Row8 at h
  refine ⟨?_, ?_, ?_, ?_, ?_, ?_, ?_, ?_⟩ <;> (rw [cell_of_row w b _ _ _ _ h]; rfl)
theorem Row8.free {w : World} {b : Nat} {c0 c1 c2 c3 c4 c5 c6 c7 : Value} (h : Row8 w b c0 c1 c2 c3 c4 c5 c6 c7) (j : Nat) : w.frozen? ⟨b, j, none⟩ = false := frozen_of_row w b j _ _ h
theorem Row8.below {w w' : World} {b B : Nat} {c0 c1 c2 c3 c4 c5 c6 c7 : Value} (h : Row8 w b c0 c1 c2 c3 c4 c5 c6 c7) (hb : Below B w w') (hlt : b < B) : Row8 w' b c0 c1 c2 c3 c4 c5 c6 c7 := (hb.block b hlt).trans h
theorem Row8.other {w : World} {b q i : Nat} {v c0 c1 c2 c3 c4 c5 c6 c7 : Value} (h : Row8 w b c0 c1 c2 c3 c4 c5 c6 c7) (hn : b ≠ q) : Row8 (w.setCell ⟨q, i, none⟩ v) b c0 c1 c2 c3 c4 c5 c6 c7 := (heap_setCell_other w _ b v hn).trans h
theorem Row8.put {w : World} {b i : Nat} {v c0 c1 c2 c3 c4 c5 c6 c7 : Value} (h : Row8 w b c0 c1 c2 c3 c4 c5 c6 c7) : (w.setCell ⟨b, i, none⟩ v).heap[b]? = some (.cells (#[c0, c1, c2, c3, c4, c5, c6, c7].setIfInBounds i v) 50 (0, 0)) := heap_setCell_same w b i _ _ v h
theorem top_at (w : World) (o : Obj) (k : Nat) (h : k = w.heap.size) : (w.alloc o).heap[k]? = some o := by subst h; exact heap_alloc_new w o
set_option maxRecDepth 20000 in
set_option maxHeartbeats 1600000 in
theorem toStmt_any : ∀ x : STree, ToXOk x := streeInd fun k s t b e ihb ihe v w hz hl => by
  obtain ⟨h1, h2, h3, h4, ta, tc, ba, bc, ea, ec, rfl, h5, h6, h7⟩ := hl
  rw [szX] at hz
  have CT := Lib.hid (fun w hk => toTerm_any t _ w (by omega) (h5.keep hk))
  have CB := Lib.hid (fun w hk => toXS_any b ihb (.slice ba b.length bc) w (by omega) (SListAt.keep ⟨h3, _, _, rfl, h6⟩ hk))
  have CE := Lib.hid (fun w hk => toXS_any e ihe (.slice ea e.length ec) w (by omega) (SListAt.keep ⟨h4, _, _, rfl, h7⟩ hk))
  have H1 := Lib.hid h1
  have H2 := Lib.hid h2
  obtain ⟨W, hW⟩ : ∃ W, W = ((w.alloc (.cells #[.int .i64 k, .string s, .int .i64 t.kind, .int .i64 t.num, .string t.name, .slice ta t.kids.length tc, .slice ba b.length bc, .slice ea e.length ec] 42)).alloc (.cells #[.int .i64 0, .string ⟨#[]⟩, .int .i64 0, .int .i64 0, .string ⟨#[]⟩, .slice none 0 0, .slice none 0 0, .slice none 0 0] 50)).alloc (.cells #[.int .i64 k, .string s, .int .i64 0, .int .i64 0, .string ⟨#[]⟩, .slice none 0 0, .slice none 0 0, .slice none 0 0] 50) := ⟨_, rfl⟩
  have hWs : W.heap.size = w.heap.size + 1 + 1 + 1 := by rw [hW]; simp
  have kW : Keeps w W := by rw [hW]; exact ((keeps_alloc _ _).trans (keeps_alloc _ _)).trans (keeps_alloc _ _)
  have bW : Below w.heap.size w W := by rw [hW]; exact (((Below.refl _ _).alloc (Nat.le_refl _) _).alloc (by simp) _).alloc (by simp; omega) _
  have XW : Box8 W w.heap.size (.int .i64 k) (.string s) (.int .i64 t.kind) (.int .i64 t.num) (.string t.name) (.slice ta t.kids.length tc) (.slice ba b.length bc) (.slice ea e.length ec) := by
    rw [hW]
    exact (Box8.new w _ _ _ _ _ _ _ _ _).keep ((keeps_alloc _ _).trans (keeps_alloc _ _))
  have RW : Row8 W (w.heap.size + 1) (.int .i64 0) (.string ⟨#[]⟩) (.int .i64 0) (.int .i64 0) (.string ⟨#[]⟩) (.slice none 0 0) (.slice none 0 0) (.slice none 0 0) := by
    rw [hW]
    exact (heap_alloc_old _ _ (by simp)).trans (top_at _ _ _ (by simp))
  have OW : Row8 W (w.heap.size + 1 + 1) (.int .i64 k) (.string s) (.int .i64 0) (.int .i64 0) (.string ⟨#[]⟩) (.slice none 0 0) (.slice none 0 0) (.slice none 0 0) := by
    rw [hW]
    exact top_at _ _ _ (by simp)
  have HW := Lib.hid hW
  have HWs := Lib.hid hWs
  have KW := Lib.hid kW
  have BW := Lib.hid bW
  have XW' := Lib.hid XW
  have RW' := Lib.hid RW
  have OW' := Lib.hid OW
  clear ihb ihe h1 h2 h5 h6 h7 hz hW hWs kW bW XW RW OW
  go_enter Try.func22, Try.ntmps22
  go_wp2_with fail
  rw [← HW.out]
  refine (CT.out W KW.out).mono ?_
  rintro e1 w1 ⟨v1, rfl, ho1, hb1⟩
  obtain ⟨va, vc, rfl⟩ := ho1.shape
  have HO1 := Lib.hid ho1
  have HB1 := Lib.hid hb1
  have X1 := Lib.hid (XW'.out.keep (keeps_below hb1))
  have R1 := Lib.hid (RW'.out.below hb1 (by rw [HWs.out]; omega))
  have O1 := Lib.hid (OW'.out.below hb1 (by rw [HWs.out]; omega))
  obtain ⟨x0, x1, x2, x3, x4, x5, x6, x7⟩ := X1.out
  obtain ⟨o0, o1, o2, o3, o4, o5, o6, o7⟩ := O1.out.cells
  have f2 := O1.out.free 2
  have f3 := O1.out.free 3
  have f4 := O1.out.free 4
  have f5 := O1.out.free 5
  clear ho1 hb1
  go_wp2_with fail
  obtain ⟨W2, hW2⟩ : ∃ W2, W2 = (((w1.setCell ⟨w.heap.size + 1 + 1, 2, none⟩ (.int .i64 t.kind)).setCell ⟨w.heap.size + 1 + 1, 3, none⟩ (.int .i64 t.num)).setCell ⟨w.heap.size + 1 + 1, 4, none⟩ (.string t.name)).setCell ⟨w.heap.size + 1 + 1, 5, none⟩ (.slice va t.kids.length vc) := ⟨_, rfl⟩
  rw [← hW2]
  have hs2 : W2.heap.size = w1.heap.size := by rw [hW2]; simp
  have hsw1 : w.heap.size + 1 + 1 + 1 ≤ w1.heap.size := by have := HB1.out.size; rw [HWs.out] at this; exact this
  have B2 : Below w.heap.size w W2 := by
    rw [hW2]
    exact ((((BW.out.trans (HB1.out.mono BW.out.size)).setCell (by simp; omega) _).setCell (by simp; omega) _).setCell (by simp; omega) _).setCell (by simp; omega) _
  have O2 : Row8 W2 (w.heap.size + 1 + 1) (.int .i64 k) (.string s) (.int .i64 t.kind) (.int .i64 t.num) (.string t.name) (.slice va t.kids.length vc) (.slice none 0 0) (.slice none 0 0) := by
    rw [hW2]
    exact Row8.put (i := 5) (Row8.put (i := 4) (Row8.put (i := 3) (Row8.put (i := 2) O1.out)))
  have R2 : Row8 W2 (w.heap.size + 1) (.int .i64 0) (.string ⟨#[]⟩) (.int .i64 0) (.int .i64 0) (.string ⟨#[]⟩) (.slice none 0 0) (.slice none 0 0) (.slice none 0 0) := by
    rw [hW2]
    exact (((R1.out.other (by omega)).other (by omega)).other (by omega)).other (by omega)
  have S2 : ∀ q, w.heap.size + 1 + 1 < q → W2.heap[q]? = w1.heap[q]? := fun q hq => by
    rw [hW2, heap_setCell_other _ _ _ _ (by simp; omega), heap_setCell_other _ _ _ _ (by simp; omega), heap_setCell_other _ _ _ _ (by simp; omega), heap_setCell_other _ _ _ _ (by simp; omega)]
  have X2 : Box8 W2 w.heap.size (.int .i64 k) (.string s) (.int .i64 t.kind) (.int .i64 t.num) (.string t.name) (.slice ta t.kids.length tc) (.slice ba b.length bc) (.slice ea e.length ec) := by
    have h : W2.heap[w.heap.size]? = w1.heap[w.heap.size]? := by
      rw [hW2, heap_setCell_other _ _ _ _ (by simp; omega), heap_setCell_other _ _ _ _ (by simp; omega), heap_setCell_other _ _ _ _ (by simp; omega), heap_setCell_other _ _ _ _ (by simp; omega)]
    have hc : ∀ j, W2.cell? ⟨w.heap.size, j, none⟩ = w1.cell? ⟨w.heap.size, j, none⟩ := fun j => World.cell?_of_block h
    exact ⟨(hc 0).trans x0, (hc 1).trans x1, (hc 2).trans x2, (hc 3).trans x3, (hc 4).trans x4, (hc 5).trans x5, (hc 6).trans x6, (hc 7).trans x7⟩
  have HS2 := Lib.hid hs2
  have HB2 := Lib.hid B2
  have HO2 := Lib.hid O2
  have HR2 := Lib.hid R2
  have HSm2 := Lib.hid S2
  have HX2 := Lib.hid X2
  have K2 := Lib.hid (keeps_below B2)
  clear hs2 B2 O2 R2 S2 X2 hW2 x0 x1 x2 x3 x4 x5 x6 x7 o0 o1 o2 o3 o4 o5 o6 o7 f2 f3 f4 f5
  refine (CB.out W2 K2.out).mono ?_
  rintro e2 w3 ⟨bv, rfl, ho3, hb3⟩
  have hlt3 : w.heap.size + 1 + 1 < W2.heap.size := by rw [HS2.out]; omega
  have O3 := Lib.hid (HO2.out.below hb3 hlt3)
  have R3 := Lib.hid (HR2.out.below hb3 (by omega))
  have X3 := Lib.hid (HX2.out.keep (keeps_below hb3))
  have HO3 := Lib.hid ho3
  have HB3 := Lib.hid hb3
  obtain ⟨_, bva, bvc, rfl, _⟩ := ho3.list
  obtain ⟨x0, x1, x2, x3, x4, x5, x6, x7⟩ := X3.out
  obtain ⟨o0, o1, o2, o3, o4, o5, o6, o7⟩ := O3.out.cells
  have f6 := O3.out.free 6
  clear ho3 hb3
  go_wp2_with fail
  obtain ⟨W4, hW4⟩ : ∃ W4, W4 = w3.setCell ⟨w.heap.size + 1 + 1, 6, none⟩ (.slice bva b.length bvc) := ⟨_, rfl⟩
  rw [← hW4]
  have hs4 : W4.heap.size = w3.heap.size := by rw [hW4]; simp
  have hsw3 : W2.heap.size ≤ w3.heap.size := HB3.out.size
  have B4 : Below w.heap.size w W4 := by
    rw [hW4]
    exact (HB2.out.trans (HB3.out.mono HB2.out.size)).setCell (by simp; omega) _
  have O4 : Row8 W4 (w.heap.size + 1 + 1) (.int .i64 k) (.string s) (.int .i64 t.kind) (.int .i64 t.num) (.string t.name) (.slice va t.kids.length vc) (.slice bva b.length bvc) (.slice none 0 0) := by
    rw [hW4]
    exact Row8.put (i := 6) O3.out
  have R4 : Row8 W4 (w.heap.size + 1) (.int .i64 0) (.string ⟨#[]⟩) (.int .i64 0) (.int .i64 0) (.string ⟨#[]⟩) (.slice none 0 0) (.slice none 0 0) (.slice none 0 0) := by
    rw [hW4]
    exact R3.out.other (by omega)
  have S4 : ∀ q, w.heap.size + 1 + 1 < q → W4.heap[q]? = w3.heap[q]? := fun q hq => by
    rw [hW4, heap_setCell_other _ _ _ _ (by simp; omega)]
  have X4 : Box8 W4 w.heap.size (.int .i64 k) (.string s) (.int .i64 t.kind) (.int .i64 t.num) (.string t.name) (.slice ta t.kids.length tc) (.slice ba b.length bc) (.slice ea e.length ec) := by
    have h : W4.heap[w.heap.size]? = w3.heap[w.heap.size]? := by rw [hW4, heap_setCell_other _ _ _ _ (by simp; omega)]
    have hc : ∀ j, W4.cell? ⟨w.heap.size, j, none⟩ = w3.cell? ⟨w.heap.size, j, none⟩ := fun j => World.cell?_of_block h
    exact ⟨(hc 0).trans x0, (hc 1).trans x1, (hc 2).trans x2, (hc 3).trans x3, (hc 4).trans x4, (hc 5).trans x5, (hc 6).trans x6, (hc 7).trans x7⟩
  have HS4 := Lib.hid hs4
  have HB4 := Lib.hid B4
  have HO4 := Lib.hid O4
  have HR4 := Lib.hid R4
  have HSm4 := Lib.hid S4
  have HX4 := Lib.hid X4
  have K4 := Lib.hid (keeps_below B4)
  clear hs4 B4 O4 R4 S4 X4 hW4 x0 x1 x2 x3 x4 x5 x6 x7 o0 o1 o2 o3 o4 o5 o6 o7 f6
  refine (CE.out W4 K4.out).mono ?_
  rintro e3 w5 ⟨ev, rfl, ho5, hb5⟩
  have hlt5 : w.heap.size + 1 + 1 < W4.heap.size := by rw [HS4.out]; omega
  have O5 := Lib.hid (HO4.out.below hb5 hlt5)
  have R5 := Lib.hid (HR4.out.below hb5 (by omega))
  have HO5 := Lib.hid ho5
  have HB5 := Lib.hid hb5
  obtain ⟨_, eva, evc, rfl, _⟩ := ho5.list
  obtain ⟨o0, o1, o2, o3, o4, o5, o6, o7⟩ := O5.out.cells
  obtain ⟨r0, r1, r2, r3, r4, r5, r6, r7⟩ := R5.out.cells
  have f7 := O5.out.free 7
  have g0 := R5.out.free 0
  have g1 := R5.out.free 1
  have g2 := R5.out.free 2
  have g3 := R5.out.free 3
  have g4 := R5.out.free 4
  have g5 := R5.out.free 5
  have g6 := R5.out.free 6
  have g7 := R5.out.free 7
  have hsw5 : W4.heap.size ≤ w5.heap.size := HB5.out.size
  clear ho5 hb5
  go_wp2
  refine bodyPost_ret (v := .agg #[.int .i64 k, .string s, .int .i64 t.kind, .int .i64 t.num, .string t.name, .slice va t.kids.length vc, .slice bva b.length bvc, .slice eva e.length evc]) (by simp [results, Try.results22, go_sem, r0, r1, r2, r3, r4, r5, r6, r7]) rfl ⟨_, rfl, ?_, ?_⟩
  · have e24 := HS2.out
    have e44 := HS4.out
    refine SOwns.mk (x := .node k s t b e) (m1 := w1.heap.size) (m2 := w3.heap.size) H1.out H2.out ?_ ?_ ?_
    · refine Owns.wide (lo := W.heap.size) (by rw [HWs.out]; omega) (Nat.le_refl _) (Owns.same (fun q h1 h2 => ?_) HO1.out)
      rw [HWs.out] at h1
      rw [heap_setCell_other _ _ _ _ (by simp; omega), heap_setCell_other _ _ _ _ (by simp; omega), heap_setCell_other _ _ _ _ (by simp; omega), heap_setCell_other _ _ _ _ (by simp; omega), heap_setCell_other _ _ _ _ (by simp; omega), heap_setCell_other _ _ _ _ (by simp; omega), heap_setCell_other _ _ _ _ (by simp; omega), heap_setCell_other _ _ _ _ (by simp; omega), heap_setCell_other _ _ _ _ (by simp; omega)]
      rw [HB5.out.block q (by omega), HSm4.out q (by omega), HB3.out.block q (by omega), HSm2.out q (by omega)]
    · refine SOwnsK.wide (lo := W2.heap.size) (by omega) (Nat.le_refl _) (SOwnsK.same (fun q h1 h2 => ?_) HO3.out)
      rw [heap_setCell_other _ _ _ _ (by simp; omega), heap_setCell_other _ _ _ _ (by simp; omega), heap_setCell_other _ _ _ _ (by simp; omega), heap_setCell_other _ _ _ _ (by simp; omega), heap_setCell_other _ _ _ _ (by simp; omega), heap_setCell_other _ _ _ _ (by simp; omega), heap_setCell_other _ _ _ _ (by simp; omega), heap_setCell_other _ _ _ _ (by simp; omega), heap_setCell_other _ _ _ _ (by simp; omega)]
      rw [HB5.out.block q (by omega), HSm4.out q (by omega)]
    · refine SOwnsK.wide (lo := W4.heap.size) (by omega) (by simp) (SOwnsK.same (fun q h1 h2 => ?_) HO5.out)
      rw [heap_setCell_other _ _ _ _ (by simp; omega), heap_setCell_other _ _ _ _ (by simp; omega), heap_setCell_other _ _ _ _ (by simp; omega), heap_setCell_other _ _ _ _ (by simp; omega), heap_setCell_other _ _ _ _ (by simp; omega), heap_setCell_other _ _ _ _ (by simp; omega), heap_setCell_other _ _ _ _ (by simp; omega), heap_setCell_other _ _ _ _ (by simp; omega), heap_setCell_other _ _ _ _ (by simp; omega)]
  · exact (((((((((HB4.out.trans (HB5.out.mono HB4.out.size)).setCell (by simp; omega) _).setCell (by simp) _).setCell (by simp) _).setCell (by simp) _).setCell (by simp) _).setCell (by simp) _).setCell (by simp) _).setCell (by simp) _).setCell (by simp) _
end Go.Proofs.Ytmhhghdfgdhljaa.Trm
/- The laws' copies of procedures and programs, walked. Conditions: they lie in memory, at most 2 to the 20 in all. -/
namespace Go.Proofs.Ytmhhghdfgdhljaa.Trm
open Go.RowKit Own
theorem infoProc : (Try.prog.info? 104).map (fun i => (i.zero, i.size, i.bytes)) = some (some (.agg #[.string ⟨#[]⟩, .slice none 0 0]), 2, 40) := by kernel_rfl
/-- A block of two cells that is not frozen, whatever its type. -/
def Row2 (w : World) (b : Nat) (c0 c1 : Value) : Prop := w.heap[b]? = some (.cells #[c0, c1] 104 (0, 0))
theorem Row2.cells {w : World} {b : Nat} {c0 c1 : Value} (h : Row2 w b c0 c1) : Box2 w b c0 c1 := by
  unfold Row2 at h
  refine ⟨?_, ?_⟩ <;> simp [World.cell?, h]
theorem Row2.free {w : World} {b : Nat} {c0 c1 : Value} (h : Row2 w b c0 c1) (j : Nat) : w.frozen? ⟨b, j, none⟩ = false := frozen_of_row w b j _ _ h
theorem Row2.below {w w' : World} {b B : Nat} {c0 c1 : Value} (h : Row2 w b c0 c1) (hb : Below B w w') (hlt : b < B) : Row2 w' b c0 c1 := (hb.block b hlt).trans h
theorem Row2.other {w : World} {b q i : Nat} {v c0 c1 : Value} (h : Row2 w b c0 c1) (hn : b ≠ q) : Row2 (w.setCell ⟨q, i, none⟩ v) b c0 c1 := (heap_setCell_other w _ b v hn).trans h
theorem toProc_any (p : PrT) (v : Value) (w : World) (hz : szPr p ≤ 1048576) (hl : PrLies w p v) :
    Calls Try.prog 113 #[v] w fun e w' => ∃ u, e = .returned u ∧ PrOwn w' w.heap.size p u ∧ Below w.heap.size w w' := by
  obtain ⟨h1, ba, bc, rfl, h6⟩ := hl
  unfold szPr at hz
  have CB := Lib.hid (fun w hk => toXS_any p.body (fun x _ => toStmt_any x) (.slice ba p.body.length bc) w (by omega) (h6.keep hk))
  have H1 := Lib.hid h1
  obtain ⟨W, hW⟩ : ∃ W, W = ((w.alloc (.cells #[.string p.name, .slice ba p.body.length bc] 149)).alloc (.cells #[.string ⟨#[]⟩, .slice none 0 0] 104)).alloc (.cells #[.string p.name, .slice none 0 0] 104) := ⟨_, rfl⟩
  have hWs : W.heap.size = w.heap.size + 1 + 1 + 1 := by rw [hW]; simp
  have kW : Keeps w W := by rw [hW]; exact ((keeps_alloc _ _).trans (keeps_alloc _ _)).trans (keeps_alloc _ _)
  have bW : Below w.heap.size w W := by rw [hW]; exact (((Below.refl _ _).alloc (Nat.le_refl _) _).alloc (by simp) _).alloc (by simp; omega) _
  have RW : Row2 W (w.heap.size + 1) (.string ⟨#[]⟩) (.slice none 0 0) := by
    rw [hW]
    exact (heap_alloc_old _ _ (by simp)).trans (top_at _ _ _ (by simp))
  have OW : Row2 W (w.heap.size + 1 + 1) (.string p.name) (.slice none 0 0) := by
    rw [hW]
    exact top_at _ _ _ (by simp)
  have HW := Lib.hid hW
  have HWs := Lib.hid hWs
  have KW := Lib.hid kW
  have BW := Lib.hid bW
  have RW' := Lib.hid RW
  have OW' := Lib.hid OW
  clear h1 h6 hz hW hWs kW bW RW OW
  go_enter Try.func113, Try.ntmps113
  go_wp2_with fail
  rw [← HW.out]
  refine (CB.out W KW.out).mono ?_
  rintro e1 w1 ⟨v1, rfl, ho1, hb1⟩
  obtain ⟨_, va, vc, rfl, _⟩ := ho1.list
  have HO1 := Lib.hid ho1
  have HB1 := Lib.hid hb1
  have R1 := Lib.hid (RW'.out.below hb1 (by rw [HWs.out]; omega))
  have O1 := Lib.hid (OW'.out.below hb1 (by rw [HWs.out]; omega))
  obtain ⟨o0, o1⟩ := O1.out.cells
  obtain ⟨r0, r1⟩ := R1.out.cells
  have f1 := O1.out.free 1
  have g0 := R1.out.free 0
  have g1 := R1.out.free 1
  have hsw := HB1.out.size
  rw [HWs.out] at hsw
  clear ho1 hb1
  go_wp2
  refine bodyPost_ret (v := .agg #[.string p.name, .slice va p.body.length vc]) (by simp [results, Try.results113, go_sem, r0, r1]) rfl ⟨_, rfl, ?_, ?_⟩
  · refine ⟨H1.out, va, vc, W.heap.size, w1.heap.size, rfl, by rw [HWs.out]; omega, by simp, SOwnsK.same (fun q q1 q2 => ?_) HO1.out⟩
    rw [HWs.out] at q1
    rw [heap_setCell_other _ _ _ _ (by simp; omega), heap_setCell_other _ _ _ _ (by simp; omega), heap_setCell_other _ _ _ _ (by simp; omega)]
  · exact ((((BW.out.trans (HB1.out.mono BW.out.size)).setCell (by simp; omega) _).setCell (by simp) _).setCell (by simp) _)
theorem row_some2 {w : World} {lo : Nat} {e : TypeId} {g cap n j : Nat} {xs : List Value} (h : w.ownsRow lo e 2 (.slice (some ⟨g, 0, none⟩) n cap) n xs) (hj : j < n * 2) : ∃ u, w.cell? ⟨g, j, none⟩ = some u := by
  refine ⟨xs[j]'(by rw [h.1]; exact hj), ?_⟩
  rw [h.cellAt j hj]; simp
theorem set2 : ∀ (ys : List Value) (z0 z1 v0 v1 : Value) (r : List Value) (j : Nat), ys.length = j → ((ys ++ z0 :: z1 :: r).set j v0).set (j + 1) v1 = ys ++ [v0, v1] ++ r
  | [], _, _, _, _, _, _, h => by subst h; rfl
  | y :: ys, z0, z1, v0, v1, r, j, h => by
    subst h
    have e := set2 ys z0 z1 v0 v1 r ys.length rfl
    simp only [List.cons_append, List.length_cons, List.set_cons_succ] at e ⊢
    rw [e]
theorem row_put2 {w : World} {lo : Nat} {e : TypeId} {g cap n k : Nat} {ys zs : List Value} (h : w.ownsRow lo e 2 (.slice (some ⟨g, 0, none⟩) n cap) n (ys ++ zs)) (hy : ys.length = k * 2) (hk : k < n) (v0 v1 : Value) :
    ∃ zs2, ((w.setCell ⟨g, k * 2, none⟩ v0).setCell ⟨g, k * 2 + 1, none⟩ v1).ownsRow lo e 2 (.slice (some ⟨g, 0, none⟩) n cap) n (ys ++ [v0, v1] ++ zs2) ∧
      w.grownBy ((w.setCell ⟨g, k * 2, none⟩ v0).setCell ⟨g, k * 2 + 1, none⟩ v1) (some g) := by
  have hl := h.1
  rw [List.length_append, hy] at hl
  obtain ⟨z0, z1, r, rfl⟩ : ∃ z0 z1 r, zs = z0 :: z1 :: r := by
    match zs, hl with
    | z0 :: z1 :: r, _ => exact ⟨z0, z1, r, rfl⟩
    | [], hl => exact absurd hl (by simp; omega)
    | [_], hl => exact absurd hl (by simp; omega)
  have a0 := h.stored (k * 2) v0
  have a1 := a0.1.stored (k * 2 + 1) v1
  refine ⟨r, ?_, a0.2.trans a1.2⟩
  have := a1.1
  rw [set2 ys z0 z1 v0 v1 r (k * 2) hy] at this
  exact this
set_option maxHeartbeats 800000 in
theorem toPrs_any (xs : List PrT) (v : Value) (w : World) (hsz : xs.length + szPrs xs ≤ 1048576) (hl : PrsAt w v xs) :
    Calls Try.prog 77 #[v] w fun e w' => ∃ kv, e = .returned kv ∧ PrsOwn w' w.heap.size xs kv ∧ Below w.heap.size w w' := by
  obtain ⟨hlen0, aa, cap, rfl, hk⟩ := hl
  obtain ⟨i0, hi, hz0, hz1, hz2⟩ := info_parts infoProc
  have HK := Lib.hid hk
  have HZ := Lib.hid hsz
  have hlen : xs.length ≤ 1048576 := by omega
  clear hk hsz hlen0
  go_enter Try.func77, Try.ntmps77
  go_wp2_with (at_make; refine wpList_make_full _ rfl (.tmp 6) (.tmp 6) 67 rfl w.heap.size 104 i0 _ 2 Try.underlying67 hi hz0 hz1 .i64 .i64 _ _ xs.length rfl rfl rfl rfl (by rw [hz2]; omega) (by unfold maxLen; omega) (Nat.le_refl _) ?_)
  intro w1 hown hg
  have HO := Lib.hid hown
  have HG := Lib.hid hg
  clear hown hg
  go_wp2
  go_loopw [4] (fun i wr => ∃ (k : Nat) (ys zs : List Value), k ≤ xs.length ∧ i = .int .i64 k ∧ Hid (ys.length = k * 2) ∧ Hid (wr.ownsRow w.heap.size 104 2 (.slice (some ⟨w.heap.size, 0, none⟩) xs.length xs.length) xs.length (ys ++ zs)) ∧ Hid (PrI wr (w.heap.size + 1) wr.heap.size (xs.take k) ys) ∧ Hid (Below w.heap.size w wr))
    (fun i _ => xs.length - (intOf i).toNat)
  case atStart => exact ⟨0, [], _, Nat.zero_le _, rfl, rfl, HO.out, ⟨rfl, (HO.out.lt _ rfl).2⟩, below_noneL HG.out⟩
  case round =>
    obtain ⟨k, ys, zs, hk, rfl, hy, hrow, hol, hbe⟩ := hrel
    by_cases hlt : k < xs.length
    · obtain ⟨g, o, rfl, hl⟩ := HK.out (by omega)
      obtain ⟨h0, ba, bc, c0, c1, hl2⟩ := (hl k hlt).keep (keeps_below hbe.out)
      have C := Lib.hid (toProc_any xs[k] _ wr (by have := szPrs_mem (List.getElem_mem hlt); have := HZ.out; omega) ⟨h0, ba, bc, rfl, hl2⟩)
      clear hl hl2
      go_wp2_with fail
      refine C.out.mono ?_
      rintro e w2 ⟨v2, rfl, how, hb2⟩
      obtain ⟨_, va, vc, _, _, rfl, _⟩ := id how
      have HOw := Lib.hid how
      have HB2 := Lib.hid hb2
      have R2 := Lib.hid (row_below hrow.out hb2)
      clear how hb2 c0 c1
      have f0 := R2.out.frozenAt (k * 2)
      have f1 := R2.out.frozenAt (k * 2 + 1)
      obtain ⟨u0, s0⟩ := row_some2 R2.out (j := k * 2) (by omega)
      obtain ⟨u1, s1⟩ := row_some2 R2.out (j := k * 2 + 1) (by omega)
      obtain ⟨zs2, hr4, hg4⟩ := row_put2 R2.out hy.out hlt (.string xs[k].name) (.slice va xs[k].body.length vc)
      have HR4 := Lib.hid hr4
      have HG4 := Lib.hid hg4
      clear hr4 hg4
      go_wp2
      go_roundw
      case rel =>
        refine ⟨k + 1, ys ++ [Value.string xs[k].name, Value.slice va xs[k].body.length vc], zs2, by omega, by go_num, ?_, HR4.out, ?_, ?_⟩
        · show _ = _
          rw [List.length_append, hy.out]; simp; omega
        · have hlt0 : w.heap.size < wr.heap.size := (hrow.out.lt _ rfl).2
          have e1 : List.take (k + 1) xs = List.take k xs ++ [xs[k]] := List.take_succ_eq_append_getElem hlt
          have hst : Stays (w.heap.size + 1) w2 ((w2.setCell ⟨w.heap.size, k * 2, none⟩ (.string xs[k].name)).setCell ⟨w.heap.size, k * 2 + 1, none⟩ (.slice va xs[k].body.length vc)) := (Stays.set (by omega)).trans (Stays.set (by omega))
          rw [e1]
          have hsz := HB2.out.size
          obtain ⟨hn, a2, c2, l2, h2, e2, hl1, hl2, hS⟩ := HOw.out
          simp at e2
          obtain ⟨rfl, rfl⟩ := e2
          have hS2 : SOwnsK ((w2.setCell ⟨w.heap.size, k * 2, none⟩ (.string xs[k].name)).setCell ⟨w.heap.size, k * 2 + 1, none⟩ (.slice va xs[k].body.length vc)) wr.heap.size w2.heap.size xs[k].body (.slice va xs[k].body.length vc) := (hS.wide hl1 hl2).same (fun b g1 g2 => hst.2 b (by omega) g2)
          exact PrI.wideR (hi := w2.heap.size) (by simp) ((hol.out.same (fun b g1 g2 => (hst.2 b (by omega) (by omega)).trans (HB2.out.block b g2))).snoc hn hS2)
        · exact (hbe.out.trans (HB2.out.mono hbe.out.size)).grown HG4.out (Nat.le_trans hbe.out.size HB2.out.size) (fun b hb => by cases hb; exact Nat.le_refl _)
      case measure => simp [intOf]; omega
    · obtain rfl : k = xs.length := by omega
      have hz : zs = [] := List.eq_nil_of_length_eq_zero (by have := hrow.out.1; rw [List.length_append, hy.out] at this; omega)
      have HZS := Lib.hid hz
      clear hz
      go_wp2
      go_ret
      have h1 := hrow.out
      have h2 := hol.out
      rw [HZS.out, List.append_nil] at h1
      rw [List.take_length] at h2
      exact ⟨_, rfl, ⟨ys, w.heap.size + 1, wr.heap.size, h1, by omega, fun b hb => by simp [Value.ownBlock] at hb; omega, Nat.le_refl _, h2⟩, hbe.out⟩
/-- A block of three cells. -/
def Row3 (w : World) (b : Nat) (c0 c1 c2 : Value) : Prop := w.heap[b]? = some (.cells #[c0, c1, c2] 69 (0, 0))
theorem Row3.cells {w : World} {b : Nat} {c0 c1 c2 : Value} (h : Row3 w b c0 c1 c2) : Box3 w b c0 c1 c2 := by
  unfold Row3 at h
  refine ⟨?_, ?_, ?_⟩ <;> simp [World.cell?, h]
theorem Row3.free {w : World} {b : Nat} {c0 c1 c2 : Value} (h : Row3 w b c0 c1 c2) (j : Nat) : w.frozen? ⟨b, j, none⟩ = false := frozen_of_row w b j _ _ h
theorem Row3.below {w w' : World} {b B : Nat} {c0 c1 c2 : Value} (h : Row3 w b c0 c1 c2) (hb : Below B w w') (hlt : b < B) : Row3 w' b c0 c1 c2 := (hb.block b hlt).trans h
theorem Row3.other {w : World} {b q i : Nat} {v c0 c1 c2 : Value} (h : Row3 w b c0 c1 c2) (hn : b ≠ q) : Row3 (w.setCell ⟨q, i, none⟩ v) b c0 c1 c2 := (heap_setCell_other w _ b v hn).trans h
theorem Row3.put {w : World} {b i : Nat} {v c0 c1 c2 : Value} (h : Row3 w b c0 c1 c2) : (w.setCell ⟨b, i, none⟩ v).heap[b]? = some (.cells (#[c0, c1, c2].setIfInBounds i v) 69 (0, 0)) := heap_setCell_same w b i _ _ v h
set_option maxHeartbeats 1600000 in
theorem toProgF_any (x : PTree) (v : Value) (w : World) (hz : szP x ≤ 1048576) (hl : PLies w x v) :
    Calls Try.prog 36 #[v] w fun e w' => ∃ u, e = .returned u ∧ PFull w' w.heap.size x u ∧ Below w.heap.size w w' := by
  obtain ⟨ga, gc, la, lc, pa, pc, rfl, h1, h2, h3⟩ := hl
  unfold szP at hz
  have C1 := Lib.hid (fun w hk => toStrings_any x.globals (.slice ga x.globals.length gc) w (h1.1.keep hk) (by omega))
  have C2 := Lib.hid (fun w hk => toStrings_any x.locks (.slice la x.locks.length lc) w (h2.1.keep hk) (by omega))
  have C3 := Lib.hid (fun w hk => toPrs_any x.procs (.slice pa x.procs.length pc) w (by omega) (h3.keep hk))
  have N1 := Lib.hid h1.2
  have N2 := Lib.hid h2.2
  obtain ⟨W, hW⟩ : ∃ W, W = ((w.alloc (.cells #[.slice ga x.globals.length gc, .slice la x.locks.length lc, .slice pa x.procs.length pc] 64)).alloc (.cells #[.slice none 0 0, .slice none 0 0, .slice none 0 0] 69)).alloc (.cells #[.slice none 0 0, .slice none 0 0, .slice none 0 0] 69) := ⟨_, rfl⟩
  have hWs : W.heap.size = w.heap.size + 1 + 1 + 1 := by rw [hW]; simp
  have kW : Keeps w W := by rw [hW]; exact ((keeps_alloc _ _).trans (keeps_alloc _ _)).trans (keeps_alloc _ _)
  have bW : Below w.heap.size w W := by rw [hW]; exact (((Below.refl _ _).alloc (Nat.le_refl _) _).alloc (by simp) _).alloc (by simp; omega) _
  have XW : Box3 W w.heap.size (.slice ga x.globals.length gc) (.slice la x.locks.length lc) (.slice pa x.procs.length pc) := by
    rw [hW]
    exact (Box3.new w _ _ _ _).keep ((keeps_alloc _ _).trans (keeps_alloc _ _))
  have RW : Row3 W (w.heap.size + 1) (.slice none 0 0) (.slice none 0 0) (.slice none 0 0) := by
    rw [hW]
    exact (heap_alloc_old _ _ (by simp)).trans (top_at _ _ _ (by simp))
  have OW : Row3 W (w.heap.size + 1 + 1) (.slice none 0 0) (.slice none 0 0) (.slice none 0 0) := by
    rw [hW]
    exact top_at _ _ _ (by simp)
  have HW := Lib.hid hW
  have HWs := Lib.hid hWs
  have KW := Lib.hid kW
  have BW := Lib.hid bW
  have XW' := Lib.hid XW
  have RW' := Lib.hid RW
  have OW' := Lib.hid OW
  clear h1 h2 h3 hz hW hWs kW bW XW RW OW
  go_enter Try.func36, Try.ntmps36
  go_wp2_with fail
  rw [← HW.out]
  refine (C1.out W KW.out).mono ?_
  rintro e1 w1 ⟨v1, rfl, ho1, hb1⟩
  have HO1 : Hid (NRow w1 (w.heap.size + 1 + 1 + 1) x.globals v1) := by show NRow _ _ _ _; have := ho1; rw [HWs.out] at this; exact this
  obtain ⟨va, vc, rfl⟩ := HO1.out.shape
  have HB1 := Lib.hid hb1
  have X1 := Lib.hid (XW'.out.keep (keeps_below hb1))
  have R1 := Lib.hid (RW'.out.below hb1 (by rw [HWs.out]; omega))
  have O1 := Lib.hid (OW'.out.below hb1 (by rw [HWs.out]; omega))
  have hsw1 : w.heap.size + 1 + 1 + 1 ≤ w1.heap.size := by have := hb1.size; rw [HWs.out] at this; exact this
  obtain ⟨x0, x1, x2⟩ := X1.out
  obtain ⟨o0, o1, o2⟩ := O1.out.cells
  have f0 := O1.out.free 0
  clear ho1 hb1
  go_wp2_with fail
  obtain ⟨W2, hW2⟩ : ∃ W2, W2 = w1.setCell ⟨w.heap.size + 1 + 1, 0, none⟩ (.slice va x.globals.length vc) := ⟨_, rfl⟩
  rw [← hW2]
  have HS2 : Hid (Stays (w.heap.size + 1 + 1 + 1) w1 W2) := by rw [hW2]; exact Stays.set (by omega)
  have B2 : Hid (Below w.heap.size w W2) := by rw [hW2]; exact (BW.out.trans (HB1.out.mono BW.out.size)).setCell (by simp; omega) _
  have O2 : Hid (Row3 W2 (w.heap.size + 1 + 1) (.slice va x.globals.length vc) (.slice none 0 0) (.slice none 0 0)) := by rw [hW2]; exact Row3.put (i := 0) O1.out
  have R2 : Hid (Row3 W2 (w.heap.size + 1) (.slice none 0 0) (.slice none 0 0) (.slice none 0 0)) := by rw [hW2]; exact R1.out.other (by omega)
  have X2 : Hid (Box3 W2 w.heap.size (.slice ga x.globals.length gc) (.slice la x.locks.length lc) (.slice pa x.procs.length pc)) := by
    have h : W2.heap[w.heap.size]? = w1.heap[w.heap.size]? := by rw [hW2, heap_setCell_other _ _ _ _ (by simp; omega)]
    have hc : ∀ j, W2.cell? ⟨w.heap.size, j, none⟩ = w1.cell? ⟨w.heap.size, j, none⟩ := fun j => World.cell?_of_block h
    exact ⟨(hc 0).trans x0, (hc 1).trans x1, (hc 2).trans x2⟩
  have hs2 : W2.heap.size = w1.heap.size := by rw [hW2]; simp
  have M2 := Lib.hid (HO1.out.keep HS2.out)
  clear hW2 x0 x1 x2 o0 o1 o2 f0
  refine (C2.out W2 (keeps_below B2.out)).mono ?_
  rintro e2 w3 ⟨v3, rfl, ho3, hb3⟩
  have HO3b : Hid (NRow w3 w1.heap.size x.locks v3) := by show NRow _ _ _ _; have := ho3; rw [hs2] at this; exact this
  have HO3 : Hid (NRow w3 (w.heap.size + 1 + 1 + 1) x.locks v3) := World.ownsRow.mono ho3 (by omega)
  obtain ⟨ua, uc, rfl⟩ := HO3.out.shape
  have M3 := Lib.hid (M2.out.keep (Stays.of hb3))
  have HB3 := Lib.hid hb3
  have X3 := Lib.hid (X2.out.keep (keeps_below hb3))
  have R3 := Lib.hid (R2.out.below hb3 (by omega))
  have O3 := Lib.hid (O2.out.below hb3 (by omega))
  have hsw3 : w.heap.size + 1 + 1 + 1 ≤ w3.heap.size := by have := hb3.size; omega
  obtain ⟨x0, x1, x2⟩ := X3.out
  obtain ⟨o0, o1, o2⟩ := O3.out.cells
  have f1 := O3.out.free 1
  clear ho3 hb3
  go_wp2_with fail
  obtain ⟨W4, hW4⟩ : ∃ W4, W4 = w3.setCell ⟨w.heap.size + 1 + 1, 1, none⟩ (.slice ua x.locks.length uc) := ⟨_, rfl⟩
  rw [← hW4]
  have HS4 : Hid (Stays (w.heap.size + 1 + 1 + 1) w3 W4) := by rw [hW4]; exact Stays.set (by omega)
  have B4 : Hid (Below w.heap.size w W4) := by rw [hW4]; exact (B2.out.trans (HB3.out.mono B2.out.size)).setCell (by simp; omega) _
  have O4 : Hid (Row3 W4 (w.heap.size + 1 + 1) (.slice va x.globals.length vc) (.slice ua x.locks.length uc) (.slice none 0 0)) := by rw [hW4]; exact Row3.put (i := 1) O3.out
  have R4 : Hid (Row3 W4 (w.heap.size + 1) (.slice none 0 0) (.slice none 0 0) (.slice none 0 0)) := by rw [hW4]; exact R3.out.other (by omega)
  have X4 : Hid (Box3 W4 w.heap.size (.slice ga x.globals.length gc) (.slice la x.locks.length lc) (.slice pa x.procs.length pc)) := by
    have h : W4.heap[w.heap.size]? = w3.heap[w.heap.size]? := by rw [hW4, heap_setCell_other _ _ _ _ (by simp; omega)]
    have hc : ∀ j, W4.cell? ⟨w.heap.size, j, none⟩ = w3.cell? ⟨w.heap.size, j, none⟩ := fun j => World.cell?_of_block h
    exact ⟨(hc 0).trans x0, (hc 1).trans x1, (hc 2).trans x2⟩
  have hs4 : W4.heap.size = w3.heap.size := by rw [hW4]; simp
  have M4 := Lib.hid (M3.out.keep HS4.out)
  have L4 := Lib.hid (HO3.out.keep HS4.out)
  clear hW4 x0 x1 x2 o0 o1 o2 f1
  refine (C3.out W4 (keeps_below B4.out)).mono ?_
  rintro e3 w5 ⟨v5, rfl, ho5, hb5⟩
  obtain ⟨_, ta, tc, rfl, _⟩ := ho5.free
  have M5 := Lib.hid (M4.out.keep (Stays.of hb5))
  have L5 := Lib.hid (L4.out.keep (Stays.of hb5))
  have HO5 := Lib.hid ho5
  have HB5 := Lib.hid hb5
  have R5 := Lib.hid (R4.out.below hb5 (by omega))
  have O5 := Lib.hid (O4.out.below hb5 (by omega))
  have hsw5 : w.heap.size + 1 + 1 + 1 ≤ w5.heap.size := by have := hb5.size; omega
  obtain ⟨o0, o1, o2⟩ := O5.out.cells
  obtain ⟨r0, r1, r2⟩ := R5.out.cells
  have f2 := O5.out.free 2
  have g0 := R5.out.free 0
  have g1 := R5.out.free 1
  have g2 := R5.out.free 2
  clear ho5 hb5
  go_wp2
  refine bodyPost_ret (v := .agg #[.slice va x.globals.length vc, .slice ua x.locks.length uc, .slice ta x.procs.length tc]) (by simp [results, Try.results36, go_sem, r0, r1, r2]) rfl ⟨_, rfl, ⟨va, vc, ua, uc, ta, tc, w1.heap.size, W4.heap.size, rfl, N1.out, N2.out, World.ownsRow.mono (M5.out.keep ?_) (by omega), by omega, fun b hb => (HO1.out.lt b hb).2, (((HO3b.out.keep (HS4.out.mono (by omega))).keep (Stays.of HB5.out)).keep ?_), by have := HB3.out.size; omega, fun b hb => by rw [hs4]; exact (HO3b.out.lt b hb).2, HO5.out.keep ?_⟩, ?_⟩
  · exact (((Stays.set (by omega)).trans (Stays.set (by omega))).trans (Stays.set (by omega))).trans (Stays.set (by omega))
  · exact (((Stays.set (by omega)).trans (Stays.set (by omega))).trans (Stays.set (by omega))).trans (Stays.set (by omega))
  · exact (((Stays.set (by omega)).trans (Stays.set (by omega))).trans (Stays.set (by omega))).trans (Stays.set (by omega))
  · exact ((((B4.out.trans (HB5.out.mono B4.out.size)).setCell (by simp; omega) _).setCell (by simp) _).setCell (by simp) _).setCell (by simp) _
theorem toProg_any (x : PTree) (v : Value) (w : World) (hz : szP x ≤ 1048576) (hl : PLies w x v) :
    Calls Try.prog 36 #[v] w fun e w' => ∃ u, e = .returned u ∧ POwn w' x u ∧ Below w.heap.size w w' := by
  refine (toProgF_any x v w hz hl).mono ?_
  rintro e w' ⟨u, rfl, h, hb⟩
  exact ⟨u, rfl, h.own, hb⟩
end Go.Proofs.Ytmhhghdfgdhljaa.Trm
/- The laws' comparison of two terms that are the same, walked. Conditions: both lie in memory. -/
namespace Go.Proofs.Ytmhhghdfgdhljaa.Trm
open Go.RowKit Own
def EqOk (t : Tree) : Prop := ∀ (u v : Value) (w : World), Lies w t u → Lies w t v →
    Calls Try.prog 67 #[u, v] w fun e w' => e = .returned (.bool true) ∧ Below w.heap.size w w'
theorem eqS_any (ks : List Tree) (ih : ∀ t, t ∈ ks → EqOk t) (aa bb : Option Addr) (cap dap : Nat) (w : World) (hlen : ks.length ≤ 9223372036854775807) (hk : 0 < ks.length → ∃ g o, aa = some ⟨g, o, none⟩ ∧ LiesL w g o ks) (hk2 : 0 < ks.length → ∃ g o, bb = some ⟨g, o, none⟩ ∧ LiesL w g o ks) :
    Calls Try.prog 108 #[.slice aa ks.length cap, .slice bb ks.length dap] w fun e w' => e = .returned (.bool true) ∧ Below w.heap.size w w' := by
  have IH := Lib.hid ih
  have HK := Lib.hid hk
  have HK2 := Lib.hid hk2
  clear ih hk hk2
  go_enter Try.func108, Try.ntmps108
  go_wp2
  go_loopw [5] (fun i wr => ∃ (k : Nat), k ≤ ks.length ∧ i = .int .i64 k ∧ Hid (Below w.heap.size w wr))
    (fun i _ => ks.length - (intOf i).toNat)
  case atStart => exact ⟨0, Nat.zero_le _, rfl, Below.refl _ _⟩
  case round =>
    obtain ⟨k, hk, rfl, hbe⟩ := hrel
    by_cases hlt : k < ks.length
    · obtain ⟨g, o, rfl, hl⟩ := HK.out (by omega)
      obtain ⟨h, p, rfl, hm⟩ := HK2.out (by omega)
      obtain ⟨ka, kc, c0, c1, c2, c3, hl2⟩ := (hl.keep (keeps_below hbe.out)).at k hlt
      obtain ⟨la, lc, d0, d1, d2, d3, hm2⟩ := (hm.keep (keeps_below hbe.out)).at k hlt
      have C := Lib.hid (fun w hk => IH.out ks[k] (List.getElem_mem hlt) _ _ w (hl2.keep hk) (hm2.keep hk))
      clear hl hl2 hm hm2
      go_wp2
      go_region_with (go_at_call 67; refine (C.out _ (keeps_drew _)).mono ?_; rintro e w1 ⟨rfl, hb1⟩)
      all_goals
        have HB1 := Lib.hid (hbe.out.trans ((below_of_drew hb1).mono hbe.out.size))
        clear hb1
        go_wp2
        go_roundw
        case rel => exact ⟨k + 1, by omega, by go_num, HB1⟩
        case measure => simp [intOf]; omega
    · go_wp2
      go_ret
      exact ⟨rfl, hbe.out⟩
theorem eqTerm_any : ∀ t : Tree, EqOk t := treeInd fun k n s ks ih u v w hu hv => by
  obtain ⟨h1, h2, h3, h4, aa, cap, rfl, h5⟩ := hu
  obtain ⟨_, _, _, _, bb, dap, rfl, h6⟩ := hv
  have C := Lib.hid (fun w hk hk2 => eqS_any ks ih aa bb cap dap w h4 hk hk2)
  have H5 := Lib.hid h5
  have H6 := Lib.hid h6
  clear ih h5 h6
  go_enter Try.func67, Try.ntmps67
  go_wp2_with fail
  refine (C.out _ (fun h => by obtain ⟨g, o, e, hl⟩ := H5.out h; exact ⟨g, o, e, hl.keep ((keeps_alloc _ _).trans (keeps_alloc _ _))⟩) (fun h => by obtain ⟨g, o, e, hl⟩ := H6.out h; exact ⟨g, o, e, hl.keep ((keeps_alloc _ _).trans (keeps_alloc _ _))⟩)).mono ?_
  rintro e w1 ⟨rfl, hb1⟩
  have HB1 := Lib.hid ((((Below.refl w.heap.size w).alloc (Nat.le_refl _) _).alloc (by simp) _).trans (hb1.mono (by simp; omega)))
  clear hb1
  go_wp2
  go_ret
  exact ⟨rfl, HB1.out⟩
end Go.Proofs.Ytmhhghdfgdhljaa.Trm
/- The laws' comparison of two statements that are the same, walked. Conditions: both lie in memory. -/
namespace Go.Proofs.Ytmhhghdfgdhljaa.Trm
open Go.RowKit Own
def EqXOk (x : STree) : Prop := ∀ (u v : Value) (w : World), SLies w x u → SLies w x v →
    Calls Try.prog 24 #[u, v] w fun e w' => e = .returned (.bool true) ∧ Below w.heap.size w w'
set_option maxHeartbeats 1600000 in
theorem eqXS_any (xs : List STree) (ih : ∀ x, x ∈ xs → EqXOk x) (va vb : Value) (w : World) (h1 : SListAt w va xs) (h2 : SListAt w vb xs) :
    Calls Try.prog 30 #[va, vb] w fun e w' => e = .returned (.bool true) ∧ Below w.heap.size w w' := by
  obtain ⟨hlen, aa, cap, rfl, hk⟩ := h1
  obtain ⟨_, bb, dap, rfl, hk2⟩ := h2
  have IH := Lib.hid ih
  have HK := Lib.hid hk
  have HK2 := Lib.hid hk2
  clear ih hk hk2
  go_enter Try.func30, Try.ntmps30
  go_wp2
  go_loopw [5] (fun i wr => ∃ (k : Nat), k ≤ xs.length ∧ i = .int .i64 k ∧ Hid (Below w.heap.size w wr))
    (fun i _ => xs.length - (intOf i).toNat)
  case atStart => exact ⟨0, Nat.zero_le _, rfl, Below.refl _ _⟩
  case round =>
    obtain ⟨k, hk, rfl, hbe⟩ := hrel
    by_cases hlt : k < xs.length
    · obtain ⟨g, o, rfl, hl⟩ := HK.out (by omega)
      obtain ⟨h, p, rfl, hm⟩ := HK2.out (by omega)
      obtain ⟨ta, tc, ba, bc, ea, ec, c0, c1, c2, c3, c4, c5, c6, c7, hl2⟩ := (hl.keep (keeps_below hbe.out)).at k hlt
      obtain ⟨ua, uc, da, dc, fa, fc, d0, d1, d2, d3, d4, d5, d6, d7, hm2⟩ := (hm.keep (keeps_below hbe.out)).at k hlt
      have C : Hid (∀ wx, Below wr.heap.size wr wx → Calls Try.prog 24 #[.agg #[.int .i64 xs[k].kind, .string xs[k].name, .int .i64 xs[k].term.kind, .int .i64 xs[k].term.num, .string xs[k].term.name, .slice ta xs[k].term.kids.length tc, .slice ba xs[k].body.length bc, .slice ea xs[k].els.length ec], .agg #[.int .i64 xs[k].kind, .string xs[k].name, .int .i64 xs[k].term.kind, .int .i64 xs[k].term.num, .string xs[k].term.name, .slice ua xs[k].term.kids.length uc, .slice da xs[k].body.length dc, .slice fa xs[k].els.length fc]] wx fun e w' => e = .returned (.bool true) ∧ Below wr.heap.size wr w') :=
        fun wx hb => (IH.out xs[k] (List.getElem_mem hlt) _ _ wx (hl2.keep (keeps_below hb)) (hm2.keep (keeps_below hb))).mono fun e w' ⟨he, h⟩ => ⟨he, hb.trans (h.mono hb.size)⟩
      have KS : Hid (∀ wx, Below wr.heap.size wr wx → wx.cell? ⟨g, o + k * 8, none⟩ = some (.int .i64 xs[k].kind) ∧ wx.cell? ⟨g, o + k * 8 + 1, none⟩ = some (.string xs[k].name) ∧ wx.cell? ⟨g, o + k * 8 + 2, none⟩ = some (.int .i64 xs[k].term.kind) ∧ wx.cell? ⟨g, o + k * 8 + 3, none⟩ = some (.int .i64 xs[k].term.num) ∧ wx.cell? ⟨g, o + k * 8 + 4, none⟩ = some (.string xs[k].term.name) ∧ wx.cell? ⟨g, o + k * 8 + 5, none⟩ = some (.slice ta xs[k].term.kids.length tc) ∧ wx.cell? ⟨g, o + k * 8 + 6, none⟩ = some (.slice ba xs[k].body.length bc) ∧ wx.cell? ⟨g, o + k * 8 + 7, none⟩ = some (.slice ea xs[k].els.length ec) ∧ wx.cell? ⟨h, p + k * 8, none⟩ = some (.int .i64 xs[k].kind) ∧ wx.cell? ⟨h, p + k * 8 + 1, none⟩ = some (.string xs[k].name) ∧ wx.cell? ⟨h, p + k * 8 + 2, none⟩ = some (.int .i64 xs[k].term.kind) ∧ wx.cell? ⟨h, p + k * 8 + 3, none⟩ = some (.int .i64 xs[k].term.num) ∧ wx.cell? ⟨h, p + k * 8 + 4, none⟩ = some (.string xs[k].term.name) ∧ wx.cell? ⟨h, p + k * 8 + 5, none⟩ = some (.slice ua xs[k].term.kids.length uc) ∧ wx.cell? ⟨h, p + k * 8 + 6, none⟩ = some (.slice da xs[k].body.length dc) ∧ wx.cell? ⟨h, p + k * 8 + 7, none⟩ = some (.slice fa xs[k].els.length fc) ∧ Below wr.heap.size wr wx) := fun wx hb => by
        have hk := keeps_below hb
        exact ⟨hk _ _ c0, hk _ _ c1, hk _ _ c2, hk _ _ c3, hk _ _ c4, hk _ _ c5, hk _ _ c6, hk _ _ c7, hk _ _ d0, hk _ _ d1, hk _ _ d2, hk _ _ d3, hk _ _ d4, hk _ _ d5, hk _ _ d6, hk _ _ d7, hb⟩
      have b0 : Below wr.heap.size wr wr.drew := (Below.refl _ _).drew
      clear hl hl2 hm hm2 c0 c1 c2 c3 c4 c5 c6 c7 d0 d1 d2 d3 d4 d5 d6 d7
      go_wp2_with fail
      go_region_held3 (fun wx => wx.cell? ⟨g, o + k * 8, none⟩ = some (.int .i64 xs[k].kind) ∧ wx.cell? ⟨g, o + k * 8 + 1, none⟩ = some (.string xs[k].name) ∧ wx.cell? ⟨g, o + k * 8 + 2, none⟩ = some (.int .i64 xs[k].term.kind) ∧ wx.cell? ⟨g, o + k * 8 + 3, none⟩ = some (.int .i64 xs[k].term.num) ∧ wx.cell? ⟨g, o + k * 8 + 4, none⟩ = some (.string xs[k].term.name) ∧ wx.cell? ⟨g, o + k * 8 + 5, none⟩ = some (.slice ta xs[k].term.kids.length tc) ∧ wx.cell? ⟨g, o + k * 8 + 6, none⟩ = some (.slice ba xs[k].body.length bc) ∧ wx.cell? ⟨g, o + k * 8 + 7, none⟩ = some (.slice ea xs[k].els.length ec) ∧ wx.cell? ⟨h, p + k * 8, none⟩ = some (.int .i64 xs[k].kind) ∧ wx.cell? ⟨h, p + k * 8 + 1, none⟩ = some (.string xs[k].name) ∧ wx.cell? ⟨h, p + k * 8 + 2, none⟩ = some (.int .i64 xs[k].term.kind) ∧ wx.cell? ⟨h, p + k * 8 + 3, none⟩ = some (.int .i64 xs[k].term.num) ∧ wx.cell? ⟨h, p + k * 8 + 4, none⟩ = some (.string xs[k].term.name) ∧ wx.cell? ⟨h, p + k * 8 + 5, none⟩ = some (.slice ua xs[k].term.kids.length uc) ∧ wx.cell? ⟨h, p + k * 8 + 6, none⟩ = some (.slice da xs[k].body.length dc) ∧ wx.cell? ⟨h, p + k * 8 + 7, none⟩ = some (.slice fa xs[k].els.length fc) ∧ Below wr.heap.size wr wx)
        (exact KS.out _ (by assumption))
        (first
        | (go_at_call 24; (with_reducible refine (C.out _ (by assumption)).mono ?_); rintro e w1 ⟨rfl, b1⟩))
      all_goals
        have HB1 := Lib.hid (hbe.out.trans (b1.mono hbe.out.size))
        clear b1
        go_wp2
        go_roundw
        case rel => exact ⟨k + 1, by omega, by go_num, HB1⟩
        case measure => simp [intOf]; omega
    · go_wp2
      go_ret
      exact ⟨rfl, hbe.out⟩
set_option maxHeartbeats 800000 in
theorem eqStmt_any : ∀ x : STree, EqXOk x := streeInd fun k s t b e ihb ihe u v w hu hv => by
  obtain ⟨h1, h2, h3, h4, ta, tc, ba, bc, ea, ec, rfl, h5, h6, h7⟩ := hu
  obtain ⟨_, _, _, _, ua, uc, da, dc, fa, fc, rfl, i5, i6, i7⟩ := hv
  have CT := Lib.hid (fun w hk => eqTerm_any t _ _ w (h5.keep hk) (i5.keep hk))
  have CB := Lib.hid (fun w hk => eqXS_any b ihb (.slice ba b.length bc) (.slice da b.length dc) w (SListAt.keep ⟨h3, _, _, rfl, h6⟩ hk) (SListAt.keep ⟨h3, _, _, rfl, i6⟩ hk))
  have CE := Lib.hid (fun w hk => eqXS_any e ihe (.slice ea e.length ec) (.slice fa e.length fc) w (SListAt.keep ⟨h4, _, _, rfl, h7⟩ hk) (SListAt.keep ⟨h4, _, _, rfl, i7⟩ hk))
  have X0 := Lib.hid ((Box8.new w (.int .i64 k) (.string s) (.int .i64 t.kind) (.int .i64 t.num) (.string t.name) (.slice ta t.kids.length tc) (.slice ba b.length bc) (.slice ea e.length ec) 50).keep (keeps_alloc _ (.cells #[.int .i64 k, .string s, .int .i64 t.kind, .int .i64 t.num, .string t.name, .slice ua t.kids.length uc, .slice da b.length dc, .slice fa e.length fc] 50)))
  have Y0 := Lib.hid (Box8.new (w.alloc (.cells #[.int .i64 k, .string s, .int .i64 t.kind, .int .i64 t.num, .string t.name, .slice ta t.kids.length tc, .slice ba b.length bc, .slice ea e.length ec] 50)) (.int .i64 k) (.string s) (.int .i64 t.kind) (.int .i64 t.num) (.string t.name) (.slice ua t.kids.length uc) (.slice da b.length dc) (.slice fa e.length fc) 50)
  have hsz0 : (w.alloc (.cells #[.int .i64 k, .string s, .int .i64 t.kind, .int .i64 t.num, .string t.name, .slice ta t.kids.length tc, .slice ba b.length bc, .slice ea e.length ec] 50)).heap.size = w.heap.size + 1 := by simp
  rw [hsz0] at Y0
  clear ihb ihe h1 h2 h5 h6 h7 i5 i6 i7 hsz0
  go_enter Try.func24, Try.ntmps24
  go_wp2_with fail
  refine (CT.out _ ((keeps_alloc _ _).trans (keeps_alloc _ _))).mono ?_
  rintro e1 w1 ⟨rfl, hb1⟩
  have K1 := Lib.hid (((keeps_alloc w _).trans (keeps_alloc _ _)).trans (keeps_below hb1))
  have B1 := Lib.hid (below_box1 (below_box1 hb1))
  have X1 := Lib.hid (X0.out.keep (keeps_below hb1))
  have Y1 := Lib.hid (Y0.out.keep (keeps_below hb1))
  obtain ⟨p0, p1, p2, p3, p4, p5, p6, p7⟩ := X1.out
  obtain ⟨q0, q1, q2, q3, q4, q5, q6, q7⟩ := Y1.out
  clear hb1
  go_wp2_with fail
  refine (CB.out _ K1.out).mono ?_
  rintro e2 w2 ⟨rfl, hb2⟩
  have K2 := Lib.hid (K1.out.trans (keeps_below hb2))
  have B2 := Lib.hid (B1.out.trans (hb2.mono B1.out.size))
  have X2 := Lib.hid (X1.out.keep (keeps_below hb2))
  have Y2 := Lib.hid (Y1.out.keep (keeps_below hb2))
  clear hb2 p0 p1 p2 p3 p4 p5 p6 p7 q0 q1 q2 q3 q4 q5 q6 q7
  obtain ⟨p0, p1, p2, p3, p4, p5, p6, p7⟩ := X2.out
  obtain ⟨q0, q1, q2, q3, q4, q5, q6, q7⟩ := Y2.out
  go_wp2_with fail
  refine (CE.out _ K2.out).mono ?_
  rintro e3 w3 ⟨rfl, hb3⟩
  have B3 := Lib.hid (B2.out.trans (hb3.mono B2.out.size))
  clear hb3
  go_wp2
  go_ret
  exact ⟨rfl, B3.out⟩
end Go.Proofs.Ytmhhghdfgdhljaa.Trm
/- The laws' comparison of two programs that are the same, walked. Conditions: both lie in memory. -/
namespace Go.Proofs.Ytmhhghdfgdhljaa.Trm
open Go.RowKit Own
theorem eqProc_any (p : PrT) (u v : Value) (w : World) (hu : PrLies w p u) (hv : PrLies w p v) :
    Calls Try.prog 118 #[u, v] w fun e w' => e = .returned (.bool true) ∧ Below w.heap.size w w' := by
  obtain ⟨h1, ba, bc, rfl, h6⟩ := hu
  obtain ⟨_, da, dc, rfl, i6⟩ := hv
  have CB := Lib.hid (fun w hk => eqXS_any p.body (fun x _ => eqStmt_any x) (.slice ba p.body.length bc) (.slice da p.body.length dc) w (h6.keep hk) (i6.keep hk))
  have X0 := Lib.hid ((Box2.new w (.string p.name) (.slice ba p.body.length bc) 104).keep (keeps_alloc _ (.cells #[.string p.name, .slice da p.body.length dc] 104)))
  have Y0 := Lib.hid (Box2.new (w.alloc (.cells #[.string p.name, .slice ba p.body.length bc] 104)) (.string p.name) (.slice da p.body.length dc) 104)
  have hsz0 : (w.alloc (.cells #[.string p.name, .slice ba p.body.length bc] 104)).heap.size = w.heap.size + 1 := by simp
  rw [hsz0] at Y0
  clear h1 h6 i6 hsz0
  go_enter Try.func118, Try.ntmps118
  go_wp2_with fail
  refine (CB.out _ ((keeps_alloc _ _).trans (keeps_alloc _ _))).mono ?_
  rintro e1 w1 ⟨rfl, hb1⟩
  have B1 := Lib.hid (below_box1 (below_box1 hb1))
  clear hb1
  go_wp2
  go_ret
  exact ⟨rfl, B1.out⟩
set_option maxHeartbeats 1600000 in
theorem eqPrs_any (xs : List PrT) (va vb : Value) (w : World) (h1 : PrsAt w va xs) (h2 : PrsAt w vb xs) :
    Calls Try.prog 80 #[va, vb] w fun e w' => e = .returned (.bool true) ∧ Below w.heap.size w w' := by
  obtain ⟨hlen, aa, cap, rfl, hk⟩ := h1
  obtain ⟨_, bb, dap, rfl, hk2⟩ := h2
  have HK := Lib.hid hk
  have HK2 := Lib.hid hk2
  clear hk hk2
  go_enter Try.func80, Try.ntmps80
  go_wp2
  go_loopw [5] (fun i wr => ∃ (k : Nat), k ≤ xs.length ∧ i = .int .i64 k ∧ Hid (Below w.heap.size w wr))
    (fun i _ => xs.length - (intOf i).toNat)
  case atStart => exact ⟨0, Nat.zero_le _, rfl, Below.refl _ _⟩
  case round =>
    obtain ⟨k, hk, rfl, hbe⟩ := hrel
    by_cases hlt : k < xs.length
    · obtain ⟨g, o, rfl, hl⟩ := HK.out (by omega)
      obtain ⟨h, p, rfl, hm⟩ := HK2.out (by omega)
      obtain ⟨h0, ba, bc, c0, c1, hl2⟩ := (hl k hlt).keep (keeps_below hbe.out)
      obtain ⟨_, da, dc, d0, d1, hm2⟩ := (hm k hlt).keep (keeps_below hbe.out)
      have C : Hid (∀ wx, Below wr.heap.size wr wx → Calls Try.prog 118 #[.agg #[.string xs[k].name, .slice ba xs[k].body.length bc], .agg #[.string xs[k].name, .slice da xs[k].body.length dc]] wx fun e w' => e = .returned (.bool true) ∧ Below wr.heap.size wr w') :=
        fun wx hb => (eqProc_any xs[k] _ _ wx ⟨h0, ba, bc, rfl, hl2.keep (keeps_below hb)⟩ ⟨h0, da, dc, rfl, hm2.keep (keeps_below hb)⟩).mono fun e w' ⟨he, h⟩ => ⟨he, hb.trans (h.mono hb.size)⟩
      have KS : Hid (∀ wx, Below wr.heap.size wr wx → wx.cell? ⟨g, o + k * 2, none⟩ = some (.string xs[k].name) ∧ wx.cell? ⟨g, o + k * 2 + 1, none⟩ = some (.slice ba xs[k].body.length bc) ∧ wx.cell? ⟨h, p + k * 2, none⟩ = some (.string xs[k].name) ∧ wx.cell? ⟨h, p + k * 2 + 1, none⟩ = some (.slice da xs[k].body.length dc) ∧ Below wr.heap.size wr wx) := fun wx hb => by
        have hk := keeps_below hb
        exact ⟨hk _ _ c0, hk _ _ c1, hk _ _ d0, hk _ _ d1, hb⟩
      have b0 : Below wr.heap.size wr wr.drew := (Below.refl _ _).drew
      clear hl hl2 hm hm2 c0 c1 d0 d1
      go_wp2_with fail
      go_region_held3 (fun wx => wx.cell? ⟨g, o + k * 2, none⟩ = some (.string xs[k].name) ∧ wx.cell? ⟨g, o + k * 2 + 1, none⟩ = some (.slice ba xs[k].body.length bc) ∧ wx.cell? ⟨h, p + k * 2, none⟩ = some (.string xs[k].name) ∧ wx.cell? ⟨h, p + k * 2 + 1, none⟩ = some (.slice da xs[k].body.length dc) ∧ Below wr.heap.size wr wx)
        (exact KS.out _ (by assumption))
        (first
        | (go_at_call 118; (with_reducible refine (C.out _ (by assumption)).mono ?_); rintro e w1 ⟨rfl, b1⟩))
      all_goals
        have HB1 := Lib.hid (hbe.out.trans (b1.mono hbe.out.size))
        clear b1
        go_wp2
        go_roundw
        case rel => exact ⟨k + 1, by omega, by go_num, HB1⟩
        case measure => simp [intOf]; omega
    · go_wp2
      go_ret
      exact ⟨rfl, hbe.out⟩
set_option maxHeartbeats 800000 in
theorem eqProg_any (x : PTree) (u v : Value) (w : World) (hu : PLies w x u) (hv : PLies w x v) :
    Calls Try.prog 38 #[u, v] w fun e w' => e = .returned (.bool true) ∧ Below w.heap.size w w' := by
  obtain ⟨ga, gc, la, lc, pa, pc, rfl, h1, h2, h3⟩ := hu
  obtain ⟨gb, gd, lb, ld, pb, pd, rfl, i1, i2, i3⟩ := hv
  have C1 := Lib.hid (fun w hk => eqStrs_at (.slice ga x.globals.length gc) (.slice gb x.globals.length gd) x.globals w (h1.1.keep hk) (i1.1.keep hk))
  have C2 := Lib.hid (fun w hk => eqStrs_at (.slice la x.locks.length lc) (.slice lb x.locks.length ld) x.locks w (h2.1.keep hk) (i2.1.keep hk))
  have C3 := Lib.hid (fun w hk => eqPrs_any x.procs (.slice pa x.procs.length pc) (.slice pb x.procs.length pd) w (h3.keep hk) (i3.keep hk))
  have X0 := Lib.hid ((Box3.new w (.slice ga x.globals.length gc) (.slice la x.locks.length lc) (.slice pa x.procs.length pc) 69).keep (keeps_alloc _ (.cells #[.slice gb x.globals.length gd, .slice lb x.locks.length ld, .slice pb x.procs.length pd] 69)))
  have Y0 := Lib.hid (Box3.new (w.alloc (.cells #[.slice ga x.globals.length gc, .slice la x.locks.length lc, .slice pa x.procs.length pc] 69)) (.slice gb x.globals.length gd) (.slice lb x.locks.length ld) (.slice pb x.procs.length pd) 69)
  have hsz0 : (w.alloc (.cells #[.slice ga x.globals.length gc, .slice la x.locks.length lc, .slice pa x.procs.length pc] 69)).heap.size = w.heap.size + 1 := by simp
  rw [hsz0] at Y0
  clear h1 h2 h3 i1 i2 i3 hsz0
  go_enter Try.func38, Try.ntmps38
  go_wp2_with fail
  refine (C1.out _ ((keeps_alloc _ _).trans (keeps_alloc _ _))).mono ?_
  rintro e1 w1 ⟨rfl, hb1⟩
  have K1 := Lib.hid (((keeps_alloc w _).trans (keeps_alloc _ _)).trans (keeps_below hb1))
  have B1 := Lib.hid (below_box1 (below_box1 hb1))
  have X1 := Lib.hid (X0.out.keep (keeps_below hb1))
  have Y1 := Lib.hid (Y0.out.keep (keeps_below hb1))
  obtain ⟨p0, p1, p2⟩ := X1.out
  obtain ⟨q0, q1, q2⟩ := Y1.out
  clear hb1
  go_wp2_with fail
  refine (C2.out _ K1.out).mono ?_
  rintro e2 w2 ⟨rfl, hb2⟩
  have K2 := Lib.hid (K1.out.trans (keeps_below hb2))
  have B2 := Lib.hid (B1.out.trans (hb2.mono B1.out.size))
  have X2 := Lib.hid (X1.out.keep (keeps_below hb2))
  have Y2 := Lib.hid (Y1.out.keep (keeps_below hb2))
  clear hb2 p0 p1 p2 q0 q1 q2
  obtain ⟨p0, p1, p2⟩ := X2.out
  obtain ⟨q0, q1, q2⟩ := Y2.out
  go_wp2_with fail
  refine (C3.out _ K2.out).mono ?_
  rintro e3 w3 ⟨rfl, hb3⟩
  have B3 := Lib.hid (B2.out.trans (hb3.mono B2.out.size))
  clear hb3
  go_wp2
  go_ret
  exact ⟨rfl, B3.out⟩
end Go.Proofs.Ytmhhghdfgdhljaa.Trm
/- The text that the laws mark an element by, walked. Conditions: the number is at least 1 and fits an int. -/
namespace Go.Proofs.Ytmhhghdfgdhljaa.Own
open Go.RowKit
set_option maxHeartbeats 400000 in
theorem markText_any (m : Nat) (w : World) (h1 : 1 ≤ m) (h2 : m ≤ 9223372036854775807) :
    Calls Try.prog 72 #[.int .i64 (m : Int)] w fun e w' => e = .returned (.string (markB m)) ∧ w.grownBy w' none := by
  go_enter Try.func72, Try.ntmps72
  go_wp2
  go_loopw [0, 3] (fun x o wr => ∃ (n : Nat) (acc : List UInt8), n ≤ 9223372036854775807 ∧ x = .int .i64 (n : Int) ∧ Hid (Wrote m n acc) ∧ o = .string ⟨acc.toArray⟩ ∧ w.grownBy wr none)
    (fun x _ _ => (intOf x).toNat)
  case atStart => exact ⟨m, [], h2, rfl, Wrote.start m, rfl, World.grownBy.refl _ _⟩
  case round =>
    obtain ⟨n, acc, hn, rfl, hr, rfl, hg⟩ := hrel
    have hl := hr.out.length (by omega)
    by_cases hp : 0 < n
    · have hc := run_string_one (P := Try.prog) wr 146 9 5 (digB n) (48 + (n : Int) % 10) (digB_toNat n).symm Try.underlying146 Try.underlying5 Try.underlying9
      go_wp2
      go_roundw
      case rel => exact ⟨n / 10, digB n :: acc, by omega, by go_num, hr.out.step hp, congrArg Value.string (mk_cons _ _), grown_alloc hg _⟩
      case measure => simp [intOf]; omega
    · obtain rfl : n = 0 := by omega
      have hd : acc = digs m := hr.out.done
      subst hd
      go_wp2
      go_ret
      exact ⟨congrArg (fun x => Ending.returned (Value.string x)) (mk_cons _ _), hg⟩
end Go.Proofs.Ytmhhghdfgdhljaa.Own
/- The laws' marks over a term that the call owns, walked. Conditions: the term lies in rows of the call's own, the rows apart. -/
namespace Go.Proofs.Ytmhhghdfgdhljaa.Trm
open Go.RowKit Own
mutual
def cntT : Tree → Nat
  | .node _ _ _ ks => cntS ks
def cntS : List Tree → Nat
  | [] => 0
  | t :: ts => 1 + cntT t + cntS ts
end
theorem cntT_eq (t : Tree) : cntT t = cntS t.kids := by cases t; rfl
mutual
theorem cntT_le : ∀ t : Tree, cntT t ≤ szT t
  | .node k n s ks => by
    rw [cntT, szT]
    have := cntS_le ks
    omega
theorem cntS_le : ∀ ks : List Tree, cntS ks ≤ ks.length + szS ks
  | [] => by simp [cntS]
  | t :: ts => by
    rw [cntS, szS, List.length_cons]
    have := cntT_le t
    have := cntS_le ts
    omega
end
theorem cntS_drop {ks : List Tree} {i : Nat} (h : i < ks.length) : cntS (ks.drop i) = 1 + cntT ks[i] + cntS (ks.drop (i + 1)) := by rw [List.drop_eq_getElem_cons h, cntS]
theorem cntS_end {ks : List Tree} {i : Nat} (h : ks.length ≤ i) : cntS (ks.drop i) = 0 := by rw [List.drop_of_length_le h, cntS]
/-- What is written lies between two blocks. -/
structure Marks (lo hi : Nat) (w w' : World) : Prop where
  os : w'.os = w.os
  tape : w'.tape = w.tape
  output : w'.output = w.output
  size : w.heap.size ≤ w'.heap.size
  block : ∀ k, k < w.heap.size → (k < lo ∨ hi ≤ k) → w'.heap[k]? = w.heap[k]?
theorem Marks.refl (lo hi : Nat) (w : World) : Marks lo hi w w := ⟨rfl, rfl, rfl, Nat.le_refl _, fun _ _ _ => rfl⟩
theorem Marks.trans {lo hi : Nat} {a b c : World} (h : Marks lo hi a b) (k : Marks lo hi b c) : Marks lo hi a c :=
  ⟨k.os.trans h.os, k.tape.trans h.tape, k.output.trans h.output, Nat.le_trans h.size k.size, fun i hi' ho => (k.block i (Nat.lt_of_lt_of_le hi' h.size) ho).trans (h.block i hi' ho)⟩
theorem Marks.wide {lo hi lo' hi' : Nat} {w w' : World} (h : Marks lo hi w w') (h1 : lo' ≤ lo) (h2 : hi ≤ hi') : Marks lo' hi' w w' :=
  ⟨h.os, h.tape, h.output, h.size, fun k hk ho => h.block k hk (by omega)⟩
theorem Marks.of_grown {lo hi : Nat} {w w' : World} {row : Option Nat} (h : w.grownBy w' row) (hr : ∀ b, row = some b → lo ≤ b ∧ b < hi) : Marks lo hi w w' :=
  ⟨h.os, h.tape, h.output, h.size, fun k hk ho => h.block k hk (fun e => by have := hr k e.symm; omega)⟩
theorem Marks.below {lo hi : Nat} {w w' : World} (h : Marks lo hi w w') (hl : lo ≤ w.heap.size) : Below lo w w' :=
  ⟨h.os, h.tape, h.output, h.size, fun k hk => h.block k (by omega) (.inl hk)⟩
def MarkOk (t : Tree) : Prop := ∀ (kv : Value) (w : World) (lo hi k : Nat), 1 ≤ k → k + 3 * cntT t ≤ 4611686018427387904 → hi ≤ w.heap.size → OwnsK w lo hi t.kids kv →
    Calls Try.prog 73 #[kv, .int .i64 (k : Int)] w fun e w' => e = .returned (.int .i64 ((k + 3 * cntT t : Nat) : Int)) ∧ Marks lo hi w w'
theorem wrap_nat (a : Nat) (h : a ≤ 4611686018427387904) : IntKind.i64.wrap (a : Int) = a := IntWalk.i64_in _ (by omega)
set_option maxHeartbeats 1600000 in
theorem markTerms_any : ∀ t : Tree, MarkOk t := treeInd fun tk tn ts ks ih kv w lo hi k hk1 hkb hhi hok => by
  obtain ⟨xs, m, hrow, hlm, hbm, hol⟩ := hok
  have hlen : ks.length ≤ 9223372036854775807 := by have := row_small hrow; unfold maxLen at this; exact this
  have IH := Lib.hid ih
  have HC : Hid (cntT (.node tk tn ts ks) = cntS (ks.drop 0)) := by show _ = _; rw [cntT]; rfl
  obtain ⟨aa, cap, rfl, haa⟩ := row_shape hrow
  rw [HC.out] at hkb ⊢
  have HB := Lib.hid hkb
  have HA := Lib.hid haa
  have HR := Lib.hid hrow
  have HL : Hid (OwnsL w m hi (ks.drop 0) xs) := hol
  have HM := Lib.hid hbm
  obtain ⟨C, hC⟩ : ∃ C, C = cntS (ks.drop 0) := ⟨_, rfl⟩
  rw [← hC] at hkb HB ⊢
  have HCC := Lib.hid hC
  simp only [Tree.kids] at HR HA hrow ⊢
  clear ih hrow hol hbm haa hC
  go_enter Try.func73, Try.ntmps73
  go_wp2
  go_loopw [1, 5] (fun x i wr => ∃ (j kk mj : Nat) (pre rest : List Value), j ≤ ks.length ∧ i = .int .i64 j ∧ x = .int .i64 kk ∧ 1 ≤ kk ∧ kk ≤ 4611686018427387904 ∧ Hid (kk + 3 * cntS (ks.drop j) = k + 3 * C) ∧ Hid (pre.length = j * 4) ∧ Hid (m ≤ mj) ∧ Hid (wr.ownsRow lo 47 4 (.slice aa ks.length cap) ks.length (pre ++ rest)) ∧ Hid (OwnsL wr mj hi (ks.drop j) rest) ∧ Hid (Marks lo hi w wr))
    (fun _ i _ => ks.length - (intOf i).toNat)
  case atStart => exact ⟨0, k, m, [], xs, Nat.zero_le _, rfl, rfl, hk1, by omega, by show _ = _; rw [HCC.out], rfl, Nat.le_refl _, HR.out, HL.out, Marks.refl _ _ _⟩
  case round =>
    obtain ⟨j, kk, mj, pre, rest, hj, rfl, rfl, hk2, hk3, hsum, hpre, hmj, hrow, hol, hmk⟩ := hrel
    by_cases hlt : j < ks.length
    · obtain ⟨g, rfl⟩ := HA.out (by omega)
      have hd := cntS_drop hlt
      have hol2 := hol.out
      rw [List.drop_eq_getElem_cons hlt] at hol2
      obtain ⟨kv2, rest2, mid, rfl, hmm, how, hol3⟩ := hol2
      have hgm : g < m := HM.out g rfl
      have hmh := hol3.le
      have hsw := hmk.out.size
      obtain ⟨_, _, _, kv3, e3, hok3⟩ := how.parts
      have e4 : kv2 = kv3 := by unfold aggT at e3; simpa using e3
      subst e4
      obtain ⟨xs3, m3, hrow3, hrest3⟩ := id hok3
      obtain ⟨ka, kc, rfl, _⟩ := row_shape hrow3
      have f0 := hrow.out.frozenAt (j * 4)
      have f1 := hrow.out.frozenAt (j * 4 + 1)
      have q0 : wr.cell? ⟨g, j * 4, none⟩ = some (.int .i64 ks[j].kind) := by rw [hrow.out.cellAt (j * 4) (by omega), List.getElem?_append_right (by rw [hpre.out]; omega), hpre.out, Nat.sub_self]; rfl
      have q1 : wr.cell? ⟨g, j * 4 + 1, none⟩ = some (.int .i64 ks[j].num) := by rw [hrow.out.cellAt (j * 4 + 1) (by omega), List.getElem?_append_right (by rw [hpre.out]; omega), hpre.out, Nat.add_sub_cancel_left]; rfl
      obtain ⟨ra, ga⟩ := hrow.out.stored (j * 4) (.int .i64 (kk : Int))
      rw [show pre ++ (cellsT ks[j] (.slice ka ks[j].kids.length kc) ++ rest2) = pre ++ Value.int .i64 ks[j].kind :: (Value.int .i64 ks[j].num :: Value.string ks[j].name :: Value.slice ka ks[j].kids.length kc :: rest2) from rfl, set_mid _ _ _ _ _ hpre.out] at ra
      obtain ⟨rb, gb⟩ := ra.stored (j * 4 + 1) (.int .i64 ((kk : Int) + 1))
      rw [set_mid _ _ _ _ _ (by rw [List.length_append, hpre.out]; rfl)] at rb
      have RB := Lib.hid rb
      have GB := Lib.hid (ga.trans gb)
      have CT := Lib.hid (fun w => markText_any (kk + 2) w (by omega) (by omega))
      have e2 : ((kk + 2 : Nat) : Int) = (kk : Int) + 1 + 1 := by omega
      rw [e2] at CT
      have HSum : Hid (kk + 3 + 3 * cntT ks[j] + 3 * cntS (ks.drop (j + 1)) = k + 3 * C) := by show _ = _; have := hsum.out; omega
      have hkb2 : kk + 3 + 3 * cntT ks[j] ≤ 4611686018427387904 := by have := HSum.out; have := HB.out; omega
      have CM := Lib.hid (fun w hi2 h => IH.out ks[j] (List.getElem_mem hlt) (.slice ka ks[j].kids.length kc) w mj hi2 (kk + 3) (by omega) (by omega) h)
      have e3b : ((kk + 3 : Nat) : Int) = (kk : Int) + 1 + 1 + 1 := by omega
      rw [e3b] at CM
      have HOK3 := Lib.hid hok3
      have HOL3 := Lib.hid hol3
      have f1b := ra.frozenAt (j * 4 + 1)
      obtain ⟨z1, q1b⟩ := row_some ra (j := j * 4 + 1) (by omega)
      clear hd e2 e3 e3b ra rb ga gb hok3 hol3 how hrest3 hrow3
      go_wp2_with fail
      refine (CT.out _).mono ?_
      rintro e w2 ⟨rfl, hg2⟩
      have R2 := Lib.hid (RB.out.kept hg2 (.inr (by simp [Value.ownBlock])))
      have G2 := Lib.hid (GB.out.trans (grown_but hg2 (some g)))
      have f2 := R2.out.frozenAt (j * 4 + 2)
      obtain ⟨z2, q2⟩ := row_some R2.out (j := j * 4 + 2) (by omega)
      obtain ⟨rd, gd⟩ := R2.out.stored (j * 4 + 2) (.string (markB (kk + 2)))
      rw [set_mid _ _ _ _ _ (by rw [List.length_append, List.length_append, hpre.out]; rfl)] at rd
      have RD := Lib.hid rd
      have GD := Lib.hid (G2.out.trans gd)
      have q3 : (w2.setCell ⟨g, j * 4 + 2, none⟩ (.string (markB (kk + 2)))).cell? ⟨g, j * 4 + 3, none⟩ = some (.slice ka ks[j].kids.length kc) := by
        rw [rd.cellAt (j * 4 + 3) (by omega), List.getElem?_append_right (by simp [hpre.out])]
        simp [hpre.out]
      have hsz2 : wr.heap.size ≤ (w2.setCell ⟨g, j * 4 + 2, none⟩ (.string (markB (kk + 2)))).heap.size := GD.out.size
      have hsame : ∀ b, m ≤ b → b < hi → (w2.setCell ⟨g, j * 4 + 2, none⟩ (.string (markB (kk + 2)))).heap[b]? = wr.heap[b]? := fun b h1 h2 => GD.out.block b (by omega) (by simp; omega)
      have HSA := Lib.hid hsame
      have D := Lib.hid (CM.out _ mid (Nat.le_trans hmh (Nat.le_trans hhi (Nat.le_trans hsw hsz2))) (HOK3.out.same (fun b h1 h2 => hsame b (Nat.le_trans hmj.out h1) (by omega))))
      clear rd gd hsame
      go_wp2_with fail
      refine D.out.mono ?_
      rintro e w3 ⟨rfl, hm3⟩
      have HM3 := Lib.hid hm3
      have hlt3 : g < (w2.setCell ⟨g, j * 4 + 2, none⟩ (.string (markB (kk + 2)))).heap.size := (RD.out.lt g rfl).2
      have hgj : g < mj := by have := hmj.out; omega
      have R3 := Lib.hid (row_same RD.out (w' := w3) (fun b hb => by cases hb; exact HM3.out.block g hlt3 (.inl hgj)))
      have L3 : Hid (OwnsL w3 mid hi (ks.drop (j + 1)) rest2) := HOL3.out.same (fun b h1 h2 => (HM3.out.block b (by omega) (.inr h1)).trans (HSA.out b (by have := hmj.out; omega) h2))
      have HMk : Hid (Marks lo hi w w3) := (hmk.out.trans (Marks.of_grown GD.out (fun b hb => by cases hb; exact ⟨(RD.out.lt g rfl).1, by omega⟩))).trans (HM3.out.wide (by have := hmj.out; omega) hmh)
      clear hm3
      go_wp2
      go_roundw
      case rel => exact ⟨j + 1, kk + 3 + 3 * cntT ks[j], mid, pre ++ [Value.int .i64 (kk : Int)] ++ [Value.int .i64 ((kk : Int) + 1)] ++ [Value.string (markB (kk + 2))] ++ [Value.slice ka ks[j].kids.length kc], rest2, by omega, by go_num, rfl, by omega, hkb2, HSum, by show List.length _ = _; rw [List.length_append, List.length_append, List.length_append, List.length_append, hpre.out]; simp; omega, by show _ ≤ _; have := hmj.out; omega, by show World.ownsRow _ _ _ _ _ _ _; have := R3.out; rw [show ∀ (A : List Value) (c : Value) (r : List Value), A ++ c :: r = (A ++ [c]) ++ r from fun A c r => by simp] at this; exact this, L3.out, HMk.out⟩
      case measure => simp [intOf]; omega
    · have HS : Hid (kk = k + 3 * C) := by show _ = _; have := hsum.out; rw [cntS_end (by omega)] at this; omega
      go_wp2
      go_ret
      exact ⟨by rw [HS.out]; rfl, hmk.out⟩
end Go.Proofs.Ytmhhghdfgdhljaa.Trm
/- The laws' marks over statements that the call owns, walked. Conditions: the statements lie in rows of the call's own, the rows apart. -/
namespace Go.Proofs.Ytmhhghdfgdhljaa.Trm
open Go.RowKit Own
mutual
def mkX : STree → Nat
  | .node _ _ t b e => 5 + 3 * cntT t + mkXS b + mkXS e
def mkXS : List STree → Nat
  | [] => 0
  | x :: xs => mkX x + mkXS xs
end
theorem mkX_eq (x : STree) : mkX x = 5 + 3 * cntT x.term + mkXS x.body + mkXS x.els := by cases x; rfl
mutual
theorem mkX_le : ∀ x : STree, mkX x ≤ 5 + 5 * szX x
  | .node k s t b e => by
    rw [mkX, szX]
    have := mkXS_le b
    have := mkXS_le e
    have := cntT_le t
    omega
theorem mkXS_le : ∀ xs : List STree, mkXS xs ≤ 5 * (xs.length + szXS xs)
  | [] => by simp [mkXS]
  | x :: xs => by
    rw [mkXS, szXS, List.length_cons]
    have := mkX_le x
    have := mkXS_le xs
    omega
end
theorem mkXS_drop {xs : List STree} {i : Nat} (h : i < xs.length) : mkXS (xs.drop i) = mkX xs[i] + mkXS (xs.drop (i + 1)) := by rw [List.drop_eq_getElem_cons h, mkXS]
theorem mkXS_end {xs : List STree} {i : Nat} (h : xs.length ≤ i) : mkXS (xs.drop i) = 0 := by rw [List.drop_of_length_le h, mkXS]
def MarkSOk (xs : List STree) : Prop := ∀ (v : Value) (w : World) (lo hi k : Nat), 1 ≤ k → k + mkXS xs ≤ 4611686018427387904 → hi ≤ w.heap.size → SOwnsK w lo hi xs v →
    Calls Try.prog 31 #[v, .int .i64 (k : Int)] w fun e w' => e = .returned (.int .i64 ((k + mkXS xs : Nat) : Int)) ∧ Marks lo hi w w'
theorem mid_at {w : World} {lo : Nat} {g n cap : Nat} {pre zs rest : List Value} {z : Value} (h : w.ownsRow lo 50 8 (.slice (some ⟨g, 0, none⟩) n cap) n (pre ++ zs ++ z :: rest)) {j i : Nat} (hp : pre.length = j * 8) (hz : zs.length = i) (hj : j < n) (hi : i < 8) : w.cell? ⟨g, j * 8 + i, none⟩ = some z := by
  rw [h.cellAt (j * 8 + i) (by omega), List.getElem?_append_right (by simp; omega)]
  have : j * 8 + i - (pre ++ zs).length = 0 := by rw [List.length_append]; omega
  rw [this]; rfl
theorem mid_set {w : World} {lo : Nat} {g n cap : Nat} {pre zs rest : List Value} {z : Value} (u : Value) (h : w.ownsRow lo 50 8 (.slice (some ⟨g, 0, none⟩) n cap) n (pre ++ zs ++ z :: rest)) {j i : Nat} (hp : pre.length = j * 8) (hz : zs.length = i) :
    (w.setCell ⟨g, j * 8 + i, none⟩ u).ownsRow lo 50 8 (.slice (some ⟨g, 0, none⟩) n cap) n (pre ++ (zs ++ [u]) ++ rest) ∧ w.grownBy (w.setCell ⟨g, j * 8 + i, none⟩ u) (some g) := by
  obtain ⟨h1, h2⟩ := h.stored (j * 8 + i) u
  rw [set_mid _ _ _ _ _ (by rw [List.length_append]; omega)] at h1
  rw [List.append_assoc pre zs [u]] at h1
  exact ⟨h1, h2⟩
theorem mid_next {w : World} {lo : Nat} {v : Value} {n : Nat} {pre zs rest : List Value} {z : Value} (h : w.ownsRow lo 50 8 v n (pre ++ zs ++ z :: rest)) : w.ownsRow lo 50 8 v n (pre ++ (zs ++ [z]) ++ rest) := by
  rw [show pre ++ (zs ++ [z]) ++ rest = pre ++ zs ++ z :: rest from by simp]; exact h
set_option maxHeartbeats 3200000 in
theorem markS_list (xs : List STree) (ih : ∀ x, x ∈ xs → MarkSOk x.body ∧ MarkSOk x.els) : MarkSOk xs := fun v w lo hi k hk1 hkb hhi hok => by
  obtain ⟨cs, m, hrow, hlm, hbm, hol⟩ := hok
  have hlen : xs.length ≤ 9223372036854775807 := by obtain ⟨_, _, _, hn, _⟩ := slies_of_row hrow; exact hn
  have IH := Lib.hid ih
  obtain ⟨aa, cap, rfl, haa⟩ := row_shape hrow
  have HB := Lib.hid hkb
  have HA := Lib.hid haa
  have HR := Lib.hid hrow
  have HL : Hid (SOwnsL w m hi (xs.drop 0) cs) := hol
  have HM := Lib.hid hbm
  have HHI := Lib.hid hhi
  clear ih hrow hol hbm haa
  go_enter Try.func31, Try.ntmps31
  go_wp2
  go_loopw [1, 5] (fun x i wr => ∃ (j kk mj : Nat) (pre rest : List Value), j ≤ xs.length ∧ i = .int .i64 j ∧ x = .int .i64 kk ∧ 1 ≤ kk ∧ kk ≤ 4611686018427387904 ∧ Hid (kk + mkXS (xs.drop j) = k + mkXS xs) ∧ Hid (pre.length = j * 8) ∧ Hid (m ≤ mj) ∧ Hid (wr.ownsRow lo 50 8 (.slice aa xs.length cap) xs.length (pre ++ rest)) ∧ Hid (SOwnsL wr mj hi (xs.drop j) rest) ∧ Hid (Marks lo hi w wr))
    (fun _ i _ => xs.length - (intOf i).toNat)
  case atStart => exact ⟨0, k, m, [], cs, Nat.zero_le _, rfl, rfl, hk1, by omega, rfl, rfl, Nat.le_refl _, HR.out, HL.out, Marks.refl _ _ _⟩
  case round =>
    obtain ⟨j, kk, mj, pre, rest, hj, rfl, rfl, hk2, hk3, hsum, hpre, hmj, hrow, hol, hmk⟩ := hrel
    by_cases hlt : j < xs.length
    · obtain ⟨g, rfl⟩ := HA.out (by omega)
      have hd := mkXS_drop hlt
      rw [mkX_eq] at hd
      have hol2 := hol.out
      rw [List.drop_eq_getElem_cons hlt] at hol2
      obtain ⟨kv, bv, ev, rest2, mid, rfl, hmm, how, hol3⟩ := hol2
      have hgm : g < m := HM.out g rfl
      have hmh := hol3.le
      have hsw := hmk.out.size
      have hgj : g < mj := by have := hmj.out; omega
      obtain ⟨_, _, kv2, bv2, ev2, m1, m2, e3, hot, hob, hoe⟩ := how.parts
      have e4 : kv = kv2 ∧ bv = bv2 ∧ ev = ev2 := by unfold aggX at e3; simpa using e3
      obtain ⟨rfl, rfl, rfl⟩ := e4
      obtain ⟨_, _, _, kv4, e5, hok⟩ := hot.parts
      have e6 : kv = kv4 := by unfold aggT at e5; simpa using e5
      subst e6
      have hl1 := hot.le
      have hl2 := hob.le
      have hl3 := hoe.le
      obtain ⟨ta, tc, rfl⟩ : ∃ a c, kv = .slice a xs[j].term.kids.length c := by obtain ⟨_, _, r, _⟩ := id hok; obtain ⟨a, c, e, _⟩ := row_shape r; exact ⟨a, c, e⟩
      obtain ⟨ba, bc, rfl⟩ : ∃ a c, bv = .slice a xs[j].body.length c := by obtain ⟨_, _, r, _⟩ := id hob; obtain ⟨a, c, e, _⟩ := row_shape r; exact ⟨a, c, e⟩
      obtain ⟨ea, ec, rfl⟩ : ∃ a c, ev = .slice a xs[j].els.length c := by obtain ⟨_, _, r, _⟩ := id hoe; obtain ⟨a, c, e, _⟩ := row_shape r; exact ⟨a, c, e⟩
      have r0 := hrow.out
      rw [show ∀ (a b c : Value), pre ++ (cellsX xs[j] a b c ++ rest2) = pre ++ [] ++ Value.int .i64 xs[j].kind :: (Value.string xs[j].name :: Value.int .i64 xs[j].term.kind :: Value.int .i64 xs[j].term.num :: Value.string xs[j].term.name :: a :: b :: c :: rest2) from fun a b c => by simp [cellsX]] at r0
      have f0 := r0.frozenAt (j * 8 + 0)
      have q0 := mid_at r0 hpre.out (i := 0) rfl hlt (by omega)
      obtain ⟨r1, g1⟩ := mid_set (.int .i64 (kk : Int)) r0 hpre.out (i := 0) rfl
      simp only [Nat.add_zero] at f0 q0 r1 g1
      have R1 := Lib.hid r1
      have G1 := Lib.hid g1
      have CT := Lib.hid (fun w => markText_any (kk + 1) w (by omega) (by omega))
      have CT2 := Lib.hid (fun w => markText_any (kk + 4) w (by omega) (by omega))
      rw [show ((kk + 1 : Nat) : Int) = (kk : Int) + 1 from by omega] at CT
      rw [show ((kk + 4 : Nat) : Int) = (kk : Int) + 1 + 1 + 1 + 1 from by omega] at CT2
      have HSum : Hid (kk + 5 + 3 * cntT xs[j].term + mkXS xs[j].body + mkXS xs[j].els + mkXS (xs.drop (j + 1)) = k + mkXS xs) := by show _ = _; have := hsum.out; omega
      have hkb2 : kk + 5 + 3 * cntT xs[j].term + mkXS xs[j].body + mkXS xs[j].els ≤ 4611686018427387904 := by have := HSum.out; have := HB.out; omega
      have CK := Lib.hid (fun w hi2 h => markTerms_any xs[j].term (.slice ta xs[j].term.kids.length tc) w mj hi2 (kk + 5) (by omega) (by omega) h)
      rw [show ((kk + 5 : Nat) : Int) = (kk : Int) + 1 + 1 + 1 + 1 + 1 from by omega] at CK
      have hin := IH.out xs[j] (List.getElem_mem hlt)
      have CB := Lib.hid (fun w hi2 h => hin.1 (.slice ba xs[j].body.length bc) w m1 hi2 (kk + 5 + 3 * cntT xs[j].term) (by omega) (by omega) h)
      have CE := Lib.hid (fun w hi2 h => hin.2 (.slice ea xs[j].els.length ec) w m2 hi2 (kk + 5 + 3 * cntT xs[j].term + mkXS xs[j].body) (by omega) (by omega) h)
      have HOK := Lib.hid hok
      have HOB := Lib.hid hob
      have HOE := Lib.hid hoe
      have HOL3 := Lib.hid hol3
      have HLE := Lib.hid (And.intro hl1 (And.intro hl2 (And.intro hl3 (And.intro hmh hgj))))
      have HSZ : Hid (hi ≤ wr.heap.size) := Nat.le_trans HHI.out hsw
      clear hd r0 r1 g1 hok hob hoe hol3 how hot hin e3 e5 hl1 hl2 hl3 hsum hol
      go_wp2_with fail
      refine (CT.out _).mono ?_
      rintro e w2 ⟨rfl, hg2⟩
      have R2 := Lib.hid (R1.out.kept hg2 (.inr (by simp [Value.ownBlock])))
      have G2 := Lib.hid (G1.out.trans (grown_but hg2 (some g)))
      obtain ⟨r3, g3⟩ := mid_set (.string (markB (kk + 1))) R2.out hpre.out (i := 1) rfl
      obtain ⟨r4, g4⟩ := mid_set (.int .i64 ((kk : Int) + 1 + 1)) r3 hpre.out (i := 2) rfl
      obtain ⟨r5, g5⟩ := mid_set (.int .i64 ((kk : Int) + 1 + 1 + 1)) r4 hpre.out (i := 3) rfl
      have q1 := mid_at R2.out hpre.out (i := 1) rfl hlt (by omega)
      have q2 := mid_at r3 hpre.out (i := 2) rfl hlt (by omega)
      have q3 := mid_at r4 hpre.out (i := 3) rfl hlt (by omega)
      have f1 := R2.out.frozenAt (j * 8 + 1)
      have f2 := r3.frozenAt (j * 8 + 2)
      have f3 := r4.frozenAt (j * 8 + 3)
      have R5 := Lib.hid r5
      have G5 := Lib.hid (G2.out.trans (g3.trans (g4.trans g5)))
      clear r3 r4 r5 g3 g4 g5 hg2 f0 q0
      go_wp2_with fail
      refine (CT2.out _).mono ?_
      rintro e w3 ⟨rfl, hg3⟩
      have R6 := Lib.hid (R5.out.kept hg3 (.inr (by simp [Value.ownBlock])))
      have G6 := Lib.hid (G5.out.trans (grown_but hg3 (some g)))
      obtain ⟨r7, g7⟩ := mid_set (.string (markB (kk + 4))) R6.out hpre.out (i := 4) rfl
      have q4 := mid_at R6.out hpre.out (i := 4) rfl hlt (by omega)
      have f4 := R6.out.frozenAt (j * 8 + 4)
      have R7 := Lib.hid r7
      have G7 := Lib.hid (G6.out.trans g7)
      obtain ⟨W7, hW7⟩ : ∃ W7, W7 = w3.setCell ⟨g, j * 8 + 4, none⟩ (.string (markB (kk + 4))) := ⟨_, rfl⟩
      rw [← hW7] at R7 G7
      have HW7 := Lib.hid hW7
      have x5 := mid_at R7.out hpre.out (i := 5) rfl hlt (by omega)
      rw [HW7.out] at x5
      have hsa : Hid (∀ b, mj ≤ b → b < hi → W7.heap[b]? = wr.heap[b]?) := fun b h1 h2 => G7.out.block b (by have := HSZ.out; omega) (by have := HLE.out; simp; omega)
      have HG7 : Hid (hi ≤ W7.heap.size) := Nat.le_trans HSZ.out G7.out.size
      clear r7 g7 hg3 q1 q2 q3 f1 f2 f3 hW7
      go_wp2_with fail
      rw [← HW7.out]
      refine (CK.out _ m1 (by have := HLE.out; have := HG7.out; omega) (HOK.out.same (fun b h1 h2 => hsa.out b h1 (by have := HLE.out; omega)))).mono ?_
      rintro e w8 ⟨rfl, hm8⟩
      have HM8 := Lib.hid hm8
      have hg8 : g < W7.heap.size := (R7.out.lt g rfl).2
      have R8 := Lib.hid (row_same R7.out (w' := w8) (fun b hb => by cases hb; exact HM8.out.block g hg8 (.inl HLE.out.2.2.2.2)))
      have x6 := mid_at (mid_next R8.out) hpre.out (i := 6) rfl hlt (by omega)
      have hsb : Hid (∀ b, m1 ≤ b → b < hi → w8.heap[b]? = wr.heap[b]?) := fun b h1 h2 => (HM8.out.block b (by have := HG7.out; omega) (.inr h1)).trans (hsa.out b (by have := HLE.out; omega) h2)
      have HG8 : Hid (hi ≤ w8.heap.size) := Nat.le_trans HG7.out HM8.out.size
      clear hm8 x5 q4 f4
      go_wp2_with fail
      refine (CB.out _ m2 (by have := HLE.out; have := HG8.out; omega) (HOB.out.same (fun b h1 h2 => hsb.out b h1 (by have := HLE.out; omega)))).mono ?_
      rintro e w9 ⟨rfl, hm9⟩
      have HM9 := Lib.hid hm9
      have hg9 : g < w8.heap.size := (R8.out.lt g rfl).2
      have R9 := Lib.hid (row_same R8.out (w' := w9) (fun b hb => by cases hb; exact HM9.out.block g hg9 (.inl (by have := HLE.out; omega))))
      have x7 := mid_at (mid_next (mid_next R9.out)) hpre.out (i := 7) rfl hlt (by omega)
      have hsc : Hid (∀ b, m2 ≤ b → b < hi → w9.heap[b]? = wr.heap[b]?) := fun b h1 h2 => (HM9.out.block b (by have := HG8.out; omega) (.inr h1)).trans (hsb.out b (by have := HLE.out; omega) h2)
      have HG9 : Hid (hi ≤ w9.heap.size) := Nat.le_trans HG8.out HM9.out.size
      clear hm9 x6
      go_wp2_with fail
      refine (CE.out _ mid (by have := HLE.out; have := HG9.out; omega) (HOE.out.same (fun b h1 h2 => hsc.out b h1 (by have := HLE.out; omega)))).mono ?_
      rintro e w10 ⟨rfl, hm10⟩
      have HM10 := Lib.hid hm10
      have hg10 : g < w9.heap.size := (R9.out.lt g rfl).2
      have R10 := Lib.hid (row_same R9.out (w' := w10) (fun b hb => by cases hb; exact HM10.out.block g hg10 (.inl (by have := HLE.out; omega))))
      have L10 : Hid (SOwnsL w10 mid hi (xs.drop (j + 1)) rest2) := HOL3.out.same (fun b h1 h2 => (HM10.out.block b (by have := HG9.out; omega) (.inr h1)).trans (hsc.out b (by have := HLE.out; omega) h2))
      have HMk : Hid (Marks lo hi w w10) := (hmk.out.trans (Marks.of_grown G7.out (fun b hb => by cases hb; exact ⟨(R7.out.lt g rfl).1, by have := HLE.out; omega⟩))).trans (((HM8.out.wide (by have := HLE.out; have := (R7.out.lt g rfl).1; omega) (by have := HLE.out; omega)).trans (HM9.out.wide (by have := HLE.out; have := (R7.out.lt g rfl).1; omega) (by have := HLE.out; omega))).trans (HM10.out.wide (by have := HLE.out; have := (R7.out.lt g rfl).1; omega) (by have := HLE.out; omega)))
      clear hm10 x7
      go_wp2
      go_roundw
      case rel =>
        refine ⟨j + 1, kk + 5 + 3 * cntT xs[j].term + mkXS xs[j].body + mkXS xs[j].els, mid, pre ++ [Value.int .i64 (kk : Int), Value.string (markB (kk + 1)), Value.int .i64 ((kk : Int) + 1 + 1), Value.int .i64 ((kk : Int) + 1 + 1 + 1), Value.string (markB (kk + 4)), .slice ta xs[j].term.kids.length tc, .slice ba xs[j].body.length bc, .slice ea xs[j].els.length ec], rest2, by omega, by go_num, rfl, by omega, hkb2, HSum, ?_, ?_, ?_, L10.out, HMk.out⟩
        · show List.length _ = _
          rw [List.length_append, hpre.out]; simp; omega
        · show m ≤ mid
          have := hmj.out; have := HLE.out; omega
        · have := R10.out
          show World.ownsRow _ _ _ _ _ _ _
          simpa using this
      case measure => simp [intOf]; omega
    · have HS : Hid (kk = k + mkXS xs) := by show _ = _; have := hsum.out; rw [mkXS_end (by omega)] at this; omega
      go_wp2
      go_ret
      exact ⟨by rw [HS.out]; rfl, hmk.out⟩
theorem markS_all : ∀ x : STree, MarkSOk x.body ∧ MarkSOk x.els := streeInd fun _ _ _ b e ihb ihe => ⟨markS_list b ihb, markS_list e ihe⟩
theorem markS_any (xs : List STree) : MarkSOk xs := markS_list xs fun x _ => markS_all x
end Go.Proofs.Ytmhhghdfgdhljaa.Trm
/- The laws' helpers over a list of texts that the call owns, walked: alike, marked, still marked. Conditions: the rows are owned by the call. -/
namespace Go.Proofs.Ytmhhghdfgdhljaa.Own
open Go.RowKit
set_option maxHeartbeats 400000 in
theorem eqStrings_same (v1 v2 : Value) (b1 b2 n : Nat) (ss : List ByteArray) (w : World) (h1 : w.ownsRow b1 9 1 v1 n (strV ss)) (h2 : w.ownsRow b2 9 1 v2 n (strV ss)) :
    Calls Try.prog 29 #[v1, v2] w fun e w' => e = .returned (.bool true) ∧ ∃ m, w' = w.drewN m := by
  obtain ⟨a1, c1, rfl, ha1⟩ := row_shape h1
  obtain ⟨a2, c2, rfl, ha2⟩ := row_shape h2
  have hl := row_len h1
  have hm := row_small h1
  unfold maxLen at hm
  have H1 : Hid (w.ownsRow b1 9 1 (.slice a1 n c1) n (strV ss)) := h1
  have H2 : Hid (w.ownsRow b2 9 1 (.slice a2 n c2) n (strV ss)) := h2
  have HA1 : Hid (0 < n → ∃ g, a1 = some ⟨g, 0, none⟩) := ha1
  have HA2 : Hid (0 < n → ∃ g, a2 = some ⟨g, 0, none⟩) := ha2
  have HL : Hid (ss.length = n) := hl
  clear h1 h2 ha1 ha2 hl
  go_enter Try.func29, Try.ntmps29
  go_wp2
  go_loopw [5] (fun i wr => ∃ k m : Nat, k ≤ n ∧ i = .int .i64 k ∧ wr = w.drewN m)
    (fun i _ => n - (intOf i).toNat)
  case atStart => exact ⟨0, 0, Nat.zero_le _, rfl, (World.drewN_zero _).symm⟩
  case round =>
    obtain ⟨k, m, hk, rfl, rfl⟩ := hrel
    by_cases hlt : k < n
    · obtain ⟨g1, rfl⟩ := HA1.out (by omega)
      obtain ⟨g2, rfl⟩ := HA2.out (by omega)
      have hks : k < ss.length := by rw [HL.out]; exact hlt
      have q1 := row_cell H1.out k hks
      have q2 := row_cell H2.out k hks
      go_wp2
      go_quiet (fail)
      go_wp2
      go_roundw
      case rel => exact ⟨k + 1, m + nq, by omega, by go_num, rfl⟩
      case measure => simp [intOf]; omega
    · go_wp2
      go_ret
      exact ⟨rfl, m, rfl⟩
/-- The marks from k on. -/
def marks (k n : Nat) : List ByteArray := (List.range n).map fun j => markB (k + j)
theorem marks_length (k n : Nat) : (marks k n).length = n := by simp [marks]
theorem marks_at (k n j : Nat) (h : j < (marks k n).length) : (marks k n)[j] = markB (k + j) := by simp [marks]
theorem marks_step (k i : Nat) (ss : List ByteArray) (h : i < ss.length) : (marks k i ++ ss.drop i).set i (markB (k + i)) = marks k (i + 1) ++ ss.drop (i + 1) := by
  rw [List.set_append_right _ _ (by simp [marks_length]), marks_length, Nat.sub_self, List.drop_eq_getElem_cons h, List.set_cons_zero]
  simp [marks, List.range_succ]
theorem marks_step_row {w : World} {base : Nat} {e : TypeId} {g n c k i : Nat} {ss : List ByteArray} (h : w.ownsRow base e 1 (.slice (some ⟨g, 0, none⟩) n c) n (strV (marks k i ++ ss.drop i))) (hi : i < ss.length) :
    (w.setCell ⟨g, i, none⟩ (.string (markB (k + i)))).ownsRow base e 1 (.slice (some ⟨g, 0, none⟩) n c) n (strV (marks k (i + 1) ++ ss.drop (i + 1))) ∧ w.grownBy (w.setCell ⟨g, i, none⟩ (.string (markB (k + i)))) (some g) := by
  have := h.stored i (.string (markB (k + i)))
  rw [← marks_step k i ss hi]
  simpa [strV, List.map_set] using this

set_option maxHeartbeats 400000 in
theorem markStrings_any (v : Value) (b n k : Nat) (ss : List ByteArray) (w : World) (h1 : w.ownsRow b 9 1 v n (strV ss)) (hk1 : 1 ≤ k) (hk2 : k + n ≤ 9223372036854775807) :
    Calls Try.prog 32 #[v, .int .i64 (k : Int)] w fun e w' => e = .returned (.int .i64 ((k + n : Nat) : Int)) ∧ w'.ownsRow b 9 1 v n (strV (marks k n)) ∧ w.grownBy w' v.ownBlock := by
  obtain ⟨a1, c1, rfl, ha1⟩ := row_shape h1
  have HL : Hid (ss.length = n) := row_len h1
  have H1 : Hid (w.ownsRow b 9 1 (.slice a1 n c1) n (strV ss)) := h1
  have HA1 : Hid (0 < n → ∃ g, a1 = some ⟨g, 0, none⟩) := ha1
  clear h1 ha1
  go_enter Try.func32, Try.ntmps32
  go_wp2
  go_loopw [1, 5] (fun x i wr => ∃ j : Nat, j ≤ n ∧ i = .int .i64 j ∧ x = .int .i64 ((k + j : Nat) : Int) ∧ Hid (wr.ownsRow b 9 1 (.slice a1 n c1) n (strV (marks k j ++ ss.drop j)) ∧ w.grownBy wr (Value.slice a1 n c1).ownBlock))
    (fun _ i _ => n - (intOf i).toNat)
  case atStart => exact ⟨0, Nat.zero_le _, rfl, rfl, H1.out, World.grownBy.refl _ _⟩
  case round =>
    obtain ⟨j, hj, rfl, rfl, hin⟩ := hrel
    by_cases hlt : j < n
    · obtain ⟨g1, rfl⟩ := HA1.out (by omega)
      have hjs : j < ss.length := by rw [HL.out]; exact hlt
      go_wp2_with (go_at_call 72; refine (markText_any (k + j) _ (by omega) (by omega)).mono ?_; rintro e w1 ⟨rfl, hg1⟩; have r1 := hin.out.1.kept hg1 (.inr (by simp [Value.ownBlock])); obtain ⟨u, cl⟩ : ∃ u, w1.cell? ⟨g1, j, none⟩ = some u := ⟨_, row_cell r1 j (by rw [row_len r1]; exact hlt)⟩; have fz := r1.frozenAt j; have R1 := Lib.hid r1; clear r1)
      go_roundw
      case rel => exact ⟨j + 1, by omega, by go_num, by go_num, (marks_step_row R1.out hjs).1, hin.out.2.trans ((grown_but hg1 _).trans (marks_step_row R1.out hjs).2)⟩
      case measure => simp [intOf]; omega
    · obtain rfl : j = n := by omega
      have hdr : ss.drop j = [] := List.drop_of_length_le (by rw [HL.out]; exact Nat.le_refl _)
      go_wp2
      go_ret
      have := hin.out
      rw [hdr, List.append_nil] at this
      exact ⟨rfl, this.1, this.2⟩

set_option maxHeartbeats 400000 in
theorem heldStrings_any (v : Value) (b n k : Nat) (w : World) (h1 : w.ownsRow b 9 1 v n (strV (marks k n))) (hk1 : 1 ≤ k) (hk2 : k + n ≤ 9223372036854775807) :
    Calls Try.prog 33 #[v, .int .i64 (k : Int)] w fun e w' => e = .returned (.int .i64 ((k + n : Nat) : Int)) ∧ w.grownBy w' none := by
  obtain ⟨a1, c1, rfl, ha1⟩ := row_shape h1
  have H1 : Hid (w.ownsRow b 9 1 (.slice a1 n c1) n (strV (marks k n))) := h1
  have HA1 : Hid (0 < n → ∃ g, a1 = some ⟨g, 0, none⟩) := ha1
  clear h1 ha1
  go_enter Try.func33, Try.ntmps33
  go_wp2
  go_loopw [1, 5] (fun x i wr => ∃ j : Nat, j ≤ n ∧ i = .int .i64 j ∧ x = .int .i64 ((k + j : Nat) : Int) ∧ Hid (w.grownBy wr none))
    (fun _ i _ => n - (intOf i).toNat)
  case atStart => exact ⟨0, Nat.zero_le _, rfl, rfl, World.grownBy.refl _ _⟩
  case round =>
    obtain ⟨j, hj, rfl, rfl, hin⟩ := hrel
    by_cases hlt : j < n
    · obtain ⟨g1, rfl⟩ := HA1.out (by omega)
      have q := row_cell (H1.out.kept hin.out (.inr (by simp [Value.ownBlock]))) j (by rw [marks_length]; exact hlt)
      rw [marks_at] at q
      go_wp2
      go_region_with (go_at_call 72; refine (markText_any (k + j) _ (by omega) (by omega)).mono ?_; rintro e w1 ⟨rfl, hg1⟩; have q1 := World.grownBy.cell hg1 q (by simp))
      all_goals
        go_wp2
        go_roundw
        case rel => exact ⟨j + 1, by omega, by go_num, by go_num, grown_trans hin.out (grown_of_drew hg1) (fun _ h => by cases h)⟩
        case measure => simp [intOf]; omega
    · obtain rfl : j = n := by omega
      go_wp2
      go_ret
      exact ⟨rfl, hin.out⟩
end Go.Proofs.Ytmhhghdfgdhljaa.Own
/- Lists of texts that a call owns, marked from 1 on and found marked; rows that lie apart. Conditions: the rows are owned by the call. -/
namespace Go.Proofs.Ytmhhghdfgdhljaa.Own
open Go.RowKit
theorem kept_none {w w' : World} {base : Nat} {e : TypeId} {size : Nat} {v : Value} {n : Nat} {xs : List Value} (h : w.ownsRow base e size v n xs) (hg : w.grownBy w' none) : w'.ownsRow base e size v n xs :=
  h.kept hg (by cases v.ownBlock <;> simp)
theorem kept_far {w w' : World} {base base' : Nat} {e : TypeId} {size : Nat} {v v' : Value} {n n' : Nat} {xs xs' : List Value} {w0 : World} (h : w.ownsRow base e size v n xs) (h0 : w0.ownsRow base e size v n xs) (h' : w.ownsRow base' e size v' n' xs') (hb : w0.heap.size ≤ base') (hg : w.grownBy w' v'.ownBlock) : w'.ownsRow base e size v n xs := by
  refine h.kept hg ?_
  cases e1 : v.ownBlock with
  | none => exact .inl rfl
  | some g =>
    refine .inr fun e2 => ?_
    have a := (h0.lt g e1).2
    have b := (h'.lt g e2.symm).1
    omega
theorem row_at {w : World} {base : Nat} {e : TypeId} {v : Value} {n : Nat} {ss : List ByteArray} (h : w.ownsRow base e 1 v n (strV ss)) : w.ownsRow base e 1 v ss.length (strV ss) := by rw [row_len h]; exact h
theorem mark_one (v : Value) (b n : Nat) (ss : List ByteArray) (w : World) (h1 : w.ownsRow b 9 1 v n (strV ss)) (hn : n ≤ 9000000) :
    Calls Try.prog 32 #[v, .int .i64 1] w fun e w' => e = .returned (.int .i64 (1 + (n : Int))) ∧ w'.ownsRow b 9 1 v n (strV (marks 1 n)) ∧ w.grownBy w' v.ownBlock := by
  have := markStrings_any v b n 1 ss w h1 (Nat.le_refl _) (by omega)
  rw [show ((1 + n : Nat) : Int) = 1 + (n : Int) from by omega] at this
  exact this
theorem held_one (v : Value) (b n : Nat) (w : World) (h1 : w.ownsRow b 9 1 v n (strV (marks 1 n))) (hn : n ≤ 9000000) :
    Calls Try.prog 33 #[v, .int .i64 1] w fun e w' => e = .returned (.int .i64 (1 + (n : Int))) ∧ w.grownBy w' none := by
  have := heldStrings_any v b n 1 w h1 (Nat.le_refl _) (by omega)
  rw [show ((1 + n : Nat) : Int) = 1 + (n : Int) from by omega] at this
  exact this

end Go.Proofs.Ytmhhghdfgdhljaa.Own
/- The laws' marks over programs that the call owns, walked. Conditions: the program lies in rows of the call's own, the rows apart. -/
namespace Go.Proofs.Ytmhhghdfgdhljaa.Trm
open Go.RowKit Own
def mkPrs : List PrT → Nat
  | [] => 0
  | p :: r => 1 + mkXS p.body + mkPrs r
def mkP (x : PTree) : Nat := x.globals.length + (x.locks.length + mkPrs x.procs)
theorem mkPrs_le : ∀ ps : List PrT, mkPrs ps ≤ 5 * (ps.length + szPrs ps)
  | [] => by simp [mkPrs]
  | p :: r => by
    rw [mkPrs, szPrs, List.length_cons]
    have h1 := mkXS_le p.body
    have h2 := mkPrs_le r
    unfold szPr
    omega
theorem mkP_le (x : PTree) : mkP x ≤ 5 * szP x := by
  have := mkPrs_le x.procs
  unfold mkP szP
  omega
/-- Procedures in a row of the call's own, all in the blocks from base to hi. -/
def PrsOwnH (w : World) (base hi : Nat) (ps : List PrT) (v : Value) : Prop := ∃ cs m, w.ownsRow base 104 2 v ps.length cs ∧ base ≤ m ∧ (∀ b, v.ownBlock = some b → b < m) ∧ hi ≤ w.heap.size ∧ PrI w m hi ps cs
theorem PrsOwnH.keep {w w' : World} {base hi : Nat} {ps : List PrT} {v : Value} (h : PrsOwnH w base hi ps v) (hs : Same base hi w w') (hw : hi ≤ w'.heap.size) : PrsOwnH w' base hi ps v := by
  obtain ⟨cs, m, h1, h2, h3, h4, h5⟩ := h
  have := h5.le
  exact ⟨cs, m, row_same h1 (fun b hb => hs b (h1.lt b hb).1 (by have := h3 b hb; omega)), h2, h3, hw, h5.same (fun b g1 g2 => hs b (by omega) g2)⟩
def PFullH (w : World) (lo hi : Nat) (x : PTree) (v : Value) : Prop := ∃ ga gc la lc pa pc m1 m2, v = .agg #[.slice ga x.globals.length gc, .slice la x.locks.length lc, .slice pa x.procs.length pc] ∧
  NRow w lo x.globals (.slice ga x.globals.length gc) ∧ lo ≤ m1 ∧ (∀ b, (Value.slice ga x.globals.length gc).ownBlock = some b → b < m1) ∧ NRow w m1 x.locks (.slice la x.locks.length lc) ∧ m1 ≤ m2 ∧ (∀ b, (Value.slice la x.locks.length lc).ownBlock = some b → b < m2) ∧ PrsOwnH w m2 hi x.procs (.slice pa x.procs.length pc)
theorem PFull.h {w : World} {lo : Nat} {x : PTree} {v : Value} (h : PFull w lo x v) : PFullH w lo w.heap.size x v := by
  obtain ⟨ga, gc, la, lc, pa, pc, m1, m2, rfl, _, _, h1, h2, h3, h4, h5, h6, cs, m, hi, g1, g2, g3, g4, g5⟩ := h
  exact ⟨ga, gc, la, lc, pa, pc, m1, m2, rfl, h1, h2, h3, h4, h5, h6, cs, m, g1, g2, g3, Nat.le_refl _, g5.wideR g4⟩
theorem PFullH.le {w : World} {lo hi : Nat} {x : PTree} {v : Value} (h : PFullH w lo hi x v) : lo ≤ hi ∧ hi ≤ w.heap.size := by
  obtain ⟨ga, gc, la, lc, pa, pc, m1, m2, rfl, h1, h2, h3, h4, h5, h6, cs, m, g1, g2, g3, g4, g5⟩ := h
  have := g5.le
  exact ⟨by omega, g4⟩
theorem PFullH.keep {w w' : World} {lo hi : Nat} {x : PTree} {v : Value} (h : PFullH w lo hi x v) (hs : Same lo hi w w') (hw : hi ≤ w'.heap.size) : PFullH w' lo hi x v := by
  obtain ⟨ga, gc, la, lc, pa, pc, m1, m2, rfl, h1, h2, h3, h4, h5, h6, cs, m, g1, g2, g3, g4, g5⟩ := h
  have := g5.le
  exact ⟨ga, gc, la, lc, pa, pc, m1, m2, rfl, row_same h1 (fun b hb => hs b (h1.lt b hb).1 (by have := h3 b hb; omega)), h2, h3, row_same h4 (fun b hb => hs b (by have := (h4.lt b hb).1; omega) (by have := h6 b hb; omega)), h5, h6, PrsOwnH.keep ⟨cs, m, g1, g2, g3, g4, g5⟩ (fun b a1 a2 => hs b (by omega) a2) hw⟩
set_option maxHeartbeats 800000 in
theorem markPrs_any (ps : List PrT) (v : Value) (w : World) (base hi k : Nat) (hk1 : 1 ≤ k) (hkb : k + mkPrs ps ≤ 4611686018427387904) (h : PrsOwnH w base hi ps v) :
    Calls Try.prog 85 #[v, .int .i64 (k : Int)] w fun e w' => e = .returned (.int .i64 ((k + mkPrs ps : Nat) : Int)) ∧ Marks base hi w w' := by
  obtain ⟨cs, m, hrow, hbm, hvm, hhi, hpr⟩ := h
  have hmh := hpr.le
  have hsm := row_small hrow
  unfold maxLen at hsm
  obtain ⟨aa, cap, rfl, haa⟩ := row_shape hrow
  have HB := Lib.hid hkb
  have HA := Lib.hid haa
  have HR := Lib.hid hrow
  have HPR : Hid (PrI w m hi (ps.drop 0) cs) := hpr
  have HVM := Lib.hid hvm
  obtain ⟨C, hC⟩ : ∃ C, C = mkPrs ps := ⟨_, rfl⟩
  have HCC := Lib.hid hC
  clear hrow hpr hvm haa hC
  go_enter Try.func85, Try.ntmps85
  go_wp2
  go_loopw [1, 5] (fun x i wr => ∃ (j kk mj : Nat) (pre rest : List Value), j ≤ ps.length ∧ i = .int .i64 j ∧ x = .int .i64 kk ∧ 1 ≤ kk ∧ Hid (kk + mkPrs (ps.drop j) = k + mkPrs ps) ∧ Hid (pre.length = j * 2) ∧ m ≤ mj ∧ Hid (wr.ownsRow base 104 2 (.slice aa ps.length cap) ps.length (pre ++ rest)) ∧ Hid (PrI wr mj hi (ps.drop j) rest) ∧ Hid (Marks base hi w wr))
    (fun _ i _ => ps.length - (intOf i).toNat)
  case atStart => exact ⟨0, k, m, [], cs, Nat.zero_le _, rfl, rfl, hk1, rfl, rfl, Nat.le_refl _, HR.out, HPR.out, Marks.refl _ _ _⟩
  case round =>
    obtain ⟨j, kk, mj, pre, rest, hj, rfl, rfl, hkk1, hkc, hpre, hmj, hrw, hpri, hmk⟩ := hrel
    by_cases hlt : j < ps.length
    · obtain ⟨g, rfl⟩ := HA.out (by omega)
      have hd : ps.drop j = ps[j] :: ps.drop (j + 1) := List.drop_eq_getElem_cons hlt
      have hpri2 := hpri.out
      have hkc2 := hkc.out
      rw [hd] at hpri2 hkc2
      rw [mkPrs] at hkc2
      obtain ⟨ba, bc, rest2, mid, rfl, hn, hS, hP⟩ := hpri2
      have hle1 := hS.le
      have hle2 := hP.le
      have hgb := (hrw.out.lt g rfl)
      have hgm := HVM.out g rfl
      have hw2 : w.heap.size ≤ wr.heap.size := hmk.out.size
      have hcell : ∀ i, i < 2 → wr.cell? ⟨g, j * 2 + i, none⟩ = (pre ++ (Value.string ps[j].name :: Value.slice ba ps[j].body.length bc :: rest2))[j * 2 + i]? := fun i hi => hrw.out.cellAt (j * 2 + i) (by omega)
      have c0 : wr.cell? ⟨g, j * 2, none⟩ = some (.string ps[j].name) := by
        have := hcell 0 (by omega)
        rw [Nat.add_zero] at this
        rw [this, List.getElem?_append_right (by rw [hpre.out]; omega), hpre.out]; simp
      have c1 : wr.cell? ⟨g, j * 2 + 1, none⟩ = some (.slice ba ps[j].body.length bc) := by
        rw [hcell 1 (by omega), List.getElem?_append_right (by rw [hpre.out]; omega), hpre.out]; simp
      have hB := HB.out
      have CT := Lib.hid (markText_any kk wr hkk1 (by omega))
      have HS := Lib.hid hS
      have HP := Lib.hid hP
      have HKC : Hid (kk + 1 + mkXS ps[j].body + mkPrs (ps.drop (j + 1)) = k + mkPrs ps) := by show _ = _; omega
      have hb3 : (kk + 1) + mkXS ps[j].body ≤ 4611686018427387904 := by omega
      clear hcell hS hP hkc2 hd
      go_wp2_with fail
      refine CT.out.mono ?_
      rintro e w1 ⟨rfl, hg1⟩
      have HG1 := Lib.hid hg1
      have R1 := Lib.hid (row_same hrw.out (w' := w1) (fun b hb => hg1.block b (hrw.out.lt b hb).2 (by simp)))
      have d0 : w1.cell? ⟨g, j * 2, none⟩ = some (.string ps[j].name) := by rw [← c0]; exact World.cell?_of_block (hg1.block g hgb.2 (by simp))
      have d1 : w1.cell? ⟨g, j * 2 + 1, none⟩ = some (.slice ba ps[j].body.length bc) := by rw [← c1]; exact World.cell?_of_block (hg1.block g hgb.2 (by simp))
      have f0 := R1.out.frozenAt (j * 2)
      have hs1 := hg1.size
      have hne : (⟨g, j * 2, none⟩ : Addr) ≠ ⟨g, j * 2 + 1, none⟩ := by intro e; injection e with _ e2; omega
      obtain ⟨R2, G2⟩ := R1.out.stored (j * 2) (.string (markB kk))
      rw [set_mid _ _ _ _ _ hpre.out] at R2
      obtain ⟨w2, hw2e⟩ : ∃ w2, w2 = w1.setCell ⟨g, j * 2, none⟩ (.string (markB kk)) := ⟨_, rfl⟩
      rw [← hw2e] at R2 G2
      have HR2 := Lib.hid R2
      have HG2 := Lib.hid G2
      have e1 : w2.cell? ⟨g, j * 2 + 1, none⟩ = some (.slice ba ps[j].body.length bc) := by
        have := R2.cellAt (j * 2 + 1) (by omega)
        rw [this, List.getElem?_append_right (by rw [List.length_append, hpre.out]; simp), List.length_append, hpre.out]; simp
      have hs2 : w1.heap.size ≤ w2.heap.size := G2.size
      have HS2 := Lib.hid (HS.out.same (w' := w2) (fun b h1 h2 => (HG2.out.block b (by omega) (by simp; omega)).trans (hg1.block b (by omega) (by simp))))
      have HP2 := Lib.hid (HP.out.same (w' := w2) (fun b h1 h2 => (HG2.out.block b (by omega) (by simp; omega)).trans (hg1.block b (by omega) (by simp))))
      have CB := Lib.hid (markS_any ps[j].body (.slice ba ps[j].body.length bc) w2 mj mid (kk + 1) (by omega) hb3 (by omega) HS2.out)
      have HW2 := Lib.hid hw2e
      clear hg1 R2 G2 hw2e c0 c1
      go_wp2_with fail
      rw [← HW2.out]
      rw [show ((kk : Int) + 1) = ((kk + 1 : Nat) : Int) from by omega]
      refine CB.out.mono ?_
      rintro e w3 ⟨rfl, hm3⟩
      have HM3 := Lib.hid hm3
      have R3 := Lib.hid (row_same HR2.out (w' := w3) (fun b hb => by cases hb; exact hm3.block g (HR2.out.lt g rfl).2 (by omega)))
      have HP3 := Lib.hid (HP2.out.same (w' := w3) (fun b h1 h2 => hm3.block b (by omega) (by omega)))
      have HMk : Hid (Marks base hi w w3) := ((hmk.out.trans (Marks.of_grown HG1.out (fun b hb => by cases hb))).trans (Marks.of_grown HG2.out (fun b hb => by cases hb; exact ⟨hgb.1, by omega⟩))).trans (HM3.out.wide (by omega) (by omega))
      have HPL : Hid ((pre ++ [Value.string (markB kk)] ++ [Value.slice ba ps[j].body.length bc]).length = (j + 1) * 2) := by show _ = _; rw [List.length_append, List.length_append, hpre.out]; simp; omega
      have HR3 : Hid (w3.ownsRow base 104 2 (.slice (some ⟨g, 0, none⟩) ps.length cap) ps.length ((pre ++ [Value.string (markB kk)] ++ [Value.slice ba ps[j].body.length bc]) ++ rest2)) := by
        show World.ownsRow _ _ _ _ _ _ _
        have := R3.out
        simpa using this
      clear hm3 d0 d1 e1 f0
      go_wp2
      go_roundw
      case rel => exact ⟨j + 1, kk + 1 + mkXS ps[j].body, mid, _, rest2, by omega, by go_num, by go_num, by omega, HKC.out, HPL.out, by omega, HR3.out, HP3.out, HMk.out⟩
      case measure => simp [intOf]; omega
    · have hkc2 := hkc.out
      rw [List.drop_of_length_le (by omega), mkPrs, Nat.add_zero] at hkc2
      have HE := Lib.hid hkc2
      go_wp2
      go_ret
      exact ⟨by rw [HE.out]; rfl, hmk.out⟩
theorem markProg_any (x : PTree) (v : Value) (w : World) (lo hi k : Nat) (hk1 : 1 ≤ k) (hkb : k + mkP x ≤ 4611686018427387904) (h : PFullH w lo hi x v) :
    Calls Try.prog 41 #[v, .int .i64 (k : Int)] w fun e w' => e = .returned (.int .i64 ((k + mkP x : Nat) : Int)) ∧ Marks lo hi w w' := by
  have hhw := h.le.2
  obtain ⟨ga, gc, la, lc, pa, pc, m1, m2, rfl, h1, hl1, hq1, h2, hl2, hq2, h3⟩ := h
  have hm2 : m2 ≤ hi := by obtain ⟨_, m, _, g2, _, _, g5⟩ := h3; have := g5.le; omega
  have hkb2 : k + (x.globals.length + (x.locks.length + mkPrs x.procs)) ≤ 4611686018427387904 := hkb
  have X0 := Lib.hid (Box3.new w (.slice ga x.globals.length gc) (.slice la x.locks.length lc) (.slice pa x.procs.length pc) 69)
  have hs0 : (w.alloc (.cells #[.slice ga x.globals.length gc, .slice la x.locks.length lc, .slice pa x.procs.length pc] 69)).heap.size = w.heap.size + 1 := by simp
  have HX : Hid ((w.alloc (.cells #[.slice ga x.globals.length gc, .slice la x.locks.length lc, .slice pa x.procs.length pc] 69)).heap[w.heap.size]? = some (.cells #[.slice ga x.globals.length gc, .slice la x.locks.length lc, .slice pa x.procs.length pc] 69 (0, 0))) := heap_alloc_new _ _
  have hb0 := (Below.refl w.heap.size w).alloc (Nat.le_refl _) (.cells #[.slice ga x.globals.length gc, .slice la x.locks.length lc, .slice pa x.procs.length pc] 69)
  have R1 := Lib.hid (row_below h1 hb0)
  have R2 := Lib.hid (row_below h2 hb0)
  have R3 := Lib.hid (h3.keep (fun b _ g2 => hb0.block b (by omega)) (by rw [hs0]; omega))
  have H1 := Lib.hid h1
  have H2 := Lib.hid h2
  have HQ1 := Lib.hid hq1
  have HQ2 := Lib.hid hq2
  have HK : Hid (k + mkP x = k + x.globals.length + x.locks.length + mkPrs x.procs) := by show _ = _; unfold mkP; omega
  obtain ⟨W1, hW1⟩ : ∃ w1, w1 = w.alloc (.cells #[.slice ga x.globals.length gc, .slice la x.locks.length lc, .slice pa x.procs.length pc] 69) := ⟨_, rfl⟩
  rw [← hW1] at R1 R2 R3 HX X0 hb0 hs0
  have HB0 := Lib.hid hb0
  obtain ⟨p0, p1, p2⟩ := X0.out
  rw [hW1] at p0 p1 p2
  have HW1 := Lib.hid hW1
  clear h1 h2 h3 hq1 hq2 hW1 hb0
  go_enter Try.func41, Try.ntmps41
  go_wp2_with fail
  rw [← HW1.out] at p0 p1 p2
  rw [← HW1.out]
  refine (markStrings_any _ lo x.globals.length k x.globals W1 R1.out hk1 (by omega)).mono ?_
  rintro e w2 ⟨rfl, _, hg2⟩
  have G2 := Lib.hid hg2
  have hbl2 : ∀ b, b < W1.heap.size → (m1 ≤ b) → w2.heap[b]? = W1.heap[b]? := fun b h1 h2 => hg2.block b h1 (fun e => by have := HQ1.out b e.symm; omega)
  have S2 := Lib.hid (row_same R2.out (w' := w2) (fun b hb => hbl2 b (R2.out.lt b hb).2 (R2.out.lt b hb).1))
  have hs2 := hg2.size
  have S3 := Lib.hid (R3.out.keep (w' := w2) (fun b h1 h2 => hbl2 b (by omega) (by omega)) (by omega))
  have p1b : w2.cell? ⟨w.heap.size, 1, none⟩ = some (.slice la x.locks.length lc) := by
    rw [← p1]
    exact World.cell?_of_block (hg2.block w.heap.size (by omega) (fun e => by have := (H1.out.lt _ e.symm).2; omega))
  have p2b : w2.cell? ⟨w.heap.size, 2, none⟩ = some (.slice pa x.procs.length pc) := by
    rw [← p2]
    exact World.cell?_of_block (hg2.block w.heap.size (by omega) (fun e => by have := (H1.out.lt _ e.symm).2; omega))
  clear hg2 hbl2 p0 p1 p2
  go_wp2_with fail
  refine (markStrings_any _ m1 x.locks.length (k + x.globals.length) x.locks w2 S2.out (by omega) (by omega)).mono ?_
  rintro e w3 ⟨rfl, _, hg3⟩
  have G3 := Lib.hid hg3
  have hs3 := hg3.size
  have T3 := Lib.hid (S3.out.keep (w' := w3) (fun b h1 h2 => hg3.block b (by omega) (fun e => by have := HQ2.out b e.symm; omega)) (by omega))
  have p2c : w3.cell? ⟨w.heap.size, 2, none⟩ = some (.slice pa x.procs.length pc) := by
    rw [← p2b]
    exact World.cell?_of_block (hg3.block w.heap.size (by omega) (fun e => by have := (H2.out.lt _ e.symm).2; omega))
  clear hg3 p1b p2b
  go_wp2_with fail
  refine (markPrs_any x.procs _ w3 m2 hi (k + x.globals.length + x.locks.length) (by omega) (by omega) T3.out).mono ?_
  rintro e w4 ⟨rfl, hm4⟩
  have M4 := Lib.hid hm4
  clear hm4 p2c
  go_wp2
  go_ret
  refine ⟨by rw [HK.out]; rfl, ⟨M4.out.os.trans (G3.out.os.trans (G2.out.os.trans HB0.out.os)), M4.out.tape.trans (G3.out.tape.trans (G2.out.tape.trans HB0.out.tape)), M4.out.output.trans (G3.out.output.trans (G2.out.output.trans HB0.out.output)), Nat.le_trans HB0.out.size (Nat.le_trans G2.out.size (Nat.le_trans G3.out.size M4.out.size)), fun b hb ho => ?_⟩⟩
  have z1 := HB0.out.size
  have z2 := G2.out.size
  have z3 := G3.out.size
  exact (M4.out.block b (by omega) (by omega)).trans ((G3.out.block b (by omega) (fun e => by have := (H2.out.lt b e.symm).1; have := HQ2.out b e.symm; omega)).trans ((G2.out.block b (by omega) (fun e => by have := (H1.out.lt b e.symm).1; have := HQ1.out b e.symm; omega)).trans (HB0.out.block b hb)))
end Go.Proofs.Ytmhhghdfgdhljaa.Trm
/- The law of UnusedIn out of two contracts, walked. Conditions: the argument reads as a program; both sides answer the same list, in new memory. -/
namespace Go.Proofs.Ytmhhghdfgdhljaa.FnExactUnusedInW
open Go.RowKit Own Trm
def Lists (rs : List ByteArray) (w : World) (e : Ending) (w' : World) : Prop := ∃ ov, e = .returned ov ∧ w'.ownsRow w.heap.size 9 1 ov rs.length (strV rs) ∧ Below w.heap.size w w'
theorem row_up {w w' : World} {base : Nat} {e : TypeId} {size : Nat} {v : Value} {n : Nat} {xs : List Value} (h : w.ownsRow base e size v n xs) (hb : Below w.heap.size w w') : w'.ownsRow base e size v n xs := row_below h hb
theorem row_marks {w w' : World} {base : Nat} {e : TypeId} {size : Nat} {v : Value} {n lo hi : Nat} {xs : List Value} (h : w.ownsRow base e size v n xs) (hm : Marks lo hi w w') (ho : ∀ b, v.ownBlock = some b → b < lo ∨ hi ≤ b) : w'.ownsRow base e size v n xs :=
  row_same h fun b hb => hm.block b (h.lt b hb).2 (ho b hb)
theorem row_other {w w' : World} {base : Nat} {e : TypeId} {size : Nat} {v : Value} {n : Nat} {xs : List Value} {g : Option Nat} (h : w.ownsRow base e size v n xs) (hg : w.grownBy w' g) (ho : ∀ b, v.ownBlock = some b → g ≠ some b) : w'.ownsRow base e size v n xs :=
  row_same h fun b hb => hg.block b (h.lt b hb).2 (fun e1 => ho b hb e1.symm)
set_option maxHeartbeats 1600000 in
theorem core (x : PTree) (v : Value) (w : World) (rs : List ByteArray) (hl : PLies w x v) (hz : szP x ≤ 1048576)
    (c1 : ∀ v w, POwn w x v → Calls Try.prog 42 #[v] w (Lists rs w))
    (c2 : ∀ v w, POwn w x v → Calls Try.prog 43 #[v] w (Lists rs w))
    (cm : ∀ v b w, w.ownsRow b 9 1 v rs.length (strV rs) → Calls Try.prog 32 #[v, .int .i64 1] w fun e w' => e = .returned (.int .i64 (1 + (rs.length : Int))) ∧ w'.ownsRow b 9 1 v rs.length (strV (marks 1 rs.length)) ∧ w.grownBy w' v.ownBlock)
    (ch : ∀ v b w, w.ownsRow b 9 1 v rs.length (strV (marks 1 rs.length)) → Calls Try.prog 33 #[v, .int .i64 1] w fun e w' => e = .returned (.int .i64 (1 + (rs.length : Int))) ∧ w.grownBy w' none) :
    Calls Try.prog 10 #[v] w fun e w' => e = .returned (.bool true) ∧ Below w.heap.size w w' := by
  have C1 := Lib.hid c1
  have C2 := Lib.hid c2
  have CM := Lib.hid cm
  have CH := Lib.hid ch
  have CS := Lib.hid (fun y hk => szProg_any x v y 1048576 (by omega) (hl.keep hk))
  have CT := Lib.hid (fun y hk => toProg_any x v y hz (hl.keep hk))
  have CTF := Lib.hid (fun y hk => toProgF_any x v y hz (hl.keep hk))
  have CE := Lib.hid (eqProg_any x)
  have CK := Lib.hid (fun v w lo hi hh => markProg_any x v w lo hi 1 (Nat.le_refl _) (by have := mkP_le x; omega) hh)
  have HZ := Lib.hid (leftR_yes hz)
  have hcn : (0 : Int) ≤ ((1 + mkP x : Nat) : Int) := by omega
  have hz2 : 0 ≤ ((1048576 - szP x : Nat) : Int) := by omega
  obtain ⟨ga, gc, la, lc, pa, pc, rfl⟩ := hl.shape
  have X0 := Lib.hid (Box3.new w (.slice ga x.globals.length gc) (.slice la x.locks.length lc) (.slice pa x.procs.length pc) 64)
  clear c1 c2 cm ch hz hl
  go_enter Try.func10, Try.ntmps10
  go_wp2_with fail
  refine (CS.out _ (keeps_alloc _ _)).mono ?_
  rintro e w1 ⟨rfl, hb⟩
  rw [HZ.out]
  have B1 := Lib.hid (below_box1 hb)
  have X1 := Lib.hid (X0.out.keep (keeps_below hb))
  clear hb X0
  obtain ⟨p0, p1, p2⟩ := X1.out
  go_wp2_with fail
  refine (CT.out _ (keeps_below B1.out)).mono ?_
  rintro e w2 ⟨v2, rfl, ho, hb⟩
  have O2 := Lib.hid ho
  obtain ⟨_, _, _, _, _, _, rfl⟩ := ho.lies.shape
  have B2 := Lib.hid (B1.out.trans (hb.mono B1.out.size))
  have X2 := Lib.hid (X1.out.keep (keeps_below hb))
  clear ho hb p0 p1 p2
  go_wp2_with fail
  refine (C1.out _ _ O2.out).mono ?_
  rintro e w3 ⟨sv, rfl, r3, hb⟩
  have B3 := Lib.hid (B2.out.trans (hb.mono B2.out.size))
  have X3 := Lib.hid (X2.out.keep (keeps_below hb))
  have R3 := Lib.hid r3
  clear hb r3
  obtain ⟨p0, p1, p2⟩ := X3.out
  go_wp2_with fail
  refine (CTF.out _ (keeps_below B3.out)).mono ?_
  rintro e w4 ⟨v4, rfl, hf, hb⟩
  have ho := hf.own
  obtain ⟨ua, uc, da, dc, fa, fc, rfl⟩ := ho.lies.shape
  have HO4 := Lib.hid ho
  have HF4 := Lib.hid hf.h
  have H34 := Lib.hid hb
  have B4 := Lib.hid (B3.out.trans (hb.mono B3.out.size))
  have X4 := Lib.hid (X3.out.keep (keeps_below hb))
  have HW3 : Hid (w.heap.size ≤ w3.heap.size) := B3.out.size
  clear ho hb hf p0 p1 p2
  have Y4 := Lib.hid (Box3.new w4 (.slice ua x.globals.length uc) (.slice da x.locks.length dc) (.slice fa x.procs.length fc) 69)
  have BA := Lib.hid ((Below.refl w4.heap.size w4).alloc (Nat.le_refl _) (.cells #[.slice ua x.globals.length uc, .slice da x.locks.length dc, .slice fa x.procs.length fc] 69))
  have A4 := Lib.hid (HO4.out.below BA.out)
  go_wp2_with fail
  refine (C2.out _ _ A4.out).mono ?_
  rintro e w6 ⟨gv, rfl, r6, hb⟩
  have H46 : Hid (Below w4.heap.size w4 w6) := BA.out.trans (hb.mono BA.out.size)
  have H36 := Lib.hid (H34.out.trans (H46.out.mono H34.out.size))
  have S6 := Lib.hid (row_up R3.out H36.out)
  have G6 : Hid (w6.ownsRow w4.heap.size 9 1 gv rs.length (strV rs)) := World.ownsRow.mono r6 (by simp)
  have B6 := Lib.hid (B4.out.trans (H46.out.mono B4.out.size))
  have X6 := Lib.hid (X4.out.keep (keeps_below H46.out))
  have Y6 := Lib.hid (Y4.out.keep (keeps_below hb))
  have L6 := Lib.hid (A4.out.lies.keep (keeps_below hb))
  have hs4 : (w4.alloc (.cells #[.slice ua x.globals.length uc, .slice da x.locks.length dc, .slice fa x.procs.length fc] 69)).heap.size = w4.heap.size + 1 := by simp
  have hs46 : w4.heap.size + 1 ≤ w6.heap.size := by have := hb.size; rw [hs4] at this; exact this
  have GY : Hid (∀ b, gv.ownBlock = some b → w4.heap.size < b) := fun b hb => by have := (r6.lt b hb).1; rw [hs4] at this; omega
  clear r6 hb hs4
  go_wp2_with fail
  refine (eqStrs_at _ _ rs _ (strs_of_row G6.out) (strs_of_row S6.out)).mono ?_
  rintro e w7 ⟨rfl, hb⟩
  have H67 := Lib.hid hb
  have B7 := Lib.hid (B6.out.trans (hb.mono B6.out.size))
  have X7 := Lib.hid (X6.out.keep (keeps_below hb))
  have Y7 := Lib.hid (Y6.out.keep (keeps_below hb))
  have L7 := Lib.hid (L6.out.keep (keeps_below hb))
  clear hb
  obtain ⟨p0, p1, p2⟩ := X7.out
  obtain ⟨q0, q1, q2⟩ := Y7.out
  go_wp2
  go_region_with (first
    | (go_at_call 36; refine (CT.out _ ((keeps_below B7.out).trans (keeps_drew _))).mono ?_; rintro e w14 ⟨v14, rfl, ho, hb⟩; have HO14 := Lib.hid ho.lies; have HB14 := Lib.hid hb; have Y14 := Y7.out.keep ((keeps_drew _).trans (keeps_below hb)); clear ho hb; obtain ⟨r0, r1, r2⟩ := Y14)
    | (go_at_call 38; refine (CE.out _ _ _ (L7.out.keep ((keeps_drew _).trans (keeps_below HB14.out))) HO14.out).mono ?_; rintro e w8 ⟨rfl, hb⟩; have HB8 := Lib.hid hb; clear hb))
  all_goals
    have B78 : Below w7.heap.size w7 w8 := (below_of_drew HB14.out).trans (HB8.out.mono (below_of_drew HB14.out).size)
    have H68 := Lib.hid (H67.out.trans (B78.mono H67.out.size))
    have H48 := Lib.hid (H46.out.trans (H68.out.mono H46.out.size))
    have B8 := Lib.hid (B6.out.trans (H68.out.mono B6.out.size))
    have G8 := Lib.hid (row_up G6.out H68.out)
    have S8 := Lib.hid (row_up S6.out H68.out)
    have X8 := Lib.hid (X7.out.keep (keeps_below B78))
    have Y8 := Lib.hid (Y7.out.keep (keeps_below B78))
    have O8 := Lib.hid (HF4.out.keep (fun b _ h2 => H48.out.block b h2) H48.out.size)
    clear B78 r0 r1 r2 p0 p1 p2 q0 q1 q2
    obtain ⟨q0, q1, q2⟩ := Y8.out
    go_wp2_with fail
    refine (CK.out _ _ w3.heap.size w4.heap.size O8.out).mono ?_
    rintro e w9 ⟨rfl, hm⟩
    have B9 := Lib.hid (B8.out.trans ((hm.below (Nat.le_trans H34.out.size H48.out.size)).mono HW3.out))
    have G9 := Lib.hid (row_marks G8.out hm (fun b hb => .inr (G6.out.lt b hb).1))
    have S9 := Lib.hid (row_marks S8.out hm (fun b hb => .inl (R3.out.lt b hb).2))
    have X9 : Hid (Box3 w9 w.heap.size (.slice ga x.globals.length gc) (.slice la x.locks.length lc) (.slice pa x.procs.length pc)) := by
      have hlt : w.heap.size < w8.heap.size := cell_lt X8.out.1
      have hlt3 : w.heap.size < w3.heap.size := cell_lt X3.out.1
      have hbk : w9.heap[w.heap.size]? = w8.heap[w.heap.size]? := hm.block _ hlt (.inl hlt3)
      exact ⟨(World.cell?_of_block hbk).trans X8.out.1, (World.cell?_of_block hbk).trans X8.out.2.1, (World.cell?_of_block hbk).trans X8.out.2.2⟩
    clear hm q0 q1 q2
    go_wp2_with fail
    refine (eqStrs_at _ _ rs _ (strs_of_row G9.out) (strs_of_row S9.out)).mono ?_
    rintro e w10 ⟨rfl, hb⟩
    have B10 := Lib.hid (B9.out.trans (hb.mono B9.out.size))
    have G10 := Lib.hid (row_up G9.out hb)
    have S10 := Lib.hid (row_up S9.out hb)
    have X10 := Lib.hid (X9.out.keep (keeps_below hb))
    clear hb
    go_wp2_with fail
    refine (CM.out _ _ _ G10.out).mono ?_
    rintro e w11 ⟨rfl, m11, hg⟩
    have M11 := Lib.hid m11
    have B11 := Lib.hid (B10.out.grown hg B10.out.size (fun b hb => Nat.le_trans (Nat.le_trans HW3.out H34.out.size) (G6.out.lt b hb).1))
    have S11 := Lib.hid (row_other S10.out hg (fun b hb e1 => by have := (G6.out.lt b e1).1; have := (R3.out.lt b hb).2; have := H34.out.size; omega))
    have X11 : Hid (Box3 w11 w.heap.size (.slice ga x.globals.length gc) (.slice la x.locks.length lc) (.slice pa x.procs.length pc)) := by
      have hlt : w.heap.size < w10.heap.size := cell_lt X10.out.1
      have hlt3 : w.heap.size < w3.heap.size := cell_lt X3.out.1
      have hbk : w11.heap[w.heap.size]? = w10.heap[w.heap.size]? := hg.block _ hlt (fun e => by have := (G6.out.lt _ e.symm).1; have := H34.out.size; omega)
      exact ⟨(World.cell?_of_block hbk).trans X10.out.1, (World.cell?_of_block hbk).trans X10.out.2.1, (World.cell?_of_block hbk).trans X10.out.2.2⟩
    clear m11 hg
    go_wp2_with fail
    refine (CH.out _ _ _ M11.out).mono ?_
    rintro e w12 ⟨rfl, hg⟩
    have M12 := Lib.hid (row_other M11.out hg (fun _ _ h => by cases h))
    have S12 := Lib.hid (row_other S11.out hg (fun _ _ h => by cases h))
    have B12 := Lib.hid (B11.out.grown hg B11.out.size (fun _ h => by cases h))
    have X12 : Hid (Box3 w12 w.heap.size (.slice ga x.globals.length gc) (.slice la x.locks.length lc) (.slice pa x.procs.length pc)) := by
      have hbk : w12.heap[w.heap.size]? = w11.heap[w.heap.size]? := hg.block _ (cell_lt X11.out.1) (by simp)
      exact ⟨(World.cell?_of_block hbk).trans X11.out.1, (World.cell?_of_block hbk).trans X11.out.2.1, (World.cell?_of_block hbk).trans X11.out.2.2⟩
    clear hg
    obtain ⟨p0, p1, p2⟩ := X12.out
    go_wp2_with fail
    refine (CT.out _ (keeps_below B12.out)).mono ?_
    rintro e w13 ⟨v13, rfl, o13, hb⟩
    have O13 := Lib.hid o13
    obtain ⟨_, _, _, _, _, _, rfl⟩ := o13.lies.shape
    have M13 := Lib.hid (row_up M12.out hb)
    have S13 := Lib.hid (row_up S12.out hb)
    have B13 := Lib.hid (B12.out.trans (hb.mono B12.out.size))
    clear o13 hb p0 p1 p2
    go_wp2_with fail
    refine (C2.out _ _ O13.out).mono ?_
    rintro e w15 ⟨hv, rfl, r15, hb⟩
    have M15 := Lib.hid (row_up M13.out hb)
    have S15 := Lib.hid (row_up S13.out hb)
    have R15 := Lib.hid r15
    have B15 := Lib.hid (B13.out.trans (hb.mono B13.out.size))
    clear hb r15
    go_wp2_with fail
    refine (eqStrs_at _ _ rs _ (strs_of_row R15.out) (strs_of_row S15.out)).mono ?_
    rintro e w16 ⟨rfl, hb⟩
    have M16 := Lib.hid (row_up M15.out hb)
    have B16 := Lib.hid (B15.out.trans (hb.mono B15.out.size))
    clear hb
    go_wp2_with fail
    refine (CH.out _ _ _ M16.out).mono ?_
    rintro e w17 ⟨rfl, hg⟩
    have B17 := Lib.hid (B16.out.grown hg B16.out.size (fun _ h => by cases h))
    clear hg
    go_wp2_with fail
    go_ret
    exact ⟨rfl, B17.out⟩
theorem big (x : PTree) (v : Value) (w : World) (hl : PLies w x v) (hz : 1048576 < szP x) :
    Calls Try.prog 10 #[v] w fun e w' => e = .returned (.bool true) ∧ Below w.heap.size w w' := by
  have CS := Lib.hid (fun y hk => szProg_any x v y 1048576 (by omega) (hl.keep hk))
  obtain ⟨ga, gc, la, lc, pa, pc, rfl⟩ := hl.shape
  have HZ := Lib.hid (leftR_no (a := 1048576) (n := szP x) (by omega))
  clear hl hz
  go_enter Try.func10, Try.ntmps10
  go_wp2_with fail
  refine (CS.out _ (keeps_alloc _ _)).mono ?_
  rintro e w1 ⟨rfl, hb⟩
  rw [HZ.out]
  have B1 := Lib.hid (below_box1 hb)
  clear hb
  go_wp2
  go_ret
  exact ⟨rfl, B1.out⟩
end Go.Proofs.Ytmhhghdfgdhljaa.FnExactUnusedInW
/- The law of UnusedIn, walked. Conditions: the argument reads. -/
namespace Go.Proofs.Ytmhhghdfgdhljaa.FnExactUnusedInW
open Go.RowKit Own Trm
theorem unuIn_le (x : PTree) : (unuIn x).length ≤ x.globals.length + x.locks.length := by
  rw [unuIn_us]
  split
  · rw [← List.length_append]
    exact List.length_filter_le ..
  · simp
set_option maxRecDepth 100000 in
theorem walk {H : Type} {enc : TypeId × Value → H} {base b0 : Nat} {spare : Nat → Bool} {held : Bool} {r : Reach} {d : DataW H} {p : List MemPlace} (v : Value) (w : World) (ok : Value.okWide Try.prog w r b0 64 v) (k : DataW.Trod enc Try.prog w base spare held 64 v d p) :
    Calls Try.prog 10 #[v] w fun e w' => e = .returned (.bool true) ∧ Below w.heap.size w w' := by
  obtain ⟨x, hl⟩ := plies_of_Trod ok k
  by_cases hz : szP x ≤ 1048576
  · have hn := unuIn_le x
    have hs : x.globals.length + x.locks.length ≤ 1048576 := by unfold szP at hz; omega
    exact core x v w (unuIn x) hl hz (fun v w h => specUnuIn_any x v w hz h.lies h.room) (fun v w h => implUnuIn_any x v w hz h)
      (fun v b w h => mark_one v b _ _ w h (by omega)) (fun v b w h => held_one v b _ w h (by omega))
  · exact big x v w hl (by omega)
end Go.Proofs.Ytmhhghdfgdhljaa.FnExactUnusedInW
