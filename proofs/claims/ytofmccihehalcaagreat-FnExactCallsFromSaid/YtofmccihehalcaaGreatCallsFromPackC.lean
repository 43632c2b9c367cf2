/- The program's CallsFrom, walked. Conditions: the code lies in memory; at most 2 to the 20 names and terms. With what it stands on, in one text. -/
import Derived.Test.YtofmccihehalcaaGreatCallsFromPackD
import Derived.Test.YtofmccihehalcaaGreatCallsFromPackB
import Derived.Maps.OwnIn
import Derived.Shelf.AbstractIn
import Derived.Test.YtofmccihehalcaaGreatFlowNextS
import Derived.Lib.OwnBridge
import Derived.Maps.OwnSet
import Derived.Carry
import Derived.Deep.RegionWith
import Derived.Deep.DeepCutAuto
/- What comes next, collected in a list by the library, and by the program's NextOf, walked. Conditions: the code lies in memory; at most 2 to the 20 names and terms. -/
namespace Go.Proofs.YtofmccihehalcaaGreat.Trm
open Go.RowKit Go.Proofs.YtofmccihehalcaaGreat.Own Go.Shelf
attribute [local go_sem] Oper.semAt_some
theorem KIn.lies {w : World} {x : KTree} {v : Value} (h : KIn w x v) : KLies w x v := by
  obtain ⟨ga, gc, la, lc, pa, pc, ea, ec, ia, ic, rfl, h1, h2, h3, h4, h5, _⟩ := h
  exact ⟨ga, gc, la, lc, pa, pc, ea, ec, ia, ic, rfl, h1, h2, h3, h4, h5⟩
/-- The iterator's contract. -/
theorem next_stops (F : Fence) (m : Nat) (hF : F.fn 100) (hro : F.round = none) (hm : 1 ≤ m) (y : InsT) (i n : Nat) (gv lv pv ev : Value) (g o ic Kb Ab : Nat) (w : World) (hi : i < n) (hn : n ≤ 1500) (hto : y.op = 2 ∨ y.op = 3 → 0 ≤ y.to)
    (hk : Box5 w Kb gv lv pv ev (.slice (some ⟨g, o, none⟩) n ic)) (ha : w.cell? ⟨Ab, 0, none⟩ = some (.int .i64 (i : Int))) (hel : IElem w g (o + i * 7) y) :
    SeqStopsK F m Tryz.prog 100 #[.pointer (some ⟨Kb, 0, none⟩), .pointer (some ⟨Ab, 0, none⟩)] (fun x : Nat => #[Value.int .i64 (x : Int)]) (KpN Ab) (fun ys => ys = nextN i y) (fun pre => pre <+: nextN i y) 2 w := fun l J Jx W hW hA _ hY h0 => by
  obtain ⟨op, a, t, u⟩ := y
  have kW := keeps_below hW
  obtain ⟨_, _, _, ta, tc, c0, c1, c2, c3, c4, c5, c6, _⟩ := hel.keep kW
  exact next1_in F m hF hro hm op a u t i n gv lv pv ev g o ic Kb Ab l ta tc J Jx W hi hn hto hA (fun pre z W1 hj _ hl => hY pre z W1 hj hl) (hk.keep kW) (kW _ _ ha) c0 c1 c2 c3 c4 c5 c6 h0
/-- What an append of a round keeps. -/
theorem KpN.appended {Ab n₀ B : Nat} {W w1 : World} {v v' : Value} {k : Nat} {xs : List Value} {tmp : Obj} (hA : Ab < W.heap.size) (hne : ∀ b, v.ownBlock = some b → b ≠ Ab) (hB : Ab ≠ B) (hv1 : Boxed w1 B 25 v) (hrow : W.ownsRow n₀ 3 1 v k xs) (hg : (W.alloc tmp).grownBy w1 v.ownBlock) : KpN Ab W (w1.setCell ⟨B, 0, none⟩ v') := by
  refine ((KpN.alloc hA tmp).trans (KpN.grown (by simp; omega) hg fun r e => ?_)).trans (KpN.grown ?_ (grownBy_setCell' w1 B v') fun r e => ?_)
  · rcases (hrow.alloc tmp).2 with ⟨rfl, _⟩ | ⟨gg, cap, cur, rfl, hb, hgb, _⟩
    · simp [Value.ownBlock] at e
    · obtain rfl : gg = r := by simpa [Value.ownBlock] using e
      refine ⟨hne _ rfl, fun c h => ?_⟩
      rw [hgb] at h
      have h2 := (Obj.cells.inj (Option.some.inj h)).2.1
      exact absurd h2 (by decide)
  · have := hg.size
    simp at this
    omega
  · cases e
    refine ⟨fun h => hB h.symm, fun c h => ?_⟩
    rw [show w1.heap[B]? = _ from hv1] at h
    have h2 := (Obj.cells.inj (Option.some.inj h)).2.1
    exact absurd h2 (by decide)
set_option maxRecDepth 100000 in
set_option maxHeartbeats 4000000 in
theorem appendSeq_any (y : InsT) (i n : Nat) (gv lv pv ev : Value) (g o ic Kb Ab : Nat) (w : World) (hi : i < n) (hn : n ≤ 1500) (hto : y.op = 2 ∨ y.op = 3 → 0 ≤ y.to)
    (hk : Box5 w Kb gv lv pv ev (.slice (some ⟨g, o, none⟩) n ic)) (ha : w.cell? ⟨Ab, 0, none⟩ = some (.int .i64 (i : Int))) (hel : IElem w g (o + i * 7) y) :
    Calls Tryz.prog 99 #[.slice none 0 0, .func (.func 100) #[] #[.pointer (some ⟨Kb, 0, none⟩), .pointer (some ⟨Ab, 0, none⟩)]] w (ListI (upI (nextN i y)) w) := by
  obtain ⟨i0, hi0, hz0, hz1, hz2⟩ := info_parts infoIntL
  have hAb : Ab < w.heap.size := cell_lt ha
  have bO := Boxed.new w 25 (.slice none 0 0)
  have hB0 : Below w.heap.size w (w.alloc (.cells #[.slice none 0 0] 25)) := (Below.refl _ w).alloc (Nat.le_refl _) _
  have kB := keeps_below hB0
  have hS := Lib.hid (next_stops Fence.wide 3 trivial rfl (by omega) y i n gv lv pv ev g o ic Kb Ab _ hi hn hto (hk.keep kB) (kB _ _ ha) (hel.keep kB))
  have HNL := Lib.hid (nextN_le i y)
  clear hk ha hel
  refine (callsIn_wide (n := 4)).1 ?_
  refine callsIn_of_wp_marks Tryz.func99 rfl trivial ?_ rfl
  simp only [Tryz.ntmps99, List.size_toArray, List.length_cons, List.length_nil, Nat.reduceAdd, Nat.reduceSub, Array.replicate_succ, Array.replicate_zero, List.push_toArray, List.append_toArray, List.nil_append, List.cons_append]
  gi_wp2
  refine wpIn_rangeFunc_ownG rfl (by omega) (gf := 100) (lb := #[.pointer (some ⟨Kb, 0, none⟩), .pointer (some ⟨Ab, 0, none⟩)]) rfl trivial (enters_of Tryz.func100 (by kernel_rfl) rfl)
    hS.out (fun h k => h.trans k) (KpN.put (by simp; omega)) (Below.refl _ _) (fun _ => rfl)
    (fun pre W => (∃ v, Boxed W w.heap.size 25 v ∧ W.ownsRow w.heap.size 3 1 v pre.length (intV (upI pre)) ∧ True) ∧ Below w.heap.size w W)
    (fun _ _ _ => False)
    (OwnFrom.and (Go.Own.from (holdsRow_own w.heap.size w.heap.size 25 3 1 (fun pre : List Nat => pre.length) (fun pre => intV (upI pre)) (fun _ _ => True)) _) (ownFrom_below (Nat.le_refl _) (by simp)))
    (fun _ _ _ _ _ hs _ _ => hs)
    ⟨⟨_, bO, World.ownsRow_nil _ _ _ _, trivial⟩, hB0⟩
    (fun x => { tmps := #[.slice none 0 0, .func (.func 100) #[] #[.pointer (some ⟨Kb, 0, none⟩), .pointer (some ⟨Ab, 0, none⟩)], .pointer (some ⟨w.heap.size, 0, none⟩), undef, .slice none 0 0, .int .i64 ((x : Nat) : Int), .func (.func 100) #[] #[.pointer (some ⟨Kb, 0, none⟩), .pointer (some ⟨Ab, 0, none⟩)], .int .i64 ((x : Nat) : Int), undef, undef, undef, undef, undef], defers := [] }) ?assign ?body ?done ?stop
  case assign =>
    intro l x W K hK
    gi_wp2
    exact hK
  case body =>
    rintro l pre x W ⟨⟨v, hv, hrow, _⟩, hB⟩ hlt
    have hc := hv.cell
    gi_wp2_with (gi_at_builtin; refine wpListIn_append_own _ rfl _ _ 25 rfl w.heap.size 3 i0 (.int .i64 0) 1 8 Tryz.underlying25 hi0 hz0 hz1 hz2 rfl (by decide) _ _ _ rfl (hrow.alloc _) ⟨W.heap.size, 0, none⟩ 1 1 [.int .i64 ((x : Nat) : Int)] rfl rfl (cell_one_new _ _ _) (by simp [Value.oneCell']) (by unfold maxLen; omega) (by omega) (by have := hB.size; simp; omega) ?_; intro v' w1 hown' hgrow _; obtain ⟨g', cap', rfl⟩ := ownsRow_succ hown'; obtain ⟨hv1, hv2, hr2, hk2, hb2⟩ := hv.appended (by decide) hrow hB.size (Nat.le_refl _) hown' hgrow; have hc1 := hv1.cell; have hf1 := hv1.frozen)
    exact ⟨hk2.from _, KpN.appended (by have := hB.size; omega) (fun b hb => by have := (hrow.lt b hb).1; omega) (by omega) hv1 hrow hgrow, ⟨_, hv2, by simpa [intV, upI] using hr2, trivial⟩, hB.trans hb2⟩
  case done =>
    rintro D ys W hD rfl ⟨⟨v, hv, hrow, _⟩, hB⟩ hK
    have hc := hv.cell
    gi_wp2
    refine ⟨by simp, .inl ⟨_, _, rfl, run_takeDeferred hK, ?_⟩⟩
    exact ⟨_, results_tmp rfl _ _ _, v, rfl, by rw [upI_length]; exact ownsRow_putObj hrow _ hK rfl, hB.trans (belowK_b (w := w) (Nat.le_refl _) W D _ _ (by simp at hD; omega) hK rfl rfl)⟩
  case stop =>
    rintro D c pre W _ _ h _
    exact h.elim
end Go.Proofs.YtofmccihehalcaaGreat.Trm
/- The program's NextOf, walked. Conditions: the code lies in memory; at most 2 to the 20 names and terms. -/
namespace Go.Proofs.YtofmccihehalcaaGreat.Trm
open Go.RowKit Go.Proofs.YtofmccihehalcaaGreat.Own
/-- The iterator of a place: the code and the place lie in boxes of their own. -/
theorem nextPlaces_any (gv lv pv ev iv : Value) (a : Int) (w : World) :
    Calls Tryz.prog 72 #[.agg #[gv, lv, pv, ev, iv], .int .i64 a] w fun e w' => e = .returned (.func (.func 100) #[] #[.pointer (some ⟨w.heap.size, 0, none⟩), .pointer (some ⟨w.heap.size + 1, 0, none⟩)]) ∧ Below w.heap.size w w' ∧ Box5 w' w.heap.size gv lv pv ev iv ∧ w'.cell? ⟨w.heap.size + 1, 0, none⟩ = some (.int .i64 a) ∧ w'.heap.size = w.heap.size + 2 := by
  have Y0 := (Box5.new w gv lv pv ev iv 28).keep (keeps_alloc _ (.cells #[.int .i64 a] 3))
  have B0 := ((Below.refl w.heap.size w).alloc (Nat.le_refl _) (.cells #[gv, lv, pv, ev, iv] 28)).alloc (by simp) (.cells #[.int .i64 a] 3)
  have C0 : ((w.alloc (.cells #[gv, lv, pv, ev, iv] 28)).alloc (.cells #[.int .i64 a] 3)).cell? ⟨w.heap.size + 1, 0, none⟩ = some (.int .i64 a) := by simp [go_sem]
  have HY := Lib.hid Y0
  have HB := Lib.hid B0
  have HC := Lib.hid C0
  clear Y0 B0 C0
  go_enter Tryz.func72, Tryz.ntmps72
  go_wp2
  go_ret
  exact ⟨rfl, HB.out, HY.out, HC.out, by simp⟩
theorem collect_any (sv : Value) (w : World) (rs : List Int) (h : Calls Tryz.prog 99 #[.slice none 0 0, sv] w (ListI rs w)) (hs : ∃ k b, sv = .func k #[] b) :
    Calls Tryz.prog 71 #[sv] w (ListI rs w) := by
  obtain ⟨k, b, rfl⟩ := hs
  have HC := Lib.hid h
  clear h
  go_enter Tryz.func71, Tryz.ntmps71
  go_wp2_with fail
  refine HC.out.mono ?_
  rintro e w1 ⟨ov, rfl, hr, hb⟩
  have HR := Lib.hid hr
  have HB := Lib.hid hb
  clear hr hb
  go_wp2
  go_ret
  exact ⟨_, rfl, HR.out, HB.out⟩
set_option maxRecDepth 20000 in
set_option maxHeartbeats 1600000 in
theorem implNextOf_any (x : KTree) (a : Int) (v : Value) (w : World) (hl : KIn w x v) (hz : szK x ≤ 1048576) :
    Calls Tryz.prog 34 #[v, .int .i64 a] w (ListI (upI (nextAns x a)) w) := by
  have CA := Lib.hid (fun wx (hb : Below w.heap.size w wx) => implProcOf_any x a v wx (KIn.lies (hl.keep (keeps_below hb))) hz)
  obtain ⟨ga, gc, la, lc, pa, pc, ea, ec, ia, ic, rfl, h1, h2, h3, h4, h5, _⟩ := hl
  obtain ⟨n, hn⟩ : ∃ n, n = x.ins.length := ⟨_, rfl⟩
  rw [← hn] at h5 CA ⊢
  have HI := Lib.hid h5
  have HN := Lib.hid hn
  have X0 := Lib.hid (Box5.new w (.slice ga x.globals.length gc) (.slice la x.locks.length lc) (.slice pa x.procs.length pc) (.slice ea x.entry.length ec) (.slice ia n ic) 28)
  have B0 := Lib.hid ((Below.refl w.heap.size w).alloc (Nat.le_refl _) (.cells #[.slice ga x.globals.length gc, .slice la x.locks.length lc, .slice pa x.procs.length pc, .slice ea x.entry.length ec, .slice ia n ic] 28))
  obtain ⟨rs, hrs⟩ : ∃ rs, rs = upI (nextAns x a) := ⟨_, rfl⟩
  have HRS := Lib.hid hrs
  rw [← hrs]
  clear h1 h2 h3 h4 h5 hz hn hrs
  obtain ⟨W1, hW1⟩ : ∃ W, W = w.alloc (.cells #[.slice ga x.globals.length gc, .slice la x.locks.length lc, .slice pa x.procs.length pc, .slice ea x.entry.length ec, .slice ia n ic] 28) := ⟨_, rfl⟩
  obtain ⟨p0, p1, p2, p3, p4⟩ := X0.out
  rw [← hW1] at X0 B0
  have HW1 := Lib.hid hW1
  clear hW1
  go_enter Tryz.func34, Tryz.ntmps34
  go_wp2_with fail
  rw [← HW1.out] at p0 p1 p2 p3 p4 ⊢
  refine (CA.out _ B0.out).mono ?_
  rintro e w2 ⟨z, rfl, hpz, hb⟩
  have B2 := Lib.hid (B0.out.trans (hb.mono B0.out.size))
  have X2 := Lib.hid (X0.out.keep (keeps_below hb))
  clear hb p0 p1 p2 p3 p4
  obtain ⟨p0, p1, p2, p3, p4⟩ := X2.out
  have hzn := procAns_neg hpz
  obtain ⟨kb, hkb⟩ : ∃ b, atB x a = b := ⟨_, rfl⟩
  have HKB := Lib.hid hkb
  rw [hkb] at hzn
  clear hkb hpz
  cases kb with
  | false =>
    have HF : Hid (rs = []) := by show _ = _; rw [HRS.out]; unfold nextAns; rw [dif_neg (fun h => by have h1 := h.1; rw [HKB.out] at h1; cases h1)]; rfl
    have hz1 : z < 0 := hzn.2 rfl
    clear hzn
    go_wp2_with fail
    go_ret
    exact ⟨_, rfl, by rw [HF.out]; exact World.ownsRow_nil _ _ _ _, B2.out⟩
  | true =>
    obtain ⟨hk, ha0, ha1⟩ := atB_iff.1 HKB.out
    obtain ⟨i, rfl⟩ : ∃ i : Nat, a = (i : Int) := ⟨a.toNat, by omega⟩
    have hi : i < x.ins.length := by omega
    obtain ⟨g, o, rfl, hc⟩ := atIns HN.out HI.out hi
    have hlen := okK_len hk
    have HF : Hid (rs = upI (nextN i x.ins[i])) := by
      show _ = _
      rw [HRS.out]
      unfold nextAns
      rw [dif_pos ⟨HKB.out, by simpa using hi⟩]
      rfl
    have CS := Lib.hid (fun wx (hb : Below w.heap.size w wx) Kb Ab gv lv pv ev hk5 ha5 => appendSeq_any x.ins[i] i n gv lv pv ev g o ic Kb Ab wx (by have := HN.out; omega) (by have := HN.out; omega) (fun h => (okK_to hk hi h).1) hk5 ha5 ((hc i hi).keep (keeps_below hb)))
    rw [← HF.out] at CS
    have hz1 : ¬ z < 0 := fun h => by have := hzn.1 h; cases this
    clear hc hk ha0 ha1 hlen hzn
    go_wp2_with fail
    refine (nextPlaces_any _ _ _ _ _ _ w2).mono ?_
    rintro e w3 ⟨rfl, hb3, hk3, ha3, _⟩
    have B3 := Lib.hid (B2.out.trans (hb3.mono B2.out.size))
    have CC := Lib.hid (collect_any _ w3 rs (CS.out w3 B3.out _ _ _ _ _ _ hk3 ha3) ⟨_, _, rfl⟩)
    clear hb3 hk3 ha3 p0 p1 p2 p3 p4
    go_wp2_with fail
    refine CC.out.mono ?_
    rintro e w4 ⟨ov, rfl, hr, hb⟩
    have HRo := Lib.hid (World.ownsRow.mono hr B3.out.size)
    have B4 := Lib.hid (B3.out.trans (hb.mono B3.out.size))
    clear hr hb
    go_wp2_with fail
    go_ret
    exact ⟨_, rfl, HRo.out, B4.out⟩
end Go.Proofs.YtofmccihehalcaaGreat.Trm
/- The marks that a range over a function leaves among a call's deferred calls, where it stands in a loop: as many as there were rounds. Without conditions. -/
namespace Go.Proofs.YtofmccihehalcaaGreat.Trm
open Go.RowKit Go.Proofs.YtofmccihehalcaaGreat.Own Go.Shelf
/-- The iterator's contract, each place known to be one of them. -/
theorem next_stopsS (F : Fence) (m : Nat) (hF : F.fn 100) (hro : F.round = none) (hm : 1 ≤ m) (y : InsT) (i n : Nat) (gv lv pv ev : Value) (g o ic Kb Ab : Nat) (w : World) (hi : i < n) (hn : n ≤ 1500) (hto : y.op = 2 ∨ y.op = 3 → 0 ≤ y.to)
    (hk : Box5 w Kb gv lv pv ev (.slice (some ⟨g, o, none⟩) n ic)) (ha : w.cell? ⟨Ab, 0, none⟩ = some (.int .i64 (i : Int))) (hel : IElem w g (o + i * 7) y) :
    SeqStopsK F m Tryz.prog 100 #[.pointer (some ⟨Kb, 0, none⟩), .pointer (some ⟨Ab, 0, none⟩)] (fun x : { z : Nat // z ∈ nextN i y } => #[Value.int .i64 ((x.1 : Nat) : Int)]) (KpN Ab) (fun ys => ys.map (fun z => z.1) = nextN i y) (fun _ => True) 2 w := fun l J Jx W hW hA _ hY h0 => by
  obtain ⟨op, a, t, u⟩ := y
  have kW := keeps_below hW
  obtain ⟨_, _, _, ta, tc, c0, c1, c2, c3, c4, c5, c6, _⟩ := hel.keep kW
  refine (next1_in F m hF hro hm op a u t i n gv lv pv ev g o ic Kb Ab l ta tc (fun pre W => ∃ pa : List { z : Nat // z ∈ nextN i ⟨op, a, t, u⟩ }, pa.map (fun z => z.1) = pre ∧ J pa W) (fun _ W => ∃ pa, Jx pa W) W hi hn hto ?_ ?_ (hk.keep kW) (kW _ _ ha) c0 c1 c2 c3 c4 c5 c6 ⟨[], rfl, h0⟩).mono ?_
  · rintro s A B row ⟨pa, hp, hj⟩ hg hr
    exact ⟨pa, hp, hA pa A B row hj hg hr⟩
  · rintro pre z W1 ⟨pa, hp, hj⟩ hz hl
    have hl2 : pa.length < 2 := by rw [← hp, List.length_map] at hl; exact hl
    obtain ⟨fn, tmps, assign, body, h1, h2⟩ := hY pa ⟨z, hz⟩ W1 hj hl2
    refine ⟨fn, tmps, assign, body, h1, h2.mono ?_⟩
    rintro e W' (⟨rfl, h3, h4⟩ | ⟨rfl, h3⟩)
    · exact .inl ⟨rfl, ⟨pa ++ [⟨z, hz⟩], by rw [List.map_append, hp]; rfl, h3⟩, h4⟩
    · exact .inr ⟨rfl, _, h3⟩
  · rintro e W' ⟨hv, ⟨ys, rfl, pa, hp, hj⟩ | ⟨pre, _, pa, hj⟩⟩
    · exact ⟨hv, .inl ⟨pa, hp, hj⟩⟩
    · exact ⟨hv, .inr ⟨pa, trivial, hj⟩⟩
def markD (D : Nat) : Deferred := { target := .collected D, args := #[] }
/-- The blocks of the marks: apart, all of them from n₀ on, none of which holds a call. -/
def MarksAt (n₀ : Nat) (Ds : List Nat) (W : World) : Prop := Ds.Nodup ∧ ∀ D, D ∈ Ds → n₀ ≤ D ∧ W.heap[D]? = some (Obj.deferred (some []))
theorem MarksAt.nil (n₀ : Nat) (W : World) : MarksAt n₀ [] W := ⟨List.nodup_nil, fun D h => by cases h⟩
theorem MarksAt.lt {n₀ : Nat} {Ds : List Nat} {W : World} (h : MarksAt n₀ Ds W) {D : Nat} (hD : D ∈ Ds) : D < W.heap.size := (Array.getElem?_eq_some_iff.1 (h.2 D hD).2).1
theorem MarksAt.kept {n₀ : Nat} {Ds : List Nat} {W W' : World} {row : Option Nat} (h : MarksAt n₀ Ds W) (hg : W.grownBy W' row) (hr : ∀ r, row = some r → r ∉ Ds) : MarksAt n₀ Ds W' :=
  ⟨h.1, fun D hD => ⟨(h.2 D hD).1, (hg.block D (h.lt hD) (fun e => hr D e.symm hD)).trans (h.2 D hD).2⟩⟩
theorem MarksAt.below {n₀ : Nat} {Ds : List Nat} {W W' : World} (h : MarksAt n₀ Ds W) (hb : Below W.heap.size W W') : MarksAt n₀ Ds W' :=
  ⟨h.1, fun D hD => ⟨(h.2 D hD).1, (hb.block D (h.lt hD)).trans (h.2 D hD).2⟩⟩
theorem MarksAt.not_cells {n₀ : Nat} {Ds : List Nat} {W : World} (h : MarksAt n₀ Ds W) {r : Nat} {c : Array Value} {t : TypeId} {z : Nat × Nat} (hr : W.heap[r]? = some (Obj.cells c t z)) : r ∉ Ds := fun hD => by
  rw [(h.2 r hD).2] at hr
  cases hr
theorem MarksAt.cons {n₀ B D : Nat} {Ds : List Nat} {W : World} (h : MarksAt n₀ Ds W) (hl : ∀ D', D' ∈ Ds → D' < B) (hB : B ≤ D) (hn : n₀ ≤ D) (hD : W.heap[D]? = some (Obj.deferred (some []))) : MarksAt n₀ (D :: Ds) W :=
  ⟨List.nodup_cons.2 ⟨fun hm => by have := hl D hm; omega, h.1⟩, fun D' hD' => by
    rcases List.mem_cons.1 hD' with rfl | hm
    · exact ⟨hn, hD⟩
    · exact h.2 D' hm⟩
theorem ownFrom_marks {β : Type} {n₀ B : Nat} {Ds : List Nat} (hl : ∀ D, D ∈ Ds → D < B) : OwnFrom B (fun (_ : β) W => MarksAt n₀ Ds W) := fun _ _ _ _ hs hg hr => hs.kept hg fun r e hD => by have := (hr r e).1; have := hl r hD; omega
theorem row_block {W : World} {base : Nat} {e : TypeId} {size : Nat} {v : Value} {k : Nat} {xs : List Value} (h : W.ownsRow base e size v k xs) {r : Nat} (hr : v.ownBlock = some r) : ∃ c, W.heap[r]? = some (Obj.cells c e (0, 0)) := by
  rcases h.2 with ⟨rfl, _⟩ | ⟨g, cap, cur, rfl, _, hgb, _⟩
  · simp [Value.ownBlock] at hr
  · obtain rfl : g = r := by simpa [Value.ownBlock] using hr
    exact ⟨cur, hgb⟩
theorem MarksAt.appended {n₀ n₁ B : Nat} {Ds : List Nat} {W w1 : World} {v v' u : Value} {t : TypeId} {k : Nat} {xs : List Value} {tmp : Obj} (h : MarksAt n₁ Ds W) (hv1 : Boxed w1 B t u) (hrow : W.ownsRow n₀ 3 1 v k xs) (hg : (W.alloc tmp).grownBy w1 v.ownBlock) : MarksAt n₁ Ds (w1.setCell ⟨B, 0, none⟩ v') := by
  have h1 : MarksAt n₁ Ds w1 := by
    have h0 : MarksAt n₁ Ds (W.alloc tmp) := h.kept (World.grownBy_alloc W tmp none) (fun r e => by cases e)
    refine h0.kept hg fun r e => ?_
    obtain ⟨c, hc⟩ := row_block (hrow.alloc tmp) e
    exact h0.not_cells hc
  exact h1.kept (grownBy_setCell' w1 B v') fun r e => by cases e; exact h1.not_cells hv1
/-- A block that an append and the store of its list leave as it was. -/
theorem app_block {W w1 : World} {v v' : Value} {tmp : Obj} {B b : Nat} (hg : (W.alloc tmp).grownBy w1 v.ownBlock) (hb : b < W.heap.size) (h1 : v.ownBlock ≠ some b) (h2 : b ≠ B) : (w1.setCell ⟨B, 0, none⟩ v').heap[b]? = W.heap[b]? := by
  have e1 : w1.heap[b]? = (W.alloc tmp).heap[b]? := hg.block b (by simp; omega) (fun e => h1 e.symm)
  exact ((Below.heap_setCell _ _ _ b h2).trans e1).trans (Below.heap_alloc W tmp b hb)
theorem box5_block {W W' : World} {b : Nat} {c0 c1 c2 c3 c4 : Value} (h : Box5 W b c0 c1 c2 c3 c4) (hb : W'.heap[b]? = W.heap[b]?) : Box5 W' b c0 c1 c2 c3 c4 :=
  ⟨(World.cell?_of_block hb).trans h.1, (World.cell?_of_block hb).trans h.2.1, (World.cell?_of_block hb).trans h.2.2.1, (World.cell?_of_block hb).trans h.2.2.2.1, (World.cell?_of_block hb).trans h.2.2.2.2⟩
theorem own_size {β : Type} (n : Nat) : Go.Own (fun (_ : β) W => n ≤ W.heap.size) := fun _ _ _ _ hs hg _ => Nat.le_trans hs hg.size
/-- A call's return, its marks taken in one by one. -/
theorem leaves_marks {F : Fence} {n : Nat} {P : Program} {fn : Func} {tmps : Array Value} {R : Ending → World → Prop} {n₀ : Nat} (K : World → Prop)
    (hstep : ∀ W D, K W → n₀ ≤ D → W.heap[D]? = some (Obj.deferred (some [])) → K (W.putObj D (.deferred none))) (hend : ∀ W, K W → LeavesIn F n P fn tmps R [] .returning W) :
    ∀ (Ds : List Nat) (W : World), K W → MarksAt n₀ Ds W → LeavesInM F n P fn tmps R (Ds.map markD) .returning W
  | [], W, hk, _ => hend W hk
  | D :: Ds, W, hk, hm => by
    have hD := hm.2 D List.mem_cons_self
    have hnd := List.nodup_cons.1 hm.1
    refine ⟨by simp, .inl ⟨D, _, rfl, run_takeDeferred hD.2, ?_⟩⟩
    refine leaves_marks K hstep hend Ds _ (hstep W D hk hD.1 hD.2) ⟨hnd.2, fun D' h' => ?_⟩
    exact ⟨(hm.2 D' (List.mem_cons_of_mem _ h')).1, (World.putObj_heap_other (fun e => by subst e; exact hnd.1 h')).trans (hm.2 D' (List.mem_cons_of_mem _ h')).2⟩
theorem box5_own {β : Type} (b : Nat) (c0 c1 c2 c3 c4 : Value) : Go.Own (fun (_ : β) W => Box5 W b c0 c1 c2 c3 c4) := fun _ _ _ _ hs hg hr => ⟨cell_kept hs.1 hg hr, cell_kept hs.2.1 hg hr, cell_kept hs.2.2.1 hg hr, cell_kept hs.2.2.2.1 hg hr, cell_kept hs.2.2.2.2 hg hr⟩
theorem cell_own {β : Type} (a : Addr) (c : Value) : Go.Own (fun (_ : β) W => W.cell? a = some c) := fun _ _ _ _ hs hg hr => cell_kept hs hg hr
end Go.Proofs.YtofmccihehalcaaGreat.Trm
/- The program's search: which places one comes to, walked. Conditions: the code lies in memory and is right; the place is there. -/
namespace Go.Proofs.YtofmccihehalcaaGreat.Trm
open Go.RowKit Go.Proofs.YtofmccihehalcaaGreat.Own Go.Shelf
attribute [local go_sem] Oper.semAt_some
theorem boxed_nc {W W' : World} {row : Option Nat} {B : Nat} {t : TypeId} {v : Value} (h : Boxed W B t v) (hg : W.grownBy W' row) (hr : ∀ r, row = some r → ∃ o : Obj, W.heap[r]? = some o ∧ o.isCells = false) : Boxed W' B t v :=
  h.kept hg (fun e => by obtain ⟨o, ho, hc⟩ := hr B e.symm; rw [show W.heap[B]? = _ from h] at ho; cases ho; cases hc)
theorem row_nc {W W' : World} {row : Option Nat} {base : Nat} {e : TypeId} {size : Nat} {v : Value} {k : Nat} {xs : List Value} (h : W.ownsRow base e size v k xs) (hg : W.grownBy W' row) (hr : ∀ r, row = some r → ∃ o : Obj, W.heap[r]? = some o ∧ o.isCells = false) : W'.ownsRow base e size v k xs :=
  row_same h fun b hb => hg.block b (h.lt b hb).2 fun e1 => by
    obtain ⟨o, ho, hc⟩ := hr b e1.symm
    obtain ⟨c, hcc⟩ := row_block h hb
    rw [hcc] at ho
    cases ho
    cases hc
/-- The front of a row that a call owns. -/
theorem row_front {W : World} {base : Nat} {e : TypeId} {g n c m : Nat} {xs : List Value} (h : W.ownsRow base e 1 (.slice (some ⟨g, 0, none⟩) n c) n xs) (hm : m ≤ n) : W.ownsRow base e 1 (.slice (some ⟨g, 0, none⟩) m c) m (xs.take m) := by
  have hl := h.1
  rcases h.2 with ⟨e1, _⟩ | ⟨g2, cap, cur, e1, hb, hgb, h1, h2, h3, h4⟩
  · cases e1
  · have e2 := e1
    simp at e2
    obtain ⟨rfl, rfl⟩ := e2
    refine ⟨by rw [List.length_take]; omega, .inr ⟨g, c, cur, rfl, hb, hgb, by omega, h2, h3, ?_⟩⟩
    rw [← h4, List.take_take]
    congr 1
    omega
theorem cell_one_set (W : World) (a : Addr) (v x : Value) (t : TypeId) : ∀ j u, [x][j]? = some u → ((W.setCell a v).alloc (.cells #[x] t)).cell? ((⟨W.heap.size, 0, none⟩ : Addr).add j) = some u := by
  have h := cell_one_new (W.setCell a v) x t
  have hs : (W.setCell a v).heap.size = W.heap.size := by simp
  rw [hs] at h
  exact h
/-- A row that is made at its full length, inside a fence. -/
theorem makeFullIn {F : Fence} {n : Nat} {P : Program} (w : World) {ops : Array Oper} {rest : List Oper} {o : Oper} {a : Act} {Q : Exit → Act → World → Prop}
    (hg : o.guard = none) (l c : Operand) (t : TypeId) (hop : o.op = Op.makeSlice t l c)
    (base : Nat) (e : TypeId) (i : TypeInfo) (z : Value) (size : Nat) (h1 : P.underlying t = some (.slice e)) (h2 : P.info? e = some i) (h3 : i.zero = some z) (h4 : i.size = size)
    (m : Nat) (hl : a.eval l = .int .i64 (m : Int)) (hc : a.eval c = .int .i64 (m : Int)) (b2 : i.bytes * m ≤ 281474976710656) (b3 : m ≤ maxLen) (b4 : base ≤ w.heap.size)
    (hK : ∀ w', w'.ownsRow base e size (.slice (some ⟨w.heap.size, 0, none⟩) m m) m (madeCells z.cells (m * size)).toList → w.grownBy w' none → wpListIn F n P ops Q rest (a.put o.dst (.slice (some ⟨w.heap.size, 0, none⟩) m m)) w') :
    wpListIn F n P ops Q (o :: rest) a w := by
  refine wpListIn_plain hg fun K hK' => ?_
  obtain ⟨w', hrun, r1, r2⟩ := run_make_full (P := P) w base t e i z size h1 h2 h3 h4 .i64 .i64 m b2 b3 b4
  unfold Oper.wpIn
  refine ⟨?_, ?_⟩
  · simp [Oper.about, hop]
  · rw [Oper.semAt_plain F _ _ (by rw [hop]; intro c hc'; cases hc')]
    simp [execOp, hop, hl, hc, hrun, Result.andThen]
    exact hK' _ _ (hK w' r1 r2)
/-- What a search asks of a function that tells what comes next: for each place, in whatever memory has grown out of this one, an iterator over these places, which keeps the code's instructions. -/
def NextsBy (v fv : Value) (nx : Nat → List Nat) (n : Nat) (w : World) : Prop := ∃ (F : Nat) (bd : Array Value), fv = .func (.func F) #[] bd ∧ (∀ args W, (callFunc F args).run Tryz.prog W = .ok (.enter F args) W) ∧ ∀ y, y < n → ∀ wx, Below w.heap.size w wx →
  CallsIn Fence.wide 5 Tryz.prog F (#[v, .int .i64 (y : Int)] ++ bd) wx fun e w' => ∃ (gf : Nat) (lb : Array Value) (Ab : Nat), e = .returned (.func (.func gf) #[] lb) ∧ Below wx.heap.size wx w' ∧ wx.heap.size ≤ Ab ∧ Ab < w'.heap.size ∧ (∀ args W, (callFunc gf args).run Tryz.prog W = .ok (.enter gf args) W) ∧
    SeqStopsK Fence.wide 5 Tryz.prog gf lb (fun x : { z : Nat // z ∈ nx y } => #[Value.int .i64 ((x.1 : Nat) : Int)]) (KpN Ab) (fun ys => ys.map (fun z => z.1) = nx y) (fun _ => True) 2 w'
/-- The places that one comes to. -/
def srE (nx : Nat → List Nat) (n i j : Nat) : Prop := i < n ∧ j ∈ nx i
open Classical in
noncomputable def reachG (nx : Nat → List Nat) (n s : Nat) : List Bool := (List.range n).map fun y => decide (Rch (srE nx n) s y)
theorem reachG_length (nx : Nat → List Nat) (n s : Nat) : (reachG nx n s).length = n := by unfold reachG; simp
theorem reachG_at (nx : Nat → List Nat) (n s y : Nat) : (reachG nx n s)[y]? = some true ↔ y < n ∧ Rch (srE nx n) s y := by
  unfold reachG
  rw [List.getElem?_map]
  by_cases h : y < n
  · rw [List.getElem?_range h]
    simp [h]
  · rw [List.getElem?_eq_none (by simpa using h)]
    simp [h]
theorem Srch.reachG {nx : Nat → List Nat} {n s c : Nat} {met : List Bool} (h : Srch (srE nx n) s n met [] c []) : met = reachG nx n s := by
  refine bools_ext (by rw [h.len, reachG_length]) fun y => ?_
  rw [h.done, reachG_at]
  constructor
  · intro hr
    have h1 := (h.done y).2 hr
    have := (List.getElem?_eq_some_iff.1 h1).1
    rw [h.len] at this
    exact ⟨this, hr⟩
  · exact fun hr => hr.2
set_option maxRecDepth 100000 in
set_option maxHeartbeats 8000000 in
theorem implReachBy_any (x : KTree) (nx : Nat → List Nat) (s : Nat) (v fv : Value) (w : World) (hl : KIn w x v) (hk : okK x = true) (hs : s < x.ins.length) (hlt : ∀ y, y < x.ins.length → ∀ z, z ∈ nx y → z < x.ins.length)
    (hnx : ∀ wx, Below w.heap.size w wx → NextsBy v fv nx x.ins.length wx) :
    Calls Tryz.prog 101 #[v, .int .i64 (s : Int), fv] w (ListB (reachG nx x.ins.length s) w) := by
  obtain ⟨i0, hi0, iz0, iz1, iz2⟩ := info_parts infoIntL
  obtain ⟨j0, hj0, jz0, jz1, jz2⟩ := info_parts infoBoolL
  obtain ⟨ga, gc, la, lc, pa, pc, ea, ec, ia, ic, rfl, h1, h2, h3, h4, h5, _⟩ := hl
  obtain ⟨n, hn⟩ : ∃ n, n = x.ins.length := ⟨_, rfl⟩
  obtain ⟨g, o, rfl, _⟩ := atIns rfl h5 hs
  obtain ⟨F, bd, rfl, eF, hNX⟩ := hnx w (Below.refl _ _)
  have HNX := Lib.hid hNX
  have HLT := Lib.hid hlt
  have hn15 : n ≤ 1500 := by rw [hn]; exact okK_len hk
  rw [← hn] at hs h5 HNX HLT ⊢
  have HN := Lib.hid hn
  have HK := Lib.hid hk
  have X0 := Lib.hid (Box5.new w (.slice ga x.globals.length gc) (.slice la x.locks.length lc) (.slice pa x.procs.length pc) (.slice ea x.entry.length ec) (.slice (some ⟨g, o, none⟩) n ic) 28)
  have B0 := Lib.hid ((Below.refl w.heap.size w).alloc (Nat.le_refl _) (.cells #[.slice ga x.globals.length gc, .slice la x.locks.length lc, .slice pa x.procs.length pc, .slice ea x.entry.length ec, .slice (some ⟨g, o, none⟩) n ic] 28))
  have HRL := Lib.hid (reachG_length nx n s)
  clear h1 h2 h3 h4 h5 hk hn hlt hnx hNX
  obtain ⟨p0, p1, p2, p3, p4⟩ := X0.out
  refine (callsIn_wide (n := 6)).1 ?_
  refine callsIn_of_wp_marks Tryz.func101 rfl trivial ?_ rfl
  simp only [Tryz.ntmps101, List.size_toArray, List.length_cons, List.length_nil, Nat.reduceAdd, Nat.reduceSub, Array.replicate_succ, Array.replicate_zero, List.push_toArray, List.append_toArray, List.nil_append, List.cons_append]
  gi_wp2_with (gi_at_make; refine makeFullIn _ rfl (.tmp 14) (.tmp 14) 55 rfl (w.heap.size + 1) 4 j0 _ 1 Tryz.underlying55 hj0 jz0 jz1 n rfl rfl (by rw [jz2]; omega) (by unfold maxLen; omega) (by simp) ?_)
  intro w1 hown hg
  rw [boolV_made] at hown
  have hs1 : w.heap.size + 1 < w1.heap.size := (hown.lt (w.heap.size + 1) rfl).2
  have B1 := B0.out.grown hg B0.out.size (fun b hb => by cases hb)
  have X1 := X0.out.keep (keeps_below (below_none hg))
  have M4 : Hid ((((w1.alloc (.cells #[.slice (some ⟨w.heap.size + 1, 0, none⟩) n n] 55)).alloc (.cells #[.int .i64 (s : Int)] 3)).alloc (.cells #[.slice (some ⟨w1.heap.size + 1, 0, none⟩) 1 1] 25)).ownsRow (w.heap.size + 1) 4 1 (.slice (some ⟨w.heap.size + 1, 0, none⟩) n n) n (boolV (List.replicate n false))) := ((hown.alloc _).alloc _).alloc _
  have R4 : Hid (Boxed (((w1.alloc (.cells #[.slice (some ⟨w.heap.size + 1, 0, none⟩) n n] 55)).alloc (.cells #[.int .i64 (s : Int)] 3)).alloc (.cells #[.slice (some ⟨w1.heap.size + 1, 0, none⟩) 1 1] 25)) w1.heap.size 55 (.slice (some ⟨w.heap.size + 1, 0, none⟩) n n)) := ((Boxed.new w1 55 (.slice (some ⟨w.heap.size + 1, 0, none⟩) n n)).alloc _).alloc _
  have L4 : Hid ((((w1.alloc (.cells #[.slice (some ⟨w.heap.size + 1, 0, none⟩) n n] 55)).alloc (.cells #[.int .i64 (s : Int)] 3)).alloc (.cells #[.slice (some ⟨w1.heap.size + 1, 0, none⟩) 1 1] 25)).ownsRow (w1.heap.size + 1) 3 1 (.slice (some ⟨w1.heap.size + 1, 0, none⟩) 1 1) [s].length (intV (upI [s]))) := by
    have h := (litI1 (w1.alloc (.cells #[.slice (some ⟨w.heap.size + 1, 0, none⟩) n n] 55)) (s : Int)).alloc (.cells #[.slice (some ⟨w1.heap.size + 1, 0, none⟩) 1 1] 25)
    rw [World.size_alloc] at h
    exact h
  have T4 : Hid (Boxed (((w1.alloc (.cells #[.slice (some ⟨w.heap.size + 1, 0, none⟩) n n] 55)).alloc (.cells #[.int .i64 (s : Int)] 3)).alloc (.cells #[.slice (some ⟨w1.heap.size + 1, 0, none⟩) 1 1] 25)) (w1.heap.size + 1 + 1) 25 (.slice (some ⟨w1.heap.size + 1, 0, none⟩) 1 1)) := by
    have h := Boxed.new ((w1.alloc (.cells #[.slice (some ⟨w.heap.size + 1, 0, none⟩) n n] 55)).alloc (.cells #[.int .i64 (s : Int)] 3)) 25 (.slice (some ⟨w1.heap.size + 1, 0, none⟩) 1 1)
    rw [World.size_alloc, World.size_alloc] at h
    exact h
  have X4 : Hid (Box5 (((w1.alloc (.cells #[.slice (some ⟨w.heap.size + 1, 0, none⟩) n n] 55)).alloc (.cells #[.int .i64 (s : Int)] 3)).alloc (.cells #[.slice (some ⟨w1.heap.size + 1, 0, none⟩) 1 1] 25)) w.heap.size (.slice ga x.globals.length gc) (.slice la x.locks.length lc) (.slice pa x.procs.length pc) (.slice ea x.entry.length ec) (.slice (some ⟨g, o, none⟩) n ic)) := X1.keep (((keeps_alloc _ _).trans (keeps_alloc _ _)).trans (keeps_alloc _ _))
  have B4 : Hid (Below w.heap.size w (((w1.alloc (.cells #[.slice (some ⟨w.heap.size + 1, 0, none⟩) n n] 55)).alloc (.cells #[.int .i64 (s : Int)] 3)).alloc (.cells #[.slice (some ⟨w1.heap.size + 1, 0, none⟩) 1 1] 25))) := ((B1.alloc B1.size _).alloc (by simp; omega) _).alloc (by simp; omega) _
  have key0 : ∀ m, unm (List.replicate m false) = m := fun m => by
    induction m with
    | zero => rfl
    | succ m ih => rw [List.replicate_succ, unm, ih]; simp; omega
  clear hown hg B1 X1 p0 p1 p2 p3 p4
  gi_wp2
  refine wpIn_loop (fun a' w' => ∃ (Ds todo : List Nat) (met : List Bool) (c : Nat) (tv u7 u8 u16 u17 u18 u19 u20 u21 u22 u23 u24 u25 u26 u27 u28 u29 u30 u31 u32 : Value), a' = { tmps := #[(.agg #[.slice ga x.globals.length gc, .slice la x.locks.length lc, .slice pa x.procs.length pc, .slice ea x.entry.length ec, .slice (some ⟨g, o, none⟩) n ic]), .int .i64 (s : Int), .func (.func F) #[] bd, .pointer (some ⟨w.heap.size, 0, none⟩), undef, undef, .slice none 0 0, .pointer (some ⟨w1.heap.size, 0, none⟩), .pointer (some ⟨w1.heap.size + 1 + 1, 0, none⟩), u7, u8, undef, .pointer (some ⟨w.heap.size, 4, none⟩), .slice (some ⟨g, o, none⟩) n ic, .int .i64 (n : Int), (.slice (some ⟨w.heap.size + 1, 0, none⟩) n n), .int .i64 (s : Int), .slice (some ⟨w1.heap.size + 1, 0, none⟩) 1 1, u16, u17, u18, u19, u20, u21, u22, u23, u24, u25, u26, u27, u28, u29, u30, u31, u32, undef, undef, undef, undef, undef, undef, undef, undef, undef, undef, undef, undef, undef, undef], defers := Ds.map markD } ∧ Hid (Srch (srE nx n) s n met todo c []) ∧ unm met + todo.length ≤ n + 1 ∧ Hid (Boxed w' w1.heap.size 55 (.slice (some ⟨w.heap.size + 1, 0, none⟩) n n)) ∧ Hid (w'.ownsRow (w.heap.size + 1) 4 1 (.slice (some ⟨w.heap.size + 1, 0, none⟩) n n) n (boolV met)) ∧ Hid (Boxed w' (w1.heap.size + 1 + 1) 25 tv) ∧ Hid (w'.ownsRow (w1.heap.size + 1) 3 1 tv todo.length (intV (upI todo))) ∧ Hid (Box5 w' w.heap.size (.slice ga x.globals.length gc) (.slice la x.locks.length lc) (.slice pa x.procs.length pc) (.slice ea x.entry.length ec) (.slice (some ⟨g, o, none⟩) n ic)) ∧ Hid (MarksAt (w1.heap.size + 1) Ds w') ∧ Hid (Below w.heap.size w w'))
    (fun _ w' => leftW (w.heap.size + 1) (w1.heap.size + 1 + 1) w') ?_ ?_
  · exact ⟨[], [s], List.replicate n false, 0, _, _, _, _, _, _, _, _, _, _, _, _, _, _, _, _, _, _, _, _, rfl, Srch.begin hs, by rw [key0]; simp, R4.out, M4.out, T4.out, L4.out, X4.out, MarksAt.nil _ _, B4.out⟩
  · rintro a' wr ⟨Ds, todo, met, c, tv, u7, u8, u16, u17, u18, u19, u20, u21, u22, u23, u24, u25, u26, u27, u28, u29, u30, u31, u32, rfl, hsr, hum, hbR, hmr, hbT, htr, hk5, hmk, hbe⟩
    have hwr : w1.heap.size + 1 + 1 < wr.heap.size := hbT.out.lt
    rcases List.eq_nil_or_concat todo with rfl | ⟨td, y, rfl⟩
    · obtain ⟨va, vc, rfl, _⟩ := row_shape htr.out
      have c6 := hbT.out.cell
      have cR := hbR.out.cell
      have HM : Hid (met = reachG nx n s) := hsr.out.reachG
      have hml := boolV_len hmr.out
      gi_wp2
      refine leaves_marks (fun W => W.ownsRow w.heap.size 4 1 (.slice (some ⟨w.heap.size + 1, 0, none⟩) n n) n (boolV met) ∧ Below w.heap.size w W) ?_ ?_ Ds wr ⟨hmr.out.mono (by omega), hbe.out⟩ hmk.out
      · rintro W D ⟨h6, h7⟩ hD hK
        exact ⟨ownsRow_putObj h6 _ hK rfl, h7.trans (belowK_b (w := w) (Nat.le_refl _) W D _ _ (by omega) hK rfl rfl)⟩
      · rintro W ⟨h6, h7⟩
        exact ⟨_, results_tmp rfl _ _ _, _, rfl, by rw [← HM.out, hml]; exact h6, h7⟩
    · rw [List.concat_eq_append] at *
      have htr2 := htr.out
      rw [List.length_append, List.length_singleton] at htr2
      obtain ⟨tg, tc, rfl⟩ := ownsRow_succ htr2
      have q0 := natCell htr2 td.length (by rw [List.length_append]; exact Nat.lt_succ_self _)
      have q1 : (td ++ [y])[td.length]'(by rw [List.length_append]; exact Nat.lt_succ_self _) = y := by simp
      rw [q1] at q0
      have htl : td.length ≤ 1500 := by rw [List.length_append, List.length_singleton] at hum; omega
      have htc : td.length + 1 ≤ tc := cap_le htr2
      have c6 := hbT.out.cell
      have f6 := hbT.out.frozen
      obtain ⟨p0, p1, p2, p3, p4⟩ := hk5.out
      gi_wp2_with fail
      have hsm : y < n := hsr.out.small y (by simp)
      have HT : Hid (Srch (srE nx n) s n met td y (nx y)) := by
        refine hsr.out.take (by simp) (fun z hz => ?_) (fun z hz => List.mem_append_left _ hz) (fun z => ⟨fun ⟨_, h2⟩ => h2, fun h2 => ⟨hsm, h2⟩⟩) (fun z hz => HLT.out y hsm z hz)
        rcases List.mem_append.1 hz with h | h
        · exact .inr h
        · exact .inl (List.mem_singleton.1 h)
      have HCY := Lib.hid (hsr.out.opn y (by simp))
      have gA := grownBy_setCell' wr (w1.heap.size + 1 + 1) (.slice (some ⟨tg, 0, none⟩) td.length tc)
      have hsA : (wr.setCell ⟨w1.heap.size + 1 + 1, 0, none⟩ (.slice (some ⟨tg, 0, none⟩) td.length tc)).heap.size = wr.heap.size := by simp
      have hnt : some (w1.heap.size + 1 + 1) ≠ (Value.slice (some ⟨tg, 0, none⟩) (td.length + 1) tc).ownBlock := hbT.out.not_row (by decide) htr2
      have RA := Lib.hid (hbR.out.other (B' := w1.heap.size + 1 + 1) (by omega) (.slice (some ⟨tg, 0, none⟩) td.length tc))
      have MA := Lib.hid (hmr.out.kept gA (.inr (fun e => by
        have h2 : w.heap.size + 1 = w1.heap.size + 1 + 1 := by simpa [Value.ownBlock] using e
        omega)))
      have TA := Lib.hid (hbT.out.set (.slice (some ⟨tg, 0, none⟩) td.length tc))
      have LA : Hid ((wr.setCell ⟨w1.heap.size + 1 + 1, 0, none⟩ (.slice (some ⟨tg, 0, none⟩) td.length tc)).ownsRow (w1.heap.size + 1) 3 1 (.slice (some ⟨tg, 0, none⟩) td.length tc) td.length (intV (upI td))) := by
        have h2 := (row_front htr2 (Nat.le_succ td.length)).kept gA (.inr (fun e => hnt e.symm))
        have h3 : (intV (upI (td ++ [y]))).take td.length = intV (upI td) := by simp [intV, upI]
        rw [h3] at h2
        exact h2
      have XA := Lib.hid (box5_other hk5.out gA (fun e => by injection e with e; omega))
      have KA := Lib.hid (hmk.out.kept gA (fun r e => by cases e; exact hmk.out.not_cells hbT.out))
      have BA : Hid (Below w.heap.size w (wr.setCell ⟨w1.heap.size + 1 + 1, 0, none⟩ (.slice (some ⟨tg, 0, none⟩) td.length tc))) := hbe.out.setCell (by show w.heap.size ≤ w1.heap.size + 1 + 1; omega) _
      have CN := HNX.out y hsm _ BA
      refine ⟨trivial, CN.mono ?_⟩
      rintro e w3 ⟨gf, lb, Ab, rfl, hb3, hA1, hA2, eg, hSq⟩
      clear CN
      have X5 := Lib.hid (XA.out.keep (keeps_below hb3))
      have R5 : Hid (Boxed w3 w1.heap.size 55 (.slice (some ⟨w.heap.size + 1, 0, none⟩) n n)) := (hb3.block _ RA.out.lt).trans RA.out
      have M5 := Lib.hid (row_below MA.out hb3)
      have T5 : Hid (Boxed w3 (w1.heap.size + 1 + 1) 25 (.slice (some ⟨tg, 0, none⟩) td.length tc)) := (hb3.block _ TA.out.lt).trans TA.out
      have L5 := Lib.hid (row_below LA.out hb3)
      have K5 := Lib.hid (KA.out.below hb3)
      have B5 := Lib.hid (BA.out.trans (hb3.mono BA.out.size))
      rw [hsA] at hA1
      have S5 := Lib.hid hSq
      have htg : tg < wr.heap.size := (htr2.lt tg rfl).2
      have HZN : Hid (∀ z, z ∈ nx y → z < n) := HLT.out y hsm
      clear hb3 hSq p0 p1 p2 p3 p4 q0 q1 c6 f6 gA hnt
      gi_wp2
      refine wpIn_rangeFunc_ownG rfl (by omega) (gf := gf) (lb := lb) rfl trivial eg
        S5.out (fun h k => h.trans k) (KpN.put (by omega)) (Below.refl _ _) (fun _ => rfl)
        (fun pre W => (∃ (met' : List Bool) (todo' : List Nat) (tv' : Value), (Srch (srE nx n) s n met' todo' y (restN (nx y) (pre.map (fun z => z.1))) ∧ (y = s ∨ met'[y]? = some true) ∧ unm met' + todo'.length = unm met + td.length) ∧ Boxed W w1.heap.size 55 (.slice (some ⟨w.heap.size + 1, 0, none⟩) n n) ∧ W.ownsRow (w.heap.size + 1) 4 1 (.slice (some ⟨w.heap.size + 1, 0, none⟩) n n) n (boolV met') ∧ Boxed W (w1.heap.size + 1 + 1) 25 tv' ∧ W.ownsRow (w1.heap.size + 1) 3 1 tv' todo'.length (intV (upI todo')) ∧ (∀ b, tv'.ownBlock = some b → b ≠ Ab)) ∧ (Box5 W w.heap.size (.slice ga x.globals.length gc) (.slice la x.locks.length lc) (.slice pa x.procs.length pc) (.slice ea x.entry.length ec) (.slice (some ⟨g, o, none⟩) n ic) ∧ (MarksAt (w1.heap.size + 1) Ds W ∧ (w3.heap.size ≤ W.heap.size ∧ Below w.heap.size w W))))
        (fun _ _ _ => False)
        (OwnFrom.and (Go.Own.from (fun pre A B row ⟨m1, t1, v1, hp, h1, h2, h3, h4, h5⟩ hg hr => ⟨m1, t1, v1, hp, boxed_nc h1 hg hr, row_nc h2 hg hr, boxed_nc h3 hg hr, row_nc h4 hg hr, h5⟩) _) (OwnFrom.and (Go.Own.from (box5_own _ _ _ _ _ _) _) (OwnFrom.and (ownFrom_marks (fun D hD => K5.out.lt hD)) (OwnFrom.and (Go.Own.from (own_size _) _) (ownFrom_below (Nat.le_refl _) B5.out.size)))))
        (fun _ _ _ _ _ hs _ _ => hs)
        ⟨⟨met, td, _, ⟨by rw [List.map_nil, restN_nil]; exact HT.out, HCY.out, rfl⟩, R5.out, M5.out, T5.out, L5.out, fun b hb => by
          have h2 : tg = b := by simpa [Value.ownBlock] using hb
          omega⟩, X5.out, K5.out, Nat.le_refl _, B5.out⟩
        (fun q => { tmps := #[(.agg #[.slice ga x.globals.length gc, .slice la x.locks.length lc, .slice pa x.procs.length pc, .slice ea x.entry.length ec, .slice (some ⟨g, o, none⟩) n ic]), .int .i64 (s : Int), .func (.func F) #[] bd, .pointer (some ⟨w.heap.size, 0, none⟩), undef, undef, .slice none 0 0, .pointer (some ⟨w1.heap.size, 0, none⟩), .pointer (some ⟨w1.heap.size + 1 + 1, 0, none⟩), .int .i64 (td.length : Int), .int .i64 (y : Int), .int .i64 ((q.1 : Nat) : Int), .pointer (some ⟨w.heap.size, 4, none⟩), .slice (some ⟨g, o, none⟩) n ic, .int .i64 (n : Int), (.slice (some ⟨w.heap.size + 1, 0, none⟩) n n), .int .i64 (s : Int), .slice (some ⟨w1.heap.size + 1, 0, none⟩) 1 1, .slice (some ⟨tg, 0, none⟩) (td.length + 1) tc, .int .i64 ((td.length : Int) + 1), .bool true, .slice (some ⟨tg, 0, none⟩) (td.length + 1) tc, .int .i64 ((td.length : Int) + 1), .int .i64 (td.length : Int), .slice (some ⟨tg, 0, none⟩) (td.length + 1) tc, .int .i64 (td.length : Int), .pointer (some ⟨tg, td.length, none⟩), .int .i64 (y : Int), .slice (some ⟨tg, 0, none⟩) (td.length + 1) tc, .int .i64 (td.length : Int), .slice (some ⟨tg, 0, none⟩) td.length tc, .func (.func F) #[] bd, (.agg #[.slice ga x.globals.length gc, .slice la x.locks.length lc, .slice pa x.procs.length pc, .slice ea x.entry.length ec, .slice (some ⟨g, o, none⟩) n ic]), .int .i64 (y : Int), (.func (.func gf) #[] lb), .int .i64 ((q.1 : Nat) : Int), undef, undef, undef, undef, undef, undef, undef, undef, undef, undef, undef, undef, undef], defers := [] }) ?assign ?body ?done ?stop
      case assign =>
        intro l q W K hK
        gi_wp2
        exact hK
      case body =>
        rintro l pre ⟨z, hzm⟩ W ⟨⟨met', todo', tv', ⟨hs', hc', hu'⟩, hR, hM, hT, hL, hd⟩, hX, hMk, hS, hB⟩ hlt3
        have hzn := HZN.out z hzm
        have hE : srE nx n y z := ⟨hsm, hzm⟩
        have hzl : z < met'.length := by rw [hs'.len]; exact hzn
        have cR := hR.cell
        have c1 := boolV_cell hM z hzl
        have hRw : w1.heap.size < W.heap.size := hR.lt
        have hTw : w1.heap.size + 1 + 1 < W.heap.size := hT.lt
        have hmap : (pre ++ [(⟨z, hzm⟩ : { z : Nat // z ∈ nx y })]).map (fun z => z.1) = pre.map (fun z => z.1) ++ [z] := by simp
        have hrs := restN_step (nx y) (pre.map (fun z => z.1)) z
        obtain ⟨bz, hbz⟩ : ∃ b, met'[z] = b := ⟨_, rfl⟩
        rw [hbz] at c1
        have hbz2 : met'[z]? = some bz := by rw [List.getElem?_eq_getElem hzl, hbz]
        have hul := unm_le met
        have htl2 : todo'.length ≤ 3100 := by have := hs'.len; have := HT.out.len; omega
        clear hbz
        cases bz with
        | true =>
          gi_wp2
          exact ⟨KeepsFrom.refl _ _, KpN.refl _ _, ⟨met', todo', tv', ⟨by rw [hmap]; exact hs'.skipG hbz2 hrs.1 hrs.2, hc', hu'⟩, hR, hM, hT, hL, hd⟩, hX, hMk, hS, hB⟩
        | false =>
          have hs6 := hs'.hitG hc' hE hzn hrs.1 hrs.2
          have hc6 : y = s ∨ (met'.set z true)[y]? = some true := by
            rcases hc' with h | h
            · exact .inl h
            · exact .inr ((set_met hzl y).2 (.inr h))
          have hu6 : unm (met'.set z true) + (todo' ++ [z]).length = unm met + td.length := by
            have h2 := unm_set hzl (by rw [hbz2]; simp)
            rw [List.length_append, List.length_singleton]
            omega
          have f1 := hM.frozenAt z
          obtain ⟨m6, g6⟩ := boolV_set hM z true
          have hs66 : (W.setCell ⟨w.heap.size + 1, z, none⟩ (.bool true)).heap.size = W.heap.size := by simp
          have T6 := hT.kept g6 (by intro e; injection e with e; omega)
          have hnl : tv'.ownBlock ≠ some (w.heap.size + 1) := fun e => by have := (hL.lt _ e).1; omega
          have L6 := hL.kept g6 (.inr hnl)
          have cT := T6.cell
          have Mk6 := hMk.kept g6 (fun r e => by
            cases e
            obtain ⟨c9, hc9⟩ := row_block hM (r := w.heap.size + 1) rfl
            exact hMk.not_cells hc9)
          have k6 : KpN Ab W (W.setCell ⟨w.heap.size + 1, z, none⟩ (.bool true)) := KpN.grown (by omega) g6 (fun r e => by
            cases e
            refine ⟨by omega, fun c9 h9 => ?_⟩
            obtain ⟨c8, hc8⟩ := row_block hM (r := w.heap.size + 1) rfl
            rw [hc8] at h9
            exact absurd (Obj.cells.inj (Option.some.inj h9)).2.1 (by decide))
          gi_wp2_with (gi_at_builtin; refine wpListIn_append_own_at _ rfl _ _ 25 rfl (w1.heap.size + 1) 3 i0 (.int .i64 0) 1 8 Tryz.underlying25 hi0 iz0 iz1 iz2 rfl (by decide) _ _ _ rfl (L6.alloc _) ⟨W.heap.size, 0, none⟩ 1 1 [.int .i64 (z : Int)] rfl rfl (cell_one_set _ _ _ _ _) (by simp [Value.oneCell']) (by unfold maxLen; omega) (by omega) (by simp; omega) ?_; intro v' w4 hown' hgrow _ hat4; obtain ⟨g', cap', rfl⟩ := ownsRow_succ hown'; obtain ⟨hv1, hv2, hr2, hk2, hb2⟩ := T6.appended (by decide) L6 (by omega) (by omega) hown' hgrow; have hc1 := hv1.cell; have hf1 := hv1.frozen)
          have blk : ∀ b, b < W.heap.size → b < w1.heap.size + 1 → b ≠ w.heap.size + 1 → (w4.setCell ⟨w1.heap.size + 1 + 1, 0, none⟩ (.slice (some ⟨g', 0, none⟩) (todo'.length + 1) cap')).heap[b]? = W.heap[b]? := fun b hb1 hb3 hb4 => (app_block hgrow (by omega) (fun e => by have := (hL.lt b e).1; omega) (by omega)).trans (g6.block b hb1 (fun e => by injection e with e; omega))
          refine ⟨((KeepsOthers.setCell W _ _).trans hk2).from _, k6.trans (KpN.appended (by omega) hd (by omega) hv1 L6 hgrow), ⟨met'.set z true, todo' ++ [z], _, ⟨by rw [hmap]; exact hs6, hc6, hu6⟩, (blk _ hRw (by omega) (by omega)).trans hR, row_same m6 (fun b hb => ?_), hv2, by simpa [intV, upI] using hr2, fun b hb => ?_⟩, box5_block hX (blk _ (by omega) (by omega) (by omega)), Mk6.appended hv1 L6 hgrow, ?_, ?_⟩
          · have h2 : w.heap.size + 1 = b := by simpa [Value.ownBlock] using hb
            subst h2
            exact app_block hgrow (by omega) hnl (by omega)
          · rcases hat4 with h4 | h4
            · exact hd b (h4.symm.trans hb)
            · have h5 := Option.some.inj (hb.symm.trans h4)
              simp at h5
              omega
          · have := hk2.size
            omega
          · exact (hB.setCell (p := ⟨w.heap.size + 1, z, none⟩) (by show w.heap.size ≤ w.heap.size + 1; omega) _).trans (hb2.mono (by omega))
      case done =>
        rintro D ys W hD hys ⟨⟨met', todo', tv', ⟨hs', hc', hu'⟩, hR, hM, hT, hL, hd⟩, hX, hMk, hS, hB⟩ hK
        rw [hys, restN_done] at hs'
        have hM2 := Lib.hid (hMk.cons (fun D' h' => K5.out.lt h') hD (by omega) hK)
        obtain ⟨va, vc, rfl, _⟩ := row_shape hL
        have e1 := leftW_eq hM hT.cell
        have e2 := leftW_eq hmr.out hbT.out.cell
        have HS2 := Lib.hid hs'
        have HR2 := Lib.hid hR
        have HMM := Lib.hid hM
        have HT2 := Lib.hid hT
        have HL2 := Lib.hid hL
        have HX2 := Lib.hid hX
        have HB2 := Lib.hid hB
        have hlt9 : leftW (w.heap.size + 1) (w1.heap.size + 1 + 1) W < leftW (w.heap.size + 1) (w1.heap.size + 1 + 1) wr := by rw [e1, e2]; omega
        have hle9 : unm met' + todo'.length ≤ n + 1 := by rw [List.length_append, List.length_singleton] at hum; omega
        clear hs' hR hM hT hL hX hMk hB hK e1 e2 hys
        gi_wp2
        exact ⟨⟨D :: Ds, todo', met', y, _, _, _, _, _, _, _, _, _, _, _, _, _, _, _, _, _, _, _, _, rfl, HS2.out, hle9, HR2.out, HMM.out, HT2.out, HL2.out, HX2.out, hM2.out, HB2.out⟩, hlt9⟩
      case stop =>
        rintro D c pre W _ _ h _
        exact h.elim
noncomputable def nxN (x : KTree) (i : Nat) : List Nat := if h : i < x.ins.length then nextN i (x.ins[i]'h) else []
theorem nxN_eq {x : KTree} {i : Nat} (h : i < x.ins.length) : nxN x i = nextN i x.ins[i] := by unfold nxN; rw [dif_pos h]
theorem reachG_next (x : KTree) (s : Nat) : reachG (nxN x) x.ins.length s = reachB x s := by
  have key : ∀ a b, srE (nxN x) x.ins.length a b ↔ nxE x a b := fun a b => by
    unfold srE nxE
    constructor
    · rintro ⟨h1, h2⟩
      rw [nxN_eq h1] at h2
      exact ⟨h1, h2⟩
    · rintro ⟨h1, h2⟩
      exact ⟨h1, by rw [nxN_eq h1]; exact h2⟩
  have key2 : ∀ y, Rch (srE (nxN x) x.ins.length) s y ↔ Rch (nxE x) s y := fun y => by
    constructor
    · intro h
      induction h with
      | one h1 => exact .one ((key _ _).1 h1)
      | more _ h1 ih => exact .more ih ((key _ _).1 h1)
    · intro h
      induction h with
      | one h1 => exact .one ((key _ _).2 h1)
      | more _ h1 ih => exact .more ih ((key _ _).2 h1)
  refine bools_ext (by rw [reachG_length, reachB_length]) fun y => ?_
  rw [reachG_at, reachB_at, key2]
/-- nextPlaces itself tells what comes next. -/
theorem nexts_any (x : KTree) (v : Value) (w : World) (hl : KIn w x v) (hk : okK x = true) : NextsBy v (.func (.func 72) #[] #[]) (nxN x) x.ins.length w := by
  refine ⟨_, _, rfl, enters_of Tryz.func72 (by kernel_rfl) rfl, fun y hy wx hb => ?_⟩
  obtain ⟨ga, gc, la, lc, pa, pc, ea, ec, ia, ic, rfl, h1, h2, h3, h4, h5, _⟩ := hl
  obtain ⟨g, o, rfl, hc⟩ := atIns rfl h5 hy
  rw [nxN_eq hy]
  have hlen := okK_len hk
  refine (callsIn_wide.2 (nextPlaces_any _ _ _ _ _ _ wx)).mono ?_
  rintro e w3 ⟨rfl, hb3, hk3, ha3, hs3⟩
  exact ⟨_, _, _, rfl, hb3, by omega, by omega, enters_of Tryz.func100 (by kernel_rfl) rfl,
    next_stopsS Fence.wide 5 trivial rfl (by omega) x.ins[y] y x.ins.length _ _ _ _ g o ic _ _ w3 hy hlen (fun h2 => (okK_to hk hy h2).1) hk3 ha3 ((hc y hy).keep (keeps_below (hb.trans (hb3.mono hb.size))))⟩
set_option maxRecDepth 20000 in
set_option maxHeartbeats 1600000 in
theorem implReach_any (x : KTree) (s : Nat) (v : Value) (w : World) (hl : KIn w x v) (hk : okK x = true) (hs : s < x.ins.length) :
    Calls Tryz.prog 73 #[v, .int .i64 (s : Int)] w (ListB (reachB x s) w) := by
  have CR := Lib.hid (fun wx (hb : Below w.heap.size w wx) => implReachBy_any x _ s v (.func (.func 72) #[] #[]) wx (hl.keep (keeps_below hb)) hk hs (fun y hy z hz => by rw [nxN_eq hy] at hz; exact nextN_lt hk hy z hz) (fun wy hb2 => nexts_any x v wy (hl.keep (keeps_below (hb.trans (hb2.mono hb.size)))) hk))
  rw [reachG_next] at CR
  obtain ⟨ga, gc, la, lc, pa, pc, ea, ec, ia, ic, rfl, _⟩ := hl
  have X0 := Lib.hid (Box5.new w (.slice ga x.globals.length gc) (.slice la x.locks.length lc) (.slice pa x.procs.length pc) (.slice ea x.entry.length ec) (.slice ia x.ins.length ic) 28)
  have B0 := Lib.hid ((Below.refl w.heap.size w).alloc (Nat.le_refl _) (.cells #[.slice ga x.globals.length gc, .slice la x.locks.length lc, .slice pa x.procs.length pc, .slice ea x.entry.length ec, .slice ia x.ins.length ic] 28))
  obtain ⟨p0, p1, p2, p3, p4⟩ := X0.out
  obtain ⟨bs, hbs⟩ : ∃ z, z = reachB x s := ⟨_, rfl⟩
  rw [← hbs] at CR ⊢
  clear hbs hs hk
  go_enter Tryz.func73, Tryz.ntmps73
  go_wp2_with fail
  refine (CR.out _ B0.out).mono ?_
  rintro e w2 ⟨ov, rfl, hr, hb⟩
  have HR := Lib.hid (World.ownsRow.mono hr B0.out.size)
  have B2 := Lib.hid (B0.out.trans (hb.mono B0.out.size))
  clear hr hb
  go_wp2_with fail
  go_ret
  exact ⟨_, rfl, HR.out, B2.out⟩
end Go.Proofs.YtofmccihehalcaaGreat.Trm
/- The program's EndOf, walked. Conditions: the code lies in memory; at most 2 to the 20 names and terms. -/
namespace Go.Proofs.YtofmccihehalcaaGreat.Trm
open Go.RowKit Go.Proofs.YtofmccihehalcaaGreat.Own
set_option maxRecDepth 20000 in
set_option maxHeartbeats 1600000 in
theorem implEndWith_any (x : KTree) (m : Nat) (v : Value) (w : World) (hl : KLies w x v) (hk : okK x = true) (hm0 : m < x.entry.length) :
    Calls Tryz.prog 86 #[v, .int .i64 (m : Int)] w fun e w' => e = .returned (.int .i64 (endI x.entry x.ins.length m)) ∧ Below w.heap.size w w' := by
  obtain ⟨ga, gc, la, lc, pa, pc, ea, ec, ia, ic, rfl, h1, h2, h3, h4, h5⟩ := hl
  obtain ⟨n, hn⟩ : ∃ n, n = x.ins.length := ⟨_, rfl⟩
  have hr := okK_ris hk
  rw [← hn] at h5 hr ⊢
  have hlm : n ≤ 9223372036854775807 := by rw [hn]; exact h5.1
  have hel : x.entry.length ≤ 9223372036854775807 := by obtain ⟨_, _, _, h, _⟩ := h4; exact h
  have HENT := Lib.hid (fun wx (hb : Below w.heap.size w wx) => h4.keep (keeps_below hb))
  have X0 := Lib.hid (Box5.new w (.slice ga x.globals.length gc) (.slice la x.locks.length lc) (.slice pa x.procs.length pc) (.slice ea x.entry.length ec) (.slice ia n ic) 28)
  have B0 := Lib.hid ((Below.refl w.heap.size w).alloc (Nat.le_refl _) (.cells #[.slice ga x.globals.length gc, .slice la x.locks.length lc, .slice pa x.procs.length pc, .slice ea x.entry.length ec, .slice ia n ic] 28))
  have HR := Lib.hid hr
  obtain ⟨zz, hzz⟩ : ∃ z, endI x.entry n m = z := ⟨_, rfl⟩
  rw [hzz]
  have HZ := Lib.hid hzz
  clear h1 h2 h3 h4 h5 hn hk hr hzz
  obtain ⟨W1, hW1⟩ : ∃ W, W = w.alloc (.cells #[.slice ga x.globals.length gc, .slice la x.locks.length lc, .slice pa x.procs.length pc, .slice ea x.entry.length ec, .slice ia n ic] 28) := ⟨_, rfl⟩
  obtain ⟨p0, p1, p2, p3, p4⟩ := X0.out
  rw [← hW1] at X0 B0
  have HW1 := Lib.hid hW1
  have HI := Lib.hid (HENT.out _ B0.out)
  clear hW1
  have hn0 : (0 : Int) < (n : Int) := by have h1 := HR.out.1; have h2 := HR.out.2.1; have h3 := HR.out.below h1; omega
  by_cases hm : m + 1 < x.entry.length
  · have HF2 : Hid (zz = x.entry[m + 1] - 1) := by show _ = _; rw [← HZ.out]; unfold endI; rw [dif_pos hm]
    have hlo := HR.out.nonneg hm
    have hhi := HR.out.below hm
    obtain ⟨a2, c2, e2, _, _, hk2⟩ := HI.out
    simp at e2
    obtain ⟨rfl, rfl⟩ := e2
    obtain ⟨g, o, rfl, hc⟩ := hk2 (by omega)
    have c0 := hc (m + 1) hm
    have e1 : ((m : Int) == (x.entry.length : Int) - 1) = false := by rw [beq_eq_false_iff_ne]; omega
    have e3 : ¬ (m : Int) = (x.entry.length : Int) - 1 := by omega
    clear hc hk2 HZ
    generalize x.entry[m + 1] = z at *
    rw [HW1.out] at c0
    go_enter Tryz.func86, Tryz.ntmps86
    go_wp2
    go_ret
    rw [← HW1.out]
    exact ⟨ret_z (by rw [HF2.out]), B0.out⟩
  · have HF2 : Hid (zz = (n : Int) - 1) := by show _ = _; rw [← HZ.out]; unfold endI; rw [dif_neg hm]
    have e1 : ((m : Int) == (x.entry.length : Int) - 1) = true := by rw [beq_iff_eq]; omega
    have e3 : (m : Int) = (x.entry.length : Int) - 1 := by omega
    clear HZ
    go_enter Tryz.func86, Tryz.ntmps86
    go_wp2
    go_ret
    rw [← HW1.out]
    exact ⟨ret_z (by rw [HF2.out]), B0.out⟩
set_option maxRecDepth 20000 in
set_option maxHeartbeats 1600000 in
theorem implEndOf_any (x : KTree) (a : Int) (v : Value) (w : World) (hl : KLies w x v) (hz : szK x ≤ 1048576) (hai : InI a) :
    Calls Tryz.prog 45 #[v, .int .i64 a] w fun e w' => e = .returned (.int .i64 (endZ x a)) ∧ Below w.heap.size w w' := by
  have CK := Lib.hid (fun wx (hb : Below w.heap.size w wx) => implCodeOk_any x v wx (hl.keep (keeps_below hb)) hz)
  have CW := Lib.hid (fun wx (hb : Below w.heap.size w wx) m (hk : okK x = true) (hm : m < x.entry.length) => implEndWith_any x m v wx (hl.keep (keeps_below hb)) hk hm)
  obtain ⟨ga, gc, la, lc, pa, pc, ea, ec, ia, ic, rfl, h1, h2, h3, h4, h5⟩ := hl
  obtain ⟨n, hn⟩ : ∃ n, n = x.ins.length := ⟨_, rfl⟩
  have HNL := Lib.hid hn
  rw [← hn] at h5 CK CW ⊢
  have hlm : n ≤ 9223372036854775807 := by rw [hn]; exact h5.1
  have hpl : x.procs.length ≤ 9223372036854775807 := by obtain ⟨_, _, _, h, _⟩ := h3.1; exact h
  have hel : x.entry.length ≤ 9223372036854775807 := by obtain ⟨_, _, _, h, _⟩ := h4; exact h
  have HRI : Hid (okK x = true → Ris x.entry n ∧ x.entry.length = x.procs.length) := fun h => by
    have h2 : kHeads x = true := by unfold okK at h; rw [Bool.and_eq_true] at h; exact h.1
    have h3 := kHeads_ent h2
    have h4 := h3.1.1
    rw [← hn] at h4
    exact ⟨h4, h3.2.1⟩
  have HENT := Lib.hid (fun wx (hb : Below w.heap.size w wx) => h4.keep (keeps_below hb))
  have X0 := Lib.hid (Box5.new w (.slice ga x.globals.length gc) (.slice la x.locks.length lc) (.slice pa x.procs.length pc) (.slice ea x.entry.length ec) (.slice ia n ic) 28)
  have B0 := Lib.hid ((Below.refl w.heap.size w).alloc (Nat.le_refl _) (.cells #[.slice ga x.globals.length gc, .slice la x.locks.length lc, .slice pa x.procs.length pc, .slice ea x.entry.length ec, .slice ia n ic] 28))
  obtain ⟨kb, hkb⟩ : ∃ b, okK x = b := ⟨_, rfl⟩
  rw [hkb] at CK HRI CW
  have HZ : Hid (endZ x a = if kb = true ∧ 0 ≤ a ∧ a < (x.procs.length : Int) then endI x.entry n a.toNat else -1) := by show _ = _; unfold endZ; rw [hkb, hn]
  obtain ⟨zz, hzz⟩ : ∃ z, endZ x a = z := ⟨_, rfl⟩
  rw [hzz] at HZ
  rw [hzz]
  unfold InI at hai
  clear h1 h2 h3 h4 h5 hz hn hkb hzz
  obtain ⟨W1, hW1⟩ : ∃ W, W = w.alloc (.cells #[.slice ga x.globals.length gc, .slice la x.locks.length lc, .slice pa x.procs.length pc, .slice ea x.entry.length ec, .slice ia n ic] 28) := ⟨_, rfl⟩
  obtain ⟨p0, p1, p2, p3, p4⟩ := X0.out
  rw [← hW1] at X0 B0
  have HW1 := Lib.hid hW1
  clear hW1
  go_enter Tryz.func45, Tryz.ntmps45
  go_wp2_with fail
  rw [← HW1.out] at p0 p1 p2 p3 p4 ⊢
  refine (CK.out _ B0.out).mono ?_
  rintro e w2 ⟨rfl, hb⟩
  have B2 := Lib.hid (B0.out.trans (hb.mono B0.out.size))
  have X2 := Lib.hid (X0.out.keep (keeps_below hb))
  clear hb p0 p1 p2 p3 p4
  obtain ⟨p0, p1, p2, p3, p4⟩ := X2.out
  cases kb with
  | false =>
    have HF : Hid (zz = -1) := by show _ = _; rw [HZ.out]; simp
    go_wp2_with fail
    go_ret
    exact ⟨ret_z (by rw [HF.out]), B2.out⟩
  | true =>
    obtain ⟨hr, hep⟩ := HRI.out (by first | rfl | trivial)
    have HR := Lib.hid hr
    have HEP := Lib.hid hep
    have HI := Lib.hid (HENT.out _ B2.out)
    clear hr hep
    by_cases ha0 : 0 ≤ a
    rotate_left
    · have HF : Hid (zz = -1) := by show _ = _; rw [HZ.out, if_neg (fun h => ha0 h.2.1)]
      go_wp2_with fail
      go_ret
      exact ⟨ret_z (by rw [HF.out]), B2.out⟩
    by_cases ha1 : a < (x.entry.length : Int)
    rotate_left
    · have HF : Hid (zz = -1) := by show _ = _; rw [HZ.out, if_neg (fun h => ha1 (by have := HEP.out; omega))]
      go_wp2_with fail
      go_ret
      exact ⟨ret_z (by rw [HF.out]), B2.out⟩
    obtain ⟨m, rfl⟩ : ∃ m : Nat, a = (m : Int) := ⟨a.toNat, by omega⟩
    have HF : Hid (zz = endI x.entry n m) := by
      show _ = _
      rw [HZ.out, if_pos ⟨by first | rfl | trivial, ha0, by have := HEP.out; omega⟩]
      rfl
    clear HZ
    go_wp2_with fail
    refine (CW.out _ B2.out m (by first | rfl | trivial) (by omega)).mono ?_
    rintro e w3 ⟨rfl, hb⟩
    have B3 := Lib.hid (B2.out.trans (hb.mono B2.out.size))
    clear hb
    go_wp2_with fail
    go_ret
    exact ⟨ret_z (by rw [HF.out]), B3.out⟩
end Go.Proofs.YtofmccihehalcaaGreat.Trm
/- The program's ReachIn, LiveIn, InLoop, walked. Conditions: the code lies in memory; at most 2 to the 20 names and terms. -/
namespace Go.Proofs.YtofmccihehalcaaGreat.Trm
open Go.RowKit Go.Proofs.YtofmccihehalcaaGreat.Own
set_option maxHeartbeats 1600000 in
theorem implMarked_any (bs : List Bool) (v : Value) (base : Nat) (w : World) (hn15 : bs.length ≤ 1500) (hr : w.ownsRow base 4 1 v bs.length (boolV bs)) :
    Calls Tryz.prog 47 #[v] w (ListI (upI (markedN 0 bs)) w) := by
  obtain ⟨i0, hi, hz0, hz1, hz2⟩ := info_parts infoIntL
  obtain ⟨a, c, rfl, ha⟩ := row_shape hr
  have HA := Lib.hid ha
  have HR := Lib.hid hr
  obtain ⟨n, hn⟩ : ∃ n, n = bs.length := ⟨_, rfl⟩
  have HN := Lib.hid hn
  rw [← hn] at hn15 HA HR ⊢
  clear ha hr hn
  go_enter Tryz.func47, Tryz.ntmps47
  go_wp2
  go_loopw [3, 8] (fun ov iv wr => ∃ (j : Nat) (ls : List Nat), j ≤ n ∧ iv = .int .i64 j ∧ Hid (ls = markedN 0 (bs.take j)) ∧ Hid (wr.ownsRow w.heap.size 3 1 ov ls.length (intV (upI ls))) ∧ Hid (Below w.heap.size w wr))
    (fun _ iv _ => n - (intOf iv).toNat)
  case atStart => exact ⟨0, [], Nat.zero_le _, rfl, rfl, World.ownsRow_nil _ _ _ _, Below.refl _ _⟩
  case round =>
    obtain ⟨j, ls, hj, rfl, hls, hrow, hbe⟩ := hrel
    obtain ⟨oa, oc, rfl, _⟩ := row_shape hrow.out
    have hll : ls.length ≤ 1500 := by rw [hls.out]; have := markedN_le 0 (bs.take j); rw [List.length_take] at this; omega
    by_cases hlt : j < n
    · obtain ⟨g, rfl⟩ := HA.out (by omega)
      have hjb : j < bs.length := by have := HN.out; omega
      have c0 := boolV_cell (row_below HR.out hbe.out) j hjb
      have hmt := markedN_take hjb
      obtain ⟨b, hb⟩ : ∃ b, bs[j] = b := ⟨_, rfl⟩
      rw [hb] at c0 hmt
      rw [← hls.out] at hmt
      have HMT := Lib.hid hmt
      clear hb hmt
      cases b with
      | false =>
        have HL : Hid (ls = markedN 0 (bs.take (j + 1))) := by show _ = _; rw [HMT.out]; simp
        go_wp2
        go_roundw
        case rel => exact ⟨j + 1, ls, by omega, by go_num, HL.out, hrow.out, hbe.out⟩
        case measure => simp [intOf]; omega
      | true =>
        have HL : Hid (ls ++ [j] = markedN 0 (bs.take (j + 1))) := by show _ = _; rw [HMT.out]; simp
        have hsw : w.heap.size ≤ wr.heap.size := hbe.out.size
        go_wp2_with (at_builtin; refine wpList_append_lies _ rfl (.tmp 14) (.tmp 16) 25 rfl w.heap.size 3 i0 (.int .i64 0) 1 8 Tryz.underlying25 hi hz0 hz1 hz2 rfl (by decide) (.slice oa ls.length oc) ls.length _ rfl (hrow.out.alloc _) ⟨wr.heap.size, 0, none⟩ 1 1 [.int .i64 (j : Int)] rfl rfl (World.news_of_block (heap_alloc_new _ _)) (one_intV [(j : Int)]) (by decide) (by unfold maxLen; omega) (by omega) (by simp; omega) _ rfl ?_)
        intro g1 cap1 w5 hown1 hg1 hat1 hlt1
        have HB5 : Hid (Below w.heap.size w w5) := (hbe.out.alloc hsw _).grown hg1 (by simp; omega) (fun k hk => (hrow.out.lt k hk).1)
        have HR5 : Hid (w5.ownsRow w.heap.size 3 1 (.slice (some ⟨g1, 0, none⟩) (ls.length + 1) cap1) (ls ++ [j]).length (intV (upI (ls ++ [j])))) := by
          show World.ownsRow _ _ _ _ _ _ _
          have := hown1
          simpa [intV, upI] using this
        clear hown1 hg1 hat1 hlt1
        go_wp2
        go_roundw
        case rel => exact ⟨j + 1, ls ++ [j], by omega, by go_num, HL.out, HR5.out, HB5.out⟩
        case measure => simp [intOf]; omega
    · have HL : Hid (ls = markedN 0 bs) := by show _ = _; rw [hls.out, List.take_of_length_le (by have := HN.out; omega)]
      have hul := upI_length ls
      go_wp2
      go_ret
      exact ⟨_, rfl, by rw [← HL.out, hul]; exact hrow.out, hbe.out⟩
set_option maxRecDepth 20000 in
set_option maxHeartbeats 1600000 in
theorem implReachIn_any (x : KTree) (a : Int) (v : Value) (w : World) (hl : KIn w x v) (hz : szK x ≤ 1048576) :
    Calls Tryz.prog 35 #[v, .int .i64 a] w (ListI (upI (reachAns x a)) w) := by
  have CA := Lib.hid (fun wx (hb : Below w.heap.size w wx) => implProcOf_any x a v wx (KIn.lies (hl.keep (keeps_below hb))) hz)
  have CR := Lib.hid (fun wx (hb : Below w.heap.size w wx) s (hk : okK x = true) (hs : s < x.ins.length) => implReach_any x s v wx (hl.keep (keeps_below hb)) hk hs)
  obtain ⟨ga, gc, la, lc, pa, pc, ea, ec, ia, ic, rfl, h1, h2, h3, h4, h5, _⟩ := hl
  obtain ⟨n, hn⟩ : ∃ n, n = x.ins.length := ⟨_, rfl⟩
  rw [← hn] at h5 CA CR ⊢
  have HN := Lib.hid hn
  have X0 := Lib.hid (Box5.new w (.slice ga x.globals.length gc) (.slice la x.locks.length lc) (.slice pa x.procs.length pc) (.slice ea x.entry.length ec) (.slice ia n ic) 28)
  have B0 := Lib.hid ((Below.refl w.heap.size w).alloc (Nat.le_refl _) (.cells #[.slice ga x.globals.length gc, .slice la x.locks.length lc, .slice pa x.procs.length pc, .slice ea x.entry.length ec, .slice ia n ic] 28))
  obtain ⟨rs, hrs⟩ : ∃ rs, rs = upI (reachAns x a) := ⟨_, rfl⟩
  have HRS := Lib.hid hrs
  rw [← hrs]
  clear h1 h2 h3 h4 h5 hz hn hrs
  obtain ⟨W1, hW1⟩ : ∃ W, W = w.alloc (.cells #[.slice ga x.globals.length gc, .slice la x.locks.length lc, .slice pa x.procs.length pc, .slice ea x.entry.length ec, .slice ia n ic] 28) := ⟨_, rfl⟩
  obtain ⟨p0, p1, p2, p3, p4⟩ := X0.out
  rw [← hW1] at X0 B0
  have HW1 := Lib.hid hW1
  clear hW1
  go_enter Tryz.func35, Tryz.ntmps35
  go_wp2_with fail
  rw [← HW1.out] at p0 p1 p2 p3 p4 ⊢
  refine (CA.out _ B0.out).mono ?_
  rintro e w2 ⟨z, rfl, hpz, hb⟩
  have B2 := Lib.hid (B0.out.trans (hb.mono B0.out.size))
  have X2 := Lib.hid (X0.out.keep (keeps_below hb))
  clear hb p0 p1 p2 p3 p4
  obtain ⟨p0, p1, p2, p3, p4⟩ := X2.out
  have hzn := procAns_neg hpz
  obtain ⟨kb, hkb⟩ : ∃ b, atB x a = b := ⟨_, rfl⟩
  have HKB := Lib.hid hkb
  rw [hkb] at hzn
  clear hkb hpz
  cases kb with
  | false =>
    have HF : Hid (rs = []) := by show _ = _; rw [HRS.out]; unfold reachAns; rw [if_neg (fun h => by rw [HKB.out] at h; cases h)]; rfl
    have hz1 : z < 0 := hzn.2 rfl
    clear hzn
    go_wp2_with fail
    go_ret
    exact ⟨_, rfl, by rw [HF.out]; exact World.ownsRow_nil _ _ _ _, B2.out⟩
  | true =>
    obtain ⟨hk, ha0, ha1⟩ := atB_iff.1 HKB.out
    obtain ⟨i, rfl⟩ : ∃ i : Nat, a = (i : Int) := ⟨a.toNat, by omega⟩
    have hi : i < x.ins.length := by omega
    have hlen := okK_len hk
    have HF : Hid (rs = upI (markedN 0 (reachB x i))) := by
      show _ = _
      rw [HRS.out]
      unfold reachAns
      rw [if_pos HKB.out]
      rfl
    have C := Lib.hid (CR.out _ B2.out i hk (by have := HN.out; omega))
    have hrl := reachB_length x i
    obtain ⟨bs, hbs⟩ : ∃ z, z = reachB x i := ⟨_, rfl⟩
    rw [← hbs] at C HF hrl
    have hbl : bs.length ≤ 1500 := by omega
    clear hk ha0 ha1 hlen hbs hrl
    have hz1 : ¬ z < 0 := fun h => by have := hzn.1 h; cases this
    clear hzn
    go_wp2_with fail
    refine C.out.mono ?_
    rintro e w3 ⟨bv, rfl, hr3, hb3⟩
    have R3 := Lib.hid hr3
    have B3 := Lib.hid (B2.out.trans (hb3.mono B2.out.size))
    clear hr3 hb3 p0 p1 p2 p3 p4
    go_wp2_with fail
    refine (implMarked_any bs bv _ w3 hbl R3.out).mono ?_
    rintro e w4 ⟨ov, rfl, hr, hb⟩
    have HRo := Lib.hid (World.ownsRow.mono hr B3.out.size)
    have B4 := Lib.hid (B3.out.trans (hb.mono B3.out.size))
    clear hr hb
    go_wp2_with fail
    go_ret
    exact ⟨_, rfl, by rw [HF.out]; exact HRo.out, B4.out⟩
set_option maxRecDepth 20000 in
set_option maxHeartbeats 1600000 in
theorem implInLoop_any (x : KTree) (a : Int) (v : Value) (w : World) (hl : KIn w x v) (hz : szK x ≤ 1048576) :
    Calls Tryz.prog 38 #[v, .int .i64 a] w fun e w' => e = .returned (.bool (loopAns x a)) ∧ Below w.heap.size w w' := by
  have CA := Lib.hid (fun wx (hb : Below w.heap.size w wx) => implProcOf_any x a v wx (KIn.lies (hl.keep (keeps_below hb))) hz)
  have CR := Lib.hid (fun wx (hb : Below w.heap.size w wx) s (hk : okK x = true) (hs : s < x.ins.length) => implReach_any x s v wx (hl.keep (keeps_below hb)) hk hs)
  obtain ⟨ga, gc, la, lc, pa, pc, ea, ec, ia, ic, rfl, h1, h2, h3, h4, h5, _⟩ := hl
  obtain ⟨n, hn⟩ : ∃ n, n = x.ins.length := ⟨_, rfl⟩
  rw [← hn] at h5 CA CR ⊢
  have HN := Lib.hid hn
  have X0 := Lib.hid (Box5.new w (.slice ga x.globals.length gc) (.slice la x.locks.length lc) (.slice pa x.procs.length pc) (.slice ea x.entry.length ec) (.slice ia n ic) 28)
  have B0 := Lib.hid ((Below.refl w.heap.size w).alloc (Nat.le_refl _) (.cells #[.slice ga x.globals.length gc, .slice la x.locks.length lc, .slice pa x.procs.length pc, .slice ea x.entry.length ec, .slice ia n ic] 28))
  obtain ⟨rs, hrs⟩ : ∃ rs, rs = loopAns x a := ⟨_, rfl⟩
  have HRS := Lib.hid hrs
  rw [← hrs]
  clear h1 h2 h3 h4 h5 hz hn hrs
  obtain ⟨W1, hW1⟩ : ∃ W, W = w.alloc (.cells #[.slice ga x.globals.length gc, .slice la x.locks.length lc, .slice pa x.procs.length pc, .slice ea x.entry.length ec, .slice ia n ic] 28) := ⟨_, rfl⟩
  obtain ⟨p0, p1, p2, p3, p4⟩ := X0.out
  rw [← hW1] at X0 B0
  have HW1 := Lib.hid hW1
  clear hW1
  go_enter Tryz.func38, Tryz.ntmps38
  go_wp2_with fail
  rw [← HW1.out] at p0 p1 p2 p3 p4 ⊢
  refine (CA.out _ B0.out).mono ?_
  rintro e w2 ⟨z, rfl, hpz, hb⟩
  have B2 := Lib.hid (B0.out.trans (hb.mono B0.out.size))
  have X2 := Lib.hid (X0.out.keep (keeps_below hb))
  clear hb p0 p1 p2 p3 p4
  obtain ⟨p0, p1, p2, p3, p4⟩ := X2.out
  have hzn := procAns_neg hpz
  obtain ⟨kb, hkb⟩ : ∃ b, atB x a = b := ⟨_, rfl⟩
  have HKB := Lib.hid hkb
  rw [hkb] at hzn
  clear hkb hpz
  cases kb with
  | false =>
    have HF : Hid (rs = false) := by show _ = _; rw [HRS.out]; unfold loopAns; rw [HKB.out]; rfl
    have hz1 : ¬ 0 ≤ z := by have := hzn.2 rfl; omega
    clear hzn
    go_wp2_with fail
    go_ret
    exact ⟨ret_b2 (by rw [HF.out]), B2.out⟩
  | true =>
    obtain ⟨hk, ha0, ha1⟩ := atB_iff.1 HKB.out
    obtain ⟨i, rfl⟩ : ∃ i : Nat, a = (i : Int) := ⟨a.toNat, by omega⟩
    have hi : i < x.ins.length := by omega
    have hlen := okK_len hk
    have C := Lib.hid (CR.out _ B2.out i hk (by have := HN.out; omega))
    have hrl := reachB_length x i
    have HF : Hid (∀ b, (reachB x i)[i]? = some b → rs = b) := fun b hb => by
      rw [HRS.out]
      unfold loopAns
      rw [HKB.out]
      have h1 : ((i : Int)).toNat = i := rfl
      rw [h1, hb]
      cases b <;> simp
    obtain ⟨bs, hbs⟩ : ∃ z, z = reachB x i := ⟨_, rfl⟩
    rw [← hbs] at C HF hrl
    have hbl : bs.length = n := by have := HN.out; omega
    have hin : i < bs.length := by omega
    have HF2 : Hid (rs = bs[i]) := HF.out _ (List.getElem?_eq_getElem hin)
    have hn15 : n ≤ 1500 := by have := HN.out; omega
    clear hk ha0 ha1 hlen hbs hrl HF
    have hz1 : 0 ≤ z := Int.not_lt.1 (fun h => by have := hzn.1 h; cases this)
    clear hzn
    go_wp2_with fail
    refine C.out.mono ?_
    rintro e w3 ⟨bv, rfl, hr3, hb3⟩
    obtain ⟨ba, bc, rfl, hba⟩ := row_shape hr3
    obtain ⟨bg, rfl⟩ := hba (by omega)
    have c0 := boolV_cell hr3 i hin
    have B3 := Lib.hid (B2.out.trans (hb3.mono B2.out.size))
    rw [← HF2.out] at c0
    clear hr3 hb3 p0 p1 p2 p3 p4 hba
    go_wp2_with fail
    go_ret
    exact ⟨rfl, B3.out⟩
theorem endZ_neg {x : KTree} {a : Int} : endZ x a < 0 ↔ ¬ (okK x = true ∧ 0 ≤ a ∧ a < (x.procs.length : Int)) := by
  unfold endZ
  by_cases h : okK x = true ∧ 0 ≤ a ∧ a < (x.procs.length : Int)
  · rw [if_pos h]
    constructor
    · intro h2
      exfalso
      have hr := okK_ris h.1
      have h3 : kHeads x = true := by have h4 := h.1; unfold okK at h4; rw [Bool.and_eq_true] at h4; exact h4.1
      have hep := (kHeads_ent h3).2.1
      have hlt : a.toNat < x.entry.length := by omega
      unfold endI at h2
      split at h2
      · rename_i h5
        have h6 := hr.lt (i := a.toNat) (j := a.toNat + 1) (by omega) h5
        have h7 := hr.nonneg hlt
        omega
      · have h6 := hr.below hlt
        have h7 := hr.nonneg hlt
        omega
    · intro h2; exact absurd h h2
  · rw [if_neg h]
    constructor
    · intro _; exact h
    · intro _; omega
set_option maxRecDepth 20000 in
set_option maxHeartbeats 3200000 in
theorem implLivePlaces_any (x : KTree) (p : Nat) (v : Value) (w : World) (hl : KIn w x v) (hk : okK x = true) (hp : p < x.entry.length) :
    Calls Tryz.prog 81 #[v, .int .i64 (p : Int)] w (ListI (upI (markedN 0 (liveB x p))) w) := by
  have CR := Lib.hid (fun wx (hb : Below w.heap.size w wx) => implReach_any x (entN x p) v wx (hl.keep (keeps_below hb)) hk (entN_lt hk hp))
  have he := entN_eq hk hp
  have hen := entN_lt hk hp
  have hnn := okK_len hk
  obtain ⟨ga, gc, la, lc, pa, pc, ea, ec, ia, ic, rfl, h1, h2, h3, h4, h5, _⟩ := hl
  obtain ⟨n, hn⟩ : ∃ n, n = x.ins.length := ⟨_, rfl⟩
  rw [← hn] at h5 CR hen hnn ⊢
  have hel : x.entry.length ≤ 9223372036854775807 := by obtain ⟨_, _, _, h, _⟩ := h4; exact h
  have X0 := Lib.hid (Box5.new w (.slice ga x.globals.length gc) (.slice la x.locks.length lc) (.slice pa x.procs.length pc) (.slice ea x.entry.length ec) (.slice ia n ic) 28)
  have B0 := Lib.hid ((Below.refl w.heap.size w).alloc (Nat.le_refl _) (.cells #[.slice ga x.globals.length gc, .slice la x.locks.length lc, .slice pa x.procs.length pc, .slice ea x.entry.length ec, .slice ia n ic] 28))
  have HF : Hid (liveB x p = (reachB x (entN x p)).set (entN x p) true) := rfl
  have hrl := reachB_length x (entN x p)
  obtain ⟨e, hee⟩ : ∃ e, e = entN x p := ⟨_, rfl⟩
  rw [← hee] at he CR HF hrl hen
  obtain ⟨bs, hbs⟩ : ∃ z, z = reachB x e := ⟨_, rfl⟩
  rw [← hbs] at CR HF hrl
  have hbl : bs.length = n := by omega
  have hsl : (bs.set e true).length = n := by rw [List.length_set]; exact hbl
  obtain ⟨a2, c2, e2, _, _, hk4⟩ := h4
  simp at e2
  obtain ⟨rfl, rfl⟩ := e2
  obtain ⟨eg, eo, rfl, hec⟩ := hk4 (by omega)
  have q0 := keeps_below B0.out _ _ (hec p hp)
  rw [he] at q0
  have hpl : (p : Int) < (x.entry.length : Int) := by omega
  rw [HF.out]
  clear h1 h2 h3 h5 hk hk4 hec he hbs hee hrl hn HF
  obtain ⟨W1, hW1⟩ : ∃ W, W = w.alloc (.cells #[.slice ga x.globals.length gc, .slice la x.locks.length lc, .slice pa x.procs.length pc, .slice (some ⟨eg, eo, none⟩) x.entry.length ec, .slice ia n ic] 28) := ⟨_, rfl⟩
  obtain ⟨p0, p1, p2, p3, p4⟩ := X0.out
  have HW1 := Lib.hid hW1
  clear hW1
  go_enter Tryz.func81, Tryz.ntmps81
  go_wp2_with fail
  rw [← HW1.out] at p0 p1 p2 p3 p4 q0 B0 ⊢
  refine (CR.out _ B0.out).mono ?_
  rintro en w3 ⟨bv, rfl, hr3, hb3⟩
  rw [hbl] at hr3
  obtain ⟨ba, bc, rfl, hba⟩ := row_shape hr3
  obtain ⟨bg, rfl⟩ := hba (by omega)
  have hbg := (hr3.lt bg rfl).1
  have hw2s : w.heap.size ≤ W1.heap.size := B0.out.size
  have B3 := Lib.hid (B0.out.trans (hb3.mono B0.out.size))
  have c3 := boolV_cell hr3 e (by omega)
  have f3 := hr3.frozenAt e
  obtain ⟨m4, g4⟩ := boolV_set hr3 e true
  have M4 := Lib.hid m4
  have B4 := Lib.hid (B3.out.grown g4 B3.out.size (fun k hk => by cases hk; omega))
  obtain ⟨W4, hW4⟩ : ∃ W, W = w3.setCell ⟨bg, e, none⟩ (.bool true) := ⟨_, rfl⟩
  rw [← hW4] at M4 B4
  have HW4 := Lib.hid hW4
  have CM := Lib.hid (implMarked_any (bs.set e true) _ W1.heap.size W4 (by omega) (by rw [hsl]; exact M4.out))
  clear p0 p1 p2 p3 p4 q0 m4 g4 hba hb3 hr3 hW4
  go_wp2_with fail
  rw [← HW4.out]
  refine CM.out.mono ?_
  rintro en w5 ⟨ov, rfl, hr, hb⟩
  have HRo := Lib.hid (World.ownsRow.mono hr B4.out.size)
  have B5 := Lib.hid (B4.out.trans (hb.mono B4.out.size))
  clear hr hb
  go_wp2_with fail
  go_ret
  exact ⟨_, rfl, HRo.out, B5.out⟩
set_option maxRecDepth 20000 in
set_option maxHeartbeats 3200000 in
theorem implLiveIn_any (x : KTree) (a : Int) (v : Value) (w : World) (hl : KIn w x v) (hz : szK x ≤ 1048576) (hai : InI a) :
    Calls Tryz.prog 41 #[v, .int .i64 a] w (ListI (upI (liveAns x a)) w) := by
  have CA := Lib.hid (fun wx (hb : Below w.heap.size w wx) => implEndOf_any x a v wx (KIn.lies (hl.keep (keeps_below hb))) hz hai)
  have CR := Lib.hid (fun wx (hb : Below w.heap.size w wx) p (hk : okK x = true) (hp : p < x.entry.length) => implLivePlaces_any x p v wx (hl.keep (keeps_below hb)) hk hp)
  obtain ⟨ga, gc, la, lc, pa, pc, ea, ec, ia, ic, rfl, h1, h2, h3, h4, h5, _⟩ := hl
  obtain ⟨n, hn⟩ : ∃ n, n = x.ins.length := ⟨_, rfl⟩
  rw [← hn] at h5 CA CR ⊢
  have HE4 := Lib.hid h4
  have hel : x.entry.length ≤ 9223372036854775807 := by obtain ⟨_, _, _, h, _⟩ := h4; exact h
  have HN := Lib.hid hn
  have X0 := Lib.hid (Box5.new w (.slice ga x.globals.length gc) (.slice la x.locks.length lc) (.slice pa x.procs.length pc) (.slice ea x.entry.length ec) (.slice ia n ic) 28)
  have B0 := Lib.hid ((Below.refl w.heap.size w).alloc (Nat.le_refl _) (.cells #[.slice ga x.globals.length gc, .slice la x.locks.length lc, .slice pa x.procs.length pc, .slice ea x.entry.length ec, .slice ia n ic] 28))
  obtain ⟨rs, hrs⟩ : ∃ rs, rs = upI (liveAns x a) := ⟨_, rfl⟩
  have HRS := Lib.hid hrs
  rw [← hrs]
  have hzn := endZ_neg (x := x) (a := a)
  obtain ⟨z, hze⟩ : ∃ z, endZ x a = z := ⟨_, rfl⟩
  rw [hze] at CA hzn
  have HZN := Lib.hid hzn
  clear h1 h2 h3 h4 h5 hz hn hrs hze hzn hai
  obtain ⟨W1, hW1⟩ : ∃ W, W = w.alloc (.cells #[.slice ga x.globals.length gc, .slice la x.locks.length lc, .slice pa x.procs.length pc, .slice ea x.entry.length ec, .slice ia n ic] 28) := ⟨_, rfl⟩
  obtain ⟨p0, p1, p2, p3, p4⟩ := X0.out
  rw [← hW1] at X0 B0
  have HW1 := Lib.hid hW1
  clear hW1
  go_enter Tryz.func41, Tryz.ntmps41
  go_wp2_with fail
  rw [← HW1.out] at p0 p1 p2 p3 p4 ⊢
  refine (CA.out _ B0.out).mono ?_
  rintro e w2 ⟨rfl, hb⟩
  have B2 := Lib.hid (B0.out.trans (hb.mono B0.out.size))
  have X2 := Lib.hid (X0.out.keep (keeps_below hb))
  clear hb p0 p1 p2 p3 p4
  obtain ⟨p0, p1, p2, p3, p4⟩ := X2.out
  by_cases hz0 : z < 0
  · have HF : Hid (rs = []) := by
      show _ = _
      rw [HRS.out]
      unfold liveAns
      rw [dif_neg (fun h => (HZN.out.1 hz0) ⟨h.1, h.2.1, ?_⟩)]
      · rfl
      · have h2 : kHeads x = true := by have h3 := h.1; unfold okK at h3; rw [Bool.and_eq_true] at h3; exact h3.1
        have := (kHeads_ent h2).2.1
        have := h.2.2
        omega
    go_wp2_with fail
    go_ret
    exact ⟨_, rfl, by rw [HF.out]; exact World.ownsRow_nil _ _ _ _, B2.out⟩
  · have hq : okK x = true ∧ 0 ≤ a ∧ a < (x.procs.length : Int) := Classical.byContradiction fun h => hz0 (HZN.out.2 h)
    obtain ⟨hk, ha0, ha1⟩ := hq
    have hep := okK_procs hk
    obtain ⟨p, rfl⟩ : ∃ p : Nat, a = (p : Int) := ⟨a.toNat, by omega⟩
    have hp : p < x.entry.length := by omega
    have h3 : ((p : Int)).toNat = p := rfl
    have HF : Hid (rs = upI (markedN 0 (liveB x p))) := by
      show _ = _
      rw [HRS.out]
      unfold liveAns
      rw [dif_pos ⟨hk, ha0, by rw [h3]; exact hp⟩]
      unfold liveB entN
      rw [dif_pos hp]
      rfl
    have C := Lib.hid (CR.out w2 B2.out p hk hp)
    rw [← HF.out] at C
    clear hk hep ha1 h3
    go_wp2_with fail
    refine C.out.mono ?_
    rintro en w5 ⟨ov, rfl, hr, hb⟩
    have HRo := Lib.hid (World.ownsRow.mono hr B2.out.size)
    have B5 := Lib.hid (B2.out.trans (hb.mono B2.out.size))
    clear hr hb
    go_wp2_with fail
    go_ret
    exact ⟨_, rfl, HRo.out, B5.out⟩
end Go.Proofs.YtofmccihehalcaaGreat.Trm
/- The program's places with an op, and the procedures that they name, walked. Conditions: the code lies in memory and is right; there is such a procedure. -/
namespace Go.Proofs.YtofmccihehalcaaGreat.Trm
open Go.RowKit Go.Proofs.YtofmccihehalcaaGreat.Own
theorem prB_end {x : KTree} {a : Int} : endZ x a < 0 ↔ prB x a = false := by
  rw [endZ_neg, ← Bool.not_eq_true, prB_iff]
  constructor
  · intro h h2; exact h ⟨h2.1, h2.2.1, by have := okK_procs h2.1; omega⟩
  · intro h h2; exact h ⟨h2.1, h2.2.1, by have := okK_procs h2.1; omega⟩
/-- Whether a place has an op. -/
def opIs (x : KTree) (o : Int) (i : Nat) : Bool := if h : i < x.ins.length then decide ((x.ins[i]'h).op = o) else false
theorem opIs_iff {x : KTree} {o : Int} {i : Nat} : opIs x o i = true ↔ ∃ h : i < x.ins.length, x.ins[i].op = o := by
  unfold opIs
  by_cases h : i < x.ins.length
  · rw [dif_pos h, decide_eq_true_eq]
    exact ⟨fun h2 => ⟨h, h2⟩, fun ⟨_, h2⟩ => h2⟩
  · rw [dif_neg h]
    exact ⟨fun h2 => (by cases h2), fun ⟨h2, _⟩ => absurd h2 h⟩
/-- The live places of a procedure that have an op. -/
noncomputable def withN (x : KTree) (p : Nat) (o : Int) : List Nat := (markedN 0 (liveB x p)).filter (opIs x o)
theorem withN_mem {x : KTree} {p : Nat} {o : Int} {i : Nat} : i ∈ withN x p o ↔ (liveB x p)[i]? = some true ∧ ∃ h : i < x.ins.length, x.ins[i].op = o := by
  unfold withN
  rw [List.mem_filter, markedN_mem0, opIs_iff]
theorem withN_le (x : KTree) (p : Nat) (o : Int) : (withN x p o).length ≤ x.ins.length := by
  unfold withN
  have h1 := List.length_filter_le (opIs x o) (markedN 0 (liveB x p))
  have h2 := markedN_le 0 (liveB x p)
  have h3 := liveB_length x p
  omega
theorem fin_list {n : Nat} : ∀ L : List Nat, (∀ y, y ∈ L → y < n) → ∃ F : List (Fin n), F.map Fin.val = L
  | [], _ => ⟨[], rfl⟩
  | a :: r, h => by
    obtain ⟨F, hF⟩ := fin_list r (fun y hy => h y (List.mem_cons_of_mem _ hy))
    exact ⟨⟨a, h a List.mem_cons_self⟩ :: F, by rw [List.map_cons, hF]⟩
def encF {n : Nat} (i : Fin n) : Value := .int .i64 (i.val : Int)
theorem encF_map {n : Nat} {F : List (Fin n)} {L : List Nat} (h : F.map Fin.val = L) : F.map encF = intV (upI L) := by
  subst h
  simp [intV, upI, encF, List.map_map, Function.comp_def]
theorem sort_cell {α : Type} [Inhabited α] {enc : α → Value} {w : World} {blk m b i : Nat} {dk : Array α} {os : Array Obj} {u : Value} (h : w.cell? ⟨b, i, none⟩ = some u) (hne : b ≠ blk) : (Go.Proofs.sortWorld enc w blk 0 m dk os).cell? ⟨b, i, none⟩ = some u := by
  unfold Go.Proofs.sortWorld
  rw [Sort.cell?_grow _ _ _ (by show b < _; rw [Sort.size_putRow]; exact cell_lt h), Sort.cell?_putRow_other _ _ blk 0 _ _ (Or.inl hne)]
  exact h
set_option maxHeartbeats 800000 in
theorem withOp_any (o op : Int) (kb ob g o' ic n i : Nat) (gv lv pv ev : Value) (W : World) (hi : i < n)
    (hk : Box5 W kb gv lv pv ev (.slice (some ⟨g, o', none⟩) n ic)) (ho : W.cell? ⟨ob, 0, none⟩ = some (.int .i64 o)) (hc : W.cell? ⟨g, o' + i * 7, none⟩ = some (.int .i64 op)) :
    Calls Tryz.prog 90 #[.int .i64 (i : Int), .pointer (some ⟨kb, 0, none⟩), .pointer (some ⟨ob, 0, none⟩)] W fun e w' => e = .returned (.bool (op != o)) ∧ ∃ q, w' = W.drewN q := by
  obtain ⟨p0, p1, p2, p3, p4⟩ := hk
  have hlt : (i : Int) < (n : Int) := by omega
  go_enter Tryz.func90, Tryz.ntmps90
  go_wp2
  go_region
  go_wp2
  go_ret
  exact ⟨rfl, 1, rfl⟩
set_option maxRecDepth 20000 in
set_option maxHeartbeats 3200000 in
theorem implLiveWith_any (x : KTree) (p : Nat) (o : Int) (v : Value) (w : World) (hl : KIn w x v) (hk : okK x = true) (hp : p < x.entry.length) :
    Calls Tryz.prog 50 #[v, .int .i64 (p : Int), .int .i64 o] w (ListI (upI (withN x p o)) w) := by
  have CL := Lib.hid (fun wx (hb : Below w.heap.size w wx) => implLivePlaces_any x p v wx (hl.keep (keeps_below hb)) hk hp)
  have hlen := okK_len hk
  have hnn : ∀ y, y ∈ markedN 0 (liveB x p) → y < x.ins.length := fun y hy => by
    have h1 := markedN_lt 0 _ y hy
    have h2 := liveB_length x p
    omega
  have hne : entN x p ∈ markedN 0 (liveB x p) := by
    rw [markedN_mem0, liveB_at hk hp]
    exact ⟨entN_lt hk hp, .inl rfl⟩
  haveI : Inhabited (Fin x.ins.length) := ⟨⟨entN x p, entN_lt hk hp⟩⟩
  obtain ⟨F, hF⟩ := fin_list _ hnn
  have hLL : (markedN 0 (liveB x p)).length ≤ x.ins.length := by
    have h2 := markedN_le 0 (liveB x p)
    have h3 := liveB_length x p
    omega
  have hFK : ((F.filter fun i => !(x.ins[i.val].op != o)).map Fin.val) = withN x p o := by
    unfold withN
    rw [← hF, List.filter_map]
    congr 1
    apply List.filter_congr
    intro i _
    unfold opIs
    simp only [Function.comp]
    rw [dif_pos i.isLt]
    rw [Bool.eq_iff_iff]
    simp
  obtain ⟨L, hLe⟩ : ∃ L, L = markedN 0 (liveB x p) := ⟨_, rfl⟩
  rw [← hLe] at CL hF hLL hne
  obtain ⟨R, hRe⟩ : ∃ R, R = withN x p o := ⟨_, rfl⟩
  rw [← hRe] at hFK ⊢
  clear hLe hRe hnn
  obtain ⟨ga, gc, la, lc, pa, pc, ea, ec, ia, ic, rfl, h1, h2, h3, h4, h5, _⟩ := hl
  have hn0 : entN x p < x.ins.length := entN_lt hk hp
  obtain ⟨n, hn⟩ : ∃ n, n = x.ins.length := ⟨_, rfl⟩
  obtain ⟨g, o', rfl, hc⟩ := atIns rfl h5 hn0
  have HC : Hid (∀ wx, Below w.heap.size w wx → ∀ i (h : i < x.ins.length), wx.cell? ⟨g, o' + i * 7, none⟩ = some (.int .i64 (x.ins[i]'h).op)) := fun wx hb i h => by
    obtain ⟨_, _, _, _, _, c0, _⟩ := (hc i h).keep (keeps_below hb)
    exact c0
  have X0 := Box5.new w (.slice ga x.globals.length gc) (.slice la x.locks.length lc) (.slice pa x.procs.length pc) (.slice ea x.entry.length ec) (.slice (some ⟨g, o', none⟩) x.ins.length ic) 28
  have X1 := Lib.hid (X0.keep (keeps_alloc _ (.cells #[.int .i64 o] 53)))
  have B1 := Lib.hid (((Below.refl w.heap.size w).alloc (Nat.le_refl _) (.cells #[.slice ga x.globals.length gc, .slice la x.locks.length lc, .slice pa x.procs.length pc, .slice ea x.entry.length ec, .slice (some ⟨g, o', none⟩) x.ins.length ic] 28)).alloc (by simp) (.cells #[.int .i64 o] 53))
  have O1 : ((w.alloc (.cells #[.slice ga x.globals.length gc, .slice la x.locks.length lc, .slice pa x.procs.length pc, .slice ea x.entry.length ec, .slice (some ⟨g, o', none⟩) x.ins.length ic] 28)).alloc (.cells #[.int .i64 o] 53)).cell? ⟨w.heap.size + 1, 0, none⟩ = some (.int .i64 o) := by simp [go_sem]
  obtain ⟨W1, hW1⟩ : ∃ W, W = (w.alloc (.cells #[.slice ga x.globals.length gc, .slice la x.locks.length lc, .slice pa x.procs.length pc, .slice ea x.entry.length ec, .slice (some ⟨g, o', none⟩) x.ins.length ic] 28)).alloc (.cells #[.int .i64 o] 53) := ⟨_, rfl⟩
  obtain ⟨p0, p1, p2, p3, p4⟩ := X1.out
  rw [← hW1] at X1 B1 O1
  have HW1 := Lib.hid hW1
  have HO1 := Lib.hid O1
  have hgw : g < w.heap.size := by
    obtain ⟨_, _, _, _, _, c0, _⟩ := hc 0 (by omega)
    exact cell_lt c0
  clear h1 h2 h3 h4 h5 hc hW1 X0 O1 hn
  go_enter Tryz.func50, Tryz.ntmps50
  go_wp2_with fail
  rw [← HW1.out] at p0 p1 p2 p3 p4 ⊢
  refine (CL.out _ B1.out).mono ?_
  rintro e w2 ⟨ov, rfl, hr2, hb2⟩
  have hL0 : 0 < L.length := List.length_pos_of_mem hne
  rw [upI_length] at hr2
  obtain ⟨oa, oc, rfl, hoa⟩ := row_shape hr2
  obtain ⟨bg, rfl⟩ := hoa hL0
  have hbg := hr2.lt bg rfl
  have hW1s : w.heap.size + 2 ≤ W1.heap.size := by rw [HW1.out]; simp
  have hr3 : w2.ownsRow W1.heap.size 3 1 (.slice (some ⟨bg, 0, none⟩) L.length oc) L.length (F.map encF) := by rw [encF_map hF]; exact hr2
  obtain ⟨g2, cap2, e2, hb4, hg4, hn4, hm4, hl4, hH⟩ := Lib.holds_of_ownsRow hr3 (by simp)
  simp at e2
  obtain ⟨rfl, rfl⟩ := e2
  have B2 := Lib.hid (B1.out.trans (hb2.mono B1.out.size))
  have X2 := X1.out.keep (keeps_below hb2)
  have O2 := keeps_below hb2 _ _ HO1.out
  have hDel := Tryz.slices_DeleteFunc (α := Fin x.ins.length) encF (fun _ => rfl) (fun i => x.ins[i.val].op != o) 90 #[.pointer (some ⟨w.heap.size, 0, none⟩), .pointer (some ⟨w.heap.size + 1, 0, none⟩)] (enters_of Tryz.func90 (by kernel_rfl) rfl) ⟨0, by omega⟩ (fun w => Tryz.zeroValue3 w) bg 0 oc F.toArray w2
    (fun W i hb => withOp_any o _ w.heap.size (w.heap.size + 1) g o' ic x.ins.length i.val _ _ _ _ W i.isLt (X2.keep (keeps_below hb)) (keeps_below hb _ _ O2) (HC.out W (B2.out.trans (hb.mono B2.out.size)) i.val i.isLt))
    (fun m os dk i _ => withOp_any o _ w.heap.size (w.heap.size + 1) g o' ic x.ins.length i.val _ _ _ _ _ i.isLt ⟨sort_cell X2.1 (by omega), sort_cell X2.2.1 (by omega), sort_cell X2.2.2.1 (by omega), sort_cell X2.2.2.2.1 (by omega), sort_cell X2.2.2.2.2 (by omega)⟩ (sort_cell O2 (by omega)) (sort_cell (HC.out w2 B2.out i.val i.isLt) (by omega)))
    hH (by simp; omega) (by simp; omega)
  have hkl : (F.filter fun i => !(x.ins[i.val].op != o)).length ≤ L.length := by have := List.length_filter_le (fun i : Fin x.ins.length => !(x.ins[i.val].op != o)) F; omega
  have hsz : F.toArray.size = L.length := by simp; omega
  rw [hsz] at hDel
  have hRl : (F.filter fun i => !(x.ins[i.val].op != o)).length = R.length := by rw [← hFK, List.length_map]
  have HD : Hid (Calls Tryz.prog 89 #[.slice (some ⟨bg, 0, none⟩) L.length oc, .func (.func 90) #[] #[.pointer (some ⟨w.heap.size, 0, none⟩), .pointer (some ⟨w.heap.size + 1, 0, none⟩)]] w2 fun e w' => e = .returned (.slice (some ⟨bg, 0, none⟩) R.length oc) ∧ w'.ownsRow w.heap.size 3 1 (.slice (some ⟨bg, 0, none⟩) R.length oc) R.length (intV (upI R)) ∧ Below w.heap.size w w') := by
    refine Calls.mono hDel ?_
    rintro e w4 ⟨rfl, q, rfl⟩
    have hkk : (F.toArray.toList.filter fun i : Fin x.ins.length => !(x.ins[i.val].op != o)).length = R.length := hRl
    have HR := Lib.ownsRow_putRow (q := q) hr3 (ys := (F.toArray.toList.filter fun i => !(x.ins[i.val].op != o)) ++ List.replicate (L.length - (F.toArray.toList.filter fun i => !(x.ins[i.val].op != o)).length) ⟨0, by omega⟩) (k := R.length) (by rw [List.length_append, List.length_replicate]; omega) (by omega)
    rw [List.take_left' hkk, show (F.toArray.toList.filter fun i : Fin x.ins.length => !(x.ins[i.val].op != o)).map encF = intV (upI R) from encF_map hFK] at HR
    exact ⟨by rw [hkk], World.ownsRow.mono HR (by omega), Lib.below_putRow B2.out (by omega)⟩
  clear hDel hr2 hr3 hH hFK hRl hkl hsz hF X2 O2 HC hb2 p0 p1 p2 p3 p4
  go_wp2_with fail
  refine HD.out.mono ?_
  rintro e w4 ⟨rfl, hr4, hb4⟩
  have HR4 := Lib.hid hr4
  have HB4 := Lib.hid hb4
  clear hr4 hb4
  go_wp2_with fail
  go_ret
  exact ⟨_, rfl, by rw [upI_length]; exact HR4.out, HB4.out⟩
end Go.Proofs.YtofmccihehalcaaGreat.Trm
/- The procedures that the program's live places with an op name, walked. Conditions: the code lies in memory and is right; there is such a procedure; the op names procedures. -/
namespace Go.Proofs.YtofmccihehalcaaGreat.Trm
open Go.RowKit Go.Proofs.YtofmccihehalcaaGreat.Own
theorem namedTo_step {x : KTree} {ls : List Nat} {j q0 : Nat} (hj : j < ls.length) (hz : ls[j] < x.ins.length) (hq : x.ins[ls[j]].arg = (q0 : Int)) (q : Nat) :
    (∃ i, i ∈ ls.take (j + 1) ∧ ∃ h : i < x.ins.length, x.ins[i].arg = (q : Int)) ↔ q = q0 ∨ ∃ i, i ∈ ls.take j ∧ ∃ h : i < x.ins.length, x.ins[i].arg = (q : Int) := by
  rw [List.take_succ_eq_append_getElem hj]
  constructor
  · rintro ⟨i, hi, h, h2⟩
    rcases List.mem_append.1 hi with h3 | h3
    · exact .inr ⟨i, h3, h, h2⟩
    · rw [List.mem_singleton] at h3
      subst h3
      rw [hq] at h2
      exact .inl (by omega)
  · rintro (rfl | ⟨i, hi, h, h2⟩)
    · exact ⟨ls[j], List.mem_append_right _ (by simp), hz, hq⟩
    · exact ⟨i, List.mem_append_left _ hi, h, h2⟩
theorem namedTo_done {x : KTree} {p : Nat} {o : Int} {met : List Bool} (h : MkI x.entry.length (fun q => ∃ i, i ∈ (withN x p o).take (withN x p o).length ∧ ∃ h : i < x.ins.length, x.ins[i].arg = (q : Int)) met) : met = opsB x p o := by
  refine MkI.eq h ((opsB_mk x p o).same fun q _ => ?_)
  rw [List.take_length]
  constructor
  · rintro ⟨i, hi, h1, h2⟩
    obtain ⟨h3, h4, h5⟩ := withN_mem.1 hi
    exact ⟨i, h3, h4, h5, h2⟩
  · rintro ⟨i, h3, h4, h5, h6⟩
    exact ⟨i, withN_mem.2 ⟨h3, h4, h5⟩, h4, h6⟩
set_option maxRecDepth 20000 in
set_option maxHeartbeats 6400000 in
theorem implProcsNamed_any (x : KTree) (p : Nat) (o : Int) (v : Value) (w : World) (hl : KIn w x v) (hk : okK x = true) (hp : p < x.entry.length) (ho : o = 4 ∨ o = 5) :
    Calls Tryz.prog 46 #[v, .int .i64 (p : Int), .int .i64 o] w (ListI (upI (markedN 0 (opsB x p o))) w) := by
  have CL := Lib.hid (fun wx (hb : Below w.heap.size w wx) => implLiveWith_any x p o v wx (hl.keep (keeps_below hb)) hk hp)
  obtain ⟨j0, hj, jz0, jz1, jz2⟩ := info_parts infoBoolL
  obtain ⟨ga, gc, la, lc, pa, pc, ea, ec, ia, ic, rfl, h1, h2, h3, h4, h5, _⟩ := hl
  obtain ⟨n, hn⟩ : ∃ n, n = x.ins.length := ⟨_, rfl⟩
  have hpe := okK_procs hk
  have hnp := okK_nprocs hk
  have hlen := okK_len hk
  obtain ⟨m, hm⟩ : ∃ m, m = x.procs.length := ⟨_, rfl⟩
  obtain ⟨g, o', rfl, hc⟩ := atIns rfl h5 (entN_lt hk hp)
  have hwl := withN_le x p o
  rw [← hn] at h5 hnp hlen CL hwl ⊢
  rw [← hm] at hpe CL ⊢
  have HN := Lib.hid hn
  have HC : Hid (∀ wx, Below w.heap.size w wx → ∀ i (h : i < x.ins.length), IElem wx g (o' + i * 7) x.ins[i]) := fun wx hb i h => (hc i h).keep (keeps_below hb)
  have HK := Lib.hid hk
  have HPE := Lib.hid hpe
  have hm15 : m ≤ 1500 := by omega
  have HIN : Hid (∀ y, y ∈ withN x p o → ∃ h : y < x.ins.length, x.ins[y].op = o) := fun y hy => (withN_mem.1 hy).2
  have HD : Hid (∀ met, MkI x.entry.length (fun q => ∃ i, i ∈ (withN x p o).take (withN x p o).length ∧ ∃ h : i < x.ins.length, x.ins[i].arg = (q : Int)) met → met = opsB x p o) := fun met h => namedTo_done h
  generalize withN x p o = ls at CL hwl HIN HD
  obtain ⟨ob, hob⟩ : ∃ z, z = opsB x p o := ⟨_, rfl⟩
  rw [← hob] at HD ⊢
  have X0 := Lib.hid (Box5.new w (.slice ga x.globals.length gc) (.slice la x.locks.length lc) (.slice pa m pc) (.slice ea x.entry.length ec) (.slice (some ⟨g, o', none⟩) n ic) 28)
  have B0 := Lib.hid ((Below.refl w.heap.size w).alloc (Nat.le_refl _) (.cells #[.slice ga x.globals.length gc, .slice la x.locks.length lc, .slice pa m pc, .slice ea x.entry.length ec, .slice (some ⟨g, o', none⟩) n ic] 28))
  clear h1 h2 h3 h4 h5 hk hn hm hpe hc hob
  obtain ⟨p0, p1, p2, p3, p4⟩ := X0.out
  go_enter Tryz.func46, Tryz.ntmps46
  go_wp2_with (at_make; refine wpList_make_full _ rfl (.tmp 12) (.tmp 12) 55 rfl (w.heap.size + 1) 4 j0 _ 1 Tryz.underlying55 hj jz0 jz1 .i64 .i64 _ _ m rfl rfl rfl rfl (by rw [jz2]; omega) (by unfold maxLen; omega) (by simp) ?_)
  intro w1 hown hg
  rw [boolV_made] at hown
  have B1 := Lib.hid (B0.out.grown hg B0.out.size (fun b hb => by cases hb))
  have X1 := Lib.hid (X0.out.keep (keeps_below (below_none hg)))
  have M1 := Lib.hid hown
  have hs1 : w.heap.size + 2 ≤ w1.heap.size := by have := (hown.lt (w.heap.size + 1) (by simp [Value.ownBlock])).2; omega
  clear hown hg p0 p1 p2 p3 p4
  obtain ⟨p0, p1, p2, p3, p4⟩ := X1.out
  go_wp2_with fail
  refine (CL.out _ B1.out).mono ?_
  rintro e w2 ⟨lv, rfl, hr2, hb2⟩
  rw [upI_length] at hr2
  obtain ⟨lg, lc2, rfl, hlg⟩ := row_shape hr2
  have HLG := Lib.hid hlg
  have R2 := Lib.hid hr2
  have B2 := Lib.hid (B1.out.trans (hb2.mono B1.out.size))
  have X2 := Lib.hid (X1.out.keep (keeps_below hb2))
  have M2 := Lib.hid (row_below M1.out hb2)
  clear hr2 hb2 hlg p0 p1 p2 p3 p4
  go_wp2
  go_loopw [19] (fun jv wr => ∃ (j : Nat) (met : List Bool), j ≤ ls.length ∧ jv = .int .i64 j ∧ Hid (MkI x.entry.length (fun q => ∃ i, i ∈ ls.take j ∧ ∃ h : i < x.ins.length, x.ins[i].arg = (q : Int)) met) ∧ Hid (wr.ownsRow (w.heap.size + 1) 4 1 (.slice (some ⟨w.heap.size + 1, 0, none⟩) m m) m (boolV met)) ∧ Hid (wr.ownsRow w1.heap.size 3 1 (.slice lg ls.length lc2) ls.length (intV (upI ls))) ∧ Hid (Box5 wr w.heap.size (.slice ga x.globals.length gc) (.slice la x.locks.length lc) (.slice pa m pc) (.slice ea x.entry.length ec) (.slice (some ⟨g, o', none⟩) n ic)) ∧ Hid (Below w.heap.size w wr))
    (fun jv _ => ls.length - (intOf jv).toNat)
  case atStart => exact ⟨0, List.replicate m false, Nat.zero_le _, rfl, by show MkI _ _ _; rw [HPE.out]; exact MkI.none _ (fun q ⟨i, hi, _⟩ => by simp at hi), M2.out, R2.out, X2.out, B2.out⟩
  case round =>
    obtain ⟨j, met, hjn, rfl, hmk, hrow, hlv, hbx, hbe⟩ := hrel
    obtain ⟨p0, p1, p2, p3, p4⟩ := hbx.out
    by_cases hlt : j < ls.length
    · obtain ⟨lg0, rfl⟩ := HLG.out (by omega)
      have hlgb := hlv.out.lt lg0 rfl
      have d0 := natCell hlv.out j hlt
      obtain ⟨hz, hzo⟩ := HIN.out ls[j] (List.getElem_mem hlt)
      obtain ⟨_, _, _, ta, tc, c0, c1, _⟩ := HC.out wr hbe.out ls[j] hz
      obtain ⟨q0, hq0, hq1⟩ := arg_nat HK.out hz (by rw [hzo]; exact ho)
      have HS : Hid (MkI x.entry.length (fun q => ∃ i, i ∈ ls.take (j + 1) ∧ ∃ h : i < x.ins.length, x.ins[i].arg = (q : Int)) (met.set q0 true)) := hmk.out.mark hq1 fun q _ => namedTo_step hlt hz hq0 q
      rw [hq0] at c1
      have hzn : ((ls[j] : Nat) : Int) < (n : Int) := by have := HN.out; omega
      have hqm : q0 < m := by have := HPE.out; omega
      have hml : met.length = m := by have := hmk.out.1; have := HPE.out; omega
      have f1 := hrow.out.frozenAt q0
      have e1 := boolV_cell hrow.out q0 (by omega)
      obtain ⟨m5, g5⟩ := boolV_set hrow.out q0 true
      obtain ⟨W5, hW5⟩ : ∃ W, W = wr.setCell ⟨w.heap.size + 1, q0, none⟩ (.bool true) := ⟨_, rfl⟩
      rw [← hW5] at m5 g5
      have M5 := Lib.hid m5
      have R5 := Lib.hid (hlv.out.kept g5 (.inr (fun e => by
        have h2 : lg0 = w.heap.size + 1 := by simpa [Value.ownBlock] using e
        omega)))
      have X5 := Lib.hid (box5_other hbx.out g5 (fun e => by injection e with e; omega))
      have B5 := Lib.hid (hbe.out.grown g5 hbe.out.size (fun k hk => by cases hk; omega))
      have HW5 := Lib.hid hW5
      clear m5 g5 hW5 hzo hq0
      clear c0
      generalize ls[j] = z at c1 d0 hzn
      go_wp2
      rw [← HW5.out]
      go_roundw
      case rel => exact ⟨j + 1, met.set q0 true, by omega, by go_num, HS.out, M5.out, R5.out, X5.out, B5.out⟩
      case measure => simp [intOf]; omega
    · have hje : j = ls.length := by omega
      subst hje
      have HE : Hid (met = ob) := HD.out met hmk.out
      have hml : met.length = m := by have := hmk.out.1; have := HPE.out; omega
      have CM := Lib.hid (implMarked_any met _ (w.heap.size + 1) wr (by omega) (by rw [hml]; exact hrow.out))
      rw [HE.out] at CM
      go_wp2_with fail
      refine CM.out.mono ?_
      rintro e w6 ⟨ov, rfl, hr6, hb6⟩
      have R6 := Lib.hid (World.ownsRow.mono hr6 hbe.out.size)
      have B6 := Lib.hid (hbe.out.trans (hb6.mono hbe.out.size))
      clear hr6 hb6
      go_wp2_with fail
      go_ret
      exact ⟨_, rfl, R6.out, B6.out⟩
end Go.Proofs.YtofmccihehalcaaGreat.Trm
/- A map of procedures that are still to be looked at, and the program's take, walked. Conditions: the map is the call's own, and holds something. -/
namespace Go.Proofs.YtofmccihehalcaaGreat.Trm
open Go.RowKit Go.Proofs.YtofmccihehalcaaGreat.Own Go.Shelf Go.Maps
theorem keyedI : Keyed Tryz.prog 3 := int_keyed Tryz.underlying3
theorem keyI {z : Int} (h : (Lit.int .i64 z).wf = true) : keyOf Tryz.prog 3 (.int .i64 z) = some (.int .i64 z) := keyOf_int_mk Tryz.underlying3 h
theorem wf_small {q : Nat} (h : q ≤ 1500) : (Lit.int .i64 (q : Int)).wf = true := WalkArith.wf_i64 (by omega)
/-- A map of the call's own that holds these numbers. -/
def MapQ (W : World) (b : Nat) (K : List Nat) : Prop := K.Nodup ∧ ∃ D : DataW Unit, W.ownsMap Tryz.prog 3 (plainElem Tryz.prog 4) b K.length D ∧ ∀ z : Int, has D (.int .i64 z) = true ↔ ∃ q, q ∈ K ∧ z = (q : Int)
theorem ownq_size {W : World} {b n : Nat} {D : DataW Unit} {K : List Nat} (hnd : K.Nodup) (h : W.ownsMap Tryz.prog 3 (plainElem Tryz.prog 4) b n D) (hh : ∀ z : Int, has D (.int .i64 z) = true ↔ ∃ q, q ∈ K ∧ z = (q : Int)) : size D = K.length := by
  have hc : CollectedI D (fun _ => false) (K.map fun q : Nat => (q : Int)) := by
    refine ⟨?_, fun x => ?_⟩
    · exact List.pairwise_map.2 (hnd.imp fun {a b} hne e => hne (by omega))
    · rw [hh x, List.mem_map]
      constructor
      · rintro ⟨q, hq, rfl⟩; exact ⟨⟨q, hq, rfl⟩, rfl⟩
      · rintro ⟨⟨q, hq, rfl⟩, _⟩; exact ⟨q, hq, rfl⟩
  have hp := (hc.perm h keyedI Tryz.underlying3 (fun _ => rfl)).length_eq
  obtain ⟨es, rfl⟩ := h.isMap
  rw [List.length_map] at hp
  simp [intKeys] at hp
  rw [size_eq, ← hp]
theorem own_tight {W : World} {b n : Nat} {D : DataW Unit} (h : W.ownsMap Tryz.prog 3 (plainElem Tryz.prog 4) b n D) : W.ownsMap Tryz.prog 3 (plainElem Tryz.prog 4) b (size D) D := by
  obtain ⟨es, clock, hb, F, _, rfl⟩ := h
  refine ⟨es, clock, hb, F, ?_, rfl⟩
  have e1 : size (DataW.map ((es.toList.map (WideElems.rg Tryz.prog 3 (plainElem (H := Unit) Tryz.prog 4))).foldr DataW.insert [])) = es.size := by simp [size, length_sorted]
  omega
theorem MapQ.mk' {W : World} {b n : Nat} {D : DataW Unit} {K : List Nat} (hnd : K.Nodup) (h : W.ownsMap Tryz.prog 3 (plainElem Tryz.prog 4) b n D) (hh : ∀ z : Int, has D (.int .i64 z) = true ↔ ∃ q, q ∈ K ∧ z = (q : Int)) : MapQ W b K := by
  have h2 := own_tight h
  rw [ownq_size hnd h hh] at h2
  exact ⟨hnd, D, h2, hh⟩
theorem MapQ.kept {W W' : World} {b : Nat} {row : Option Nat} {K : List Nat} (h : MapQ W b K) (hg : W.grownBy W' row) (hne : some b ≠ row) : MapQ W' b K := by
  obtain ⟨h1, D, h2, h3⟩ := h
  exact ⟨h1, D, h2.kept hg hne, h3⟩
theorem MapQ.lt {W : World} {b : Nat} {K : List Nat} (h : MapQ W b K) : b < W.heap.size := by
  obtain ⟨_, D, h2, _⟩ := h
  exact h2.lt
theorem MapQ.below {W W' : World} {b : Nat} {K : List Nat} (h : MapQ W b K) (hb : Below W.heap.size W W') : MapQ W' b K := by
  obtain ⟨h1, D, h2, h3⟩ := h
  have hlt := h2.lt
  obtain ⟨es, clock, hbk, F, hs, hD⟩ := h2
  exact ⟨h1, D, ⟨es, clock, (hb.block b hlt).trans hbk, F, hs, hD⟩, h3⟩
theorem MapQ.made (w : World) : MapQ (w.alloc (.map #[] 0)) w.heap.size [] := by
  refine ⟨List.nodup_nil, .map [], World.ownsMap_made w _ _ _, fun z => ?_⟩
  constructor
  · intro h; simp [has] at h
  · rintro ⟨q, hq, _⟩; cases hq
/-- One more. -/
def insK (q : Nat) (K : List Nat) : List Nat := if q ∈ K then K else q :: K
theorem insK_mem (q : Nat) (K : List Nat) (y : Nat) : y ∈ insK q K ↔ y ∈ K ∨ y = q := by
  unfold insK
  split
  · rename_i h
    constructor
    · exact .inl
    · rintro (h2 | rfl)
      · exact h2
      · exact h
  · rw [List.mem_cons]
    exact Or.comm
theorem insK_len (q : Nat) (K : List Nat) : (insK q K).length ≤ K.length + 1 := by
  unfold insK
  split <;> simp
theorem insK_nodup {q : Nat} {K : List Nat} (h : K.Nodup) : (insK q K).Nodup := by
  unfold insK
  split
  · exact h
  · rename_i h2
    exact List.nodup_cons.2 ⟨h2, h⟩
theorem MapQ.putD {W' : World} {b q n : Nat} {K : List Nat} {D d : DataW Unit} (hnd : K.Nodup) (hD : IsMap D) (hh : ∀ z : Int, has D (.int .i64 z) = true ↔ ∃ q, q ∈ K ∧ z = (q : Int)) (h : W'.ownsMap Tryz.prog 3 (plainElem Tryz.prog 4) b n (D.put (.int .i64 (q : Int)) d)) : MapQ W' b (insK q K) := by
  refine MapQ.mk' (insK_nodup hnd) h fun z => ?_
  by_cases hz : z = (q : Int)
  · subst hz
    rw [has_put_same hD (by simp [WideAt.IsKeyLit])]
    exact ⟨fun _ => ⟨q, (insK_mem q K q).2 (.inr rfl), rfl⟩, fun _ => rfl⟩
  · rw [has_put_other (by intro e; injection e with _ e; exact hz e), hh z]
    constructor
    · rintro ⟨y, hy, rfl⟩; exact ⟨y, (insK_mem q K y).2 (.inl hy), rfl⟩
    · rintro ⟨y, hy, rfl⟩
      rcases (insK_mem q K y).1 hy with h2 | rfl
      · exact ⟨y, h2, rfl⟩
      · exact absurd rfl hz
theorem MapQ.delD {W' : World} {b q n : Nat} {K : List Nat} {D : DataW Unit} (hnd : K.Nodup) (hh : ∀ z : Int, has D (.int .i64 z) = true ↔ ∃ q, q ∈ K ∧ z = (q : Int)) (h : W'.ownsMap Tryz.prog 3 (plainElem Tryz.prog 4) b n (D.del (.int .i64 (q : Int)))) : MapQ W' b (K.erase q) := by
  refine MapQ.mk' (hnd.erase q) h fun z => ?_
  by_cases hz : z = (q : Int)
  · subst hz
    rw [has_del_same]
    constructor
    · intro h; cases h
    · rintro ⟨y, hy, e⟩
      have : y = q := by omega
      subst this
      exact absurd hy (fun h => (List.Nodup.mem_erase_iff hnd).1 h |>.1 rfl)
  · rw [has_del_other (by intro e; injection e with _ e; exact hz e), hh z]
    constructor
    · rintro ⟨y, hy, rfl⟩; exact ⟨y, (List.Nodup.mem_erase_iff hnd).2 ⟨fun e => hz (by rw [e]), hy⟩, rfl⟩
    · rintro ⟨y, hy, rfl⟩; exact ⟨y, List.mem_of_mem_erase hy, rfl⟩
theorem mapQ_keys {W : World} {b : Nat} {K : List Nat} (h : MapQ W b K) : ∃ D : DataW Unit, W.ownsMap Tryz.prog 3 (plainElem Tryz.prog 4) b K.length D ∧ size D = K.length ∧ (∀ z : Int, has D (.int .i64 z) = true ↔ ∃ q, q ∈ K ∧ z = (q : Int)) ∧ (K.map fun q : Nat => (q : Int)).Perm (intKeys D) := by
  obtain ⟨hnd, D, h2, hh⟩ := h
  have hc : CollectedI D (fun _ => false) (K.map fun q : Nat => (q : Int)) := by
    refine ⟨?_, fun x => ?_⟩
    · exact List.pairwise_map.2 (hnd.imp fun {a b} hne e => hne (by omega))
    · rw [hh x, List.mem_map]
      constructor
      · rintro ⟨q, hq, rfl⟩; exact ⟨⟨q, hq, rfl⟩, rfl⟩
      · rintro ⟨⟨q, hq, rfl⟩, _⟩; exact ⟨q, hq, rfl⟩
  exact ⟨D, h2, ownq_size hnd h2 hh, hh, hc.perm h2 keyedI Tryz.underlying3 (fun _ => rfl)⟩
theorem minOf_mem (zs : List Int) : ∀ k, 0 < k → k ≤ zs.length → Lib.minOf (zs.take k) ∈ zs
  | 0, h, _ => absurd h (by omega)
  | 1, _, h => by
    rw [Lib.minOf_one]
    simp [show 0 < zs.length by omega]
  | k + 2, _, h => by
    rw [Lib.minOf_step zs (k + 1) (by omega) (by omega)]
    have h1 := minOf_mem zs (k + 1) (by omega) (by omega)
    have h2 : zs.getD (k + 1) 0 ∈ zs := by simp [show k + 1 < zs.length by omega]
    rcases Int.le_total (Lib.minOf (zs.take (k + 1))) (zs.getD (k + 1) 0) with h3 | h3
    · rw [Int.min_eq_left h3]; exact h1
    · rw [Int.min_eq_right h3]; exact h2
theorem grown_below {W W1 W2 : World} {r : Option Nat} (h : W.grownBy W1 r) (hb : Below W1.heap.size W1 W2) : W.grownBy W2 r := ⟨hb.os.trans h.os, hb.tape.trans h.tape, hb.output.trans h.output, Nat.le_trans h.size hb.size, fun k hk hr => (hb.block k (by have := h.size; omega)).trans (h.block k hk hr)⟩
theorem below_grown1 {W W1 W2 : World} {r : Option Nat} (hb : Below W.heap.size W W1) (h : W1.grownBy W2 r) : W.grownBy W2 r := ⟨h.os.trans hb.os, h.tape.trans hb.tape, h.output.trans hb.output, Nat.le_trans hb.size h.size, fun k hk hr => (h.block k (by have := hb.size; omega) hr).trans (hb.block k hk)⟩
theorem grown_both {W W1 W2 : World} {r : Option Nat} (h1 : W.grownBy W1 r) (h : W1.grownBy W2 r) : W.grownBy W2 r := ⟨h.os.trans h1.os, h.tape.trans h1.tape, h.output.trans h1.output, Nat.le_trans h1.size h.size, fun k hk hr => (h.block k (by have := h1.size; omega) hr).trans (h1.block k hk hr)⟩
/-- An insert of a literal's key. -/
theorem wpList_insert_own {H : Type} {P : Program} (w : World) {ops : Array Oper} {rest : List Oper} {o : Oper} {a : Act} {Q : Exit → Act → World → Prop}
    (hg : o.guard = none) (m x v : Operand) (t : TypeId) (hop : o.op = Op.insert t m x v)
    (k e : TypeId) (K : Keyed P k) (ht : P.underlying t = some (.map k e)) (R : Value → Option (DataW H × List MemPlace)) (b n : Nat) (D : DataW H)
    (hm : a.eval m = .map (some b)) (hown : w.ownsMap P k R b n D) (hn : n < maxLen) (key val : Value) (kl : Lit) (hx : a.eval x = key) (hv : a.eval v = val) (hkey : keyOf P k key = some kl)
    (d : DataW H) (ps : List MemPlace) (hval : R val = some (d, ps))
    (hK : ∀ w', w'.ownsMap P k R b (n + 1) (D.put kl d) → w.grownBy w' (some b) → wpList P ops Q rest (a.put o.dst undef) w') :
    wpList P ops Q (o :: rest) a w := by
  refine wpList_plain hg fun K' hK' => ?_
  obtain ⟨w', hrun, r1, r2⟩ := hown.update K ht hn hkey hval
  unfold Oper.wp
  simp [execOp, hop, hm, hx, hv, hrun, Result.andThen]
  exact hK' _ _ (hK w' r1 r2)
set_option maxRecDepth 20000 in
set_option maxHeartbeats 1600000 in
/-- The program's take: one of those that are left. -/
theorem implTake_any (b : Nat) (K : List Nat) (W : World) (h0 : 0 < K.length) (hl : K.length ≤ 4000) (hsm : ∀ q, q ∈ K → q ≤ 1500) (h : MapQ W b K) :
    Calls Tryz.prog 87 #[.map (some b)] W fun e w' => ∃ q : Nat, e = .returned (.int .i64 (q : Int)) ∧ q ∈ K ∧ MapQ w' b (K.erase q) ∧ W.grownBy w' (some b) := by
  have C1 : Calls Tryz.prog 126 #[.map (some b)] W fun e w' => e = .returned (.func (.func 159) #[] #[.pointer (some ⟨W.heap.size, 0, none⟩)]) ∧ w' = W.alloc (.cells #[.map (some b)] 88) :=
    (callsIn_wide (n := 3)).1 (AnyZI.keys_in Tryz.layKeys Fence.wide 3 trivial rfl (some b) W)
  have hM1 : MapQ (W.alloc (.cells #[.map (some b)] 88)) b K := h.kept (World.grownBy_alloc W _ none) (by simp)
  obtain ⟨D, hown, hsz, hh, hperm⟩ := mapQ_keys hM1
  have hc : (W.alloc (.cells #[.map (some b)] 88)).cell? ⟨W.heap.size, 0, none⟩ = some (.map (some b)) := by simp [go_sem]
  have C2 : Calls Tryz.prog 71 #[.func (.func 159) #[] #[.pointer (some ⟨W.heap.size, 0, none⟩)]] (W.alloc (.cells #[.map (some b)] 88)) fun e w' => ∃ (v : Value) (ss : List Int), e = .returned v ∧ ss.Perm (intKeys D) ∧ w'.ownsRow (W.alloc (.cells #[.map (some b)] 88)).heap.size 3 1 v ss.length (ss.map (Value.int .i64)) ∧ (v = .slice none 0 0 ↔ ss = []) ∧ Below (W.alloc (.cells #[.map (some b)] 88)).heap.size (W.alloc (.cells #[.map (some b)] 88)) w' :=
    (callsIn_wide (n := 3)).1 (AnyZI.collect_in Tryz.layCollect Fence.wide 3 trivial trivial rfl (by omega) 159 #[.pointer (some ⟨W.heap.size, 0, none⟩)] trivial (enters_of Tryz.func159 (by kernel_rfl) rfl)
      (fun ss => ss.Perm (intKeys D)) (size D) (by rw [hsz]; unfold maxLen; omega) (by rw [hsz]; omega) _ (AnyZI.keys_gives Tryz.layKeysIt Fence.wide 1 trivial rfl (by omega) W.heap.size b K.length D _ (by simp) hc hown))
  have HC1 := Lib.hid C1
  have HC2 := Lib.hid C2
  have HH := Lib.hid hh
  have HP := Lib.hid hperm
  have HM := Lib.hid hM1
  have HSM := Lib.hid hsm
  have HND := Lib.hid h.1
  have hbW : b < W.heap.size := h.lt
  clear C1 C2 hh hperm hM1 hsm h hown hc hsz
  go_enter Tryz.func87, Tryz.ntmps87
  go_wp2_with fail
  refine HC1.out.mono ?_
  rintro e w1 ⟨rfl, rfl⟩
  go_wp2_with fail
  refine HC2.out.mono ?_
  rintro e w2 ⟨v, ss, rfl, hp, hr, _, hb⟩
  have hpk := (HP.out.trans hp.symm)
  have hlen : ss.length = K.length := by have := hpk.length_eq; simp at this; omega
  obtain ⟨a, c, rfl, ha⟩ := row_shape hr
  obtain ⟨g, rfl⟩ := ha (by omega)
  have HB2 := Lib.hid (((Below.refl W.heap.size W).alloc (Nat.le_refl _) (.cells #[.map (some b)] 88)).trans (hb.mono (by simp)))
  have HM2 := Lib.hid (HM.out.below hb)
  have C3 := Lib.hid (Tryz.slices_Min_int g 0 ss.length c ss w2 (by omega) (Nat.le_refl _) (by omega) (fun j hj => by
    have h2 := intV_cell (ss := ss) hr j hj
    rw [Nat.zero_add, h2]
    simp [hj]))
  have hmem := minOf_mem ss ss.length (by omega) (Nat.le_refl _)
  obtain ⟨q, hq, hqe⟩ : ∃ q, q ∈ K ∧ (q : Int) = Lib.minOf (ss.take ss.length) := by
    have := hpk.mem_iff.2 hmem
    obtain ⟨q, hq, e⟩ := List.mem_map.1 this
    exact ⟨q, hq, e⟩
  rw [← hqe] at C3
  clear hb hr ha hp hpk hmem hqe hlen
  go_wp2_with fail
  refine C3.out.mono ?_
  rintro e w3 ⟨rfl, rfl⟩
  obtain ⟨hnd, D2, hown2, hh2⟩ := HM2.out
  have HH2 := Lib.hid hh2
  have hkey := keyI (wf_small (HSM.out q hq))
  clear hh2 hnd
  go_wp2_with (first
    | (at_delete; refine wpList_delete_own _ rfl _ _ 88 3 rfl 4 keyedI Tryz.underlying88 _ b K.length D2 rfl hown2 _ _ rfl hkey ?_; intro w4 hown4 hturn4))
  go_ret
  exact ⟨q, rfl, hq, MapQ.delD HND.out HH2.out hown4, below_grown1 HB2.out hturn4.grown⟩
end Go.Proofs.YtofmccihehalcaaGreat.Trm
/- The program's CallsFrom, walked: its procedures that are still to be looked at stand in a map. Conditions: the code lies in memory; at most 2 to the 20 names and terms. -/
namespace Go.Proofs.YtofmccihehalcaaGreat.Trm
open Go.RowKit Go.Proofs.YtofmccihehalcaaGreat.Own Go.Maps
theorem MapQ.drewQ {W : World} {b : Nat} {K : List Nat} (h : MapQ W b K) : MapQ W.drew b K := h
theorem erase_mem {K : List Nat} {c z : Nat} (h : z ∈ K) : z = c ∨ z ∈ K.erase c := by
  by_cases e : z = c
  · exact .inl e
  · exact .inr ((List.mem_erase_of_ne e).2 h)
set_option maxRecDepth 20000 in
set_option maxHeartbeats 12800000 in
theorem implFrom_any (x : KTree) (s : Nat) (v : Value) (w : World) (hl : KIn w x v) (hk : okK x = true) (hs : s < x.entry.length) :
    Calls Tryz.prog 48 #[v, .int .i64 (s : Int)] w (ListB (fromB x s) w) := by
  have CN := Lib.hid (fun wx (hb : Below w.heap.size w wx) y (h : y < x.entry.length) => implProcsNamed_any x y 4 v wx (hl.keep (keeps_below hb)) hk h (by decide))
  obtain ⟨j0, hj, jz0, jz1, jz2⟩ := info_parts infoBoolL
  obtain ⟨ga, gc, la, lc, pa, pc, ea, ec, ia, ic, rfl, h1, h2, h3, h4, h5, _⟩ := hl
  obtain ⟨m, hm⟩ : ∃ m, m = x.entry.length := ⟨_, rfl⟩
  have hm15 : m ≤ 1500 := by have := okK_len hk; have := okK_nprocs hk; omega
  rw [← hm] at CN hs ⊢
  have HM := Lib.hid hm
  have HK := Lib.hid hk
  have X0 := Lib.hid (Box5.new w (.slice ga x.globals.length gc) (.slice la x.locks.length lc) (.slice pa x.procs.length pc) (.slice ea m ec) (.slice ia x.ins.length ic) 28)
  have B0 := Lib.hid ((Below.refl w.heap.size w).alloc (Nat.le_refl _) (.cells #[.slice ga x.globals.length gc, .slice la x.locks.length lc, .slice pa x.procs.length pc, .slice ea m ec, .slice ia x.ins.length ic] 28))
  have HRL := Lib.hid (fromB_length x s)
  clear h1 h2 h3 h4 h5 hk hm
  obtain ⟨p0, p1, p2, p3, p4⟩ := X0.out
  go_enter Tryz.func48, Tryz.ntmps48
  go_wp2_with (at_make; refine wpList_make_full _ rfl (.tmp 11) (.tmp 11) 55 rfl (w.heap.size + 1) 4 j0 _ 1 Tryz.underlying55 hj jz0 jz1 .i64 .i64 _ _ m rfl rfl rfl rfl (by rw [jz2]; omega) (by unfold maxLen; omega) (by simp) ?_)
  intro w1 hown hg
  rw [boolV_made] at hown
  have B1 := Lib.hid (B0.out.grown hg B0.out.size (fun b hb => by cases hb))
  have X1 := Lib.hid (X0.out.keep (keeps_below (below_none hg)))
  have hs1 : w.heap.size + 2 ≤ w1.heap.size := by have := (hown.lt (w.heap.size + 1) rfl).2; omega
  have f0 := hown.frozenAt s
  have e0 := boolV_cell hown s (by simpa using hs)
  obtain ⟨m0, g0⟩ := boolV_set hown s true
  obtain ⟨W5, hW5⟩ : ∃ W, W = w1.setCell ⟨w.heap.size + 1, s, none⟩ (.bool true) := ⟨_, rfl⟩
  rw [← hW5] at m0 g0
  have hs5 : w.heap.size + 2 ≤ W5.heap.size := by have := g0.size; omega
  have hs15 : W5.heap.size = w1.heap.size := by rw [hW5]; simp
  have B5 := Lib.hid (B1.out.grown g0 B1.out.size (fun k hk => by cases hk; omega))
  have X5 := Lib.hid (box5_other X1.out g0 (fun e => by injection e with e; omega))
  have M5 := Lib.hid m0
  have HW5 := Lib.hid hW5
  have hsn : (s : Int) < (m : Int) := by omega
  clear hown hg p0 p1 p2 p3 p4 m0 g0 hW5
  have hmm := @run_makeMap Tryz.prog
  go_upto_region 3 with fail
  rw [← HW5.out]
  have Q6 : MapQ (W5.alloc (.map #[] 0)) w1.heap.size [] := by
    have h := MapQ.made W5
    rw [hs15] at h
    exact h
  obtain ⟨hnd6, D6, own6, hh6⟩ := Q6
  have HH6 := Lib.hid hh6
  have hD6 := own6.isMap
  have hkey6 := keyI (wf_small (q := s) (by omega))
  clear hh6
  go_wp2_with (first
    | (refine wpList_insert_own _ rfl _ _ _ 88 rfl 3 4 keyedI Tryz.underlying88 _ w1.heap.size _ D6 rfl own6 (by simp [maxLen]) _ _ _ rfl rfl hkey6 _ [] (plainElem_bool Tryz.underlying4 true) ?_; intro w6 hown6 hgrow6))
  have Q7 := Lib.hid (MapQ.putD (q := s) hnd6 hD6 HH6.out hown6)
  have g6 : W5.grownBy w6 (some w1.heap.size) := below_grown1 ((Below.refl W5.heap.size W5).alloc (Nat.le_refl _) (.map #[] 0)) hgrow6
  have B7 := Lib.hid (B5.out.grown g6 B5.out.size (fun k hk => by cases hk; omega))
  have X7 := Lib.hid (box5_other X5.out g6 (fun e => by injection e with e; omega))
  have M7 := Lib.hid (M5.out.kept g6 (.inr (fun e => by
    have h2 : w.heap.size + 1 = w1.heap.size := by simpa [Value.ownBlock] using e
    omega)))
  obtain ⟨mb, hmb⟩ : ∃ mb, mb = w1.heap.size := ⟨_, rfl⟩
  have hmbl : w.heap.size + 2 ≤ mb := by omega
  rw [← hmb] at Q7
  have HMB := Lib.hid hmb
  clear hown6 hgrow6 g6 hnd6 hD6 own6 hmm
  rw [← HMB.out]
  clear hmb
  go_loopg [] (2 * m) (fun gg wr => ∃ (K : List Nat) (met : List Bool) (c : Nat), 2 * unm met + K.length ≤ gg ∧ 2 * unm met + K.length ≤ 2 * m ∧ Hid (Sr0 (callE x) s m met K c []) ∧ Hid (MapQ wr mb K) ∧ Hid (wr.ownsRow (w.heap.size + 1) 4 1 (.slice (some ⟨w.heap.size + 1, 0, none⟩) m m) m (boolV met)) ∧ Hid (Box5 wr w.heap.size (.slice ga x.globals.length gc) (.slice la x.locks.length lc) (.slice pa x.procs.length pc) (.slice ea m ec) (.slice ia x.ins.length ic)) ∧ Hid (Below w.heap.size w wr))
  case atStart =>
    refine ⟨insK s [], (List.replicate m false).set s true, 0, ?_, ?_, ?_, Q7.out, M7.out, X7.out, B7.out⟩
    · have key : ∀ m, unm (List.replicate m false) = m := fun m => by
        induction m with
        | zero => rfl
        | succ m ih => rw [List.replicate_succ, unm, ih]; simp; omega
      have h2 := unm_set (l := List.replicate m false) (z := s) (by simpa using hs) (by simp [hs])
      rw [key] at h2
      show 2 * unm _ + 1 ≤ _
      omega
    · have key : ∀ m, unm (List.replicate m false) = m := fun m => by
        induction m with
        | zero => rfl
        | succ m ih => rw [List.replicate_succ, unm, ih]; simp; omega
      have h2 := unm_set (l := List.replicate m false) (z := s) (by simpa using hs) (by simp [hs])
      rw [key] at h2
      show 2 * unm _ + 1 ≤ _
      omega
    · exact Sr0.begin hs
  case round =>
    obtain ⟨K, met, c, hgg, hgm, hsr, hmq, hmr, hbx, hbe⟩ := hrel
    obtain ⟨p0, p1, p2, p3, p4⟩ := hbx.out
    obtain ⟨D, hown, hsz, hh, hperm⟩ := mapQ_keys hmq.out
    clear hh hperm
    by_cases h0 : 0 < K.length
    · have hpos : (0 : Int) < ((size D : Nat) : Int) := by omega
      have HKS : Hid (∀ q, q ∈ K → q < m) := fun q hq => hsr.out.small hq
      have TK := Lib.hid (fun wx (hb : Below wr.heap.size wr wx) => implTake_any mb K wx h0 (by omega) (fun q hq => by have := HKS.out q hq; omega) (hmq.out.below hb))
      have hne1 : mb ≠ w.heap.size + 1 := by omega
      clear hsz
      go_upto_region 5 with (first
        | (at_len; refine wpList_len_own _ rfl _ 88 rfl 3 4 Tryz.underlying88 _ mb K.length D rfl hown ?_))
      go_region_with (first
        | (go_at_call 87; refine (TK.out _ (by first | exact Below.refl _ _ | exact (Below.refl _ _).drew)).mono ?_; rintro e w3 ⟨q, rfl, hq, hmq3, hg3⟩; have g3 : wr.grownBy w3 (some mb) := ⟨hg3.os, hg3.tape, hg3.output, hg3.size, hg3.block⟩; have hqm : q < m := HKS.out q hq; have B3 := Lib.hid (hbe.out.grown g3 hbe.out.size (fun k hk => by cases hk; omega)); have X3 := box5_other hbx.out g3 (fun e => by injection e with e; omega); obtain ⟨r0, r1, r2, r3, r4⟩ := X3)
        | (go_at_call 46; refine (CN.out _ (by first | exact B3.out | exact B3.out.drew) q hqm).mono ?_; rintro e w4 ⟨lv, rfl, hr4, hb4⟩; rw [upI_length] at hr4; obtain ⟨na, nc, rfl, hna⟩ := row_shape hr4; have HNA := Lib.hid hna; have HR4 := Lib.hid hr4; have HB4 := Lib.hid hb4; clear hr4 hb4 hna))
      all_goals
        have b4 : Below w3.heap.size w3 w4 := HB4.out
        have r4' : w4.ownsRow w3.heap.size 3 1 (.slice na (markedN 0 (opsB x q 4)).length nc) (markedN 0 (opsB x q 4)).length (intV (upI (markedN 0 (opsB x q 4)))) := HR4.out
        have M3 := hmr.out.kept g3 (.inr (fun e => by
          have h2 : w.heap.size + 1 = mb := by simpa [Value.ownBlock] using e
          omega))
        have HT : Hid (Sr0 (callE x) s m met (K.erase q) q (markedN 0 (opsB x q 4))) := by
          have hqx : q < x.entry.length := by have := HM.out; omega
          exact hsr.out.take hq (fun z hz => erase_mem hz) (fun z hz => List.mem_of_mem_erase hz) (fun z => callE_mem hqx z) (fun z hz => by have := callE_lt z hz; have := HM.out; omega)
        have hel : (K.erase q).length = K.length - 1 := List.length_erase_of_mem hq
        have HMS : Hid (2 * unm met + (K.erase q).length + 1 ≤ 2 * unm met + K.length) := by show _ ≤ _; omega
        have hnxl : (markedN 0 (opsB x q 4)).length ≤ 1500 := by have := markedN_le 0 (opsB x q 4); have := opsB_length x q 4; have := HM.out; omega
        have HNX : Hid (∀ z, z ∈ markedN 0 (opsB x q 4) → z < m) := fun z hz => by have := callE_lt z hz; have := HM.out; omega
        have B4 := Lib.hid (B3.out.trans (b4.mono B3.out.size))
        have X4 := Lib.hid ((box5_other hbx.out g3 (fun e => by injection e with e; omega)).keep (keeps_below b4))
        have M4 := Lib.hid (row_below M3 b4)
        have Q4 := Lib.hid (hmq3.below b4)
        have hw3 : mb < w3.heap.size := hmq3.lt
        have hw3b : w.heap.size + 1 < w3.heap.size := by omega
        have N4 := Lib.hid r4'
        have HL4 : Hid (∀ b, (Value.slice na (markedN 0 (opsB x q 4)).length nc).ownBlock = some b → w3.heap.size ≤ b) := fun b hb => (r4'.lt b hb).1
        clear b4 r4'
        obtain ⟨nx, hnx⟩ : ∃ z, z = markedN 0 (opsB x q 4) := ⟨_, rfl⟩
        rw [← hnx] at HT hnxl HNX HNA N4 HL4 ⊢
        clear hnx M3 g3 hg3 hmq3 HR4 HB4 p0 p1 p2 p3 p4 r0 r1 r2 r3 r4 hel hown hpos
        go_simp
        go_wp2
        go_loopw [27] (fun iv wr => ∃ (i : Nat) (met2 : List Bool) (K2 : List Nat), i ≤ nx.length ∧ iv = .int .i64 i ∧ Hid (2 * unm met2 + K2.length + 1 ≤ 2 * unm met + K.length) ∧ Hid (Sr0 (callE x) s m met2 K2 q (nx.drop i)) ∧ Hid (MapQ wr mb K2) ∧ Hid (wr.ownsRow (w.heap.size + 1) 4 1 (.slice (some ⟨w.heap.size + 1, 0, none⟩) m m) m (boolV met2)) ∧ Hid (wr.ownsRow w3.heap.size 3 1 (.slice na nx.length nc) nx.length (intV (upI nx))) ∧ Hid (Box5 wr w.heap.size (.slice ga x.globals.length gc) (.slice la x.locks.length lc) (.slice pa x.procs.length pc) (.slice ea m ec) (.slice ia x.ins.length ic)) ∧ Hid (Below w.heap.size w wr))
          (fun iv _ => nx.length - (intOf iv).toNat)
        case atStart => exact ⟨0, met, K.erase q, Nat.zero_le _, rfl, HMS.out, HT.out, Q4.out, M4.out, N4.out, X4.out, B4.out⟩
        case round =>
          obtain ⟨i, met2, K2, hi, rfl, hms, hs2, hq2, hm2, hn2, hx2, hb2⟩ := hrel
          by_cases hit : i < nx.length
          · obtain ⟨ng, rfl⟩ := HNA.out (by omega)
            have hngl := HL4.out ng rfl
            have c0 := natCell hn2.out i hit
            have hzm := HNX.out nx[i] (List.getElem_mem hit)
            have hdr : nx.drop i = nx[i] :: nx.drop (i + 1) := List.drop_eq_getElem_cons hit
            have hs3 := hs2.out
            rw [hdr] at hs3
            have HS3 := Lib.hid hs3
            obtain ⟨z, hzz⟩ : ∃ z, z = nx[i] := ⟨_, rfl⟩
            rw [← hzz] at c0 hzm HS3
            have hzl : z < met2.length := by rw [HS3.out.len]; exact hzm
            have c1 := boolV_cell hm2.out z hzl
            obtain ⟨bz, hbz⟩ : ∃ b, met2[z] = b := ⟨_, rfl⟩
            rw [hbz] at c1
            have hbz2 : met2[z]? = some bz := by rw [List.getElem?_eq_getElem hzl, hbz]
            have hzi : (z : Int) < (m : Int) := by omega
            clear hdr hs3 hzz hbz hs2
            cases bz with
            | true =>
              have HS := Lib.hid (HS3.out.skip hbz2 (fun y hy => List.mem_cons.1 hy) (fun y hy => List.mem_cons_of_mem _ hy))
              clear hbz2
              go_wp2
              go_roundw
              case rel => exact ⟨i + 1, met2, K2, by omega, by go_num, hms.out, HS.out, hq2.out, hm2.out, hn2.out, hx2.out, hb2.out⟩
              case measure => simp [intOf]; omega
            | false =>
              have HS : Hid (Sr0 (callE x) s m (met2.set z true) (insK z K2) q (nx.drop (i + 1))) := HS3.out.hit List.mem_cons_self (fun y hy => List.mem_cons.1 hy) (fun y hy => List.mem_cons_of_mem _ hy) (fun y => insK_mem z K2 y)
              have HMS2 : Hid (2 * unm (met2.set z true) + (insK z K2).length + 1 ≤ 2 * unm met + K.length) := by
                show _ ≤ _
                have h2 := unm_set hzl (by rw [hbz2]; simp)
                have h3 := insK_len z K2
                have h4 := hms.out
                omega
              have hK2l : K2.length ≤ 3100 := by have := hms.out; omega
              have f1 := hm2.out.frozenAt z
              obtain ⟨m5, g5⟩ := boolV_set hm2.out z true
              obtain ⟨W5, hW5⟩ : ∃ W, W = wr.setCell ⟨w.heap.size + 1, z, none⟩ (.bool true) := ⟨_, rfl⟩
              rw [← hW5] at m5 g5
              have Q5 := hq2.out.kept g5 (by intro e; injection e with e; omega)
              have N5 := Lib.hid (hn2.out.kept g5 (.inr (fun e => by
                have h2 : ng = w.heap.size + 1 := by simpa [Value.ownBlock] using e
                omega)))
              have M5 := Lib.hid m5
              have X5 := Lib.hid (box5_other hx2.out g5 (fun e => by injection e with e; omega))
              have B5 := Lib.hid (hb2.out.grown g5 hb2.out.size (fun k hk => by cases hk; omega))
              obtain ⟨hnd5, D5, own5, hh5⟩ := Q5
              have HH5 := Lib.hid hh5
              have hD5 := own5.isMap
              have hkey5 := keyI (wf_small (q := z) (by omega))
              have HW5 := Lib.hid hW5
              clear m5 g5 hbz2 hh5 hW5
              go_upto_region 10 with fail
              rw [← HW5.out]
              go_wp2_with (first
                | (at_mapUpdate; refine wpList_mapUpdate_own _ rfl _ _ _ 88 rfl 3 4 keyedI Tryz.underlying88 _ mb _ D5 rfl own5 (by unfold maxLen; omega) _ _ _ rfl rfl hkey5 _ [] (plainElem_bool Tryz.underlying4 true) ?_; intro w6 hown6 hgrow6))
              have Q6 := Lib.hid (MapQ.putD (q := z) hnd5 hD5 HH5.out hown6)
              have N6 := Lib.hid (N5.out.kept hgrow6 (.inr (fun e => by
                have h2 : ng = mb := by simpa [Value.ownBlock] using e
                omega)))
              have M6 := Lib.hid (M5.out.kept hgrow6 (.inr (fun e => by
                have h2 : w.heap.size + 1 = mb := by simpa [Value.ownBlock] using e
                omega)))
              have X6 := Lib.hid (box5_other X5.out hgrow6 (fun e => by injection e with e; omega))
              have B6 := Lib.hid (B5.out.grown hgrow6 B5.out.size (fun k hk => by cases hk; omega))
              clear hown6 hgrow6 hnd5 hD5 own5
              go_roundw
              case rel => exact ⟨i + 1, met2.set z true, insK z K2, by omega, by go_num, HMS2.out, HS.out, Q6.out, M6.out, N6.out, X6.out, B6.out⟩
              case measure => simp [intOf]; omega
          · have HS : Hid (Sr0 (callE x) s m met2 K2 q []) := by
              have h2 := hs2.out
              rw [List.drop_of_length_le (by omega)] at h2
              exact h2
            have hmsd := hms.out
            have hlm : 2 * unm met2 + K2.length ≤ 2 * m := by have := hms.out; omega
            go_wp2
            go_roundg (2 * unm met2 + K2.length)
            case rel => exact ⟨K2, met2, q, Nat.le_refl _, hlm, HS.out, hq2.out, hm2.out, hx2.out, hb2.out⟩
            case measure => omega
    · have hK0 : K = [] := List.length_eq_zero_iff.1 (by omega)
      subst hK0
      have hneg : ¬ (0 : Int) < ((size D : Nat) : Int) := by simp at hsz; omega
      have HE : Hid (met = fromB x s) := by
        have h2 := hsr.out
        rw [HM.out] at h2
        exact h2.from
      have hml := boolV_len hmr.out
      clear hsz
      go_wp2_with (first
        | (at_len; refine wpList_len_own _ rfl _ 88 rfl 3 4 Tryz.underlying88 _ mb _ D rfl hown ?_))
      go_ret
      exact ⟨_, rfl, by rw [← HE.out, hml]; exact hmr.out.mono (by omega), hbe.out⟩
end Go.Proofs.YtofmccihehalcaaGreat.Trm
/- The program's CallsFrom, walked. Conditions: the code lies in memory; at most 2 to the 20 names and terms. -/
namespace Go.Proofs.YtofmccihehalcaaGreat.Trm
open Go.RowKit Go.Proofs.YtofmccihehalcaaGreat.Own
set_option maxRecDepth 20000 in
set_option maxHeartbeats 1600000 in
theorem implCallsFrom_any (x : KTree) (a : Int) (v : Value) (w : World) (hl : KIn w x v) (hz : szK x ≤ 1048576) (hai : InI a) :
    Calls Tryz.prog 14 #[v, .int .i64 a] w (ListI (upI (fromAns x a)) w) := by
  have CA := Lib.hid (fun wx (hb : Below w.heap.size w wx) => implEndOf_any x a v wx (KIn.lies (hl.keep (keeps_below hb))) hz hai)
  have CR := Lib.hid (fun wx (hb : Below w.heap.size w wx) p (hk : okK x = true) (hp : p < x.entry.length) => implFrom_any x p v wx (hl.keep (keeps_below hb)) hk hp)
  obtain ⟨ga, gc, la, lc, pa, pc, ea, ec, ia, ic, rfl, _⟩ := hl
  have X0 := Lib.hid (Box5.new w (.slice ga x.globals.length gc) (.slice la x.locks.length lc) (.slice pa x.procs.length pc) (.slice ea x.entry.length ec) (.slice ia x.ins.length ic) 28)
  have B0 := Lib.hid ((Below.refl w.heap.size w).alloc (Nat.le_refl _) (.cells #[.slice ga x.globals.length gc, .slice la x.locks.length lc, .slice pa x.procs.length pc, .slice ea x.entry.length ec, .slice ia x.ins.length ic] 28))
  obtain ⟨rs, hrs⟩ : ∃ rs, rs = upI (fromAns x a) := ⟨_, rfl⟩
  have HRS := Lib.hid hrs
  rw [← hrs]
  have hzn := prB_end (x := x) (a := a)
  obtain ⟨z, hze⟩ : ∃ z, endZ x a = z := ⟨_, rfl⟩
  rw [hze] at CA hzn
  have HZN := Lib.hid hzn
  clear hz hrs hze hzn hai
  obtain ⟨W1, hW1⟩ : ∃ W, W = w.alloc (.cells #[.slice ga x.globals.length gc, .slice la x.locks.length lc, .slice pa x.procs.length pc, .slice ea x.entry.length ec, .slice ia x.ins.length ic] 28) := ⟨_, rfl⟩
  obtain ⟨p0, p1, p2, p3, p4⟩ := X0.out
  rw [← hW1] at X0 B0
  have HW1 := Lib.hid hW1
  clear hW1
  go_enter Tryz.func14, Tryz.ntmps14
  go_wp2_with fail
  rw [← HW1.out] at p0 p1 p2 p3 p4 ⊢
  refine (CA.out _ B0.out).mono ?_
  rintro e w2 ⟨rfl, hb⟩
  have B2 := Lib.hid (B0.out.trans (hb.mono B0.out.size))
  have X2 := Lib.hid (X0.out.keep (keeps_below hb))
  clear hb p0 p1 p2 p3 p4
  obtain ⟨p0, p1, p2, p3, p4⟩ := X2.out
  by_cases hz0 : z < 0
  · have HF : Hid (rs = []) := by
      show _ = _
      rw [HRS.out]
      unfold fromAns
      rw [if_neg (fun h => by have h2 := HZN.out.1 hz0; rw [h2] at h; cases h)]
      rfl
    go_wp2_with fail
    go_ret
    exact ⟨_, rfl, by rw [HF.out]; exact World.ownsRow_nil _ _ _ _, B2.out⟩
  · have hq : prB x a = true := by
      cases h : prB x a with
      | true => rfl
      | false => exact absurd (HZN.out.2 h) hz0
    obtain ⟨hk, ha0, ha1⟩ := prB_iff.1 hq
    obtain ⟨p, rfl⟩ : ∃ p : Nat, a = (p : Int) := ⟨a.toNat, by omega⟩
    have HF : Hid (rs = upI (markedN 0 (fromB x p))) := by
      show _ = _
      rw [HRS.out]
      unfold fromAns
      rw [if_pos hq]
      rfl
    have C := Lib.hid (CR.out w2 B2.out p hk (by omega))
    have hbl : (fromB x p).length ≤ 1500 := by have := fromB_length x p; have := okK_len hk; have := okK_nprocs hk; omega
    obtain ⟨bs, hbs⟩ : ∃ z, z = fromB x p := ⟨_, rfl⟩
    rw [← hbs] at C HF hbl
    clear hk ha0 ha1 hq hbs
    go_wp2_with fail
    refine C.out.mono ?_
    rintro e w3 ⟨bv, rfl, hr3, hb3⟩
    have R3 := Lib.hid hr3
    have B3 := Lib.hid (B2.out.trans (hb3.mono B2.out.size))
    clear hr3 hb3 p0 p1 p2 p3 p4
    go_wp2_with fail
    refine (implMarked_any bs bv _ w3 hbl R3.out).mono ?_
    rintro e w4 ⟨ov, rfl, hr, hb⟩
    have HRo := Lib.hid (World.ownsRow.mono hr B3.out.size)
    have B4 := Lib.hid (B3.out.trans (hb.mono B3.out.size))
    clear hr hb
    go_wp2_with fail
    go_ret
    exact ⟨_, rfl, by rw [HF.out]; exact HRo.out, B4.out⟩
end Go.Proofs.YtofmccihehalcaaGreat.Trm
