/- The program's iterator over what comes next: its contract, and the list that is collected of it, walked. Conditions: the code lies in memory and is right; the place is there. With what it stands on, in one text. -/
import Derived.Test.YtofmccihehalcabFlowNextS
import Derived.Test.YtofmccihehalcabIntRows
import Derived.Test.YtofmccihehalcabFlowM
import Derived.Laws.OwnMore
import Derived.Deep.RegionWith
import Derived.Deep.DeepCutAuto
import Derived.RangeFuncNested
import Derived.RangeFuncBound
import Derived.RangeFuncCalls
import Derived.RangeFuncLeaves
import Derived.RangeFuncBox
import Derived.Shelf.Abstract
import Derived.Shelf.RegionOpen
import Derived.WalkKit
import Derived.OwnWalkIn
import Derived.TacticsInMore
import Derived.LoopNIn
import Derived.LoopIn
import Derived.Maps.AppendAt
import Derived.Test.YtofmccihehalcabIntMarks
/- The places of a code, of the model: whether there is one, what comes next, what has it next, walked. Conditions: the code lies in memory; at most 2 to the 20 names and terms. -/
namespace Go.Proofs.Ytofmccihehalcab.Trm
open Go.RowKit Go.Proofs.Ytofmccihehalcab.Own
theorem ret_b2 {a b : Bool} (h : a = b) : Ending.returned (.bool a) = .returned (.bool b) := by rw [h]
set_option maxRecDepth 20000 in
set_option maxHeartbeats 1600000 in
theorem specAt_any (x : KTree) (a : Int) (v : Value) (w : World) (hl : KIn w x v) (hz : szK x ≤ 1048576) :
    Calls Try.prog 38 #[v, .int .i64 a] w fun e w' => e = .returned (.bool (atB x a)) ∧ Below w.heap.size w w' := by
  have CK := Lib.hid (fun wx (hb : Below w.heap.size w wx) => specCodeOk_any x v wx (hl.keep (keeps_below hb)) hz)
  obtain ⟨ga, gc, la, lc, pa, pc, ea, ec, ia, ic, rfl, h1, h2, h3, h4, h5, _⟩ := hl
  obtain ⟨n, hn⟩ : ∃ n, n = x.ins.length := ⟨_, rfl⟩
  have HA : Hid (atB x a = (okK x && decide (0 ≤ a ∧ a < (n : Int)))) := by show _ = _; unfold atB; rw [hn]
  rw [← hn] at h5 CK ⊢
  have hlm : n ≤ 9223372036854775807 := by rw [hn]; exact h5.1
  have X0 := Lib.hid (Box5.new w (.slice ga x.globals.length gc) (.slice la x.locks.length lc) (.slice pa x.procs.length pc) (.slice ea x.entry.length ec) (.slice ia n ic) 31)
  have B0 := Lib.hid ((Below.refl w.heap.size w).alloc (Nat.le_refl _) (.cells #[.slice ga x.globals.length gc, .slice la x.locks.length lc, .slice pa x.procs.length pc, .slice ea x.entry.length ec, .slice ia n ic] 31))
  obtain ⟨kb, hkb⟩ : ∃ b, okK x = b := ⟨_, rfl⟩
  rw [hkb] at CK HA
  obtain ⟨rr, hrr⟩ : ∃ b, atB x a = b := ⟨_, rfl⟩
  rw [hrr] at HA ⊢
  clear h1 h2 h3 h4 h5 hz hn hkb hrr
  obtain ⟨W1, hW1⟩ : ∃ W, W = w.alloc (.cells #[.slice ga x.globals.length gc, .slice la x.locks.length lc, .slice pa x.procs.length pc, .slice ea x.entry.length ec, .slice ia n ic] 31) := ⟨_, rfl⟩
  obtain ⟨p0, p1, p2, p3, p4⟩ := X0.out
  rw [← hW1] at X0 B0
  have HW1 := Lib.hid hW1
  clear hW1
  go_enter Try.func38, Try.ntmps38
  go_wp2_with fail
  rw [← HW1.out] at p0 p1 p2 p3 p4 ⊢
  refine (CK.out _ B0.out).mono ?_
  rintro e w2 ⟨rfl, hb⟩
  have B2 := Lib.hid (B0.out.trans (hb.mono B0.out.size))
  have X2 := Lib.hid (X0.out.keep (keeps_below hb))
  clear hb p0 p1 p2 p3 p4
  obtain ⟨p0, p1, p2, p3, p4⟩ := X2.out
  cases kb with
  | false =>
    have HF : Hid (rr = false) := by show _ = _; rw [HA.out]; simp
    go_wp2_with fail
    go_ret
    exact ⟨ret_b2 (by rw [HF.out]), B2.out⟩
  | true =>
    go_wp2_with fail
    by_cases ha : 0 ≤ a ∧ a ≤ (n : Int) - 1
    · have HF : Hid (rr = true) := by show _ = _; rw [HA.out]; simp; omega
      refine (in_yes _ _ _ _ ha.1 ha.2).mono ?_
      rintro e w3 ⟨rfl, rfl⟩
      go_wp2_with fail
      go_ret
      exact ⟨ret_b2 (by rw [HF.out]), B2.out⟩
    · have HF : Hid (rr = false) := by show _ = _; rw [HA.out]; simp; omega
      refine (in_no _ _ _ _ (by omega)).mono ?_
      rintro e w3 ⟨rfl, rfl⟩
      go_wp2_with fail
      go_ret
      exact ⟨ret_b2 (by rw [HF.out]), B2.out⟩
/-- A code in memory, its instructions at hand. -/
theorem atIns {w : World} {x : KTree} {ia : Option Addr} {ic n i : Nat} (hn : n = x.ins.length) (h : IsAt w (.slice ia n ic) x.ins) (hi : i < x.ins.length) : ∃ g o, ia = some ⟨g, o, none⟩ ∧ ∀ i (h : i < x.ins.length), IElem w g (o + i * 7) x.ins[i] := by
  obtain ⟨_, a2, c2, e, hk⟩ := h
  rw [hn] at e
  simp at e
  obtain ⟨rfl, rfl⟩ := e
  exact hk (by omega)
/-- Whether a number is in a list. -/
theorem specHas9_any (zs : List Int) (v : Value) (z : Int) (w : World) (h : IntsAt w zs v) :
    Calls Try.prog 43 #[v, .int .i64 z] w fun e w' => e = .returned (.bool (zs.contains z)) ∧ w = w' := by
  obtain ⟨a, c, rfl, hm, _, h2⟩ := h
  have HN := Lib.hid h2
  have HL := Lib.hid hm
  obtain ⟨rr, hrr⟩ : ∃ b, zs.contains z = b := ⟨_, rfl⟩
  have HR : Hid (rr = true ↔ z ∈ zs) := by show (_ ↔ _); rw [← hrr]; simp
  rw [hrr]
  clear h2 hm hrr
  go_enter Try.func43, Try.ntmps43
  go_wp2
  go_loopw [5] (fun i wr => ∃ j : Nat, j ≤ zs.length ∧ i = .int .i64 j ∧ Hid (∀ k (hk : k < zs.length), k < j → zs[k] ≠ z) ∧ w = wr)
    (fun i _ => zs.length - (intOf i).toNat)
  case atStart => exact ⟨0, Nat.zero_le _, rfl, fun _ _ h => by omega, rfl⟩
  case round =>
    obtain ⟨j, hj, rfl, hno, rfl⟩ := hrel
    have hL := HL.out
    by_cases hlt : j < zs.length
    · obtain ⟨g, o, rfl, h3⟩ := HN.out (by omega)
      have c0 := h3 j hlt
      clear h3
      by_cases he : zs[j] = z
      · have HT : Hid (rr = true) := HR.out.2 (by rw [← he]; exact List.getElem_mem hlt)
        rw [he] at c0
        clear he
        go_wp2
        go_ret
        exact ⟨ret_b2 (by rw [HT.out]), rfl⟩
      · have hq : (zs[j] == z) = false := by rw [beq_eq_false_iff_ne]; exact he
        have HNO : Hid (∀ k (hk : k < zs.length), k < j + 1 → zs[k] ≠ z) := fun k hk h => by
          rcases Nat.lt_or_ge k j with h' | h'
          · exact hno.out k hk h'
          · have : k = j := by omega
            subst this; exact he
        clear he
        go_wp2
        go_roundw
        case rel => exact ⟨j + 1, by omega, by go_num, HNO.out, trivial⟩
        case measure => simp [intOf]; omega
    · have HF : Hid (rr = false) := by
        show _ = _
        rw [Bool.eq_false_iff]
        intro h
        obtain ⟨k, hk, e⟩ := List.getElem_of_mem (HR.out.1 h)
        exact hno.out k hk (by omega) e
      go_wp2
      go_ret
      exact ⟨ret_b2 (by rw [HF.out]), rfl⟩
theorem upI_contains (l : List Nat) (s : Nat) : (upI l).contains (s : Int) = l.contains s := by
  have h : (upI l).contains (s : Int) = true ↔ l.contains s = true := by
    unfold upI
    simp only [List.contains_iff_mem, List.mem_map]
    constructor
    · rintro ⟨y, hy, e⟩
      have : y = s := by omega
      exact this ▸ hy
    · exact fun h => ⟨s, h, rfl⟩
  cases h1 : (upI l).contains (s : Int) <;> cases h2 : l.contains s <;> simp_all
end Go.Proofs.Ytofmccihehalcab.Trm
/- Rows of truth values that a call owns. Without conditions. -/
namespace Go.Proofs.Ytofmccihehalcab.Trm
open Go.RowKit Go.Proofs.Ytofmccihehalcab.Own
theorem infoBoolL : (Try.prog.info? 4).map (fun i => (i.zero, i.size, i.bytes)) = some (some (.bool false), 1, 1) := by kernel_rfl
def boolV (bs : List Bool) : List Value := bs.map Value.bool
theorem boolV_len {w : World} {base : Nat} {e : TypeId} {v : Value} {n : Nat} {bs : List Bool} (h : w.ownsRow base e 1 v n (boolV bs)) : bs.length = n := by have := h.1; simpa [boolV] using this
theorem boolV_cell {w : World} {base : Nat} {e : TypeId} {g n c : Nat} {bs : List Bool} (h : w.ownsRow base e 1 (.slice (some ⟨g, 0, none⟩) n c) n (boolV bs)) (i : Nat) (hi : i < bs.length) : w.cell? ⟨g, i, none⟩ = some (.bool bs[i]) := by
  have hl := boolV_len h
  rw [h.cellAt i (by omega)]
  simp [boolV, hi]
theorem boolV_set {w : World} {base : Nat} {e : TypeId} {g n c : Nat} {bs : List Bool} (h : w.ownsRow base e 1 (.slice (some ⟨g, 0, none⟩) n c) n (boolV bs)) (i : Nat) (b : Bool) :
    (w.setCell ⟨g, i, none⟩ (.bool b)).ownsRow base e 1 (.slice (some ⟨g, 0, none⟩) n c) n (boolV (bs.set i b)) ∧ w.grownBy (w.setCell ⟨g, i, none⟩ (.bool b)) (some g) := by
  have := h.stored i (.bool b)
  simpa [boolV, List.map_set] using this
/-- What a call that answers a row of truth values leaves. -/
def ListB (bs : List Bool) (w : World) (e : Ending) (w' : World) : Prop := ∃ ov, e = .returned ov ∧ w'.ownsRow w.heap.size 4 1 ov bs.length (boolV bs) ∧ Below w.heap.size w w'
theorem boolV_made (n : Nat) : (madeCells #[Value.bool false] n).toList = boolV (List.replicate n false) := by
  rw [toList_madeCells_one]
  simp [boolV]
/-- The numbers of a list that are in a row of numbers. -/
theorem natCell {w : World} {base : Nat} {e : TypeId} {g n c : Nat} {ls : List Nat} (h : w.ownsRow base e 1 (.slice (some ⟨g, 0, none⟩) n c) n (intV (upI ls))) (i : Nat) (hi : i < ls.length) : w.cell? ⟨g, i, none⟩ = some (.int .i64 (ls[i] : Int)) := by
  have hl : ls.length = n := by have := h.1; simpa [intV, upI] using this
  rw [h.cellAt i (by omega)]
  simp [intV, upI, hi]
theorem natLen {w : World} {base : Nat} {e : TypeId} {v : Value} {n : Nat} {ls : List Nat} (h : w.ownsRow base e 1 v n (intV (upI ls))) : ls.length = n := by have := h.1; simpa [intV, upI] using this
theorem box5_other {w w' : World} {b : Nat} {g : Option Nat} {c0 c1 c2 c3 c4 : Value} (h : Box5 w b c0 c1 c2 c3 c4) (hg : w.grownBy w' g) (hn : g ≠ some b) : Box5 w' b c0 c1 c2 c3 c4 := by
  have hblk : w'.heap[b]? = w.heap[b]? := hg.block b (cell_lt h.1) (fun e => hn e.symm)
  exact ⟨(World.cell?_of_block hblk).trans h.1, (World.cell?_of_block hblk).trans h.2.1, (World.cell?_of_block hblk).trans h.2.2.1, (World.cell?_of_block hblk).trans h.2.2.2.1, (World.cell?_of_block hblk).trans h.2.2.2.2⟩
end Go.Proofs.Ytofmccihehalcab.Trm
/- The model's search: which places one comes to, walked. Conditions: the code lies in memory and is right; the place is there. -/
namespace Go.Proofs.Ytofmccihehalcab.Trm
open Go.RowKit Go.Proofs.Ytofmccihehalcab.Own
set_option maxRecDepth 20000 in
set_option maxHeartbeats 6400000 in
theorem specReach_any (x : KTree) (s : Nat) (v : Value) (w : World) (hl : KIn w x v) (hk : okK x = true) (hs : s < x.ins.length) :
    Calls Try.prog 39 #[v, .int .i64 (s : Int)] w (ListB (reachB x s) w) := by
  obtain ⟨i0, hi, hz0, hz1, hz2⟩ := info_parts infoIntL
  obtain ⟨j0, hj, jz0, jz1, jz2⟩ := info_parts infoBoolL
  obtain ⟨ga, gc, la, lc, pa, pc, ea, ec, ia, ic, rfl, h1, h2, h3, h4, h5, _⟩ := hl
  obtain ⟨n, hn⟩ : ∃ n, n = x.ins.length := ⟨_, rfl⟩
  obtain ⟨g, o, rfl, hc⟩ := atIns rfl h5 hs
  have hn15 : n ≤ 1500 := by rw [hn]; exact okK_len hk
  rw [← hn] at hs h5 ⊢
  have HN := Lib.hid hn
  have HK := Lib.hid hk
  have HC := Lib.hid hc
  have X0 := Lib.hid (Box5.new w (.slice ga x.globals.length gc) (.slice la x.locks.length lc) (.slice pa x.procs.length pc) (.slice ea x.entry.length ec) (.slice (some ⟨g, o, none⟩) n ic) 31)
  have B0 := Lib.hid ((Below.refl w.heap.size w).alloc (Nat.le_refl _) (.cells #[.slice ga x.globals.length gc, .slice la x.locks.length lc, .slice pa x.procs.length pc, .slice ea x.entry.length ec, .slice (some ⟨g, o, none⟩) n ic] 31))
  have CN := Lib.hid (fun wx i (h : i < x.ins.length) (hb : Below w.heap.size w wx) => specNext_any (x.ins[i]'h) i n (.slice ga x.globals.length gc) (.slice la x.locks.length lc) (.slice pa x.procs.length pc) (.slice ea x.entry.length ec) g o ic wx (by have := HN.out; omega) hn15 ((HC.out i h).keep (keeps_below hb)) (fun h2 => (okK_to HK.out h h2).1))
  have HRL := Lib.hid (reachB_length x s)
  clear h1 h2 h3 h4 h5 hc hk hn
  obtain ⟨p0, p1, p2, p3, p4⟩ := X0.out
  go_enter Try.func39, Try.ntmps39
  go_wp2_with (at_make; refine wpList_make_full _ rfl (.tmp 12) (.tmp 12) 44 rfl (w.heap.size + 1) 4 j0 _ 1 Try.underlying44 hj jz0 jz1 .i64 .i64 _ _ n rfl rfl rfl rfl (by rw [jz2]; omega) (by unfold maxLen; omega) (by simp) ?_)
  intro w1 hown hg
  rw [boolV_made] at hown
  have B1 := Lib.hid (B0.out.grown hg B0.out.size (fun b hb => by cases hb))
  have X1 := Lib.hid (X0.out.keep (keeps_below (below_none hg)))
  have hs1 : w.heap.size + 2 ≤ w1.heap.size := by have := (hown.lt (w.heap.size + 1) rfl).2; omega
  have M1 := Lib.hid hown
  clear hown hg p0 p1 p2 p3 p4
  go_wp2
  have B2 := Lib.hid (B1.out.alloc B1.out.size (.cells #[.int .i64 (s : Int)] 3))
  have X2 := Lib.hid (X1.out.keep (keeps_alloc _ (.cells #[.int .i64 (s : Int)] 3)))
  have M2 := Lib.hid (M1.out.alloc (.cells #[.int .i64 (s : Int)] 3))
  have L2 := Lib.hid ((litI1 w1 (s : Int)).mono hs1)
  go_loopw [6, 7] (fun lv hv wr => ∃ (h : Nat) (ls : List Nat) (met : List Bool) (c : Nat), h ≤ ls.length ∧ hv = .int .i64 h ∧ Hid (Srch (nxE x) s n met (ls.drop h) c []) ∧ Hid (ls.length + unm met = n + 1) ∧ Hid (wr.ownsRow (w.heap.size + 1) 4 1 (.slice (some ⟨w.heap.size + 1, 0, none⟩) n n) n (boolV met)) ∧ Hid (wr.ownsRow (w.heap.size + 2) 3 1 lv ls.length (intV (upI ls))) ∧ Hid (Box5 wr w.heap.size (.slice ga x.globals.length gc) (.slice la x.locks.length lc) (.slice pa x.procs.length pc) (.slice ea x.entry.length ec) (.slice (some ⟨g, o, none⟩) n ic)) ∧ Hid (Below w.heap.size w wr))
    (fun _ hv _ => n + 1 - (intOf hv).toNat)
  case atStart =>
    refine ⟨0, [s], List.replicate n false, 0, by simp, rfl, Srch.begin hs, ?_, M2.out, L2.out, X2.out, B2.out⟩
    show 1 + unm (List.replicate n false) = n + 1
    have key : ∀ m, unm (List.replicate m false) = m := fun m => by
      induction m with
      | zero => rfl
      | succ m ih => rw [List.replicate_succ, unm, ih]; simp; omega
    rw [key]; omega
  case round =>
    obtain ⟨h, ls, met, c, hh, rfl, hsr, hum, hmr, hlr, hbx, hbe⟩ := hrel
    obtain ⟨p0, p1, p2, p3, p4⟩ := hbx.out
    obtain ⟨oa, oc, rfl, hoa⟩ := row_shape hlr.out
    have hll : ls.length ≤ n + 1 := by have := hum.out; omega
    obtain ⟨wo, hwo⟩ : ∃ w0, w0 = wr := ⟨_, rfl⟩
    subst hwo
    by_cases hlt : h < ls.length
    · obtain ⟨lg, rfl⟩ := hoa (by omega)
      have q0 := natCell hlr.out h hlt
      have hop : ls.drop h = ls[h] :: ls.drop (h + 1) := List.drop_eq_getElem_cons hlt
      have hsm : ls[h] < n := hsr.out.small _ (by rw [hop]; exact List.mem_cons_self)
      have hsx : ls[h] < x.ins.length := by have := HN.out; omega
      have HT : Hid (Srch (nxE x) s n met (ls.drop (h + 1)) ls[h] (nextN ls[h] x.ins[ls[h]])) := by
        have h0 := hsr.out
        refine h0.take (by rw [hop]; exact List.mem_cons_self) (fun z hz => by rw [hop] at hz; exact List.mem_cons.1 hz) (fun z hz => by rw [hop]; exact List.mem_cons_of_mem _ hz) (fun z => ?_) (fun z hz => by have := nextN_lt HK.out hsx z hz; have := HN.out; omega)
        exact ⟨fun ⟨_, h2⟩ => h2, fun h2 => ⟨hsx, h2⟩⟩
      have C := Lib.hid (fun wx hb => CN.out wx ls[h] hsx hb)
      have hnl := nextN_le ls[h] x.ins[ls[h]]
      have hnlt := nextN_lt HK.out hsx
      obtain ⟨y, hy⟩ : ∃ y, y = ls[h] := ⟨_, rfl⟩
      obtain ⟨nx, hnx⟩ : ∃ z, z = nextN ls[h] x.ins[ls[h]] := ⟨_, rfl⟩
      rw [← hnx] at HT C hnl hnlt
      rw [← hy] at HT C q0 hsm
      have HNL := Lib.hid hnlt
      clear hop hsx hy hnx hnlt hsr
      go_wp2
      go_region_with (first
        | (go_at_call 44; refine (C.out _ (by first | exact hbe.out.drew | exact hbe.out)).mono ?_; rintro e w3 ⟨nv, rfl, hr3, hb3⟩; have HR3 := Lib.hid hr3; have HB3 := Lib.hid (below_of_drew hb3); clear hr3 hb3))
      all_goals
        have b3 : Below wo.heap.size wo w3 := HB3.out
        have r3 : w3.ownsRow wo.heap.size 3 1 nv (upI nx).length (intV (upI nx)) := HR3.out
        rw [upI_length] at r3
        have B4 := Lib.hid (hbe.out.trans (b3.mono hbe.out.size))
        have X4 := Lib.hid (hbx.out.keep (keeps_below b3))
        have M4 := Lib.hid (row_below hmr.out b3)
        have L4 := Lib.hid (row_below hlr.out b3)
        have hw2 : w.heap.size + 2 ≤ wo.heap.size := by have := hlr.out.lt lg rfl; omega
        have hlgw : lg < wo.heap.size := (hlr.out.lt lg rfl).2
        obtain ⟨na, nc, rfl, hna⟩ := row_shape r3
        have HNA := Lib.hid hna
        have N4 := Lib.hid r3
        have D4 : Hid (∀ b, (Value.slice na nx.length nc).ownBlock = some b → ¬ (Value.slice (some ⟨lg, 0, none⟩) ls.length oc).ownBlock = some b) := fun b hb h2 => by
          have h3 := (r3.lt b hb).1
          have h4 : lg = b := by simpa [Value.ownBlock] using h2
          omega
        clear r3 b3 hna p0 p1 p2 p3 p4 HR3 HB3 q0
        go_wp2
        go_loopw [6, 9] (fun lv iv wr => ∃ (q : Nat) (ls2 : List Nat) (met2 : List Bool), q ≤ nx.length ∧ iv = .int .i64 q ∧ Hid (Srch (nxE x) s n met2 (ls2.drop (h + 1)) y (nx.drop q)) ∧ Hid (ls2.length + unm met2 = n + 1) ∧ Hid (h + 1 ≤ ls2.length) ∧ Hid (wr.ownsRow (w.heap.size + 1) 4 1 (.slice (some ⟨w.heap.size + 1, 0, none⟩) n n) n (boolV met2)) ∧ Hid (wr.ownsRow (w.heap.size + 2) 3 1 lv ls2.length (intV (upI ls2))) ∧ Hid (wr.ownsRow wo.heap.size 3 1 (.slice na nx.length nc) nx.length (intV (upI nx))) ∧ Hid (∀ b, (Value.slice na nx.length nc).ownBlock = some b → ¬ lv.ownBlock = some b) ∧ Hid (Box5 wr w.heap.size (.slice ga x.globals.length gc) (.slice la x.locks.length lc) (.slice pa x.procs.length pc) (.slice ea x.entry.length ec) (.slice (some ⟨g, o, none⟩) n ic)) ∧ Hid (Below w.heap.size w wr))
          (fun _ iv _ => nx.length - (intOf iv).toNat)
        case atStart => exact ⟨0, ls, met, Nat.zero_le _, rfl, HT.out, hum.out, by show _ ≤ _; omega, M4.out, L4.out, N4.out, D4.out, X4.out, B4.out⟩
        case round =>
          obtain ⟨q, ls2, met2, hq, rfl, hs2, hu2, hh2, hm2, hl2, hn2, hd2, hx2, hb2⟩ := hrel
          obtain ⟨oa2, oc2, rfl, _⟩ := row_shape hl2.out
          by_cases hqt : q < nx.length
          · obtain ⟨ng, rfl⟩ := HNA.out (by omega)
            have c0 := natCell hn2.out q hqt
            have hnx : nx.drop q = nx[q] :: nx.drop (q + 1) := List.drop_eq_getElem_cons hqt
            have hs3 := hs2.out
            rw [hnx] at hs3
            have hz := (hs3.edge _ List.mem_cons_self).2
            obtain ⟨z, hzz⟩ : ∃ z, z = nx[q] := ⟨_, rfl⟩
            rw [← hzz] at c0 hs3 hz
            have hzm : z < met2.length := by rw [hs3.len]; exact hz
            have c1 := boolV_cell hm2.out z hzm
            have hng := (hn2.out.lt ng rfl)
            obtain ⟨bz, hbz⟩ : ∃ b, met2[z] = b := ⟨_, rfl⟩
            rw [hbz] at c1
            have hbz2 : met2[z]? = some bz := by rw [List.getElem?_eq_getElem hzm, hbz]
            have HS3 := Lib.hid hs3
            have HZZ := Lib.hid hzz
            clear hnx hzz hbz hs3 hs2
            cases bz with
            | true =>
              have HS := Lib.hid (HS3.out.skip hbz2)
              clear hbz2
              go_wp2
              go_roundw
              case rel => exact ⟨q + 1, ls2, met2, by omega, by go_num, HS.out, hu2.out, hh2.out, hm2.out, hl2.out, hn2.out, hd2.out, hx2.out, hb2.out⟩
              case measure => simp [intOf]; omega
            | false =>
              have HS : Hid (Srch (nxE x) s n (met2.set z true) ((ls2 ++ [z]).drop (h + 1)) y (nx.drop (q + 1))) := by
                have h2 := HS3.out.hit
                show Srch _ _ _ _ _ _ _
                rw [List.drop_append_of_le_length hh2.out]
                exact h2
              have HU : Hid ((ls2 ++ [z]).length + unm (met2.set z true) = n + 1) := by
                show _ = _
                have h2 := unm_set hzm (by rw [hbz2]; simp)
                have h3 := hu2.out
                rw [List.length_append, List.length_singleton]
                omega
              have hll2 : ls2.length + 1 ≤ 1502 := by have := hu2.out; omega
              have f1 := hm2.out.frozenAt z
              obtain ⟨m5, g5⟩ := boolV_set hm2.out z true
              obtain ⟨W5, hW5⟩ : ∃ W, W = wr.setCell ⟨w.heap.size + 1, z, none⟩ (.bool true) := ⟨_, rfl⟩
              rw [← hW5] at m5 g5
              have M5 := Lib.hid m5
              have hsz5 : wr.heap.size ≤ W5.heap.size := g5.size
              have hszq : w.heap.size + 2 ≤ wr.heap.size := by omega
              have N5 := Lib.hid (row_same hn2.out (w' := W5) (fun b hb => g5.block b (hn2.out.lt b hb).2 (fun e => by cases e; have := (hn2.out.lt _ hb).1; omega)))
              have L5 := Lib.hid (row_same hl2.out (w' := W5) (fun b hb => g5.block b (hl2.out.lt b hb).2 (fun e => by cases e; have := (hl2.out.lt _ hb).1; omega)))
              have X5 := Lib.hid (box5_other hx2.out g5 (fun e => by injection e with e; omega))
              have B5 := Lib.hid (hb2.out.grown g5 hb2.out.size (fun k hk => by cases hk; omega))
              have d0 := natCell N5.out q hqt
              rw [← HZZ.out] at d0
              have HW5 := Lib.hid hW5
              clear m5 g5 hbz2 hW5
              go_upto_region 12 with fail
              rw [← HW5.out]
              go_wp2_with (at_builtin; refine wpList_append_lies _ rfl (.tmp 48) (.tmp 53) 23 rfl (w.heap.size + 2) 3 i0 (.int .i64 0) 1 8 Try.underlying23 hi hz0 hz1 hz2 rfl (by decide) (.slice oa2 ls2.length oc2) ls2.length _ rfl (L5.out.alloc _) ⟨W5.heap.size, 0, none⟩ 1 1 [.int .i64 (z : Int)] rfl rfl (World.news_of_block (heap_alloc_new _ _)) (one_intV [(z : Int)]) (by decide) (by unfold maxLen; omega) (by omega) (by simp; omega) _ rfl ?_)
              intro g1 cap1 w6 hown1 hg1 hat1 hlt1
              have hnb : ∀ k, (Value.slice oa2 ls2.length oc2).ownBlock = some k → w.heap.size + 2 ≤ k := fun k hk => (L5.out.lt k hk).1
              have B6 : Hid (Below w.heap.size w w6) := (B5.out.alloc B5.out.size _).grown hg1 (by simp; omega) (fun k hk => by have := hnb k hk; omega)
              have X6 := Lib.hid (box5_other (X5.out.keep (keeps_alloc _ (.cells #[.int .i64 (z : Int)] 3))) hg1 (fun e => by have := hnb _ e; omega))
              have M6 := Lib.hid (row_same (M5.out.alloc (.cells #[.int .i64 (z : Int)] 3)) (w' := w6) (fun b hb => hg1.block b ((M5.out.alloc (.cells #[.int .i64 (z : Int)] 3)).lt b hb).2 (fun e => by
                have h1 : w.heap.size + 1 = b := by simpa [Value.ownBlock] using hb
                have := hnb _ e.symm
                omega)))
              have N6 := Lib.hid (row_same (N5.out.alloc (.cells #[.int .i64 (z : Int)] 3)) (w' := w6) (fun b hb => hg1.block b ((N5.out.alloc (.cells #[.int .i64 (z : Int)] 3)).lt b hb).2 (fun e => hd2.out b hb e.symm)))
              have L6 : Hid (w6.ownsRow (w.heap.size + 2) 3 1 (.slice (some ⟨g1, 0, none⟩) (ls2.length + 1) cap1) (ls2 ++ [z]).length (intV (upI (ls2 ++ [z])))) := by
                show World.ownsRow _ _ _ _ _ _ _
                have := hown1
                simpa [intV, upI] using this
              have D6 : Hid (∀ b, (Value.slice (some ⟨ng, 0, none⟩) nx.length nc).ownBlock = some b → ¬ (Value.slice (some ⟨g1, 0, none⟩) (ls2.length + 1) cap1).ownBlock = some b) := fun b hb h2 => by
                have h3 : g1 = b := by simpa [Value.ownBlock] using h2
                subst h3
                rcases hat1 with h4 | h4
                · exact hd2.out g1 hb h4
                · have h5 := (N5.out.lt g1 hb).2
                  omega
              have HH6 : Hid (h + 1 ≤ (ls2 ++ [z]).length) := by show _ ≤ _; have := hh2.out; rw [List.length_append]; omega
              clear hown1 hg1 hat1 hlt1 hnb
              go_wp2
              go_roundw
              case rel => exact ⟨q + 1, ls2 ++ [z], met2.set z true, by omega, by go_num, HS.out, HU.out, HH6.out, M6.out, L6.out, N6.out, D6.out, X6.out, B6.out⟩
              case measure => simp [intOf]; omega
          · have HS : Hid (Srch (nxE x) s n met2 (ls2.drop (h + 1)) y []) := by
              have h2 := hs2.out
              have hdq : nx.drop q = [] := List.drop_of_length_le (by omega)
              rw [hdq] at h2
              exact h2
            go_wp2
            go_roundw
            case rel => exact ⟨h + 1, ls2, met2, y, hh2.out, by go_num, HS.out, hu2.out, hm2.out, hl2.out, hx2.out, hb2.out⟩
            case measure => simp [intOf]; omega
    · have hd : ls.drop h = [] := List.drop_of_length_le (by omega)
      have h1 := hsr.out
      rw [hd] at h1
      have HM : Hid (met = reachB x s) := by
        have h2 := h1
        rw [HN.out] at h2
        exact h2.reach
      have hml := boolV_len hmr.out
      go_wp2
      go_ret
      exact ⟨_, rfl, by rw [← HM.out, hml]; exact hmr.out.mono (by omega), hbe.out⟩
set_option maxHeartbeats 1600000 in
theorem specMarked_any (bs : List Bool) (v : Value) (base : Nat) (w : World) (hn15 : bs.length ≤ 1500) (hr : w.ownsRow base 4 1 v bs.length (boolV bs)) :
    Calls Try.prog 27 #[v] w (ListI (upI (markedN 0 bs)) w) := by
  obtain ⟨i0, hi, hz0, hz1, hz2⟩ := info_parts infoIntL
  obtain ⟨a, c, rfl, ha⟩ := row_shape hr
  have HA := Lib.hid ha
  have HR := Lib.hid hr
  have L1 := Lib.hid (litI0 w)
  have B1 := Lib.hid ((Below.refl w.heap.size w).alloc (Nat.le_refl _) (.cells #[] 3))
  have R1 := Lib.hid (hr.alloc (.cells #[] 3))
  obtain ⟨n, hn⟩ : ∃ n, n = bs.length := ⟨_, rfl⟩
  have HN := Lib.hid hn
  rw [← hn] at hn15 HA HR R1 ⊢
  clear ha hr hn
  go_enter Try.func27, Try.ntmps27
  go_wp2
  go_loopw [3, 4] (fun ov iv wr => ∃ (j : Nat) (ls : List Nat), j ≤ n ∧ iv = .int .i64 j ∧ Hid (ls = markedN 0 (bs.take j)) ∧ Hid (wr.ownsRow w.heap.size 3 1 ov ls.length (intV (upI ls))) ∧ Hid (Below w.heap.size w wr))
    (fun _ iv _ => n - (intOf iv).toNat)
  case atStart => exact ⟨0, [], Nat.zero_le _, rfl, rfl, L1.out, B1.out⟩
  case round =>
    obtain ⟨j, ls, hj, rfl, hls, hrow, hbe⟩ := hrel
    obtain ⟨oa, oc, rfl, _⟩ := row_shape hrow.out
    have hll : ls.length ≤ 1500 := by rw [hls.out]; have := markedN_le 0 (bs.take j); rw [List.length_take] at this; omega
    by_cases hlt : j < n
    · obtain ⟨g, rfl⟩ := HA.out (by omega)
      have hjb : j < bs.length := by have := HN.out; omega
      have c0 := boolV_cell (row_below HR.out hbe.out) j hjb
      have hmt := markedN_take hjb
      obtain ⟨b, hb⟩ : ∃ b, bs[j] = b := ⟨_, rfl⟩
      rw [hb] at c0 hmt
      rw [← hls.out] at hmt
      have HMT := Lib.hid hmt
      clear hb hmt
      cases b with
      | false =>
        have HL : Hid (ls = markedN 0 (bs.take (j + 1))) := by show _ = _; rw [HMT.out]; simp
        go_wp2
        go_roundw
        case rel => exact ⟨j + 1, ls, by omega, by go_num, HL.out, hrow.out, hbe.out⟩
        case measure => simp [intOf]; omega
      | true =>
        have HL : Hid (ls ++ [j] = markedN 0 (bs.take (j + 1))) := by show _ = _; rw [HMT.out]; simp
        have hsw : w.heap.size ≤ wr.heap.size := hbe.out.size
        go_wp2_with (at_builtin; refine wpList_append_lies _ rfl (.tmp 16) (.tmp 18) 23 rfl w.heap.size 3 i0 (.int .i64 0) 1 8 Try.underlying23 hi hz0 hz1 hz2 rfl (by decide) (.slice oa ls.length oc) ls.length _ rfl (hrow.out.alloc _) ⟨wr.heap.size, 0, none⟩ 1 1 [.int .i64 (j : Int)] rfl rfl (World.news_of_block (heap_alloc_new _ _)) (one_intV [(j : Int)]) (by decide) (by unfold maxLen; omega) (by omega) (by simp; omega) _ rfl ?_)
        intro g1 cap1 w5 hown1 hg1 hat1 hlt1
        have HB5 : Hid (Below w.heap.size w w5) := (hbe.out.alloc hsw _).grown hg1 (by simp; omega) (fun k hk => (hrow.out.lt k hk).1)
        have HR5 : Hid (w5.ownsRow w.heap.size 3 1 (.slice (some ⟨g1, 0, none⟩) (ls.length + 1) cap1) (ls ++ [j]).length (intV (upI (ls ++ [j])))) := by
          show World.ownsRow _ _ _ _ _ _ _
          have := hown1
          simpa [intV, upI] using this
        clear hown1 hg1 hat1 hlt1
        go_wp2
        go_roundw
        case rel => exact ⟨j + 1, ls ++ [j], by omega, by go_num, HL.out, HR5.out, HB5.out⟩
        case measure => simp [intOf]; omega
    · have HL : Hid (ls = markedN 0 bs) := by show _ = _; rw [hls.out, List.take_of_length_le (by have := HN.out; omega)]
      have hul := upI_length ls
      go_wp2
      go_ret
      exact ⟨_, rfl, by rw [← HL.out, hul]; exact hrow.out, hbe.out⟩
end Go.Proofs.Ytofmccihehalcab.Trm
/- The model's ReachIn, LiveIn, InLoop, walked. Conditions: the code lies in memory; at most 2 to the 20 names and terms. -/
namespace Go.Proofs.Ytofmccihehalcab.Trm
open Go.RowKit Go.Proofs.Ytofmccihehalcab.Own
set_option maxRecDepth 20000 in
set_option maxHeartbeats 1600000 in
theorem specReachIn_any (x : KTree) (a : Int) (v : Value) (w : World) (hl : KIn w x v) (hz : szK x ≤ 1048576) :
    Calls Try.prog 16 #[v, .int .i64 a] w (ListI (upI (reachAns x a)) w) := by
  have CA := Lib.hid (fun wx (hb : Below w.heap.size w wx) => specAt_any x a v wx (hl.keep (keeps_below hb)) hz)
  have CR := Lib.hid (fun wx (hb : Below w.heap.size w wx) s (hk : okK x = true) (hs : s < x.ins.length) => specReach_any x s v wx (hl.keep (keeps_below hb)) hk hs)
  obtain ⟨ga, gc, la, lc, pa, pc, ea, ec, ia, ic, rfl, h1, h2, h3, h4, h5, _⟩ := hl
  obtain ⟨n, hn⟩ : ∃ n, n = x.ins.length := ⟨_, rfl⟩
  rw [← hn] at h5 CA CR ⊢
  have HN := Lib.hid hn
  have X0 := Lib.hid (Box5.new w (.slice ga x.globals.length gc) (.slice la x.locks.length lc) (.slice pa x.procs.length pc) (.slice ea x.entry.length ec) (.slice ia n ic) 31)
  have B0 := Lib.hid ((Below.refl w.heap.size w).alloc (Nat.le_refl _) (.cells #[.slice ga x.globals.length gc, .slice la x.locks.length lc, .slice pa x.procs.length pc, .slice ea x.entry.length ec, .slice ia n ic] 31))
  obtain ⟨rs, hrs⟩ : ∃ rs, rs = upI (reachAns x a) := ⟨_, rfl⟩
  have HRS := Lib.hid hrs
  rw [← hrs]
  clear h1 h2 h3 h4 h5 hz hn hrs
  obtain ⟨W1, hW1⟩ : ∃ W, W = w.alloc (.cells #[.slice ga x.globals.length gc, .slice la x.locks.length lc, .slice pa x.procs.length pc, .slice ea x.entry.length ec, .slice ia n ic] 31) := ⟨_, rfl⟩
  obtain ⟨p0, p1, p2, p3, p4⟩ := X0.out
  rw [← hW1] at X0 B0
  have HW1 := Lib.hid hW1
  clear hW1
  go_enter Try.func16, Try.ntmps16
  go_wp2_with fail
  rw [← HW1.out] at p0 p1 p2 p3 p4 ⊢
  refine (CA.out _ B0.out).mono ?_
  rintro e w2 ⟨rfl, hb⟩
  have B2 := Lib.hid (B0.out.trans (hb.mono B0.out.size))
  have X2 := Lib.hid (X0.out.keep (keeps_below hb))
  clear hb p0 p1 p2 p3 p4
  obtain ⟨p0, p1, p2, p3, p4⟩ := X2.out
  obtain ⟨kb, hkb⟩ : ∃ b, atB x a = b := ⟨_, rfl⟩
  have HKB := Lib.hid hkb
  rw [hkb]
  clear hkb
  cases kb with
  | false =>
    have HF : Hid (rs = []) := by show _ = _; rw [HRS.out]; unfold reachAns; rw [if_neg (fun h => by rw [HKB.out] at h; cases h)]; rfl
    go_wp2_with fail
    go_ret
    exact listI0 HF.out B2.out _ rfl
  | true =>
    obtain ⟨hk, ha0, ha1⟩ := atB_iff.1 HKB.out
    obtain ⟨i, rfl⟩ : ∃ i : Nat, a = (i : Int) := ⟨a.toNat, by omega⟩
    have hi : i < x.ins.length := by omega
    have hlen := okK_len hk
    have HF : Hid (rs = upI (markedN 0 (reachB x i))) := by
      show _ = _
      rw [HRS.out]
      unfold reachAns
      rw [if_pos HKB.out]
      rfl
    have C := Lib.hid (CR.out _ B2.out i hk (by have := HN.out; omega))
    have hrl := reachB_length x i
    obtain ⟨bs, hbs⟩ : ∃ z, z = reachB x i := ⟨_, rfl⟩
    rw [← hbs] at C HF hrl
    have hbl : bs.length ≤ 1500 := by omega
    clear hk ha0 ha1 hlen hbs hrl
    go_wp2_with fail
    refine C.out.mono ?_
    rintro e w3 ⟨bv, rfl, hr3, hb3⟩
    have R3 := Lib.hid hr3
    have B3 := Lib.hid (B2.out.trans (hb3.mono B2.out.size))
    clear hr3 hb3 p0 p1 p2 p3 p4
    go_wp2_with fail
    refine (specMarked_any bs bv _ w3 hbl R3.out).mono ?_
    rintro e w4 ⟨ov, rfl, hr, hb⟩
    have HRo := Lib.hid (World.ownsRow.mono hr B3.out.size)
    have B4 := Lib.hid (B3.out.trans (hb.mono B3.out.size))
    clear hr hb
    go_wp2_with fail
    go_ret
    exact ⟨_, rfl, by rw [HF.out]; exact HRo.out, B4.out⟩
set_option maxRecDepth 20000 in
set_option maxHeartbeats 3200000 in
theorem specLive_any (x : KTree) (p : Nat) (v : Value) (w : World) (hl : KIn w x v) (hk : okK x = true) (hp : p < x.entry.length) :
    Calls Try.prog 28 #[v, .int .i64 (p : Int)] w (ListB ((reachB x x.entry[p].toNat).set x.entry[p].toNat true) w) := by
  have CR := Lib.hid (fun wx (hb : Below w.heap.size w wx) s (hs : s < x.ins.length) => specReach_any x s v wx (hl.keep (keeps_below hb)) hk hs)
  obtain ⟨ga, gc, la, lc, pa, pc, ea, ec, ia, ic, rfl, h1, h2, h3, h4, h5, _⟩ := hl
  obtain ⟨n, hn⟩ : ∃ n, n = x.ins.length := ⟨_, rfl⟩
  rw [← hn] at h5 CR ⊢
  have h0 := (okK_ris hk).nonneg hp
  have h1n := (okK_ris hk).below hp
  have hlen := okK_len hk
  obtain ⟨e, he⟩ : ∃ e : Nat, x.entry[p] = (e : Int) := ⟨x.entry[p].toNat, by omega⟩
  have hen : e < n := by omega
  have hnn : n ≤ 1500 := by omega
  obtain ⟨a2, c2, e2, hme, _, hk4⟩ := h4
  simp at e2
  obtain ⟨rfl, rfl⟩ := e2
  obtain ⟨eg, eo, rfl, hec⟩ := hk4 (by omega)
  have HE0 : Hid (∀ wx, Below w.heap.size w wx → wx.cell? ⟨eg, eo + p, none⟩ = some (.int .i64 (e : Int))) := fun wx hb => by rw [← he]; exact keeps_below hb _ _ (hec p hp)
  rw [he]
  have C := Lib.hid (fun wx hb => CR.out wx hb e hen)
  have hrl := reachB_length x e
  have h3 : ((e : Int)).toNat = e := rfl
  rw [h3]
  obtain ⟨bs, hbs⟩ : ∃ z, z = reachB x e := ⟨_, rfl⟩
  rw [← hbs] at C hrl ⊢
  have hbl : bs.length = n := by omega
  have hel : x.entry.length ≤ 9223372036854775807 := hme
  have hpe : (p : Int) < (x.entry.length : Int) := by omega
  obtain ⟨V3, hV3⟩ : ∃ z, z = x.entry.length := ⟨_, rfl⟩
  have X0 := Lib.hid (Box5.new w (.slice ga x.globals.length gc) (.slice la x.locks.length lc) (.slice pa x.procs.length pc) (.slice (some ⟨eg, eo, none⟩) x.entry.length ec) (.slice ia n ic) 31)
  have B0 := Lib.hid ((Below.refl w.heap.size w).alloc (Nat.le_refl _) (.cells #[.slice ga x.globals.length gc, .slice la x.locks.length lc, .slice pa x.procs.length pc, .slice (some ⟨eg, eo, none⟩) x.entry.length ec, .slice ia n ic] 31))
  rw [← hV3] at X0 B0 C hel hpe ⊢
  clear h1 h2 h3 h5 hk hk4 hec hme he h0 h1n hn CR hbs hV3 hlen hrl
  obtain ⟨W1, hW1⟩ : ∃ W, W = w.alloc (.cells #[.slice ga x.globals.length gc, .slice la x.locks.length lc, .slice pa x.procs.length pc, .slice (some ⟨eg, eo, none⟩) V3 ec, .slice ia n ic] 31) := ⟨_, rfl⟩
  obtain ⟨p0, p1, p2, p3, p4⟩ := X0.out
  rw [← hW1] at X0 B0
  have q0 := HE0.out W1 B0.out
  have HW1 := Lib.hid hW1
  clear hW1
  go_enter Try.func28, Try.ntmps28
  go_upto_region 1 with fail
  rw [← HW1.out] at p0 p1 p2 p3 p4 ⊢
  go_wp2
  go_region_with (first
    | (go_at_call 39; refine (C.out _ (by first | exact B0.out.drew | exact B0.out)).mono ?_; rintro e w3 ⟨bv, rfl, hr3, hb3⟩; have HR3 := Lib.hid hr3; have HB3 := Lib.hid (below_of_drew hb3); clear hr3 hb3))
  all_goals
    have b3 : Below W1.heap.size W1 w3 := HB3.out
    have r3 : w3.ownsRow W1.heap.size 4 1 bv bs.length (boolV bs) := HR3.out
    have hsW : w.heap.size < W1.heap.size := cell_lt p0
    rw [hbl] at r3
    obtain ⟨ba, bc, rfl, hba⟩ := row_shape r3
    obtain ⟨bg, rfl⟩ := hba (by omega)
    have hbg := (r3.lt bg rfl).1
    have B3 := Lib.hid (B0.out.trans (b3.mono B0.out.size))
    have X3 := Lib.hid (X0.out.keep (keeps_below b3))
    have q3 := HE0.out w3 B3.out
    have c3 := boolV_cell r3 e (by omega)
    have f3 := r3.frozenAt e
    obtain ⟨m4, g4⟩ := boolV_set r3 e true
    have M4 := Lib.hid m4
    have B4 := Lib.hid (B3.out.grown g4 B3.out.size (fun k hk => by cases hk; omega))
    have hsl : (bs.set e true).length = n := by rw [List.length_set]; exact hbl
    clear p0 p1 p2 p3 p4 q0 m4 g4 hba HR3 HB3 b3 r3
    obtain ⟨p0, p1, p2, p3, p4⟩ := X3.out
    go_wp2
    go_ret
    exact ⟨_, rfl, by rw [hsl]; exact M4.out.mono (by omega), B4.out⟩
set_option maxRecDepth 20000 in
set_option maxHeartbeats 1600000 in
theorem specLiveIn_any (x : KTree) (a : Int) (v : Value) (w : World) (hl : KIn w x v) (hz : szK x ≤ 1048576) :
    Calls Try.prog 8 #[v, .int .i64 a] w (ListI (upI (liveAns x a)) w) := by
  have CA := Lib.hid (fun wx (hb : Below w.heap.size w wx) => specCodeOk_any x v wx (hl.keep (keeps_below hb)) hz)
  have CR := Lib.hid (fun wx (hb : Below w.heap.size w wx) p (hk : okK x = true) (hp : p < x.entry.length) => specLive_any x p v wx (hl.keep (keeps_below hb)) hk hp)
  obtain ⟨ga, gc, la, lc, pa, pc, ea, ec, ia, ic, rfl, h1, h2, h3, h4, h5, _⟩ := hl
  obtain ⟨n, hn⟩ : ∃ n, n = x.ins.length := ⟨_, rfl⟩
  rw [← hn] at h5 CA CR ⊢
  have hpl : x.procs.length ≤ 9223372036854775807 := by obtain ⟨_, _, _, h, _⟩ := h3.1; exact h
  have HN := Lib.hid hn
  have X0 := Lib.hid (Box5.new w (.slice ga x.globals.length gc) (.slice la x.locks.length lc) (.slice pa x.procs.length pc) (.slice ea x.entry.length ec) (.slice ia n ic) 31)
  have B0 := Lib.hid ((Below.refl w.heap.size w).alloc (Nat.le_refl _) (.cells #[.slice ga x.globals.length gc, .slice la x.locks.length lc, .slice pa x.procs.length pc, .slice ea x.entry.length ec, .slice ia n ic] 31))
  obtain ⟨rs, hrs⟩ : ∃ rs, rs = upI (liveAns x a) := ⟨_, rfl⟩
  have HRS := Lib.hid hrs
  rw [← hrs]
  obtain ⟨kb, hkb⟩ : ∃ b, okK x = b := ⟨_, rfl⟩
  have HKB := Lib.hid hkb
  rw [hkb] at CA
  clear h1 h2 h3 h4 h5 hz hn hrs hkb
  obtain ⟨W1, hW1⟩ : ∃ W, W = w.alloc (.cells #[.slice ga x.globals.length gc, .slice la x.locks.length lc, .slice pa x.procs.length pc, .slice ea x.entry.length ec, .slice ia n ic] 31) := ⟨_, rfl⟩
  obtain ⟨p0, p1, p2, p3, p4⟩ := X0.out
  rw [← hW1] at X0 B0
  have HW1 := Lib.hid hW1
  clear hW1
  go_enter Try.func8, Try.ntmps8
  go_wp2_with fail
  rw [← HW1.out] at p0 p1 p2 p3 p4 ⊢
  refine (CA.out _ B0.out).mono ?_
  rintro e w2 ⟨rfl, hb⟩
  have B2 := Lib.hid (B0.out.trans (hb.mono B0.out.size))
  have X2 := Lib.hid (X0.out.keep (keeps_below hb))
  clear hb p0 p1 p2 p3 p4
  obtain ⟨p0, p1, p2, p3, p4⟩ := X2.out
  cases kb with
  | false =>
    have HF : Hid (rs = []) := by show _ = _; rw [HRS.out]; unfold liveAns; rw [dif_neg (fun h => by have h1 := h.1; rw [HKB.out] at h1; cases h1)]; rfl
    go_wp2_with fail
    go_ret
    exact listI0 HF.out B2.out _ rfl
  | true =>
    have hep : x.entry.length = x.procs.length := by
      have h2 : kHeads x = true := by have h := HKB.out; unfold okK at h; rw [Bool.and_eq_true] at h; exact h.1
      exact (kHeads_ent h2).2.1
    have HEP := Lib.hid hep
    clear hep
    by_cases ha : 0 ≤ a ∧ a ≤ (x.procs.length : Int) - 1
    · obtain ⟨i, rfl⟩ : ∃ i : Nat, a = (i : Int) := ⟨a.toNat, by omega⟩
      have hi : i < x.entry.length := by have := HEP.out; omega
      have h3 : ((i : Int)).toNat = i := rfl
      have HF : Hid (rs = upI (markedN 0 ((reachB x x.entry[i].toNat).set x.entry[i].toNat true))) := by
        show _ = _
        rw [HRS.out]
        unfold liveAns
        rw [dif_pos ⟨HKB.out, ha.1, by rw [h3]; exact hi⟩]
        rfl
      have C := Lib.hid (CR.out _ B2.out i HKB.out hi)
      have hbl : ((reachB x x.entry[i].toNat).set x.entry[i].toNat true).length ≤ 1500 := by rw [List.length_set, reachB_length]; exact okK_len HKB.out
      obtain ⟨bs, hbs⟩ : ∃ z, z = (reachB x x.entry[i].toNat).set x.entry[i].toNat true := ⟨_, rfl⟩
      rw [← hbs] at C HF hbl
      clear hbs h3
      go_wp2_with fail
      refine (in_yes _ _ _ _ ha.1 ha.2).mono ?_
      rintro e w3 ⟨rfl, rfl⟩
      clear ha
      go_wp2_with fail
      refine C.out.mono ?_
      rintro e w3 ⟨bv, rfl, hr3, hb3⟩
      have R3 := Lib.hid hr3
      have B3 := Lib.hid (B2.out.trans (hb3.mono B2.out.size))
      clear hr3 hb3 p0 p1 p2 p3 p4
      go_wp2_with fail
      refine (specMarked_any bs bv _ w3 hbl R3.out).mono ?_
      rintro e w4 ⟨ov, rfl, hr, hb⟩
      have HRo := Lib.hid (World.ownsRow.mono hr B3.out.size)
      have B4 := Lib.hid (B3.out.trans (hb.mono B3.out.size))
      clear hr hb
      go_wp2_with fail
      go_ret
      exact ⟨_, rfl, by rw [HF.out]; exact HRo.out, B4.out⟩
    · have HF : Hid (rs = []) := by
        show _ = _
        rw [HRS.out]
        unfold liveAns
        rw [dif_neg (fun h => ha ⟨h.2.1, by have := HEP.out; have := h.2.2; omega⟩)]
        rfl
      go_wp2_with fail
      refine (in_no _ _ _ _ (by omega)).mono ?_
      rintro e w3 ⟨rfl, rfl⟩
      go_wp2_with fail
      go_ret
      exact listI0 HF.out B2.out _ rfl
end Go.Proofs.Ytofmccihehalcab.Trm
/- The model's InLoop, walked. Conditions: the code lies in memory; at most 2 to the 20 names and terms. -/
namespace Go.Proofs.Ytofmccihehalcab.Trm
open Go.RowKit Go.Proofs.Ytofmccihehalcab.Own
set_option maxRecDepth 20000 in
set_option maxHeartbeats 1600000 in
theorem specInLoop_any (x : KTree) (a : Int) (v : Value) (w : World) (hl : KIn w x v) (hz : szK x ≤ 1048576) :
    Calls Try.prog 20 #[v, .int .i64 a] w fun e w' => e = .returned (.bool (loopAns x a)) ∧ Below w.heap.size w w' := by
  have CA := Lib.hid (fun wx (hb : Below w.heap.size w wx) => specAt_any x a v wx (hl.keep (keeps_below hb)) hz)
  have CR := Lib.hid (fun wx (hb : Below w.heap.size w wx) s (hk : okK x = true) (hs : s < x.ins.length) => specReach_any x s v wx (hl.keep (keeps_below hb)) hk hs)
  obtain ⟨ga, gc, la, lc, pa, pc, ea, ec, ia, ic, rfl, h1, h2, h3, h4, h5, _⟩ := hl
  obtain ⟨n, hn⟩ : ∃ n, n = x.ins.length := ⟨_, rfl⟩
  rw [← hn] at h5 CA CR ⊢
  have HN := Lib.hid hn
  have X0 := Lib.hid (Box5.new w (.slice ga x.globals.length gc) (.slice la x.locks.length lc) (.slice pa x.procs.length pc) (.slice ea x.entry.length ec) (.slice ia n ic) 31)
  have B0 := Lib.hid ((Below.refl w.heap.size w).alloc (Nat.le_refl _) (.cells #[.slice ga x.globals.length gc, .slice la x.locks.length lc, .slice pa x.procs.length pc, .slice ea x.entry.length ec, .slice ia n ic] 31))
  obtain ⟨rs, hrs⟩ : ∃ rs, rs = loopAns x a := ⟨_, rfl⟩
  have HRS := Lib.hid hrs
  rw [← hrs]
  clear h1 h2 h3 h4 h5 hz hn hrs
  obtain ⟨W1, hW1⟩ : ∃ W, W = w.alloc (.cells #[.slice ga x.globals.length gc, .slice la x.locks.length lc, .slice pa x.procs.length pc, .slice ea x.entry.length ec, .slice ia n ic] 31) := ⟨_, rfl⟩
  obtain ⟨p0, p1, p2, p3, p4⟩ := X0.out
  rw [← hW1] at X0 B0
  have HW1 := Lib.hid hW1
  clear hW1
  go_enter Try.func20, Try.ntmps20
  go_wp2_with fail
  rw [← HW1.out] at p0 p1 p2 p3 p4 ⊢
  refine (CA.out _ B0.out).mono ?_
  rintro e w2 ⟨rfl, hb⟩
  have B2 := Lib.hid (B0.out.trans (hb.mono B0.out.size))
  have X2 := Lib.hid (X0.out.keep (keeps_below hb))
  clear hb p0 p1 p2 p3 p4
  obtain ⟨p0, p1, p2, p3, p4⟩ := X2.out
  obtain ⟨kb, hkb⟩ : ∃ b, atB x a = b := ⟨_, rfl⟩
  have HKB := Lib.hid hkb
  rw [hkb]
  clear hkb
  cases kb with
  | false =>
    have HF : Hid (rs = false) := by show _ = _; rw [HRS.out]; unfold loopAns; rw [HKB.out]; rfl
    go_wp2_with fail
    go_ret
    exact ⟨ret_b2 (by rw [HF.out]), B2.out⟩
  | true =>
    obtain ⟨hk, ha0, ha1⟩ := atB_iff.1 HKB.out
    obtain ⟨i, rfl⟩ : ∃ i : Nat, a = (i : Int) := ⟨a.toNat, by omega⟩
    have hi : i < x.ins.length := by omega
    have hlen := okK_len hk
    have C := Lib.hid (CR.out _ B2.out i hk (by have := HN.out; omega))
    have hrl := reachB_length x i
    have HF : Hid (∀ b, (reachB x i)[i]? = some b → rs = b) := fun b hb => by
      rw [HRS.out]
      unfold loopAns
      rw [HKB.out]
      have h1 : ((i : Int)).toNat = i := rfl
      rw [h1, hb]
      cases b <;> simp
    obtain ⟨bs, hbs⟩ : ∃ z, z = reachB x i := ⟨_, rfl⟩
    rw [← hbs] at C HF hrl
    have hbl : bs.length = n := by have := HN.out; omega
    have hin : i < bs.length := by omega
    have HF2 : Hid (rs = bs[i]) := HF.out _ (List.getElem?_eq_getElem hin)
    have hn15 : n ≤ 1500 := by have := HN.out; omega
    clear hk ha0 ha1 hlen hbs hrl HF
    go_wp2_with fail
    refine C.out.mono ?_
    rintro e w3 ⟨bv, rfl, hr3, hb3⟩
    obtain ⟨ba, bc, rfl, hba⟩ := row_shape hr3
    obtain ⟨bg, rfl⟩ := hba (by omega)
    have c0 := boolV_cell hr3 i hin
    have B3 := Lib.hid (B2.out.trans (hb3.mono B2.out.size))
    rw [← HF2.out] at c0
    clear hr3 hb3 p0 p1 p2 p3 p4 hba
    go_wp2_with fail
    go_ret
    exact ⟨rfl, B3.out⟩
end Go.Proofs.Ytofmccihehalcab.Trm
/- The program's iterator over what comes next: its contract, and the list that is collected of it, walked. Conditions: the code lies in memory and is right; the place is there. -/
namespace Go.Proofs.Ytofmccihehalcab.Trm
open Go.RowKit Go.Proofs.Ytofmccihehalcab.Own Go.Shelf
attribute [local go_sem] Oper.semAt_some
/-- What a round that goes on keeps: the box of the place, and each block that is one instruction. -/
def KpN (Ab : Nat) (W W' : World) : Prop := W'.heap[Ab]? = W.heap[Ab]? ∧ ∀ (b : Nat) (c : Array Value), W.heap[b]? = some (Obj.cells c 66 (0, 0)) → W'.heap[b]? = some (Obj.cells c 66 (0, 0))
theorem KpN.refl (Ab : Nat) (W : World) : KpN Ab W W := ⟨rfl, fun _ _ h => h⟩
theorem KpN.trans {Ab : Nat} {A B C : World} (h : KpN Ab A B) (k : KpN Ab B C) : KpN Ab A C := ⟨k.1.trans h.1, fun b c hb => k.2 b c (h.2 b c hb)⟩
theorem KpN.alloc {Ab : Nat} {W : World} (hA : Ab < W.heap.size) (o : Obj) : KpN Ab W (W.alloc o) :=
  ⟨Below.heap_alloc W o Ab hA, fun b _ hb => (Below.heap_alloc W o b (Array.getElem?_eq_some_iff.1 hb).1).trans hb⟩
theorem KpN.grown {Ab : Nat} {W W' : World} {row : Option Nat} (hA : Ab < W.heap.size) (hg : W.grownBy W' row) (hr : ∀ r, row = some r → r ≠ Ab ∧ ∀ c : Array Value, W.heap[r]? ≠ some (Obj.cells c 66 (0, 0))) : KpN Ab W W' :=
  ⟨hg.block Ab hA (fun e => (hr Ab e.symm).1 rfl), fun b c hb => (hg.block b (Array.getElem?_eq_some_iff.1 hb).1 (fun e => (hr b e.symm).2 c hb)).trans hb⟩
theorem KpN.put {Ab : Nat} {w : World} (hA : Ab < w.heap.size) (W : World) (l : Nat) (o o' : Obj) (hl : w.heap.size ≤ l) (h : W.heap[l]? = some o) (hc : o.isCells = false) (_ : o.isWalk = false) : KpN Ab W (W.putObj l o') := by
  refine ⟨World.putObj_heap_other (by omega), fun b c hb => ?_⟩
  by_cases e : b = l
  · subst e
    rw [hb] at h
    cases h
    cases hc
  · exact (World.putObj_heap_other e).trans hb
set_option maxRecDepth 100000 in
set_option maxHeartbeats 4000000 in
/-- The iterator, for every body that keeps the box of the place and each instruction that is laid. -/
theorem next1_in (F : Fence) (m : Nat) (hF : F.fn 57) (hro : F.round = none) (hm : 1 ≤ m) (op a u : Int) (t : Tree) (i n : Nat) (gv lv pv ev : Value) (g o ic Kb Ab l : Nat) (ta : Option Addr) (tc : Nat) (J Jx : List Nat → World → Prop) (W : World) (hi : i < n) (hn : n ≤ 1500) (h0u : op = 2 ∨ op = 3 → 0 ≤ u)
    (hA : AbidesFrom W.heap.size J)
    (hY : ∀ pre x W1, J pre W1 → x ∈ nextN i ⟨op, a, t, u⟩ → pre.length < 2 → YieldAt F (m - 1) Try.prog l #[.int .i64 ((x : Nat) : Int)] W1 fun e W' => (e = .returned (.bool true) ∧ J (pre ++ [x]) W' ∧ KpN Ab W1 W') ∨ (e = .returned (.bool false) ∧ Jx (pre ++ [x]) W'))
    (hk : Box5 W Kb gv lv pv ev (.slice (some ⟨g, o, none⟩) n ic)) (ha : W.cell? ⟨Ab, 0, none⟩ = some (.int .i64 (i : Int)))
    (c0 : W.cell? ⟨g, o + i * 7, none⟩ = some (.int .i64 op)) (c1 : W.cell? ⟨g, o + i * 7 + 1, none⟩ = some (.int .i64 a)) (c2 : W.cell? ⟨g, o + i * 7 + 2, none⟩ = some (.int .i64 t.kind)) (c3 : W.cell? ⟨g, o + i * 7 + 3, none⟩ = some (.int .i64 t.num)) (c4 : W.cell? ⟨g, o + i * 7 + 4, none⟩ = some (.string t.name)) (c5 : W.cell? ⟨g, o + i * 7 + 5, none⟩ = some (.slice ta t.kids.length tc)) (c6 : W.cell? ⟨g, o + i * 7 + 6, none⟩ = some (.int .i64 u)) (h0 : J [] W) :
    CallsIn F m Try.prog 57 #[.func (.yield l) #[] #[], .pointer (some ⟨Kb, 0, none⟩), .pointer (some ⟨Ab, 0, none⟩)] W fun e W' => (∃ v, e = .returned v) ∧
      ((∃ ys, ys = nextN i ⟨op, a, t, u⟩ ∧ J ys W') ∨ (∃ pre, pre <+: nextN i ⟨op, a, t, u⟩ ∧ Jx pre W')) := by
  obtain ⟨p0, p1, p2, p3, p4⟩ := hk
  obtain ⟨W1, hW1⟩ : ∃ W1, W1 = W.alloc (.cells #[.int .i64 op, .int .i64 a, .int .i64 t.kind, .int .i64 t.num, .string t.name, .slice ta t.kids.length tc, .int .i64 u] 66) := ⟨_, rfl⟩
  have hJ1 : J [] W1 := by rw [hW1]; exact hA [] W _ none h0 (World.grownBy_alloc W _ none) (fun r e => by cases e)
  have hX : W1.heap[W.heap.size]? = some (.cells #[.int .i64 op, .int .i64 a, .int .i64 t.kind, .int .i64 t.num, .string t.name, .slice ta t.kids.length tc, .int .i64 u] 66 (0, 0)) := by rw [hW1]; exact heap_alloc_new W _
  have hAb : Ab < W.heap.size := cell_lt ha
  have ha1 : W1.cell? ⟨Ab, 0, none⟩ = some (.int .i64 (i : Int)) := by rw [hW1]; exact keeps_alloc W _ _ _ ha
  have HX := Lib.hid hX
  have HA1 := Lib.hid ha1
  have HW1 := Lib.hid hW1
  have cell7 : ∀ {V : World}, V.heap[W.heap.size]? = some (.cells #[.int .i64 op, .int .i64 a, .int .i64 t.kind, .int .i64 t.num, .string t.name, .slice ta t.kids.length tc, .int .i64 u] 66 (0, 0)) → V.cell? ⟨W.heap.size, 0, none⟩ = some (.int .i64 op) ∧ V.cell? ⟨W.heap.size, 6, none⟩ = some (.int .i64 u) := fun h => by constructor <;> simp [World.cell?, h]
  by_cases h2 : op = 2
  · subst h2
    by_cases hu : u = (i : Int) + 1
    · subst hu
      have ys : nextN i ⟨2, a, t, (i : Int) + 1⟩ = [i + 1] := by unfold nextN; rw [if_pos rfl, if_pos rfl]
      have ei : ((i + 1 : Nat) : Int) = (i : Int) + 1 := by omega
      obtain ⟨f1, t1, a1, b1, hy1, hR1⟩ := hY [] (i + 1) W1 hJ1 (by rw [ys]; simp) (by simp)
      rw [ei, HW1.out] at hy1
      refine callsIn_of_wp Try.func57 rfl hF ?_ hro
      simp only [Try.ntmps57, List.size_toArray, List.length_cons, List.length_nil, Nat.reduceAdd, Nat.reduceSub, Array.replicate_succ, Array.replicate_zero, List.push_toArray, List.append_toArray, List.nil_append, List.cons_append]
      gi_wp2
      rw [← HW1.out]
      refine hR1.mono ?_
      rintro e W2 (⟨rfl, hJ2, hk2⟩ | ⟨rfl, hx2⟩)
      · obtain ⟨_, d6⟩ := cell7 (hk2.2 _ _ HX.out)
        have da : W2.cell? ⟨Ab, 0, none⟩ = some (.int .i64 (i : Int)) := (World.cell?_of_block hk2.1).trans HA1.out
        gi_wp2
        go_end0
        exact ⟨⟨_, rfl⟩, .inl ⟨[i + 1], ys.symm, hJ2⟩⟩
      · gi_wp2
        go_end0
        exact ⟨⟨_, rfl⟩, .inr ⟨[i + 1], by rw [ys]; exact List.prefix_refl _, hx2⟩⟩
    · have ys : nextN i ⟨2, a, t, u⟩ = [i + 1, u.toNat] := by unfold nextN; rw [if_pos rfl, if_neg hu]
      obtain ⟨z, rfl⟩ : ∃ z : Nat, u = (z : Int) := ⟨u.toNat, by have := h0u (.inl rfl); omega⟩
      have ys2 : nextN i ⟨2, a, t, (z : Int)⟩ = [i + 1, z] := ys
      have ku : ((z : Int) == (i : Int) + 1) = false := by rw [beq_eq_false_iff_ne]; exact hu
      have ei : ((i + 1 : Nat) : Int) = (i : Int) + 1 := by omega
      obtain ⟨f1, t1, a1, b1, hy1, hR1⟩ := hY [] (i + 1) W1 hJ1 (by rw [ys2]; simp) (by simp)
      rw [ei, HW1.out] at hy1
      refine callsIn_of_wp Try.func57 rfl hF ?_ hro
      simp only [Try.ntmps57, List.size_toArray, List.length_cons, List.length_nil, Nat.reduceAdd, Nat.reduceSub, Array.replicate_succ, Array.replicate_zero, List.push_toArray, List.append_toArray, List.nil_append, List.cons_append]
      gi_wp2
      rw [← HW1.out]
      refine hR1.mono ?_
      rintro e W2 (⟨rfl, hJ2, hk2⟩ | ⟨rfl, hx2⟩)
      · obtain ⟨_, d6⟩ := cell7 (hk2.2 _ _ HX.out)
        have da : W2.cell? ⟨Ab, 0, none⟩ = some (.int .i64 (i : Int)) := (World.cell?_of_block hk2.1).trans HA1.out
        obtain ⟨f2, t2, a2, b2, hy2, hR2⟩ := hY [i + 1] z W2 hJ2 (by rw [ys2]; simp) (by simp)
        gi_wp2
        refine hR2.mono ?_
        rintro e W3 (⟨rfl, hJ3, _⟩ | ⟨rfl, hx3⟩)
        · gi_wp2
          go_end0
          exact ⟨⟨_, rfl⟩, .inl ⟨[i + 1, z], ys2.symm, hJ3⟩⟩
        · gi_wp2
          go_end0
          exact ⟨⟨_, rfl⟩, .inr ⟨[i + 1, z], by rw [ys2]; exact List.prefix_refl _, hx3⟩⟩
      · gi_wp2
        go_end0
        exact ⟨⟨_, rfl⟩, .inr ⟨[i + 1], by rw [ys2]; exact ⟨[z], rfl⟩, hx2⟩⟩
  · by_cases h3 : op = 3
    · subst h3
      have ys : nextN i ⟨3, a, t, u⟩ = [u.toNat] := by unfold nextN; rw [if_neg (by show ¬ ((3 : Int) = 2); decide), if_pos rfl]
      obtain ⟨z, rfl⟩ : ∃ z : Nat, u = (z : Int) := ⟨u.toNat, by have := h0u (.inr rfl); omega⟩
      have ys2 : nextN i ⟨3, a, t, (z : Int)⟩ = [z] := ys
      obtain ⟨f1, t1, a1, b1, hy1, hR1⟩ := hY [] z W1 hJ1 (by rw [ys2]; simp) (by simp)
      rw [HW1.out] at hy1
      refine callsIn_of_wp Try.func57 rfl hF ?_ hro
      simp only [Try.ntmps57, List.size_toArray, List.length_cons, List.length_nil, Nat.reduceAdd, Nat.reduceSub, Array.replicate_succ, Array.replicate_zero, List.push_toArray, List.append_toArray, List.nil_append, List.cons_append]
      gi_wp2
      rw [← HW1.out]
      refine hR1.mono ?_
      rintro e W2 (⟨rfl, hJ2, _⟩ | ⟨rfl, hx2⟩)
      · gi_wp2
        go_end0
        exact ⟨⟨_, rfl⟩, .inl ⟨[z], ys2.symm, hJ2⟩⟩
      · gi_wp2
        go_end0
        exact ⟨⟨_, rfl⟩, .inr ⟨[z], by rw [ys2]; exact List.prefix_refl _, hx2⟩⟩
    · by_cases h9 : op = 9
      · subst h9
        have ys : nextN i ⟨9, a, t, u⟩ = [] := by unfold nextN; rw [if_neg (by show ¬ ((9 : Int) = 2); decide), if_neg (by show ¬ ((9 : Int) = 3); decide), if_pos rfl]
        refine callsIn_of_wp Try.func57 rfl hF ?_ hro
        simp only [Try.ntmps57, List.size_toArray, List.length_cons, List.length_nil, Nat.reduceAdd, Nat.reduceSub, Array.replicate_succ, Array.replicate_zero, List.push_toArray, List.append_toArray, List.nil_append, List.cons_append]
        gi_wp2
        go_end0
        exact ⟨⟨_, rfl⟩, .inl ⟨[], ys.symm, by rw [← HW1.out]; exact hJ1⟩⟩
      · have ys : nextN i ⟨op, a, t, u⟩ = [i + 1] := by unfold nextN; rw [if_neg h2, if_neg h3, if_neg h9]
        have k2 : (op == 2) = false := by rw [beq_eq_false_iff_ne]; exact h2
        have k3 : (op == 3) = false := by rw [beq_eq_false_iff_ne]; exact h3
        have k9 : (op == 9) = false := by rw [beq_eq_false_iff_ne]; exact h9
        have ei : ((i + 1 : Nat) : Int) = (i : Int) + 1 := by omega
        obtain ⟨f1, t1, a1, b1, hy1, hR1⟩ := hY [] (i + 1) W1 hJ1 (by rw [ys]; simp) (by simp)
        rw [ei, HW1.out] at hy1
        refine callsIn_of_wp Try.func57 rfl hF ?_ hro
        simp only [Try.ntmps57, List.size_toArray, List.length_cons, List.length_nil, Nat.reduceAdd, Nat.reduceSub, Array.replicate_succ, Array.replicate_zero, List.push_toArray, List.append_toArray, List.nil_append, List.cons_append]
        gi_wp2
        rw [← HW1.out]
        refine hR1.mono ?_
        rintro e W2 (⟨rfl, hJ2, _⟩ | ⟨rfl, hx2⟩)
        · gi_wp2
          go_end0
          exact ⟨⟨_, rfl⟩, .inl ⟨[(i + 1)], ys.symm, hJ2⟩⟩
        · gi_wp2
          go_end0
          exact ⟨⟨_, rfl⟩, .inr ⟨[(i + 1)], by rw [ys]; exact List.prefix_refl _, hx2⟩⟩
end Go.Proofs.Ytofmccihehalcab.Trm
