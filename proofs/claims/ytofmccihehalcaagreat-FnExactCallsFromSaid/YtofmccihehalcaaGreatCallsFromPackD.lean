/- The program's iterator over what comes next: its contract, and the list that is collected of it, walked. Conditions: the code lies in memory and is right; the place is there. With what it stands on, in one text. -/
import Derived.Test.YtofmccihehalcaaGreatFlowNextS
import Derived.Test.YtofmccihehalcaaGreatIntRows
import Derived.Test.YtofmccihehalcaaGreatFlowM
import Derived.Laws.OwnMore
import Derived.Deep.RegionWith
import Derived.Deep.DeepCutAuto
import Derived.Test.YtofmccihehalcaaGreatProg
import Derived.Shelf.SlIterI.Collect
import Derived.Shelf.Slices.Turned
import Derived.Shelf.SlicesE.IndexFunc
import Derived.Shelf.SlicesE.DeleteFunc
import Derived.RangeFuncNested
import Derived.RangeFuncBound
import Derived.RangeFuncCalls
import Derived.RangeFuncLeaves
import Derived.RangeFuncBox
import Derived.Shelf.Abstract
import Derived.Shelf.RegionOpen
import Derived.WalkKit
import Derived.OwnWalkIn
import Derived.TacticsInMore
import Derived.LoopNIn
import Derived.LoopIn
import Derived.Maps.AppendAt
import Derived.Test.YtofmccihehalcaaGreatIntMarks
/- The places of a code, of the model: whether there is one, what comes next, what has it next, walked. Conditions: the code lies in memory; at most 2 to the 20 names and terms. -/
namespace Go.Proofs.YtofmccihehalcaaGreat.Trm
open Go.RowKit Go.Proofs.YtofmccihehalcaaGreat.Own
theorem ret_b2 {a b : Bool} (h : a = b) : Ending.returned (.bool a) = .returned (.bool b) := by rw [h]
set_option maxRecDepth 20000 in
set_option maxHeartbeats 1600000 in
theorem specAt_any (x : KTree) (a : Int) (v : Value) (w : World) (hl : KIn w x v) (hz : szK x ≤ 1048576) :
    Calls Tryz.prog 77 #[v, .int .i64 a] w fun e w' => e = .returned (.bool (atB x a)) ∧ Below w.heap.size w w' := by
  have CK := Lib.hid (fun wx (hb : Below w.heap.size w wx) => specCodeOk_any x v wx (hl.keep (keeps_below hb)) hz)
  obtain ⟨ga, gc, la, lc, pa, pc, ea, ec, ia, ic, rfl, h1, h2, h3, h4, h5, _⟩ := hl
  obtain ⟨n, hn⟩ : ∃ n, n = x.ins.length := ⟨_, rfl⟩
  have HA : Hid (atB x a = (okK x && decide (0 ≤ a ∧ a < (n : Int)))) := by show _ = _; unfold atB; rw [hn]
  rw [← hn] at h5 CK ⊢
  have hlm : n ≤ 9223372036854775807 := by rw [hn]; exact h5.1
  have X0 := Lib.hid (Box5.new w (.slice ga x.globals.length gc) (.slice la x.locks.length lc) (.slice pa x.procs.length pc) (.slice ea x.entry.length ec) (.slice ia n ic) 28)
  have B0 := Lib.hid ((Below.refl w.heap.size w).alloc (Nat.le_refl _) (.cells #[.slice ga x.globals.length gc, .slice la x.locks.length lc, .slice pa x.procs.length pc, .slice ea x.entry.length ec, .slice ia n ic] 28))
  obtain ⟨kb, hkb⟩ : ∃ b, okK x = b := ⟨_, rfl⟩
  rw [hkb] at CK HA
  obtain ⟨rr, hrr⟩ : ∃ b, atB x a = b := ⟨_, rfl⟩
  rw [hrr] at HA ⊢
  clear h1 h2 h3 h4 h5 hz hn hkb hrr
  obtain ⟨W1, hW1⟩ : ∃ W, W = w.alloc (.cells #[.slice ga x.globals.length gc, .slice la x.locks.length lc, .slice pa x.procs.length pc, .slice ea x.entry.length ec, .slice ia n ic] 28) := ⟨_, rfl⟩
  obtain ⟨p0, p1, p2, p3, p4⟩ := X0.out
  rw [← hW1] at X0 B0
  have HW1 := Lib.hid hW1
  clear hW1
  go_enter Tryz.func77, Tryz.ntmps77
  go_wp2_with fail
  rw [← HW1.out] at p0 p1 p2 p3 p4 ⊢
  refine (CK.out _ B0.out).mono ?_
  rintro e w2 ⟨rfl, hb⟩
  have B2 := Lib.hid (B0.out.trans (hb.mono B0.out.size))
  have X2 := Lib.hid (X0.out.keep (keeps_below hb))
  clear hb p0 p1 p2 p3 p4
  obtain ⟨p0, p1, p2, p3, p4⟩ := X2.out
  cases kb with
  | false =>
    have HF : Hid (rr = false) := by show _ = _; rw [HA.out]; simp
    go_wp2_with fail
    go_ret
    exact ⟨ret_b2 (by rw [HF.out]), B2.out⟩
  | true =>
    go_wp2_with fail
    by_cases ha : 0 ≤ a ∧ a ≤ (n : Int) - 1
    · have HF : Hid (rr = true) := by show _ = _; rw [HA.out]; simp; omega
      refine (in_yes _ _ _ _ ha.1 ha.2).mono ?_
      rintro e w3 ⟨rfl, rfl⟩
      go_wp2_with fail
      go_ret
      exact ⟨ret_b2 (by rw [HF.out]), B2.out⟩
    · have HF : Hid (rr = false) := by show _ = _; rw [HA.out]; simp; omega
      refine (in_no _ _ _ _ (by omega)).mono ?_
      rintro e w3 ⟨rfl, rfl⟩
      go_wp2_with fail
      go_ret
      exact ⟨ret_b2 (by rw [HF.out]), B2.out⟩
/-- A code in memory, its instructions at hand. -/
theorem atIns {w : World} {x : KTree} {ia : Option Addr} {ic n i : Nat} (hn : n = x.ins.length) (h : IsAt w (.slice ia n ic) x.ins) (hi : i < x.ins.length) : ∃ g o, ia = some ⟨g, o, none⟩ ∧ ∀ i (h : i < x.ins.length), IElem w g (o + i * 7) x.ins[i] := by
  obtain ⟨_, a2, c2, e, hk⟩ := h
  rw [hn] at e
  simp at e
  obtain ⟨rfl, rfl⟩ := e
  exact hk (by omega)
/-- Whether a number is in a list. -/
theorem specHas9_any (zs : List Int) (v : Value) (z : Int) (w : World) (h : IntsAt w zs v) :
    Calls Tryz.prog 69 #[v, .int .i64 z] w fun e w' => e = .returned (.bool (zs.contains z)) ∧ w = w' := by
  obtain ⟨a, c, rfl, hm, _, h2⟩ := h
  have HN := Lib.hid h2
  have HL := Lib.hid hm
  obtain ⟨rr, hrr⟩ : ∃ b, zs.contains z = b := ⟨_, rfl⟩
  have HR : Hid (rr = true ↔ z ∈ zs) := by show (_ ↔ _); rw [← hrr]; simp
  rw [hrr]
  clear h2 hm hrr
  go_enter Tryz.func69, Tryz.ntmps69
  go_wp2
  go_loopw [5] (fun i wr => ∃ j : Nat, j ≤ zs.length ∧ i = .int .i64 j ∧ Hid (∀ k (hk : k < zs.length), k < j → zs[k] ≠ z) ∧ w = wr)
    (fun i _ => zs.length - (intOf i).toNat)
  case atStart => exact ⟨0, Nat.zero_le _, rfl, fun _ _ h => by omega, rfl⟩
  case round =>
    obtain ⟨j, hj, rfl, hno, rfl⟩ := hrel
    have hL := HL.out
    by_cases hlt : j < zs.length
    · obtain ⟨g, o, rfl, h3⟩ := HN.out (by omega)
      have c0 := h3 j hlt
      clear h3
      by_cases he : zs[j] = z
      · have HT : Hid (rr = true) := HR.out.2 (by rw [← he]; exact List.getElem_mem hlt)
        rw [he] at c0
        clear he
        go_wp2
        go_ret
        exact ⟨ret_b2 (by rw [HT.out]), rfl⟩
      · have hq : (zs[j] == z) = false := by rw [beq_eq_false_iff_ne]; exact he
        have HNO : Hid (∀ k (hk : k < zs.length), k < j + 1 → zs[k] ≠ z) := fun k hk h => by
          rcases Nat.lt_or_ge k j with h' | h'
          · exact hno.out k hk h'
          · have : k = j := by omega
            subst this; exact he
        clear he
        go_wp2
        go_roundw
        case rel => exact ⟨j + 1, by omega, by go_num, HNO.out, trivial⟩
        case measure => simp [intOf]; omega
    · have HF : Hid (rr = false) := by
        show _ = _
        rw [Bool.eq_false_iff]
        intro h
        obtain ⟨k, hk, e⟩ := List.getElem_of_mem (HR.out.1 h)
        exact hno.out k hk (by omega) e
      go_wp2
      go_ret
      exact ⟨ret_b2 (by rw [HF.out]), rfl⟩
theorem upI_contains (l : List Nat) (s : Nat) : (upI l).contains (s : Int) = l.contains s := by
  have h : (upI l).contains (s : Int) = true ↔ l.contains s = true := by
    unfold upI
    simp only [List.contains_iff_mem, List.mem_map]
    constructor
    · rintro ⟨y, hy, e⟩
      have : y = s := by omega
      exact this ▸ hy
    · exact fun h => ⟨s, h, rfl⟩
  cases h1 : (upI l).contains (s : Int) <;> cases h2 : l.contains s <;> simp_all
end Go.Proofs.YtofmccihehalcaaGreat.Trm
/- Rows of truth values that a call owns. Without conditions. -/
namespace Go.Proofs.YtofmccihehalcaaGreat.Trm
open Go.RowKit Go.Proofs.YtofmccihehalcaaGreat.Own
theorem infoBoolL : (Tryz.prog.info? 4).map (fun i => (i.zero, i.size, i.bytes)) = some (some (.bool false), 1, 1) := by kernel_rfl
def boolV (bs : List Bool) : List Value := bs.map Value.bool
theorem boolV_len {w : World} {base : Nat} {e : TypeId} {v : Value} {n : Nat} {bs : List Bool} (h : w.ownsRow base e 1 v n (boolV bs)) : bs.length = n := by have := h.1; simpa [boolV] using this
theorem boolV_cell {w : World} {base : Nat} {e : TypeId} {g n c : Nat} {bs : List Bool} (h : w.ownsRow base e 1 (.slice (some ⟨g, 0, none⟩) n c) n (boolV bs)) (i : Nat) (hi : i < bs.length) : w.cell? ⟨g, i, none⟩ = some (.bool bs[i]) := by
  have hl := boolV_len h
  rw [h.cellAt i (by omega)]
  simp [boolV, hi]
theorem boolV_set {w : World} {base : Nat} {e : TypeId} {g n c : Nat} {bs : List Bool} (h : w.ownsRow base e 1 (.slice (some ⟨g, 0, none⟩) n c) n (boolV bs)) (i : Nat) (b : Bool) :
    (w.setCell ⟨g, i, none⟩ (.bool b)).ownsRow base e 1 (.slice (some ⟨g, 0, none⟩) n c) n (boolV (bs.set i b)) ∧ w.grownBy (w.setCell ⟨g, i, none⟩ (.bool b)) (some g) := by
  have := h.stored i (.bool b)
  simpa [boolV, List.map_set] using this
/-- What a call that answers a row of truth values leaves. -/
def ListB (bs : List Bool) (w : World) (e : Ending) (w' : World) : Prop := ∃ ov, e = .returned ov ∧ w'.ownsRow w.heap.size 4 1 ov bs.length (boolV bs) ∧ Below w.heap.size w w'
theorem boolV_made (n : Nat) : (madeCells #[Value.bool false] n).toList = boolV (List.replicate n false) := by
  rw [toList_madeCells_one]
  simp [boolV]
/-- The numbers of a list that are in a row of numbers. -/
theorem natCell {w : World} {base : Nat} {e : TypeId} {g n c : Nat} {ls : List Nat} (h : w.ownsRow base e 1 (.slice (some ⟨g, 0, none⟩) n c) n (intV (upI ls))) (i : Nat) (hi : i < ls.length) : w.cell? ⟨g, i, none⟩ = some (.int .i64 (ls[i] : Int)) := by
  have hl : ls.length = n := by have := h.1; simpa [intV, upI] using this
  rw [h.cellAt i (by omega)]
  simp [intV, upI, hi]
theorem natLen {w : World} {base : Nat} {e : TypeId} {v : Value} {n : Nat} {ls : List Nat} (h : w.ownsRow base e 1 v n (intV (upI ls))) : ls.length = n := by have := h.1; simpa [intV, upI] using this
theorem box5_other {w w' : World} {b : Nat} {g : Option Nat} {c0 c1 c2 c3 c4 : Value} (h : Box5 w b c0 c1 c2 c3 c4) (hg : w.grownBy w' g) (hn : g ≠ some b) : Box5 w' b c0 c1 c2 c3 c4 := by
  have hblk : w'.heap[b]? = w.heap[b]? := hg.block b (cell_lt h.1) (fun e => hn e.symm)
  exact ⟨(World.cell?_of_block hblk).trans h.1, (World.cell?_of_block hblk).trans h.2.1, (World.cell?_of_block hblk).trans h.2.2.1, (World.cell?_of_block hblk).trans h.2.2.2.1, (World.cell?_of_block hblk).trans h.2.2.2.2⟩
end Go.Proofs.YtofmccihehalcaaGreat.Trm
/- The model's search: which places one comes to, walked. Conditions: the code lies in memory and is right; the place is there. -/
namespace Go.Proofs.YtofmccihehalcaaGreat.Trm
open Go.RowKit Go.Proofs.YtofmccihehalcaaGreat.Own
set_option maxRecDepth 20000 in
set_option maxHeartbeats 6400000 in
theorem specReach_any (x : KTree) (s : Nat) (v : Value) (w : World) (hl : KIn w x v) (hk : okK x = true) (hs : s < x.ins.length) :
    Calls Tryz.prog 78 #[v, .int .i64 (s : Int)] w (ListB (reachB x s) w) := by
  obtain ⟨i0, hi, hz0, hz1, hz2⟩ := info_parts infoIntL
  obtain ⟨j0, hj, jz0, jz1, jz2⟩ := info_parts infoBoolL
  obtain ⟨ga, gc, la, lc, pa, pc, ea, ec, ia, ic, rfl, h1, h2, h3, h4, h5, _⟩ := hl
  obtain ⟨n, hn⟩ : ∃ n, n = x.ins.length := ⟨_, rfl⟩
  obtain ⟨g, o, rfl, hc⟩ := atIns rfl h5 hs
  have hn15 : n ≤ 1500 := by rw [hn]; exact okK_len hk
  rw [← hn] at hs h5 ⊢
  have HN := Lib.hid hn
  have HK := Lib.hid hk
  have HC := Lib.hid hc
  have X0 := Lib.hid (Box5.new w (.slice ga x.globals.length gc) (.slice la x.locks.length lc) (.slice pa x.procs.length pc) (.slice ea x.entry.length ec) (.slice (some ⟨g, o, none⟩) n ic) 28)
  have B0 := Lib.hid ((Below.refl w.heap.size w).alloc (Nat.le_refl _) (.cells #[.slice ga x.globals.length gc, .slice la x.locks.length lc, .slice pa x.procs.length pc, .slice ea x.entry.length ec, .slice (some ⟨g, o, none⟩) n ic] 28))
  have CN := Lib.hid (fun wx i (h : i < x.ins.length) (hb : Below w.heap.size w wx) => specNext_any (x.ins[i]'h) i n (.slice ga x.globals.length gc) (.slice la x.locks.length lc) (.slice pa x.procs.length pc) (.slice ea x.entry.length ec) g o ic wx (by have := HN.out; omega) hn15 ((HC.out i h).keep (keeps_below hb)) (fun h2 => (okK_to HK.out h h2).1))
  have HRL := Lib.hid (reachB_length x s)
  clear h1 h2 h3 h4 h5 hc hk hn
  obtain ⟨p0, p1, p2, p3, p4⟩ := X0.out
  go_enter Tryz.func78, Tryz.ntmps78
  go_wp2_with (at_make; refine wpList_make_full _ rfl (.tmp 12) (.tmp 12) 55 rfl (w.heap.size + 1) 4 j0 _ 1 Tryz.underlying55 hj jz0 jz1 .i64 .i64 _ _ n rfl rfl rfl rfl (by rw [jz2]; omega) (by unfold maxLen; omega) (by simp) ?_)
  intro w1 hown hg
  rw [boolV_made] at hown
  have B1 := Lib.hid (B0.out.grown hg B0.out.size (fun b hb => by cases hb))
  have X1 := Lib.hid (X0.out.keep (keeps_below (below_none hg)))
  have hs1 : w.heap.size + 2 ≤ w1.heap.size := by have := (hown.lt (w.heap.size + 1) rfl).2; omega
  have M1 := Lib.hid hown
  clear hown hg p0 p1 p2 p3 p4
  go_wp2
  have B2 := Lib.hid (B1.out.alloc B1.out.size (.cells #[.int .i64 (s : Int)] 3))
  have X2 := Lib.hid (X1.out.keep (keeps_alloc _ (.cells #[.int .i64 (s : Int)] 3)))
  have M2 := Lib.hid (M1.out.alloc (.cells #[.int .i64 (s : Int)] 3))
  have L2 := Lib.hid ((litI1 w1 (s : Int)).mono hs1)
  go_loopw [6, 7] (fun lv hv wr => ∃ (h : Nat) (ls : List Nat) (met : List Bool) (c : Nat), h ≤ ls.length ∧ hv = .int .i64 h ∧ Hid (Srch (nxE x) s n met (ls.drop h) c []) ∧ Hid (ls.length + unm met = n + 1) ∧ Hid (wr.ownsRow (w.heap.size + 1) 4 1 (.slice (some ⟨w.heap.size + 1, 0, none⟩) n n) n (boolV met)) ∧ Hid (wr.ownsRow (w.heap.size + 2) 3 1 lv ls.length (intV (upI ls))) ∧ Hid (Box5 wr w.heap.size (.slice ga x.globals.length gc) (.slice la x.locks.length lc) (.slice pa x.procs.length pc) (.slice ea x.entry.length ec) (.slice (some ⟨g, o, none⟩) n ic)) ∧ Hid (Below w.heap.size w wr))
    (fun _ hv _ => n + 1 - (intOf hv).toNat)
  case atStart =>
    refine ⟨0, [s], List.replicate n false, 0, by simp, rfl, Srch.begin hs, ?_, M2.out, L2.out, X2.out, B2.out⟩
    show 1 + unm (List.replicate n false) = n + 1
    have key : ∀ m, unm (List.replicate m false) = m := fun m => by
      induction m with
      | zero => rfl
      | succ m ih => rw [List.replicate_succ, unm, ih]; simp; omega
    rw [key]; omega
  case round =>
    obtain ⟨h, ls, met, c, hh, rfl, hsr, hum, hmr, hlr, hbx, hbe⟩ := hrel
    obtain ⟨p0, p1, p2, p3, p4⟩ := hbx.out
    obtain ⟨oa, oc, rfl, hoa⟩ := row_shape hlr.out
    have hll : ls.length ≤ n + 1 := by have := hum.out; omega
    obtain ⟨wo, hwo⟩ : ∃ w0, w0 = wr := ⟨_, rfl⟩
    subst hwo
    by_cases hlt : h < ls.length
    · obtain ⟨lg, rfl⟩ := hoa (by omega)
      have q0 := natCell hlr.out h hlt
      have hop : ls.drop h = ls[h] :: ls.drop (h + 1) := List.drop_eq_getElem_cons hlt
      have hsm : ls[h] < n := hsr.out.small _ (by rw [hop]; exact List.mem_cons_self)
      have hsx : ls[h] < x.ins.length := by have := HN.out; omega
      have HT : Hid (Srch (nxE x) s n met (ls.drop (h + 1)) ls[h] (nextN ls[h] x.ins[ls[h]])) := by
        have h0 := hsr.out
        refine h0.take (by rw [hop]; exact List.mem_cons_self) (fun z hz => by rw [hop] at hz; exact List.mem_cons.1 hz) (fun z hz => by rw [hop]; exact List.mem_cons_of_mem _ hz) (fun z => ?_) (fun z hz => by have := nextN_lt HK.out hsx z hz; have := HN.out; omega)
        exact ⟨fun ⟨_, h2⟩ => h2, fun h2 => ⟨hsx, h2⟩⟩
      have C := Lib.hid (fun wx hb => CN.out wx ls[h] hsx hb)
      have hnl := nextN_le ls[h] x.ins[ls[h]]
      have hnlt := nextN_lt HK.out hsx
      obtain ⟨y, hy⟩ : ∃ y, y = ls[h] := ⟨_, rfl⟩
      obtain ⟨nx, hnx⟩ : ∃ z, z = nextN ls[h] x.ins[ls[h]] := ⟨_, rfl⟩
      rw [← hnx] at HT C hnl hnlt
      rw [← hy] at HT C q0 hsm
      have HNL := Lib.hid hnlt
      clear hop hsx hy hnx hnlt hsr
      go_wp2
      go_region_with (first
        | (go_at_call 104; refine (C.out _ (by first | exact hbe.out.drew | exact hbe.out)).mono ?_; rintro e w3 ⟨nv, rfl, hr3, hb3⟩; have HR3 := Lib.hid hr3; have HB3 := Lib.hid (below_of_drew hb3); clear hr3 hb3))
      all_goals
        have b3 : Below wo.heap.size wo w3 := HB3.out
        have r3 : w3.ownsRow wo.heap.size 3 1 nv (upI nx).length (intV (upI nx)) := HR3.out
        rw [upI_length] at r3
        have B4 := Lib.hid (hbe.out.trans (b3.mono hbe.out.size))
        have X4 := Lib.hid (hbx.out.keep (keeps_below b3))
        have M4 := Lib.hid (row_below hmr.out b3)
        have L4 := Lib.hid (row_below hlr.out b3)
        have hw2 : w.heap.size + 2 ≤ wo.heap.size := by have := hlr.out.lt lg rfl; omega
        have hlgw : lg < wo.heap.size := (hlr.out.lt lg rfl).2
        obtain ⟨na, nc, rfl, hna⟩ := row_shape r3
        have HNA := Lib.hid hna
        have N4 := Lib.hid r3
        have D4 : Hid (∀ b, (Value.slice na nx.length nc).ownBlock = some b → ¬ (Value.slice (some ⟨lg, 0, none⟩) ls.length oc).ownBlock = some b) := fun b hb h2 => by
          have h3 := (r3.lt b hb).1
          have h4 : lg = b := by simpa [Value.ownBlock] using h2
          omega
        clear r3 b3 hna p0 p1 p2 p3 p4 HR3 HB3 q0
        go_wp2
        go_loopw [6, 9] (fun lv iv wr => ∃ (q : Nat) (ls2 : List Nat) (met2 : List Bool), q ≤ nx.length ∧ iv = .int .i64 q ∧ Hid (Srch (nxE x) s n met2 (ls2.drop (h + 1)) y (nx.drop q)) ∧ Hid (ls2.length + unm met2 = n + 1) ∧ Hid (h + 1 ≤ ls2.length) ∧ Hid (wr.ownsRow (w.heap.size + 1) 4 1 (.slice (some ⟨w.heap.size + 1, 0, none⟩) n n) n (boolV met2)) ∧ Hid (wr.ownsRow (w.heap.size + 2) 3 1 lv ls2.length (intV (upI ls2))) ∧ Hid (wr.ownsRow wo.heap.size 3 1 (.slice na nx.length nc) nx.length (intV (upI nx))) ∧ Hid (∀ b, (Value.slice na nx.length nc).ownBlock = some b → ¬ lv.ownBlock = some b) ∧ Hid (Box5 wr w.heap.size (.slice ga x.globals.length gc) (.slice la x.locks.length lc) (.slice pa x.procs.length pc) (.slice ea x.entry.length ec) (.slice (some ⟨g, o, none⟩) n ic)) ∧ Hid (Below w.heap.size w wr))
          (fun _ iv _ => nx.length - (intOf iv).toNat)
        case atStart => exact ⟨0, ls, met, Nat.zero_le _, rfl, HT.out, hum.out, by show _ ≤ _; omega, M4.out, L4.out, N4.out, D4.out, X4.out, B4.out⟩
        case round =>
          obtain ⟨q, ls2, met2, hq, rfl, hs2, hu2, hh2, hm2, hl2, hn2, hd2, hx2, hb2⟩ := hrel
          obtain ⟨oa2, oc2, rfl, _⟩ := row_shape hl2.out
          by_cases hqt : q < nx.length
          · obtain ⟨ng, rfl⟩ := HNA.out (by omega)
            have c0 := natCell hn2.out q hqt
            have hnx : nx.drop q = nx[q] :: nx.drop (q + 1) := List.drop_eq_getElem_cons hqt
            have hs3 := hs2.out
            rw [hnx] at hs3
            have hz := (hs3.edge _ List.mem_cons_self).2
            obtain ⟨z, hzz⟩ : ∃ z, z = nx[q] := ⟨_, rfl⟩
            rw [← hzz] at c0 hs3 hz
            have hzm : z < met2.length := by rw [hs3.len]; exact hz
            have c1 := boolV_cell hm2.out z hzm
            have hng := (hn2.out.lt ng rfl)
            obtain ⟨bz, hbz⟩ : ∃ b, met2[z] = b := ⟨_, rfl⟩
            rw [hbz] at c1
            have hbz2 : met2[z]? = some bz := by rw [List.getElem?_eq_getElem hzm, hbz]
            have HS3 := Lib.hid hs3
            have HZZ := Lib.hid hzz
            clear hnx hzz hbz hs3 hs2
            cases bz with
            | true =>
              have HS := Lib.hid (HS3.out.skip hbz2)
              clear hbz2
              go_wp2
              go_roundw
              case rel => exact ⟨q + 1, ls2, met2, by omega, by go_num, HS.out, hu2.out, hh2.out, hm2.out, hl2.out, hn2.out, hd2.out, hx2.out, hb2.out⟩
              case measure => simp [intOf]; omega
            | false =>
              have HS : Hid (Srch (nxE x) s n (met2.set z true) ((ls2 ++ [z]).drop (h + 1)) y (nx.drop (q + 1))) := by
                have h2 := HS3.out.hit
                show Srch _ _ _ _ _ _ _
                rw [List.drop_append_of_le_length hh2.out]
                exact h2
              have HU : Hid ((ls2 ++ [z]).length + unm (met2.set z true) = n + 1) := by
                show _ = _
                have h2 := unm_set hzm (by rw [hbz2]; simp)
                have h3 := hu2.out
                rw [List.length_append, List.length_singleton]
                omega
              have hll2 : ls2.length + 1 ≤ 1502 := by have := hu2.out; omega
              have f1 := hm2.out.frozenAt z
              obtain ⟨m5, g5⟩ := boolV_set hm2.out z true
              obtain ⟨W5, hW5⟩ : ∃ W, W = wr.setCell ⟨w.heap.size + 1, z, none⟩ (.bool true) := ⟨_, rfl⟩
              rw [← hW5] at m5 g5
              have M5 := Lib.hid m5
              have hsz5 : wr.heap.size ≤ W5.heap.size := g5.size
              have hszq : w.heap.size + 2 ≤ wr.heap.size := by omega
              have N5 := Lib.hid (row_same hn2.out (w' := W5) (fun b hb => g5.block b (hn2.out.lt b hb).2 (fun e => by cases e; have := (hn2.out.lt _ hb).1; omega)))
              have L5 := Lib.hid (row_same hl2.out (w' := W5) (fun b hb => g5.block b (hl2.out.lt b hb).2 (fun e => by cases e; have := (hl2.out.lt _ hb).1; omega)))
              have X5 := Lib.hid (box5_other hx2.out g5 (fun e => by injection e with e; omega))
              have B5 := Lib.hid (hb2.out.grown g5 hb2.out.size (fun k hk => by cases hk; omega))
              have d0 := natCell N5.out q hqt
              rw [← HZZ.out] at d0
              have HW5 := Lib.hid hW5
              clear m5 g5 hbz2 hW5
              go_upto_region 12 with fail
              rw [← HW5.out]
              go_wp2_with (at_builtin; refine wpList_append_lies _ rfl (.tmp 48) (.tmp 53) 25 rfl (w.heap.size + 2) 3 i0 (.int .i64 0) 1 8 Tryz.underlying25 hi hz0 hz1 hz2 rfl (by decide) (.slice oa2 ls2.length oc2) ls2.length _ rfl (L5.out.alloc _) ⟨W5.heap.size, 0, none⟩ 1 1 [.int .i64 (z : Int)] rfl rfl (World.news_of_block (heap_alloc_new _ _)) (one_intV [(z : Int)]) (by decide) (by unfold maxLen; omega) (by omega) (by simp; omega) _ rfl ?_)
              intro g1 cap1 w6 hown1 hg1 hat1 hlt1
              have hnb : ∀ k, (Value.slice oa2 ls2.length oc2).ownBlock = some k → w.heap.size + 2 ≤ k := fun k hk => (L5.out.lt k hk).1
              have B6 : Hid (Below w.heap.size w w6) := (B5.out.alloc B5.out.size _).grown hg1 (by simp; omega) (fun k hk => by have := hnb k hk; omega)
              have X6 := Lib.hid (box5_other (X5.out.keep (keeps_alloc _ (.cells #[.int .i64 (z : Int)] 3))) hg1 (fun e => by have := hnb _ e; omega))
              have M6 := Lib.hid (row_same (M5.out.alloc (.cells #[.int .i64 (z : Int)] 3)) (w' := w6) (fun b hb => hg1.block b ((M5.out.alloc (.cells #[.int .i64 (z : Int)] 3)).lt b hb).2 (fun e => by
                have h1 : w.heap.size + 1 = b := by simpa [Value.ownBlock] using hb
                have := hnb _ e.symm
                omega)))
              have N6 := Lib.hid (row_same (N5.out.alloc (.cells #[.int .i64 (z : Int)] 3)) (w' := w6) (fun b hb => hg1.block b ((N5.out.alloc (.cells #[.int .i64 (z : Int)] 3)).lt b hb).2 (fun e => hd2.out b hb e.symm)))
              have L6 : Hid (w6.ownsRow (w.heap.size + 2) 3 1 (.slice (some ⟨g1, 0, none⟩) (ls2.length + 1) cap1) (ls2 ++ [z]).length (intV (upI (ls2 ++ [z])))) := by
                show World.ownsRow _ _ _ _ _ _ _
                have := hown1
                simpa [intV, upI] using this
              have D6 : Hid (∀ b, (Value.slice (some ⟨ng, 0, none⟩) nx.length nc).ownBlock = some b → ¬ (Value.slice (some ⟨g1, 0, none⟩) (ls2.length + 1) cap1).ownBlock = some b) := fun b hb h2 => by
                have h3 : g1 = b := by simpa [Value.ownBlock] using h2
                subst h3
                rcases hat1 with h4 | h4
                · exact hd2.out g1 hb h4
                · have h5 := (N5.out.lt g1 hb).2
                  omega
              have HH6 : Hid (h + 1 ≤ (ls2 ++ [z]).length) := by show _ ≤ _; have := hh2.out; rw [List.length_append]; omega
              clear hown1 hg1 hat1 hlt1 hnb
              go_wp2
              go_roundw
              case rel => exact ⟨q + 1, ls2 ++ [z], met2.set z true, by omega, by go_num, HS.out, HU.out, HH6.out, M6.out, L6.out, N6.out, D6.out, X6.out, B6.out⟩
              case measure => simp [intOf]; omega
          · have HS : Hid (Srch (nxE x) s n met2 (ls2.drop (h + 1)) y []) := by
              have h2 := hs2.out
              have hdq : nx.drop q = [] := List.drop_of_length_le (by omega)
              rw [hdq] at h2
              exact h2
            go_wp2
            go_roundw
            case rel => exact ⟨h + 1, ls2, met2, y, hh2.out, by go_num, HS.out, hu2.out, hm2.out, hl2.out, hx2.out, hb2.out⟩
            case measure => simp [intOf]; omega
    · have hd : ls.drop h = [] := List.drop_of_length_le (by omega)
      have h1 := hsr.out
      rw [hd] at h1
      have HM : Hid (met = reachB x s) := by
        have h2 := h1
        rw [HN.out] at h2
        exact h2.reach
      have hml := boolV_len hmr.out
      go_wp2
      go_ret
      exact ⟨_, rfl, by rw [← HM.out, hml]; exact hmr.out.mono (by omega), hbe.out⟩
set_option maxHeartbeats 1600000 in
theorem specMarked_any (bs : List Bool) (v : Value) (base : Nat) (w : World) (hn15 : bs.length ≤ 1500) (hr : w.ownsRow base 4 1 v bs.length (boolV bs)) :
    Calls Tryz.prog 67 #[v] w (ListI (upI (markedN 0 bs)) w) := by
  obtain ⟨i0, hi, hz0, hz1, hz2⟩ := info_parts infoIntL
  obtain ⟨a, c, rfl, ha⟩ := row_shape hr
  have HA := Lib.hid ha
  have HR := Lib.hid hr
  have L1 := Lib.hid (litI0 w)
  have B1 := Lib.hid ((Below.refl w.heap.size w).alloc (Nat.le_refl _) (.cells #[] 3))
  have R1 := Lib.hid (hr.alloc (.cells #[] 3))
  obtain ⟨n, hn⟩ : ∃ n, n = bs.length := ⟨_, rfl⟩
  have HN := Lib.hid hn
  rw [← hn] at hn15 HA HR R1 ⊢
  clear ha hr hn
  go_enter Tryz.func67, Tryz.ntmps67
  go_wp2
  go_loopw [3, 4] (fun ov iv wr => ∃ (j : Nat) (ls : List Nat), j ≤ n ∧ iv = .int .i64 j ∧ Hid (ls = markedN 0 (bs.take j)) ∧ Hid (wr.ownsRow w.heap.size 3 1 ov ls.length (intV (upI ls))) ∧ Hid (Below w.heap.size w wr))
    (fun _ iv _ => n - (intOf iv).toNat)
  case atStart => exact ⟨0, [], Nat.zero_le _, rfl, rfl, L1.out, B1.out⟩
  case round =>
    obtain ⟨j, ls, hj, rfl, hls, hrow, hbe⟩ := hrel
    obtain ⟨oa, oc, rfl, _⟩ := row_shape hrow.out
    have hll : ls.length ≤ 1500 := by rw [hls.out]; have := markedN_le 0 (bs.take j); rw [List.length_take] at this; omega
    by_cases hlt : j < n
    · obtain ⟨g, rfl⟩ := HA.out (by omega)
      have hjb : j < bs.length := by have := HN.out; omega
      have c0 := boolV_cell (row_below HR.out hbe.out) j hjb
      have hmt := markedN_take hjb
      obtain ⟨b, hb⟩ : ∃ b, bs[j] = b := ⟨_, rfl⟩
      rw [hb] at c0 hmt
      rw [← hls.out] at hmt
      have HMT := Lib.hid hmt
      clear hb hmt
      cases b with
      | false =>
        have HL : Hid (ls = markedN 0 (bs.take (j + 1))) := by show _ = _; rw [HMT.out]; simp
        go_wp2
        go_roundw
        case rel => exact ⟨j + 1, ls, by omega, by go_num, HL.out, hrow.out, hbe.out⟩
        case measure => simp [intOf]; omega
      | true =>
        have HL : Hid (ls ++ [j] = markedN 0 (bs.take (j + 1))) := by show _ = _; rw [HMT.out]; simp
        have hsw : w.heap.size ≤ wr.heap.size := hbe.out.size
        go_wp2_with (at_builtin; refine wpList_append_lies _ rfl (.tmp 16) (.tmp 18) 25 rfl w.heap.size 3 i0 (.int .i64 0) 1 8 Tryz.underlying25 hi hz0 hz1 hz2 rfl (by decide) (.slice oa ls.length oc) ls.length _ rfl (hrow.out.alloc _) ⟨wr.heap.size, 0, none⟩ 1 1 [.int .i64 (j : Int)] rfl rfl (World.news_of_block (heap_alloc_new _ _)) (one_intV [(j : Int)]) (by decide) (by unfold maxLen; omega) (by omega) (by simp; omega) _ rfl ?_)
        intro g1 cap1 w5 hown1 hg1 hat1 hlt1
        have HB5 : Hid (Below w.heap.size w w5) := (hbe.out.alloc hsw _).grown hg1 (by simp; omega) (fun k hk => (hrow.out.lt k hk).1)
        have HR5 : Hid (w5.ownsRow w.heap.size 3 1 (.slice (some ⟨g1, 0, none⟩) (ls.length + 1) cap1) (ls ++ [j]).length (intV (upI (ls ++ [j])))) := by
          show World.ownsRow _ _ _ _ _ _ _
          have := hown1
          simpa [intV, upI] using this
        clear hown1 hg1 hat1 hlt1
        go_wp2
        go_roundw
        case rel => exact ⟨j + 1, ls ++ [j], by omega, by go_num, HL.out, HR5.out, HB5.out⟩
        case measure => simp [intOf]; omega
    · have HL : Hid (ls = markedN 0 bs) := by show _ = _; rw [hls.out, List.take_of_length_le (by have := HN.out; omega)]
      have hul := upI_length ls
      go_wp2
      go_ret
      exact ⟨_, rfl, by rw [← HL.out, hul]; exact hrow.out, hbe.out⟩
end Go.Proofs.YtofmccihehalcaaGreat.Trm
/- The model's ReachIn, LiveIn, InLoop, walked. Conditions: the code lies in memory; at most 2 to the 20 names and terms. -/
namespace Go.Proofs.YtofmccihehalcaaGreat.Trm
open Go.RowKit Go.Proofs.YtofmccihehalcaaGreat.Own
set_option maxRecDepth 20000 in
set_option maxHeartbeats 1600000 in
theorem specReachIn_any (x : KTree) (a : Int) (v : Value) (w : World) (hl : KIn w x v) (hz : szK x ≤ 1048576) :
    Calls Tryz.prog 39 #[v, .int .i64 a] w (ListI (upI (reachAns x a)) w) := by
  have CA := Lib.hid (fun wx (hb : Below w.heap.size w wx) => specAt_any x a v wx (hl.keep (keeps_below hb)) hz)
  have CR := Lib.hid (fun wx (hb : Below w.heap.size w wx) s (hk : okK x = true) (hs : s < x.ins.length) => specReach_any x s v wx (hl.keep (keeps_below hb)) hk hs)
  obtain ⟨ga, gc, la, lc, pa, pc, ea, ec, ia, ic, rfl, h1, h2, h3, h4, h5, _⟩ := hl
  obtain ⟨n, hn⟩ : ∃ n, n = x.ins.length := ⟨_, rfl⟩
  rw [← hn] at h5 CA CR ⊢
  have HN := Lib.hid hn
  have X0 := Lib.hid (Box5.new w (.slice ga x.globals.length gc) (.slice la x.locks.length lc) (.slice pa x.procs.length pc) (.slice ea x.entry.length ec) (.slice ia n ic) 28)
  have B0 := Lib.hid ((Below.refl w.heap.size w).alloc (Nat.le_refl _) (.cells #[.slice ga x.globals.length gc, .slice la x.locks.length lc, .slice pa x.procs.length pc, .slice ea x.entry.length ec, .slice ia n ic] 28))
  obtain ⟨rs, hrs⟩ : ∃ rs, rs = upI (reachAns x a) := ⟨_, rfl⟩
  have HRS := Lib.hid hrs
  rw [← hrs]
  clear h1 h2 h3 h4 h5 hz hn hrs
  obtain ⟨W1, hW1⟩ : ∃ W, W = w.alloc (.cells #[.slice ga x.globals.length gc, .slice la x.locks.length lc, .slice pa x.procs.length pc, .slice ea x.entry.length ec, .slice ia n ic] 28) := ⟨_, rfl⟩
  obtain ⟨p0, p1, p2, p3, p4⟩ := X0.out
  rw [← hW1] at X0 B0
  have HW1 := Lib.hid hW1
  clear hW1
  go_enter Tryz.func39, Tryz.ntmps39
  go_wp2_with fail
  rw [← HW1.out] at p0 p1 p2 p3 p4 ⊢
  refine (CA.out _ B0.out).mono ?_
  rintro e w2 ⟨rfl, hb⟩
  have B2 := Lib.hid (B0.out.trans (hb.mono B0.out.size))
  have X2 := Lib.hid (X0.out.keep (keeps_below hb))
  clear hb p0 p1 p2 p3 p4
  obtain ⟨p0, p1, p2, p3, p4⟩ := X2.out
  obtain ⟨kb, hkb⟩ : ∃ b, atB x a = b := ⟨_, rfl⟩
  have HKB := Lib.hid hkb
  rw [hkb]
  clear hkb
  cases kb with
  | false =>
    have HF : Hid (rs = []) := by show _ = _; rw [HRS.out]; unfold reachAns; rw [if_neg (fun h => by rw [HKB.out] at h; cases h)]; rfl
    go_wp2_with fail
    go_ret
    exact listI0 HF.out B2.out _ rfl
  | true =>
    obtain ⟨hk, ha0, ha1⟩ := atB_iff.1 HKB.out
    obtain ⟨i, rfl⟩ : ∃ i : Nat, a = (i : Int) := ⟨a.toNat, by omega⟩
    have hi : i < x.ins.length := by omega
    have hlen := okK_len hk
    have HF : Hid (rs = upI (markedN 0 (reachB x i))) := by
      show _ = _
      rw [HRS.out]
      unfold reachAns
      rw [if_pos HKB.out]
      rfl
    have C := Lib.hid (CR.out _ B2.out i hk (by have := HN.out; omega))
    have hrl := reachB_length x i
    obtain ⟨bs, hbs⟩ : ∃ z, z = reachB x i := ⟨_, rfl⟩
    rw [← hbs] at C HF hrl
    have hbl : bs.length ≤ 1500 := by omega
    clear hk ha0 ha1 hlen hbs hrl
    go_wp2_with fail
    refine C.out.mono ?_
    rintro e w3 ⟨bv, rfl, hr3, hb3⟩
    have R3 := Lib.hid hr3
    have B3 := Lib.hid (B2.out.trans (hb3.mono B2.out.size))
    clear hr3 hb3 p0 p1 p2 p3 p4
    go_wp2_with fail
    refine (specMarked_any bs bv _ w3 hbl R3.out).mono ?_
    rintro e w4 ⟨ov, rfl, hr, hb⟩
    have HRo := Lib.hid (World.ownsRow.mono hr B3.out.size)
    have B4 := Lib.hid (B3.out.trans (hb.mono B3.out.size))
    clear hr hb
    go_wp2_with fail
    go_ret
    exact ⟨_, rfl, by rw [HF.out]; exact HRo.out, B4.out⟩
set_option maxRecDepth 20000 in
set_option maxHeartbeats 3200000 in
theorem specLive_any (x : KTree) (p : Nat) (v : Value) (w : World) (hl : KIn w x v) (hk : okK x = true) (hp : p < x.entry.length) :
    Calls Tryz.prog 55 #[v, .int .i64 (p : Int)] w (ListB ((reachB x x.entry[p].toNat).set x.entry[p].toNat true) w) := by
  have CR := Lib.hid (fun wx (hb : Below w.heap.size w wx) s (hs : s < x.ins.length) => specReach_any x s v wx (hl.keep (keeps_below hb)) hk hs)
  obtain ⟨ga, gc, la, lc, pa, pc, ea, ec, ia, ic, rfl, h1, h2, h3, h4, h5, _⟩ := hl
  obtain ⟨n, hn⟩ : ∃ n, n = x.ins.length := ⟨_, rfl⟩
  rw [← hn] at h5 CR ⊢
  have h0 := (okK_ris hk).nonneg hp
  have h1n := (okK_ris hk).below hp
  have hlen := okK_len hk
  obtain ⟨e, he⟩ : ∃ e : Nat, x.entry[p] = (e : Int) := ⟨x.entry[p].toNat, by omega⟩
  have hen : e < n := by omega
  have hnn : n ≤ 1500 := by omega
  obtain ⟨a2, c2, e2, hme, _, hk4⟩ := h4
  simp at e2
  obtain ⟨rfl, rfl⟩ := e2
  obtain ⟨eg, eo, rfl, hec⟩ := hk4 (by omega)
  have HE0 : Hid (∀ wx, Below w.heap.size w wx → wx.cell? ⟨eg, eo + p, none⟩ = some (.int .i64 (e : Int))) := fun wx hb => by rw [← he]; exact keeps_below hb _ _ (hec p hp)
  rw [he]
  have C := Lib.hid (fun wx hb => CR.out wx hb e hen)
  have hrl := reachB_length x e
  have h3 : ((e : Int)).toNat = e := rfl
  rw [h3]
  obtain ⟨bs, hbs⟩ : ∃ z, z = reachB x e := ⟨_, rfl⟩
  rw [← hbs] at C hrl ⊢
  have hbl : bs.length = n := by omega
  have hel : x.entry.length ≤ 9223372036854775807 := hme
  have hpe : (p : Int) < (x.entry.length : Int) := by omega
  obtain ⟨V3, hV3⟩ : ∃ z, z = x.entry.length := ⟨_, rfl⟩
  have X0 := Lib.hid (Box5.new w (.slice ga x.globals.length gc) (.slice la x.locks.length lc) (.slice pa x.procs.length pc) (.slice (some ⟨eg, eo, none⟩) x.entry.length ec) (.slice ia n ic) 28)
  have B0 := Lib.hid ((Below.refl w.heap.size w).alloc (Nat.le_refl _) (.cells #[.slice ga x.globals.length gc, .slice la x.locks.length lc, .slice pa x.procs.length pc, .slice (some ⟨eg, eo, none⟩) x.entry.length ec, .slice ia n ic] 28))
  rw [← hV3] at X0 B0 C hel hpe ⊢
  clear h1 h2 h3 h5 hk hk4 hec hme he h0 h1n hn CR hbs hV3 hlen hrl
  obtain ⟨W1, hW1⟩ : ∃ W, W = w.alloc (.cells #[.slice ga x.globals.length gc, .slice la x.locks.length lc, .slice pa x.procs.length pc, .slice (some ⟨eg, eo, none⟩) V3 ec, .slice ia n ic] 28) := ⟨_, rfl⟩
  obtain ⟨p0, p1, p2, p3, p4⟩ := X0.out
  rw [← hW1] at X0 B0
  have q0 := HE0.out W1 B0.out
  have HW1 := Lib.hid hW1
  clear hW1
  go_enter Tryz.func55, Tryz.ntmps55
  go_upto_region 1 with fail
  rw [← HW1.out] at p0 p1 p2 p3 p4 ⊢
  go_wp2
  go_region_with (first
    | (go_at_call 78; refine (C.out _ (by first | exact B0.out.drew | exact B0.out)).mono ?_; rintro e w3 ⟨bv, rfl, hr3, hb3⟩; have HR3 := Lib.hid hr3; have HB3 := Lib.hid (below_of_drew hb3); clear hr3 hb3))
  all_goals
    have b3 : Below W1.heap.size W1 w3 := HB3.out
    have r3 : w3.ownsRow W1.heap.size 4 1 bv bs.length (boolV bs) := HR3.out
    have hsW : w.heap.size < W1.heap.size := cell_lt p0
    rw [hbl] at r3
    obtain ⟨ba, bc, rfl, hba⟩ := row_shape r3
    obtain ⟨bg, rfl⟩ := hba (by omega)
    have hbg := (r3.lt bg rfl).1
    have B3 := Lib.hid (B0.out.trans (b3.mono B0.out.size))
    have X3 := Lib.hid (X0.out.keep (keeps_below b3))
    have q3 := HE0.out w3 B3.out
    have c3 := boolV_cell r3 e (by omega)
    have f3 := r3.frozenAt e
    obtain ⟨m4, g4⟩ := boolV_set r3 e true
    have M4 := Lib.hid m4
    have B4 := Lib.hid (B3.out.grown g4 B3.out.size (fun k hk => by cases hk; omega))
    have hsl : (bs.set e true).length = n := by rw [List.length_set]; exact hbl
    clear p0 p1 p2 p3 p4 q0 m4 g4 hba HR3 HB3 b3 r3
    obtain ⟨p0, p1, p2, p3, p4⟩ := X3.out
    go_wp2
    go_ret
    exact ⟨_, rfl, by rw [hsl]; exact M4.out.mono (by omega), B4.out⟩
set_option maxRecDepth 20000 in
set_option maxHeartbeats 1600000 in
theorem specLiveIn_any (x : KTree) (a : Int) (v : Value) (w : World) (hl : KIn w x v) (hz : szK x ≤ 1048576) :
    Calls Tryz.prog 42 #[v, .int .i64 a] w (ListI (upI (liveAns x a)) w) := by
  have CA := Lib.hid (fun wx (hb : Below w.heap.size w wx) => specCodeOk_any x v wx (hl.keep (keeps_below hb)) hz)
  have CR := Lib.hid (fun wx (hb : Below w.heap.size w wx) p (hk : okK x = true) (hp : p < x.entry.length) => specLive_any x p v wx (hl.keep (keeps_below hb)) hk hp)
  obtain ⟨ga, gc, la, lc, pa, pc, ea, ec, ia, ic, rfl, h1, h2, h3, h4, h5, _⟩ := hl
  obtain ⟨n, hn⟩ : ∃ n, n = x.ins.length := ⟨_, rfl⟩
  rw [← hn] at h5 CA CR ⊢
  have hpl : x.procs.length ≤ 9223372036854775807 := by obtain ⟨_, _, _, h, _⟩ := h3.1; exact h
  have HN := Lib.hid hn
  have X0 := Lib.hid (Box5.new w (.slice ga x.globals.length gc) (.slice la x.locks.length lc) (.slice pa x.procs.length pc) (.slice ea x.entry.length ec) (.slice ia n ic) 28)
  have B0 := Lib.hid ((Below.refl w.heap.size w).alloc (Nat.le_refl _) (.cells #[.slice ga x.globals.length gc, .slice la x.locks.length lc, .slice pa x.procs.length pc, .slice ea x.entry.length ec, .slice ia n ic] 28))
  obtain ⟨rs, hrs⟩ : ∃ rs, rs = upI (liveAns x a) := ⟨_, rfl⟩
  have HRS := Lib.hid hrs
  rw [← hrs]
  obtain ⟨kb, hkb⟩ : ∃ b, okK x = b := ⟨_, rfl⟩
  have HKB := Lib.hid hkb
  rw [hkb] at CA
  clear h1 h2 h3 h4 h5 hz hn hrs hkb
  obtain ⟨W1, hW1⟩ : ∃ W, W = w.alloc (.cells #[.slice ga x.globals.length gc, .slice la x.locks.length lc, .slice pa x.procs.length pc, .slice ea x.entry.length ec, .slice ia n ic] 28) := ⟨_, rfl⟩
  obtain ⟨p0, p1, p2, p3, p4⟩ := X0.out
  rw [← hW1] at X0 B0
  have HW1 := Lib.hid hW1
  clear hW1
  go_enter Tryz.func42, Tryz.ntmps42
  go_wp2_with fail
  rw [← HW1.out] at p0 p1 p2 p3 p4 ⊢
  refine (CA.out _ B0.out).mono ?_
  rintro e w2 ⟨rfl, hb⟩
  have B2 := Lib.hid (B0.out.trans (hb.mono B0.out.size))
  have X2 := Lib.hid (X0.out.keep (keeps_below hb))
  clear hb p0 p1 p2 p3 p4
  obtain ⟨p0, p1, p2, p3, p4⟩ := X2.out
  cases kb with
  | false =>
    have HF : Hid (rs = []) := by show _ = _; rw [HRS.out]; unfold liveAns; rw [dif_neg (fun h => by have h1 := h.1; rw [HKB.out] at h1; cases h1)]; rfl
    go_wp2_with fail
    go_ret
    exact listI0 HF.out B2.out _ rfl
  | true =>
    have hep : x.entry.length = x.procs.length := by
      have h2 : kHeads x = true := by have h := HKB.out; unfold okK at h; rw [Bool.and_eq_true] at h; exact h.1
      exact (kHeads_ent h2).2.1
    have HEP := Lib.hid hep
    clear hep
    by_cases ha : 0 ≤ a ∧ a ≤ (x.procs.length : Int) - 1
    · obtain ⟨i, rfl⟩ : ∃ i : Nat, a = (i : Int) := ⟨a.toNat, by omega⟩
      have hi : i < x.entry.length := by have := HEP.out; omega
      have h3 : ((i : Int)).toNat = i := rfl
      have HF : Hid (rs = upI (markedN 0 ((reachB x x.entry[i].toNat).set x.entry[i].toNat true))) := by
        show _ = _
        rw [HRS.out]
        unfold liveAns
        rw [dif_pos ⟨HKB.out, ha.1, by rw [h3]; exact hi⟩]
        rfl
      have C := Lib.hid (CR.out _ B2.out i HKB.out hi)
      have hbl : ((reachB x x.entry[i].toNat).set x.entry[i].toNat true).length ≤ 1500 := by rw [List.length_set, reachB_length]; exact okK_len HKB.out
      obtain ⟨bs, hbs⟩ : ∃ z, z = (reachB x x.entry[i].toNat).set x.entry[i].toNat true := ⟨_, rfl⟩
      rw [← hbs] at C HF hbl
      clear hbs h3
      go_wp2_with fail
      refine (in_yes _ _ _ _ ha.1 ha.2).mono ?_
      rintro e w3 ⟨rfl, rfl⟩
      clear ha
      go_wp2_with fail
      refine C.out.mono ?_
      rintro e w3 ⟨bv, rfl, hr3, hb3⟩
      have R3 := Lib.hid hr3
      have B3 := Lib.hid (B2.out.trans (hb3.mono B2.out.size))
      clear hr3 hb3 p0 p1 p2 p3 p4
      go_wp2_with fail
      refine (specMarked_any bs bv _ w3 hbl R3.out).mono ?_
      rintro e w4 ⟨ov, rfl, hr, hb⟩
      have HRo := Lib.hid (World.ownsRow.mono hr B3.out.size)
      have B4 := Lib.hid (B3.out.trans (hb.mono B3.out.size))
      clear hr hb
      go_wp2_with fail
      go_ret
      exact ⟨_, rfl, by rw [HF.out]; exact HRo.out, B4.out⟩
    · have HF : Hid (rs = []) := by
        show _ = _
        rw [HRS.out]
        unfold liveAns
        rw [dif_neg (fun h => ha ⟨h.2.1, by have := HEP.out; have := h.2.2; omega⟩)]
        rfl
      go_wp2_with fail
      refine (in_no _ _ _ _ (by omega)).mono ?_
      rintro e w3 ⟨rfl, rfl⟩
      go_wp2_with fail
      go_ret
      exact listI0 HF.out B2.out _ rfl
end Go.Proofs.YtofmccihehalcaaGreat.Trm
/- The program's search, as values: what is left to look at, in whatever order the places come. Without conditions: no Go text is walked here. -/
namespace Go.Proofs.YtofmccihehalcaaGreat.Trm
open Go.RowKit Go.Proofs.YtofmccihehalcaaGreat.Own
/-- What is marked is passed by, whatever is still to be looked at. -/
theorem Srch.skipG {E : Nat → Nat → Prop} {s n c z : Nat} {met : List Bool} {op zs zs' : List Nat} (h : Srch E s n met op c zs) (hz : met[z]? = some true) (h1 : ∀ y, y ∈ zs → y = z ∨ y ∈ zs') (h2 : ∀ y, y ∈ zs' → y ∈ zs) : Srch E s n met op c zs' := by
  refine ⟨h.len, h.start, h.right, h.opn, h.small, fun hne => h.cur (fun e => ?_), fun y hy => h.edge y (h2 y hy), fun y hy => ?_⟩
  · obtain ⟨y, hy⟩ := List.exists_mem_of_ne_nil _ hne
    have := h2 y hy
    rw [e] at this
    cases this
  · rcases h.all y hy with h3 | h3
    · exact .inl h3
    · refine .inr fun z2 hz2 => ?_
      rcases h3 z2 hz2 with h4 | ⟨h5, h4⟩
      · exact .inl h4
      · rcases h1 z2 h4 with rfl | h4
        · exact .inl hz
        · exact .inr ⟨h5, h4⟩
theorem set_met {met : List Bool} {z : Nat} (hlt : z < met.length) (y : Nat) : (met.set z true)[y]? = some true ↔ y = z ∨ met[y]? = some true := by
  by_cases e : y = z
  · subst e
    simp [hlt]
  · rw [List.getElem?_set_ne (fun e2 => e e2.symm)]
    simp [e]
/-- What is not marked is marked, and open. -/
theorem Srch.hitG {E : Nat → Nat → Prop} {s n c z : Nat} {met : List Bool} {op zs zs' : List Nat} (h : Srch E s n met op c zs) (hc : c = s ∨ met[c]? = some true) (he : E c z) (hzn : z < n) (h1 : ∀ y, y ∈ zs → y = z ∨ y ∈ zs') (h2 : ∀ y, y ∈ zs' → y ∈ zs) : Srch E s n (met.set z true) (op ++ [z]) c zs' := by
  have hlt : z < met.length := by rw [h.len]; exact hzn
  have hset := set_met hlt
  have hr : Rch E s z := by
    rcases hc with rfl | h2
    · exact .one he
    · exact .more (h.right _ h2) he
  refine ⟨by rw [List.length_set]; exact h.len, h.start, fun y hy => ?_, fun y hy => ?_, fun y hy => ?_, fun _ => ?_, fun y hy => h.edge y (h2 y hy), fun y hy => ?_⟩
  · rcases (hset y).1 hy with rfl | hy
    · exact hr
    · exact h.right y hy
  · rcases List.mem_append.1 hy with hy | hy
    · rcases h.opn y hy with h2 | h2
      · exact .inl h2
      · exact .inr ((hset y).2 (.inr h2))
    · rw [List.mem_singleton] at hy
      exact .inr ((hset y).2 (.inl hy))
  · rcases List.mem_append.1 hy with hy | hy
    · exact h.small y hy
    · rw [List.mem_singleton] at hy; rw [hy]; exact hzn
  · rcases hc with h2 | h2
    · exact .inl h2
    · exact .inr ((hset _).2 (.inr h2))
  · by_cases e : y = z
    · exact .inl (by rw [e]; simp)
    · have hy2 : y = s ∨ met[y]? = some true := by
        rcases hy with hy | hy
        · exact .inl hy
        · rcases (hset y).1 hy with h2 | h2
          · exact absurd h2 e
          · exact .inr h2
      rcases h.all y hy2 with h3 | h3
      · exact .inl (List.mem_append_left _ h3)
      · refine .inr fun z2 hz2 => ?_
        rcases h3 z2 hz2 with h4 | ⟨h5, h4⟩
        · exact .inl ((hset z2).2 (.inr h4))
        · rcases h1 z2 h4 with rfl | h4
          · exact .inl ((hset _).2 (.inl rfl))
          · exact .inr ⟨h5, h4⟩
/-- Those that have not come. -/
def restN (zs pre : List Nat) : List Nat := zs.filter fun z => !pre.contains z
theorem restN_nil (zs : List Nat) : restN zs [] = zs := by simp [restN]
theorem restN_done (zs : List Nat) : restN zs zs = [] := by
  unfold restN
  rw [List.filter_eq_nil_iff]
  intro z hz
  simp [hz]
theorem restN_step (zs pre : List Nat) (x : Nat) : (∀ y, y ∈ restN zs pre → y = x ∨ y ∈ restN zs (pre ++ [x])) ∧ (∀ y, y ∈ restN zs (pre ++ [x]) → y ∈ restN zs pre) := by
  constructor
  · intro y hy
    unfold restN at hy ⊢
    simp only [List.mem_filter, Bool.not_eq_true', List.contains_eq_mem, decide_eq_false_iff_not, List.mem_append, List.mem_singleton] at hy ⊢
    by_cases e : y = x
    · exact .inl e
    · exact .inr ⟨hy.1, fun h => by rcases h with h | h; exact hy.2 h; exact e h⟩
  · intro y hy
    unfold restN at hy ⊢
    simp only [List.mem_filter, Bool.not_eq_true', List.contains_eq_mem, decide_eq_false_iff_not, List.mem_append, List.mem_singleton] at hy ⊢
    exact ⟨hy.1, fun h => hy.2 (.inl h)⟩
/-- How many truth values of a block are false. -/
def isF : Value → Bool
  | .bool b => !b
  | _ => false
def noF (l : List Value) : Nat := (l.filter isF).length
theorem noF_bool : ∀ bs : List Bool, noF (bs.map Value.bool) = unm bs
  | [] => rfl
  | b :: r => by
    have ih := noF_bool r
    unfold noF at ih ⊢
    rw [List.map_cons, unm]
    cases b with
    | true => rw [List.filter_cons_of_neg (by simp [isF]), ih]; simp
    | false => rw [List.filter_cons_of_pos (by simp [isF]), List.length_cons, ih]; simp; omega
/-- What is still to be done of a search, told by the memory: the places that are not marked, and those that are open. -/
def leftW (mb tb : Nat) (W : World) : Nat := (match W.heap[mb]? with | some (Obj.cells c _ _) => noF c.toList | _ => 0) + (match W.cell? ⟨tb, 0, none⟩ with | some (.slice _ k _) => k | _ => 0)
theorem leftW_eq {W : World} {mb tb base n : Nat} {bs : List Bool} {a : Option Addr} {k c : Nat} (h : W.ownsRow base 4 1 (.slice (some ⟨mb, 0, none⟩) n n) n (bs.map Value.bool)) (ht : W.cell? ⟨tb, 0, none⟩ = some (.slice a k c)) : leftW mb tb W = unm bs + k := by
  rcases h.2 with ⟨e, _⟩ | ⟨g, cap, cur, e, _, hgb, _, _, hsz, hcur⟩
  · cases e
  · have e2 := e
    simp at e2
    obtain ⟨rfl, rfl⟩ := e2
    unfold leftW
    rw [hgb, ht]
    have h3 : cur.toList = bs.map Value.bool := by
      have h4 : cur.toList.length = n * 1 := by rw [Array.length_toList]; exact hsz
      rw [← h4, List.take_length] at hcur
      exact hcur
    show noF cur.toList + k = _
    rw [h3, noF_bool]
end Go.Proofs.YtofmccihehalcaaGreat.Trm
/- Who calls whom in a code, as values: what a procedure names at its live places, who calls it, where, what one comes to by calls. Without conditions: no Go text is walked here. -/
namespace Go.Proofs.YtofmccihehalcaaGreat.Trm
open Go.RowKit Go.Proofs.YtofmccihehalcaaGreat.Own
theorem rch_mono {E E' : Nat → Nat → Prop} {s y : Nat} (h : Rch E s y) (hE : ∀ a b, (a = s ∨ Rch E s a) → E a b → E' a b) : Rch E' s y := by
  induction h with
  | one h1 => exact .one (hE _ _ (.inl rfl) h1)
  | more h0 h1 ih => exact .more ih (hE _ _ (.inr h0) h1)
/-- The entry of a procedure. -/
def entN (x : KTree) (p : Nat) : Nat := if h : p < x.entry.length then (x.entry[p]'h).toNat else 0
theorem entN_eq {x : KTree} {p : Nat} (hk : okK x = true) (h : p < x.entry.length) : x.entry[p] = (entN x p : Int) := by
  unfold entN
  rw [dif_pos h]
  have := (okK_ris hk).nonneg h
  omega
theorem entN_lt {x : KTree} {p : Nat} (hk : okK x = true) (h : p < x.entry.length) : entN x p < x.ins.length := by
  have h1 := entN_eq hk h
  have h2 := (okK_ris hk).below h
  omega
theorem okK_procs {x : KTree} (hk : okK x = true) : x.entry.length = x.procs.length := by
  have h2 : kHeads x = true := by have h := hk; unfold okK at h; rw [Bool.and_eq_true] at h; exact h.1
  exact (kHeads_ent h2).2.1
/-- The end of a procedure. -/
def endN (x : KTree) (p : Nat) : Nat := (endI x.entry x.ins.length p).toNat
theorem endN_eq {x : KTree} {p : Nat} (hk : okK x = true) (h : p < x.entry.length) : endI x.entry x.ins.length p = (endN x p : Int) ∧ entN x p ≤ endN x p ∧ endN x p < x.ins.length := by
  have hr := okK_ris hk
  have h1 := entN_eq hk h
  have h2 := hr.below h
  have h3 : (x.entry[p] : Int) ≤ endI x.entry x.ins.length p ∧ endI x.entry x.ins.length p < (x.ins.length : Int) := by
    unfold endI
    split
    · rename_i h5
      have h6 := hr.lt (i := p) (j := p + 1) (by omega) h5
      have h7 := hr.below h5
      omega
    · omega
  unfold endN
  omega
/-- The live places of a procedure. -/
noncomputable def liveB (x : KTree) (p : Nat) : List Bool := (reachB x (entN x p)).set (entN x p) true
theorem liveB_length (x : KTree) (p : Nat) : (liveB x p).length = x.ins.length := by unfold liveB; rw [List.length_set, reachB_length]
theorem liveB_at {x : KTree} {p : Nat} (hk : okK x = true) (hp : p < x.entry.length) (i : Nat) : (liveB x p)[i]? = some true ↔ i < x.ins.length ∧ (i = entN x p ∨ Rch (nxE x) (entN x p) i) := by
  unfold liveB
  rw [set_met (by rw [reachB_length]; exact entN_lt hk hp), reachB_at]
  have := entN_lt hk hp
  constructor
  · rintro (rfl | ⟨h1, h2⟩)
    · exact ⟨this, .inl rfl⟩
    · exact ⟨h1, .inr h2⟩
  · rintro ⟨h1, h2 | h2⟩
    · exact .inl h2
    · exact .inr ⟨h1, h2⟩
/-- What comes next stays within the procedure. -/
theorem nxE_within {x : KTree} (hk : okK x = true) {p i j : Nat} (hi : IsP x.entry (i : Int) p) (h : nxE x i j) : IsP x.entry (j : Int) p := by
  obtain ⟨hil, hm⟩ := h
  have hr := okK_ris hk
  have h1 := okK_in hk hil
  have hent : EntOk x.entry x.ins := by
    have h := hk
    unfold okK at h
    rw [Bool.and_eq_true] at h
    exact (kHeads_ent h.1).1
  have step : x.ins[i].op ≠ 9 → IsP x.entry ((i + 1 : Nat) : Int) p := fun h9 => by
    obtain ⟨h2, h3, h4⟩ := hi
    have h5 := fun h6 => h9 ((hent.2 i hil).2 h6)
    refine ⟨h2, by omega, fun h6 => ?_⟩
    have h7 := h4 h6
    have h8 : x.entry[p + 1] ≠ (i : Int) + 1 := fun e => h5 (.inl ⟨p + 1, h6, e⟩)
    omega
  have hto : x.ins[i].op = 2 ∨ x.ins[i].op = 3 → IsP x.entry ((x.ins[i].to.toNat : Nat) : Int) p := fun h23 => by
    have h0 := okK_to hk hil h23
    unfold okIn at h1
    simp only [Bool.and_eq_true] at h1
    obtain ⟨_, _, _, h4⟩ := h1
    rw [if_pos h23] at h4
    unfold toB at h4
    simp only [decide_eq_true_eq] at h4
    obtain ⟨h5, q, h6, h7⟩ := h4
    obtain rfl := IsP.uni hr hi h6
    have : ((x.ins[i].to.toNat : Nat) : Int) = x.ins[i].to := by omega
    rw [this]
    exact h7
  unfold nextN at hm
  split at hm
  · rename_i h2
    split at hm
    · rw [List.mem_singleton] at hm; subst hm; exact step (by omega)
    · simp only [List.mem_cons, List.not_mem_nil, or_false] at hm
      rcases hm with rfl | rfl
      · exact step (by omega)
      · exact hto (.inl h2)
  · split at hm
    · rename_i h2
      rw [List.mem_singleton] at hm; subst hm; exact hto (.inr h2)
    · split at hm
      · simp at hm
      · rename_i h9
        rw [List.mem_singleton] at hm; subst hm; exact step h9
theorem entN_isP {x : KTree} (hk : okK x = true) {p : Nat} (hp : p < x.entry.length) : IsP x.entry (entN x p : Int) p := by
  have h1 := entN_eq hk hp
  refine ⟨hp, by omega, fun h => ?_⟩
  have := (okK_ris hk).lt (i := p) (j := p + 1) (by omega) h
  omega
theorem rch_isP {x : KTree} (hk : okK x = true) {p s y : Nat} (hs : IsP x.entry (s : Int) p) (h : Rch (nxE x) s y) : IsP x.entry (y : Int) p := by
  induction h with
  | one h1 => exact nxE_within hk hs h1
  | more _ h1 ih => exact nxE_within hk ih h1
theorem liveB_isP {x : KTree} (hk : okK x = true) {p : Nat} (hp : p < x.entry.length) {i : Nat} (h : (liveB x p)[i]? = some true) : IsP x.entry (i : Int) p := by
  obtain ⟨_, rfl | h2⟩ := (liveB_at hk hp i).1 h
  · exact entN_isP hk hp
  · exact rch_isP hk (entN_isP hk hp) h2
theorem liveB_range {x : KTree} (hk : okK x = true) {p : Nat} (hp : p < x.entry.length) {i : Nat} (h : (liveB x p)[i]? = some true) : entN x p ≤ i ∧ i ≤ endN x p := by
  obtain ⟨h1, h2, h3⟩ := liveB_isP hk hp h
  have h4 := entN_eq hk hp
  have h5 := endN_eq hk hp
  have h6 := ((liveB_at hk hp i).1 h).1
  refine ⟨by omega, ?_⟩
  have h7 := h5.1
  unfold endI at h7
  split at h7
  · rename_i h8
    have := h3 h8
    omega
  · omega
/-- A live place with an op that names a procedure. -/
def CallAt (x : KTree) (p : Nat) (o : Int) (i q : Nat) : Prop := (liveB x p)[i]? = some true ∧ ∃ h : i < x.ins.length, x.ins[i].op = o ∧ x.ins[i].arg = (q : Int)
open Classical in
/-- The procedures that live places with an op name. -/
noncomputable def opsB (x : KTree) (p : Nat) (o : Int) : List Bool := (List.range x.entry.length).map fun q => decide (∃ i, CallAt x p o i q)
theorem opsB_length (x : KTree) (p : Nat) (o : Int) : (opsB x p o).length = x.entry.length := by unfold opsB; simp
theorem bmap_at (n : Nat) (P : Nat → Prop) [DecidablePred P] (q : Nat) : ((List.range n).map fun q => decide (P q))[q]? = some true ↔ q < n ∧ P q := by
  rw [List.getElem?_map]
  by_cases h : q < n
  · rw [List.getElem?_range h]
    simp [h]
  · rw [List.getElem?_eq_none (by simpa using h)]
    simp [h]
theorem opsB_at (x : KTree) (p : Nat) (o : Int) (q : Nat) : (opsB x p o)[q]? = some true ↔ q < x.entry.length ∧ ∃ i, CallAt x p o i q := by
  classical
  unfold opsB
  exact bmap_at _ _ q
theorem callAt_lt {x : KTree} (hk : okK x = true) {p i q : Nat} {o : Int} (ho : o = 4 ∨ o = 5) (h : CallAt x p o i q) : q < x.entry.length := by
  obtain ⟨_, hi, h1, h2⟩ := h
  have h3 := okK_in hk hi
  unfold okIn at h3
  simp only [Bool.and_eq_true, decide_eq_true_eq] at h3
  obtain ⟨_, ⟨_, h4⟩, _⟩ := h3
  unfold mostI at h4
  rw [h1] at h4
  have := okK_procs hk
  rcases ho with rfl | rfl
  · rw [if_neg (by decide), if_neg (by decide), if_pos (by decide)] at h4
    omega
  · rw [if_neg (by decide), if_neg (by decide), if_pos (by decide)] at h4
    omega
theorem arg_nat {x : KTree} (hk : okK x = true) {i : Nat} (hi : i < x.ins.length) (ho : x.ins[i].op = 4 ∨ x.ins[i].op = 5) : ∃ q : Nat, x.ins[i].arg = (q : Int) ∧ q < x.entry.length := by
  have h3 := okK_in hk hi
  unfold okIn at h3
  simp only [Bool.and_eq_true, decide_eq_true_eq] at h3
  obtain ⟨_, ⟨h5, h4⟩, _⟩ := h3
  unfold mostI at h4
  have := okK_procs hk
  rw [if_neg (by rcases ho with h | h <;> omega), if_neg (by rcases ho with h | h <;> omega), if_pos ho] at h4
  exact ⟨x.ins[i].arg.toNat, by omega, by omega⟩
/-- Marks that say what is so. -/
def MkI (m : Nat) (P : Nat → Prop) (met : List Bool) : Prop := met.length = m ∧ ∀ q, met[q]? = some true ↔ q < m ∧ P q
theorem MkI.none (m : Nat) {P : Nat → Prop} (h : ∀ q, ¬ P q) : MkI m P (List.replicate m false) := ⟨by simp, fun q => by
  constructor
  · intro h2; simp [List.getElem?_replicate] at h2
  · intro h2; exact absurd h2.2 (h q)⟩
theorem MkI.same {m : Nat} {P P' : Nat → Prop} {met : List Bool} (h : MkI m P met) (e : ∀ q, q < m → (P' q ↔ P q)) : MkI m P' met := ⟨h.1, fun q => by
  rw [h.2]
  constructor
  · exact fun ⟨a, b⟩ => ⟨a, (e q a).2 b⟩
  · exact fun ⟨a, b⟩ => ⟨a, (e q a).1 b⟩⟩
theorem MkI.mark {m z : Nat} {P P' : Nat → Prop} {met : List Bool} (h : MkI m P met) (hz : z < m) (e : ∀ q, q < m → (P' q ↔ q = z ∨ P q)) : MkI m P' (met.set z true) := ⟨by rw [List.length_set]; exact h.1, fun q => by
  rw [set_met (by rw [h.1]; exact hz), h.2]
  constructor
  · rintro (rfl | ⟨a, b⟩)
    · exact ⟨hz, (e _ hz).2 (.inl rfl)⟩
    · exact ⟨a, (e q a).2 (.inr b)⟩
  · rintro ⟨a, b⟩
    rcases (e q a).1 b with h2 | h2
    · exact .inl h2
    · exact .inr ⟨a, h2⟩⟩
theorem MkI.eq {m : Nat} {P : Nat → Prop} {a b : List Bool} (ha : MkI m P a) (hb : MkI m P b) : a = b := bools_ext (by rw [ha.1, hb.1]) fun y => by rw [ha.2, hb.2]
theorem opsB_mk (x : KTree) (p : Nat) (o : Int) : MkI x.entry.length (fun q => ∃ i, CallAt x p o i q) (opsB x p o) := ⟨opsB_length x p o, opsB_at x p o⟩
/-- Whether there is such a procedure in code that is right. -/
noncomputable def prB (x : KTree) (a : Int) : Bool := okK x && decide (0 ≤ a ∧ a < (x.entry.length : Int))
theorem prB_iff {x : KTree} {a : Int} : prB x a = true ↔ okK x = true ∧ 0 ≤ a ∧ a < (x.entry.length : Int) := by
  unfold prB
  rw [Bool.and_eq_true, decide_eq_true_eq]
noncomputable def opsAns (o : Int) (x : KTree) (a : Int) : List Nat := if prB x a = true then markedN 0 (opsB x a.toNat o) else []
/-- The procedures that call one, rising. -/
noncomputable def callersN (x : KTree) (q m : Nat) : List Nat := (List.range m).filter fun p => decide ((opsB x p 4)[q]? = some true)
theorem callersN_zero (x : KTree) (q : Nat) : callersN x q 0 = [] := rfl
theorem callersN_succ (x : KTree) (q m : Nat) : callersN x q (m + 1) = callersN x q m ++ (if (opsB x m 4)[q]? = some true then [m] else []) := by
  unfold callersN
  rw [List.range_succ, List.filter_append]
  congr 1
  by_cases h : (opsB x m 4)[q]? = some true
  · simp [h]
  · simp [h]
theorem callersN_le (x : KTree) (q m : Nat) : (callersN x q m).length ≤ m := by
  unfold callersN
  have := List.length_filter_le (fun p => decide ((opsB x p 4)[q]? = some true)) (List.range m)
  rw [List.length_range] at this
  exact this
noncomputable def callersAns (x : KTree) (a : Int) : List Nat := if prB x a = true then callersN x a.toNat x.entry.length else []
/-- The places of a procedure that call one, below a place, rising. -/
def siteB (x : KTree) (bs : List Bool) (q i : Nat) : Bool := (bs[i]? == some true) && (if h : i < x.ins.length then decide (x.ins[i].op = 4 ∧ x.ins[i].arg = (q : Int)) else false)
def siteN (x : KTree) (bs : List Bool) (q m : Nat) : List Nat := (List.range m).filter (siteB x bs q)
theorem siteN_succ (x : KTree) (bs : List Bool) (q m : Nat) : siteN x bs q (m + 1) = siteN x bs q m ++ (if siteB x bs q m then [m] else []) := by
  unfold siteN
  rw [List.range_succ, List.filter_append]
  congr 1
  by_cases h : siteB x bs q m = true
  · simp [h]
  · simp [h]
theorem siteN_le (x : KTree) (bs : List Bool) (q m : Nat) : (siteN x bs q m).length ≤ m := by
  unfold siteN
  have := List.length_filter_le (siteB x bs q) (List.range m)
  rw [List.length_range] at this
  exact this
theorem siteN_none {x : KTree} {bs : List Bool} {q m : Nat} (h : ∀ i, i < m → bs[i]? ≠ some true) : siteN x bs q m = [] := by
  unfold siteN
  rw [List.filter_eq_nil_iff]
  intro i hi
  have := h i (List.mem_range.1 hi)
  unfold siteB
  simp [this]
theorem siteN_more {x : KTree} {bs : List Bool} {q m : Nat} : ∀ d, (∀ i, m ≤ i → i < m + d → bs[i]? ≠ some true) → siteN x bs q (m + d) = siteN x bs q m
  | 0, _ => rfl
  | d + 1, h => by
    rw [← Nat.add_assoc, siteN_succ, siteN_more d (fun i h1 h2 => h i h1 (by omega))]
    have := h (m + d) (by omega) (by omega)
    have hs : siteB x bs q (m + d) = false := by unfold siteB; simp [this]
    rw [hs]
    simp
/-- All places that call one, of the procedures below one, rising. -/
noncomputable def sitesN (x : KTree) (q m : Nat) : List Nat := ((List.range m).map fun p => siteN x (liveB x p) q x.ins.length).flatten
theorem sitesN_zero (x : KTree) (q : Nat) : sitesN x q 0 = [] := rfl
theorem sitesN_succ (x : KTree) (q m : Nat) : sitesN x q (m + 1) = sitesN x q m ++ siteN x (liveB x m) q x.ins.length := by
  unfold sitesN
  rw [List.range_succ, List.map_append, List.flatten_append]
  simp
noncomputable def sitesAns (x : KTree) (a : Int) : List Nat := if prB x a = true then sitesN x a.toNat x.entry.length else []
/-- A part of a procedure's places: those from its entry up to its end. -/
theorem siteN_from {x : KTree} (hk : okK x = true) {p : Nat} (hp : p < x.entry.length) (q : Nat) : siteN x (liveB x p) q (entN x p) = [] :=
  siteN_none fun i hi h => by have := (liveB_range hk hp h).1; omega
theorem siteN_upto {x : KTree} (hk : okK x = true) {p : Nat} (hp : p < x.entry.length) (q : Nat) : siteN x (liveB x p) q (endN x p + 1) = siteN x (liveB x p) q x.ins.length := by
  have h1 := endN_eq hk hp
  have h2 := siteN_more (x := x) (bs := liveB x p) (q := q) (m := endN x p + 1) (x.ins.length - (endN x p + 1)) (fun i h3 _ h4 => by have := (liveB_range hk hp h4).2; omega)
  have h3 : endN x p + 1 + (x.ins.length - (endN x p + 1)) = x.ins.length := by omega
  rw [h3] at h2
  exact h2.symm
theorem sitesN_mem (x : KTree) (q m i : Nat) : i ∈ sitesN x q m ↔ ∃ p, p < m ∧ CallAt x p 4 i q := by
  unfold sitesN
  rw [List.mem_flatten]
  constructor
  · rintro ⟨l, hl, hi⟩
    obtain ⟨p, hp, rfl⟩ := List.mem_map.1 hl
    refine ⟨p, List.mem_range.1 hp, ?_⟩
    unfold siteN at hi
    obtain ⟨h1, h2⟩ := List.mem_filter.1 hi
    have h3 := List.mem_range.1 h1
    unfold siteB at h2
    rw [dif_pos h3] at h2
    simp only [Bool.and_eq_true, beq_iff_eq, decide_eq_true_eq] at h2
    exact ⟨h2.1, h3, h2.2⟩
  · rintro ⟨p, hp, h1, h2, h3⟩
    refine ⟨_, List.mem_map.2 ⟨p, List.mem_range.2 hp, rfl⟩, ?_⟩
    unfold siteN
    refine List.mem_filter.2 ⟨List.mem_range.2 h2, ?_⟩
    unfold siteB
    rw [dif_pos h2]
    simp only [Bool.and_eq_true, beq_iff_eq, decide_eq_true_eq]
    exact ⟨h1, h3⟩
/-- Places that rise, each below a bound: no more than there are. -/
theorem rise_len : ∀ {l : List Nat} {lo n : Nat}, l.Pairwise (· < ·) → (∀ y, y ∈ l → lo ≤ y ∧ y < n) → lo ≤ n → l.length ≤ n - lo
  | [], _, _, _, _, _ => by simp
  | a :: r, lo, n, h, hb, _ => by
    have h1 := hb a List.mem_cons_self
    rw [List.pairwise_cons] at h
    have := rise_len (lo := a + 1) (n := n) h.2 (fun y hy => ⟨h.1 y hy, (hb y (List.mem_cons_of_mem _ hy)).2⟩) (by omega)
    rw [List.length_cons]
    omega
theorem siteN_rise (x : KTree) (bs : List Bool) (q m : Nat) : (siteN x bs q m).Pairwise (· < ·) := by
  unfold siteN
  exact List.Pairwise.filter _ List.pairwise_lt_range
theorem sitesN_rise {x : KTree} (hk : okK x = true) (q : Nat) : ∀ m, m ≤ x.entry.length → (sitesN x q m).Pairwise (· < ·)
  | 0, _ => List.Pairwise.nil
  | m + 1, h => by
    rw [sitesN_succ, List.pairwise_append]
    refine ⟨sitesN_rise hk q m (by omega), siteN_rise _ _ _ _, fun a ha b hb => ?_⟩
    obtain ⟨p, hp, h1, _⟩ := (sitesN_mem x q m a).1 ha
    unfold siteN at hb
    have h2 := (List.mem_filter.1 hb).2
    unfold siteB at h2
    simp only [Bool.and_eq_true, beq_iff_eq] at h2
    have h3 := liveB_isP hk (by omega : p < x.entry.length) h1
    have h4 := liveB_isP hk (by omega : m < x.entry.length) h2.1
    have hr := okK_ris hk
    obtain ⟨g1, g2, g3⟩ := h3
    obtain ⟨k1, k2, k3⟩ := h4
    have h5 := g3 (by omega)
    rcases Nat.lt_or_ge (p + 1) m with h6 | h6
    · have := hr.lt h6 k1
      omega
    · obtain rfl : m = p + 1 := by omega
      omega
theorem sitesN_le {x : KTree} (hk : okK x = true) (q m : Nat) (h : m ≤ x.entry.length) : (sitesN x q m).length ≤ x.ins.length := by
  have := rise_len (lo := 0) (n := x.ins.length) (sitesN_rise hk q m h) (fun y hy => by
    obtain ⟨_, _, _, h2, _⟩ := (sitesN_mem x q m y).1 hy
    exact ⟨Nat.zero_le _, h2⟩) (Nat.zero_le _)
  omega
/-- The answers are few and small. -/
theorem okK_nprocs {x : KTree} (hk : okK x = true) : x.entry.length ≤ x.ins.length := by
  have hr := okK_ris hk
  have key : ∀ i (h : i < x.entry.length), (i : Int) ≤ x.entry[i] := fun i => by
    induction i with
    | zero => intro h; exact hr.nonneg h
    | succ i ih =>
      intro h
      have := ih (by omega)
      have := hr.lt (i := i) (j := i + 1) (by omega) h
      omega
  rcases Nat.eq_zero_or_pos x.entry.length with h | h
  · omega
  · have h1 := key (x.entry.length - 1) (by omega)
    have h2 := hr.below (i := x.entry.length - 1) (by omega)
    omega
theorem opsAns_small (o : Int) (x : KTree) (a : Int) : SmallN (opsAns o x a) := by
  unfold opsAns
  split
  · rename_i h
    have hk := (prB_iff.1 h).1
    have h1 := okK_len hk
    have h2 := okK_nprocs hk
    have h3 := opsB_length x a.toNat o
    exact ⟨by have := markedN_le 0 (opsB x a.toNat o); omega, fun y hy => by have := markedN_lt _ _ y hy; omega⟩
  · exact smallN_nil
theorem callersAns_small (x : KTree) (a : Int) : SmallN (callersAns x a) := by
  unfold callersAns
  split
  · rename_i h
    have hk := (prB_iff.1 h).1
    have h1 := okK_len hk
    have h2 := okK_nprocs hk
    refine ⟨by have := callersN_le x a.toNat x.entry.length; omega, fun y hy => ?_⟩
    unfold callersN at hy
    have := List.mem_range.1 (List.mem_filter.1 hy).1
    omega
  · exact smallN_nil
theorem sitesAns_small (x : KTree) (a : Int) : SmallN (sitesAns x a) := by
  unfold sitesAns
  split
  · rename_i h
    have hk := (prB_iff.1 h).1
    have h1 := okK_len hk
    refine ⟨by have := sitesN_le hk a.toNat x.entry.length (Nat.le_refl _); omega, fun y hy => ?_⟩
    obtain ⟨_, _, _, h2, _⟩ := (sitesN_mem x _ _ y).1 hy
    omega
  · exact smallN_nil
end Go.Proofs.YtofmccihehalcaaGreat.Trm
/- The model's l10Ok and l10Ops: whether there is such a procedure, and what a procedure names at its live places, walked. Conditions: the code lies in memory; where it must be right, it is. -/
namespace Go.Proofs.YtofmccihehalcaaGreat.Trm
open Go.RowKit Go.Proofs.YtofmccihehalcaaGreat.Own
set_option maxRecDepth 20000 in
set_option maxHeartbeats 1600000 in
theorem specL10Ok_any (x : KTree) (a : Int) (v : Value) (w : World) (hl : KIn w x v) (hz : szK x ≤ 1048576) :
    Calls Tryz.prog 51 #[v, .int .i64 a] w fun e w' => e = .returned (.bool (prB x a)) ∧ Below w.heap.size w w' := by
  have CK := Lib.hid (fun wx (hb : Below w.heap.size w wx) => specCodeOk_any x v wx (hl.keep (keeps_below hb)) hz)
  obtain ⟨ga, gc, la, lc, pa, pc, ea, ec, ia, ic, rfl, h1, h2, h3, h4, h5, _⟩ := hl
  obtain ⟨n, hn⟩ : ∃ n, n = x.procs.length := ⟨_, rfl⟩
  have HA : Hid (prB x a = (okK x && decide (0 ≤ a ∧ a < (n : Int)))) := by
    show _ = _
    unfold prB
    cases hk : okK x with
    | false => rfl
    | true => rw [hn, okK_procs hk]
  rw [← hn] at CK ⊢
  have hlm : n ≤ 9223372036854775807 := by rw [hn]; obtain ⟨_, _, _, h, _⟩ := h3.1; exact h
  have X0 := Lib.hid (Box5.new w (.slice ga x.globals.length gc) (.slice la x.locks.length lc) (.slice pa n pc) (.slice ea x.entry.length ec) (.slice ia x.ins.length ic) 28)
  have B0 := Lib.hid ((Below.refl w.heap.size w).alloc (Nat.le_refl _) (.cells #[.slice ga x.globals.length gc, .slice la x.locks.length lc, .slice pa n pc, .slice ea x.entry.length ec, .slice ia x.ins.length ic] 28))
  obtain ⟨kb, hkb⟩ : ∃ b, okK x = b := ⟨_, rfl⟩
  rw [hkb] at CK HA
  obtain ⟨rr, hrr⟩ : ∃ b, prB x a = b := ⟨_, rfl⟩
  rw [hrr] at HA ⊢
  clear h1 h2 h3 h4 h5 hz hn hkb hrr
  obtain ⟨W1, hW1⟩ : ∃ W, W = w.alloc (.cells #[.slice ga x.globals.length gc, .slice la x.locks.length lc, .slice pa n pc, .slice ea x.entry.length ec, .slice ia x.ins.length ic] 28) := ⟨_, rfl⟩
  obtain ⟨p0, p1, p2, p3, p4⟩ := X0.out
  rw [← hW1] at X0 B0
  have HW1 := Lib.hid hW1
  clear hW1
  go_enter Tryz.func51, Tryz.ntmps51
  go_wp2_with fail
  rw [← HW1.out] at p0 p1 p2 p3 p4 ⊢
  refine (CK.out _ B0.out).mono ?_
  rintro e w2 ⟨rfl, hb⟩
  have B2 := Lib.hid (B0.out.trans (hb.mono B0.out.size))
  have X2 := Lib.hid (X0.out.keep (keeps_below hb))
  clear hb p0 p1 p2 p3 p4
  obtain ⟨p0, p1, p2, p3, p4⟩ := X2.out
  cases kb with
  | false =>
    have HF : Hid (rr = false) := by show _ = _; rw [HA.out]; simp
    go_wp2_with fail
    go_ret
    exact ⟨ret_b2 (by rw [HF.out]), B2.out⟩
  | true =>
    go_wp2_with fail
    by_cases ha : 0 ≤ a ∧ a ≤ (n : Int) - 1
    · have HF : Hid (rr = true) := by show _ = _; rw [HA.out]; simp; omega
      refine (in_yes _ _ _ _ ha.1 ha.2).mono ?_
      rintro e w3 ⟨rfl, rfl⟩
      go_wp2_with fail
      go_ret
      exact ⟨ret_b2 (by rw [HF.out]), B2.out⟩
    · have HF : Hid (rr = false) := by show _ = _; rw [HA.out]; simp; omega
      refine (in_no _ _ _ _ (by omega)).mono ?_
      rintro e w3 ⟨rfl, rfl⟩
      go_wp2_with fail
      go_ret
      exact ⟨ret_b2 (by rw [HF.out]), B2.out⟩
theorem specLiveB_any (x : KTree) (p : Nat) (v : Value) (w : World) (hl : KIn w x v) (hk : okK x = true) (hp : p < x.entry.length) :
    Calls Tryz.prog 55 #[v, .int .i64 (p : Int)] w (ListB (liveB x p) w) := by
  have h := specLive_any x p v w hl hk hp
  have e : liveB x p = (reachB x x.entry[p].toNat).set x.entry[p].toNat true := by unfold liveB entN; rw [dif_pos hp]
  rw [e]
  exact h
theorem callTo_skip {x : KTree} {p j : Nat} {o : Int} (h : ∀ q, ¬ CallAt x p o j q) (q : Nat) : (∃ i, i < j + 1 ∧ CallAt x p o i q) ↔ ∃ i, i < j ∧ CallAt x p o i q := by
  constructor
  · rintro ⟨i, hi, hc⟩
    by_cases e : i = j
    · subst e; exact absurd hc (h q)
    · exact ⟨i, by omega, hc⟩
  · rintro ⟨i, hi, hc⟩
    exact ⟨i, by omega, hc⟩
theorem callTo_hit {x : KTree} {p j z : Nat} {o : Int} (h : CallAt x p o j z) (q : Nat) : (∃ i, i < j + 1 ∧ CallAt x p o i q) ↔ q = z ∨ ∃ i, i < j ∧ CallAt x p o i q := by
  constructor
  · rintro ⟨i, hi, hc⟩
    by_cases e : i = j
    · subst e
      obtain ⟨_, _, _, h3⟩ := h
      obtain ⟨_, _, _, h4⟩ := hc
      exact .inl (by omega)
    · exact .inr ⟨i, by omega, hc⟩
  · rintro (rfl | ⟨i, hi, hc⟩)
    · exact ⟨j, by omega, h⟩
    · exact ⟨i, by omega, hc⟩
theorem opsTo_done {x : KTree} {p n : Nat} {o : Int} {met : List Bool} (hn : n = x.ins.length) (h : MkI x.entry.length (fun q => ∃ i, i < n ∧ CallAt x p o i q) met) : met = opsB x p o := by
  refine MkI.eq h ((opsB_mk x p o).same fun q _ => ?_)
  constructor
  · rintro ⟨i, _, hc⟩; exact ⟨i, hc⟩
  · rintro ⟨i, hc⟩
    obtain ⟨_, h2, _⟩ := id hc
    exact ⟨i, by omega, hc⟩
set_option maxRecDepth 20000 in
set_option maxHeartbeats 6400000 in
theorem specL10Ops_any (x : KTree) (p : Nat) (o : Int) (v : Value) (w : World) (hl : KIn w x v) (hk : okK x = true) (hp : p < x.entry.length) (ho : o = 4 ∨ o = 5) :
    Calls Tryz.prog 52 #[v, .int .i64 (p : Int), .int .i64 o] w (ListI (upI (markedN 0 (opsB x p o))) w) := by
  have CL := Lib.hid (fun wx (hb : Below w.heap.size w wx) => specLiveB_any x p v wx (hl.keep (keeps_below hb)) hk hp)
  obtain ⟨j0, hj, jz0, jz1, jz2⟩ := info_parts infoBoolL
  obtain ⟨ga, gc, la, lc, pa, pc, ea, ec, ia, ic, rfl, h1, h2, h3, h4, h5, _⟩ := hl
  obtain ⟨n, hn⟩ : ∃ n, n = x.ins.length := ⟨_, rfl⟩
  have hpe := okK_procs hk
  have hnp := okK_nprocs hk
  have hlen := okK_len hk
  obtain ⟨m, hm⟩ : ∃ m, m = x.procs.length := ⟨_, rfl⟩
  rw [← hn] at h5 hnp hlen CL ⊢
  rw [← hm] at hpe CL ⊢
  have HN := Lib.hid hn
  have HI := Lib.hid h5
  have HK := Lib.hid hk
  have HPE := Lib.hid hpe
  have hm15 : m ≤ 1500 := by omega
  have hll := liveB_length x p
  rw [← hn] at hll
  have X0 := Lib.hid (Box5.new w (.slice ga x.globals.length gc) (.slice la x.locks.length lc) (.slice pa m pc) (.slice ea x.entry.length ec) (.slice ia n ic) 28)
  have B0 := Lib.hid ((Below.refl w.heap.size w).alloc (Nat.le_refl _) (.cells #[.slice ga x.globals.length gc, .slice la x.locks.length lc, .slice pa m pc, .slice ea x.entry.length ec, .slice ia n ic] 28))
  clear h1 h2 h3 h4 h5 hk hn hm hpe
  obtain ⟨W1, hW1⟩ : ∃ W, W = w.alloc (.cells #[.slice ga x.globals.length gc, .slice la x.locks.length lc, .slice pa m pc, .slice ea x.entry.length ec, .slice ia n ic] 28) := ⟨_, rfl⟩
  obtain ⟨p0, p1, p2, p3, p4⟩ := X0.out
  rw [← hW1] at X0 B0
  have HW1 := Lib.hid hW1
  clear hW1
  go_enter Tryz.func52, Tryz.ntmps52
  go_wp2_with fail
  rw [← HW1.out] at p0 p1 p2 p3 p4 ⊢
  refine (CL.out _ B0.out).mono ?_
  rintro e w2 ⟨bv, rfl, hr2, hb2⟩
  rw [hll] at hr2
  obtain ⟨ba, bc, rfl, hba⟩ := row_shape hr2
  have hn0 : 0 < n := by have := HPE.out; omega
  obtain ⟨bg, rfl⟩ := hba hn0
  have hbg := hr2.lt bg rfl
  have B2 := Lib.hid (B0.out.trans (hb2.mono B0.out.size))
  have X2 := Lib.hid (X0.out.keep (keeps_below hb2))
  have R2 := Lib.hid hr2
  have hW2s : w.heap.size ≤ w2.heap.size := B2.out.size
  have hbx0 : w.heap.size < w2.heap.size := cell_lt X2.out.1
  clear hr2 hb2 hba p0 p1 p2 p3 p4
  obtain ⟨p0, p1, p2, p3, p4⟩ := X2.out
  go_wp2_with (at_make; refine wpList_make_full _ rfl (.tmp 15) (.tmp 15) 55 rfl w2.heap.size 4 j0 _ 1 Tryz.underlying55 hj jz0 jz1 .i64 .i64 _ _ m rfl rfl rfl rfl (by rw [jz2]; omega) (by unfold maxLen; omega) (by simp) ?_)
  intro w3 hown hg
  rw [boolV_made] at hown
  have B3 := Lib.hid (B2.out.grown hg B2.out.size (fun b hb => by cases hb))
  have X3 := Lib.hid (X2.out.keep (keeps_below (below_none hg)))
  have M3 := Lib.hid hown
  have R3 := Lib.hid (row_below R2.out (below_none hg))
  clear hown hg p0 p1 p2 p3 p4
  go_wp2
  go_loopw [9] (fun jv wr => ∃ (j : Nat) (met : List Bool), j ≤ n ∧ jv = .int .i64 j ∧ Hid (MkI x.entry.length (fun q => ∃ i, i < j ∧ CallAt x p o i q) met) ∧ Hid (wr.ownsRow w2.heap.size 4 1 (.slice (some ⟨w2.heap.size, 0, none⟩) m m) m (boolV met)) ∧ Hid (wr.ownsRow W1.heap.size 4 1 (.slice (some ⟨bg, 0, none⟩) n bc) n (boolV (liveB x p))) ∧ Hid (Box5 wr w.heap.size (.slice ga x.globals.length gc) (.slice la x.locks.length lc) (.slice pa m pc) (.slice ea x.entry.length ec) (.slice ia n ic)) ∧ Hid (Below w.heap.size w wr))
    (fun jv _ => n - (intOf jv).toNat)
  case atStart => exact ⟨0, List.replicate m false, Nat.zero_le _, rfl, by show MkI _ _ _; rw [HPE.out]; exact MkI.none _ (fun q ⟨i, hi, _⟩ => by omega), M3.out, R3.out, X3.out, B3.out⟩
  case round =>
    obtain ⟨j, met, hjn, rfl, hmk, hrow, hlv, hbx, hbe⟩ := hrel
    obtain ⟨p0, p1, p2, p3, p4⟩ := hbx.out
    by_cases hlt : j < n
    · have hlt2 : j < x.ins.length := by have := HN.out; omega
      obtain ⟨g, o', rfl, hc⟩ := atIns HN.out HI.out hlt2
      obtain ⟨_, _, _, ta, tc, c0, c1, _⟩ := (hc j hlt2).keep (keeps_below hbe.out)
      have hjl : j < (liveB x p).length := by omega
      have d0 := boolV_cell hlv.out j hjl
      obtain ⟨b, hb⟩ : ∃ b, (liveB x p)[j] = b := ⟨_, rfl⟩
      rw [hb] at d0
      have hb2 : (liveB x p)[j]? = some b := by rw [List.getElem?_eq_getElem hjl, hb]
      have HB2 := Lib.hid hb2
      clear hb hb2 hc
      cases b with
      | false =>
        have HS : Hid (MkI x.entry.length (fun q => ∃ i, i < j + 1 ∧ CallAt x p o i q) met) := hmk.out.same fun q _ => callTo_skip (fun q' h => by have := h.1; rw [HB2.out] at this; cases this) q
        go_wp2
        go_roundw
        case rel => exact ⟨j + 1, met, by omega, by go_num, HS.out, hrow.out, hlv.out, hbx.out, hbe.out⟩
        case measure => simp [intOf]; omega
      | true =>
        by_cases hop : x.ins[j].op = o
        · obtain ⟨q0, hq0, hq1⟩ := arg_nat HK.out hlt2 (by rw [hop]; exact ho)
          have HS : Hid (MkI x.entry.length (fun q => ∃ i, i < j + 1 ∧ CallAt x p o i q) (met.set q0 true)) := hmk.out.mark hq1 fun q _ => callTo_hit ⟨HB2.out, hlt2, hop, hq0⟩ q
          rw [hop] at c0
          rw [hq0] at c1
          have hqm : q0 < m := by have := HPE.out; omega
          have hml : met.length = m := by have := hmk.out.1; have := HPE.out; omega
          have f1 := hrow.out.frozenAt q0
          have e1 := boolV_cell hrow.out q0 (by omega)
          obtain ⟨m5, g5⟩ := boolV_set hrow.out q0 true
          obtain ⟨W5, hW5⟩ : ∃ W, W = wr.setCell ⟨w2.heap.size, q0, none⟩ (.bool true) := ⟨_, rfl⟩
          rw [← hW5] at m5 g5
          have M5 := Lib.hid m5
          have R5 := Lib.hid (hlv.out.kept g5 (.inr (fun e => by
            have h2 : bg = w2.heap.size := by simpa [Value.ownBlock] using e
            omega)))
          have X5 := Lib.hid (box5_other hbx.out g5 (fun e => by injection e with e; omega))
          have B5 := Lib.hid (hbe.out.grown g5 hbe.out.size (fun k hk => by cases hk; omega))
          have HW5 := Lib.hid hW5
          clear m5 g5 hW5 hop
          go_wp2
          rw [← HW5.out]
          go_roundw
          case rel => exact ⟨j + 1, met.set q0 true, by omega, by go_num, HS.out, M5.out, R5.out, X5.out, B5.out⟩
          case measure => simp [intOf]; omega
        · have HS : Hid (MkI x.entry.length (fun q => ∃ i, i < j + 1 ∧ CallAt x p o i q) met) := hmk.out.same fun q _ => callTo_skip (fun q' h => hop h.2.2.1) q
          have hopb : (x.ins[j].op == o) = false := by rw [beq_eq_false_iff_ne]; exact hop
          clear hop
          generalize x.ins[j].op = oj at c0 hopb
          go_wp2
          go_roundw
          case rel => exact ⟨j + 1, met, by omega, by go_num, HS.out, hrow.out, hlv.out, hbx.out, hbe.out⟩
          case measure => simp [intOf]; omega
    · have hje : j = n := by omega
      subst hje
      have HE : Hid (met = opsB x p o) := opsTo_done HN.out hmk.out
      have hml : met.length = m := by have := hmk.out.1; have := HPE.out; omega
      have CM := Lib.hid (specMarked_any met _ w2.heap.size wr (by omega) (by rw [hml]; exact hrow.out))
      rw [HE.out] at CM
      go_wp2_with fail
      refine CM.out.mono ?_
      rintro e w6 ⟨ov, rfl, hr6, hb6⟩
      have R6 := Lib.hid (World.ownsRow.mono hr6 hbe.out.size)
      have B6 := Lib.hid (hbe.out.trans (hb6.mono hbe.out.size))
      clear hr6 hb6
      go_wp2_with fail
      go_ret
      exact ⟨_, rfl, R6.out, B6.out⟩
end Go.Proofs.YtofmccihehalcaaGreat.Trm
/- What one comes to by calls, and which procedures return, as values: a search whose start is marked; the least answer that agrees with itself. Without conditions: no Go text is walked here. -/
namespace Go.Proofs.YtofmccihehalcaaGreat.Trm
open Go.RowKit Go.Proofs.YtofmccihehalcaaGreat.Own
/-- One comes from a place to another, or is there. -/
inductive Rt (E : Nat → Nat → Prop) (s : Nat) : Nat → Prop
  | refl : Rt E s s
  | more {y z : Nat} : Rt E s y → E y z → Rt E s z
theorem rt_mono {E E' : Nat → Nat → Prop} {s y : Nat} (h : Rt E s y) (hE : ∀ a b, Rt E s a → E a b → E' a b) : Rt E' s y := by
  induction h with
  | refl => exact .refl
  | more h0 h1 ih => exact .more ih (hE _ _ h0 h1)
theorem rt_iff {E : Nat → Nat → Prop} {s y : Nat} : Rt E s y ↔ y = s ∨ Rch E s y := by
  constructor
  · intro h
    induction h with
    | refl => exact .inl rfl
    | more _ h1 ih =>
      rcases ih with rfl | h2
      · exact .inr (.one h1)
      · exact .inr (.more h2 h1)
  · rintro (rfl | h)
    · exact .refl
    · induction h with
      | one h1 => exact .more .refl h1
      | more _ h1 ih => exact .more ih h1
/-- A search under way whose start is marked: what is marked, what is open, what is still to be looked at. -/
structure Sr0 (E : Nat → Nat → Prop) (s n : Nat) (met : List Bool) (op : List Nat) (c : Nat) (zs : List Nat) : Prop where
  len : met.length = n
  start : met[s]? = some true
  right : ∀ y, met[y]? = some true → Rt E s y
  opn : ∀ z, z ∈ op → met[z]? = some true
  cur : zs ≠ [] → met[c]? = some true
  edge : ∀ z, z ∈ zs → E c z ∧ z < n
  all : ∀ y, met[y]? = some true → y ∈ op ∨ ∀ z, E y z → met[z]? = some true ∨ (y = c ∧ z ∈ zs)
theorem Sr0.begin {E : Nat → Nat → Prop} {s n : Nat} (h : s < n) : Sr0 E s n ((List.replicate n false).set s true) [s] 0 [] := by
  have hs := set_met (met := List.replicate n false) (z := s) (by simpa using h)
  have hn : ∀ y : Nat, (List.replicate n false)[y]? = some true → False := fun y hy => by simp [List.getElem?_replicate] at hy
  refine ⟨by simp, (hs s).2 (.inl rfl), fun y hy => ?_, fun z hz => ?_, fun h => absurd rfl h, fun z hz => by simp at hz, fun y hy => ?_⟩
  · rcases (hs y).1 hy with rfl | h2
    · exact .refl
    · exact (hn y h2).elim
  · rw [List.mem_singleton] at hz; subst hz; exact (hs _).2 (.inl rfl)
  · rcases (hs y).1 hy with rfl | h2
    · exact .inl (by simp)
    · exact (hn y h2).elim
theorem Sr0.small {E : Nat → Nat → Prop} {s n c : Nat} {met : List Bool} {op zs : List Nat} (h : Sr0 E s n met op c zs) {z : Nat} (hz : z ∈ op) : z < n := by
  have := (List.getElem?_eq_some_iff.1 (h.opn z hz)).1
  rw [h.len] at this
  exact this
theorem Sr0.take {E : Nat → Nat → Prop} {s n c c' : Nat} {met : List Bool} {op op' zs : List Nat} (h : Sr0 E s n met op c' []) (hc : c ∈ op) (h1 : ∀ z, z ∈ op → z = c ∨ z ∈ op') (h2 : ∀ z, z ∈ op' → z ∈ op) (hz : ∀ z, E c z ↔ z ∈ zs) (hn : ∀ z, z ∈ zs → z < n) : Sr0 E s n met op' c zs := by
  refine ⟨h.len, h.start, h.right, fun z hz => h.opn z (h2 z hz), fun _ => h.opn c hc, fun z hz2 => ⟨(hz z).2 hz2, hn z hz2⟩, fun y hy => ?_⟩
  rcases h.all y hy with h3 | h3
  · rcases h1 y h3 with rfl | h4
    · exact .inr fun z hz2 => .inr ⟨rfl, (hz z).1 hz2⟩
    · exact .inl h4
  · refine .inr fun z hz2 => ?_
    rcases h3 z hz2 with h4 | ⟨_, h4⟩
    · exact .inl h4
    · simp at h4
theorem Sr0.skip {E : Nat → Nat → Prop} {s n c z : Nat} {met : List Bool} {op zs zs' : List Nat} (h : Sr0 E s n met op c zs) (hz : met[z]? = some true) (h1 : ∀ y, y ∈ zs → y = z ∨ y ∈ zs') (h2 : ∀ y, y ∈ zs' → y ∈ zs) : Sr0 E s n met op c zs' := by
  refine ⟨h.len, h.start, h.right, h.opn, fun hne => h.cur (fun e => ?_), fun y hy => h.edge y (h2 y hy), fun y hy => ?_⟩
  · obtain ⟨y, hy⟩ := List.exists_mem_of_ne_nil _ hne
    have := h2 y hy
    rw [e] at this
    cases this
  · rcases h.all y hy with h3 | h3
    · exact .inl h3
    · refine .inr fun z2 hz2 => ?_
      rcases h3 z2 hz2 with h4 | ⟨h5, h4⟩
      · exact .inl h4
      · rcases h1 z2 h4 with rfl | h4
        · exact .inl hz
        · exact .inr ⟨h5, h4⟩
theorem Sr0.hit {E : Nat → Nat → Prop} {s n c z : Nat} {met : List Bool} {op op' zs zs' : List Nat} (h : Sr0 E s n met op c zs) (hzm : z ∈ zs) (h1 : ∀ y, y ∈ zs → y = z ∨ y ∈ zs') (h2 : ∀ y, y ∈ zs' → y ∈ zs) (ho : ∀ y, y ∈ op' ↔ y ∈ op ∨ y = z) : Sr0 E s n (met.set z true) op' c zs' := by
  have he := h.edge z hzm
  have hlt : z < met.length := by rw [h.len]; exact he.2
  have hset := set_met hlt
  have hcm := h.cur (List.ne_nil_of_mem hzm)
  have hr : Rt E s z := .more (h.right _ hcm) he.1
  refine ⟨by rw [List.length_set]; exact h.len, (hset s).2 (.inr h.start), fun y hy => ?_, fun y hy => ?_, fun _ => (hset c).2 (.inr hcm), fun y hy => h.edge y (h2 y hy), fun y hy => ?_⟩
  · rcases (hset y).1 hy with rfl | hy
    · exact hr
    · exact h.right y hy
  · rcases (ho y).1 hy with hy | rfl
    · exact (hset y).2 (.inr (h.opn y hy))
    · exact (hset _).2 (.inl rfl)
  · by_cases e : y = z
    · exact .inl ((ho y).2 (.inr e))
    · have hy2 : met[y]? = some true := by
        rcases (hset y).1 hy with h2 | h2
        · exact absurd h2 e
        · exact h2
      rcases h.all y hy2 with h3 | h3
      · exact .inl ((ho y).2 (.inl h3))
      · refine .inr fun z2 hz2 => ?_
        rcases h3 z2 hz2 with h4 | ⟨h5, h4⟩
        · exact .inl ((hset z2).2 (.inr h4))
        · rcases h1 z2 h4 with rfl | h4
          · exact .inl ((hset _).2 (.inl rfl))
          · exact .inr ⟨h5, h4⟩
theorem Sr0.done {E : Nat → Nat → Prop} {s n c : Nat} {met : List Bool} (h : Sr0 E s n met [] c []) (y : Nat) : met[y]? = some true ↔ Rt E s y := by
  constructor
  · exact h.right y
  · intro hr
    induction hr with
    | refl => exact h.start
    | more _ h1 ih =>
      rcases h.all _ ih with h2 | h2
      · simp at h2
      · rcases h2 _ h1 with h3 | ⟨_, h3⟩
        · exact h3
        · simp at h3
/-- Calls, as steps. -/
def callE (x : KTree) (a b : Nat) : Prop := a < x.entry.length ∧ (opsB x a 4)[b]? = some true
theorem markedN_mem : ∀ (k : Nat) (l : List Bool) (y : Nat), y ∈ markedN k l ↔ k ≤ y ∧ l[y - k]? = some true
  | k, [], y => by simp [markedN]
  | k, b :: r, y => by
    have ih := markedN_mem (k + 1) r y
    rw [markedN]
    have key : y ∈ markedN (k + 1) r ↔ k < y ∧ (b :: r)[y - k]? = some true := by
      rw [ih]
      constructor
      · rintro ⟨h1, h2⟩
        refine ⟨by omega, ?_⟩
        have e : y - k = (y - (k + 1)) + 1 := by omega
        rw [e, List.getElem?_cons_succ]
        exact h2
      · rintro ⟨h1, h2⟩
        refine ⟨by omega, ?_⟩
        have e : y - k = (y - (k + 1)) + 1 := by omega
        rw [e, List.getElem?_cons_succ] at h2
        exact h2
    cases b with
    | true =>
      rw [if_pos rfl, List.mem_cons, key]
      constructor
      · rintro (rfl | ⟨h1, h2⟩)
        · exact ⟨Nat.le_refl _, by simp⟩
        · exact ⟨by omega, h2⟩
      · rintro ⟨h1, h2⟩
        by_cases e : y = k
        · exact .inl e
        · exact .inr ⟨by omega, h2⟩
    | false =>
      rw [if_neg (by decide), key]
      constructor
      · exact fun ⟨h1, h2⟩ => ⟨by omega, h2⟩
      · rintro ⟨h1, h2⟩
        refine ⟨?_, h2⟩
        rcases Nat.lt_or_ge k y with h3 | h3
        · exact h3
        · obtain rfl : y = k := by omega
          simp at h2
theorem markedN_mem0 (l : List Bool) (y : Nat) : y ∈ markedN 0 l ↔ l[y]? = some true := by
  rw [markedN_mem]
  simp
theorem callE_mem {x : KTree} {a : Nat} (ha : a < x.entry.length) (b : Nat) : callE x a b ↔ b ∈ markedN 0 (opsB x a 4) := by
  rw [markedN_mem0]
  exact ⟨fun h => h.2, fun h => ⟨ha, h⟩⟩
theorem callE_lt {x : KTree} {a : Nat} : ∀ b, b ∈ markedN 0 (opsB x a 4) → b < x.entry.length := fun b hb => by
  rw [markedN_mem0, opsB_at] at hb
  exact hb.1
open Classical in
noncomputable def fromB (x : KTree) (p : Nat) : List Bool := (List.range x.entry.length).map fun q => decide (Rt (callE x) p q)
theorem fromB_length (x : KTree) (p : Nat) : (fromB x p).length = x.entry.length := by unfold fromB; simp
theorem fromB_at (x : KTree) (p q : Nat) : (fromB x p)[q]? = some true ↔ q < x.entry.length ∧ Rt (callE x) p q := by
  classical
  unfold fromB
  exact bmap_at _ _ q
theorem Sr0.from {x : KTree} {p c : Nat} {met : List Bool} (h : Sr0 (callE x) p x.entry.length met [] c []) : met = fromB x p := by
  refine bools_ext (by rw [h.len, fromB_length]) fun y => ?_
  rw [fromB_at]
  constructor
  · intro h1
    have := (List.getElem?_eq_some_iff.1 h1).1
    rw [h.len] at this
    exact ⟨this, (h.done y).1 h1⟩
  · exact fun h1 => (h.done y).2 h1.2
noncomputable def fromAns (x : KTree) (a : Int) : List Nat := if prB x a = true then markedN 0 (fromB x a.toNat) else []
theorem fromAns_small (x : KTree) (a : Int) : SmallN (fromAns x a) := by
  unfold fromAns
  split
  · rename_i h
    have hk := (prB_iff.1 h).1
    have h1 := okK_len hk
    have h2 := okK_nprocs hk
    have h3 := fromB_length x a.toNat
    exact ⟨by have := markedN_le 0 (fromB x a.toNat); omega, fun y hy => by have := markedN_lt _ _ y hy; omega⟩
  · exact smallN_nil
/-- What comes next, where a call is gone on from only if what it calls is known. -/
def retE (x : KTree) (known : Nat → Prop) (i j : Nat) : Prop := nxE x i j ∧ ∀ h : i < x.ins.length, x.ins[i].op = 4 → known x.ins[i].arg.toNat
/-- One comes to the end. -/
def Cm (x : KTree) (known : Nat → Prop) (p : Nat) : Prop := Rt (retE x known) (entN x p) (endN x p)
theorem Cm.mono {x : KTree} {known known' : Nat → Prop} {p : Nat} (h : Cm x known p) (hk : ∀ q, known q → known' q) : Cm x known' p :=
  rt_mono h fun _ _ _ h2 => ⟨h2.1, fun h3 h4 => hk _ (h2.2 h3 h4)⟩
/-- It returns: so each answer that agrees with the rule says. -/
def Ret (x : KTree) (p : Nat) : Prop := ∀ known : Nat → Prop, (∀ q, q < x.entry.length → Cm x known q → known q) → known p
theorem ret_closed {x : KTree} {p : Nat} (hp : p < x.entry.length) (h : Cm x (Ret x) p) : Ret x p := fun known hcl => hcl p hp (h.mono fun _ hq => hq known hcl)
/-- What is marked. -/
def Mk (met : List Bool) (q : Nat) : Prop := met[q]? = some true
theorem ret_step {x : KTree} {met : List Bool} {p : Nat} (hp : p < x.entry.length) (hr : ∀ q, Mk met q → Ret x q) (h : Cm x (Mk met) p) : Ret x p := ret_closed hp (h.mono hr)
theorem ret_all {x : KTree} {met : List Bool} (hr : ∀ q, Mk met q → Ret x q) (hc : ∀ q, q < x.entry.length → Cm x (Mk met) q → Mk met q) (q : Nat) : Mk met q ↔ Ret x q := ⟨hr q, fun h => h _ hc⟩
/-- Who does not call what is marked anew comes no farther than before. -/
theorem cm_less {x : KTree} (hk : okK x = true) {met : List Bool} {p q : Nat} (hp : p < met.length) (hq : q < x.entry.length) (hn : ¬ ∃ i, CallAt x q 4 i p) (h : Cm x (Mk (met.set p true)) q) : Cm x (Mk met) q := by
  refine rt_mono h fun a b ha hab => ⟨hab.1, fun h3 h4 => ?_⟩
  rcases (set_met hp _).1 (hab.2 h3 h4) with h5 | h5
  · exfalso
    refine hn ⟨a, ?_, h3, h4, ?_⟩
    · rw [liveB_at hk hq]
      refine ⟨h3, rt_iff.1 ?_⟩
      exact rt_mono ha fun _ _ _ h => h.1
    · obtain ⟨r, hr, _⟩ := arg_nat hk h3 (.inl h4)
      rw [hr] at h5 ⊢
      omega
  · exact h5
open Classical in
noncomputable def retAns (x : KTree) (a : Int) : Bool := prB x a && decide (Ret x a.toNat)
open Classical in
/-- The places that come next, where only what is marked is gone on from. -/
noncomputable def nxtK (x : KTree) (met : List Bool) (i : Nat) : List Nat := if h : i < x.ins.length then (if x.ins[i].op = 4 ∧ ¬ Mk met x.ins[i].arg.toNat then [] else nextN i x.ins[i]) else []
theorem nxtK_iff (x : KTree) (met : List Bool) (i j : Nat) : retE x (Mk met) i j ↔ i < x.ins.length ∧ j ∈ nxtK x met i := by
  unfold retE nxtK nxE
  by_cases h : i < x.ins.length
  · rw [dif_pos h]
    by_cases h2 : x.ins[i].op = 4 ∧ ¬ Mk met x.ins[i].arg.toNat
    · rw [if_pos h2]
      constructor
      · rintro ⟨_, h3⟩
        exact absurd (h3 h h2.1) h2.2
      · rintro ⟨_, h3⟩
        cases h3
    · rw [if_neg h2]
      constructor
      · rintro ⟨⟨_, h3⟩, _⟩
        exact ⟨h, h3⟩
      · rintro ⟨_, h3⟩
        exact ⟨⟨h, h3⟩, fun _ h5 => Classical.byContradiction fun h6 => h2 ⟨h5, h6⟩⟩
  · rw [dif_neg h]
    constructor
    · rintro ⟨⟨h3, _⟩, _⟩
      exact absurd h3 h
    · rintro ⟨h3, _⟩
      exact absurd h3 h
end Go.Proofs.YtofmccihehalcaaGreat.Trm
/- The model's l10From and CallsFrom: what one comes to by calls, walked. Conditions: the code lies in memory; at most 2 to the 20 names and terms. -/
namespace Go.Proofs.YtofmccihehalcaaGreat.Trm
open Go.RowKit Go.Proofs.YtofmccihehalcaaGreat.Own
set_option maxRecDepth 20000 in
set_option maxHeartbeats 6400000 in
theorem specFrom_any (x : KTree) (s : Nat) (v : Value) (w : World) (hl : KIn w x v) (hk : okK x = true) (hs : s < x.entry.length) :
    Calls Tryz.prog 68 #[v, .int .i64 (s : Int)] w (ListB (fromB x s) w) := by
  have CN := Lib.hid (fun wx y (h : y < x.entry.length) (hb : Below w.heap.size w wx) => specL10Ops_any x y 4 v wx (hl.keep (keeps_below hb)) hk h (by decide))
  obtain ⟨i0, hi, hz0, hz1, hz2⟩ := info_parts infoIntL
  obtain ⟨j0, hj, jz0, jz1, jz2⟩ := info_parts infoBoolL
  obtain ⟨ga, gc, la, lc, pa, pc, ea, ec, ia, ic, rfl, h1, h2, h3, h4, h5, _⟩ := hl
  obtain ⟨n, hn⟩ : ∃ n, n = x.procs.length := ⟨_, rfl⟩
  have hpe := okK_procs hk
  have hn15 : n ≤ 1500 := by have := okK_len hk; have := okK_nprocs hk; omega
  rw [← hn] at hpe CN ⊢
  rw [hpe] at hs
  have HN : Hid (n = x.entry.length) := hpe.symm
  have HK := Lib.hid hk
  have X0 := Lib.hid (Box5.new w (.slice ga x.globals.length gc) (.slice la x.locks.length lc) (.slice pa n pc) (.slice ea x.entry.length ec) (.slice ia x.ins.length ic) 28)
  have B0 := Lib.hid ((Below.refl w.heap.size w).alloc (Nat.le_refl _) (.cells #[.slice ga x.globals.length gc, .slice la x.locks.length lc, .slice pa n pc, .slice ea x.entry.length ec, .slice ia x.ins.length ic] 28))
  have HRL := Lib.hid (fromB_length x s)
  clear h1 h2 h3 h4 h5 hk hn hpe
  obtain ⟨p0, p1, p2, p3, p4⟩ := X0.out
  go_enter Tryz.func68, Tryz.ntmps68
  go_wp2_with (at_make; refine wpList_make_full _ rfl (.tmp 12) (.tmp 12) 55 rfl (w.heap.size + 1) 4 j0 _ 1 Tryz.underlying55 hj jz0 jz1 .i64 .i64 _ _ n rfl rfl rfl rfl (by rw [jz2]; omega) (by unfold maxLen; omega) (by simp) ?_)
  intro w1 hown hg
  rw [boolV_made] at hown
  have B1 := Lib.hid (B0.out.grown hg B0.out.size (fun b hb => by cases hb))
  have X1 := Lib.hid (X0.out.keep (keeps_below (below_none hg)))
  have hs1 : w.heap.size + 2 ≤ w1.heap.size := by have := (hown.lt (w.heap.size + 1) rfl).2; omega
  have f0 := hown.frozenAt s
  have e0 := boolV_cell hown s (by simpa using hs)
  obtain ⟨m0, g0⟩ := boolV_set hown s true
  have hs1b := hs1
  obtain ⟨W5, hW5⟩ : ∃ W, W = w1.setCell ⟨w.heap.size + 1, s, none⟩ (.bool true) := ⟨_, rfl⟩
  rw [← hW5] at m0 g0
  have hs5 : w.heap.size + 2 ≤ W5.heap.size := by have := g0.size; omega
  have hs15 : W5.heap.size = w1.heap.size := by rw [hW5]; simp
  have B1b := Lib.hid (B1.out.grown g0 B1.out.size (fun k hk => by cases hk; omega))
  have X1b := Lib.hid (box5_other X1.out g0 (fun e => by injection e with e; omega))
  have M1 := Lib.hid m0
  have HW5 := Lib.hid hW5
  have hsn : (s : Int) < (n : Int) := by omega
  clear hown hg p0 p1 p2 p3 p4 m0 g0 hW5
  go_wp2
  rw [← HW5.out]
  have B2 := Lib.hid (B1b.out.alloc B1b.out.size (.cells #[.int .i64 (s : Int)] 3))
  have X2 := Lib.hid (X1b.out.keep (keeps_alloc _ (.cells #[.int .i64 (s : Int)] 3)))
  have M2 := Lib.hid (M1.out.alloc (.cells #[.int .i64 (s : Int)] 3))
  have L2 : Hid ((W5.alloc (.cells #[.int .i64 (s : Int)] 3)).ownsRow (w.heap.size + 2) 3 1 (.slice (some ⟨w1.heap.size, 0, none⟩) 1 1) 1 (intV [(s : Int)])) := by
    have h := (litI1 W5 (s : Int)).mono hs5
    rw [hs15] at h
    exact h
  go_loopw [6, 7] (fun lv hv wr => ∃ (h : Nat) (ls : List Nat) (met : List Bool) (c : Nat), h ≤ ls.length ∧ hv = .int .i64 h ∧ Hid (Sr0 (callE x) s n met (ls.drop h) c []) ∧ Hid (ls.length + unm met = n) ∧ Hid (wr.ownsRow (w.heap.size + 1) 4 1 (.slice (some ⟨w.heap.size + 1, 0, none⟩) n n) n (boolV met)) ∧ Hid (wr.ownsRow (w.heap.size + 2) 3 1 lv ls.length (intV (upI ls))) ∧ Hid (Box5 wr w.heap.size (.slice ga x.globals.length gc) (.slice la x.locks.length lc) (.slice pa n pc) (.slice ea x.entry.length ec) (.slice ia x.ins.length ic)) ∧ Hid (Below w.heap.size w wr))
    (fun _ hv _ => n + 1 - (intOf hv).toNat)
  case atStart =>
    refine ⟨0, [s], (List.replicate n false).set s true, 0, by simp, rfl, Sr0.begin hs, ?_, M2.out, L2.out, X2.out, B2.out⟩
    show 1 + unm ((List.replicate n false).set s true) = n
    have key : ∀ m, unm (List.replicate m false) = m := fun m => by
      induction m with
      | zero => rfl
      | succ m ih => rw [List.replicate_succ, unm, ih]; simp; omega
    have h2 := unm_set (l := List.replicate n false) (z := s) (by simpa using hs) (by simp [hs])
    rw [key] at h2
    omega
  case round =>
    obtain ⟨h, ls, met, c, hh, rfl, hsr, hum, hmr, hlr, hbx, hbe⟩ := hrel
    obtain ⟨p0, p1, p2, p3, p4⟩ := hbx.out
    obtain ⟨oa, oc, rfl, hoa⟩ := row_shape hlr.out
    have hll : ls.length ≤ n := by have := hum.out; omega
    obtain ⟨wo, hwo⟩ : ∃ w0, w0 = wr := ⟨_, rfl⟩
    subst hwo
    by_cases hlt : h < ls.length
    · obtain ⟨lg, rfl⟩ := hoa (by omega)
      have q0 := natCell hlr.out h hlt
      have hop : ls.drop h = ls[h] :: ls.drop (h + 1) := List.drop_eq_getElem_cons hlt
      have hsm : ls[h] < n := hsr.out.small (by rw [hop]; exact List.mem_cons_self)
      have hsx : ls[h] < x.entry.length := by have := HN.out; omega
      have HT : Hid (Sr0 (callE x) s n met (ls.drop (h + 1)) ls[h] (markedN 0 (opsB x ls[h] 4))) := by
        have h0 := hsr.out
        exact h0.take (by rw [hop]; exact List.mem_cons_self) (fun z hz => by rw [hop] at hz; exact List.mem_cons.1 hz) (fun z hz => by rw [hop]; exact List.mem_cons_of_mem _ hz) (fun z => callE_mem hsx z) (fun z hz => by have := callE_lt z hz; have := HN.out; omega)
      have C := Lib.hid (fun wx hb => CN.out wx ls[h] hsx hb)
      have hnl : (markedN 0 (opsB x ls[h] 4)).length ≤ 1500 := by have := markedN_le 0 (opsB x ls[h] 4); have := opsB_length x ls[h] 4; have := HN.out; omega
      have hnlt : ∀ z, z ∈ markedN 0 (opsB x ls[h] 4) → z < x.entry.length := fun z hz => callE_lt z hz
      obtain ⟨y, hy⟩ : ∃ y, y = ls[h] := ⟨_, rfl⟩
      obtain ⟨nx, hnx⟩ : ∃ z, z = markedN 0 (opsB x ls[h] 4) := ⟨_, rfl⟩
      rw [← hnx] at HT C hnl hnlt
      rw [← hy] at HT C q0 hsm
      have HNL := Lib.hid hnlt
      clear hop hsx hy hnx hnlt hsr
      go_wp2
      go_region_with (first
        | (go_at_call 52; refine (C.out _ (by first | exact hbe.out.drew | exact hbe.out)).mono ?_; rintro e w3 ⟨nv, rfl, hr3, hb3⟩; have HR3 := Lib.hid hr3; have HB3 := Lib.hid (below_of_drew hb3); clear hr3 hb3))
      all_goals
        have b3 : Below wo.heap.size wo w3 := HB3.out
        have r3 : w3.ownsRow wo.heap.size 3 1 nv (upI nx).length (intV (upI nx)) := HR3.out
        rw [upI_length] at r3
        have B4 := Lib.hid (hbe.out.trans (b3.mono hbe.out.size))
        have X4 := Lib.hid (hbx.out.keep (keeps_below b3))
        have M4 := Lib.hid (row_below hmr.out b3)
        have L4 := Lib.hid (row_below hlr.out b3)
        have hw2 : w.heap.size + 2 ≤ wo.heap.size := by have := hlr.out.lt lg rfl; omega
        have hlgw : lg < wo.heap.size := (hlr.out.lt lg rfl).2
        obtain ⟨na, nc, rfl, hna⟩ := row_shape r3
        have HNA := Lib.hid hna
        have N4 := Lib.hid r3
        have D4 : Hid (∀ b, (Value.slice na nx.length nc).ownBlock = some b → ¬ (Value.slice (some ⟨lg, 0, none⟩) ls.length oc).ownBlock = some b) := fun b hb h2 => by
          have h3 := (r3.lt b hb).1
          have h4 : lg = b := by simpa [Value.ownBlock] using h2
          omega
        clear r3 b3 hna p0 p1 p2 p3 p4 HR3 HB3 q0
        go_wp2
        go_loopw [6, 9] (fun lv iv wr => ∃ (q : Nat) (ls2 : List Nat) (met2 : List Bool), q ≤ nx.length ∧ iv = .int .i64 q ∧ Hid (Sr0 (callE x) s n met2 (ls2.drop (h + 1)) y (nx.drop q)) ∧ Hid (ls2.length + unm met2 = n) ∧ Hid (h + 1 ≤ ls2.length) ∧ Hid (wr.ownsRow (w.heap.size + 1) 4 1 (.slice (some ⟨w.heap.size + 1, 0, none⟩) n n) n (boolV met2)) ∧ Hid (wr.ownsRow (w.heap.size + 2) 3 1 lv ls2.length (intV (upI ls2))) ∧ Hid (wr.ownsRow wo.heap.size 3 1 (.slice na nx.length nc) nx.length (intV (upI nx))) ∧ Hid (∀ b, (Value.slice na nx.length nc).ownBlock = some b → ¬ lv.ownBlock = some b) ∧ Hid (Box5 wr w.heap.size (.slice ga x.globals.length gc) (.slice la x.locks.length lc) (.slice pa n pc) (.slice ea x.entry.length ec) (.slice ia x.ins.length ic)) ∧ Hid (Below w.heap.size w wr))
          (fun _ iv _ => nx.length - (intOf iv).toNat)
        case atStart => exact ⟨0, ls, met, Nat.zero_le _, rfl, HT.out, hum.out, by show _ ≤ _; omega, M4.out, L4.out, N4.out, D4.out, X4.out, B4.out⟩
        case round =>
          obtain ⟨q, ls2, met2, hq, rfl, hs2, hu2, hh2, hm2, hl2, hn2, hd2, hx2, hb2⟩ := hrel
          obtain ⟨oa2, oc2, rfl, _⟩ := row_shape hl2.out
          by_cases hqt : q < nx.length
          · obtain ⟨ng, rfl⟩ := HNA.out (by omega)
            have c0 := natCell hn2.out q hqt
            have hnx : nx.drop q = nx[q] :: nx.drop (q + 1) := List.drop_eq_getElem_cons hqt
            have hs3 := hs2.out
            rw [hnx] at hs3
            have hz := (hs3.edge _ List.mem_cons_self).2
            obtain ⟨z, hzz⟩ : ∃ z, z = nx[q] := ⟨_, rfl⟩
            rw [← hzz] at c0 hs3 hz
            have hzm : z < met2.length := by rw [hs3.len]; exact hz
            have c1 := boolV_cell hm2.out z hzm
            have hng := (hn2.out.lt ng rfl)
            obtain ⟨bz, hbz⟩ : ∃ b, met2[z] = b := ⟨_, rfl⟩
            rw [hbz] at c1
            have hbz2 : met2[z]? = some bz := by rw [List.getElem?_eq_getElem hzm, hbz]
            have HS3 := Lib.hid hs3
            have HZZ := Lib.hid hzz
            clear hnx hzz hbz hs3 hs2
            cases bz with
            | true =>
              have HS := Lib.hid (HS3.out.skip hbz2 (fun y hy => List.mem_cons.1 hy) (fun y hy => List.mem_cons_of_mem _ hy))
              clear hbz2
              go_wp2
              go_roundw
              case rel => exact ⟨q + 1, ls2, met2, by omega, by go_num, HS.out, hu2.out, hh2.out, hm2.out, hl2.out, hn2.out, hd2.out, hx2.out, hb2.out⟩
              case measure => simp [intOf]; omega
            | false =>
              have HS : Hid (Sr0 (callE x) s n (met2.set z true) ((ls2 ++ [z]).drop (h + 1)) y (nx.drop (q + 1))) := by
                exact HS3.out.hit List.mem_cons_self (fun y hy => List.mem_cons.1 hy) (fun y hy => List.mem_cons_of_mem _ hy) (fun y => by rw [List.drop_append_of_le_length hh2.out, List.mem_append, List.mem_singleton])
              have HU : Hid ((ls2 ++ [z]).length + unm (met2.set z true) = n) := by
                show _ = _
                have h2 := unm_set hzm (by rw [hbz2]; simp)
                have h3 := hu2.out
                rw [List.length_append, List.length_singleton]
                omega
              have hll2 : ls2.length + 1 ≤ 1502 := by have := hu2.out; omega
              have f1 := hm2.out.frozenAt z
              obtain ⟨m5, g5⟩ := boolV_set hm2.out z true
              obtain ⟨W5, hW5⟩ : ∃ W, W = wr.setCell ⟨w.heap.size + 1, z, none⟩ (.bool true) := ⟨_, rfl⟩
              rw [← hW5] at m5 g5
              have M5 := Lib.hid m5
              have hsz5 : wr.heap.size ≤ W5.heap.size := g5.size
              have hszq : w.heap.size + 2 ≤ wr.heap.size := by omega
              have N5 := Lib.hid (row_same hn2.out (w' := W5) (fun b hb => g5.block b (hn2.out.lt b hb).2 (fun e => by cases e; have := (hn2.out.lt _ hb).1; omega)))
              have L5 := Lib.hid (row_same hl2.out (w' := W5) (fun b hb => g5.block b (hl2.out.lt b hb).2 (fun e => by cases e; have := (hl2.out.lt _ hb).1; omega)))
              have X5 := Lib.hid (box5_other hx2.out g5 (fun e => by injection e with e; omega))
              have B5 := Lib.hid (hb2.out.grown g5 hb2.out.size (fun k hk => by cases hk; omega))
              have d0 := natCell N5.out q hqt
              rw [← HZZ.out] at d0
              have HW5 := Lib.hid hW5
              clear m5 g5 hbz2 hW5
              go_upto_region 13 with fail
              rw [← HW5.out]
              go_wp2_with (at_builtin; refine wpList_append_lies _ rfl (.tmp 51) (.tmp 56) 25 rfl (w.heap.size + 2) 3 i0 (.int .i64 0) 1 8 Tryz.underlying25 hi hz0 hz1 hz2 rfl (by decide) (.slice oa2 ls2.length oc2) ls2.length _ rfl (L5.out.alloc _) ⟨W5.heap.size, 0, none⟩ 1 1 [.int .i64 (z : Int)] rfl rfl (World.news_of_block (heap_alloc_new _ _)) (one_intV [(z : Int)]) (by decide) (by unfold maxLen; omega) (by omega) (by simp; omega) _ rfl ?_)
              intro g1 cap1 w6 hown1 hg1 hat1 hlt1
              have hnb : ∀ k, (Value.slice oa2 ls2.length oc2).ownBlock = some k → w.heap.size + 2 ≤ k := fun k hk => (L5.out.lt k hk).1
              have B6 : Hid (Below w.heap.size w w6) := (B5.out.alloc B5.out.size _).grown hg1 (by simp; omega) (fun k hk => by have := hnb k hk; omega)
              have X6 := Lib.hid (box5_other (X5.out.keep (keeps_alloc _ (.cells #[.int .i64 (z : Int)] 3))) hg1 (fun e => by have := hnb _ e; omega))
              have M6 := Lib.hid (row_same (M5.out.alloc (.cells #[.int .i64 (z : Int)] 3)) (w' := w6) (fun b hb => hg1.block b ((M5.out.alloc (.cells #[.int .i64 (z : Int)] 3)).lt b hb).2 (fun e => by
                have h1 : w.heap.size + 1 = b := by simpa [Value.ownBlock] using hb
                have := hnb _ e.symm
                omega)))
              have N6 := Lib.hid (row_same (N5.out.alloc (.cells #[.int .i64 (z : Int)] 3)) (w' := w6) (fun b hb => hg1.block b ((N5.out.alloc (.cells #[.int .i64 (z : Int)] 3)).lt b hb).2 (fun e => hd2.out b hb e.symm)))
              have L6 : Hid (w6.ownsRow (w.heap.size + 2) 3 1 (.slice (some ⟨g1, 0, none⟩) (ls2.length + 1) cap1) (ls2 ++ [z]).length (intV (upI (ls2 ++ [z])))) := by
                show World.ownsRow _ _ _ _ _ _ _
                have := hown1
                simpa [intV, upI] using this
              have D6 : Hid (∀ b, (Value.slice (some ⟨ng, 0, none⟩) nx.length nc).ownBlock = some b → ¬ (Value.slice (some ⟨g1, 0, none⟩) (ls2.length + 1) cap1).ownBlock = some b) := fun b hb h2 => by
                have h3 : g1 = b := by simpa [Value.ownBlock] using h2
                subst h3
                rcases hat1 with h4 | h4
                · exact hd2.out g1 hb h4
                · have h5 := (N5.out.lt g1 hb).2
                  omega
              have HH6 : Hid (h + 1 ≤ (ls2 ++ [z]).length) := by show _ ≤ _; have := hh2.out; rw [List.length_append]; omega
              clear hown1 hg1 hat1 hlt1 hnb
              go_wp2
              go_roundw
              case rel => exact ⟨q + 1, ls2 ++ [z], met2.set z true, by omega, by go_num, HS.out, HU.out, HH6.out, M6.out, L6.out, N6.out, D6.out, X6.out, B6.out⟩
              case measure => simp [intOf]; omega
          · have HS : Hid (Sr0 (callE x) s n met2 (ls2.drop (h + 1)) y []) := by
              have h2 := hs2.out
              have hdq : nx.drop q = [] := List.drop_of_length_le (by omega)
              rw [hdq] at h2
              exact h2
            go_wp2
            go_roundw
            case rel => exact ⟨h + 1, ls2, met2, y, hh2.out, by go_num, HS.out, hu2.out, hm2.out, hl2.out, hx2.out, hb2.out⟩
            case measure => simp [intOf]; omega
    · have hd : ls.drop h = [] := List.drop_of_length_le (by omega)
      have h1 := hsr.out
      rw [hd] at h1
      have HM : Hid (met = fromB x s) := by
        rw [HN.out] at h1
        exact h1.from
      have hml := boolV_len hmr.out
      go_wp2
      go_ret
      exact ⟨_, rfl, by rw [← HM.out, hml]; exact hmr.out.mono (by omega), hbe.out⟩
set_option maxRecDepth 20000 in
set_option maxHeartbeats 1600000 in
theorem specCallsFrom_any (x : KTree) (a : Int) (v : Value) (w : World) (hl : KIn w x v) (hz : szK x ≤ 1048576) :
    Calls Tryz.prog 32 #[v, .int .i64 a] w (ListI (upI (fromAns x a)) w) := by
  have CA := Lib.hid (fun wx (hb : Below w.heap.size w wx) => specL10Ok_any x a v wx (hl.keep (keeps_below hb)) hz)
  have CR := Lib.hid (fun wx (hb : Below w.heap.size w wx) p (hk : okK x = true) (hp : p < x.entry.length) => specFrom_any x p v wx (hl.keep (keeps_below hb)) hk hp)
  obtain ⟨ga, gc, la, lc, pa, pc, ea, ec, ia, ic, rfl, _⟩ := hl
  have X0 := Lib.hid (Box5.new w (.slice ga x.globals.length gc) (.slice la x.locks.length lc) (.slice pa x.procs.length pc) (.slice ea x.entry.length ec) (.slice ia x.ins.length ic) 28)
  have B0 := Lib.hid ((Below.refl w.heap.size w).alloc (Nat.le_refl _) (.cells #[.slice ga x.globals.length gc, .slice la x.locks.length lc, .slice pa x.procs.length pc, .slice ea x.entry.length ec, .slice ia x.ins.length ic] 28))
  obtain ⟨rs, hrs⟩ : ∃ rs, rs = upI (fromAns x a) := ⟨_, rfl⟩
  have HRS := Lib.hid hrs
  rw [← hrs]
  obtain ⟨kb, hkb⟩ : ∃ b, prB x a = b := ⟨_, rfl⟩
  have HKB := Lib.hid hkb
  rw [hkb] at CA
  clear hz hrs hkb
  obtain ⟨W1, hW1⟩ : ∃ W, W = w.alloc (.cells #[.slice ga x.globals.length gc, .slice la x.locks.length lc, .slice pa x.procs.length pc, .slice ea x.entry.length ec, .slice ia x.ins.length ic] 28) := ⟨_, rfl⟩
  obtain ⟨p0, p1, p2, p3, p4⟩ := X0.out
  rw [← hW1] at X0 B0
  have HW1 := Lib.hid hW1
  clear hW1
  go_enter Tryz.func32, Tryz.ntmps32
  go_wp2_with fail
  rw [← HW1.out] at p0 p1 p2 p3 p4 ⊢
  refine (CA.out _ B0.out).mono ?_
  rintro e w2 ⟨rfl, hb⟩
  have B2 := Lib.hid (B0.out.trans (hb.mono B0.out.size))
  have X2 := Lib.hid (X0.out.keep (keeps_below hb))
  clear hb p0 p1 p2 p3 p4
  obtain ⟨p0, p1, p2, p3, p4⟩ := X2.out
  cases kb with
  | false =>
    have HF : Hid (rs = []) := by show _ = _; rw [HRS.out]; unfold fromAns; rw [if_neg (fun h => by rw [HKB.out] at h; cases h)]; rfl
    go_wp2_with fail
    go_ret
    exact listI0 HF.out B2.out _ rfl
  | true =>
    obtain ⟨hk, ha0, ha1⟩ := prB_iff.1 HKB.out
    obtain ⟨p, rfl⟩ : ∃ p : Nat, a = (p : Int) := ⟨a.toNat, by omega⟩
    have HF : Hid (rs = upI (markedN 0 (fromB x p))) := by
      show _ = _
      rw [HRS.out]
      unfold fromAns
      rw [if_pos HKB.out]
      rfl
    have C := Lib.hid (CR.out _ B2.out p hk (by omega))
    have hbl : (fromB x p).length ≤ 1500 := by have := fromB_length x p; have := okK_len hk; have := okK_nprocs hk; omega
    obtain ⟨bs, hbs⟩ : ∃ z, z = fromB x p := ⟨_, rfl⟩
    rw [← hbs] at C HF hbl
    clear hk ha0 ha1 hbs
    go_wp2_with fail
    refine C.out.mono ?_
    rintro e w3 ⟨bv, rfl, hr3, hb3⟩
    have R3 := Lib.hid hr3
    have B3 := Lib.hid (B2.out.trans (hb3.mono B2.out.size))
    clear hr3 hb3 p0 p1 p2 p3 p4
    go_wp2_with fail
    refine (specMarked_any bs bv _ w3 hbl R3.out).mono ?_
    rintro e w4 ⟨ov, rfl, hr, hb⟩
    have HRo := Lib.hid (World.ownsRow.mono hr B3.out.size)
    have B4 := Lib.hid (B3.out.trans (hb.mono B3.out.size))
    clear hr hb
    go_wp2_with fail
    go_ret
    exact ⟨_, rfl, by rw [HF.out]; exact HRo.out, B4.out⟩
end Go.Proofs.YtofmccihehalcaaGreat.Trm
/- Contracts of the standard library at this translation, in plain words, as the guide's own program wrote them. Conditions: each says its own. -/
namespace Go.Proofs
open Go.Shelf
def Tryz.layKeys_ren : Go.Shelf.Ren := ⟨fun | 7 => 126 | 10 => 159 | n => n, fun | 23 => 88 | 26 => 3 | 3 => 4 | 28 => 69 | 0 => 0 | 27 => 68 | 33 => 91 | 4 => 4 | n => n, fun | n => n⟩
theorem Tryz.layKeys : Go.Proofs.SlLaysZI.n7 Tryz.prog Tryz.layKeys_ren := {
  mixed := by kernel_rfl
  f7 := ⟨Tryz.f126.name, by decide, Tryz.func126.trans (congrArg some (by kernel_rfl))⟩
  f10 := ⟨Tryz.f159.name, by decide, Tryz.func159.trans (congrArg some (by kernel_rfl))⟩
  t0 := Tryz.underlying0
  a0 := Tryz.isAgg0
  z0 := Tryz.sizeOf0
  v0 := Tryz.zeroValue0
  t4 := Tryz.underlying4
  a4 := Tryz.isAgg4
  z4 := Tryz.sizeOf4
  v4 := Tryz.zeroValue4
  t23 := Tryz.underlying88
  a23 := Tryz.isAgg88
  z23 := Tryz.sizeOf88
  v23 := Tryz.zeroValue88
  t26 := Tryz.underlying3
  a26 := Tryz.isAgg3
  z26 := Tryz.sizeOf3
  v26 := Tryz.zeroValue3
  t27 := Tryz.underlying68
  a27 := Tryz.isAgg68
  z27 := Tryz.sizeOf68
  v27 := Tryz.zeroValue68
  t28 := Tryz.underlying69
  a28 := Tryz.isAgg69
  z28 := Tryz.sizeOf69
  v28 := Tryz.zeroValue69
  t33 := Tryz.underlying91
  a33 := Tryz.isAgg91
  z33 := Tryz.sizeOf91
  v33 := Tryz.zeroValue91 }
def Tryz.layKeysIt_ren : Go.Shelf.Ren := ⟨fun | 10 => 159 | n => n, fun | 33 => 91 | 23 => 88 | 0 => 0 | 4 => 4 | 26 => 3 | 3 => 4 | n => n, fun | n => n⟩
theorem Tryz.layKeysIt : Go.Proofs.SlLaysZI.n10 Tryz.prog Tryz.layKeysIt_ren := {
  mixed := by kernel_rfl
  f10 := ⟨Tryz.f159.name, by decide, Tryz.func159.trans (congrArg some (by kernel_rfl))⟩
  t0 := Tryz.underlying0
  a0 := Tryz.isAgg0
  z0 := Tryz.sizeOf0
  v0 := Tryz.zeroValue0
  t4 := Tryz.underlying4
  a4 := Tryz.isAgg4
  z4 := Tryz.sizeOf4
  v4 := Tryz.zeroValue4
  t23 := Tryz.underlying88
  a23 := Tryz.isAgg88
  z23 := Tryz.sizeOf88
  v23 := Tryz.zeroValue88
  t26 := Tryz.underlying3
  a26 := Tryz.isAgg3
  z26 := Tryz.sizeOf3
  v26 := Tryz.zeroValue3
  t33 := Tryz.underlying91
  a33 := Tryz.isAgg91
  z33 := Tryz.sizeOf91
  v33 := Tryz.zeroValue91 }
def Tryz.layCollect_ren : Go.Shelf.Ren := ⟨fun | 8 => 71 | 11 => 99 | n => n, fun | 26 => 3 | 28 => 69 | 24 => 25 | 0 => 0 | 33 => 91 | 4 => 4 | n => n, fun | n => n⟩
theorem Tryz.layCollect : Go.Proofs.SlLaysZI.n8 Tryz.prog Tryz.layCollect_ren := {
  mixed := by kernel_rfl
  f8 := ⟨Tryz.f71.name, by decide, Tryz.func71.trans (congrArg some (by kernel_rfl))⟩
  f11 := ⟨Tryz.f99.name, by decide, Tryz.func99.trans (congrArg some (by kernel_rfl))⟩
  t0 := Tryz.underlying0
  a0 := Tryz.isAgg0
  z0 := Tryz.sizeOf0
  v0 := Tryz.zeroValue0
  t24 := Tryz.underlying25
  a24 := Tryz.isAgg25
  z24 := Tryz.sizeOf25
  v24 := Tryz.zeroValue25
  t26 := Tryz.underlying3
  a26 := Tryz.isAgg3
  z26 := Tryz.sizeOf3
  v26 := Tryz.zeroValue3
  t28 := Tryz.underlying69
  a28 := Tryz.isAgg69
  z28 := Tryz.sizeOf69
  v28 := Tryz.zeroValue69
  i26 := by kernel_rfl }
end Go.Proofs
/- Contracts of the standard library at this translation, in plain words, as the guide's own program wrote them. Conditions: each says its own. -/
namespace Go.Proofs
open Go.Shelf
def Tryz.lays107_ren : Go.Shelf.Ren := ⟨fun | 107 => 88 | 108 => 127 | n => n, fun | 28 => 25 | 3 => 3 | 4 => 4 | 0 => 0 | n => n, fun | n => n⟩
theorem Tryz.lays107 : Go.Proofs.Lays.n107 Tryz.prog Tryz.lays107_ren := {
  mixed := by kernel_rfl
  f107 := Tryz.func88.trans (congrArg some (by kernel_rfl))
  f108 := Tryz.func127.trans (congrArg some (by kernel_rfl))
  t0 := Tryz.underlying0
  a0 := Tryz.isAgg0
  z0 := Tryz.sizeOf0
  v0 := Tryz.zeroValue0
  t3 := Tryz.underlying3
  a3 := Tryz.isAgg3
  z3 := Tryz.sizeOf3
  v3 := Tryz.zeroValue3
  t4 := Tryz.underlying4
  a4 := Tryz.isAgg4
  z4 := Tryz.sizeOf4
  v4 := Tryz.zeroValue4
  t28 := Tryz.underlying25
  a28 := Tryz.isAgg25
  z28 := Tryz.sizeOf25
  v28 := Tryz.zeroValue25 }
open Go.Lib in
theorem Tryz.slices_Contains_int (b off n c : Nat) (zs : List Int) (x : Int) (w : World) (hz : n ≤ zs.length) (hbig : n ≤ 9223372036854775807) (hc : ∀ j, j < zs.length → w.cell? ⟨b, off + j, none⟩ = some (.int .i64 (zs.getD j 0))) :
    Calls Tryz.prog 88 #[.slice (some ⟨b, off, none⟩) n c, .int .i64 x] w fun e w' => e = .returned (.bool ((zs.take n).contains x)) ∧ w' = w := Any.slices_Contains_int Tryz.lays107 b off n c zs x w hz hbig hc
open Go.Lib in
theorem Tryz.slices_Contains_int_empty (a : Option Addr) (c : Nat) (x : Int) (w : World) :
    Calls Tryz.prog 88 #[.slice a 0 c, .int .i64 x] w fun e w' => e = .returned (.bool false) ∧ w' = w := Any.slices_Contains_int_empty Tryz.lays107 a c x w
def Tryz.lays114_ren : Go.Shelf.Ren := ⟨fun | 114 => 125 | n => n, fun | 28 => 25 | 3 => 3 | 4 => 4 | 9 => 9 | 20 => 20 | 0 => 0 | n => n, fun | n => n⟩
theorem Tryz.lays114 : Go.Proofs.Lays.n114 Tryz.prog Tryz.lays114_ren := {
  mixed := by kernel_rfl
  f114 := Tryz.func125.trans (congrArg some (by kernel_rfl))
  t0 := Tryz.underlying0
  a0 := Tryz.isAgg0
  z0 := Tryz.sizeOf0
  v0 := Tryz.zeroValue0
  t3 := Tryz.underlying3
  a3 := Tryz.isAgg3
  z3 := Tryz.sizeOf3
  v3 := Tryz.zeroValue3
  t4 := Tryz.underlying4
  a4 := Tryz.isAgg4
  z4 := Tryz.sizeOf4
  v4 := Tryz.zeroValue4
  t9 := Tryz.underlying9
  a9 := Tryz.isAgg9
  z9 := Tryz.sizeOf9
  v9 := Tryz.zeroValue9
  t20 := Tryz.underlying20
  a20 := Tryz.isAgg20
  z20 := Tryz.sizeOf20
  v20 := Tryz.zeroValue20
  t28 := Tryz.underlying25
  a28 := Tryz.isAgg25
  z28 := Tryz.sizeOf25
  v28 := Tryz.zeroValue25 }
open Go.Lib in
theorem Tryz.slices_Min_int (b off n c : Nat) (zs : List Int) (w : World) (hn : 0 < n) (hz : n ≤ zs.length) (hbig : n ≤ 9223372036854775807) (hc : ∀ j, j < zs.length → w.cell? ⟨b, off + j, none⟩ = some (.int .i64 (zs.getD j 0))) :
    Calls Tryz.prog 125 #[.slice (some ⟨b, off, none⟩) n c] w fun e w' => e = .returned (.int .i64 (Lib.minOf (zs.take n))) ∧ w' = w := Any.slices_Min_int Tryz.lays114 b off n c zs w hn hz hbig hc
end Go.Proofs
/- Contracts of the standard library at this translation, in plain words, as the guide's own program wrote them. Conditions: each says its own. -/
namespace Go.Proofs
open Go.Shelf
def Tryz.laysSlH10_f89_ren : Go.Shelf.Ren := ⟨fun | 10 => 89 | 6 => 128 | n => n, fun | 22 => 25 | 23 => 3 | 25 => 91 | 3 => 3 | 4 => 4 | 0 => 0 | n => n, fun | n => n⟩
theorem Tryz.laysSlH10_f89 : Go.Proofs.SlLaysH.n10 Tryz.prog Tryz.laysSlH10_f89_ren := {
  mixed := by kernel_rfl
  f6 := ⟨Tryz.f128.name, by decide, Tryz.func128.trans (congrArg some (by kernel_rfl))⟩
  f10 := ⟨Tryz.f89.name, by decide, Tryz.func89.trans (congrArg some (by kernel_rfl))⟩
  t0 := Tryz.underlying0
  a0 := Tryz.isAgg0
  z0 := Tryz.sizeOf0
  v0 := Tryz.zeroValue0
  t3 := Tryz.underlying3
  a3 := Tryz.isAgg3
  z3 := Tryz.sizeOf3
  v3 := Tryz.zeroValue3
  t4 := Tryz.underlying4
  a4 := Tryz.isAgg4
  z4 := Tryz.sizeOf4
  v4 := Tryz.zeroValue4
  t22 := Tryz.underlying25
  a22 := Tryz.isAgg25
  z22 := Tryz.sizeOf25
  v22 := Tryz.zeroValue25
  a23 := Tryz.isAgg3
  z23 := Tryz.sizeOf3
  t25 := Tryz.underlying91
  a25 := Tryz.isAgg91
  z25 := Tryz.sizeOf91
  v25 := Tryz.zeroValue91 }
open Go.RowKit Go.Lib Go.Sort in
theorem Tryz.slices_DeleteFunc {α : Type} [Inhabited α] (enc : α → Value) (hO : OneCell enc) (p : α → Bool) (g : Nat) (lb : Array Value) (eg : ∀ args w, (callFunc g args).run Tryz.prog w = .ok (.enter g args) w) (zr : α) (v23 : ∀ w, (zeroValue 3).run Tryz.prog w = .ok (enc zr) w) (blk off cap : Nat) (d : Array α) (w : World) (hp : PredAt Tryz.prog g lb enc p w) (hpo : PredOver Tryz.prog g lb enc p blk off d.size w) (hH : Holds enc w blk off d) (hsz : d.size ≤ 9223372036854775807) (hcap : d.size ≤ cap) :
    Calls Tryz.prog 89 #[.slice (some ⟨blk, off, none⟩) d.size cap, .func (.func g) #[] lb] w fun e w' => e = .returned (.slice (some ⟨blk, off, none⟩) (d.toList.filter fun x => !p x).length cap) ∧ ∃ q, w' = putRow enc (Sort.ahead w q) blk off ((d.toList.filter fun x => !p x) ++ List.replicate (d.size - (d.toList.filter fun x => !p x).length) zr).toArray := AnyE.slices_DeleteFunc Tryz.laysSlH10_f89 enc hO p g lb eg zr v23 blk off cap d w hp hpo hH hsz hcap
end Go.Proofs
/- The program's iterator over what comes next: its contract, and the list that is collected of it, walked. Conditions: the code lies in memory and is right; the place is there. -/
namespace Go.Proofs.YtofmccihehalcaaGreat.Trm
open Go.RowKit Go.Proofs.YtofmccihehalcaaGreat.Own Go.Shelf
attribute [local go_sem] Oper.semAt_some
/-- What a round that goes on keeps: the box of the place, and each block that is one instruction. -/
def KpN (Ab : Nat) (W W' : World) : Prop := W'.heap[Ab]? = W.heap[Ab]? ∧ ∀ (b : Nat) (c : Array Value), W.heap[b]? = some (Obj.cells c 47 (0, 0)) → W'.heap[b]? = some (Obj.cells c 47 (0, 0))
theorem KpN.refl (Ab : Nat) (W : World) : KpN Ab W W := ⟨rfl, fun _ _ h => h⟩
theorem KpN.trans {Ab : Nat} {A B C : World} (h : KpN Ab A B) (k : KpN Ab B C) : KpN Ab A C := ⟨k.1.trans h.1, fun b c hb => k.2 b c (h.2 b c hb)⟩
theorem KpN.alloc {Ab : Nat} {W : World} (hA : Ab < W.heap.size) (o : Obj) : KpN Ab W (W.alloc o) :=
  ⟨Below.heap_alloc W o Ab hA, fun b _ hb => (Below.heap_alloc W o b (Array.getElem?_eq_some_iff.1 hb).1).trans hb⟩
theorem KpN.grown {Ab : Nat} {W W' : World} {row : Option Nat} (hA : Ab < W.heap.size) (hg : W.grownBy W' row) (hr : ∀ r, row = some r → r ≠ Ab ∧ ∀ c : Array Value, W.heap[r]? ≠ some (Obj.cells c 47 (0, 0))) : KpN Ab W W' :=
  ⟨hg.block Ab hA (fun e => (hr Ab e.symm).1 rfl), fun b c hb => (hg.block b (Array.getElem?_eq_some_iff.1 hb).1 (fun e => (hr b e.symm).2 c hb)).trans hb⟩
theorem KpN.put {Ab : Nat} {w : World} (hA : Ab < w.heap.size) (W : World) (l : Nat) (o o' : Obj) (hl : w.heap.size ≤ l) (h : W.heap[l]? = some o) (hc : o.isCells = false) (_ : o.isWalk = false) : KpN Ab W (W.putObj l o') := by
  refine ⟨World.putObj_heap_other (by omega), fun b c hb => ?_⟩
  by_cases e : b = l
  · subst e
    rw [hb] at h
    cases h
    cases hc
  · exact (World.putObj_heap_other e).trans hb
set_option maxRecDepth 100000 in
set_option maxHeartbeats 4000000 in
/-- The iterator, for every body that keeps the box of the place and each instruction that is laid. -/
theorem next1_in (F : Fence) (m : Nat) (hF : F.fn 100) (hro : F.round = none) (hm : 1 ≤ m) (op a u : Int) (t : Tree) (i n : Nat) (gv lv pv ev : Value) (g o ic Kb Ab l : Nat) (ta : Option Addr) (tc : Nat) (J Jx : List Nat → World → Prop) (W : World) (hi : i < n) (hn : n ≤ 1500) (h0u : op = 2 ∨ op = 3 → 0 ≤ u)
    (hA : AbidesFrom W.heap.size J)
    (hY : ∀ pre x W1, J pre W1 → x ∈ nextN i ⟨op, a, t, u⟩ → pre.length < 2 → YieldAt F (m - 1) Tryz.prog l #[.int .i64 ((x : Nat) : Int)] W1 fun e W' => (e = .returned (.bool true) ∧ J (pre ++ [x]) W' ∧ KpN Ab W1 W') ∨ (e = .returned (.bool false) ∧ Jx (pre ++ [x]) W'))
    (hk : Box5 W Kb gv lv pv ev (.slice (some ⟨g, o, none⟩) n ic)) (ha : W.cell? ⟨Ab, 0, none⟩ = some (.int .i64 (i : Int)))
    (c0 : W.cell? ⟨g, o + i * 7, none⟩ = some (.int .i64 op)) (c1 : W.cell? ⟨g, o + i * 7 + 1, none⟩ = some (.int .i64 a)) (c2 : W.cell? ⟨g, o + i * 7 + 2, none⟩ = some (.int .i64 t.kind)) (c3 : W.cell? ⟨g, o + i * 7 + 3, none⟩ = some (.int .i64 t.num)) (c4 : W.cell? ⟨g, o + i * 7 + 4, none⟩ = some (.string t.name)) (c5 : W.cell? ⟨g, o + i * 7 + 5, none⟩ = some (.slice ta t.kids.length tc)) (c6 : W.cell? ⟨g, o + i * 7 + 6, none⟩ = some (.int .i64 u)) (h0 : J [] W) :
    CallsIn F m Tryz.prog 100 #[.func (.yield l) #[] #[], .pointer (some ⟨Kb, 0, none⟩), .pointer (some ⟨Ab, 0, none⟩)] W fun e W' => (∃ v, e = .returned v) ∧
      ((∃ ys, ys = nextN i ⟨op, a, t, u⟩ ∧ J ys W') ∨ (∃ pre, pre <+: nextN i ⟨op, a, t, u⟩ ∧ Jx pre W')) := by
  obtain ⟨p0, p1, p2, p3, p4⟩ := hk
  obtain ⟨W1, hW1⟩ : ∃ W1, W1 = W.alloc (.cells #[.int .i64 op, .int .i64 a, .int .i64 t.kind, .int .i64 t.num, .string t.name, .slice ta t.kids.length tc, .int .i64 u] 47) := ⟨_, rfl⟩
  have hJ1 : J [] W1 := by rw [hW1]; exact hA [] W _ none h0 (World.grownBy_alloc W _ none) (fun r e => by cases e)
  have hX : W1.heap[W.heap.size]? = some (.cells #[.int .i64 op, .int .i64 a, .int .i64 t.kind, .int .i64 t.num, .string t.name, .slice ta t.kids.length tc, .int .i64 u] 47 (0, 0)) := by rw [hW1]; exact heap_alloc_new W _
  have hAb : Ab < W.heap.size := cell_lt ha
  have ha1 : W1.cell? ⟨Ab, 0, none⟩ = some (.int .i64 (i : Int)) := by rw [hW1]; exact keeps_alloc W _ _ _ ha
  have HX := Lib.hid hX
  have HA1 := Lib.hid ha1
  have HW1 := Lib.hid hW1
  have cell7 : ∀ {V : World}, V.heap[W.heap.size]? = some (.cells #[.int .i64 op, .int .i64 a, .int .i64 t.kind, .int .i64 t.num, .string t.name, .slice ta t.kids.length tc, .int .i64 u] 47 (0, 0)) → V.cell? ⟨W.heap.size, 0, none⟩ = some (.int .i64 op) ∧ V.cell? ⟨W.heap.size, 6, none⟩ = some (.int .i64 u) := fun h => by constructor <;> simp [World.cell?, h]
  by_cases h2 : op = 2
  · subst h2
    by_cases hu : u = (i : Int) + 1
    · subst hu
      have ys : nextN i ⟨2, a, t, (i : Int) + 1⟩ = [i + 1] := by unfold nextN; rw [if_pos rfl, if_pos rfl]
      have ei : ((i + 1 : Nat) : Int) = (i : Int) + 1 := by omega
      obtain ⟨f1, t1, a1, b1, hy1, hR1⟩ := hY [] (i + 1) W1 hJ1 (by rw [ys]; simp) (by simp)
      rw [ei, HW1.out] at hy1
      refine callsIn_of_wp Tryz.func100 rfl hF ?_ hro
      simp only [Tryz.ntmps100, List.size_toArray, List.length_cons, List.length_nil, Nat.reduceAdd, Nat.reduceSub, Array.replicate_succ, Array.replicate_zero, List.push_toArray, List.append_toArray, List.nil_append, List.cons_append]
      gi_wp2
      rw [← HW1.out]
      refine hR1.mono ?_
      rintro e W2 (⟨rfl, hJ2, hk2⟩ | ⟨rfl, hx2⟩)
      · obtain ⟨_, d6⟩ := cell7 (hk2.2 _ _ HX.out)
        have da : W2.cell? ⟨Ab, 0, none⟩ = some (.int .i64 (i : Int)) := (World.cell?_of_block hk2.1).trans HA1.out
        gi_wp2
        go_end0
        exact ⟨⟨_, rfl⟩, .inl ⟨[i + 1], ys.symm, hJ2⟩⟩
      · gi_wp2
        go_end0
        exact ⟨⟨_, rfl⟩, .inr ⟨[i + 1], by rw [ys]; exact List.prefix_refl _, hx2⟩⟩
    · have ys : nextN i ⟨2, a, t, u⟩ = [i + 1, u.toNat] := by unfold nextN; rw [if_pos rfl, if_neg hu]
      obtain ⟨z, rfl⟩ : ∃ z : Nat, u = (z : Int) := ⟨u.toNat, by have := h0u (.inl rfl); omega⟩
      have ys2 : nextN i ⟨2, a, t, (z : Int)⟩ = [i + 1, z] := ys
      have ku : ((z : Int) == (i : Int) + 1) = false := by rw [beq_eq_false_iff_ne]; exact hu
      have ei : ((i + 1 : Nat) : Int) = (i : Int) + 1 := by omega
      obtain ⟨f1, t1, a1, b1, hy1, hR1⟩ := hY [] (i + 1) W1 hJ1 (by rw [ys2]; simp) (by simp)
      rw [ei, HW1.out] at hy1
      refine callsIn_of_wp Tryz.func100 rfl hF ?_ hro
      simp only [Tryz.ntmps100, List.size_toArray, List.length_cons, List.length_nil, Nat.reduceAdd, Nat.reduceSub, Array.replicate_succ, Array.replicate_zero, List.push_toArray, List.append_toArray, List.nil_append, List.cons_append]
      gi_wp2
      rw [← HW1.out]
      refine hR1.mono ?_
      rintro e W2 (⟨rfl, hJ2, hk2⟩ | ⟨rfl, hx2⟩)
      · obtain ⟨_, d6⟩ := cell7 (hk2.2 _ _ HX.out)
        have da : W2.cell? ⟨Ab, 0, none⟩ = some (.int .i64 (i : Int)) := (World.cell?_of_block hk2.1).trans HA1.out
        obtain ⟨f2, t2, a2, b2, hy2, hR2⟩ := hY [i + 1] z W2 hJ2 (by rw [ys2]; simp) (by simp)
        gi_wp2
        refine hR2.mono ?_
        rintro e W3 (⟨rfl, hJ3, _⟩ | ⟨rfl, hx3⟩)
        · gi_wp2
          go_end0
          exact ⟨⟨_, rfl⟩, .inl ⟨[i + 1, z], ys2.symm, hJ3⟩⟩
        · gi_wp2
          go_end0
          exact ⟨⟨_, rfl⟩, .inr ⟨[i + 1, z], by rw [ys2]; exact List.prefix_refl _, hx3⟩⟩
      · gi_wp2
        go_end0
        exact ⟨⟨_, rfl⟩, .inr ⟨[i + 1], by rw [ys2]; exact ⟨[z], rfl⟩, hx2⟩⟩
  · by_cases h3 : op = 3
    · subst h3
      have ys : nextN i ⟨3, a, t, u⟩ = [u.toNat] := by unfold nextN; rw [if_neg (by show ¬ ((3 : Int) = 2); decide), if_pos rfl]
      obtain ⟨z, rfl⟩ : ∃ z : Nat, u = (z : Int) := ⟨u.toNat, by have := h0u (.inr rfl); omega⟩
      have ys2 : nextN i ⟨3, a, t, (z : Int)⟩ = [z] := ys
      obtain ⟨f1, t1, a1, b1, hy1, hR1⟩ := hY [] z W1 hJ1 (by rw [ys2]; simp) (by simp)
      rw [HW1.out] at hy1
      refine callsIn_of_wp Tryz.func100 rfl hF ?_ hro
      simp only [Tryz.ntmps100, List.size_toArray, List.length_cons, List.length_nil, Nat.reduceAdd, Nat.reduceSub, Array.replicate_succ, Array.replicate_zero, List.push_toArray, List.append_toArray, List.nil_append, List.cons_append]
      gi_wp2
      rw [← HW1.out]
      refine hR1.mono ?_
      rintro e W2 (⟨rfl, hJ2, _⟩ | ⟨rfl, hx2⟩)
      · gi_wp2
        go_end0
        exact ⟨⟨_, rfl⟩, .inl ⟨[z], ys2.symm, hJ2⟩⟩
      · gi_wp2
        go_end0
        exact ⟨⟨_, rfl⟩, .inr ⟨[z], by rw [ys2]; exact List.prefix_refl _, hx2⟩⟩
    · by_cases h9 : op = 9
      · subst h9
        have ys : nextN i ⟨9, a, t, u⟩ = [] := by unfold nextN; rw [if_neg (by show ¬ ((9 : Int) = 2); decide), if_neg (by show ¬ ((9 : Int) = 3); decide), if_pos rfl]
        refine callsIn_of_wp Tryz.func100 rfl hF ?_ hro
        simp only [Tryz.ntmps100, List.size_toArray, List.length_cons, List.length_nil, Nat.reduceAdd, Nat.reduceSub, Array.replicate_succ, Array.replicate_zero, List.push_toArray, List.append_toArray, List.nil_append, List.cons_append]
        gi_wp2
        go_end0
        exact ⟨⟨_, rfl⟩, .inl ⟨[], ys.symm, by rw [← HW1.out]; exact hJ1⟩⟩
      · have ys : nextN i ⟨op, a, t, u⟩ = [i + 1] := by unfold nextN; rw [if_neg h2, if_neg h3, if_neg h9]
        have k2 : (op == 2) = false := by rw [beq_eq_false_iff_ne]; exact h2
        have k3 : (op == 3) = false := by rw [beq_eq_false_iff_ne]; exact h3
        have k9 : (op == 9) = false := by rw [beq_eq_false_iff_ne]; exact h9
        have ei : ((i + 1 : Nat) : Int) = (i : Int) + 1 := by omega
        obtain ⟨f1, t1, a1, b1, hy1, hR1⟩ := hY [] (i + 1) W1 hJ1 (by rw [ys]; simp) (by simp)
        rw [ei, HW1.out] at hy1
        refine callsIn_of_wp Tryz.func100 rfl hF ?_ hro
        simp only [Tryz.ntmps100, List.size_toArray, List.length_cons, List.length_nil, Nat.reduceAdd, Nat.reduceSub, Array.replicate_succ, Array.replicate_zero, List.push_toArray, List.append_toArray, List.nil_append, List.cons_append]
        gi_wp2
        rw [← HW1.out]
        refine hR1.mono ?_
        rintro e W2 (⟨rfl, hJ2, _⟩ | ⟨rfl, hx2⟩)
        · gi_wp2
          go_end0
          exact ⟨⟨_, rfl⟩, .inl ⟨[(i + 1)], ys.symm, hJ2⟩⟩
        · gi_wp2
          go_end0
          exact ⟨⟨_, rfl⟩, .inr ⟨[(i + 1)], by rw [ys]; exact List.prefix_refl _, hx2⟩⟩
end Go.Proofs.YtofmccihehalcaaGreat.Trm
