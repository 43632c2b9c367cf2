/- The program's own reading of statements as ones that are right: lists and blocks, walked. Conditions: the statements lie in rows that are not frozen; at most 6 kinds with statements are left. -/
import Derived.Test.YtmhhghdfgdhljaaStmtVal
import Derived.Test.YtmhhghdfgdhljaaRegSeq
import Derived.Deep.DeepCutAuto
namespace Go.Proofs.Ytmhhghdfgdhljaa.Trm
open Go.RowKit Own Lexs
theorem infoRS : (Try.prog.info? 91).map (fun i => (i.zero, i.size, i.bytes)) = some (some .nilIface, 1, 16) := by kernel_rfl
def WPost (x : STree) (r : Nat) (w : World) (e : Ending) (w' : World) : Prop := ∃ u, e = .returned (.tuple #[u, .bool (rightX x r)]) ∧ ((rightX x r = true → RV w.heap.size w' x u) ∧ IfV u) ∧ Below w.heap.size w w'
def WOk (x : STree) : Prop := ∀ (v : Value) (w : World) (r : Nat), r ≤ 6 → szX x ≤ 1048576 → SB w x v → Calls Try.prog 107 #[v, .int .i64 (r : Int)] w (WPost x r w)
def LPost (xs : List STree) (r : Nat) (w : World) (e : Ending) (w' : World) : Prop := Below w.heap.size w w' ∧ ((rightXS xs r = true ∧ ∃ v, e = .returned (.tuple #[v, .bool true]) ∧ LV w.heap.size w' xs v) ∨ (rightXS xs r = false ∧ e = .returned (.tuple #[.slice none 0 0, .bool false])))
def LOk (xs : List STree) : Prop := ∀ (v : Value) (w : World) (r : Nat), r ≤ 6 → xs.length + szXS xs ≤ 1048576 → SBL w xs v → Calls Try.prog 117 #[v, .int .i64 (r : Int)] w (LPost xs r w)
set_option maxHeartbeats 1600000 in
theorem right_slist (xs : List STree) (ih : ∀ x, x ∈ xs → WOk x) : LOk xs := fun v w r hr hz hl => by
  obtain ⟨i0, hi, hz0, hz1, hz2⟩ := info_parts infoRS
  have HL := Lib.hid hl
  obtain ⟨_, aa, cap, rfl, _⟩ := hl.l
  have IH := Lib.hid ih
  have HZ := Lib.hid hz
  have hn : xs.length ≤ 1048576 := by omega
  clear ih hl hz
  go_enter Try.func117, Try.ntmps117
  go_wp2_with (at_make; refine wpList_make_full _ rfl (.tmp 12) (.tmp 12) 153 rfl w.heap.size 91 i0 _ 1 Try.underlying153 hi hz0 hz1 .i64 .i64 _ _ xs.length rfl rfl rfl rfl (by rw [hz2]; omega) (by unfold maxLen; omega) (by simp) ?_)
  intro w1 hown hg
  have HO := Lib.hid hown
  have B1 := Lib.hid ((Below.refl w.heap.size w).grown hg (Nat.le_refl _) (fun b hb => by cases hb))
  have HG := Lib.hid (hown.lt w.heap.size rfl).2
  clear hown hg
  go_wp2
  go_loopw [16] (fun i wr => ∃ (j : Nat) (us zs : List Value), j ≤ xs.length ∧ i = .int .i64 j ∧ us.length = j ∧ Hid (rightXS xs r = rightXS (xs.drop j) r) ∧ Hid (wr.ownsRow w.heap.size 91 1 (.slice (some ⟨w.heap.size, 0, none⟩) xs.length xs.length) xs.length (us ++ zs)) ∧ Hid (Below w.heap.size w wr) ∧ Hid (∀ i (h : i < us.length) (h2 : i < xs.length), RV (w.heap.size + 1) wr xs[i] us[i]))
    (fun i _ => xs.length - (intOf i).toNat)
  case atStart => exact ⟨0, [], _, Nat.zero_le _, rfl, rfl, rfl, HO.out, B1.out, fun i h => absurd h (by simp)⟩
  case round =>
    obtain ⟨j, us, zs, hj, rfl, hus, hsz, hrow, hbe, hrv⟩ := hrel
    by_cases hlt : j < xs.length
    · obtain ⟨g, o, ta, tc, ba, bc, ea, ec, rfl, c0, c1, c2, c3, c4, c5, c6, c7, hx⟩ := (HL.out.below hbe.out).at j hlt
      have hzx := szXS_mem (List.getElem_mem hlt)
      obtain ⟨W1, hW1⟩ : ∃ W1, W1 = wr.alloc (.cells #[.int .i64 xs[j].kind, .string xs[j].name, .int .i64 xs[j].term.kind, .int .i64 xs[j].term.num, .string xs[j].term.name, .slice ta xs[j].term.kids.length tc, .slice ba xs[j].body.length bc, .slice ea xs[j].els.length ec] 50) := ⟨_, rfl⟩
      have bW : Below wr.heap.size wr W1 := by rw [hW1]; exact (Below.refl _ _).alloc (Nat.le_refl _) _
      have BW := Lib.hid bW
      have C := Lib.hid (IH.out xs[j] (List.getElem_mem hlt) _ W1 r hr (by have := HZ.out; omega) (hx.below bW))
      have hd := rightXS_drop (r := r) hlt
      have HW1 := Lib.hid hW1
      have hgw : w.heap.size < wr.heap.size := by have := (hrow.out.lt w.heap.size rfl).2; exact this
      clear hx bW hW1
      go_wp2_with fail
      rw [← HW1.out]
      refine C.out.mono ?_
      rintro e w2 ⟨u, rfl, ⟨hu, hif⟩, hb2⟩
      have B12 := Lib.hid (BW.out.trans (hb2.mono BW.out.size))
      have HB2 := Lib.hid (hbe.out.trans (B12.out.mono hbe.out.size))
      have R2 := Lib.hid (row_below hrow.out B12.out)
      have V2 : Hid (∀ i (h : i < us.length) (h2 : i < xs.length), RV (w.heap.size + 1) w2 xs[i] us[i]) := fun i h h2 => (hrv.out i h h2).keep (Nat.le_refl _) ((keeps_below B12.out).from _)
      clear c0 c1 c2 c3 c4 c5 c6 c7
      cases hq2 : rightX xs[j] r with
      | false =>
        have HS2 : Hid (rightXS xs r = false) := by show _ = _; rw [hsz.out, hd, hq2]; rfl
        clear hq2 hd hu hb2
        go_wp2
        go_ret2
        exact ⟨HB2.out, .inr ⟨HS2.out, rfl⟩⟩
      | true =>
        have HU : Hid (RV (w.heap.size + 1) w2 xs[j] u) := (hu hq2).keep (by have := BW.out.size; omega) (fun _ _ _ h => h)
        obtain ⟨ty, pv, rfl⟩ := (hu hq2).iface
        have HS2 : Hid (rightXS xs r = rightXS (xs.drop (j + 1)) r) := by show rightXS xs r = _; rw [hsz.out, hd, hq2]; rfl
        clear hq2 hd hu hb2 hif
        have hls := R2.out.1
        simp only [List.length_append] at hls
        obtain ⟨z, zs2, rfl⟩ : ∃ z zs2, zs = z :: zs2 := by
          cases zs with
          | nil => simp at hls; omega
          | cons z r => exact ⟨z, r, rfl⟩
        have f0 := R2.out.frozenAt j
        obtain ⟨u0, s0⟩ : ∃ u, w2.cell? ⟨w.heap.size, j, none⟩ = some u := ⟨_, (R2.out.cellAt j (by omega)).trans (List.getElem?_eq_getElem (by rw [R2.out.1]; omega))⟩
        obtain ⟨hr2, hg2⟩ := R2.out.stored j (.iface ty pv)
        rw [set_midK _ _ _ _ j hus] at hr2
        have HR2 := Lib.hid hr2
        have HB3 := Lib.hid (HB2.out.grown hg2 HB2.out.size (fun b hb => by cases hb; omega))
        have V3 : Hid (∀ i (h : i < (us ++ [Value.iface ty pv]).length) (h2 : i < xs.length), RV (w.heap.size + 1) (w2.setCell ⟨w.heap.size, j, none⟩ (.iface ty pv)) xs[i] (us ++ [Value.iface ty pv])[i]) := fun i h h2 => by
          have hk : KeepsF (w.heap.size + 1) w2 (w2.setCell ⟨w.heap.size, j, none⟩ (.iface ty pv)) := fun p u hp e => by
            rw [World.cell?_of_block (hg2.block p.block (cell_lt e) (fun e2 => by simp at e2; omega))]; exact e
          rcases Nat.lt_or_ge i us.length with h3 | h3
          · rw [List.getElem_append_left h3]
            exact (V2.out i h3 h2).keep (Nat.le_refl _) hk
          · have h4 : i = j := by simp at h; omega
            subst h4
            rw [List.getElem_append_right h3]
            simp only [hus, Nat.sub_self, List.getElem_cons_zero]
            exact HU.out.keep (Nat.le_refl _) hk
        clear hls hr2 hg2
        go_wp2
        go_roundw
        case rel => exact ⟨j + 1, us ++ [.iface ty pv], zs2, by omega, by go_num, by simp [hus], HS2, HR2, HB3, V3⟩
        case measure => simp [intOf]; omega
    · obtain rfl : j = xs.length := by omega
      have h1 := hrow.out
      have hz : zs = [] := by have := h1.1; simp [hus] at this; exact this
      rw [hz, List.append_nil] at h1
      have H1 := Lib.hid h1
      have HS2 : Hid (rightXS xs r = true) := by show _ = _; rw [hsz.out, rightXS_end (by omega)]
      have HLV : Hid (LV w.heap.size wr xs (.slice (some ⟨w.heap.size, 0, none⟩) xs.length xs.length)) := ⟨_, rfl, fun _ => ⟨w.heap.size, Nat.le_refl _, rfl, RVL.of fun i hi => ⟨us[i]'(by omega), by rw [Nat.zero_add, H1.out.cellAt i (by omega)]; exact List.getElem?_eq_getElem _, (hrv.out i (by omega) hi).keep (by omega) (fun _ _ _ h => h)⟩⟩⟩
      clear h1 hz
      go_wp2
      go_ret2
      exact ⟨hbe.out, .inl ⟨HS2.out, _, rfl, HLV.out⟩⟩
/-- What a statement with others within it has in common with its like. -/
def blkB (x : STree) (r : Nat) : Bool := decide (x.name.size = 0) && (decide (r ≠ 0) && (okB x.term && rightXS x.body (r - 1)))
def BPost (x : STree) (r : Nat) (w : World) (e : Ending) (w' : World) : Prop := ∃ c0 c1, e = .returned (.tuple #[.agg #[c0, c1], .bool (blkB x r)]) ∧ ((blkB x r = true → c0 = rtV x.term ∧ LV w.heap.size w' x.body c1) ∧ IfV c0 ∧ ∃ a n c, c1 = .slice a n c) ∧ Below w.heap.size w w'
theorem blk_no {x : STree} {r : Nat} {w : World} {e : Ending} {w' : World} (h : blkB x r = false) (he : e = .returned (.tuple #[.agg #[.nilIface, .slice none 0 0], .bool false])) (hb : Below w.heap.size w w') : BPost x r w e w' :=
  ⟨_, _, by rw [h]; exact he, ⟨(fun h2 => by rw [h] at h2; cases h2), .inl rfl, _, _, _, rfl⟩, hb⟩
set_option maxHeartbeats 1600000 in
theorem implBlock_any (x : STree) (ihb : LOk x.body) (v : Value) (w : World) (r : Nat) (hr : r ≤ 6) (hz : szX x ≤ 1048576) (hx : SB w x v) :
    Calls Try.prog 136 #[v, .int .i64 (r : Int)] w (BPost x r w) := by
  obtain ⟨_, _, ta, tc, ba, bc, ea, ec, rfl, hlt, _, hlb, _⟩ := hx.parts
  have HR : Hid (blkB x r = (decide (x.name.size = 0) && (decide (r ≠ 0) && (okB x.term && rightXS x.body (r - 1))))) := rfl
  have hzz := szX_eq x
  have CT := Lib.hid (fun w2 hb => implRight_any x.term _ w2 6 (Nat.le_refl _) (hlt.keep (keeps_below (w' := w2) hb)))
  have CL := Lib.hid (fun w2 hb => ihb _ w2 (r - 1) (by omega) (by omega) (hlb.below (w' := w2) hb))
  obtain ⟨W2, hW2⟩ : ∃ W2, W2 = (w.alloc (.cells #[.int .i64 x.kind, .string x.name, .int .i64 x.term.kind, .int .i64 x.term.num, .string x.term.name, .slice ta x.term.kids.length tc, .slice ba x.body.length bc, .slice ea x.els.length ec] 50)).alloc (.cells #[.nilIface, .slice none 0 0] 176) := ⟨_, rfl⟩
  have bW : Below w.heap.size w W2 := by rw [hW2]; exact ((Below.refl _ _).alloc (Nat.le_refl _) _).alloc (by simp) _
  have BW := Lib.hid bW
  have x6 : W2.cell? ⟨w.heap.size, 6, none⟩ = some (.slice ba x.body.length bc) := by rw [hW2]; exact keeps_alloc _ _ _ _ (by simp [go_sem])
  have X6 := Lib.hid x6
  have hn : W2.heap.size = w.heap.size + 1 + 1 := by rw [hW2]; simp
  have b0 : W2.cell? ⟨w.heap.size + 1, 0, none⟩ = some .nilIface := by rw [hW2]; simp [go_sem]
  have b1 : W2.cell? ⟨w.heap.size + 1, 1, none⟩ = some (.slice none 0 0) := by rw [hW2]; simp [go_sem]
  have f0 : W2.frozen? ⟨w.heap.size + 1, 0, none⟩ = false := by rw [hW2]; simp [go_sem]
  have f1 : W2.frozen? ⟨w.heap.size + 1, 1, none⟩ = false := by rw [hW2]; simp [go_sem]
  have HBX := Lib.hid (And.intro b0 (And.intro b1 (And.intro f0 f1)))
  have HN := Lib.hid hn
  have HW2 := Lib.hid hW2
  clear hlt hlb hx hzz hz bW x6 b0 b1 f0 f1 hn hW2
  by_cases hs : x.name.size = 0
  · have he := empty_true hs
    by_cases h0 : r = 0
    · have HF : Hid (blkB x r = false) := by show _ = _; rw [HR.out]; simp [h0]
      have hq : ((r : Int) == 0) = true := by rw [h0]; rfl
      clear hs h0
      go_enter Try.func136, Try.ntmps136
      go_wp2
      refine bodyPost_ret (v := .tuple #[.agg #[.nilIface, .slice none 0 0], .bool false]) (by simp [results, Try.results136, go_sem]) rfl ?_
      exact blk_no HF.out rfl (((Below.refl _ _).alloc (Nat.le_refl _) _).alloc (by simp) _)
    · have hq : ((r : Int) == 0) = false := ne_true (by omega)
      have hr1 : 1 ≤ r := by omega
      have hrn : ((r - 1 : Nat) : Int) = (r : Int) - 1 := by omega
      rw [hrn] at CL
      have HF : Hid (blkB x r = (okB x.term && rightXS x.body (r - 1))) := by show _ = _; rw [HR.out]; simp [hs, h0]
      clear hs h0 hrn
      have HO : Hid (okB x.term = rightB x.term 6) := rfl
      go_enter Try.func136, Try.ntmps136
      go_wp2_with fail
      rw [← HW2.out]
      refine (CT.out _ BW.out).mono ?_
      rintro e w3 ⟨y, rfl, ⟨hy, hif⟩, hb3⟩
      have HB3 := Lib.hid (BW.out.trans (hb3.mono BW.out.size))
      have k3 := keeps_below hb3
      obtain ⟨q0, q1⟩ := And.intro (k3 _ _ HBX.out.1) (k3 _ _ HBX.out.2.1)
      have hlt3 : w.heap.size + 1 < W2.heap.size := by rw [HN.out]; omega
      have f0 : w3.frozen? ⟨w.heap.size + 1, 0, none⟩ = false := (hb3.frozen (p := ⟨w.heap.size + 1, 0, none⟩) hlt3).trans HBX.out.2.2.1
      have f1 : w3.frozen? ⟨w.heap.size + 1, 1, none⟩ = false := (hb3.frozen (p := ⟨w.heap.size + 1, 1, none⟩) hlt3).trans HBX.out.2.2.2
      have x6 := k3 _ _ X6.out
      have X3 := Lib.hid (And.intro q0 (And.intro q1 (And.intro f0 f1)))
      clear hb3 k3
      cases hq2 : rightB x.term 6 with
      | false =>
        have HF2 : Hid (blkB x r = false) := by show _ = _; rw [HF.out, HO.out, hq2]; rfl
        clear hq2 hy hif x6
        go_wp2
        refine bodyPost_ret (v := .tuple #[.agg #[.nilIface, .slice none 0 0], .bool false]) (by simp [results, Try.results136, go_sem, q0, q1]) rfl ?_
        exact blk_no HF2.out rfl ((HB3.out.setCell (by simp) _).setCell (by simp) _)
      | true =>
        obtain ⟨ty, pv, hi⟩ := rtV_iface x.term
        obtain rfl : y = .iface ty pv := (hy hq2).trans hi
        have HI := Lib.hid hi
        have HF2 : Hid (blkB x r = rightXS x.body (r - 1)) := by show _ = _; rw [HF.out, HO.out, hq2]; rfl
        clear hq2 hy hif hi
        go_wp2_with fail
        refine (CL.out _ HB3.out).mono ?_
        rintro e w4 ⟨hb4, hres⟩
        have HB4 := Lib.hid (HB3.out.trans (hb4.mono HB3.out.size))
        have k4 := keeps_below hb4
        have hlt4 : w.heap.size + 1 < w3.heap.size := cell_lt X3.out.1
        replace q0 := k4 _ _ X3.out.1
        replace q1 := k4 _ _ X3.out.2.1
        replace f0 : w4.frozen? ⟨w.heap.size + 1, 0, none⟩ = false := (hb4.frozen (p := ⟨w.heap.size + 1, 0, none⟩) hlt4).trans X3.out.2.2.1
        replace f1 : w4.frozen? ⟨w.heap.size + 1, 1, none⟩ = false := (hb4.frozen (p := ⟨w.heap.size + 1, 1, none⟩) hlt4).trans X3.out.2.2.2
        have HS3 : Hid (w.heap.size + 1 < w3.heap.size) := hlt4
        clear hb4 k4 x6 hlt4 hlt3
        rcases hres with ⟨ht, v, rfl, hlv⟩ | ⟨ht, rfl⟩
        · obtain ⟨a, rfl, _⟩ := id hlv
          have HLV := Lib.hid hlv
          have HT := Lib.hid ht
          clear ht hlv
          go_wp2
          refine bodyPost_ret (v := .tuple #[.agg #[.iface ty pv, .slice a x.body.length x.body.length], .bool true]) (by simp [results, Try.results136, go_sem, q0, q1]) rfl ?_
          refine ⟨_, _, by rw [HF2.out, HT.out], ⟨fun _ => ⟨HI.out.symm, HLV.out.keep (by have := HB3.out.size; omega) (fun p u hp e => ?_)⟩, .inr ⟨_, _, rfl⟩, _, _, _, rfl⟩, (HB4.out.setCell (by simp) _).setCell (by simp) _⟩
          have hne : p.block ≠ w.heap.size + 1 := by have := HS3.out; omega
          rw [World.cell?_of_block ((Below.heap_setCell _ _ _ _ hne).trans (Below.heap_setCell _ _ _ _ hne))]
          exact e
        · have HF3 : Hid (blkB x r = false) := by show _ = _; rw [HF2.out, ht]
          clear ht
          go_wp2
          refine bodyPost_ret (v := .tuple #[.agg #[.iface ty pv, .slice none 0 0], .bool false]) (by simp [results, Try.results136, go_sem, q0, q1]) rfl ?_
          exact ⟨_, _, by rw [HF3.out], ⟨(fun h => by rw [HF3.out] at h; cases h), .inr ⟨_, _, rfl⟩, _, _, _, rfl⟩, (HB4.out.setCell (by simp) _).setCell (by simp) _⟩
  · have he := empty_false hs
    have HF : Hid (blkB x r = false) := by show _ = _; rw [HR.out]; simp [hs]
    clear hs
    go_enter Try.func136, Try.ntmps136
    go_wp2
    refine bodyPost_ret (v := .tuple #[.agg #[.nilIface, .slice none 0 0], .bool false]) (by simp [results, Try.results136, go_sem]) rfl ?_
    exact blk_no HF.out rfl (((Below.refl _ _).alloc (Nat.le_refl _) _).alloc (by simp) _)
end Go.Proofs.Ytmhhghdfgdhljaa.Trm
