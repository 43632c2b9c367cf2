/- The program's reading of a term's kids, walked. Conditions: the term lies in memory; at most 6 kinds with kids are left; the kids' own reading answers as it should. -/
import Derived.Test.YtmhhghdfgdhljaaGreatDoorRightImpl
import Derived.Test.YtmhhghdfgdhljaaGreatDoorTermTo
import Derived.OwnWalk
namespace Go.Proofs.YtmhhghdfgdhljaaGreatDoor.Trm
open Go.RowKit Own Lexs
theorem set_midK (ys : List Value) (z : Value) (zs : List Value) (u : Value) (j : Nat) (h : ys.length = j) : (ys ++ z :: zs).set j u = (ys ++ [u]) ++ zs := by
  subst h
  rw [List.set_append_right _ _ (Nat.le_refl _), Nat.sub_self, List.set_cons_zero]
  simp
theorem infoRight : (Tryz.prog.info? 166).map (fun i => (i.zero, i.size, i.bytes)) = some (some .nilIface, 1, 16) := by kernel_rfl
theorem rtV_iface : ∀ t : Tree, ∃ ty pv, rtV t = .iface ty pv
  | .node k n s ks => by
    rw [rtV]
    by_cases h1 : k = 1
    · rw [if_pos h1]; exact ⟨_, _, rfl⟩
    · by_cases h2 : k = 2
      · rw [if_neg h1, if_pos h2]; exact ⟨_, _, rfl⟩
      · by_cases h8 : k = 8
        · rw [if_neg h1, if_neg h2, if_pos h8]; exact ⟨_, _, rfl⟩
        · rw [if_neg h1, if_neg h2, if_neg h8]; exact ⟨_, _, rfl⟩
def KidsPost (ks : List Tree) (r : Nat) (w : World) (e : Ending) (w' : World) : Prop := Below w.heap.size w w' ∧ ((rightS ks r = true ∧ ∃ g, e = .returned (.tuple #[.slice (some ⟨g, 0, none⟩) ks.length ks.length, .bool true]) ∧ ∀ (i : Nat) (h : i < ks.length), w'.cell? ⟨g, i, none⟩ = some (rtV ks[i])) ∨ (rightS ks r = false ∧ e = .returned (.tuple #[.slice none 0 0, .bool false])))
def KidsNo (w : World) (e : Ending) (w' : World) : Prop := e = .returned (.tuple #[.slice none 0 0, .bool false]) ∧ Below w.heap.size w w'
set_option maxHeartbeats 800000 in
theorem rightKids_bad (k n m : Int) (s : ByteArray) (ks : List Tree) (aa : Option Addr) (cap r : Nat) (w : World) (_hlen : ks.length ≤ 9223372036854775807) (h : ¬ (n = 0 ∧ s.size = 0 ∧ (ks.length : Int) = m ∧ r ≠ 0)) :
    Calls Tryz.prog 174 #[.agg #[.int .i64 k, .int .i64 n, .string s, .slice aa ks.length cap], .int .i64 m, .int .i64 (r : Int)] w (KidsNo w) := by
  by_cases hn : n = 0
  · by_cases hs : s.size = 0
    · by_cases hm : (ks.length : Int) = m
      · have hr : r = 0 := Decidable.byContradiction fun hr => h ⟨hn, hs, hm, hr⟩
        subst hr hn
        have he := empty_true hs
        have hq : ((ks.length : Int) != m) = false := by simp [hm]
        clear hm hs h
        go_enter Tryz.func174, Tryz.ntmps174
        go_wp2
        go_ret2
        exact ⟨rfl, (Below.refl _ _).alloc (Nat.le_refl _) _⟩
      · have hq : ((ks.length : Int) != m) = true := by simp [hm]
        subst hn
        have he := empty_true hs
        clear hm hs h
        go_enter Tryz.func174, Tryz.ntmps174
        go_wp2
        go_ret2
        exact ⟨rfl, (Below.refl _ _).alloc (Nat.le_refl _) _⟩
    · subst hn
      have he := empty_false hs
      clear hs h
      go_enter Tryz.func174, Tryz.ntmps174
      go_wp2
      go_ret2
      exact ⟨rfl, (Below.refl _ _).alloc (Nat.le_refl _) _⟩
  · have hq : (n != 0) = true := by simp [hn]
    clear hn h
    go_enter Tryz.func174, Tryz.ntmps174
    go_wp2
    go_ret2
    exact ⟨rfl, (Below.refl _ _).alloc (Nat.le_refl _) _⟩
set_option maxHeartbeats 1600000 in
theorem rightKids_go (k : Int) (s : ByteArray) (ks : List Tree) (ih : ∀ t, t ∈ ks → RightI t) (aa : Option Addr) (cap r : Nat) (w : World) (hlen : ks.length ≤ 2) (hr0 : r ≠ 0) (hr : r ≤ 6) (hs : s.size = 0) (hk : 0 < ks.length → ∃ g o, aa = some ⟨g, o, none⟩ ∧ LiesL w g o ks) :
    Calls Tryz.prog 174 #[.agg #[.int .i64 k, .int .i64 0, .string s, .slice aa ks.length cap], .int .i64 (ks.length : Int), .int .i64 (r : Int)] w (KidsPost ks (r - 1) w) := by
  obtain ⟨i0, hi, hz0, hz1, hz2⟩ := info_parts infoRight
  have IH := Lib.hid ih
  have HK := Lib.hid hk
  have he := empty_true hs
  have hrz : ((r : Int) == 0) = false := ne_true (by omega)
  have HE := Lib.hid (show ((r - 1 : Nat) : Int) = (r : Int) - 1 from by omega)
  have hr1 : 0 < r := by omega
  clear ih hk hs hr0
  go_enter Tryz.func174, Tryz.ntmps174
  go_wp2_with (at_make; refine wpList_make_full _ rfl (.tmp 32) (.tmp 32) 206 rfl (w.heap.size + 1) 166 i0 _ 1 Tryz.underlying206 hi hz0 hz1 .i64 .i64 _ _ ks.length rfl rfl rfl rfl (by rw [hz2]; omega) (by unfold maxLen; omega) (by simp) ?_)
  intro w1 hown hg
  have HO := Lib.hid hown
  have B1 := Lib.hid (((Below.refl w.heap.size w).alloc (Nat.le_refl _) _).grown hg (by simp) (fun b hb => by cases hb))
  have X1 := Lib.hid ((Box4.new w (.int .i64 k) (.int .i64 0) (.string s) (.slice aa ks.length cap) 43).keep (keeps_below (below_none hg)))
  clear hown hg
  obtain ⟨p0, p1, p2, p3⟩ := X1.out
  go_wp2
  go_loopw [37] (fun i wr => ∃ (j : Nat) (zs : List Value), j ≤ ks.length ∧ i = .int .i64 j ∧ Hid (rightS ks (r - 1) = rightS (ks.drop j) (r - 1)) ∧ Hid (wr.ownsRow (w.heap.size + 1) 166 1 (.slice (some ⟨w.heap.size + 1, 0, none⟩) ks.length ks.length) ks.length ((ks.take j).map rtV ++ zs)) ∧ Hid (Below w.heap.size w wr))
    (fun i _ => ks.length - (intOf i).toNat)
  case atStart => exact ⟨0, _, Nat.zero_le _, rfl, rfl, Lib.hid (by simpa using HO.out), B1.out⟩
  case round =>
    obtain ⟨j, zs, hj, rfl, hsz, hrow, hbe⟩ := hrel
    by_cases hlt : j < ks.length
    · obtain ⟨g, o, rfl, hl⟩ := HK.out (by omega)
      obtain ⟨ka, kc, c0, c1, c2, c3, hl2⟩ := (hl.keep (keeps_below hbe.out)).at j hlt
      have C := Lib.hid (IH.out ks[j] (List.getElem_mem hlt) _ (wr.alloc (.cells #[.int .i64 ks[j].kind, .int .i64 ks[j].num, .string ks[j].name, .slice ka ks[j].kids.length kc] 43)) (r - 1) (by omega) (hl2.keep (keeps_alloc _ _)))
      have hd := rightS_at (r := r - 1) hlt
      rw [HE.out] at C
      clear hl hl2
      go_wp2_with fail
      refine C.out.mono ?_
      rintro e w2 ⟨x, rfl, hx, hb2⟩
      have HB2 := Lib.hid (hbe.out.trans ((below_box1 hb2).mono hbe.out.size))
      have R2 := Lib.hid (row_below hrow.out (below_box1 hb2))
      clear hb2
      cases hq2 : rightB ks[j] (r - 1) with
      | false =>
        have HS2 : Hid (rightS ks (r - 1) = false) := by show _ = _; rw [hsz.out, hd, hq2]; rfl
        clear hq2 hd hx
        go_wp2
        go_ret2
        exact ⟨HB2.out, .inr ⟨HS2.out, rfl⟩⟩
      | true =>
        obtain ⟨ty, pv, hi2⟩ := rtV_iface ks[j]
        obtain rfl : x = .iface ty pv := (hx.1 hq2).trans hi2
        have HX := Lib.hid hi2
        clear hi2
        have HS2 : Hid (rightS ks (r - 1) = rightS (ks.drop (j + 1)) (r - 1)) := by show rightS ks (r - 1) = _; rw [hsz.out, hd, hq2]; rfl
        clear hq2 hd hx
        have hls := R2.out.1
        simp only [List.length_append, List.length_map, List.length_take] at hls
        obtain ⟨z, zs2, rfl⟩ : ∃ z zs2, zs = z :: zs2 := by
          cases zs with
          | nil => simp at hls; omega
          | cons z r => exact ⟨z, r, rfl⟩
        have f0 := R2.out.frozenAt j
        obtain ⟨u0, s0⟩ : ∃ u, w2.cell? ⟨w.heap.size + 1, j, none⟩ = some u := ⟨_, (R2.out.cellAt j (by omega)).trans (List.getElem?_eq_getElem (by rw [R2.out.1]; omega))⟩
        obtain ⟨hr2, hg2⟩ := R2.out.stored j (.iface ty pv)
        rw [set_midK _ _ _ _ j (by simp; omega)] at hr2
        have HR2 : Hid ((w2.setCell ⟨w.heap.size + 1, j, none⟩ (.iface ty pv)).ownsRow (w.heap.size + 1) 166 1 (.slice (some ⟨w.heap.size + 1, 0, none⟩) ks.length ks.length) ks.length ((ks.take (j + 1)).map rtV ++ zs2)) := by
          have e : (ks.take (j + 1)).map rtV = (ks.take j).map rtV ++ [rtV ks[j]] := by rw [List.take_succ_eq_append_getElem hlt]; simp only [List.map_append, List.map_cons, List.map_nil]
          rw [e, HX.out]
          exact hr2
        have HB3 := Lib.hid (HB2.out.grown hg2 HB2.out.size (fun b hb => by cases hb; omega))
        clear hls hr2 hg2
        go_wp2
        go_roundw
        case rel => exact ⟨j + 1, zs2, by omega, by go_num, HS2, HR2, HB3⟩
        case measure => simp [intOf]; omega
    · obtain rfl : j = ks.length := by omega
      have h1 := hrow.out
      rw [List.take_length] at h1
      have hz : zs = [] := by have := h1.1; simpa using this
      rw [hz, List.append_nil] at h1
      have H1 := Lib.hid h1
      have HS2 : Hid (rightS ks (r - 1) = true) := by show _ = _; rw [hsz.out, rightS_end (by omega)]
      clear h1 hz
      go_wp2
      go_ret2
      exact ⟨hbe.out, .inl ⟨HS2.out, _, rfl, fun i hi => by rw [H1.out.cellAt i (by omega)]; simp [hi]⟩⟩
end Go.Proofs.YtmhhghdfgdhljaaGreatDoor.Trm
