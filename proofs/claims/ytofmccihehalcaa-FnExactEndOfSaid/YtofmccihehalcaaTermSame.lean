/- The model's SameTerm, walked. Conditions: both terms lie in memory. -/
import Derived.Test.YtofmccihehalcaaChecked
import Derived.Test.YtofmccihehalcaaTrees
import Derived.Deep.RegionWith
import Derived.BigQuiet
import Derived.WalkSmall
import Derived.Outline
namespace Go.Proofs.Ytofmccihehalcaa.Trm
open Go.RowKit Own
mutual
def sameT : Tree → Tree → Bool
  | .node k n s ks, u => decide (k = u.kind) && decide (n = u.num) && decide (s = u.name) && decide (ks.length = u.kids.length) && sameL ks u.kids
def sameL : List Tree → List Tree → Bool
  | t :: ts, u :: us => sameT t u && sameL ts us
  | _, _ => true
end
theorem sameL_drop {ks us : List Tree} {i : Nat} (h : i < ks.length) (h2 : i < us.length) : sameL (ks.drop i) (us.drop i) = (sameT ks[i] us[i] && sameL (ks.drop (i + 1)) (us.drop (i + 1))) := by
  rw [List.drop_eq_getElem_cons h, List.drop_eq_getElem_cons h2, sameL]
theorem sameL_end {ks us : List Tree} {i : Nat} (h : ks.length ≤ i) : sameL (ks.drop i) (us.drop i) = true := by
  rw [List.drop_of_length_le h, sameL]; simp
theorem bytes_ne {s s' : ByteArray} (h : s ≠ s') : (s.toList == s'.toList) = false := by
  rw [beq_eq_false_iff_ne, ByteArray.toList_eq, ByteArray.toList_eq]
  intro e
  exact h (ByteArray.ext (Array.ext' e))
theorem ret_b {a b : Bool} (h : a = b) : Ending.returned (.bool a) = .returned (.bool b) := by rw [h]
def SameOk (t : Tree) : Prop := ∀ (t2 : Tree) (u v : Value) (w : World), Lies w t u → Lies w t2 v →
    Calls Try.prog 40 #[u, v] w fun e w' => e = .returned (.bool (sameT t t2)) ∧ Below w.heap.size w w'
set_option maxHeartbeats 1600000 in
theorem specSame_any : ∀ t : Tree, SameOk t := treeInd fun k n s ks ih t2 u v w hu hv => by
  obtain ⟨h1, h2, h3, h4, aa, cap, rfl, h5⟩ := hu
  obtain ⟨g1, g2, g3, g4, bb, dap, rfl, h6⟩ := hv.parts
  have HR : Hid (sameT (.node k n s ks) t2 = (decide (k = t2.kind) && decide (n = t2.num) && decide (s = t2.name) && decide (ks.length = t2.kids.length) && sameL ks t2.kids)) := by show _ = _; rw [sameT]
  obtain ⟨k', n', s', ks'⟩ := t2
  simp only [Tree.kind, Tree.num, Tree.name, Tree.kids] at h6 HR g3 g4 ⊢
  have IH := Lib.hid ih
  have H5 := Lib.hid h5
  have H6 := Lib.hid h6
  clear h5 h6 h1 h2 g1 g2 ih hv
  by_cases hk : k = k'
  · subst hk
    by_cases hn : n = n'
    · subst hn
      by_cases hs : s = s'
      · subst hs
        by_cases hl : ks.length = ks'.length
        · have HL := Lib.hid hl
          have hq : ((ks.length : Int) != (ks'.length : Int)) = false := by rw [hl]; simp
          have HR2 : Hid (sameT (.node k n s ks) (.node k n s ks') = sameL ks ks') := by show _ = _; rw [HR.out]; simp [hl]
          clear hl
          go_enter Try.func40, Try.ntmps40
          go_wp2
          go_loopw [5] (fun i wr => ∃ j : Nat, j ≤ ks.length ∧ i = .int .i64 j ∧ Hid (sameT (.node k n s ks) (.node k n s ks') = sameL (ks.drop j) (ks'.drop j)) ∧ Hid (Box4 wr w.heap.size (.int .i64 k) (.int .i64 n) (.string s) (.slice aa ks.length cap)) ∧ Hid (Box4 wr (w.heap.size + 1) (.int .i64 k) (.int .i64 n) (.string s) (.slice bb ks'.length dap)) ∧ Hid (Below w.heap.size w wr))
            (fun i _ => ks.length - (intOf i).toNat)
          case atStart => exact ⟨0, Nat.zero_le _, rfl, HR2.out, Box4.keep (Box4.new _ _ _ _ _ _) (keeps_alloc _ _), Lib.hid (by have := Box4.new (w.alloc (.cells #[.int .i64 k, .int .i64 n, .string s, .slice aa ks.length cap] 55)) (.int .i64 k) (.int .i64 n) (.string s) (.slice bb ks'.length dap) 55; simpa using this), ((Below.refl _ _).alloc (Nat.le_refl _) _).alloc (by simp) _⟩
          case round =>
            obtain ⟨j, hj, rfl, hsz, hx, hy, hbe⟩ := hrel
            obtain ⟨p0, p1, p2, p3⟩ := hx.out
            obtain ⟨q0, q1, q2, q3⟩ := hy.out
            by_cases hlt : j < ks.length
            · have hlt2 : j < ks'.length := by have := HL.out; omega
              obtain ⟨g, o, rfl, hl⟩ := H5.out (by omega)
              obtain ⟨h, p, rfl, hm⟩ := H6.out (by omega)
              obtain ⟨ka, kc, c0, c1, c2, c3, hl2⟩ := (hl.keep (keeps_below hbe.out)).at j hlt
              obtain ⟨la, lc, d0, d1, d2, d3, hm2⟩ := (hm.keep (keeps_below hbe.out)).at j hlt2
              have C := Lib.hid (fun w hk => IH.out ks[j] (List.getElem_mem hlt) ks'[j] _ _ w (hl2.keep hk) (hm2.keep hk))
              have hd := sameL_drop hlt hlt2
              clear hl hl2 hm hm2
              cases hq2 : sameT ks[j] ks'[j] with
              | false =>
                have HS2 : Hid (sameT (.node k n s ks) (.node k n s ks') = false) := by show _ = _; rw [hsz.out, hd, hq2]; rfl
                rw [hq2] at C
                clear hq2 hd
                go_wp2
                go_region_with (go_at_call 40; refine (C.out _ (keeps_drew _)).mono ?_; rintro e w1 ⟨rfl, hb1⟩; have HB1 := Lib.hid hb1; clear hb1)
                all_goals
                  go_wp2
                  go_ret
                  exact ⟨ret_b (by rw [HS2.out]), hbe.out.trans ((below_of_drew HB1.out).mono hbe.out.size)⟩
              | true =>
                have HS2 : Hid (sameT (.node k n s ks) (.node k n s ks') = sameL (ks.drop (j + 1)) (ks'.drop (j + 1))) := by show sameT (.node k n s ks) (.node k n s ks') = _; rw [hsz.out, hd, hq2]; rfl
                rw [hq2] at C
                clear hq2 hd
                go_wp2
                go_region_with (go_at_call 40; refine (C.out _ (keeps_drew _)).mono ?_; rintro e w1 ⟨rfl, hb1⟩; have HB1 := Lib.hid (below_of_drew hb1); clear hb1)
                all_goals
                  go_wp2
                  go_roundw
                  case rel => exact ⟨j + 1, by omega, by go_num, HS2, hx.out.keep (keeps_below HB1.out), hy.out.keep (keeps_below HB1.out), hbe.out.trans (HB1.out.mono hbe.out.size)⟩
                  case measure => simp [intOf]; omega
            · have HS2 : Hid (sameT (.node k n s ks) (.node k n s ks') = true) := by show _ = _; rw [hsz.out, sameL_end (by omega)]
              go_wp2
              go_ret
              exact ⟨ret_b (by rw [HS2.out]), hbe.out⟩
        · have hq : ((ks.length : Int) != (ks'.length : Int)) = true := by simp; omega
          have HL := Lib.hid hl
          clear hl
          go_enter Try.func40, Try.ntmps40
          go_wp2
          go_ret
          exact ⟨ret_b (by rw [HR.out]; simp [HL.out]), ((Below.refl _ _).alloc (Nat.le_refl _) _).alloc (by simp) _⟩
      · have hq := bytes_ne hs
        have hq2 : (s.toList != s'.toList) = true := by simp [bne, hq]
        have HS := Lib.hid hs
        clear hs
        go_enter Try.func40, Try.ntmps40
        go_wp2
        go_ret
        exact ⟨ret_b (by rw [HR.out]; simp [HS.out]), ((Below.refl _ _).alloc (Nat.le_refl _) _).alloc (by simp) _⟩
    · have hq : (n != n') = true := by simp [hn]
      have HN := Lib.hid hn
      clear hn
      go_enter Try.func40, Try.ntmps40
      go_wp2
      go_ret
      exact ⟨ret_b (by rw [HR.out]; simp [HN.out]), ((Below.refl _ _).alloc (Nat.le_refl _) _).alloc (by simp) _⟩
  · have hq : (k != k') = true := by simp [hk]
    have HK := Lib.hid hk
    clear hk
    go_enter Try.func40, Try.ntmps40
    go_wp2
    go_ret
    exact ⟨ret_b (by rw [HR.out]; simp [HK.out]), ((Below.refl _ _).alloc (Nat.le_refl _) _).alloc (by simp) _⟩
end Go.Proofs.Ytofmccihehalcaa.Trm
