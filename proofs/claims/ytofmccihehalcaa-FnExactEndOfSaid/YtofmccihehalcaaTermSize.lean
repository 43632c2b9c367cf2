/- The laws' count of a term's names and kids, walked. Conditions: the term lies in memory; the room left is at most 2 to the 20. -/
import Derived.Test.YtofmccihehalcaaChecked
import Derived.Test.YtofmccihehalcaaTrees
import Derived.WalkSmall
import Derived.Outline
namespace Go.Proofs.Ytofmccihehalcaa.Trm
open Go.RowKit Own
mutual
def szT : Tree → Nat
  | .node _ _ s ks => s.size + (ks.length + szS ks)
def szS : List Tree → Nat
  | [] => 0
  | t :: ts => szT t + szS ts
end
theorem szT_eq (t : Tree) : szT t = t.name.size + (t.kids.length + szS t.kids) := by cases t; rfl
theorem szS_drop {ks : List Tree} {i : Nat} (h : i < ks.length) : szS (ks.drop i) = szT ks[i] + szS (ks.drop (i + 1)) := by rw [List.drop_eq_getElem_cons h, szS]
theorem szS_end {ks : List Tree} {i : Nat} (h : ks.length ≤ i) : szS (ks.drop i) = 0 := by rw [List.drop_of_length_le h, szS]
/-- What is left of so much, or -1. -/
def leftR (a n : Nat) : Int := if n ≤ a then ((a - n : Nat) : Int) else -1
theorem leftR_yes {a n : Nat} (h : n ≤ a) : leftR a n = ((a - n : Nat) : Int) := by unfold leftR; rw [if_pos h]
theorem leftR_no {a n : Nat} (h : a < n) : leftR a n = -1 := by unfold leftR; rw [if_neg (by omega)]
theorem leftR_step {a m n : Nat} (h : m ≤ a) : leftR a (m + n) = leftR (a - m) n := by
  unfold leftR
  by_cases hn : n ≤ a - m
  · rw [if_pos hn, if_pos (by omega)]; congr 1; omega
  · rw [if_neg hn, if_neg (by omega)]
def SzOk (t : Tree) : Prop := ∀ (v : Value) (w : World) (a : Nat), a ≤ 1048576 → Lies w t v →
    Calls Try.prog 33 #[v, .int .i64 (a : Int)] w fun e w' => e = .returned (.int .i64 (leftR a (szT t))) ∧ Below w.heap.size w w'
theorem szS_any (ks : List Tree) (ih : ∀ t, t ∈ ks → SzOk t) (aa : Option Addr) (cap : Nat) (w : World) (a : Nat) (ha : a ≤ 1048576) (hlen : ks.length ≤ 9223372036854775807) (hk : 0 < ks.length → ∃ g o, aa = some ⟨g, o, none⟩ ∧ LiesL w g o ks) :
    Calls Try.prog 51 #[.slice aa ks.length cap, .int .i64 (a : Int)] w fun e w' => e = .returned (.int .i64 (leftR a (ks.length + szS ks))) ∧ Below w.heap.size w w' := by
  have IH := Lib.hid ih
  have HK := Lib.hid hk
  clear ih hk
  by_cases hb : a < ks.length
  · have HO := Lib.hid (leftR_no (a := a) (n := ks.length + szS ks) (by omega))
    go_enter Try.func51, Try.ntmps51
    go_wp2
    go_ret
    exact ⟨by rw [HO.out]; rfl, Below.refl _ _⟩
  · go_enter Try.func51, Try.ntmps51
    go_wp2
    go_loopw [1, 5] (fun x i wr => ∃ (k b : Nat), k ≤ ks.length ∧ b ≤ 1048576 ∧ i = .int .i64 k ∧ x = .int .i64 b ∧ Hid (leftR a (ks.length + szS ks) = leftR b (szS (ks.drop k))) ∧ Hid (Below w.heap.size w wr))
      (fun _ i _ => ks.length - (intOf i).toNat)
    case atStart => exact ⟨0, a - ks.length, Nat.zero_le _, by omega, rfl, by go_num, leftR_step (by omega), Below.refl _ _⟩
    case round =>
      obtain ⟨k, b, hk, hb2, rfl, rfl, hsz, hbe⟩ := hrel
      by_cases hlt : k < ks.length
      · obtain ⟨g, o, rfl, hl⟩ := HK.out (by omega)
        obtain ⟨ka, kc, c0, c1, c2, c3, hl2⟩ := (hl.keep (keeps_below hbe.out)).at k hlt
        have C := Lib.hid (IH.out ks[k] (List.getElem_mem hlt) _ wr b hb2 hl2)
        have hd := szS_drop hlt
        by_cases hle : szT ks[k] ≤ b
        · have HS : Hid (leftR a (ks.length + szS ks) = leftR (b - szT ks[k]) (szS (ks.drop (k + 1)))) := by
            show leftR a (ks.length + szS ks) = _
            rw [hsz.out, hd]; exact leftR_step hle
          rw [leftR_yes hle] at C
          clear hl hl2 hd
          go_wp2_with fail
          refine C.out.mono ?_
          rintro e w1 ⟨rfl, hb1⟩
          have HB1 := Lib.hid (hbe.out.trans (hb1.mono hbe.out.size))
          clear hb1
          go_wp2
          go_roundw
          case rel => exact ⟨k + 1, b - szT ks[k], by omega, by omega, by go_num, rfl, HS, HB1⟩
          case measure => simp [intOf]; omega
        · have HS : Hid (leftR a (ks.length + szS ks) = -1) := by
            show leftR a (ks.length + szS ks) = _
            rw [hsz.out, hd]; exact leftR_no (by omega)
          rw [leftR_no (by omega)] at C
          clear hl hl2 hd
          go_wp2_with fail
          refine C.out.mono ?_
          rintro e w1 ⟨rfl, hb1⟩
          have HB1 := Lib.hid (hbe.out.trans (hb1.mono hbe.out.size))
          clear hb1
          go_wp2
          go_ret
          exact ⟨by rw [HS.out]; rfl, HB1.out⟩
      · have HS : Hid (leftR a (ks.length + szS ks) = (b : Int)) := by
          show leftR a (ks.length + szS ks) = _
          rw [hsz.out, szS_end (by omega), leftR_yes (by omega)]; rfl
        go_wp2
        go_ret
        exact ⟨by rw [HS.out]; rfl, hbe.out⟩
theorem szTerm_any : ∀ t : Tree, SzOk t := treeInd fun k n s ks ih v w a ha hl => by
  obtain ⟨h1, h2, h3, h4, aa, cap, rfl, h5⟩ := hl
  have C := Lib.hid (szS_any ks ih aa cap)
  have H5 := Lib.hid h5
  clear ih h5
  by_cases hb : a < s.size
  · have HS : Hid (leftR a (szT (.node k n s ks)) = -1) := leftR_no (by rw [szT]; omega)
    go_enter Try.func33, Try.ntmps33
    go_wp2
    go_ret
    exact ⟨by rw [HS.out]; rfl, (Below.refl _ _).alloc (Nat.le_refl _) _⟩
  · have HS : Hid (leftR a (szT (.node k n s ks)) = leftR (a - s.size) (ks.length + szS ks)) := by
      show leftR a (szT (.node k n s ks)) = _
      rw [szT]; exact leftR_step (by omega)
    have hsub : ((a : Int) - (s.size : Int)) = ((a - s.size : Nat) : Int) := by omega
    have HSub := Lib.hid hsub
    clear hsub
    go_enter Try.func33, Try.ntmps33
    go_wp2_with fail
    rw [HSub.out]
    refine (C.out _ (a - s.size) (by omega) h4 (fun h => by obtain ⟨g, o, e, hl⟩ := H5.out h; exact ⟨g, o, e, hl.keep (keeps_alloc _ _)⟩)).mono ?_
    rintro e w1 ⟨rfl, hb1⟩
    have HB1 := Lib.hid ((((Below.refl w.heap.size w).alloc (Nat.le_refl _) _).trans (hb1.mono (by simp))))
    clear hb1
    by_cases hle : ks.length + szS ks ≤ a - s.size
    · have HL := Lib.hid (leftR_yes hle)
      rw [leftR_yes hle]
      go_wp2
      go_ret
      exact ⟨by rw [HS.out, HL.out]; rfl, HB1.out⟩
    · have HL := Lib.hid (leftR_no (a := a - s.size) (n := ks.length + szS ks) (by omega))
      rw [HL.out]
      go_wp2
      go_ret
      exact ⟨by rw [HS.out, HL.out]; rfl, HB1.out⟩
end Go.Proofs.Ytofmccihehalcaa.Trm
