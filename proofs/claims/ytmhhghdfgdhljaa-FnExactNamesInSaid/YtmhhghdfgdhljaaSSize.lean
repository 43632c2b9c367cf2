/- The laws' count of a statement's names and what is within it, walked. Conditions: the statement lies in memory; the room left is at most 2 to the 20. -/
import Derived.Test.YtmhhghdfgdhljaaChecked
import Derived.Test.YtmhhghdfgdhljaaSTrees
import Derived.Test.YtmhhghdfgdhljaaTermSize
import Derived.WalkSmall
import Derived.Outline
namespace Go.Proofs.Ytmhhghdfgdhljaa.Trm
open Go.RowKit Own
def SzXOk (x : STree) : Prop := ∀ (v : Value) (w : World) (a : Nat), a ≤ 1048576 → SLies w x v →
    Calls Try.prog 20 #[v, .int .i64 (a : Int)] w fun e w' => e = .returned (.int .i64 (leftR a (szX x))) ∧ Below w.heap.size w w'
theorem szXS_any (xs : List STree) (ih : ∀ x, x ∈ xs → SzXOk x) (v : Value) (w : World) (a : Nat) (ha : a ≤ 1048576) (hl : SListAt w v xs) :
    Calls Try.prog 25 #[v, .int .i64 (a : Int)] w fun e w' => e = .returned (.int .i64 (leftR a (xs.length + szXS xs))) ∧ Below w.heap.size w w' := by
  obtain ⟨hlen, aa, cap, rfl, hk⟩ := hl
  have IH := Lib.hid ih
  have HK := Lib.hid hk
  clear ih hk
  by_cases hb : a < xs.length
  · have HO := Lib.hid (leftR_no (a := a) (n := xs.length + szXS xs) (by omega))
    go_enter Try.func25, Try.ntmps25
    go_wp2
    go_ret
    exact ⟨by rw [HO.out]; rfl, Below.refl _ _⟩
  · go_enter Try.func25, Try.ntmps25
    go_wp2
    go_loopw [1, 5] (fun x i wr => ∃ (k b : Nat), k ≤ xs.length ∧ b ≤ 1048576 ∧ i = .int .i64 k ∧ x = .int .i64 b ∧ Hid (leftR a (xs.length + szXS xs) = leftR b (szXS (xs.drop k))) ∧ Hid (Below w.heap.size w wr))
      (fun _ i _ => xs.length - (intOf i).toNat)
    case atStart => exact ⟨0, a - xs.length, Nat.zero_le _, by omega, rfl, by go_num, leftR_step (by omega), Below.refl _ _⟩
    case round =>
      obtain ⟨k, b, hk, hb2, rfl, rfl, hsz, hbe⟩ := hrel
      by_cases hlt : k < xs.length
      · obtain ⟨g, o, rfl, hl⟩ := HK.out (by omega)
        obtain ⟨ta, tc, ba, bc, ea, ec, c0, c1, c2, c3, c4, c5, c6, c7, hl2⟩ := (hl.keep (keeps_below hbe.out)).at k hlt
        have C := Lib.hid (IH.out xs[k] (List.getElem_mem hlt) _ wr b hb2 hl2)
        have hd := szXS_drop hlt
        by_cases hle : szX xs[k] ≤ b
        · have HS : Hid (leftR a (xs.length + szXS xs) = leftR (b - szX xs[k]) (szXS (xs.drop (k + 1)))) := by
            show leftR a (xs.length + szXS xs) = _
            rw [hsz.out, hd]; exact leftR_step hle
          rw [leftR_yes hle] at C
          clear hl hl2 hd
          go_wp2_with fail
          refine C.out.mono ?_
          rintro e w1 ⟨rfl, hb1⟩
          have HB1 := Lib.hid (hbe.out.trans (hb1.mono hbe.out.size))
          clear hb1
          go_wp2
          go_roundw
          case rel => exact ⟨k + 1, b - szX xs[k], by omega, by omega, by go_num, rfl, HS, HB1⟩
          case measure => simp [intOf]; omega
        · have HS : Hid (leftR a (xs.length + szXS xs) = -1) := by
            show leftR a (xs.length + szXS xs) = _
            rw [hsz.out, hd]; exact leftR_no (by omega)
          rw [leftR_no (by omega)] at C
          clear hl hl2 hd
          go_wp2_with fail
          refine C.out.mono ?_
          rintro e w1 ⟨rfl, hb1⟩
          have HB1 := Lib.hid (hbe.out.trans (hb1.mono hbe.out.size))
          clear hb1
          go_wp2
          go_ret
          exact ⟨by rw [HS.out]; rfl, HB1.out⟩
      · have HS : Hid (leftR a (xs.length + szXS xs) = (b : Int)) := by
          show leftR a (xs.length + szXS xs) = _
          rw [hsz.out, szXS_end (by omega), leftR_yes (by omega)]; rfl
        go_wp2
        go_ret
        exact ⟨by rw [HS.out]; rfl, hbe.out⟩
set_option maxHeartbeats 800000 in
theorem szStmt_any : ∀ x : STree, SzXOk x := streeInd fun k s t b e ihb ihe v w a ha hl => by
  obtain ⟨h1, h2, h3, h4, ta, tc, ba, bc, ea, ec, rfl, h5, h6, h7⟩ := hl
  have CT := Lib.hid (fun w a ha hk => szTerm_any t _ w a ha (h5.keep hk))
  have CB := Lib.hid (fun w a ha hk => szXS_any b ihb (.slice ba b.length bc) w a ha (SListAt.keep ⟨h3, _, _, rfl, h6⟩ hk))
  have CE := Lib.hid (fun w a ha hk => szXS_any e ihe (.slice ea e.length ec) w a ha (SListAt.keep ⟨h4, _, _, rfl, h7⟩ hk))
  have X0 := Lib.hid (Box8.new w (.int .i64 k) (.string s) (.int .i64 t.kind) (.int .i64 t.num) (.string t.name) (.slice ta t.kids.length tc) (.slice ba b.length bc) (.slice ea e.length ec) 42)
  clear ihb ihe h5 h6 h7
  by_cases hb : a < s.size
  · have HS : Hid (leftR a (szX (.node k s t b e)) = -1) := leftR_no (by rw [szX]; omega)
    go_enter Try.func20, Try.ntmps20
    go_wp2
    go_ret
    exact ⟨by rw [HS.out]; rfl, (Below.refl _ _).alloc (Nat.le_refl _) _⟩
  · have hsub : ((a : Int) - (s.size : Int)) = ((a - s.size : Nat) : Int) := by omega
    have HSub := Lib.hid hsub
    have HS : Hid (leftR a (szX (.node k s t b e)) = leftR (a - s.size) (szT t + ((b.length + szXS b) + (e.length + szXS e)))) := by
      show leftR a (szX (.node k s t b e)) = _
      rw [szX]; exact leftR_step (by omega)
    have ha1 : a - s.size ≤ 1048576 := by omega
    clear hsub
    go_enter Try.func20, Try.ntmps20
    go_wp2_with fail
    rw [HSub.out]
    generalize a - s.size = a1 at HS ha1
    refine (CT.out _ a1 ha1 (keeps_alloc _ _)).mono ?_
    rintro e1 w1 ⟨rfl, hb1⟩
    have B1 := Lib.hid (below_box1 hb1)
    have K1 := Lib.hid ((keeps_alloc w _).trans (keeps_below hb1))
    obtain ⟨p0, p1, p2, p3, p4, p5, p6, p7⟩ := X0.out.keep (keeps_below hb1)
    clear hb1
    by_cases hle : szT t ≤ a1
    · have HS1 : Hid (leftR a (szX (.node k s t b e)) = leftR (a1 - szT t) ((b.length + szXS b) + (e.length + szXS e))) := by show leftR a (szX (.node k s t b e)) = _; rw [HS.out]; exact leftR_step hle
      have ha2 : a1 - szT t ≤ 1048576 := by omega
      rw [leftR_yes hle]
      generalize a1 - szT t = a2 at HS1 ha2
      go_wp2_with fail
      refine (CB.out _ a2 ha2 K1.out).mono ?_
      rintro e2 w2 ⟨rfl, hb2⟩
      have B2 := Lib.hid (B1.out.trans (hb2.mono B1.out.size))
      have K2 := Lib.hid (K1.out.trans (keeps_below hb2))
      have X2 := Lib.hid ((Box8.keep ⟨p0, p1, p2, p3, p4, p5, p6, p7⟩ (keeps_below hb2)))
      clear hb2 p0 p1 p2 p3 p4 p5 p6 p7
      obtain ⟨p0, p1, p2, p3, p4, p5, p6, p7⟩ := X2.out
      by_cases hle2 : b.length + szXS b ≤ a2
      · have HS2 : Hid (leftR a (szX (.node k s t b e)) = leftR (a2 - (b.length + szXS b)) (e.length + szXS e)) := by show leftR a (szX (.node k s t b e)) = _; rw [HS1.out]; exact leftR_step hle2
        have ha3 : a2 - (b.length + szXS b) ≤ 1048576 := by omega
        rw [leftR_yes hle2]
        generalize a2 - (b.length + szXS b) = a3 at HS2 ha3
        go_wp2_with fail
        refine (CE.out _ a3 ha3 K2.out).mono ?_
        rintro e3 w3 ⟨rfl, hb3⟩
        have B3 := Lib.hid (B2.out.trans (hb3.mono B2.out.size))
        clear hb3
        by_cases hle3 : e.length + szXS e ≤ a3
        · have HL := Lib.hid (leftR_yes hle3)
          rw [leftR_yes hle3]
          go_wp2
          go_ret
          exact ⟨by rw [HS2.out, HL.out]; rfl, B3.out⟩
        · have HL := Lib.hid (leftR_no (a := a3) (n := e.length + szXS e) (by omega))
          rw [HL.out]
          go_wp2
          go_ret
          exact ⟨by rw [HS2.out, HL.out]; rfl, B3.out⟩
      · have HL := Lib.hid (leftR_no (a := a2) (n := b.length + szXS b) (by omega))
        have HS2 : Hid (leftR a (szX (.node k s t b e)) = -1) := by show leftR a (szX (.node k s t b e)) = _; rw [HS1.out]; exact leftR_no (by omega)
        rw [HL.out]
        go_wp2
        go_ret
        exact ⟨by rw [HS2.out]; rfl, B2.out⟩
    · have HL := Lib.hid (leftR_no (a := a1) (n := szT t) (by omega))
      have HS2 : Hid (leftR a (szX (.node k s t b e)) = -1) := by show leftR a (szX (.node k s t b e)) = _; rw [HS.out]; exact leftR_no (by omega)
      rw [HL.out]
      go_wp2
      go_ret
      exact ⟨by rw [HS2.out]; rfl, B1.out⟩
end Go.Proofs.Ytmhhghdfgdhljaa.Trm
