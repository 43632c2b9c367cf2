/- The laws' count of a program's names and statements, walked. Conditions: the program lies in memory; the room left is at most 2 to the 20. -/
import Derived.Test.YtpbhoomhcdljoaaChecked
import Derived.Test.YtpbhoomhcdljoaaPTrees
import Derived.Test.YtpbhoomhcdljoaaSSize
import Derived.Test.YtpbhoomhcdljoaaListCalls
namespace Go.Proofs.Ytpbhoomhcdljoaa.Trm
open Go.RowKit Own
theorem szProc_any (p : PrT) (v : Value) (w : World) (a : Nat) (ha : a ≤ 1048576) (hl : PrLies w p v) :
    Calls Try.prog 38 #[v, .int .i64 (a : Int)] w fun e w' => e = .returned (.int .i64 (leftR a (szPr p))) ∧ Below w.heap.size w w' := by
  obtain ⟨h1, ba, bc, rfl, h6⟩ := hl
  have CB := Lib.hid (fun w a ha hk => szXS_any p.body (fun x _ => szStmt_any x) (.slice ba p.body.length bc) w a ha (h6.keep hk))
  have X0 := Lib.hid (Box2.new w (.string p.name) (.slice ba p.body.length bc) 60)
  clear h6
  by_cases hb : a < p.name.size
  · have HS : Hid (leftR a (szPr p) = -1) := leftR_no (by rw [szPr]; omega)
    go_enter Try.func38, Try.ntmps38
    go_wp2
    go_ret
    exact ⟨by rw [HS.out]; rfl, (Below.refl _ _).alloc (Nat.le_refl _) _⟩
  · have hsub : ((a : Int) - (p.name.size : Int)) = ((a - p.name.size : Nat) : Int) := by omega
    have HSub := Lib.hid hsub
    have HS : Hid (leftR a (szPr p) = leftR (a - p.name.size) (p.body.length + szXS p.body)) := by
      show leftR a (szPr p) = _
      rw [szPr]; exact leftR_step (by omega)
    have ha1 : a - p.name.size ≤ 1048576 := by omega
    clear hsub
    go_enter Try.func38, Try.ntmps38
    go_wp2_with fail
    rw [HSub.out]
    generalize a - p.name.size = a1 at HS ha1
    refine (CB.out _ a1 ha1 (keeps_alloc _ _)).mono ?_
    rintro e1 w1 ⟨rfl, hb1⟩
    have B1 := Lib.hid (below_box1 hb1)
    clear hb1
    by_cases hle : p.body.length + szXS p.body ≤ a1
    · have HL := Lib.hid (leftR_yes hle)
      rw [leftR_yes hle]
      go_wp2
      go_ret
      exact ⟨by rw [HS.out, HL.out]; rfl, B1.out⟩
    · have HL := Lib.hid (leftR_no (a := a1) (n := p.body.length + szXS p.body) (by omega))
      rw [HL.out]
      go_wp2
      go_ret
      exact ⟨by rw [HS.out, HL.out]; rfl, B1.out⟩
theorem szPrs_any (xs : List PrT) (v : Value) (w : World) (a : Nat) (ha : a ≤ 1048576) (hl : PrsAt w v xs) :
    Calls Try.prog 21 #[v, .int .i64 (a : Int)] w fun e w' => e = .returned (.int .i64 (leftR a (xs.length + szPrs xs))) ∧ Below w.heap.size w w' := by
  obtain ⟨hlen, aa, cap, rfl, hk⟩ := hl
  have HK := Lib.hid hk
  clear hk
  by_cases hb : a < xs.length
  · have HO := Lib.hid (leftR_no (a := a) (n := xs.length + szPrs xs) (by omega))
    go_enter Try.func21, Try.ntmps21
    go_wp2
    go_ret
    exact ⟨by rw [HO.out]; rfl, Below.refl _ _⟩
  · go_enter Try.func21, Try.ntmps21
    go_wp2
    go_loopw [1, 5] (fun x i wr => ∃ (k b : Nat), k ≤ xs.length ∧ b ≤ 1048576 ∧ i = .int .i64 k ∧ x = .int .i64 b ∧ Hid (leftR a (xs.length + szPrs xs) = leftR b (szPrs (xs.drop k))) ∧ Hid (Below w.heap.size w wr))
      (fun _ i _ => xs.length - (intOf i).toNat)
    case atStart => exact ⟨0, a - xs.length, Nat.zero_le _, by omega, rfl, by go_num, leftR_step (by omega), Below.refl _ _⟩
    case round =>
      obtain ⟨k, b, hk, hb2, rfl, rfl, hsz, hbe⟩ := hrel
      by_cases hlt : k < xs.length
      · obtain ⟨g, o, rfl, hl⟩ := HK.out (by omega)
        obtain ⟨h0, ba, bc, c0, c1, hl2⟩ := (hl k hlt).keep (keeps_below hbe.out)
        have C := Lib.hid (szProc_any xs[k] _ wr b hb2 ⟨h0, ba, bc, rfl, hl2⟩)
        have hd := szPrs_drop hlt
        by_cases hle : szPr xs[k] ≤ b
        · have HS : Hid (leftR a (xs.length + szPrs xs) = leftR (b - szPr xs[k]) (szPrs (xs.drop (k + 1)))) := by
            show leftR a (xs.length + szPrs xs) = _
            rw [hsz.out, hd]; exact leftR_step hle
          rw [leftR_yes hle] at C
          clear hl hl2 hd
          go_wp2_with fail
          refine C.out.mono ?_
          rintro e w1 ⟨rfl, hb1⟩
          have HB1 := Lib.hid (hbe.out.trans (hb1.mono hbe.out.size))
          clear hb1
          go_wp2
          go_roundw
          case rel => exact ⟨k + 1, b - szPr xs[k], by omega, by omega, by go_num, rfl, HS, HB1⟩
          case measure => simp [intOf]; omega
        · have HS : Hid (leftR a (xs.length + szPrs xs) = -1) := by
            show leftR a (xs.length + szPrs xs) = _
            rw [hsz.out, hd]; exact leftR_no (by omega)
          rw [leftR_no (by omega)] at C
          clear hl hl2 hd
          go_wp2_with fail
          refine C.out.mono ?_
          rintro e w1 ⟨rfl, hb1⟩
          have HB1 := Lib.hid (hbe.out.trans (hb1.mono hbe.out.size))
          clear hb1
          go_wp2
          go_ret
          exact ⟨by rw [HS.out]; rfl, HB1.out⟩
      · have HS : Hid (leftR a (xs.length + szPrs xs) = (b : Int)) := by
          show leftR a (xs.length + szPrs xs) = _
          rw [hsz.out, szPrs_end (by omega), leftR_yes (by omega)]; rfl
        go_wp2
        go_ret
        exact ⟨by rw [HS.out]; rfl, hbe.out⟩
theorem szNs_eq (ss : List ByteArray) : szNs ss = szB ss := rfl
set_option maxHeartbeats 800000 in
theorem szProg_any (x : PTree) (v : Value) (w : World) (a : Nat) (ha : a ≤ 1048576) (hl : PLies w x v) :
    Calls Try.prog 7 #[v, .int .i64 (a : Int)] w fun e w' => e = .returned (.int .i64 (leftR a (szP x))) ∧ Below w.heap.size w w' := by
  obtain ⟨ga, gc, la, lc, pa, pc, rfl, h1, h2, h3⟩ := hl
  have C1 := Lib.hid (fun w a ha hk => szStrings_any x.globals (.slice ga x.globals.length gc) w a ha (h1.1.keep hk) h1.2)
  have C2 := Lib.hid (fun w a ha hk => szStrings_any x.locks (.slice la x.locks.length lc) w a ha (h2.1.keep hk) h2.2)
  have C3 := Lib.hid (fun w a ha hk => szPrs_any x.procs (.slice pa x.procs.length pc) w a ha (h3.keep hk))
  have X0 := Lib.hid (Box3.new w (.slice ga x.globals.length gc) (.slice la x.locks.length lc) (.slice pa x.procs.length pc) 25)
  clear h1 h2 h3
  have HE : Hid (szP x = (x.globals.length + szB x.globals) + ((x.locks.length + szB x.locks) + (x.procs.length + szPrs x.procs))) := rfl
  generalize szP x = n at HE
  generalize x.globals.length + szB x.globals = n1 at HE C1
  generalize x.locks.length + szB x.locks = n2 at HE C2
  generalize x.procs.length + szPrs x.procs = n3 at HE C3
  obtain rfl := HE.out
  clear HE
  have B0 := Lib.hid ((Below.refl w.heap.size w).alloc (Nat.le_refl _) (.cells #[.slice ga x.globals.length gc, .slice la x.locks.length lc, .slice pa x.procs.length pc] 25))
  go_enter Try.func7, Try.ntmps7
  go_wp2_with fail
  refine (C1.out _ a ha (keeps_alloc _ _)).mono ?_
  rintro e1 w1 ⟨rfl, rfl⟩
  obtain ⟨p0, p1, p2⟩ := X0.out
  by_cases hle : n1 ≤ a
  · have HS1 : Hid (leftR a (n1 + (n2 + n3)) = leftR (a - n1) (n2 + n3)) := leftR_step hle
    have ha2 : a - n1 ≤ 1048576 := by omega
    rw [leftR_yes hle]
    generalize a - n1 = a2 at HS1 ha2
    go_wp2_with fail
    refine (C2.out _ a2 ha2 (keeps_alloc _ _)).mono ?_
    rintro e2 w2 ⟨rfl, rfl⟩
    by_cases hle2 : n2 ≤ a2
    · have HS2 : Hid (leftR a (n1 + (n2 + n3)) = leftR (a2 - n2) n3) := by show _ = _; rw [HS1.out]; exact leftR_step hle2
      have ha3 : a2 - n2 ≤ 1048576 := by omega
      rw [leftR_yes hle2]
      generalize a2 - n2 = a3 at HS2 ha3
      go_wp2_with fail
      refine (C3.out _ a3 ha3 (keeps_alloc _ _)).mono ?_
      rintro e3 w3 ⟨rfl, hb3⟩
      have B3 := Lib.hid (below_box1 hb3)
      clear hb3
      by_cases hle3 : n3 ≤ a3
      · have HL := Lib.hid (leftR_yes hle3)
        rw [leftR_yes hle3]
        go_wp2
        go_ret
        exact ⟨by rw [HS2.out, HL.out]; rfl, B3.out⟩
      · have HL := Lib.hid (leftR_no (a := a3) (n := n3) (by omega))
        rw [HL.out]
        go_wp2
        go_ret
        exact ⟨by rw [HS2.out, HL.out]; rfl, B3.out⟩
    · have HL := Lib.hid (leftR_no (a := a2) (n := n2) (by omega))
      have HS2 : Hid (leftR a (n1 + (n2 + n3)) = -1) := by show _ = _; rw [HS1.out]; exact leftR_no (by omega)
      rw [HL.out]
      go_wp2
      go_ret
      exact ⟨by rw [HS2.out]; rfl, B0.out⟩
  · have HL := Lib.hid (leftR_no (a := a) (n := n1) (by omega))
    have HS2 : Hid (leftR a (n1 + (n2 + n3)) = -1) := leftR_no (by omega)
    rw [HL.out]
    go_wp2
    go_ret
    exact ⟨by rw [HS2.out]; rfl, B0.out⟩
end Go.Proofs.Ytpbhoomhcdljoaa.Trm
