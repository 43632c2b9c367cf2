/- The program's SameProg, walked. Conditions: both programs are of the call's own, the first of at most 2 to the 20. -/
import Derived.Test.YtpbhoomhcdljoaaPSame
import Derived.Test.YtpbhoomhcdljoaaPOwn
import Derived.Test.YtpbhoomhcdljoaaSameStmtsImpl
namespace Go.Proofs.Ytpbhoomhcdljoaa.Trm
open Go.RowKit Own
theorem implSameProc_any (p q : PrT) (a1 a2 : Option Addr) (k1 k2 : Nat) (w : World) (hz : szPr p ≤ 1048576) (h1 : SListF w (.slice a1 p.body.length k1) p.body) (h2 : SListF w (.slice a2 q.body.length k2) q.body) :
    Calls Try.prog 34 #[.agg #[.string p.name, .slice a1 p.body.length k1], .agg #[.string q.name, .slice a2 q.body.length k2]] w fun e w' => e = .returned (.bool (samePr p q)) ∧ Below w.heap.size w w' := by
  unfold szPr at hz
  have C := Lib.hid (fun w2 (hb : Below w.heap.size w w2) => implSameStmts_any p.body q.body (.slice a1 p.body.length k1) (.slice a2 q.body.length k2) w2 (by omega) (h1.keep (keepF_below hb)) (h2.keep (keepF_below hb)))
  have HE : Hid (samePr p q = (decide (p.name = q.name) && sameXL p.body q.body)) := rfl
  clear hz h1 h2
  generalize samePr p q = rr at HE
  by_cases he : p.name = q.name
  · have HF : Hid (rr = sameXL p.body q.body) := by show _ = _; rw [HE.out]; simp [he]
    rw [← he]
    clear he HE
    go_enter Try.func34, Try.ntmps34
    go_wp2_with fail
    refine (C.out _ (((Below.refl _ _).alloc (Nat.le_refl _) _).alloc (by simp) _)).mono ?_
    rintro e w1 ⟨rfl, hb⟩
    have B1 := Lib.hid (below_box1 (below_box1 hb))
    clear hb
    go_wp2
    go_ret
    exact ⟨ret_b (by rw [HF.out]), B1.out⟩
  · have hq := bytes_ne he
    have HF : Hid (rr = false) := by show _ = _; rw [HE.out]; simp [he]
    clear he HE
    go_enter Try.func34, Try.ntmps34
    go_wp2
    go_ret
    exact ⟨ret_b (by rw [HF.out]), ((Below.refl _ _).alloc (Nat.le_refl _) _).alloc (by simp) _⟩
set_option maxHeartbeats 1600000 in
theorem implEqPrs_any (ps qs : List PrT) (va vb : Value) (w : World) (hz : szPrs ps ≤ 1048576) (ha : PrsFree w va ps) (hb : PrsFree w vb qs) :
    Calls Try.prog 33 #[va, vb, .func (.func 34) #[] #[]] w fun e w' => e = .returned (.bool (samePrs ps qs)) ∧ Below w.heap.size w w' := by
  obtain ⟨ha1, aa, ac, rfl, ha2⟩ := ha
  obtain ⟨hb1, ba, bc, rfl, hb2⟩ := hb
  have HA := Lib.hid ha2
  have HB := Lib.hid hb2
  have HZ := Lib.hid hz
  clear ha2 hb2 hz
  by_cases hl : ps.length = qs.length
  · have HL := Lib.hid hl
    have hq : ((ps.length : Int) != (qs.length : Int)) = false := by rw [hl]; simp
    clear hl
    go_enter Try.func33, Try.ntmps33
    go_wp2
    go_loopw [17] (fun i wr => ∃ j : Nat, j ≤ ps.length ∧ i = .int .i64 j ∧ Hid (samePrs ps qs = samePrs (ps.drop j) (qs.drop j)) ∧ Hid (Below w.heap.size w wr))
      (fun i _ => ps.length - (intOf i).toNat)
    case atStart => exact ⟨0, Nat.zero_le _, rfl, rfl, Below.refl _ _⟩
    case round =>
      obtain ⟨j, hj, rfl, hsz, hbe⟩ := hrel
      by_cases hlt : j < ps.length
      · have hlt2 : j < qs.length := by have := HL.out; omega
        obtain ⟨g, rfl, l1⟩ := HA.out (by omega)
        obtain ⟨h, rfl, l2⟩ := HB.out (by omega)
        obtain ⟨ka, kc, _, _, _, c0, c1, _, o1⟩ := (l1 j hlt).below hbe.out
        obtain ⟨la, lc, _, _, _, d0, d1, _, o2⟩ := (l2 j hlt2).below hbe.out
        have f1 := o1.listF
        have f2 := o2.listF
        have hzj : szPr ps[j] ≤ 1048576 := by have := szPrs_mem (List.getElem_mem hlt); have := HZ.out; omega
        have C := Lib.hid (fun (w2 : World) (hb : Below wr.heap.size wr w2) => implSameProc_any ps[j] qs[j] ka la kc lc w2 hzj (f1.keep (keepF_below hb)) (f2.keep (keepF_below hb)))
        have hd : samePrs (ps.drop j) (qs.drop j) = (samePr ps[j] qs[j] && samePrs (ps.drop (j + 1)) (qs.drop (j + 1))) := samePrs_drop hlt hlt2
        have ke := keeps_alloc wr (.cells #[.string ps[j].name, .slice ka ps[j].body.length kc] 47)
        have e0 := ke _ _ d0
        have e1 := ke _ _ d1
        clear l1 l2 f1 f2 o1 o2 ke d0 d1 hzj
        cases hq2 : samePr ps[j] qs[j] with
        | false =>
          have HS2 : Hid (samePrs ps qs = false) := by show _ = _; rw [hsz.out, hd, hq2]; rfl
          rw [hq2] at C
          clear hq2 hd
          go_wp2_with fail
          refine (C.out _ (((Below.refl _ _).alloc (Nat.le_refl _) _).alloc (by simp) _)).mono ?_
          rintro e w1 ⟨rfl, hb1⟩
          have HB1 := Lib.hid hb1
          clear hb1
          go_wp2
          go_ret
          exact ⟨ret_b (by rw [HS2.out]), hbe.out.trans ((below_box1 (below_box1 HB1.out)).mono hbe.out.size)⟩
        | true =>
          have HS2 : Hid (samePrs ps qs = samePrs (ps.drop (j + 1)) (qs.drop (j + 1))) := by show samePrs ps qs = _; rw [hsz.out, hd, hq2]; rfl
          rw [hq2] at C
          clear hq2 hd
          go_wp2_with fail
          refine (C.out _ (((Below.refl _ _).alloc (Nat.le_refl _) _).alloc (by simp) _)).mono ?_
          rintro e w1 ⟨rfl, hb1⟩
          have HB1 := Lib.hid (below_box1 (below_box1 hb1))
          clear hb1
          go_wp2
          go_roundw
          case rel => exact ⟨j + 1, by omega, by go_num, HS2, hbe.out.trans (HB1.out.mono hbe.out.size)⟩
          case measure => simp [intOf]; omega
      · have HS2 : Hid (samePrs ps qs = true) := by show _ = _; rw [hsz.out, samePrs_end (by omega) (by have := HL.out; omega)]
        go_wp2
        go_ret
        exact ⟨ret_b (by rw [HS2.out]), hbe.out⟩
  · have hq : ((ps.length : Int) != (qs.length : Int)) = true := by simp; omega
    have HL : Hid (samePrs ps qs = false) := samePrs_len hl
    clear hl
    go_enter Try.func33, Try.ntmps33
    go_wp2
    go_ret
    exact ⟨ret_b (by rw [HL.out]), Below.refl _ _⟩
set_option maxHeartbeats 800000 in
theorem implSameProg_any (x y : PTree) (v u : Value) (w : World) (hz : szP x ≤ 1048576) (hl : POwn w x v) (hm : POwn w y u) :
    Calls Try.prog 13 #[v, u] w fun e w' => e = .returned (.bool (sameP x y)) ∧ Below w.heap.size w w' := by
  obtain ⟨ga, gc, la, lc, pa, pc, rfl, h1, h2, h3⟩ := hl
  obtain ⟨gb, gd, lb, ld, qa, qc, rfl, i1, i2, i3⟩ := hm
  unfold szP at hz
  have C1 := Lib.hid (fun w hk => implEqual_any x.globals y.globals (.slice ga x.globals.length gc) (.slice gb y.globals.length gd) w (h1.1.keep hk) (i1.1.keep hk))
  have C2 := Lib.hid (fun w hk => implEqual_any x.locks y.locks (.slice la x.locks.length lc) (.slice lb y.locks.length ld) w (h2.1.keep hk) (i2.1.keep hk))
  have C3 := Lib.hid (fun w2 (hb : Below w.heap.size w w2) => implEqPrs_any x.procs y.procs (.slice pa x.procs.length pc) (.slice qa y.procs.length qc) w2 (by omega) (h3.below hb) (i3.below hb))
  have HE : Hid (sameP x y = (sameNs x.globals y.globals && (sameNs x.locks y.locks && samePrs x.procs y.procs))) := rfl
  have X0 := Lib.hid ((Box3.new w (.slice ga x.globals.length gc) (.slice la x.locks.length lc) (.slice pa x.procs.length pc) 30).keep (keeps_alloc _ (.cells #[.slice gb y.globals.length gd, .slice lb y.locks.length ld, .slice qa y.procs.length qc] 30)))
  have Y0 := Lib.hid (Box3.new (w.alloc (.cells #[.slice ga x.globals.length gc, .slice la x.locks.length lc, .slice pa x.procs.length pc] 30)) (.slice gb y.globals.length gd) (.slice lb y.locks.length ld) (.slice qa y.procs.length qc) 30)
  have hsz0 : (w.alloc (.cells #[.slice ga x.globals.length gc, .slice la x.locks.length lc, .slice pa x.procs.length pc] 30)).heap.size = w.heap.size + 1 := by simp
  rw [hsz0] at Y0
  clear h1 h2 h3 i1 i2 i3 hz hsz0
  generalize sameP x y = rr at HE
  generalize sameNs x.globals y.globals = r1 at HE C1
  generalize sameNs x.locks y.locks = r2 at HE C2
  generalize samePrs x.procs y.procs = r3 at HE C3
  go_enter Try.func13, Try.ntmps13
  go_wp2_with fail
  refine (C1.out _ ((keeps_alloc _ _).trans (keeps_alloc _ _))).mono ?_
  rintro e w1 ⟨rfl, hb⟩
  have B1 := Lib.hid (below_box1 (below_box1 hb))
  have K1 := Lib.hid (((keeps_alloc w _).trans (keeps_alloc _ _)).trans (keeps_below hb))
  have X1 := Lib.hid (X0.out.keep (keeps_below hb))
  have Y1 := Lib.hid (Y0.out.keep (keeps_below hb))
  obtain ⟨p0, p1, p2⟩ := X1.out
  obtain ⟨q0, q1, q2⟩ := Y1.out
  clear hb X0 Y0
  cases r1 with
  | false =>
    have HF : Hid (rr = false) := by show _ = _; rw [HE.out]; rfl
    clear HE
    go_wp2
    go_ret
    exact ⟨ret_b (by rw [HF.out]), B1.out⟩
  | true =>
    go_wp2_with fail
    refine (C2.out _ K1.out).mono ?_
    rintro e w2 ⟨rfl, hb⟩
    have B2 := Lib.hid (B1.out.trans (hb.mono B1.out.size))
    have X2 := Lib.hid (X1.out.keep (keeps_below hb))
    have Y2 := Lib.hid (Y1.out.keep (keeps_below hb))
    clear hb p0 p1 p2 q0 q1 q2
    obtain ⟨p0, p1, p2⟩ := X2.out
    obtain ⟨q0, q1, q2⟩ := Y2.out
    cases r2 with
    | false =>
      have HF : Hid (rr = false) := by show _ = _; rw [HE.out]; rfl
      clear HE
      go_wp2
      go_ret
      exact ⟨ret_b (by rw [HF.out]), B2.out⟩
    | true =>
      have HF : Hid (rr = r3) := by show _ = _; rw [HE.out]; rfl
      clear HE
      go_wp2_with fail
      refine (C3.out _ B2.out).mono ?_
      rintro e w3 ⟨rfl, hb⟩
      have B3 := Lib.hid (B2.out.trans (hb.mono B2.out.size))
      clear hb
      go_wp2
      go_ret
      exact ⟨ret_b (by rw [HF.out]), B3.out⟩
end Go.Proofs.Ytpbhoomhcdljoaa.Trm
