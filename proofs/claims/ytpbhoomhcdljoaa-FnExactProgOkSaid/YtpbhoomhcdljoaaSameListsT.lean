/- The program's holding of lists of terms against each other, walked. Conditions: both lists lie in rows that are not frozen; there is no more to do than 3 millions. -/
import Derived.Test.YtpbhoomhcdljoaaSameWorldT
namespace Go.Proofs.Ytpbhoomhcdljoaa.SpT
open Go.RowKit Own Trm Km
theorem below_al {W wx : World} (h : Below W.heap.size W wx) (o : Obj) : Below W.heap.size W (wx.alloc o) := h.alloc h.size _
theorem kid_two {p : PairL} {i j : Nat} (h1 : i < p.1.length) (h2 : i < p.2.length) (h3 : j < (KT.wi p.1[i]).length) (h4 : j < (KT.wi p.2[i]).length) : Lg.kid KT p i j = ((KT.wi p.1[i])[j], (KT.wi p.2[i])[j]) := Lg.kid_eq h1 h2 h3 h4
/-- Four cells that may be written. -/
structure Four (w : World) (b : Nat) : Prop where
  out : w.cell? ⟨b, 0, none⟩ = some (.pointer none) ∧ w.cell? ⟨b, 1, none⟩ = some (.int .i64 0) ∧ w.cell? ⟨b, 2, none⟩ = some (.pointer none) ∧ w.cell? ⟨b, 3, none⟩ = some (.int .i64 0) ∧ w.frozen? ⟨b, 0, none⟩ = false ∧ w.frozen? ⟨b, 1, none⟩ = false ∧ w.frozen? ⟨b, 2, none⟩ = false ∧ w.frozen? ⟨b, 3, none⟩ = false
theorem Four.new (w : World) : Four (w.alloc (.cells #[.pointer none, .int .i64 0, .pointer none, .int .i64 0] 158)) w.heap.size := ⟨by refine ⟨?_, ?_, ?_, ?_, ?_, ?_, ?_, ?_⟩ <;> simp [go_sem]⟩
theorem Four.newd (w : World) : Four (w.alloc (.cells #[.pointer none, .int .i64 0, .pointer none, .int .i64 0] 158)).drew w.heap.size := ⟨(Four.new w).out⟩
theorem below_set4 {W w0 wx : World} (h : Below W.heap.size W wx) (h0 : Below W.heap.size W w0) (a b c d : Value) : Below W.heap.size W ((((wx.setCell ⟨w0.heap.size, 0, none⟩ a).setCell ⟨w0.heap.size, 1, none⟩ b).setCell ⟨w0.heap.size, 2, none⟩ c).setCell ⟨w0.heap.size, 3, none⟩ d) :=
  (((h.setCell h0.size _).setCell h0.size _).setCell h0.size _).setCell h0.size _
theorem set4_cells {w : World} {B : Nat} (h : Four w B) (a b c d : Value) : ((((w.setCell ⟨B, 0, none⟩ a).setCell ⟨B, 1, none⟩ b).setCell ⟨B, 2, none⟩ c).setCell ⟨B, 3, none⟩ d).cell? ⟨B, 0, none⟩ = some a ∧ ((((w.setCell ⟨B, 0, none⟩ a).setCell ⟨B, 1, none⟩ b).setCell ⟨B, 2, none⟩ c).setCell ⟨B, 3, none⟩ d).cell? ⟨B, 1, none⟩ = some b ∧ ((((w.setCell ⟨B, 0, none⟩ a).setCell ⟨B, 1, none⟩ b).setCell ⟨B, 2, none⟩ c).setCell ⟨B, 3, none⟩ d).cell? ⟨B, 2, none⟩ = some c ∧ ((((w.setCell ⟨B, 0, none⟩ a).setCell ⟨B, 1, none⟩ b).setCell ⟨B, 2, none⟩ c).setCell ⟨B, 3, none⟩ d).cell? ⟨B, 3, none⟩ = some d := by
  obtain ⟨q0, q1, q2, q3, _⟩ := h.out
  refine ⟨?_, ?_, ?_, ?_⟩ <;> simp [go_sem, q0, q1, q2, q3]
theorem al4_cells (w : World) (a b c d : Value) : (w.alloc (.cells #[a, b, c, d] 158)).cell? ⟨w.heap.size, 0, none⟩ = some a ∧ (w.alloc (.cells #[a, b, c, d] 158)).cell? ⟨w.heap.size, 1, none⟩ = some b ∧ (w.alloc (.cells #[a, b, c, d] 158)).cell? ⟨w.heap.size, 2, none⟩ = some c ∧ (w.alloc (.cells #[a, b, c, d] 158)).cell? ⟨w.heap.size, 3, none⟩ = some d := by
  refine ⟨?_, ?_, ?_, ?_⟩ <;> simp [go_sem]
theorem Four.keep {w w' : World} {b : Nat} (h : Four w b) (hb : Below w.heap.size w w') : Four w' b := by
  obtain ⟨q0, q1, q2, q3, z0, z1, z2, z3⟩ := h.out
  have hl := cell_lt q0
  have k := keeps_below hb
  exact ⟨k _ _ q0, k _ _ q1, k _ _ q2, k _ _ q3, (hb.frozen (p := ⟨b, 0, none⟩) hl).trans z0, (hb.frozen (p := ⟨b, 1, none⟩) hl).trans z1, (hb.frozen (p := ⟨b, 2, none⟩) hl).trans z2, (hb.frozen (p := ⟨b, 3, none⟩) hl).trans z3⟩
theorem ret_yes {r : PairL} (h : Lg.DeepP KT r) : ∃ c, Ending.returned (.bool true) = .returned (.bool c) ∧ (c = true ↔ Lg.DeepP KT r) := ⟨true, rfl, ⟨fun _ => h, fun _ => rfl⟩⟩
theorem ret_no {r : PairL} (h : ¬ Lg.DeepP KT r) : ∃ c, Ending.returned (.bool false) = .returned (.bool c) ∧ (c = true ↔ Lg.DeepP KT r) := ⟨false, rfl, ⟨fun h2 => absurd h2 (by simp), fun h2 => absurd h2 h⟩⟩
theorem own_not {w : World} {base : Nat} {e : TypeId} {size n : Nat} {v : Value} {xs : List Value} (h : w.ownsRow base e size v n xs) : v.ownBlock ≠ some w.heap.size := fun e => by have := (h.lt _ e).2; omega
set_option maxRecDepth 20000 in
set_option maxHeartbeats 3200000 in
theorem implLists_any (p : PairL) (va vb : Value) (w : World) (hz : Lg.wt KT [p] ≤ 3000000) (ha : ListF w va p.1) (hb : ListF w vb p.2) (hs : small p.1) :
    Calls Try.prog 82 #[va, vb, .func (.func 83) #[] #[], .func (.func 84) #[] #[]] w fun e w' => (∃ c, e = .returned (.bool c) ∧ (c = true ↔ Lg.DeepP KT p)) ∧ Below w.heap.size w w' := by
  obtain ⟨i0, hi, hz0, hz1, hz2⟩ := info_parts infoPair
  obtain ⟨V, hV⟩ : ∃ V, V = w.alloc (.map #[] 0) := ⟨_, rfl⟩
  obtain ⟨cx, hVs, m0, hst⟩ := start w V p va vb hz ha hb hs hV
  have CX := Lib.hid cx
  have HV := Lib.hid hV
  have HVs := Lib.hid hVs
  have HST := Lib.hid hst
  obtain ⟨_, aa, ac, rfl, _⟩ := ha
  obtain ⟨_, ba, bc, rfl, _⟩ := hb
  have hmm := @run_makeMap Try.prog
  clear hz hs hV hVs hst cx
  go_enter Try.func82, Try.ntmps82
  go_wp2
  go_loopw [10] (fun x wr => ∃ n, RelO V w w.heap.size p n x wr) (fun x wr => Lg.leastN fun n => RelO V w w.heap.size p n x wr)
  case atStart => rw [← HV.out]; exact ⟨m0, HST.out⟩
  case round =>
    have hR := Lg.leastN_at hrel
    obtain ⟨n0, hn0⟩ : ∃ n0, n0 = Lg.leastN fun n => RelO V w w.heap.size p n u10 wr := ⟨_, rfl⟩
    rw [← hn0] at hR
    have HN0 := Lib.hid hn0
    obtain ⟨es, ms, hgh, hwt, hnb, hok, hrow, hwi⟩ := hR
    have HNBD := Lib.hid hnb
    obtain ⟨oa, oc, rfl, hoa⟩ := row_shape hrow
    by_cases hes : es = []
    · subst hes
      have HQ : Hid (Lg.DeepP KT p) := hgh.yes KT_ok
      have HB := Lib.hid hwi.below
      clear hrel hn0 hgh hwt hnb hok hrow hwi hoa
      simp only [List.length_nil]
      go_wp2
      go_ret
      exact ⟨ret_yes HQ.out, HB.out⟩
    · obtain ⟨es, ⟨va, vb, ts, us⟩, rfl⟩ := last_of es hes
      obtain ⟨g, rfl⟩ := hoa (by simp)
      have hw2 := Lg.wt_snoc (K := KT) (es.map Ent.p) (ts, us)
      have hK : es.length ≤ 3000000 := by
        have := Lg.wt_len (K := KT) (es.map Ent.p)
        simp at hw2 hwt this
        omega
      rw [List.length_append, List.length_singleton, entV_snoc] at hrow
      have hcap : es.length ≤ oc := by have := row_cap hrow; omega
      have c0 : wr.cell? ⟨g, es.length * 2, none⟩ = some va := by
        rw [hrow.cellAt (es.length * 2) (by omega)]; simp [entV_len]
      have c1 : wr.cell? ⟨g, es.length * 2 + 1, none⟩ = some vb := by
        rw [hrow.cellAt (es.length * 2 + 1) (by omega), List.getElem?_append_right (by rw [entV_len]; omega), entV_len]; simp
      have okE : Ent.ok V ⟨va, vb, ts, us⟩ := hok _ (by simp)
      have HOE := Lib.hid okE
      obtain ⟨va1, vaa, vac, rfl, vaf⟩ : ListF V va ts := okE.a
      obtain ⟨vb1, vba, vbc, rfl, vbf⟩ : ListF V vb us := okE.b
      have HFA := Lib.hid vaf
      have HFB := Lib.hid vbf
      have hpre := row_prefix (n := es.length) (n' := 1) (xs := entV es) hrow (entV_len es) (by omega)
      have HPRE := Lib.hid hpre
      have hok' : Hid (∀ e, e ∈ es → e.ok V) := fun e he => hok e (by simp [he])
      have HWI := Lib.hid hwi
      have HGH : Hid (Lg.Gh KT p ms (es.map Ent.p ++ [(ts, us)])) := by show Lg.Gh _ _ _ _; simpa using hgh
      have HWT : Hid (n0 = Lg.wt KT (es.map Ent.p) + (1 + Lg.ndL KT ts)) := by show _ = _; rw [← hwt, List.map_append]; exact hw2
      clear hrel hn0 hgh hwt hnb hok hrow hwi hoa hw2 hes vaf vbf hpre okE
      simp only [List.length_append, List.length_singleton]
      clear hmm
      have HI := Lib.hid hi
      have HZ0 := Lib.hid hz0
      have HZ1 := Lib.hid hz1
      have HZ2 := Lib.hid hz2
      clear hi hz0 hz1 hz2
      obtain ⟨K, hKe⟩ : ∃ K, K = es.length := ⟨_, rfl⟩
      have HK := Lib.hid hKe
      rw [← hKe] at hK c0 c1 hcap ⊢
      clear hKe
      -- the lists, laid anew
      obtain ⟨W1, hW1⟩ : ∃ W1, W1 = wr.alloc (.cells #[.slice vaa ts.length vac, .slice vba us.length vbc] 152) := ⟨_, rfl⟩
      have I1 : Hid (WInv V w w.heap.size ms W1) := by show WInv _ _ _ _ _; rw [hW1]; exact HWI.out.alloc CX.out _
      have R1 : Hid (W1.ownsRow V.heap.size 152 2 (.slice (some ⟨g, 0, none⟩) K oc) K (entV es)) := by show World.ownsRow _ _ _ _ _ _ _; rw [hW1, HK.out]; exact HPRE.out.alloc _
      have b0 : W1.cell? ⟨wr.heap.size, 0, none⟩ = some (.slice vaa ts.length vac) := by rw [hW1]; simp [go_sem]
      have b1 : W1.cell? ⟨wr.heap.size, 1, none⟩ = some (.slice vba us.length vbc) := by rw [hW1]; simp [go_sem]
      have NB : Hid ((Value.slice (some ⟨g, 0, none⟩) K oc).ownBlock ≠ some wr.heap.size) := by
        show _ ≠ _
        rw [HK.out]
        exact own_not HPRE.out
      have HW1 := Lib.hid hW1
      obtain ⟨B, hB⟩ : ∃ B, B = wr.heap.size := ⟨_, rfl⟩
      have HB := Lib.hid hB
      rw [← hB] at b0 b1 NB
      have BB := Lib.hid (And.intro b0 b1)
      have CA := Lib.hid (fun w2 => implSpot_any vaa ts.length vac va1 (fun h => by obtain ⟨g, o, e, _⟩ := HFA.out h; exact ⟨g, o, e⟩) w2)
      have CB := Lib.hid (fun w2 => implSpot_any vba us.length vbc vb1 (fun h => by obtain ⟨g, o, e, _⟩ := HFB.out h; exact ⟨g, o, e⟩) w2)
      clear hW1 hB b0 b1
      go_wp2_with fail
      rw [← HW1.out, ← HB.out]
      go_cut [12] (fun s12 wx => ∃ b, s12 = .pointer (some ⟨b, 0, none⟩) ∧ (wx.cell? ⟨b, 0, none⟩ = some (.pointer (spotA (.slice vaa ts.length vac))) ∧ wx.cell? ⟨b, 1, none⟩ = some (.int .i64 (ts.length : Int)) ∧ wx.cell? ⟨b, 2, none⟩ = some (.pointer (spotA (.slice vba us.length vbc))) ∧ wx.cell? ⟨b, 3, none⟩ = some (.int .i64 (us.length : Int))) ∧ Below W1.heap.size W1 wx)
      case first =>
        have hb0 : Below W1.heap.size W1 W1.drew := (Below.refl _ _).drew
        have KS : Hid (∀ wx, Below W1.heap.size W1 wx → wx.cell? ⟨B, 0, none⟩ = some (.slice vaa ts.length vac) ∧ wx.cell? ⟨B, 1, none⟩ = some (.slice vba us.length vbc) ∧ Below W1.heap.size W1 wx) := fun wx hb => ⟨keeps_below hb _ _ BB.out.1, keeps_below hb _ _ BB.out.2, hb⟩
        have CA2 : Hid (∀ wx, Below W1.heap.size W1 wx → Calls Try.prog 89 #[.slice vaa ts.length vac] wx fun e w' => e = .returned (.agg #[.pointer (spotA (.slice vaa ts.length vac)), .int .i64 (ts.length : Int)]) ∧ Below W1.heap.size W1 w') := fun wx hb => (CA.out wx).mono fun e w' ⟨he, h⟩ => ⟨he, hb.trans (h.mono hb.size)⟩
        have CB2 : Hid (∀ wx, Below W1.heap.size W1 wx → Calls Try.prog 89 #[.slice vba us.length vbc] wx fun e w' => e = .returned (.agg #[.pointer (spotA (.slice vba us.length vbc)), .int .i64 (us.length : Int)]) ∧ Below W1.heap.size W1 w') := fun wx hb => (CB.out wx).mono fun e w' ⟨he, h⟩ => ⟨he, hb.trans (h.mono hb.size)⟩
        have CA5 : Hid (∀ wx b, Below W1.heap.size W1 wx → Four wx b → Calls Try.prog 89 #[.slice vaa ts.length vac] wx fun e w' => e = .returned (.agg #[.pointer (spotA (.slice vaa ts.length vac)), .int .i64 (ts.length : Int)]) ∧ Below W1.heap.size W1 w' ∧ Four w' b) := fun wx b hb hf => (CA.out _).mono fun e w' ⟨he, h⟩ => ⟨he, hb.trans (h.mono hb.size), hf.keep h⟩
        have CB5 : Hid (∀ wx b, Below W1.heap.size W1 wx → Four wx b → Calls Try.prog 89 #[.slice vba us.length vbc] wx fun e w' => e = .returned (.agg #[.pointer (spotA (.slice vba us.length vbc)), .int .i64 (us.length : Int)]) ∧ Below W1.heap.size W1 w' ∧ Four w' b) := fun wx b hb hf => (CB.out _).mono fun e w' ⟨he, h⟩ => ⟨he, hb.trans (h.mono hb.size), hf.keep h⟩
        go_region_held3 (fun wx => wx.cell? ⟨B, 0, none⟩ = some (.slice vaa ts.length vac) ∧ wx.cell? ⟨B, 1, none⟩ = some (.slice vba us.length vbc) ∧ Below W1.heap.size W1 wx)
          (exact KS.out _ (by first | assumption | exact (below_al (Below.refl _ _) _).drew | (refine below_al ?_ _; assumption) | (refine below_set4 ?_ ?_ _ _ _ _ <;> first | assumption | exact Below.refl _ _)))
          (first
          | (go_at_call 89; (with_reducible refine (CA5.out _ _ (by first | assumption | exact (below_al (Below.refl _ _) _).drew | (refine below_al ?_ _; assumption)) (by first | assumption | exact Four.newd _ | exact Four.new _)).mono ?_); rintro e w1 ⟨rfl, h1, f1⟩)
          | (go_at_call 89; (with_reducible refine (CA2.out _ (by assumption)).mono ?_); rintro e w1 ⟨rfl, h1⟩)
          | (go_at_call 89; (with_reducible refine (CB5.out _ _ (by first | assumption | exact (below_al (Below.refl _ _) _).drew | (refine below_al ?_ _; assumption)) (by first | assumption | exact Four.newd _ | exact Four.new _)).mono ?_); rintro e w2 ⟨rfl, h2, f2⟩; obtain ⟨q0, q1, q2, q3, z0, z1, z2, z3⟩ := f2.out)
          | (go_at_call 89; (with_reducible refine (CB2.out _ (by assumption)).mono ?_); rintro e w2 ⟨rfl, h2⟩))
        all_goals
          go_wp2_with fail
          go_meet
          first
          | exact ⟨_, rfl, set4_cells f2 _ _ _ _, below_set4 h2 (by first | assumption | exact Below.refl _ _) _ _ _ _⟩
          | exact ⟨_, rfl, al4_cells _ _ _ _ _, below_al h2 _⟩
      case rest =>
        obtain ⟨b, rfl, ⟨s0, s1, s2, s3⟩, hbe⟩ := hcut
        have I2 := Lib.hid (I1.out.belowW CX.out hbe)
        have R2 := Lib.hid (row_below R1.out hbe)
        have X2 : Hid (wc.cell? ⟨B, 0, none⟩ = some (.slice vaa ts.length vac) ∧ wc.cell? ⟨B, 1, none⟩ = some (.slice vba us.length vbc)) := ⟨keeps_below hbe _ _ BB.out.1, keeps_below hbe _ _ BB.out.2⟩
        obtain ⟨me, mk, hm1, hm2, hm3⟩ := I2.out.map
        have HM1 := Lib.hid hm1
        have HM2 := Lib.hid hm2
        have HM3 := Lib.hid hm3
        have hpk : PrOk wc (prV (spotA (.slice vaa ts.length vac)) (spotA (.slice vba us.length vbc)) ts.length us.length) := PrOk.keep I2.out.keep (key_ok HOE.out.a HOE.out.b)
        have hmk : MetK PrOk wc me.toList := fun x hx => PrOk.keep I2.out.keep (hm2 x hx)
        have hrun := (run_look pair_key Try.underlying151 (z := .bool false) (fun w => by kernel_rfl) hm1 hmk hpk).1
        clear hm1 hm2 hm3 hbe
        cases hlk : lookK me.toList (prV (spotA (.slice vaa ts.length vac)) (spotA (.slice vba us.length vbc)) ts.length us.length) with
        | some v =>
          obtain ⟨rfl, hkey⟩ := HM3.out _ _ hlk
          have HQ := Lib.hid (HGH.out.skip (key_met (p := (ts, us)) hkey HOE.out.a HOE.out.b))
          rw [hlk] at hrun
          simp only [Option.getD_some] at hrun
          unfold prV at hrun
          clear hlk hkey hmk hpk
          go_wp2
          go_roundw
          case rel => exact ⟨_, es, ms, HQ.out, rfl, by have := HWT.out; have := HNBD.out; omega, hok'.out, by have := R2.out; rw [HK.out] at this; rw [HK.out]; exact this, I2.out⟩
          case measure =>
            have h1 := HN0.out
            have h2 := HWT.out
            simp only [List.length_append, List.length_singleton, ← HK.out] at h1
            refine Nat.lt_of_le_of_lt (Lg.leastN_le ⟨es, ms, HQ.out, rfl, by have := HNBD.out; omega, hok'.out, by have := R2.out; rw [HK.out] at this; rw [HK.out]; exact this, I2.out⟩) (by rw [← h1]; omega)
        | none =>
          rw [hlk] at hrun
          simp only [Option.getD_none] at hrun
          obtain ⟨w5, es5, ck5, hrun5, m5, l5, k5, g5⟩ := run_put pair_key Try.underlying151 (.bool true) HM1.out hmk hpk
          unfold prV at hrun hrun5
          have I5 : Hid (WInv V w w.heap.size ((ts, us) :: ms) w5) := WInv.meet (p := (ts, us)) CX.out I2.out g5 HM2.out HM3.out HOE.out.a HOE.out.b m5 l5 k5
          have R5 : Hid (w5.ownsRow V.heap.size 152 2 (.slice (some ⟨g, 0, none⟩) K oc) K (entV es)) := row_same R2.out fun b hb => g5.block b (R2.out.lt b hb).2 (fun e => by cases e; have := (R2.out.lt _ hb).1; have := CX.out.lt; omega)
          obtain ⟨x0, x1⟩ : w5.cell? ⟨B, 0, none⟩ = some (.slice vaa ts.length vac) ∧ w5.cell? ⟨B, 1, none⟩ = some (.slice vba us.length vbc) :=
            ⟨cell_grown X2.out.1 g5 (fun e => cell_noMap X2.out.1 HM1.out (by cases e; rfl)), cell_grown X2.out.2 g5 (fun e => cell_noMap X2.out.1 HM1.out (by cases e; rfl))⟩
          have X5 := Lib.hid (And.intro x0 x1)
          have CE := Lib.hid (implEqF_any (ts, us) _ _ w5 (HOE.out.a.keep I5.out.keep) (HOE.out.b.keep I5.out.keep))
          clear hlk hmk hpk m5 l5 k5 g5
          cases hq : shP (ts, us) with
          | false =>
            have HQ : Hid (¬ Lg.DeepP KT p) := HGH.out.no KT_ok (fun h => by rw [(shP_iff _).2 h] at hq; cases hq)
            rw [hq] at CE
            clear hq
            go_wp2_with fail
            refine CE.out.mono ?_
            rintro e w6 ⟨rfl, hb⟩
            have I6 := Lib.hid (I5.out.belowW CX.out hb)
            clear hb x0 x1
            go_wp2
            go_ret
            exact ⟨ret_no HQ.out, I6.out.below⟩
          | true =>
            have HGI := Lib.hid (HGH.out.begin ((shP_iff _).1 hq))
            rw [hq] at CE
            clear hq
            go_wp2_with fail
            refine CE.out.mono ?_
            rintro e w6 ⟨rfl, hb⟩
            have I6 := Lib.hid (I5.out.belowW CX.out hb)
            have R6 := Lib.hid (row_below R5.out hb)
            have X6 : Hid (w6.cell? ⟨B, 0, none⟩ = some (.slice vaa ts.length vac) ∧ w6.cell? ⟨B, 1, none⟩ = some (.slice vba us.length vbc)) := ⟨keeps_below hb _ _ X5.out.1, keeps_below hb _ _ X5.out.2⟩
            clear hb x0 x1
            obtain ⟨x0, x1⟩ := X6.out
            go_wp2
            go_loopw [10, 58] (fun x i wy => ∃ (j : Nat) (es : List Ent) (ms : List PairL), j ≤ ts.length ∧ i = .int .i64 j ∧ RelI V w w.heap.size p ⟨.slice vaa ts.length vac, .slice vba us.length vbc, (ts, us)⟩ n0 B j 0 (Lg.ndL KT (ts.drop j)) x wy es ms)
              (fun _ i _ => ts.length - (intOf i).toNat)
            case atStart => exact ⟨0, es, _, Nat.zero_le _, rfl, HGI.out, by have := HWT.out; simp only [List.drop_zero]; omega, hok'.out, by have := R6.out; rw [HK.out] at this; rw [HK.out]; exact this, I6.out, x0, x1, NB.out⟩
            case round =>
              obtain ⟨j, es2, ms2, hj, rfl, hri⟩ := hrel
              have HRI := Lib.hid hri
              have HLEN : Hid (ts.length = us.length) := hri.gi.shal.1
              obtain ⟨y0, y1⟩ : wr.cell? ⟨B, 0, none⟩ = some (.slice vaa ts.length vac) ∧ wr.cell? ⟨B, 1, none⟩ = some (.slice vba us.length vbc) := ⟨hri.c0, hri.c1⟩
              clear x0 x1 hri
              by_cases hlt : j < ts.length
              · have hlt2 : j < us.length := by have := HLEN.out; omega
                obtain ⟨g1, o1, rfl, f1, l1⟩ := HFA.out (by omega)
                obtain ⟨g2, o2, rfl, f2, l2⟩ := HFB.out (by omega)
                obtain ⟨ka, kc, p0, p1, p2, p3, lk⟩ := l1.at j hlt
                obtain ⟨la, lc, q0, q1, q2, q3, lm⟩ := l2.at j hlt2
                rw [← f1.cell HRI.out.inv.keep] at p0 p1 p2 p3
                rw [← f2.cell HRI.out.inv.keep] at q0 q1 q2 q3
                have LA := Lib.hid (lists_in ts[j] lk.kids)
                have LB := Lib.hid (lists_in us[j] lm.kids)
                have CB := Lib.hid (implWithin_any us[j] la lc wr)
                have CA := Lib.hid (implWithin_any ts[j] ka kc)
                have HP := Lib.hid (And.intro p0 (And.intro p1 (And.intro p2 p3)))
                generalize hvs : inVs ts[j] ka kc = vs at LA CA
                generalize hus : inVs us[j] la lc = ws at LB CB
                have HVs2 := Lib.hid hvs
                have HUs2 := Lib.hid hus
                clear l1 l2 f1 f2 lk lm hvs hus
                go_wp2_with fail
                refine CB.out.mono ?_
                rintro e w7 ⟨G2, rfl, hb7, h7, h7b, hc7⟩
                have k7 := keeps_below hb7
                have B7 := Lib.hid hb7
                have N7 := Lib.hid (And.intro h7 h7b)
                have C7 := Lib.hid hc7
                obtain ⟨z0, z1⟩ := And.intro (k7 _ _ y0) (k7 _ _ y1)
                obtain ⟨p0, p1, p2, p3⟩ := HP.out
                replace p0 := k7 _ _ p0
                replace p1 := k7 _ _ p1
                replace p2 := k7 _ _ p2
                replace p3 := k7 _ _ p3
                clear q0 q1 q2 q3
                clear hb7 h7 h7b hc7 y0 y1 k7
                go_wp2_with fail
                refine (CA.out w7).mono ?_
                rintro e w8 ⟨G1, rfl, hb8, h8, h8b, hc8⟩
                have B8 := Lib.hid (B7.out.trans (hb8.mono B7.out.size))
                have C8 := Lib.hid (C7.out.keep (w' := w8) (fun p u _ e => keeps_below hb8 p u e))
                have D8 := Lib.hid hc8
                have N8 : Hid (wr.heap.size ≤ G1 ∧ wr.heap.size ≤ G2) := ⟨Nat.le_trans B7.out.size h8, N7.out.1⟩
                have Z8 : Hid (w8.cell? ⟨B, 0, none⟩ = some (.slice (some ⟨g1, o1, none⟩) ts.length vac) ∧ w8.cell? ⟨B, 1, none⟩ = some (.slice (some ⟨g2, o2, none⟩) us.length vbc)) := ⟨keeps_below hb8 _ _ z0, keeps_below hb8 _ _ z1⟩
                have RI8 : Hid (RelI V w w.heap.size p ⟨.slice (some ⟨g1, o1, none⟩) ts.length vac, .slice (some ⟨g2, o2, none⟩) us.length vbc, (ts, us)⟩ n0 B j 0 (Lg.ndL KT (ts.drop j)) u10 w8 es2 ms2) :=
                  ⟨HRI.out.gi, HRI.out.wt, HRI.out.ok, row_below HRI.out.row B8.out, HRI.out.inv.belowW CX.out B8.out, Z8.out.1, Z8.out.2, HRI.out.nb⟩
                have NX : Hid (u10.ownBlock ≠ some G1 ∧ u10.ownBlock ≠ some G2) := ⟨fun e => by have := (HRI.out.row.lt _ e).2; have := N8.out.1; omega, fun e => by have := (HRI.out.row.lt _ e).2; have := N8.out.2; omega⟩
                clear hb8 h8 h8b hc8 z0 z1
                have HWL := Lib.hid (KT_ok.len ts[j])
                have HWL2 := Lib.hid (KT_ok.len us[j])
                have HND := Lib.hid (Lg.ndL_drop (K := KT) hlt)
                have HNX := Lib.hid (KT_ok.nd ts[j])
                obtain ⟨D, hD⟩ : ∃ D, D = w8.heap.size := ⟨_, rfl⟩
                have HD := Lib.hid hD
                clear hD
                go_wp2
                go_loopw [10, 76] (fun x i wz => ∃ (k : Nat) (es : List Ent) (ms : List PairL), k ≤ 1 ∧ i = .int .i64 k ∧ RelI V w w.heap.size p ⟨.slice (some ⟨g1, o1, none⟩) ts.length vac, .slice (some ⟨g2, o2, none⟩) us.length vbc, (ts, us)⟩ n0 B j k (Lg.wtS KT ((KT.wi ts[j]).drop k) + Lg.ndL KT (ts.drop (j + 1))) x wz es ms ∧ Hid (CellsIn wz G1 vs ∧ CellsIn wz G2 ws) ∧ Hid (x.ownBlock ≠ some G1 ∧ x.ownBlock ≠ some G2))
                  (fun _ i _ => 1 - (intOf i).toNat)
                case atStart => exact ⟨0, es2, ms2, Nat.zero_le _, rfl, ⟨RI8.out.gi, by have h1 := RI8.out.wt; have h2 := HND.out; have h3 := HNX.out; simp only [List.drop_zero]; omega, RI8.out.ok, RI8.out.row, RI8.out.inv, RI8.out.c0, RI8.out.c1, RI8.out.nb⟩, ⟨D8.out, C8.out⟩, NX.out⟩
                case round =>
                  obtain ⟨k, es3, ms3, hk, rfl, hri, hcc, hnx⟩ := hrel
                  have HR3 := Lib.hid hri
                  clear hri
                  by_cases hkl : k < 1
                  · have hk1 : k < vs.length := by rw [LA.out.len]; exact hkl
                    have hk2 : k < ws.length := by rw [LB.out.len]; exact hkl
                    have hw1 : k < (KT.wi ts[j]).length := by rw [HWL.out]; exact hkl
                    have hw2 : k < (KT.wi us[j]).length := by rw [HWL2.out]; exact hkl
                    have la := LA.out.at' k hk1 hw1
                    have lb := LB.out.at' k hk2 hw2
                    have m1 := hcc.out.1 k hk1
                    have m2 := hcc.out.2 k hk2
                    have hkd := Lib.hid (kid_two (p := (ts, us)) hlt hlt2 hw1 hw2)
                    have hwd := Lib.hid (Lg.wtS_drop (K := KT) hw1)
                    have hmem := Lib.hid (List.getElem_mem hw1)
                    generalize (KT.wi ts[j])[k] = ta at la hkd hwd hmem
                    generalize (KT.wi us[j])[k] = tb at lb hkd
                    generalize vs[k] = v1 at la m1
                    generalize ws[k] = v2 at lb m2
                    have LKA := Lib.hid la
                    have LKB := Lib.hid lb
                    obtain ⟨_, ra, rc, rfl, _⟩ := la
                    obtain ⟨_, qa, qc, rfl, _⟩ := lb
                    have R5 := Lib.hid HR3.out.row
                    have I5 := Lib.hid HR3.out.inv
                    have hle : es3.length ≤ 3000000 := by
                      have h1 := Lg.wt_len (K := KT) (es3.map Ent.p)
                      rw [List.length_map] at h1
                      have := HR3.out.wt
                      have := HNBD.out
                      omega
                    have hVs5 : V.heap.size ≤ wr.heap.size := I5.out.size
                    have hkI : (k : Int) < 1 := by omega
                    clear hk1 hk2 hw1 hw2 hj
                    go_wp2_with (at_builtin; refine wpList_append_lies _ rfl (.tmp 81) (.tmp 88) 153 rfl V.heap.size 152 i0 (.agg #[.slice none 0 0, .slice none 0 0]) 2 48 Try.underlying153 HI.out HZ0.out HZ1.out HZ2.out rfl (by decide) u10 es3.length _ rfl (R5.out.alloc _) ⟨wr.heap.size, 0, none⟩ 1 1 [.slice ra ta.length rc, .slice qa tb.length qc] rfl rfl (World.news_of_block (heap_alloc_new _ _)) (two_cells _ _ _ _ _ _) (by decide) (by unfold maxLen; omega) (by omega) (by simp; omega) _ rfl ?_)
                    intro g6 cap6 w6 hown6 hg6 hat6 hlt6
                    have I6 := Lib.hid ((I5.out.alloc CX.out _).grown CX.out hg6 (fun b hb => (R5.out.lt b hb).1))
                    have hG1 : G1 < wr.heap.size := cell_lt m1
                    have hG2 : G2 < wr.heap.size := cell_lt m2
                    have hB5 : B < wr.heap.size := cell_lt HR3.out.c0
                    have kg : ∀ X, X < wr.heap.size → u10.ownBlock ≠ some X → ∀ (i : Nat) (u : Value), wr.cell? ⟨X, i, none⟩ = some u → w6.cell? ⟨X, i, none⟩ = some u := fun X _ hn i u h => cell_grown (keeps_alloc _ _ _ _ h) hg6 (fun e => hn e.symm)
                    have CC6 : Hid (CellsIn w6 G1 vs ∧ CellsIn w6 G2 ws) := ⟨fun i h => kg G1 hG1 hnx.out.1 i _ (hcc.out.1 i h), fun i h => kg G2 hG2 hnx.out.2 i _ (hcc.out.2 i h)⟩
                    have hn6 : ∀ X, X < wr.heap.size → u10.ownBlock ≠ some X → (Value.slice (some ⟨g6, 0, none⟩) (es3.length + 1) cap6).ownBlock ≠ some X := fun X hX hn e => by
                      have e2 : g6 = X := by simpa [Value.ownBlock] using e
                      rcases hat6 with h | h
                      · exact hn (by rw [h, e2])
                      · (try simp at h); omega
                    have NX6 : Hid ((Value.slice (some ⟨g6, 0, none⟩) (es3.length + 1) cap6).ownBlock ≠ some G1 ∧ (Value.slice (some ⟨g6, 0, none⟩) (es3.length + 1) cap6).ownBlock ≠ some G2) := ⟨hn6 G1 hG1 hnx.out.1, hn6 G2 hG2 hnx.out.2⟩
                    have RI6 : Hid (RelI V w w.heap.size p ⟨.slice (some ⟨g1, o1, none⟩) ts.length vac, .slice (some ⟨g2, o2, none⟩) us.length vbc, (ts, us)⟩ n0 B j (k + 1) (Lg.wtS KT ((KT.wi ts[j]).drop (k + 1)) + Lg.ndL KT (ts.drop (j + 1))) (.slice (some ⟨g6, 0, none⟩) (es3.length + 1) cap6) w6 (es3 ++ [(⟨.slice ra ta.length rc, .slice qa tb.length qc, (ta, tb)⟩ : Ent)]) ms3) := by
                      refine ⟨?_, ?_, ?_, ?_, I6.out, kg B hB5 HR3.out.nb 0 _ HR3.out.c0, kg B hB5 HR3.out.nb 1 _ HR3.out.c1, hn6 B hB5 HR3.out.nb⟩
                      · have h1 := HR3.out.gi.push KT_ok hlt (show k < KT.many from hkl)
                        have h2 := hkd.out
                        try simp only at h1 h2
                        rw [h2] at h1
                        rw [List.map_append]
                        exact h1
                      · have h1 := HR3.out.wt
                        have h2 := hwd.out
                        rw [List.map_append]
                        show Lg.wt _ (_ ++ [(ta, tb)]) + _ < _
                        rw [Lg.wt_snoc]
                        try simp only
                        omega
                      · intro e he
                        rcases List.mem_append.1 he with h | h
                        · exact HR3.out.ok e h
                        · simp at h
                          subst h
                          exact ⟨LKA.out, LKB.out, small_kid HOE.out.s (List.getElem_mem hlt) hmem.out⟩
                      · rw [entV_snoc, List.length_append]
                        exact hown6
                    clear hown6 hg6 hat6 hlt6 kg hn6 m1 m2
                    go_wp2
                    go_roundw
                    case rel => exact ⟨k + 1, _, ms3, by omega, by go_num, RI6.out, CC6, NX6⟩
                    case measure => simp [intOf]; omega
                  · have HQ : Hid (RelI V w w.heap.size p ⟨.slice (some ⟨g1, o1, none⟩) ts.length vac, .slice (some ⟨g2, o2, none⟩) us.length vbc, (ts, us)⟩ n0 B (j + 1) 0 (Lg.ndL KT (ts.drop (j + 1))) u10 wr es3 ms3) :=
                      ⟨HR3.out.gi.next (by show 1 ≤ k; omega), by have h1 := HR3.out.wt; have h2 : Lg.wtS KT ((KT.wi ts[j]).drop k) = 0 := Lg.wtS_end (by rw [HWL.out]; show 1 ≤ k; omega); omega, HR3.out.ok, HR3.out.row, HR3.out.inv, HR3.out.c0, HR3.out.c1, HR3.out.nb⟩
                    go_wp2
                    go_roundw
                    case rel => exact ⟨j + 1, es3, ms3, by omega, by go_num, HQ.out⟩
                    case measure => simp [intOf]; omega
              · have HQ := Lib.hid (HRI.out.gi.done (by show ts.length ≤ j; omega))
                have HW7 : Hid (Lg.wt KT (es2.map Ent.p) < n0) := by have := HRI.out.wt; show _ < _; omega
                go_wp2
                go_roundw
                case rel => exact ⟨_, es2, ms2, HQ.out, rfl, by have := HW7.out; have := HNBD.out; omega, HRI.out.ok, HRI.out.row, HRI.out.inv⟩
                case measure =>
                  have h1 := HW7.out
                  rw [HN0.out] at h1
                  simp only [List.length_append, List.length_singleton, ← HK.out] at h1
                  refine Nat.lt_of_le_of_lt (Lg.leastN_le ⟨es2, ms2, HQ.out, rfl, by have := HW7.out; have := HNBD.out; omega, HRI.out.ok, HRI.out.row, HRI.out.inv⟩) h1
end Go.Proofs.Ytpbhoomhcdljoaa.SpT
