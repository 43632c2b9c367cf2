/- What the listed variables give a walk: four errors of their own; and the variables read again behind the call. Conditions: the listed variables hold what the text lays in them. With what it stands on, in one text. -/
import Derived.Test.YtmhhghdfgdhljaaGreatDoorErrIs
import Derived.Test.YtmhhghdfgdhljaaGreatDoorPfPackB
import Derived.Test.YtmhhghdfgdhljaaGreatDoorRows
import Derived.LaidMore
import Derived.Stop.Joined
import Derived.Stop.LaidTwo
/- The program's ProgFault, walked. Conditions: the program is of the call's own, of at most 2 to the 20; the four errors lie in memory. -/
namespace Go.Proofs.YtmhhghdfgdhljaaGreatDoor.Trm
open Go.RowKit Own Er
/-- What wrongWith leaves. -/
def WrongPost (a : Nat → Addr) (f : Nat) (w : World) (e : Ending) (w' : World) : Prop := e = .returned (errV a f) ∧ Below w.heap.size w w'
noncomputable def faultN (x : PTree) : Nat := (faultI x).toNat
theorem faultN_cases (x : PTree) : faultI x = (faultN x : Int) ∧ faultN x ≤ 4 := by
  unfold faultN faultI
  split
  · decide
  · split
    · decide
    · split
      · decide
      · split <;> decide
open Classical in
set_option maxHeartbeats 1600000 in
theorem implWrong_any (a : Nat → Addr) (x : PTree) (v : Value) (w : World) (hz : szP x ≤ 1048576) (hl : POwn w x v) (hE : Errs a w) :
    Calls Tryz.prog 76 #[v] w (WrongPost a (faultN x) w) := by
  have hll := hl.lies
  have CO := Lib.hid (fun wx (hb : Below w.heap.size w wx) => implProgOk_any x v wx hz (hl.below hb))
  have CU := Lib.hid (fun wx (hb : Below w.heap.size w wx) => implUnkIn_any x v wx hz (hl.below hb))
  have CP := Lib.hid (fun wx (hb : Below w.heap.size w wx) => implProcs_any x v wx (by unfold szP at hz; omega) (hll.keep (keeps_below hb)))
  have CM := Lib.hid (fun wx (hb : Below w.heap.size w wx) => implProc_any x mainB v wx (hll.keep (keeps_below hb)))
  have HE := Lib.hid (fun wx (hb : Below w.heap.size w wx) => hE.below hb)
  obtain ⟨ga, gc, la, lc, pa, pc, rfl, hg, hlk, _⟩ := hl
  have CT1 := Lib.hid (fun wx (hb : Below w.heap.size w wx) => implTwice_any x.globals _ wx (hg.1.keep (keeps_below hb)))
  have CT2 := Lib.hid (fun wx (hb : Below w.heap.size w wx) => implTwice_any x.locks _ wx (hlk.1.keep (keeps_below hb)))
  have X0 := Lib.hid (Box3.new w (.slice ga x.globals.length gc) (.slice la x.locks.length lc) (.slice pa x.procs.length pc) 27)
  have B0 := Lib.hid ((Below.refl w.heap.size w).alloc (Nat.le_refl _) (.cells #[.slice ga x.globals.length gc, .slice la x.locks.length lc, .slice pa x.procs.length pc] 27))
  have HF := Lib.hid (show faultI x = if okP x = false then 1 else if (twiceB x.globals || (twiceB x.locks || twiceB (procNs x.procs))) = true then 2 else if unkIn x ≠ [] then 3 else if ¬ mainB ∈ procNs x.procs then 4 else 0 from rfl)
  have HFN := Lib.hid (faultN_cases x).1
  clear hll hg hlk hE hz
  generalize faultN x = fn at HFN ⊢
  rw [HFN.out] at HF
  generalize okP x = b0 at CO HF
  generalize twiceB x.globals = b1 at CT1 HF
  generalize twiceB x.locks = b2 at CT2 HF
  obtain ⟨p0, p1, p2⟩ := X0.out
  go_enter Tryz.func76, Tryz.ntmps76
  go_wp2_with fail
  refine (CO.out _ B0.out).mono ?_
  rintro e w1 ⟨rfl, hb1⟩
  have B1 := Lib.hid (B0.out.trans (hb1.mono B0.out.size))
  have X1 := Lib.hid (X0.out.keep (keeps_below hb1))
  clear hb1 p0 p1 p2
  cases b0 with
  | false =>
    have HR : Hid (fn = 1) := by show _ = _; have := HF.out; simp at this; omega
    have g0 := (HE.out _ B1.out).var 0 (by omega)
    go_wp2_with fail
    go_ret
    exact ⟨by rw [HR.out]; rfl, B1.out⟩
  | true =>
    obtain ⟨p0, p1, p2⟩ := X1.out
    go_wp2_with fail
    refine (CT1.out _ B1.out).mono ?_
    rintro e w2 ⟨rfl, rfl⟩
    cases b1 with
    | true =>
      have HR : Hid (fn = 2) := by show _ = _; have := HF.out; simp at this; omega
      have g1 := (HE.out _ B1.out).var 1 (by omega)
      go_wp2_with fail
      go_ret
      exact ⟨by rw [HR.out]; rfl, B1.out⟩
    | false =>
      go_wp2_with fail
      refine (CT2.out _ B1.out).mono ?_
      rintro e w2 ⟨rfl, rfl⟩
      cases b2 with
      | true =>
        have HR : Hid (fn = 2) := by show _ = _; have := HF.out; simp at this; omega
        have g1 := (HE.out _ B1.out).var 1 (by omega)
        go_wp2_with fail
        go_ret
        exact ⟨by rw [HR.out]; rfl, B1.out⟩
      | false =>
        go_wp2_with fail
        refine (CP.out _ B1.out).mono ?_
        rintro e w3 ⟨kv, rfl, hr3, hb3⟩
        have B3 := Lib.hid (B1.out.trans (hb3.mono B1.out.size))
        have X3 := Lib.hid (X1.out.keep (keeps_below hb3))
        have CT3 := Lib.hid (implTwice_any (procNs x.procs) kv w3 (strsAt_row rfl hr3))
        obtain ⟨ka, kc, rfl, _⟩ := row_shape hr3
        clear hr3 hb3 p0 p1 p2
        generalize twiceB (procNs x.procs) = b3 at CT3 HF
        go_wp2_with fail
        refine CT3.out.mono ?_
        rintro e w4 ⟨rfl, rfl⟩
        cases b3 with
        | true =>
          have HR : Hid (fn = 2) := by show _ = _; have := HF.out; simp at this; omega
          have g1 := (HE.out _ B3.out).var 1 (by omega)
          go_wp2_with fail
          go_ret
          exact ⟨by rw [HR.out]; rfl, B3.out⟩
        | false =>
          obtain ⟨p0, p1, p2⟩ := X3.out
          go_wp2_with fail
          refine (CU.out _ B3.out).mono ?_
          rintro e w5 ⟨uv, rfl, hr5, hb5⟩
          have B5 := Lib.hid (B3.out.trans (hb5.mono B3.out.size))
          have X5 := Lib.hid (X3.out.keep (keeps_below hb5))
          obtain ⟨ua, uc, rfl, _⟩ := row_shape hr5
          clear hr5 hb5 p0 p1 p2
          by_cases hu : unkIn x = []
          · have hul : ¬ (0 : Int) < ((unkIn x).length : Int) := by rw [hu]; simp
            have HF2 : Hid ((fn : Int) = if ¬ mainB ∈ procNs x.procs then 4 else 0) := by show _ = _; rw [HF.out]; simp [hu]
            clear hu HF
            generalize (unkIn x).length = ul at hul ⊢
            obtain ⟨p0, p1, p2⟩ := X5.out
            go_wp2_with fail
            refine (CM.out _ B5.out).mono ?_
            rintro e w6 ⟨n, rfl, hn, hb6⟩
            have B6 := Lib.hid (B5.out.trans (hb6.mono B5.out.size))
            have hnn := idx_neg hn
            clear hn hb6
            by_cases hm : mainB ∈ procNs x.procs
            · have hq : ¬ n < 0 := fun h => (hnn.1 h) hm
              have HR : Hid (fn = 0) := by show _ = _; have := HF2.out; rw [if_neg (fun h => h hm)] at this; omega
              clear hnn hm HF2
              go_wp2_with fail
              go_ret
              exact ⟨by rw [HR.out]; rfl, B6.out⟩
            · have hq : n < 0 := hnn.2 hm
              have HR : Hid (fn = 4) := by show _ = _; have := HF2.out; rw [if_pos hm] at this; omega
              clear hnn hm HF2
              have h45 := B5
              have g3 := (HE.out _ B6.out).var 3 (by omega)
              go_wp2_with fail
              go_ret
              exact ⟨by rw [HR.out]; rfl, B6.out⟩
          · have hul : (0 : Int) < ((unkIn x).length : Int) := by have := List.length_pos_iff.2 hu; omega
            have HR : Hid (fn = 3) := by show _ = _; have := HF.out; rw [if_neg (by simp), if_neg (by simp), if_pos hu] at this; omega
            clear hu HF
            generalize (unkIn x).length = ul at hul ⊢
            have h45 := B5
            have g2 := (HE.out _ B5.out).var 2 (by omega)
            go_wp2_with fail
            go_ret
            exact ⟨by rw [HR.out]; rfl, B5.out⟩
set_option maxHeartbeats 1600000 in
theorem implFault_any (a : Nat → Addr) (x : PTree) (v : Value) (w : World) (hz : szP x ≤ 1048576) (hl : POwn w x v) (hE : Errs a w) :
    Calls Tryz.prog 27 #[v] w fun e w' => e = .returned (.int .i64 (faultI x)) ∧ Below w.heap.size w w' := by
  have hll := hl.lies
  have CW := Lib.hid (fun wx (hb : Below w.heap.size w wx) => implWrong_any a x v wx hz (hl.below hb) (hE.below hb))
  have HE := Lib.hid (fun wx (hb : Below w.heap.size w wx) => hE.below hb)
  obtain ⟨ga, gc, la, lc, pa, pc, rfl⟩ := hll.shape
  have X0 := Lib.hid (Box3.new w (.slice ga x.globals.length gc) (.slice la x.locks.length lc) (.slice pa x.procs.length pc) 27)
  have B0 := Lib.hid ((Below.refl w.heap.size w).alloc (Nat.le_refl _) (.cells #[.slice ga x.globals.length gc, .slice la x.locks.length lc, .slice pa x.procs.length pc] 27))
  have HFN := Lib.hid (faultN_cases x).1
  have hf4 := (faultN_cases x).2
  generalize faultI x = fi at HFN ⊢
  generalize faultN x = fn at *
  clear hll hl hE hz
  obtain ⟨p0, p1, p2⟩ := X0.out
  go_enter Tryz.func27, Tryz.ntmps27
  go_wp2_with fail
  refine (CW.out _ B0.out).mono ?_
  rintro e w1 ⟨rfl, hb1⟩
  have B1 := Lib.hid (B0.out.trans (hb1.mono B0.out.size))
  clear hb1 p0 p1 p2
  have IS := Lib.hid (fun k hk b hb => isErr a w1 (HE.out _ B1.out) fn hf4 k hk b hb)
  have g0 := (HE.out _ B1.out).var 0 (by omega)
  have g1 := (HE.out _ B1.out).var 1 (by omega)
  have g2 := (HE.out _ B1.out).var 2 (by omega)
  have g3 := (HE.out _ B1.out).var 3 (by omega)
  rcases (by omega : fn = 1 ∨ fn = 2 ∨ fn = 3 ∨ fn = 4 ∨ fn = 0) with rfl | rfl | rfl | rfl | rfl
  · go_wp2_with fail
    refine (IS.out 0 (by omega) true rfl).mono ?_
    rintro e w2 ⟨rfl, rfl⟩
    go_wp2_with fail
    go_ret
    exact ⟨by rw [HFN.out]; rfl, B1.out⟩
  · go_wp2_with fail
    refine (IS.out 0 (by omega) false rfl).mono ?_
    rintro e w2 ⟨rfl, rfl⟩
    go_wp2_with fail
    refine (IS.out 1 (by omega) true rfl).mono ?_
    rintro e w2 ⟨rfl, rfl⟩
    go_wp2_with fail
    go_ret
    exact ⟨by rw [HFN.out]; rfl, B1.out⟩
  · go_wp2_with fail
    refine (IS.out 0 (by omega) false rfl).mono ?_
    rintro e w2 ⟨rfl, rfl⟩
    go_wp2_with fail
    refine (IS.out 1 (by omega) false rfl).mono ?_
    rintro e w2 ⟨rfl, rfl⟩
    go_wp2_with fail
    refine (IS.out 2 (by omega) true rfl).mono ?_
    rintro e w2 ⟨rfl, rfl⟩
    go_wp2_with fail
    go_ret
    exact ⟨by rw [HFN.out]; rfl, B1.out⟩
  · go_wp2_with fail
    refine (IS.out 0 (by omega) false rfl).mono ?_
    rintro e w2 ⟨rfl, rfl⟩
    go_wp2_with fail
    refine (IS.out 1 (by omega) false rfl).mono ?_
    rintro e w2 ⟨rfl, rfl⟩
    go_wp2_with fail
    refine (IS.out 2 (by omega) false rfl).mono ?_
    rintro e w2 ⟨rfl, rfl⟩
    go_wp2_with fail
    refine (IS.out 3 (by omega) true rfl).mono ?_
    rintro e w2 ⟨rfl, rfl⟩
    go_wp2_with fail
    go_ret
    exact ⟨by rw [HFN.out]; rfl, B1.out⟩
  · go_wp2_with fail
    refine (IS.out 0 (by omega) false rfl).mono ?_
    rintro e w2 ⟨rfl, rfl⟩
    go_wp2_with fail
    refine (IS.out 1 (by omega) false rfl).mono ?_
    rintro e w2 ⟨rfl, rfl⟩
    go_wp2_with fail
    refine (IS.out 2 (by omega) false rfl).mono ?_
    rintro e w2 ⟨rfl, rfl⟩
    go_wp2_with fail
    refine (IS.out 3 (by omega) false rfl).mono ?_
    rintro e w2 ⟨rfl, rfl⟩
    go_wp2_with fail
    go_ret
    exact ⟨by rw [HFN.out]; rfl, B1.out⟩
end Go.Proofs.YtmhhghdfgdhljaaGreatDoor.Trm
/- What the listed variables give a walk: four errors of their own; and the variables read again behind the call. Conditions: the listed variables hold what the text lays in them. -/
namespace Go.Proofs.YtmhhghdfgdhljaaGreatDoor.Er
open Go.RowKit Go.ChangeShapes Go.WideShapes Trm
theorem laidMet_skip {P : Program} {x y : String × DataW Unit} {r : List (String × DataW Unit)} {w : World} (h : laidMet P (x :: y :: r) w) : laidMet P (x :: r) w := by
  obtain ⟨ps, hv, hnd, hrows⟩ := h
  obtain ⟨n, d⟩ := x
  obtain ⟨n2, d2⟩ := y
  obtain ⟨g, t, cs, fuel, p, q, h1, h2, h3, h4, hq, rfl⟩ := hv
  obtain ⟨g2, t2, cs2, fuel2, p2, q2, _, _, _, _, hq2, rfl⟩ := hq
  refine ⟨_, ⟨g, t, cs, fuel, p, q2, h1, h2, h3, h4, hq2, rfl⟩, ?_, fun b off hm => hrows b off ?_⟩
  · exact List.Nodup.sublist (List.Sublist.append_left (List.sublist_append_right _ _) _) hnd
  · rcases List.mem_append.1 hm with h | h
    · exact List.mem_append_left _ h
    · exact List.mem_append_right _ (List.mem_append_right _ h)
theorem gT0 : (Tryz.prog.globals[0]?).map (·.type) = some 102 := by kernel_rfl
theorem gT1 : (Tryz.prog.globals[1]?).map (·.type) = some 102 := by kernel_rfl
theorem gT2 : (Tryz.prog.globals[2]?).map (·.type) = some 102 := by kernel_rfl
theorem gT3 : (Tryz.prog.globals[3]?).map (·.type) = some 102 := by kernel_rfl
theorem gN0 : Tryz.prog.globalNamed "loop.example/g00966/impl.errForm" = some 0 := by kernel_rfl
theorem gN1 : Tryz.prog.globalNamed "loop.example/g00966/impl.errTwice" = some 1 := by kernel_rfl
theorem gN2 : Tryz.prog.globalNamed "loop.example/g00966/impl.errName" = some 2 := by kernel_rfl
theorem gN3 : Tryz.prog.globalNamed "loop.example/g00966/impl.errMain" = some 3 := by kernel_rfl
theorem star : "*" ++ "errors.errorString" = "*errors.errorString" := by decide
theorem rowE (u : TypeId) (h : Tryz.prog.typeName? 3 u = some "*errors.errorString") : u = 277 :=
  typeName_ptr_named (nm := "errors.errorString") (by rw [star]; kernel_rfl) (by kernel_rfl) (by decide) u (by rw [star]; exact h)
theorem cellsE : Tryz.prog.cellsOf 301 = 1 := by kernel_rfl
theorem cellsS : Tryz.prog.cellsOf 9 = 1 := by kernel_rfl
/-- Two of them. -/
def Two (W : World) (n0 n1 : String) : Prop := ∃ a0 a1 : Addr, W.var? Tryz.prog n0 = some #[.iface 277 (.pointer (some a0))] ∧ W.var? Tryz.prog n1 = some #[.iface 277 (.pointer (some a1))] ∧ a0 ≠ a1 ∧ (∃ c t, W.heap[a0.block]? = some (.cells c t (0, 0))) ∧ ∃ c t, W.heap[a1.block]? = some (.cells c t (0, 0))
theorem two {W : World} {n0 n1 : String} {text0 text1 : List UInt8} {r : List (String × DataW Unit)} {g0 g1 : Nat}
    (h : laidMet Tryz.prog ((n0, .iface "*errors.errorString" (.ptr (.agg [.lit (.string text0)]))) :: (n1, .iface "*errors.errorString" (.ptr (.agg [.lit (.string text1)]))) :: r) W)
    (hg0 : Tryz.prog.globalNamed n0 = some g0) (ht0 : (Tryz.prog.globals[g0]?).map (·.type) = some 102) (hg1 : Tryz.prog.globalNamed n1 = some g1) (ht1 : (Tryz.prog.globals[g1]?).map (·.type) = some 102) : Two W n0 n1 := by
  obtain ⟨a0, a1, s0, s1, c0, c1, t0, t1, h0, h1, _, _, _, _, _, _, hne, hb0, hb1⟩ := laid_sentinels2 h hg0 ht0 hg1 ht1 Tryz.underlying102 rowE Tryz.underlying277 Tryz.underlying301 rfl rfl Tryz.underlying9 cellsE cellsS
  exact ⟨a0, a1, h0, h1, hne, ⟨_, _, hb0⟩, ⟨_, _, hb1⟩⟩
theorem same_var {W : World} {n : String} {a b : Addr} (h : W.var? Tryz.prog n = some #[.iface 277 (.pointer (some a))]) (h2 : W.var? Tryz.prog n = some #[.iface 277 (.pointer (some b))]) : a = b := by
  rw [h] at h2
  simpa using h2
abbrev E0 : String := "loop.example/g00966/impl.errForm"
abbrev E1 : String := "loop.example/g00966/impl.errTwice"
abbrev E2 : String := "loop.example/g00966/impl.errName"
abbrev E3 : String := "loop.example/g00966/impl.errMain"
/-- What the four variables hold. -/
structure Held (a : Nat → Addr) (W : World) : Prop where
  v0 : W.var? Tryz.prog E0 = some #[.iface 277 (.pointer (some (a 0)))]
  v1 : W.var? Tryz.prog E1 = some #[.iface 277 (.pointer (some (a 1)))]
  v2 : W.var? Tryz.prog E2 = some #[.iface 277 (.pointer (some (a 2)))]
  v3 : W.var? Tryz.prog E3 = some #[.iface 277 (.pointer (some (a 3)))]
def four (a0 a1 a2 a3 : Addr) (i : Nat) : Addr := match i with | 0 => a0 | 1 => a1 | 2 => a2 | _ => a3
theorem errs_laid {W : World} (h : laidMetH Tryz.prog Rows.fnExactProgFaultRow.laid W) : ∃ a, Errs a W ∧ Held a W := by
  rw [MakeChecks.laidMetH_plain _ _ _ (by kernel_rfl)] at h
  obtain ⟨a0, a1, h0, h1, n01, r0, r1⟩ := two h gN0 gT0 gN1 gT1
  obtain ⟨b0, a2, k0, h2, n02, _, r2⟩ := two (laidMet_skip h) gN0 gT0 gN2 gT2
  obtain ⟨d0, a3, j0, h3, n03, _, r3⟩ := two (laidMet_skip (laidMet_skip h)) gN0 gT0 gN3 gT3
  obtain ⟨e1, e2, m1, m2, n12, _, _⟩ := two (laidMet.tail h) gN1 gT1 gN2 gT2
  obtain ⟨f1, f3, p1, p3, n13, _, _⟩ := two (laidMet_skip (laidMet.tail h)) gN1 gT1 gN3 gT3
  obtain ⟨i2, i3, q2, q3, n23, _, _⟩ := two (laidMet.tail (laidMet.tail h)) gN2 gT2 gN3 gT3
  obtain rfl := same_var h0 k0
  obtain rfl := same_var h0 j0
  obtain rfl := same_var h1 m1
  obtain rfl := same_var h1 p1
  obtain rfl := same_var h2 m2
  obtain rfl := same_var h2 q2
  obtain rfl := same_var h3 p3
  obtain rfl := same_var h3 q3
  refine ⟨four a0 a1 a2 a3, ⟨fun i hi => ?_, fun i hi => ?_, fun i j hi hj hij => ?_⟩, ⟨h0, h1, h2, h3⟩⟩
  · rcases (by omega : i = 0 ∨ i = 1 ∨ i = 2 ∨ i = 3) with rfl | rfl | rfl | rfl
    · have e := World.var?_cell gN0 h0 0
      show W.cell? _ = some (.iface _ (.pointer (some a0)))
      simpa using e
    · have e := World.var?_cell gN1 h1 0
      show W.cell? _ = some (.iface _ (.pointer (some a1)))
      simpa using e
    · have e := World.var?_cell gN2 h2 0
      show W.cell? _ = some (.iface _ (.pointer (some a2)))
      simpa using e
    · have e := World.var?_cell gN3 h3 0
      show W.cell? _ = some (.iface _ (.pointer (some a3)))
      simpa using e
  · rcases (by omega : i = 0 ∨ i = 1 ∨ i = 2 ∨ i = 3) with rfl | rfl | rfl | rfl
    · exact r0
    · exact r1
    · exact r2
    · exact r3
  · rcases (by omega : i = 0 ∨ i = 1 ∨ i = 2 ∨ i = 3) with rfl | rfl | rfl | rfl <;> rcases (by omega : j = 0 ∨ j = 1 ∨ j = 2 ∨ j = 3) with rfl | rfl | rfl | rfl
    · exact absurd rfl hij
    · exact n01
    · exact n02
    · exact n03
    · exact fun e => n01 e.symm
    · exact absurd rfl hij
    · exact n12
    · exact n13
    · exact fun e => n02 e.symm
    · exact fun e => n12 e.symm
    · exact absurd rfl hij
    · exact n23
    · exact fun e => n03 e.symm
    · exact fun e => n13 e.symm
    · exact fun e => n23 e.symm
    · exact absurd rfl hij
theorem var_below {W W' : World} {n : String} {cs : Array Value} (h : W.var? Tryz.prog n = some cs) (hb : Below W.heap.size W W') : W'.var? Tryz.prog n = some cs := by
  unfold World.var? at h ⊢
  cases hg : Tryz.prog.globalNamed n with
  | none => simp [hg] at h
  | some g =>
    simp only [hg, Option.bind_some] at h ⊢
    have hlt : g < W.heap.size := by
      rcases Nat.lt_or_ge g W.heap.size with h' | h'
      · exact h'
      · simp [Array.getElem?_eq_none h'] at h
    rw [hb.block g hlt]; exact h
theorem Held.below {a : Nat → Addr} {W W' : World} (h : Held a W) (hb : Below W.heap.size W W') : Held a W' := ⟨var_below h.v0 hb, var_below h.v1 hb, var_below h.v2 hb, var_below h.v3 hb⟩
/-- The four read again, as tokens. -/
theorem vars_read4 {H : Type} (enc : TypeId × Value → H) {a : Nat → Addr} {W : World} (h : Held a W) (sp : Nat → Bool) :
    DataW.TrodVars enc Tryz.prog W sp [E0, E1, E2, E3] [tok enc (.iface 277 (.pointer (some (a 0)))), tok enc (.iface 277 (.pointer (some (a 1)))), tok enc (.iface 277 (.pointer (some (a 2)))), tok enc (.iface 277 (.pointer (some (a 3))))] [.cell 0 0, .cell 1 0, .cell 2 0, .cell 3 0] := by
  have hold : ∀ x : Addr, DataW.trod enc Tryz.prog W 0 sp true 1 102 [.iface 277 (.pointer (some x))] = some (tok enc (.iface 277 (.pointer (some x))), []) := fun x => trod_held (v := .iface 277 (.pointer (some x))) Tryz.underlying102 trivial 0
  exact ⟨0, 102, _, 1, [], [.cell 1 0, .cell 2 0, .cell 3 0], gN0, gT0, h.v0, hold _, ⟨1, 102, _, 1, [], [.cell 2 0, .cell 3 0], gN1, gT1, h.v1, hold _, ⟨2, 102, _, 1, [], [.cell 3 0], gN2, gT2, h.v2, hold _, ⟨3, 102, _, 1, [], [], gN3, gT3, h.v3, hold _, rfl, rfl⟩, rfl⟩, rfl⟩, rfl⟩
end Go.Proofs.YtmhhghdfgdhljaaGreatDoor.Er
