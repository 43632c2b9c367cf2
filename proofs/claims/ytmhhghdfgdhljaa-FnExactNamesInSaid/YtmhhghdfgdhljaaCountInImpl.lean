/- The program's CountIn, walked. Conditions: the list lies in rows that are not frozen; there are at most 1100000 statements. -/
import Derived.Test.YtmhhghdfgdhljaaCountBy
import Derived.Test.YtmhhghdfgdhljaaWorldRows
import Derived.Test.YtmhhghdfgdhljaaListLogic
import Derived.Test.YtmhhghdfgdhljaaStrCells
import Derived.Deep.RegionHeld3
import Derived.Deep.DeepCutAuto
namespace Go.Proofs.Ytmhhghdfgdhljaa.Cn
open Go.RowKit Own Trm Km SpX
theorem infoCount : (Try.prog.info? 138).map (fun i => (i.zero, i.size, i.bytes)) = some (some (.agg #[.slice none 0 0, .bool false]), 2, 32) := by kernel_rfl
def ceV : List Ce → List Value
  | [] => []
  | e :: es => e.v :: .bool e.b :: ceV es
theorem ceV_len : ∀ es : List Ce, (ceV es).length = es.length * 2
  | [] => rfl
  | e :: es => by simp only [ceV, List.length_cons, ceV_len es]; omega
theorem ceV_append : ∀ (a b : List Ce), ceV (a ++ b) = ceV a ++ ceV b
  | [], _ => rfl
  | e :: a, b => by simp only [List.cons_append, ceV, ceV_append a b]
structure CInv (V w : World) (M : Nat) (me : List MapEntry) (wr : World) : Prop where
  keep : KeepF V wr
  below : Below w.heap.size w wr
  map : ∃ es clock, wr.heap[M]? = some (.map es clock) ∧ es.toList = me
  keys : MetK SpOk V me
  size : V.heap.size ≤ wr.heap.size
theorem CInv.grown {V w : World} {M : Nat} {me : List MapEntry} {wr w' : World} {row : Option Nat} (c : Ctx V w M) (h : CInv V w M me wr) (hg : wr.grownBy w' row) (hr : ∀ b, row = some b → V.heap.size ≤ b) : CInv V w M me w' where
  keep := fun b cs T z e => by
    have hb := heap_lt e
    rw [hg.block b (Nat.lt_of_lt_of_le hb h.size) (fun e2 => by have := hr b e2.symm; omega)]
    exact h.keep b cs T z e
  below := h.below.grown hg h.below.size (fun b hb => Nat.le_trans c.hV (hr b hb))
  map := by
    obtain ⟨es, k, h1, h2⟩ := h.map
    refine ⟨es, k, ?_, h2⟩
    rw [hg.block M (heap_lt h1) (fun e2 => by have := hr M e2.symm; have := c.lt; omega)]
    exact h1
  keys := h.keys
  size := Nat.le_trans h.size hg.size
theorem CInv.alloc {V w : World} {M : Nat} {me : List MapEntry} {wr : World} (c : Ctx V w M) (h : CInv V w M me wr) (o : Obj) : CInv V w M me (wr.alloc o) := h.grown c (World.grownBy_alloc wr o none) (fun b hb => by cases hb)
theorem CInv.belowW {V w : World} {M : Nat} {me : List MapEntry} {wr w' : World} (c : Ctx V w M) (h : CInv V w M me wr) (hb : Below wr.heap.size wr w') : CInv V w M me w' :=
  h.grown (row := none) c ⟨hb.os, hb.tape, hb.output, hb.size, fun k hk _ => hb.block k hk⟩ (fun b hb => by cases hb)
theorem CInv.put {V w : World} {M : Nat} {me : List MapEntry} {wr w' : World} (c : Ctx V w M) (h : CInv V w M me wr) (hg : wr.grownBy w' (some M)) {es' : Array MapEntry} {k' : Nat} {key : Value} (hk : SpOk V key)
    (h3 : w'.heap[M]? = some (.map es' k')) (h5 : ∀ x, x ∈ es'.toList → x.key = key ∨ ∃ y, y ∈ me ∧ y.key = x.key) : CInv V w M es'.toList w' where
  keep := fun b cs T z e => by
    have hb := heap_lt e
    rw [hg.block b (Nat.lt_of_lt_of_le hb h.size) (fun e2 => by obtain ⟨es0, k0, h0⟩ := c.map; simp at e2; rw [e2, h0] at e; simp at e)]
    exact h.keep b cs T z e
  below := h.below.grown hg h.below.size (fun b hb => by cases hb; exact c.hM)
  map := ⟨es', k', h3, rfl⟩
  keys := fun x hx => by
    rcases h5 x hx with e | ⟨y, hy, e⟩
    · rw [e]; exact hk
    · rw [← e]; exact h.keys y hy
  size := Nat.le_trans h.size hg.size
def RelC (V w : World) (M : Nat) (rv : Value) (root : List STree) (n : Nat) (x : Value) (wr : World) : Prop :=
  ∃ (es : List Ce) (me : List MapEntry), Cg V rv root me es ∧ cost es = n ∧ n ≤ 5000000 ∧ wr.ownsRow V.heap.size 138 2 x es.length (ceV es) ∧ CInv V w M me wr ∧ ∀ e, e ∈ es → cntXS e.l ≤ cntXS root
theorem cnt_mem : ∀ {xs : List STree} {x : STree}, x ∈ xs → cntX x ≤ cntXS xs
  | a :: r, x, h => by
    rw [cntXS]
    rcases List.mem_cons.1 h with rfl | h
    · omega
    · have := cnt_mem h; omega
theorem start (w V : World) (xs : List STree) (v : Value) (hz : cntXS xs ≤ 1100000) (h : SListF w v xs) (hV : V = w.alloc (.map #[] 0)) :
    Ctx V w w.heap.size ∧ V.heap.size = w.heap.size + 1 ∧ SListF V v xs ∧ ∃ m, RelC V w w.heap.size v xs m (.slice (some ⟨w.heap.size + 1, 0, none⟩) 1 1) (V.alloc (.cells #[v, .bool false] 138)) := by
  have hn : V.heap.size = w.heap.size + 1 := by rw [hV]; simp
  have bV : Below w.heap.size w V := by rw [hV]; exact (Below.refl _ _).alloc (Nat.le_refl _) _
  have m1 : V.heap[w.heap.size]? = some (.map #[] 0) := by rw [hV]; exact heap_alloc_new _ _
  have cx : Ctx V w w.heap.size := ⟨⟨_, _, m1⟩, Nat.le_refl _, by omega⟩
  have hV2 : SListF V v xs := h.keep (keepF_below bV)
  refine ⟨cx, hn, hV2, _, [⟨v, xs, false⟩], [], Cg.start hV2, rfl, ?_, ?_, ?_, ?_⟩
  · have := kdXL_le xs
    simp [cost, costE]; omega
  · obtain ⟨_, aa, ac, e1, _⟩ := h
    have := World.ownsRow_lit (base := V.heap.size) (size := 2) (e := 138) V #[v, .bool false] 1 (Nat.le_refl _) (by decide) rfl
    rw [hn] at this
    rw [hn]
    exact this
  · exact CInv.alloc cx ⟨fun _ _ _ _ h => h, bV, ⟨#[], 0, m1, rfl⟩, (fun x hx => by cases hx), Nat.le_refl _⟩ _
  · intro e he
    obtain rfl : e = _ := by simpa using he
    exact Nat.le_refl _
theorem two_new (w : World) (o : Obj) (a b c d : Value) (T : TypeId) : ((w.alloc o).alloc (.cells #[a, b, c, d] T)).heap[w.heap.size + 1]? = some (.cells #[a, b, c, d] T (0, 0)) := by
  have := heap_alloc_new (w.alloc o) (.cells #[a, b, c, d] T)
  simpa using this
theorem mark_cells2 (a b : Option Addr) (n c m d : Nat) (x y : Bool) : ∀ u ∈ [Value.slice a n c, Value.bool x, Value.slice b m d, Value.bool y], u.oneCell' = true := by
  intro u hu
  simp at hu
  rcases hu with rfl | rfl | rfl | rfl <;> rfl
theorem kids_cnt {V : World} {g o : Nat} {xs : List STree} (hl : SLiesLF V g o xs) : ∀ i, i ≤ xs.length → ∀ e, e ∈ kidsE V g o xs i → cntXS e.l ≤ cntXS xs
  | 0, _, e, h => by cases h
  | i + 1, hi, e, h => by
    have hlt : i < xs.length := by omega
    obtain ⟨ta, tc, ba, bc, ea, ec, c0, c1, c2, c3, c4, c5, c6, c7, lx⟩ := hl.at i hlt
    rw [kidsE_succ hlt c6 c7] at h
    have hm := cnt_mem (List.getElem_mem hlt)
    rw [cntX_eq] at hm
    rcases List.mem_append.1 h with h | h
    · exact kids_cnt hl i (by omega) e h
    · have h : e = (⟨.slice ba xs[i].body.length bc, xs[i].body, false⟩ : Ce) ∨ e = (⟨.slice ea xs[i].els.length ec, xs[i].els, false⟩ : Ce) := by simpa using h
      rcases h with rfl | rfl <;> simp only <;> omega
theorem len_kd : ∀ l : List STree, 2 * l.length ≤ kdXL l
  | [] => by simp [kdXL]
  | x :: r => by rw [kdXL, List.length_cons, kdX_eq]; have := len_kd r; omega
theorem mark_cells (a : Option Addr) (n c : Nat) (b : Bool) : ∀ u ∈ [Value.slice a n c, Value.bool b], u.oneCell' = true := by
  intro u hu
  simp at hu
  rcases hu with rfl | rfl <;> rfl
set_option maxRecDepth 20000 in
set_option maxHeartbeats 3200000 in
theorem implCount_any (xs : List STree) (v : Value) (w : World) (hz : cntXS xs ≤ 1100000) (h : SListF w v xs) :
    Calls Try.prog 70 #[v] w fun e w' => e = .returned (.int .i64 (cntXS xs : Int)) ∧ Below w.heap.size w w' := by
  obtain ⟨i0, hi, hz0, hz1, hz2⟩ := info_parts infoCount
  obtain ⟨V, hV⟩ : ∃ V, V = w.alloc (.map #[] 0) := ⟨_, rfl⟩
  obtain ⟨cx, hVs, hl, m0, hst⟩ := start w V xs v hz h hV
  have CX := Lib.hid cx
  have HV := Lib.hid hV
  have HVs := Lib.hid hVs
  have HST := Lib.hid hst
  have HL := Lib.hid hl
  have HCZ := Lib.hid hz
  obtain ⟨_, aa, ac, rfl, _⟩ := h
  have hmm := @run_makeMap Try.prog
  clear hz hV hVs hst cx hl
  go_enter Try.func70, Try.ntmps70
  go_wp2
  go_loopw [4] (fun x wr => ∃ n, RelC V w w.heap.size (.slice aa xs.length ac) xs n x wr) (fun x wr => Lg.leastN fun n => RelC V w w.heap.size (.slice aa xs.length ac) xs n x wr)
  case atStart => rw [← HV.out]; exact ⟨m0, HST.out⟩
  case round =>
    have hR := Lg.leastN_at hrel
    obtain ⟨n0, hn0⟩ : ∃ n0, n0 = Lg.leastN fun n => RelC V w w.heap.size (.slice aa xs.length ac) xs n u4 wr := ⟨_, rfl⟩
    rw [← hn0] at hR
    have HN0 := Lib.hid hn0
    obtain ⟨es, me, hcg, hwt, hnb, hrow, hci, hcl⟩ := hR
    have HNBD := Lib.hid hnb
    have HCI := Lib.hid hci
    have HCL := Lib.hid hcl
    obtain ⟨oa, oc, rfl, hoa⟩ := row_shape hrow
    by_cases hes : es = []
    · subst hes
      have HD : Hid (lookK me (spV (spotA (.slice aa xs.length ac)) xs.length) = some (.int .i64 (cntXS xs : Int))) := hcg.yes
      have HMK : Hid (MetK SpOk V me) := hci.keys
      obtain ⟨mes, mck, hm1, rfl⟩ := hci.map
      have HM1 := Lib.hid hm1
      have C := Lib.hid (fun w2 => implSpot_any aa xs.length ac HL.out.1 (fun h => by obtain ⟨_, _, _, e, hq⟩ := HL.out; simp at e; obtain ⟨rfl, _⟩ := e; obtain ⟨g, o, e, _⟩ := hq h; exact ⟨g, o, e⟩) w2)
      clear hrel hn0 hcg hwt hnb hrow hci hcl hoa hm1
      simp only [List.length_nil]
      go_wp2_with fail
      refine (C.out _).mono ?_
      rintro e w1 ⟨rfl, hb⟩
      have hm : w1.heap[w.heap.size]? = some (.map mes mck) := by rw [hb.block _ (heap_lt HM1.out)]; exact HM1.out
      have kf := KeepF.below HCI.out.keep hb
      have hrun := (run_look spot_key Try.underlying136 (z := .int .i64 0) (fun w => by kernel_rfl) hm (fun x hx => SpOk.keep kf (HMK.out x hx)) (SpOk.keep kf (spot_ok HL.out))).1
      unfold keyV at hrun
      rw [HD.out] at hrun
      simp only [Option.getD_some] at hrun
      have HB := Lib.hid (HCI.out.below.trans (hb.mono HCI.out.below.size))
      clear hb hm kf
      unfold spV at hrun ⊢
      go_wp2
      go_ret
      exact ⟨rfl, HB.out⟩
    · obtain ⟨A, ⟨lv, l, b⟩, rfl⟩ := last_of es hes
      obtain ⟨g, rfl⟩ := hoa (by simp)
      have hK : A.length ≤ 5000000 := by
        have := cost_len (A ++ [(⟨lv, l, b⟩ : Ce)])
        simp at this
        omega
      rw [List.length_append, List.length_singleton, ceV_append] at hrow
      have hcap : A.length ≤ oc := by have := row_cap hrow; omega
      have c0 : wr.cell? ⟨g, A.length * 2, none⟩ = some lv := by
        rw [hrow.cellAt (A.length * 2) (by omega)]; simp [ceV, ceV_len]
      have c1 : wr.cell? ⟨g, A.length * 2 + 1, none⟩ = some (.bool b) := by
        rw [hrow.cellAt (A.length * 2 + 1) (by omega), List.getElem?_append_right (by rw [ceV_len]; omega), ceV_len]; simp [ceV]
      have okE : SListF V lv l := hcg.ok ⟨lv, l, b⟩ (by simp)
      have HOE := Lib.hid okE
      have hcnt : cntXS l ≤ cntXS xs := hcl ⟨lv, l, b⟩ (by simp)
      have HCNT := Lib.hid hcnt
      obtain ⟨ll, la, lc, rfl, laf⟩ := okE
      have HPRE := Lib.hid (row_prefix (n := A.length) (n' := 1) (xs := ceV A) hrow (ceV_len A) (by omega))
      have HCG := Lib.hid hcg
      have HWT : Hid (n0 = cost A + costE ⟨.slice la l.length lc, l, b⟩) := by show _ = _; rw [← hwt, cost_append]; simp [cost]
      have HLF := Lib.hid laf
      have CS := Lib.hid (fun w2 => implSpot_any la l.length lc ll (fun h => by obtain ⟨g, o, e, _⟩ := HLF.out h; exact ⟨g, o, e⟩) w2)
      clear hrel hn0 hcg hwt hnb hrow hci hcl hes laf hcnt
      simp only [List.length_append, List.length_singleton]
      clear hmm
      have HI := Lib.hid hi
      have HZ0 := Lib.hid hz0
      have HZ1 := Lib.hid hz1
      have HZ2 := Lib.hid hz2
      clear hi hz0 hz1 hz2
      obtain ⟨K, hKe⟩ : ∃ K, K = A.length := ⟨_, rfl⟩
      have HK := Lib.hid hKe
      rw [← hKe] at hK c0 c1 hcap ⊢
      clear hKe
      obtain ⟨W1, hW1⟩ : ∃ W1, W1 = wr.alloc (.cells #[.slice la l.length lc, .bool b] 138) := ⟨_, rfl⟩
      have I1 : Hid (CInv V w w.heap.size me W1) := by show CInv _ _ _ _ _; rw [hW1]; exact HCI.out.alloc CX.out _
      have R1 : Hid (W1.ownsRow V.heap.size 138 2 (.slice (some ⟨g, 0, none⟩) K oc) K (ceV A)) := by show World.ownsRow _ _ _ _ _ _ _; rw [hW1, HK.out]; exact HPRE.out.alloc _
      have b0 : W1.cell? ⟨wr.heap.size, 0, none⟩ = some (.slice la l.length lc) := by rw [hW1]; simp [go_sem]
      have b1 : W1.cell? ⟨wr.heap.size, 1, none⟩ = some (.bool b) := by rw [hW1]; simp [go_sem]
      have HW1 := Lib.hid hW1
      obtain ⟨B, hB⟩ : ∃ B, B = wr.heap.size := ⟨_, rfl⟩
      have HB := Lib.hid hB
      rw [← hB] at b0 b1
      have BB := Lib.hid (And.intro b0 b1)
      clear hW1 hB b0 b1
      go_wp2_with fail
      rw [← HW1.out, ← HB.out]
      refine (CS.out _).mono ?_
      rintro e w2 ⟨rfl, hb2⟩
      obtain ⟨W3, hW3⟩ : ∃ W3, W3 = w2.alloc (.cells #[.pointer (spotA (.slice la l.length lc)), .int .i64 (l.length : Int)] 142) := ⟨_, rfl⟩
      have hb3 : Below W1.heap.size W1 W3 := by rw [hW3]; exact hb2.alloc hb2.size _
      have I3 := Lib.hid (I1.out.belowW CX.out hb3)
      have R3 := Lib.hid (row_below R1.out hb3)
      have X3 : Hid (W3.cell? ⟨B, 0, none⟩ = some (.slice la l.length lc) ∧ W3.cell? ⟨B, 1, none⟩ = some (.bool b)) := ⟨keeps_below hb3 _ _ BB.out.1, keeps_below hb3 _ _ BB.out.2⟩
      have s0 : W3.cell? ⟨w2.heap.size, 0, none⟩ = some (.pointer (spotA (.slice la l.length lc))) := by rw [hW3]; simp [go_sem]
      have s1 : W3.cell? ⟨w2.heap.size, 1, none⟩ = some (.int .i64 (l.length : Int)) := by rw [hW3]; simp [go_sem]
      have HW3 := Lib.hid hW3
      obtain ⟨S, hS⟩ : ∃ S, S = w2.heap.size := ⟨_, rfl⟩
      have HS := Lib.hid hS
      rw [← hS] at s0 s1
      have SS := Lib.hid (And.intro s0 s1)
      obtain ⟨x0, x1⟩ := X3.out
      rw [HW3.out] at x0 x1
      unfold spV
      have HKE : Hid (SpOk V (keyV (.slice la l.length lc) l)) := spot_ok HOE.out
      obtain ⟨mes, mck, hm1, hme⟩ := I3.out.map
      have HM1 := Lib.hid hm1
      have HME := Lib.hid hme
      have hkk := SpOk.keep I3.out.keep HKE.out
      have hmk : MetK SpOk W3 mes.toList := fun x hx => SpOk.keep I3.out.keep (I3.out.keys x (by rw [← HME.out]; exact hx))
      have hrun := (run_look spot_key Try.underlying136 (z := .int .i64 0) (fun w => by kernel_rfl) hm1 hmk hkk).2
      clear hW3 hS hb2 hb3 hm1 hme
      cases b with
      | true =>
        clear hrun hkk hmk
        have hkids := HCG.out.kids rfl
        rw [← HME.out] at hkids
        have CB : Hid (∀ wx, Below W3.heap.size W3 wx → Calls Try.prog 110 #[.map (some w.heap.size), .slice la l.length lc] wx fun e w' => e = .returned (.int .i64 (cntXS l : Int)) ∧ Below W3.heap.size W3 w' ∧ ∃ w5 es5 ck5, (Instr.mapUpdate 136 (.map (some w.heap.size)) (.agg #[.pointer (spotA (.slice la l.length lc)), .int .i64 (l.length : Int)]) (.int .i64 (cntXS l : Int))).run Try.prog w' = .ok () w5 ∧ w5.heap[w.heap.size]? = some (.map es5 ck5) ∧ (∀ k', lookK es5.toList k' = @ite _ (keyV (.slice la l.length lc) l = k') (Classical.propDecidable _) (some (Value.int .i64 (cntXS l : Int))) (lookK mes.toList k')) ∧ (∀ x, x ∈ es5.toList → x.key = keyV (.slice la l.length lc) l ∨ ∃ y, y ∈ mes.toList ∧ y.key = x.key) ∧ w'.grownBy w5 (some w.heap.size)) := fun wx hb => by
          have hm : wx.heap[w.heap.size]? = some (.map mes mck) := by rw [hb.block _ (heap_lt HM1.out)]; exact HM1.out
          refine (implCountBy_any V wx w.heap.size l _ (KeepF.below I3.out.keep hb) HOE.out (by have := HCNT.out; have := HCZ.out; omega) mes mck hm (fun x hx => I3.out.keys x (by rw [← HME.out]; exact hx)) hkids).mono ?_
          rintro e w' ⟨rfl, hb'⟩
          have hbb := hb.trans (hb'.mono hb.size)
          have kf := KeepF.below I3.out.keep hbb
          have hm' : w'.heap[w.heap.size]? = some (.map mes mck) := by rw [hbb.block _ (heap_lt HM1.out)]; exact HM1.out
          obtain ⟨w5, es5, ck5, hr, h3, h4, h5, h6⟩ := run_put spot_key Try.underlying136 (.int .i64 (cntXS l : Int)) hm' (fun x hx => SpOk.keep kf (I3.out.keys x (by rw [← HME.out]; exact hx))) (SpOk.keep kf HKE.out)
          exact ⟨rfl, hbb, w5, es5, ck5, hr, h3, h4, h5, h6⟩
        clear hkids
        have hb0 : Below W3.heap.size W3 W3.drew := (Below.refl _ _).drew
        have KS : Hid (∀ wx, Below W3.heap.size W3 wx → wx.cell? ⟨B, 0, none⟩ = some (.slice la l.length lc) ∧ wx.cell? ⟨S, 0, none⟩ = some (.pointer (spotA (.slice la l.length lc))) ∧ wx.cell? ⟨S, 1, none⟩ = some (.int .i64 (l.length : Int))) := fun wx hb => ⟨keeps_below hb _ _ X3.out.1, keeps_below hb _ _ SS.out.1, keeps_below hb _ _ SS.out.2⟩
        have KP : Hid (∀ wx w5, Below W3.heap.size W3 wx → wx.grownBy w5 (some w.heap.size) → w5.cell? ⟨B, 0, none⟩ = some (.slice la l.length lc) ∧ w5.cell? ⟨S, 0, none⟩ = some (.pointer (spotA (.slice la l.length lc))) ∧ w5.cell? ⟨S, 1, none⟩ = some (.int .i64 (l.length : Int))) := fun wx w5 hb hg => by
          have hm : wx.heap[w.heap.size]? = some (.map mes mck) := by rw [hb.block _ (heap_lt HM1.out)]; exact HM1.out
          obtain ⟨k0, k1, k2⟩ := KS.out wx hb
          exact ⟨cell_grown k0 hg (fun e => cell_noMap k0 hm (by cases e; rfl)), cell_grown k1 hg (fun e => cell_noMap k1 hm (by cases e; rfl)), cell_grown k2 hg (fun e => cell_noMap k2 hm (by cases e; rfl))⟩
        clear s0 s1
        go_wp2_with fail
        rw [← HW3.out, ← HS.out]
        go_cut [34] (fun s34 wx => ∃ (w' : World) (es5 : Array MapEntry) (ck5 : Nat), Below W3.heap.size W3 w' ∧ wx.heap[w.heap.size]? = some (.map es5 ck5) ∧ (∀ k', lookK es5.toList k' = @ite _ (keyV (.slice la l.length lc) l = k') (Classical.propDecidable _) (some (Value.int .i64 (cntXS l : Int))) (lookK mes.toList k')) ∧ (∀ x, x ∈ es5.toList → x.key = keyV (.slice la l.length lc) l ∨ ∃ y, y ∈ mes.toList ∧ y.key = x.key) ∧ w'.grownBy wx (some w.heap.size))
        case first =>
          go_region_held3 (fun wx => wx.cell? ⟨B, 0, none⟩ = some (.slice la l.length lc) ∧ wx.cell? ⟨S, 0, none⟩ = some (.pointer (spotA (.slice la l.length lc))) ∧ wx.cell? ⟨S, 1, none⟩ = some (.int .i64 (l.length : Int)))
            (first | exact KS.out _ (by assumption) | exact KP.out _ _ (by assumption) (by assumption))
            (first
            | (go_at_call 110; (with_reducible refine (CB.out _ (by assumption)).mono ?_); rintro e w4 ⟨rfl, hb4, w5, es5, ck5, hrun5, h3, h4, h5, h6⟩))
          all_goals
            go_wp2_with fail
            go_meet
            exact ⟨w4, es5, ck5, hb4, h3, h4, h5, h6⟩
        case rest =>
          obtain ⟨w4, es5, ck5, hb4, h3, h4, h5, h6⟩ := hcut
          have I4 := Lib.hid (I3.out.belowW CX.out hb4)
          have I5 : Hid (CInv V w w.heap.size es5.toList wc) := CInv.put CX.out I4.out h6 HKE.out h3 (fun x hx => by rw [← HME.out]; exact h5 x hx)
          have R5 : Hid (wc.ownsRow V.heap.size 138 2 (.slice (some ⟨g, 0, none⟩) K oc) K (ceV A)) := by
            have R4 := row_below R3.out hb4
            exact row_same R4 fun q hq => h6.block q (R4.lt q hq).2 (fun e => by cases e; have := (R4.lt _ hq).1; have := CX.out.lt; omega)
          have CG5 : Hid (Cg V (.slice aa xs.length ac) xs es5.toList A) := HCG.out.close HL.out (fun k' => by rw [← HME.out]; exact h4 k') (fun e he => kid_ok (HCG.out.ok e (by simp [he])))
          have CL5 : Hid (∀ e, e ∈ A → cntXS e.l ≤ cntXS xs) := fun e he => HCL.out e (by simp [he])
          clear hb4 h3 h4 h5 h6 x0 x1
          go_wp2
          go_roundw
          case rel => exact ⟨_, A, es5.toList, CG5.out, rfl, by have := HWT.out; have := HNBD.out; omega, by have := R5.out; rw [HK.out] at this; rw [HK.out]; exact this, I5.out, CL5.out⟩
          case measure =>
            have h1 := HN0.out
            have h2 := HWT.out
            simp only [costE, if_true] at h2
            simp only [List.length_append, List.length_singleton, ← HK.out] at h1
            refine Nat.lt_of_le_of_lt (Lg.leastN_le ⟨A, es5.toList, CG5.out, rfl, by have := HNBD.out; omega, by have := R5.out; rw [HK.out] at this; rw [HK.out]; exact this, I5.out, CL5.out⟩) (by rw [← h1]; omega)
      | false =>
        obtain ⟨w5, es5, ck5, hrun5, m5, l5, k5, g5⟩ := run_put spot_key Try.underlying136 (.int .i64 9223372036854775807) HM1.out hmk hkk
        have CL5 : Hid (∀ e, e ∈ A → cntXS e.l ≤ cntXS xs) := fun e he => HCL.out e (by simp [he])
        clear hmk hkk
        cases hlk : lookK mes.toList (keyV (.slice la l.length lc) l) with
        | some u =>
          have HD := Lib.hid (HCG.out.met rfl (v := u) (by rw [← HME.out]; exact hlk))
          have CG5 := Lib.hid (HCG.out.skip rfl HD.out)
          rw [hlk] at hrun
          simp only [Option.getD_some, Option.isSome_some] at hrun
          rw [HW3.out] at hrun
          unfold keyV spV at hrun
          clear hlk hrun5 m5 l5 k5 g5 s0 s1
          go_wp2_with fail
          rw [← HW3.out]
          go_wp2
          go_roundw
          case rel => exact ⟨_, A, me, CG5.out, rfl, by have := HWT.out; have := HNBD.out; omega, by have := R3.out; rw [HK.out] at this; rw [HK.out]; exact this, I3.out, CL5.out⟩
          case measure =>
            have h1 := HN0.out
            have h2 := HWT.out
            simp only [costE] at h2
            simp only [List.length_append, List.length_singleton, ← HK.out] at h1
            refine Nat.lt_of_le_of_lt (Lg.leastN_le ⟨A, me, CG5.out, rfl, by have := HNBD.out; omega, by have := R3.out; rw [HK.out] at this; rw [HK.out]; exact this, I3.out, CL5.out⟩) (by rw [← h1]; simp at h2; omega)
        | none =>
          have HPK := Lib.hid (And.intro m5 (And.intro l5 (And.intro k5 g5)))
          have I5 : Hid (CInv V w w.heap.size es5.toList w5) := CInv.put CX.out I3.out g5 HKE.out m5 (fun x hx => by rw [← HME.out]; exact k5 x hx)
          have R5 : Hid (w5.ownsRow V.heap.size 138 2 (.slice (some ⟨g, 0, none⟩) K oc) K (ceV A)) := row_same R3.out fun q hq => g5.block q (R3.out.lt q hq).2 (fun e => by cases e; have := (R3.out.lt _ hq).1; have := CX.out.lt; omega)
          have X5 : Hid (w5.cell? ⟨B, 0, none⟩ = some (.slice la l.length lc)) := cell_grown X3.out.1 g5 (fun e => cell_noMap X3.out.1 HM1.out (by cases e; rfl))
          obtain ⟨go, oo, hgo⟩ : ∃ go oo, (0 < l.length → la = some ⟨go, oo, none⟩ ∧ FreeB V go) ∧ SLiesLF V go oo l := by
            rcases Nat.eq_zero_or_pos l.length with h0 | h0
            · rw [List.length_eq_zero_iff.1 h0]
              exact ⟨0, 0, (fun h => absurd h (by simp)), trivial⟩
            · obtain ⟨go, oo, e, f, hl⟩ := HLF.out h0
              exact ⟨go, oo, fun _ => ⟨e, f⟩, hl⟩
          have HGO := Lib.hid hgo
          have KA := Lib.hid (kidsE_at hgo.2 l.length (Nat.le_refl _))
          have CG5 : Hid (Cg V (.slice aa xs.length ac) xs es5.toList (A ++ [⟨.slice la l.length lc, l, true⟩] ++ kidsE V go oo l l.length)) :=
            HCG.out.opened (by rw [← HME.out]; exact hlk) (fun k' => by rw [← HME.out]; exact l5 k') KA.out.1 (fun i j mv m hk => by
              obtain ⟨g', o', n', c', hi', e, hcell, hj⟩ := hk
              have h1 := (HGO.out.1 (by omega)).1
              simp at e
              rw [h1] at e
              simp at e
              obtain ⟨⟨rfl, rfl⟩, _⟩ := e
              obtain ⟨f, hf, e1, e2⟩ := KA.out.2.2 i n' c' j mv m hi' ⟨_, _, n', c', hi', rfl, hcell, hj⟩
              exact ⟨f, hf, by rw [e1], e2⟩)
          have HLEN : Hid (2 * l.length ≤ kdXL l ∧ kdXL l ≤ 2200000) := ⟨len_kd l, by have := kdXL_le l; have := HCNT.out; have := HCZ.out; omega⟩
          have hK2 : A.length ≤ 5000000 := by have := HK.out; omega
          rw [hlk] at hrun
          simp only [Option.getD_none, Option.isSome_none] at hrun
          rw [HW3.out] at hrun hrun5
          unfold keyV spV at hrun hrun5
          clear hlk m5 l5 k5 g5 s0 s1 hgo
          have x5 := X5.out
          have hVs5 : V.heap.size ≤ w5.heap.size := I5.out.size
          go_wp2_with (at_builtin; refine wpList_append_lies _ rfl (.tmp 49) (.tmp 53) 139 rfl V.heap.size 138 i0 (.agg #[.slice none 0 0, .bool false]) 2 32 Try.underlying139 HI.out HZ0.out HZ1.out HZ2.out rfl (by decide) (.slice (some ⟨g, 0, none⟩) K oc) K _ rfl (R5.out.alloc _) ⟨w5.heap.size, 0, none⟩ 1 1 [.slice la l.length lc, .bool true] rfl rfl (World.news_of_block (heap_alloc_new _ _)) (mark_cells _ _ _ _) (by decide) (by unfold maxLen; omega) (by omega) (by simp; omega) _ rfl ?_)
          intro g6 cap6 w6 hown6 hg6 hat6 hlt6
          have I6 := Lib.hid ((I5.out.alloc CX.out _).grown CX.out hg6 (fun b hb => (R5.out.lt b hb).1))
          have hgB : g ≠ B := fun e => by have := (HPRE.out.lt g rfl).2; have := HB.out; omega
          have x6 : w6.cell? ⟨B, 0, none⟩ = some (.slice la l.length lc) := cell_grown (keeps_alloc _ _ _ _ X5.out) hg6 (fun e => hgB (by simpa [Value.ownBlock] using e.symm))
          have R6 : Hid (w6.ownsRow V.heap.size 138 2 (.slice (some ⟨g6, 0, none⟩) (K + 1) cap6) (A ++ [(⟨.slice la l.length lc, l, true⟩ : Ce)] ++ kidsE V go oo l 0).length (ceV (A ++ [(⟨.slice la l.length lc, l, true⟩ : Ce)] ++ kidsE V go oo l 0))) := by
            show World.ownsRow _ _ _ _ _ _ _
            rw [show kidsE V go oo l 0 = [] from rfl, List.append_nil, List.length_append, ceV_append, ← HK.out]
            exact hown6
          clear hown6 hg6 hat6 hlt6 hrun hrun5 x0 x1 x5
          go_wp2
          go_loopw [4, 58] (fun x i wy => ∃ j : Nat, j ≤ l.length ∧ i = .int .i64 j ∧ Hid (wy.ownsRow V.heap.size 138 2 x (A ++ [(⟨.slice la l.length lc, l, true⟩ : Ce)] ++ kidsE V go oo l j).length (ceV (A ++ [(⟨.slice la l.length lc, l, true⟩ : Ce)] ++ kidsE V go oo l j))) ∧ Hid (CInv V w w.heap.size es5.toList wy))
            (fun _ i _ => l.length - (intOf i).toNat)
          case atStart => exact ⟨0, Nat.zero_le _, rfl, R6.out, I6.out⟩
          case round =>
            obtain ⟨j, hj, rfl, hrj, hij⟩ := hrel
            by_cases hlt : j < l.length
            · obtain ⟨rfl, f1⟩ := HGO.out.1 (by omega)
              obtain ⟨ta, tc, ba, bc, ea, ec, p0, p1, p2, p3, p4, p5, p6, p7, lx⟩ := HGO.out.2.at j hlt
              have HKS := Lib.hid (kidsE_succ hlt p6 p7)
              rw [← f1.cell hij.out.keep] at p0 p1 p2 p3 p4 p5 p6 p7
              have hle : (A ++ [(⟨.slice (some ⟨go, oo, none⟩) l.length lc, l, true⟩ : Ce)] ++ kidsE V go oo l j).length ≤ 8000000 := by
                rw [List.length_append, List.length_append, kidsE_len]
                have := HLEN.out
                simp
                omega
              have HNN : Hid ((A ++ [(⟨.slice (some ⟨go, oo, none⟩) l.length lc, l, true⟩ : Ce)] ++ kidsE V go oo l (j + 1)).length = (A ++ [(⟨.slice (some ⟨go, oo, none⟩) l.length lc, l, true⟩ : Ce)] ++ kidsE V go oo l j).length + 2) := by
                show _ = _
                rw [List.length_append, List.length_append, List.length_append, List.length_append, kidsE_len, kidsE_len]
                omega
              have HVV : Hid (ceV (A ++ [(⟨.slice (some ⟨go, oo, none⟩) l.length lc, l, true⟩ : Ce)] ++ kidsE V go oo l (j + 1)) = ceV (A ++ [(⟨.slice (some ⟨go, oo, none⟩) l.length lc, l, true⟩ : Ce)] ++ kidsE V go oo l j) ++ [.slice ba l[j].body.length bc, .bool false, .slice ea l[j].els.length ec, .bool false]) := by
                show _ = _
                rw [HKS.out, ← List.append_assoc, ceV_append (_ ++ kidsE V go oo l j)]
                rfl
              generalize hN : (A ++ [(⟨.slice (some ⟨go, oo, none⟩) l.length lc, l, true⟩ : Ce)] ++ kidsE V go oo l j).length = N at hrj hle HNN
              generalize hC : ceV (A ++ [(⟨.slice (some ⟨go, oo, none⟩) l.length lc, l, true⟩ : Ce)] ++ kidsE V go oo l j) = cs at hrj HVV
              have hVs7 : V.heap.size ≤ wr.heap.size := hij.out.size
              clear hN hC lx f1 x6
              go_wp2_with (at_builtin; refine wpList_append_lies _ rfl (.tmp 62) (.tmp 69) 139 rfl V.heap.size 138 i0 (.agg #[.slice none 0 0, .bool false]) 2 32 Try.underlying139 HI.out HZ0.out HZ1.out HZ2.out rfl (by decide) u4 N _ rfl ((hrj.out.alloc _).alloc _) ⟨wr.heap.size + 1, 0, none⟩ 2 2 [.slice ba l[j].body.length bc, .bool false, .slice ea l[j].els.length ec, .bool false] rfl rfl (World.news_of_block (two_new _ _ _ _ _ _ _)) (mark_cells2 _ _ _ _ _ _ _ _) (by decide) (by unfold maxLen; omega) (by omega) (by simp; omega) _ rfl ?_)
              intro g7 cap7 w7 hown7 hg7 hat7 hlt7
              have I7 := Lib.hid (((hij.out.alloc CX.out _).alloc CX.out _).grown CX.out hg7 (fun b hb => (hrj.out.lt b hb).1))
              have R7 : Hid (w7.ownsRow V.heap.size 138 2 (.slice (some ⟨g7, 0, none⟩) (N + 2) cap7) (A ++ [(⟨.slice (some ⟨go, oo, none⟩) l.length lc, l, true⟩ : Ce)] ++ kidsE V go oo l (j + 1)).length (ceV (A ++ [(⟨.slice (some ⟨go, oo, none⟩) l.length lc, l, true⟩ : Ce)] ++ kidsE V go oo l (j + 1)))) := by
                show World.ownsRow _ _ _ _ _ _ _
                rw [HNN.out, HVV.out]
                exact hown7
              clear hown7 hg7 hat7 hlt7 p0 p1 p2 p3 p4 p5 p6 p7
              go_wp2
              go_roundw
              case rel => exact ⟨j + 1, by omega, by go_num, R7.out, I7.out⟩
              case measure => simp [intOf]; omega
            · obtain rfl : j = l.length := by omega
              have CL8 : Hid (∀ e, e ∈ A ++ [(⟨.slice la l.length lc, l, true⟩ : Ce)] ++ kidsE V go oo l l.length → cntXS e.l ≤ cntXS xs) := fun e he => by
                rcases List.mem_append.1 he with h | h
                · rcases List.mem_append.1 h with h | h
                  · exact CL5.out e h
                  · obtain rfl : e = _ := by simpa using h
                    exact HCNT.out
                · exact Nat.le_trans (kids_cnt HGO.out.2 l.length (Nat.le_refl _) e h) HCNT.out
              have HCO : Hid (cost (A ++ [(⟨.slice la l.length lc, l, true⟩ : Ce)] ++ kidsE V go oo l l.length) + 1 = n0) := by
                show _ = _
                rw [cost_append, cost_append, KA.out.2.1, List.take_length]
                have := HWT.out
                simp [cost, costE] at this ⊢
                omega
              clear x6
              go_wp2
              go_roundw
              case rel => exact ⟨_, _, es5.toList, CG5.out, rfl, by have := HCO.out; have := HNBD.out; omega, hrj.out, hij.out, CL8.out⟩
              case measure =>
                have h1 := HN0.out
                simp only [List.length_append, List.length_singleton, ← HK.out] at h1
                refine Nat.lt_of_le_of_lt (Lg.leastN_le ⟨_, es5.toList, CG5.out, rfl, by have := HCO.out; have := HNBD.out; omega, hrj.out, hij.out, CL8.out⟩) (by rw [← h1]; have := HCO.out; omega)
end Go.Proofs.Ytmhhghdfgdhljaa.Cn
