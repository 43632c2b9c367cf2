/- Drawn programs that are turned: with another first name, with other globals. Without conditions. With what it stands on, in one text. -/
import Derived.Test.YtkfeiekgdfklmaaGreatDoorDProg
import Derived.Test.YtkfeiekgdfklmaaGreatDoorStrCells
import Derived.Deep.RegionHeld3
import Derived.Deep.RegionLaw
import Derived.Deep.DeepCutAuto
/- What the rounds of the model's l05Prog lay and keep. Without conditions. -/
namespace Go.Proofs.YtkfeiekgdfklmaaGreatDoor.Cur
open Go.RowKit Own Trm Lexs
theorem once_any (W0 w : World) (c : Nat) (bs : List UInt8) (bv : Value) (s : St) (h : At W0 w c bs bv s) :
    Calls Tryz.prog 86 #[.pointer (some ⟨c, 0, none⟩), .int .i64 2] w fun e w' => e = .returned (.bool (decide (belowF bs 2 s = 0))) ∧ Next W0 w c bs bv (belowS bs 2 s) w' := by
  by_cases hb : belowF bs 2 s = 0
  · rw [show decide (belowF bs 2 s = 0) = true from decide_eq_true hb]; exact once_yes W0 w c bs bv s h hb
  · rw [show decide (belowF bs 2 s = 0) = false from decide_eq_false hb]; exact once_no W0 w c bs bv s h hb
/-- Five blocks laid one behind the other. -/
theorem five_blocks (w : World) (o0 o1 o2 o3 o4 : Obj) : (((((w.alloc o0).alloc o1).alloc o2).alloc o3).alloc o4).heap.size = w.heap.size + 5 ∧ (((((w.alloc o0).alloc o1).alloc o2).alloc o3).alloc o4).heap[w.heap.size]? = some o0 ∧ (((((w.alloc o0).alloc o1).alloc o2).alloc o3).alloc o4).heap[w.heap.size + 1]? = some o1 ∧
    (((((w.alloc o0).alloc o1).alloc o2).alloc o3).alloc o4).heap[w.heap.size + 2]? = some o2 ∧ (((((w.alloc o0).alloc o1).alloc o2).alloc o3).alloc o4).heap[w.heap.size + 3]? = some o3 ∧ (((((w.alloc o0).alloc o1).alloc o2).alloc o3).alloc o4).heap[w.heap.size + 4]? = some o4 := by
  have s1 : (w.alloc o0).heap.size = w.heap.size + 1 := by simp
  have s2 : ((w.alloc o0).alloc o1).heap.size = w.heap.size + 2 := by simp
  have s3 : (((w.alloc o0).alloc o1).alloc o2).heap.size = w.heap.size + 3 := by simp
  have s4 : ((((w.alloc o0).alloc o1).alloc o2).alloc o3).heap.size = w.heap.size + 4 := by simp
  have n0 := heap_alloc_new w o0
  have n1 := heap_alloc_new (w.alloc o0) o1
  have n2 := heap_alloc_new ((w.alloc o0).alloc o1) o2
  have n3 := heap_alloc_new (((w.alloc o0).alloc o1).alloc o2) o3
  have n4 := heap_alloc_new ((((w.alloc o0).alloc o1).alloc o2).alloc o3) o4
  rw [s1] at n1
  rw [s2] at n2
  rw [s3] at n3
  rw [s4] at n4
  refine ⟨by simp, ?_, ?_, ?_, ?_, n4⟩
  · rw [heap_alloc_old _ _ (by omega), heap_alloc_old _ _ (by omega), heap_alloc_old _ _ (by omega), heap_alloc_old _ _ (by omega)]; exact n0
  · rw [heap_alloc_old _ _ (by omega), heap_alloc_old _ _ (by omega), heap_alloc_old _ _ (by omega)]; exact n1
  · rw [heap_alloc_old _ _ (by omega), heap_alloc_old _ _ (by omega)]; exact n2
  · rw [heap_alloc_old _ _ (by omega)]; exact n3
/-- The rows of the program that is drawn, ahead of its procedures: from block b on. -/
structure Base (W0 w : World) (b c : Nat) (bs : List UInt8) (bv : Value) (s : St) (pv : Value) : Prop where
  at_ : At W0 w c bs bv s
  size : b + 5 ≤ w.heap.size
  b0 : w.heap[b]? = some (.cells #[.slice none 0 0, .slice none 0 0, .slice none 0 0] 27 (0, 0))
  b1 : w.heap[b + 1]? = some (.cells #[.string ⟨#[120]⟩, .string ⟨#[121]⟩, .string ⟨#[122]⟩, .string ⟨#[117]⟩] 9 (0, 0))
  b2 : w.heap[b + 2]? = some (.cells #[.string ⟨#[97]⟩, .string ⟨#[98]⟩, .string ⟨#[109]⟩] 9 (0, 0))
  b3 : w.heap[b + 3]? = some (.cells #[.slice (some ⟨b + 1, 0, none⟩) 4 4, .slice (some ⟨b + 2, 0, none⟩) 3 3, pv] 27 (0, 0))
  b4 : w.heap[b + 4]? = some (.cells #[.string ⟨#[109, 97, 105, 110]⟩, .string ⟨#[112]⟩, .string ⟨#[113]⟩, .string ⟨#[114]⟩] 9 (0, 0))
theorem Base.keep {W0 w w' : World} {b c : Nat} {bs : List UInt8} {bv : Value} {s s' : St} {pv : Value} {P : Nat → Prop} (h : Base W0 w b c bs bv s pv) (hc : Ch P w w') (hp : ∀ k, b ≤ k → k < b + 5 → ¬ P k) (hA : At W0 w' c bs bv s') : Base W0 w' b c bs bv s' pv :=
  ⟨hA, Nat.le_trans h.size hc.size, (hc.block _ (by have := h.size; omega) (hp _ (by omega) (by omega))).trans h.b0, (hc.block _ (by have := h.size; omega) (hp _ (by omega) (by omega))).trans h.b1, (hc.block _ (by have := h.size; omega) (hp _ (by omega) (by omega))).trans h.b2, (hc.block _ (by have := h.size; omega) (hp _ (by omega) (by omega))).trans h.b3, (hc.block _ (by have := h.size; omega) (hp _ (by omega) (by omega))).trans h.b4⟩
theorem Base.next {W0 w w' : World} {b c : Nat} {bs : List UInt8} {bv : Value} {s s' : St} {pv : Value} (h : Base W0 w b c bs bv s pv) (hc : c < b) (hn : Next W0 w c bs bv s' w') : Base W0 w' b c bs bv s' pv :=
  h.keep (Ch.grown hn.2) (fun k h1 _ e => by cases e; omega) hn.1
theorem Base.put {W0 w : World} {b c : Nat} {bs : List UInt8} {bv : Value} {s : St} {pv : Value} (h : Base W0 w b c bs bv s pv) (hc : c < b) (u : Value) : Base W0 (w.setCell ⟨b + 3, 2, none⟩ u) b c bs bv s u :=
  ⟨h.at_.put (by omega) _ _, by simpa using h.size, (heap_setCell_other _ _ _ _ (by simp)).trans h.b0, (heap_setCell_other _ _ _ _ (by simp)).trans h.b1, (heap_setCell_other _ _ _ _ (by simp)).trans h.b2, heap_setCell_same w (b + 3) 2 _ _ _ h.b3, (heap_setCell_other _ _ _ _ (by simp)).trans h.b4⟩
theorem namesF_cell {W0 w : World} {b c : Nat} {bs : List UInt8} {bv : Value} {s : St} {pv : Value} (h : Base W0 w b c bs bv s pv) (s0 : St) (i : Nat) (hi : i < (namesF bs s0).length) : w.cell? ⟨b + 4, i, none⟩ = some (.string (namesF bs s0)[i]) := by
  rw [cell_of_row w (b + 4) i _ _ _ h.b4]
  rcases namesF_is bs s0 with e | e | e
  · simp only [e] at hi ⊢
    match i, hi with
    | 0, _ => rfl
    | 1, _ => rfl
  · simp only [e] at hi ⊢
    match i, hi with
    | 0, _ => rfl
    | 1, _ => rfl
    | 2, _ => rfl
  · simp only [e] at hi ⊢
    match i, hi with
    | 0, _ => rfl
    | 1, _ => rfl
    | 2, _ => rfl
    | 3, _ => rfl
theorem namesF_len (bs : List UInt8) (s : St) : 2 ≤ (namesF bs s).length ∧ (namesF bs s).length ≤ 4 := by
  rcases namesF_is bs s with e | e | e <;> rw [e] <;> simp
theorem namesF_one (bs : List UInt8) (s : St) (h : 1 < (namesF bs s).length) : (namesF bs s)[1] = ⟨#[112]⟩ := by
  rcases namesF_is bs s with e | e | e <;> simp [e]
theorem namesF_size (bs : List UInt8) (s : St) : ∀ n, n ∈ namesF bs s → n.size ≤ 9223372036854775807 := fun n hn => by
  rcases namesF_is bs s with e | e | e <;> rw [e] at hn <;> simp at hn
  · rcases hn with rfl | rfl <;> decide
  · rcases hn with rfl | rfl | rfl <;> decide
  · rcases hn with rfl | rfl | rfl | rfl <;> decide
theorem twoL_len (bs : List UInt8) (s : St) : (twoL bs s).1.length ≤ 6 := by
  have h1 := listF_len (bs := bs) (f := drawS bs 2) 3 0 s
  have h2 := listF_len (bs := bs) (f := drawS bs 1) 3 0 (drawL bs 2 s).2
  show ((drawL bs 2 s).1 ++ (drawL bs 1 (drawL bs 2 s).2).1).length ≤ 6
  rw [List.length_append]
  show (listF bs (drawS bs 2) 3 0 s).1.length + (listF bs (drawS bs 1) 3 0 (drawL bs 2 s).2).1.length ≤ 6
  omega
theorem few_len {xs : List STree} (h : xs.length ≤ 6) : (fewL xs).length ≤ 6 := by
  unfold fewL; split
  · simp
  · exact h
theorem guard_len {xs : List STree} (h : xs.length ≤ 6) (bs : List UInt8) (s : St) : (maybeG bs xs s).1.length ≤ 9 := by
  unfold maybeG guardF
  dsimp only
  repeat' split
  all_goals (simp; omega)
theorem spawn_len {xs : List STree} (h : xs.length ≤ 9) (bs : List UInt8) (i : Nat) (s : St) : (maybeS bs i xs s).1.length ≤ 10 := by
  unfold maybeS
  repeat' split
  all_goals (simp; omega)
theorem cR_many {n : Nat} (h : 50 < n) : cR 50 n < 0 := by unfold cR; split <;> omega
theorem cR_few {n : Nat} (h : ¬ 50 < n) : ¬ cR 50 n < 0 := by unfold cR; split <;> omega
end Go.Proofs.YtkfeiekgdfklmaaGreatDoor.Cur
/- The model's drawn programs, walked. Conditions: the bytes lie in memory that is older than the cursor. -/
namespace Go.Proofs.YtkfeiekgdfklmaaGreatDoor.Cur
open Go.RowKit Own Trm Lexs
theorem infoProcD : (Tryz.prog.info? 31).map (fun i => (i.zero, i.size, i.bytes)) = some (some (.agg #[.string ⟨#[]⟩, .slice none 0 0]), 2, 40) := by kernel_rfl
/-- A program in rows of the call's own, from lo on. -/
def DProg (w : World) (lo : Nat) (x : PTree) (v : Value) : Prop := ∃ (g1 g2 lo2 : Nat) (pv : Value), v = .agg #[.slice (some ⟨g1, 0, none⟩) x.globals.length x.globals.length, .slice (some ⟨g2, 0, none⟩) x.locks.length x.locks.length, pv] ∧ lo ≤ g1 ∧ g1 < g2 ∧ g2 < lo2 ∧
  w.heap[g1]? = some (.cells (strV x.globals).toArray 9 (0, 0)) ∧ w.heap[g2]? = some (.cells (strV x.locks).toArray 9 (0, 0)) ∧ PK w lo2 w.heap.size x.procs pv
set_option maxRecDepth 20000 in
set_option maxHeartbeats 3200000 in
theorem prog_any (bs : List UInt8) (W0 w : World) (c : Nat) (bv : Value) (s : St) (hA : At W0 w c bs bv s) :
    Calls Tryz.prog 32 #[.pointer (some ⟨c, 0, none⟩)] w fun e w' => ∃ v, e = .returned v ∧ DProg w' w.heap.size (progF bs s).1 v ∧ Next W0 w c bs bv (progF bs s).2 w' := by
  have hcw := hA.lt
  have HA := Lib.hid hA
  obtain ⟨i0, hi0, hz0, hz1, hz2⟩ := info_partsD infoStmtD
  have HI := Lib.hid hi0
  have HZ0 := Lib.hid hz0
  have HZ1 := Lib.hid hz1
  have HZ2 := Lib.hid hz2
  obtain ⟨j0, hj0, hy0, hy1, hy2⟩ := info_partsD infoProcD
  have JI := Lib.hid hj0
  have JZ0 := Lib.hid hy0
  have JZ1 := Lib.hid hy1
  have JZ2 := Lib.hid hy2
  clear hA hi0 hz0 hz1 hz2 hj0 hy0 hy1 hy2
  go_enter Tryz.func32, Tryz.ntmps32
  go_upto_region 2 with fail
  go_cut [4] (fun s4 wx => s4 = .slice (some ⟨w.heap.size + 4, 0, none⟩) (namesF bs s).length 4 ∧ Hid (Base W0 wx w.heap.size c bs bv (belowS bs 3 s) (.slice none 0 0)) ∧ Hid (w.grownBy wx (some c)))
  case first =>
    go_wp2_with fail
    refine (below_any W0 _ c bs bv s 3 (((((HA.out.grown (World.grownBy_alloc _ _ _)).grown (World.grownBy_alloc _ _ _)).grown (World.grownBy_alloc _ _ _)).grown (World.grownBy_alloc _ _ _)).grown (World.grownBy_alloc _ _ _)) (by unfold InI; omega)).mono ?_
    rintro e w1 ⟨rfl, hx1⟩
    obtain ⟨z0, z1, z2, z3, z4, z5⟩ := five_blocks w (.cells #[.slice none 0 0, .slice none 0 0, .slice none 0 0] 27) (.cells #[.string ⟨#[120]⟩, .string ⟨#[121]⟩, .string ⟨#[122]⟩, .string ⟨#[117]⟩] 9) (.cells #[.string ⟨#[97]⟩, .string ⟨#[98]⟩, .string ⟨#[109]⟩] 9) (.cells #[.slice (some ⟨w.heap.size + 1, 0, none⟩) 4 4, .slice (some ⟨w.heap.size + 1 + 1, 0, none⟩) 3 3, .slice none 0 0] 27) (.cells #[.string ⟨#[109, 97, 105, 110]⟩, .string ⟨#[112]⟩, .string ⟨#[113]⟩, .string ⟨#[114]⟩] 9)
    have HBase : Hid (Base W0 w1 w.heap.size c bs bv (belowS bs 3 s) (.slice none 0 0)) := by
      refine ⟨hx1.1, by have := hx1.2.size; omega, (hx1.2.block _ (by omega) (by simp; omega)).trans z1, (hx1.2.block _ (by omega) (by simp; omega)).trans z2, (hx1.2.block _ (by omega) (by simp; omega)).trans z3, (hx1.2.block _ (by omega) (by simp; omega)).trans z4, (hx1.2.block _ (by omega) (by simp; omega)).trans z5⟩
    have HGr : Hid (w.grownBy w1 (some c)) := (((((World.grownBy_alloc w _ (some c)).trans (World.grownBy_alloc _ _ _)).trans (World.grownBy_alloc _ _ _)).trans (World.grownBy_alloc _ _ _)).trans (World.grownBy_alloc _ _ _)).trans hx1.2
    clear hx1 z0 z1 z2 z3 z4 z5
    have hp := pickN_eq bs 3 s (by decide)
    have hk3 := pickN_lt bs 3 s (by decide)
    have hnl : Hid ((namesF bs s).length = 2 + pickN bs 3 s) := by show _ = _; unfold namesF allL; rw [List.length_take]; simp; omega
    rw [show ((3 : Nat) : Int) = 3 from rfl] at hp
    rw [hp]
    generalize pickN bs 3 s = k at hk3 hnl
    clear hp
    rcases (by omega : k = 0 ∨ k = 1 ∨ k = 2) with rfl | rfl | rfl
    all_goals
      go_wp2_with fail
      go_meet
      exact ⟨by rw [hnl.out], HBase.out, HGr.out⟩
  case rest =>
    obtain ⟨rfl, HB1, HG1⟩ := hcut
    obtain ⟨W1, hW1⟩ : ∃ w0, w0 = wc := ⟨_, rfl⟩
    subst hW1
    have hns := namesF_len bs s
    have HNC : Hid (∀ (wx : World) (s' : St) (pv : Value), Base W0 wx w.heap.size c bs bv s' pv → ∀ i (h : i < (namesF bs s).length), wx.cell? ⟨w.heap.size + 4, i, none⟩ = some (.string (namesF bs s)[i])) := fun wx s' pv h i hi => namesF_cell h s i hi
    have HN1 : Hid (∀ h : 1 < (namesF bs s).length, (namesF bs s)[1] = ⟨#[112]⟩) := namesF_one bs s
    have HNS := Lib.hid (namesF_size bs s)
    have HPF : Hid (progF bs s = (⟨globL, lockL, (procsF bs (namesF bs s).tail 0 (namesF bs s) (belowS bs 3 s)).1⟩, (procsF bs (namesF bs s).tail 0 (namesF bs s) (belowS bs 3 s)).2)) := rfl
    generalize namesF bs s = ns at hns HNC HN1 HNS HPF ⊢
    have hW1s : w.heap.size + 5 ≤ W1.heap.size := HB1.out.size
    go_wp2
    go_loopw [5] (fun i wr => ∃ (j : Nat) (pr : List PrT) (s2 : St) (pv : Value), j ≤ ns.length ∧ i = .int .i64 j ∧ Hid (pr.length = j) ∧ Hid (procsF bs ns.tail 0 ns (belowS bs 3 s) = (pr ++ (procsF bs ns.tail j (ns.drop j) s2).1, (procsF bs ns.tail j (ns.drop j) s2).2)) ∧ Hid (Base W0 wr w.heap.size c bs bv s2 pv) ∧ Hid (PK wr W1.heap.size wr.heap.size pr pv) ∧ Hid (Ch (fun k => k = c ∨ k = w.heap.size + 3 ∨ W1.heap.size ≤ k) W1 wr))
      (fun i _ => ns.length - (intOf i).toNat)
    case atStart => exact ⟨0, [], belowS bs 3 s, .slice none 0 0, Nat.zero_le _, rfl, rfl, by show _ = _; simp, HB1.out, PK.nil _ (Nat.le_refl _), Ch.refl _ _⟩
    case round =>
      obtain ⟨j, pr, s2, pv, hj, rfl, hpl, hPE, hB, hPK, hCh⟩ := hrel
      by_cases hlt : j < ns.length
      · have hwr : w.heap.size + 5 ≤ wr.heap.size := hB.out.size
        have hcr : c < wr.heap.size := by omega
        have HBF : Hid (bodyF bs ns.tail j s2 = fixXS bs ns.tail (maybeS bs j (maybeG bs (fewL (twoL bs s2).1) (twoL bs s2).2).1 (maybeG bs (fewL (twoL bs s2).1) (twoL bs s2).2).2).1 (maybeS bs j (maybeG bs (fewL (twoL bs s2).1) (twoL bs s2).2).1 (maybeG bs (fewL (twoL bs s2).1) (twoL bs s2).2).2).2) := rfl
        have h6 := twoL_len bs s2
        go_wp2_with fail
        refine (draw_list bs 2 (by decide) W0 wr c bv s2 hB.out.at_).mono ?_
        rintro e w1 ⟨v1, rfl, hk1, ⟨g1, cap1, rfl⟩, hx1⟩
        have HK1 := Lib.hid hk1
        have X1 := Lib.hid hx1
        have hs1 := hx1.2.size
        clear hk1 hx1
        go_wp2_with fail
        refine (draw_list bs 1 (by decide) W0 w1 c bv _ X1.out.1).mono ?_
        rintro e w2 ⟨v2, rfl, hk2, ⟨g2, cap2, rfl⟩, hx2⟩
        have hs2 := hx2.2.size
        have hk1 := HK1.out.same (w' := w2) (fun k h1 h2 => hx2.2.block k h2 (by simp; omega))
        have X2 := Lib.hid (X1.out.trans hx2)
        have HTW : Hid (twoL bs s2 = ((drawL bs 2 s2).1 ++ (drawL bs 1 (drawL bs 2 s2).2).1, (drawL bs 1 (drawL bs 2 s2).2).2)) := rfl
        have hlen6 : (drawL bs 2 s2).1.length + (drawL bs 1 (drawL bs 2 s2).2).1.length ≤ 6 := by rw [HTW.out, List.length_append] at h6; exact h6
        generalize (drawL bs 1 (drawL bs 2 s2).2).2 = sB at X2 HTW
        generalize (drawL bs 1 (drawL bs 2 s2).2).1 = xB at hk2 HTW hlen6 ⊢
        generalize (drawL bs 2 s2).1 = xA at hk1 HTW hlen6 ⊢
        obtain ⟨cA, rA, qA, lA⟩ := hk1
        obtain ⟨cB, rB, qB, lB⟩ := hk2
        have RA := Lib.hid rA
        have LA := Lib.hid lA
        have LB := Lib.hid lB
        have QA := Lib.hid qA
        have HLB := Lib.hid rB.1
        have HCB := Lib.hid (rB.cells (g := g2) rfl)
        have H1B := Lib.hid lB.cells1
        clear rA qA lA rB qB lB hx2 HK1 X1
        go_wp2_with (at_builtin; refine wpList_append_own_at _ rfl (.tmp 22) (.tmp 24) 29 rfl wr.heap.size 36 i0 (.agg #[.int .i64 0, .string ⟨#[]⟩, .int .i64 0, .int .i64 0, .string ⟨#[]⟩, .slice none 0 0, .slice none 0 0, .slice none 0 0]) 8 128 Tryz.underlying29 HI.out HZ0.out HZ1.out HZ2.out rfl (by decide) (.slice (some ⟨g1, 0, none⟩) xA.length cap1) xA.length cA rfl RA.out ⟨g2, 0, none⟩ xB.length cap2 cB rfl HLB.out HCB.out H1B.out (by unfold maxLen; omega) (by omega) (by omega) ?_)
        intro o3 w3 hown hgrow hnil hat
        obtain ⟨g3, cap3, rfl⟩ : ∃ g cap, o3 = .slice (some ⟨g, 0, none⟩) (xA.length + xB.length) cap := by
          rcases hown.2 with ⟨e, _⟩ | ⟨g, cap, _, e, _⟩
          · exact (hnil e).elim
          · exact ⟨g, cap, e⟩
        have S3 : Hid (Stg W0 wr w3 c bs bv (twoL bs s2).1 (twoL bs s2).2 (.slice (some ⟨g3, 0, none⟩) (xA.length + xB.length) cap3)) := by
          show Stg _ _ _ _ _ _ _ _ _
          rw [HTW.out]
          exact ⟨X2.out.row hcr hgrow (fun k e => (RA.out.lt k e).1), dk_append LA.out QA.out LB.out (Nat.le_refl _) (Nat.le_refl _) hown hgrow hat, ⟨g3, cap3, by rw [List.length_append]⟩, by rw [List.length_append]; omega⟩
        have hlen3 : Hid ((twoL bs s2).1.length = xA.length + xB.length) := by show _ = _; rw [HTW.out, List.length_append]
        clear hown hgrow hnil hat RA LA LB QA HLB HCB H1B X2 HTW
        generalize xA.length + xB.length = n3 at S3 hlen3 ⊢
        generalize twoL bs s2 = t at HBF S3 hlen3 h6
        have CN := Lib.hid (specDown_any t.1 (.slice (some ⟨g3, 0, none⟩) n3 cap3) w3 50 (by decide) (by decide) S3.out.list.lies.1)
        have HFW : Hid (fewL t.1 = if 50 < cntXS t.1 then [skipX] else t.1) := rfl
        have hfl := few_len h6
        have hcr1 : 50 < cntXS t.1 → cR 50 (cntXS t.1) < 0 := cR_many
        have hcr2 : ¬ 50 < cntXS t.1 → ¬ cR 50 (cntXS t.1) < 0 := cR_few
        generalize cR 50 (cntXS t.1) = cr at CN hcr1 hcr2
        generalize cntXS t.1 = cn at HFW hcr1 hcr2
        have HCR1 := Lib.hid hcr1
        have HCR2 := Lib.hid hcr2
        clear hcr1 hcr2
        go_wp2_with fail
        refine CN.out.mono ?_
        rintro e w4 ⟨rfl, hb4⟩
        have S4 := Lib.hid (S3.out.step hcr (next_below S3.out.next.1 hb4))
        clear hb4 S3 CN
        go_upto_if 28 with fail
        go_cut [6] (fun s6 wx => Hid (Stg W0 wr wx c bs bv (fewL t.1) t.2 s6))
        case first =>
          by_cases h50 : 50 < cn
          · have hneg := HCR1.out h50
            have HF2 := HFW.out
            rw [if_pos h50] at HF2
            have HF3 := Lib.hid HF2
            clear HF2 h50 HFW
            go_wp2_with fail
            go_meet
            show Stg _ _ _ _ _ _ _ _ _
            rw [HF3.out]
            refine ⟨S4.out.next.row hcr (World.grownBy_alloc w4 _ none) (fun k e => by cases e), ?_, ⟨_, _, rfl⟩, by simp⟩
            exact dk_of (base := w4.heap.size) (hi := wr.heap.size) (cs := cellsW 8 ⟨#[]⟩) ⟨rfl, .inr ⟨w4.heap.size, 1, _, rfl, Nat.le_refl _, heap_alloc_new _ _, Nat.le_refl _, by decide, rfl, rfl⟩⟩ rfl S4.out.next.2.size (dl_word _ none _ 8 (by unfold InI; omega) ⟨#[]⟩ (by decide)) (by have := S4.out.next.2.size; simp; omega)
          · have hneg := HCR2.out h50
            have HF2 := HFW.out
            rw [if_neg h50] at HF2
            have HF3 := Lib.hid HF2
            clear HF2 h50 HFW
            go_wp2_with fail
            go_meet
            show Stg _ _ _ _ _ _ _ _ _
            rw [HF3.out]
            exact S4.out
        case rest =>
          have S5 := Lib.hid hcut.out
          clear hcut S4 HFW hlen3
          obtain ⟨w5, hw5⟩ : ∃ w0, w0 = wc := ⟨_, rfl⟩
          subst hw5
          obtain ⟨g5, cap5, rfl⟩ := S5.out.some
          have hx5 := Lib.hid S5.out.few
          have HMG : Hid (maybeG bs (fewL t.1) t.2 = (if decide (belowF bs 2 t.2 = 0) = true then guardF bs (fewL t.1) (belowS bs 2 t.2) else (fewL t.1, belowS bs 2 t.2))) := by
            show _ = _
            unfold maybeG
            by_cases h : belowF bs 2 t.2 = 0 <;> simp [h]
          have hgl := guard_len hfl bs t.2
          go_wp2_with fail
          refine (once_any W0 w5 c bs bv _ S5.out.next.1).mono ?_
          rintro e w6 ⟨rfl, hx6⟩
          have S6 := Lib.hid (S5.out.step hcr hx6)
          clear hx6 S5
          generalize decide (belowF bs 2 t.2 = 0) = B at HMG ⊢
          generalize fewL t.1 = xs5 at HBF S6 HMG hgl hx5 hfl ⊢
          generalize belowS bs 2 t.2 = s5 at HMG S6
          go_upto_if 32 with fail
          go_cut [6] (fun s6 wx => Hid (Stg W0 wr wx c bs bv (maybeG bs xs5 t.2).1 (maybeG bs xs5 t.2).2 s6))
          case first =>
            cases B with
            | true =>
              have HM2 : Hid (maybeG bs xs5 t.2 = guardF bs xs5 s5) := by show _ = _; rw [HMG.out]; simp
              clear HMG
              go_wp2_with fail
              refine (guard_any bs xs5 hx5.out W0 w6 c bv s5 wr.heap.size w6.heap.size _ S6.out.next.1 hcr (Nat.le_refl _) S6.out.list ⟨_, _, rfl⟩).mono ?_
              rintro e w7 ⟨v7, rfl, hk7, hs7, hx7⟩
              have HK7 := Lib.hid hk7
              have HS7 := Lib.hid hs7
              have HX7 := Lib.hid hx7
              clear hk7 hs7 hx7
              go_wp2_with fail
              go_meet
              show Stg _ _ _ _ _ _ _ _ _
              rw [HM2.out] at hgl ⊢
              exact ⟨S6.out.next.trans HX7.out, HK7.out, HS7.out, by omega⟩
            | false =>
              have HM2 : Hid (maybeG bs xs5 t.2 = (xs5, s5)) := by show _ = _; rw [HMG.out]; simp
              clear HMG
              go_wp2_with fail
              go_meet
              show Stg _ _ _ _ _ _ _ _ _
              rw [HM2.out]
              exact S6.out
          case rest =>
            have S7 := Lib.hid hcut.out
            clear hcut S6 HMG
            obtain ⟨w7, hw7⟩ : ∃ w0, w0 = wc := ⟨_, rfl⟩
            subst hw7
            obtain ⟨gm, capm, rfl⟩ := S7.out.some
            generalize maybeG bs xs5 t.2 = gt at HBF S7 hgl ⊢
            have hsl := spawn_len hgl bs j gt.2
            go_upto_region 11 with fail
            go_cut [41] (fun s41 wx => ∃ (B : Bool) (s' : St), s41 = .bool B ∧ Hid (maybeS bs j gt.1 gt.2 = (if B = true then (spawnX ⟨#[112]⟩ :: gt.1, s') else (gt.1, s'))) ∧ Hid (Stg W0 wr wx c bs bv gt.1 s' (.slice (some ⟨gm, 0, none⟩) gt.1.length capm)))
            case first =>
              by_cases h0 : j = 0
              · have hj0 : ((j : Int) == 0) = true := by simp [h0]
                have HMS : Hid (maybeS bs j gt.1 gt.2 = (if decide (belowF bs 2 gt.2 = 0) = true then (spawnX ⟨#[112]⟩ :: gt.1, belowS bs 2 gt.2) else (gt.1, belowS bs 2 gt.2))) := by
                  show _ = _
                  unfold maybeS
                  rw [if_pos h0]
                  by_cases h : belowF bs 2 gt.2 = 0 <;> simp [h]
                clear h0
                go_wp2_with fail
                refine (once_any W0 w7 c bs bv _ S7.out.next.1).mono ?_
                rintro e w8 ⟨rfl, hx8⟩
                have S8 := Lib.hid (S7.out.step hcr hx8)
                clear hx8 S7
                generalize decide (belowF bs 2 gt.2 = 0) = B at HMS ⊢
                go_wp2_with fail
                go_meet
                exact ⟨B, _, rfl, HMS.out, S8.out⟩
              · have hj0 : ((j : Int) == 0) = false := by rw [beq_eq_false_iff_ne]; omega
                have HMS : Hid (maybeS bs j gt.1 gt.2 = (gt.1, gt.2)) := by
                  show _ = _
                  unfold maybeS
                  rw [if_neg h0]
                clear h0
                go_wp2_with fail
                go_meet
                exact ⟨false, gt.2, rfl, by show _ = _; rw [HMS.out]; simp, S7.out⟩
            case rest =>
              obtain ⟨B, s8, rfl, HMS, S8⟩ := hcut
              clear S7
              obtain ⟨w8, hw8⟩ : ∃ w0, w0 = wc := ⟨_, rfl⟩
              subst hw8
              go_upto_if 41 with fail
              go_cut [6] (fun s6 wx => Hid (Stg W0 wr wx c bs bv (maybeS bs j gt.1 gt.2).1 (maybeS bs j gt.1 gt.2).2 s6))
              case first =>
                cases B with
                | false =>
                  have HM2 : Hid (maybeS bs j gt.1 gt.2 = (gt.1, s8)) := by show _ = _; rw [HMS.out]; simp
                  clear HMS
                  go_wp2_with fail
                  go_meet
                  show Stg _ _ _ _ _ _ _ _ _
                  rw [HM2.out]
                  exact S8.out
                | true =>
                  have HM2 : Hid (maybeS bs j gt.1 gt.2 = (spawnX ⟨#[112]⟩ :: gt.1, s8)) := by show _ = _; rw [HMS.out]; simp
                  clear HMS
                  have hn1 : 1 < ns.length := by omega
                  have c1 : w8.cell? ⟨w.heap.size + 4, 1, none⟩ = some (.string ⟨#[112]⟩) := by
                    have := HNC.out w8 _ _ (hB.out.next (by omega) S8.out.next) 1 hn1
                    rw [HN1.out hn1] at this
                    exact this
                  obtain ⟨cM, rM, qM, lM⟩ := S8.out.list
                  have LM := Lib.hid lM
                  have HLM := Lib.hid rM.1
                  have HCM : Hid (∀ k u, cM[k]? = some u → (w8.alloc (.cells #[.int .i64 5, .string ⟨#[112]⟩, .int .i64 0, .int .i64 0, .string ⟨#[]⟩, .slice none 0 0, .slice none 0 0, .slice none 0 0] 36)).cell? ((⟨gm, 0, none⟩ : Addr).add k) = some u) := fun k u h => keeps_alloc _ _ _ _ (rM.cells (g := gm) rfl k u h)
                  have H1M := Lib.hid lM.cells1
                  have hs8 := S8.out.next.2.size
                  have RN : Hid ((w8.alloc (.cells #[.int .i64 5, .string ⟨#[112]⟩, .int .i64 0, .int .i64 0, .string ⟨#[]⟩, .slice none 0 0, .slice none 0 0, .slice none 0 0] 36)).ownsRow w8.heap.size 36 8 (.slice (some ⟨w8.heap.size, 0, none⟩) 1 1) 1 (cellsW 5 ⟨#[112]⟩)) := ⟨rfl, .inr ⟨w8.heap.size, 1, _, rfl, Nat.le_refl _, heap_alloc_new _ _, Nat.le_refl _, by decide, rfl, rfl⟩⟩
                  clear rM qM lM
                  go_wp2_with (at_builtin; refine wpList_append_own_at _ rfl (.tmp 46) (.tmp 47) 29 rfl w8.heap.size 36 i0 (.agg #[.int .i64 0, .string ⟨#[]⟩, .int .i64 0, .int .i64 0, .string ⟨#[]⟩, .slice none 0 0, .slice none 0 0, .slice none 0 0]) 8 128 Tryz.underlying29 HI.out HZ0.out HZ1.out HZ2.out rfl (by decide) (.slice (some ⟨w8.heap.size, 0, none⟩) 1 1) 1 (cellsW 5 ⟨#[112]⟩) rfl RN.out ⟨gm, 0, none⟩ gt.1.length capm cM rfl HLM.out HCM.out H1M.out (by unfold maxLen; omega) (by omega) (by simp) ?_)
                  intro o9 w9 hown hgrow _ hat
                  obtain ⟨g9, cap9, rfl, hg9, _⟩ := hown.form (by omega)
                  have X9 := Lib.hid ((S8.out.next.row hcr (World.grownBy_alloc w8 _ none) (fun k e => by cases e)).row hcr hgrow (fun k e => by cases e; exact hs8))
                  have HDL : Hid (DL w9 none wr.heap.size w8.heap.size (spawnX ⟨#[112]⟩ :: gt.1) (cellsW 5 ⟨#[112]⟩ ++ cM)) :=
                    (dl_word w9 none wr.heap.size 5 (by unfold InI; omega) ⟨#[112]⟩ (by decide)).append ((LM.out.none).same (fun k h1 h2 _ => (hgrow.block k (by simp; omega) (by simp [Value.ownBlock]; omega)).trans (heap_alloc_old _ _ h2)))
                  have R9 := Lib.hid hown
                  have hs9 : w8.heap.size ≤ w9.heap.size := by have := hgrow.size; simp at this; omega
                  clear hown hgrow hat
                  go_wp2_with fail
                  go_meet
                  show Stg _ _ _ _ _ _ _ _ _
                  rw [HM2.out] at hsl ⊢
                  exact ⟨X9.out, dk_of R9.out (by simp; omega) (Nat.le_refl _) HDL.out hs9, ⟨g9, cap9, by simp; omega⟩, by omega⟩
              case rest =>
                have S9 := Lib.hid hcut.out
                clear hcut S8 HMS
                obtain ⟨w9, hw9⟩ : ∃ w0, w0 = wc := ⟨_, rfl⟩
                subst hw9
                obtain ⟨gq, capq, rfl⟩ := S9.out.some
                generalize maybeS bs j gt.1 gt.2 = mt at HBF S9 hsl ⊢
                have hBw := hB.out.next (by omega) S9.out.next
                have hs9 := S9.out.next.2.size
                have x2 : w9.cell? ⟨w.heap.size + 3, 2, none⟩ = some pv := by rw [cell_of_row w9 _ 2 _ _ _ hBw.b3]; rfl
                have f2 : w9.frozen? ⟨w.heap.size + 3, 2, none⟩ = false := frozen_of_row w9 _ 2 _ _ hBw.b3
                have xn : w9.cell? ⟨w.heap.size + 4, j, none⟩ = some (.string ns[j]) := HNC.out w9 _ _ hBw j hlt
                have hb0 : Below w9.heap.size w9 w9.drew := (Below.refl _ _).drew
                have hps : PsAt w9 (w.heap.size + 4) 1 ns.tail := fun i hi => by
                  rw [List.length_tail] at hi
                  have := HNC.out w9 _ _ hBw (i + 1) (by omega)
                  rw [Nat.add_comm 1 i, this, List.getElem_tail]
                have htl : ns.tail.length = ns.length - 1 := List.length_tail
                have HBW := Lib.hid hBw
                have CF : Hid (∀ wx, Below w9.heap.size w9 wx → Calls Tryz.prog 88 #[.pointer (some ⟨c, 0, none⟩), .slice (some ⟨gq, 0, none⟩) mt.1.length capq, .slice (some ⟨w.heap.size + 4, 1, none⟩) (ns.length - 1) 3] wx fun e w' => e = .returned (.slice (some ⟨gq, 0, none⟩) mt.1.length capq) ∧ DK w' wr.heap.size w9.heap.size (fixXS bs ns.tail mt.1 mt.2).1 (.slice (some ⟨gq, 0, none⟩) mt.1.length capq) ∧ At W0 w' c bs bv (fixXS bs ns.tail mt.1 mt.2).2 ∧ Ch (fun k => k = c ∨ (wr.heap.size ≤ k ∧ k < w9.heap.size)) w9 w' ∧ (w'.cell? ⟨w.heap.size + 3, 2, none⟩ = some pv ∧ w'.cell? ⟨w.heap.size + 4, j, none⟩ = some (.string ns[j]) ∧ w'.frozen? ⟨w.heap.size + 3, 2, none⟩ = false)) := fun wx hb => by
                  have hch : Ch (fun _ => False) w9 wx := ⟨hb.os, hb.tape, hb.output, hb.size, fun k hk _ => hb.block k hk⟩
                  have hsz := hb.size
                  have F := fix_any bs ns.tail (by omega) (by omega) (fun n hn => HNS.out n (List.mem_of_mem_tail hn)) mt.1 W0 wx c bv mt.2 wr.heap.size w9.heap.size (w.heap.size + 4) 1 3 (.slice (some ⟨gq, 0, none⟩) mt.1.length capq) (next_below S9.out.next.1 hb).1 hcr (by omega) (by omega) hsz (hps.keep hch (fun h => h)) (S9.out.list.same (fun k h1 h2 => hb.block k h2))
                  rw [htl] at F
                  refine F.mono ?_
                  rintro e w' ⟨rfl, h1, h2, h3⟩
                  have h4 : Ch (fun k => k = c ∨ (wr.heap.size ≤ k ∧ k < w9.heap.size)) w9 w' := (hch.mono (fun _ h => h.elim)).trans h3
                  exact ⟨rfl, h1, h2, h4, (World.cell?_of_block (h4.block (w.heap.size + 3) (by omega) (by omega))).trans x2, (World.cell?_of_block (h4.block (w.heap.size + 4) (by omega) (by omega))).trans xn, (World.frozen?_of_block (h4.block (w.heap.size + 3) (by omega) (by omega))).trans f2⟩
                have KS : Hid (∀ wx, Below w9.heap.size w9 wx → wx.cell? ⟨w.heap.size + 3, 2, none⟩ = some pv ∧ wx.cell? ⟨w.heap.size + 4, j, none⟩ = some (.string ns[j]) ∧ wx.frozen? ⟨w.heap.size + 3, 2, none⟩ = false) := fun wx hb => ⟨keeps_below hb _ _ x2, keeps_below hb _ _ xn, (World.frozen?_of_block (hb.block _ (cell_lt x2))).trans f2⟩
                clear hBw hps
                obtain ⟨csP, rP, qP, lP⟩ := hPK.out
                have RP : Hid (∀ w', Ch (fun k => k = c ∨ (wr.heap.size ≤ k ∧ k < w9.heap.size)) w9 w' → w'.ownsRow W1.heap.size 31 2 pv pr.length csP) := fun w' h => row_same rP (fun k e => (h.block k (by have := (rP.lt k e).2; omega) (by have := rP.lt k e; omega)).trans (S9.out.next.2.block k (rP.lt k e).2 (by have := rP.lt k e; simp; omega)))
                have QP : Hid (∀ k, pv.ownBlock = some k → W1.heap.size ≤ k ∧ k < wr.heap.size) := fun k e => rP.lt k e
                have LP : Hid (∀ w', Ch (fun k => k = c ∨ (wr.heap.size ≤ k ∧ k < w9.heap.size)) w9 w' → DPs w' pv.ownBlock W1.heap.size wr.heap.size pr csP) := fun w' h => lP.same (fun k h1 h2 _ => (h.block k (by omega) (by omega)).trans (S9.out.next.2.block k h2 (by simp; omega)))
                have hW1r : W1.heap.size ≤ wr.heap.size := hCh.out.size
                have hI1 : (1 : Int) ≤ (ns.length : Int) := by omega
                have hI2 : (ns.length : Int) ≤ 4 := by omega
                have hI3 : (ns.length : Int) - 1 = ((ns.length - 1 : Nat) : Int) := by omega
                have hprl : pr.length = j := hpl.out
                have hpr4 : pr.length ≤ 4 := by omega
                have HPRL := Lib.hid hprl
                have x2d : w9.drew.cell? ⟨w.heap.size + 3, 2, none⟩ = some pv := x2
                have xnd : w9.drew.cell? ⟨w.heap.size + 4, j, none⟩ = some (.string ns[j]) := xn
                clear hprl rP qP lP
                go_wp2_with fail
                go_region_law
                  (first
                  | (go_simp; go_at_call 88; refine (CF.out _ (by assumption)).mono ?_; rintro e w10 ⟨rfl, hk10, ha10, hc10, hx10⟩; have y0 := hx10.1; have y1 := hx10.2.1; have y2 := hx10.2.2; have hx10b := And.intro (keeps_alloc w10 (.cells #[.string ns[j], .slice (some ⟨gq, 0, none⟩) mt.1.length capq] 31) _ _ hx10.1) (And.intro (keeps_alloc w10 (.cells #[.string ns[j], .slice (some ⟨gq, 0, none⟩) mt.1.length capq] 31) _ _ hx10.2.1) ((World.frozen?_of_block (heap_alloc_old w10 (.cells #[.string ns[j], .slice (some ⟨gq, 0, none⟩) mt.1.length capq] 31) (cell_lt hx10.1))).trans hx10.2.2)); have yb0 := hx10b.1)
                  | (refine step_append_lies _ rfl (.tmp 50) (.tmp 61) 25 rfl W1.heap.size 31 j0 (.agg #[.string ⟨#[]⟩, .slice none 0 0]) 2 40 Tryz.underlying25 JI.out JZ0.out JZ1.out JZ2.out rfl (by decide) pv pr.length csP rfl ((RP.out w10 hc10).alloc _) ⟨w10.heap.size, 0, none⟩ 1 1 [.string ns[j], .slice (some ⟨gq, 0, none⟩) mt.1.length capq] rfl rfl (World.news_of_block (heap_alloc_new _ _)) (by intro u hu; simp at hu; rcases hu with rfl | rfl <;> rfl) (by decide) (by unfold maxLen; omega) (by omega) (by have := hc10.size; simp; omega) _ rfl ?_; intro g11 cap11 w11 hown hgrow hat hlt11; have hne : pv.ownBlock ≠ some (w.heap.size + 3) := (fun e => by have := QP.out _ e; omega); have hne4 : pv.ownBlock ≠ some (w.heap.size + 4) := (fun e => by have := QP.out _ e; omega); have hx11 := And.intro ((World.cell?_of_block (hgrow.block (w.heap.size + 3) (cell_lt hx10b.1) (fun e => hne e.symm))).trans hx10b.1) (And.intro ((World.cell?_of_block (hgrow.block (w.heap.size + 4) (cell_lt hx10b.2.1) (fun e => hne4 e.symm))).trans hx10b.2.1) ((World.frozen?_of_block (hgrow.block (w.heap.size + 3) (cell_lt hx10b.1) (fun e => hne e.symm))).trans hx10b.2.2)); have z0 := hx11.1; have z2 := hx11.2.2))
                all_goals
                  have hfxl : (fixXS bs ns.tail mt.1 mt.2).1.length = mt.1.length := fixXS_len _ _ _ _
                  have hs10 := hc10.size
                  have hs11 : w10.heap.size + 1 ≤ w11.heap.size := by have := hgrow.size; simp at this; omega
                  have P11 : Hid (PK w11 W1.heap.size w11.heap.size (pr ++ [⟨ns[j], (fixXS bs ns.tail mt.1 mt.2).1⟩]) (.slice (some ⟨g11, 0, none⟩) (pr.length + 1) cap11)) := by
                    refine pk_append (p := ⟨ns[j], (fixXS bs ns.tail mt.1 mt.2).1⟩) (w3 := w10.alloc (.cells #[.string ns[j], .slice (some ⟨gq, 0, none⟩) mt.1.length capq] 31)) (hi := wr.heap.size) (a := wr.heap.size) (b := w9.heap.size) (ba := some ⟨gq, 0, none⟩) (bc := capq) (cs := csP) (v := pv) ((LP.out w10 hc10).same (fun k h1 h2 _ => heap_alloc_old _ _ (by omega))) (fun q e => (QP.out q e).2) (HNS.out _ (List.getElem_mem hlt)) ?_ (Nat.le_refl _) (by simp; omega) ?_ hgrow ?_
                    · show DK _ _ _ _ (.slice _ (fixXS bs ns.tail mt.1 mt.2).1.length _)
                      rw [hfxl]
                      exact hk10.same (fun k h1 h2 => heap_alloc_old _ _ (by omega))
                    · show World.ownsRow _ _ _ _ _ _ (csP ++ [.string ns[j], .slice _ (fixXS bs ns.tail mt.1 mt.2).1.length _])
                      rw [hfxl]
                      exact hown
                    · rcases hat with e | e
                      · exact .inl e.symm
                      · exact .inr (by rw [e]; rfl)
                  have hqc : pv.ownBlock ≠ some c := fun e => by have := QP.out _ e; omega
                  have A11 : Hid (At W0 w11 c bs bv (fixXS bs ns.tail mt.1 mt.2).2) := (ha10.grown (World.grownBy_alloc w10 (.cells #[.string ns[j], .slice (some ⟨gq, 0, none⟩) mt.1.length capq] 31) none)).row hgrow (fun k e => by have := QP.out _ e; have := ha10.new; omega) hqc
                  have C11 : Hid (Ch (fun k => k = c ∨ W1.heap.size ≤ k) w9 w11) := ((hc10.mono (fun k h => by omega)).trans ((Ch.grown (World.grownBy_alloc w10 (.cells #[.string ns[j], .slice (some ⟨gq, 0, none⟩) mt.1.length capq] 31) none)).mono (fun k h => by cases h))).trans ((Ch.grown hgrow).mono (fun k h => .inr (QP.out k h).1))
                  have B11 := Lib.hid (HBW.out.keep C11.out (fun k h1 h2 h3 => by omega) A11.out)
                  have B12 : Hid (Base W0 (w11.setCell ⟨w.heap.size + 1 + 1 + 1, 2, none⟩ (.slice (some ⟨g11, 0, none⟩) (pr.length + 1) cap11)) w.heap.size c bs bv (fixXS bs ns.tail mt.1 mt.2).2 (.slice (some ⟨g11, 0, none⟩) (pr.length + 1) cap11)) := B11.out.put (by omega) _
                  have P12 : Hid (PK (w11.setCell ⟨w.heap.size + 1 + 1 + 1, 2, none⟩ (.slice (some ⟨g11, 0, none⟩) (pr.length + 1) cap11)) W1.heap.size (w11.setCell ⟨w.heap.size + 1 + 1 + 1, 2, none⟩ (.slice (some ⟨g11, 0, none⟩) (pr.length + 1) cap11)).heap.size (pr ++ [⟨ns[j], (fixXS bs ns.tail mt.1 mt.2).1⟩]) (.slice (some ⟨g11, 0, none⟩) (pr.length + 1) cap11)) := by
                    refine PK.wideR (hi := w11.heap.size) (by simp) (P11.out.same (fun k h1 h2 => heap_setCell_other _ _ _ _ (by simp; omega)))
                  have C12 : Hid (Ch (fun k => k = c ∨ k = w.heap.size + 3 ∨ W1.heap.size ≤ k) W1 (w11.setCell ⟨w.heap.size + 1 + 1 + 1, 2, none⟩ (.slice (some ⟨g11, 0, none⟩) (pr.length + 1) cap11))) :=
                    ((hCh.out.trans ((Ch.grown S9.out.next.2).mono (fun k h => by cases h; exact .inl rfl))).trans (C11.out.mono (fun k h => by omega))).trans ((Ch.set _ _ _ _).mono (fun k h => .inr (.inl h)))
                  have HPE2 : Hid (procsF bs ns.tail 0 ns (belowS bs 3 s) = ((pr ++ [⟨ns[j], (fixXS bs ns.tail mt.1 mt.2).1⟩]) ++ (procsF bs ns.tail (j + 1) (ns.drop (j + 1)) (fixXS bs ns.tail mt.1 mt.2).2).1, (procsF bs ns.tail (j + 1) (ns.drop (j + 1)) (fixXS bs ns.tail mt.1 mt.2).2).2)) := by
                    show _ = _
                    rw [hPE.out, List.drop_eq_getElem_cons hlt, procsF, HBF.out]; simp
                  have HL2 : Hid ((pr ++ [(⟨ns[j], (fixXS bs ns.tail mt.1 mt.2).1⟩ : PrT)]).length = j + 1) := by show _ = _; rw [List.length_append, HPRL.out]; rfl
                  clear hown hgrow hat hlt11 hk10 ha10 hc10 hx10 hx10b hx11 hfxl P11 A11 C11 B11 y0 y1 y2 z0 z2 yb0 x2 xn x2d xnd f2 CF KS RP LP S9
                  go_wp2
                  go_roundw
                  case rel => exact ⟨j + 1, _, _, _, by omega, by go_num, HL2.out, HPE2.out, B12.out, P12.out, C12.out⟩
                  case measure => simp [intOf]; omega
      · have hPE2 := hPE.out
        rw [List.drop_of_length_le (by omega), procsF] at hPE2
        have hPF := HPF.out
        rw [hPE2] at hPF
        simp only [List.append_nil] at hPF
        have HF9 := Lib.hid hPF
        obtain ⟨csP, rP, qP, lP⟩ := hPK.out
        obtain ⟨pa, pc, rfl, _⟩ := row_shape rP
        have hBB := hB.out
        have x0 : wr.cell? ⟨w.heap.size + 1 + 1 + 1, 0, none⟩ = some (.slice (some ⟨w.heap.size + 1, 0, none⟩) 4 4) := by rw [cell_of_row wr _ 0 _ _ _ hBB.b3]; rfl
        have x1 : wr.cell? ⟨w.heap.size + 1 + 1 + 1, 1, none⟩ = some (.slice (some ⟨w.heap.size + 2, 0, none⟩) 3 3) := by rw [cell_of_row wr _ 1 _ _ _ hBB.b3]; rfl
        have x2 : wr.cell? ⟨w.heap.size + 1 + 1 + 1, 2, none⟩ = some (.slice pa pr.length pc) := by rw [cell_of_row wr _ 2 _ _ _ hBB.b3]; rfl
        have r0 : wr.cell? ⟨w.heap.size, 0, none⟩ = some (.slice none 0 0) := by rw [cell_of_row wr _ 0 _ _ _ hBB.b0]; rfl
        have r1 : wr.cell? ⟨w.heap.size, 1, none⟩ = some (.slice none 0 0) := by rw [cell_of_row wr _ 1 _ _ _ hBB.b0]; rfl
        have r2 : wr.cell? ⟨w.heap.size, 2, none⟩ = some (.slice none 0 0) := by rw [cell_of_row wr _ 2 _ _ _ hBB.b0]; rfl
        have f0 : wr.frozen? ⟨w.heap.size, 0, none⟩ = false := frozen_of_row wr _ 0 _ _ hBB.b0
        have f1 : wr.frozen? ⟨w.heap.size, 1, none⟩ = false := frozen_of_row wr _ 1 _ _ hBB.b0
        have f2 : wr.frozen? ⟨w.heap.size, 2, none⟩ = false := frozen_of_row wr _ 2 _ _ hBB.b0
        have HBB := Lib.hid hBB
        have hW1r : W1.heap.size ≤ wr.heap.size := hCh.out.size
        clear hPE hPE2 hPF HPF rP qP lP hBB hB
        go_wp2
        refine bodyPost_ret (v := .agg #[.slice (some ⟨w.heap.size + 1, 0, none⟩) 4 4, .slice (some ⟨w.heap.size + 2, 0, none⟩) 3 3, .slice pa pr.length pc]) (by simp [results, Tryz.results32, go_sem, r0, r1, r2]) rfl ⟨_, rfl, ?_, ?_⟩
        · rw [HF9.out]
          refine ⟨w.heap.size + 1, w.heap.size + 2, W1.heap.size, .slice pa pr.length pc, rfl, by omega, by omega, by omega, ?_, ?_, ?_⟩
          · rw [heap_setCell_other _ _ _ _ (by simp), heap_setCell_other _ _ _ _ (by simp), heap_setCell_other _ _ _ _ (by simp)]
            exact HBB.out.b1
          · rw [heap_setCell_other _ _ _ _ (by simp), heap_setCell_other _ _ _ _ (by simp), heap_setCell_other _ _ _ _ (by simp)]
            exact HBB.out.b2
          · refine PK.wideR (hi := wr.heap.size) (by simp) (hPK.out.same (fun k h1 h2 => ?_))
            rw [heap_setCell_other _ _ _ _ (by simp; omega), heap_setCell_other _ _ _ _ (by simp; omega), heap_setCell_other _ _ _ _ (by simp; omega)]
        · rw [HF9.out]
          have hN : Next W0 w c bs bv s2 wr := ⟨HBB.out.at_, ⟨hCh.out.1.trans HG1.out.os, hCh.out.2.1.trans HG1.out.tape, hCh.out.2.2.1.trans HG1.out.output, Nat.le_trans HG1.out.size hCh.out.size, fun k h1 h2 => (hCh.out.block k (by omega) (by simp at h2; omega)).trans (HG1.out.block k h1 h2)⟩⟩
          exact ((hN.put (Nat.le_refl _) hcw 0 _).put (Nat.le_refl _) hcw 1 _).put (Nat.le_refl _) hcw 2 _
end Go.Proofs.YtkfeiekgdfklmaaGreatDoor.Cur
/- The model's DrawProg, walked. Conditions: the code lies in memory; it has at most 2 to the 20 bytes. -/
namespace Go.Proofs.YtkfeiekgdfklmaaGreatDoor.Cur
open Go.RowKit Own Trm Lexs
theorem DProg.keep {w w' : World} {lo : Nat} {x : PTree} {v : Value} (h : DProg w lo x v) (hs : Same lo w.heap.size w w') (hh : w.heap.size ≤ w'.heap.size) : DProg w' lo x v := by
  obtain ⟨g1, g2, lo2, pv, rfl, h1, h2, h3, h4, h5, h6⟩ := h
  have l1 := heap_lt h4
  have l2 := heap_lt h5
  exact ⟨g1, g2, lo2, pv, rfl, h1, h2, h3, (hs g1 h1 l1).trans h4, (hs g2 (by omega) l2).trans h5, (h6.same (fun k a b => hs k (by omega) b)).wideR hh⟩
theorem DProg.shape {w : World} {lo : Nat} {x : PTree} {v : Value} (h : DProg w lo x v) : ∃ (g1 g2 : Nat) (pa : Option Addr) (pc : Nat), v = .agg #[.slice (some ⟨g1, 0, none⟩) x.globals.length x.globals.length, .slice (some ⟨g2, 0, none⟩) x.locks.length x.locks.length, .slice pa x.procs.length pc] := by
  obtain ⟨g1, g2, lo2, pv, rfl, _, _, _, _, _, ⟨cs, hr, _, _⟩⟩ := h
  obtain ⟨pa, pc, rfl, _⟩ := row_shape hr
  exact ⟨g1, g2, pa, pc, rfl⟩
theorem DProg.wide {w : World} {lo lo' : Nat} {x : PTree} {v : Value} (h : DProg w lo x v) (hl : lo' ≤ lo) : DProg w lo' x v := by
  obtain ⟨g1, g2, lo2, pv, e, h1, h2⟩ := h
  exact ⟨g1, g2, lo2, pv, e, by omega, h2⟩
set_option maxHeartbeats 800000 in
theorem drawProg_core (bs : List UInt8) (bv : Value) (w : World) (hb : BytesAt w bs bv) (T : PTree) (s1 s2 : St)
    (cn : ∀ w, BytesAt w bs bv → Calls Tryz.prog 33 #[bv] w fun e w' => e = .returned (.pointer (some ⟨w.heap.size, 0, none⟩)) ∧ At w w' w.heap.size bs bv s1 ∧ w.grownBy w' none)
    (cd : ∀ W0 w c, At W0 w c bs bv s1 → Calls Tryz.prog 32 #[.pointer (some ⟨c, 0, none⟩)] w fun e w' => ∃ v, e = .returned v ∧ DProg w' w.heap.size T v ∧ Next W0 w c bs bv s2 w') :
    Calls Tryz.prog 8 #[bv] w fun e w' => ∃ v, e = .returned v ∧ DProg w' w.heap.size T v ∧ Below w.heap.size w w' := by
  obtain ⟨ba, bc, rfl, hbl, _⟩ := id hb
  have R0 : Hid ((w.alloc (.cells #[.slice none 0 0, .slice none 0 0, .slice none 0 0] 27)).heap[w.heap.size]? = some (.cells #[.slice none 0 0, .slice none 0 0, .slice none 0 0] 27 (0, 0))) := heap_alloc_new _ _
  have C := Lib.hid (cn (w.alloc (.cells #[.slice none 0 0, .slice none 0 0, .slice none 0 0] 27)) (by
    obtain ⟨a, cap, e, h1, h2⟩ := hb
    refine ⟨a, cap, e, h1, fun hp => ?_⟩
    obtain ⟨g, o, e2, h3⟩ := h2 hp
    exact ⟨g, o, e2, fun i hi => keeps_alloc _ _ _ _ (h3 i hi)⟩))
  have hs0 : (w.alloc (.cells #[.slice none 0 0, .slice none 0 0, .slice none 0 0] 27)).heap.size = w.heap.size + 1 := by simp
  rw [hs0] at C
  have D := Lib.hid cd
  clear hs0
  clear hb cn cd
  go_enter Tryz.func8, Tryz.ntmps8
  go_wp2_with fail
  refine C.out.mono ?_
  rintro e w1 ⟨rfl, hat, hg⟩
  have HA := Lib.hid hat
  have HG := Lib.hid hg
  have hw1 : w.heap.size + 1 ≤ w1.heap.size := by have := hg.size; simpa using this
  have R1 : Hid (w1.heap[w.heap.size]? = some (.cells #[.slice none 0 0, .slice none 0 0, .slice none 0 0] 27 (0, 0))) := (hg.block _ (by simp) (by simp)).trans R0.out
  clear hat hg
  go_wp2_with fail
  refine (D.out _ w1 _ HA.out).mono ?_
  rintro e w2 ⟨v2, rfl, hp2, hx⟩
  obtain ⟨g1, g2, pa, pc, rfl⟩ := hp2.shape
  have HP := Lib.hid hp2
  have HX := Lib.hid hx
  have R2 : w2.heap[w.heap.size]? = some (.cells #[.slice none 0 0, .slice none 0 0, .slice none 0 0] 27 (0, 0)) := (hx.2.block _ (by omega) (by simp)).trans R1.out
  have hw2 : w1.heap.size ≤ w2.heap.size := hx.2.size
  have r0 : w2.cell? ⟨w.heap.size, 0, none⟩ = some (.slice none 0 0) := by rw [cell_of_row w2 _ 0 _ _ _ R2]; rfl
  have r1 : w2.cell? ⟨w.heap.size, 1, none⟩ = some (.slice none 0 0) := by rw [cell_of_row w2 _ 1 _ _ _ R2]; rfl
  have r2 : w2.cell? ⟨w.heap.size, 2, none⟩ = some (.slice none 0 0) := by rw [cell_of_row w2 _ 2 _ _ _ R2]; rfl
  have f0 : w2.frozen? ⟨w.heap.size, 0, none⟩ = false := frozen_of_row w2 _ 0 _ _ R2
  have f1 : w2.frozen? ⟨w.heap.size, 1, none⟩ = false := frozen_of_row w2 _ 1 _ _ R2
  have f2 : w2.frozen? ⟨w.heap.size, 2, none⟩ = false := frozen_of_row w2 _ 2 _ _ R2
  clear hp2 hx R2
  go_wp2
  refine bodyPost_ret (v := .agg #[.slice (some ⟨g1, 0, none⟩) T.globals.length T.globals.length, .slice (some ⟨g2, 0, none⟩) T.locks.length T.locks.length, .slice pa T.procs.length pc]) (by simp [results, Tryz.results8, go_sem, r0, r1, r2]) rfl ⟨_, rfl, ?_, ?_⟩
  · refine (HP.out.keep (fun k h1 h2 => ?_) (by simp)).wide (by omega)
    rw [heap_setCell_other _ _ _ _ (by simp; omega), heap_setCell_other _ _ _ _ (by simp; omega), heap_setCell_other _ _ _ _ (by simp; omega)]
  · have b0 := (Below.refl w.heap.size w).alloc (Nat.le_refl _) (.cells #[.slice none 0 0, .slice none 0 0, .slice none 0 0] 27)
    have b1 := b0.grown HG.out (by simp) (fun _ h => by cases h)
    have b2 := b1.grown HX.out.2 (by omega) (fun k hk => by cases hk; simp)
    exact ((b2.setCell (by simp) _).setCell (by simp) _).setCell (by simp) _
/-- What DrawProg draws: in rows of the call's own, each list apart. -/
theorem drawProg_any (bs : List UInt8) (bv : Value) (w : World) (hb : BytesAt w bs bv) (hl : bs.length ≤ 1048576) :
    Calls Tryz.prog 8 #[bv] w fun e w' => ∃ v, e = .returned v ∧ DProg w' w.heap.size (drawnP bs) v ∧ Below w.heap.size w w' :=
  drawProg_core bs bv w hb _ (newS bs) _ (fun w h => new_any bs bv w h hl) (fun W0 w c h => prog_any bs W0 w c bv (newS bs) h)
end Go.Proofs.YtkfeiekgdfklmaaGreatDoor.Cur
/- What DrawProg draws lies in memory as a program of the call's own, and is right, its names there. Conditions: none beyond those of the draw. -/
namespace Go.Proofs.YtkfeiekgdfklmaaGreatDoor.Cur
open Go.RowKit Own Trm Lexs
theorem strs_row {w : World} {g : Nat} {ss : List ByteArray} {T : TypeId} (h : w.heap[g]? = some (.cells (strV ss).toArray T (0, 0))) (hl : ss.length ≤ 1000) (hs : ∀ s, s ∈ ss → s.size ≤ 9223372036854775807) : NamesAt w ss (.slice (some ⟨g, 0, none⟩) ss.length ss.length) := by
  refine ⟨⟨some ⟨g, 0, none⟩, ss.length, rfl, by omega, fun _ => ⟨g, 0, rfl, fun i hi => ?_⟩⟩, hs⟩
  rw [Nat.zero_add, cell_of_row w g i _ _ _ h]
  simp [strV, hi]
theorem PK.free {w : World} {lo hi : Nat} {ps : List PrT} {v : Value} (h : PK w lo hi ps v) : PrsFree w v ps := by
  obtain ⟨cs, h1, _, h2⟩ := h
  have hm := row_small h1
  unfold maxLen at hm
  obtain ⟨a, c, rfl, ha⟩ := row_shape h1
  refine ⟨by omega, a, c, rfl, fun hp => ?_⟩
  obtain ⟨g, rfl⟩ := ha hp
  refine ⟨g, rfl, fun i hi => ?_⟩
  obtain ⟨ba, bc, a2, b2, e0, e1, e2, _, _, _, e6⟩ := h2.at i hi
  exact ⟨ba, bc, e2, (h1.cellAt (i * 2) (by omega)).trans e0, (h1.cellAt (i * 2 + 1) (by omega)).trans e1, e6.lies.1, e6.lies.2⟩
theorem DProg.own {w : World} {lo : Nat} {x : PTree} {v : Value} (h : DProg w lo x v) (hg : x.globals.length ≤ 1000) (hl : x.locks.length ≤ 1000) (hgs : ∀ s, s ∈ x.globals → s.size ≤ 9223372036854775807) (hls : ∀ s, s ∈ x.locks → s.size ≤ 9223372036854775807) : POwn w x v := by
  obtain ⟨g1, g2, lo2, pv, rfl, _, _, _, h4, h5, h6⟩ := h
  have h7 := h6.free
  obtain ⟨_, pa, pc, rfl, _⟩ := id h7
  exact ⟨_, _, _, _, _, _, rfl, strs_row h4 hg hgs, strs_row h5 hl hls, h7, ⟨Nat.le_refl _, fun h => by cases h⟩, ⟨Nat.le_refl _, fun h => by cases h⟩⟩
theorem drawnP_globals (bs : List UInt8) : (drawnP bs).globals = globL := rfl
theorem drawnP_locks (bs : List UInt8) : (drawnP bs).locks = lockL := rfl
theorem drawnP_own {w : World} {lo : Nat} {bs : List UInt8} {v : Value} (h : DProg w lo (drawnP bs) v) : POwn w (drawnP bs) v :=
  h.own (by rw [drawnP_globals]; decide) (by rw [drawnP_locks]; decide) (fun s hs => by rw [drawnP_globals] at hs; simp [globL] at hs; rcases hs with rfl | rfl | rfl | rfl <;> decide) (fun s hs => by rw [drawnP_locks] at hs; simp [lockL] at hs; rcases hs with rfl | rfl | rfl <;> decide)
/-- The names of the drawn procedures. -/
theorem drawnP_names (bs : List UInt8) : (drawnP bs).procs.map (·.name) = namesF bs (newS bs) := procsF_names bs _ _ _ _
theorem drawnP_body (bs : List UInt8) : ∀ p, p ∈ (drawnP bs).procs → GoodL (namesF bs (newS bs)).tail 2 54 p.body :=
  procsF_body (by have := (namesF_len bs (newS bs)).1; rw [List.length_tail]; omega) _ _ _
theorem names_nm (bs : List UInt8) (s : St) : ∀ n, n ∈ namesF bs s → isNm n.data.toList = true := fun n hn => by
  rcases namesF_is bs s with e | e | e <;> rw [e] at hn <;> simp at hn
  · rcases hn with rfl | rfl <;> decide
  · rcases hn with rfl | rfl | rfl <;> decide
  · rcases hn with rfl | rfl | rfl | rfl <;> decide
/-- A drawn program is right. -/
theorem drawnP_right (bs : List UInt8) : okP (drawnP bs) = true := by
  have hl := namesF_len bs (newS bs)
  have hlen : (drawnP bs).procs.length = (namesF bs (newS bs)).length := by rw [← drawnP_names, List.length_map]
  have hps : okPrs (drawnP bs).procs = true := by
    unfold okPrs
    rw [List.all_eq_true]
    intro p hp
    have hn : p.name ∈ namesF bs (newS bs) := by rw [← drawnP_names]; exact List.mem_map.2 ⟨p, hp, rfl⟩
    have hb := drawnP_body bs p hp
    have hr : rightXS p.body 6 = true := rightXS_all (fun x hx => good_right (fun s hs => names_nm bs _ s (List.mem_of_mem_tail hs)) (hb.1 x hx) (by omega))
    have hc := hb.2
    unfold okPr okXS
    rw [names_nm bs _ _ hn, hr]
    simp; omega
  unfold okP
  rw [drawnP_globals, drawnP_locks, hps]
  have h1 : okNs globL 6 = true := by decide
  have h2 : okNs lockL 6 = true := by decide
  rw [h1, h2]
  simp; omega
end Go.Proofs.YtkfeiekgdfklmaaGreatDoor.Cur
/- How much a drawn program is. Without conditions. -/
namespace Go.Proofs.YtkfeiekgdfklmaaGreatDoor.Cur
open Go.RowKit Own Trm Lexs
theorem name1 {s : ByteArray} (h : s ∈ setL ∨ s ∈ lockL) : s.size ≤ 8 := by
  rcases h with h | h
  · simp [setL] at h
    rcases h with rfl | rfl | rfl <;> decide
  · simp [lockL] at h
    rcases h with rfl | rfl | rfl <;> decide
theorem szT_zT : szT zT = 0 := by decide
theorem leaf_size {ps : List ByteArray} (hp : ∀ s, s ∈ ps → s.size ≤ 8) {y : STree} (h : LeafG ps y) : szX y + 1 ≤ 40 * cntX y := by
  rcases h with ⟨s, t, rfl, h1, h2⟩ | ⟨s, rfl, h1⟩ | ⟨s, rfl, h1⟩ | ⟨s, rfl, h1⟩ | ⟨s, rfl, h1⟩ | rfl
  · have := name1 (.inl h1)
    have := h2.2.2
    simp [szX, szXS, cntX, cntXS]; omega
  · have := name1 (.inr h1)
    simp [szX, szXS, cntX, cntXS, szT_zT]; omega
  · have := name1 (.inr h1)
    simp [szX, szXS, cntX, cntXS, szT_zT]; omega
  · have := hp s h1
    simp [szX, szXS, cntX, cntXS, szT_zT]; omega
  · have := hp s h1
    simp [szX, szXS, cntX, cntXS, szT_zT]; omega
  · have h0 : (⟨#[]⟩ : ByteArray).size = 0 := rfl
    simp [szX, szXS, cntX, cntXS, szT_zT, h0]
theorem list_size : ∀ {xs : List STree}, (∀ y, y ∈ xs → szX y + 1 ≤ 40 * cntX y) → xs.length + szXS xs ≤ 40 * cntXS xs
  | [], _ => by simp [szXS, cntXS]
  | y :: r, h => by
    have h1 := h y (List.mem_cons_self ..)
    have h2 := list_size (xs := r) (fun z hz => h z (List.mem_cons_of_mem _ hz))
    rw [szXS, cntXS, List.length_cons]
    omega
theorem good_size {ps : List ByteArray} (hp : ∀ s, s ∈ ps → s.size ≤ 8) : ∀ {d : Nat} {y : STree}, GoodX ps d y → szX y + 1 ≤ 40 * cntX y
  | 0, y, h => leaf_size hp h
  | d + 1, y, h => by
    rcases h with h | ⟨t, b, rfl, h1, h2⟩ | ⟨t, b, e, rfl, h1, h2, h3⟩
    · exact leaf_size hp h
    · have hb := list_size (xs := b) (fun z hz => good_size hp (h2 z hz))
      have ht := h1.2.2
      have h0 : (⟨#[]⟩ : ByteArray).size = 0 := rfl
      rw [szX, cntX, h0]
      simp [szXS, cntXS]
      omega
    · have hb := list_size (xs := b) (fun z hz => good_size hp (h2 z hz))
      have he := list_size (xs := e) (fun z hz => good_size hp (h3 z hz))
      have ht := h1.2.2
      have h0 : (⟨#[]⟩ : ByteArray).size = 0 := rfl
      rw [szX, cntX, h0]
      omega
theorem names_size (bs : List UInt8) (s : St) : ∀ n, n ∈ namesF bs s → n.size ≤ 8 := fun n hn => by
  rcases namesF_is bs s with e | e | e <;> rw [e] at hn <;> simp at hn
  · rcases hn with rfl | rfl <;> decide
  · rcases hn with rfl | rfl | rfl <;> decide
  · rcases hn with rfl | rfl | rfl | rfl <;> decide
theorem body_size {ps : List ByteArray} (hp : ∀ s, s ∈ ps → s.size ≤ 8) {xs : List STree} {n : Nat} (h : GoodL ps 2 n xs) : xs.length + szXS xs ≤ 40 * n := by
  have h1 := list_size (fun y hy => good_size hp (h.1 y hy))
  have h2 := h.2
  omega
theorem prs_size : ∀ {ps : List PrT}, (∀ p, p ∈ ps → szPr p ≤ 3000) → szPrs ps ≤ 3000 * ps.length
  | [], _ => by simp [szPrs]
  | p :: r, h => by
    have h1 := h p (List.mem_cons_self ..)
    have h2 := prs_size (ps := r) (fun q hq => h q (List.mem_cons_of_mem _ hq))
    rw [szPrs, List.length_cons]
    omega
/-- A drawn program has at most 13000 names, bytes and statements. -/
theorem drawnP_pr (bs : List UInt8) : ∀ p, p ∈ (drawnP bs).procs → szPr p ≤ 3000 := fun p hp => by
  have hn : p.name ∈ namesF bs (newS bs) := by rw [← drawnP_names]; exact List.mem_map.2 ⟨p, hp, rfl⟩
  have h1 := names_size bs _ _ hn
  have h2 := body_size (fun s hs => names_size bs _ s (List.mem_of_mem_tail hs)) (drawnP_body bs p hp)
  unfold szPr
  omega
theorem drawnP_len (bs : List UInt8) : 2 ≤ (drawnP bs).procs.length ∧ (drawnP bs).procs.length ≤ 4 := by
  have hl := namesF_len bs (newS bs)
  have hlen : (drawnP bs).procs.length = (namesF bs (newS bs)).length := by rw [← drawnP_names, List.length_map]
  omega
theorem drawnP_size (bs : List UInt8) : szP (drawnP bs) ≤ 13000 := by
  have h1 := prs_size (drawnP_pr bs)
  have h2 := drawnP_len bs
  have h3 : szNs globL = 4 := by decide
  have h4 : szNs lockL = 3 := by decide
  unfold szP
  rw [drawnP_globals, drawnP_locks, h3, h4]
  simp [globL, lockL]
  omega
end Go.Proofs.YtkfeiekgdfklmaaGreatDoor.Cur
/- Drawn programs that are turned: with another first name, with other globals. Without conditions. -/
namespace Go.Proofs.YtkfeiekgdfklmaaGreatDoor.Cur
open Go.RowKit Own Trm Lexs
theorem PK.rename {w : World} {lo hi gp n cap : Nat} {p : PrT} {r : List PrT} (h : PK w lo hi (p :: r) (.slice (some ⟨gp, 0, none⟩) n cap)) (nm : ByteArray) (hn : nm.size ≤ 9223372036854775807) :
    PK (w.setCell ⟨gp, 0, none⟩ (.string nm)) lo hi (⟨nm, p.body⟩ :: r) (.slice (some ⟨gp, 0, none⟩) n cap) := by
  obtain ⟨cs, h1, h2, ba, bc, rest, a, b, rfl, _, hla, hg, hd, hr⟩ := h
  have hl : n = (p :: r).length := by
    obtain ⟨g', c', e, _⟩ := h1.form (by simp)
    simp at e
    simp [e.2.1]
  subst hl
  have hs := (h1.stored 0 (.string nm)).1
  have hgp := hg gp rfl
  exact ⟨_, hs, h2, ba, bc, rest, a, b, rfl, hn, hla, hg, hd.same (fun k g1 g2 => heap_setCell_other _ _ _ _ (by simp; omega)), hr.same (fun k _ _ hne => heap_setCell_other _ _ _ _ (by simp; intro e; exact hne (by rw [e]; rfl)))⟩
theorem PK.block {w : World} {lo hi gp n cap : Nat} {ps : List PrT} (h : PK w lo hi ps (.slice (some ⟨gp, 0, none⟩) n cap)) : lo ≤ gp ∧ gp < w.heap.size := by
  obtain ⟨cs, h1, _⟩ := h
  exact h1.lt gp rfl
/-- The first procedure with another name. -/
theorem DProg.rename {w : World} {lo gp n cap : Nat} {x : PTree} {gv lv : Value} {p : PrT} {r : List PrT} (h : DProg w lo x (.agg #[gv, lv, .slice (some ⟨gp, 0, none⟩) n cap])) (hp : x.procs = p :: r) (nm : ByteArray) (hn : nm.size ≤ 9223372036854775807) :
    DProg (w.setCell ⟨gp, 0, none⟩ (.string nm)) lo ⟨x.globals, x.locks, ⟨nm, p.body⟩ :: r⟩ (.agg #[gv, lv, .slice (some ⟨gp, 0, none⟩) n cap]) := by
  obtain ⟨g1, g2, lo2, pv, e, h1, h2, h3, h4, h5, h6⟩ := h
  simp at e
  obtain ⟨rfl, rfl, rfl⟩ := e
  rw [hp] at h6
  have hb := h6.block
  exact ⟨g1, g2, lo2, _, rfl, h1, h2, h3, (heap_setCell_other _ _ _ _ (by simp; omega)).trans h4, (heap_setCell_other _ _ _ _ (by simp; omega)).trans h5, by simpa using h6.rename nm hn⟩
/-- Other globals. -/
theorem POwn.globals {w : World} {x : PTree} {gv lv pv : Value} (h : POwn w x (.agg #[gv, lv, pv])) {gs : List ByteArray} {base : Nat} {gv2 : Value} (hr : NRow w base gs gv2) (hs : ∀ s, s ∈ gs → s.size ≤ 9223372036854775807) : POwn w ⟨gs, x.locks, x.procs⟩ (.agg #[gv2, lv, pv]) := by
  obtain ⟨ga, gc, la, lc, pa, pc, e, h1, h2, h3, h4, h5⟩ := h
  simp at e
  obtain ⟨rfl, rfl, rfl⟩ := e
  obtain ⟨a, c, rfl⟩ := hr.shape
  exact ⟨a, c, la, lc, pa, pc, rfl, ⟨strsAt_own hr, hs⟩, h2, h3, room_row hr, h5⟩
end Go.Proofs.YtkfeiekgdfklmaaGreatDoor.Cur
