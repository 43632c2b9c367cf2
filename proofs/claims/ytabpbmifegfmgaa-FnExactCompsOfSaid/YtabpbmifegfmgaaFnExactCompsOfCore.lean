/- The law of CompsOf out of two contracts, walked. Conditions: the arguments read; both sides answer the same lists, in new memory. -/
import Derived.Test.YtabpbmifegfmgaaCompsI
namespace Go.Proofs.Ytabpbmifegfmgaa.FnExactCompsOfW
open Go.RowKit Own Trm
theorem LOwn.grown {w w' : World} {base hi : Nat} {v : Value} {cs : List Value} {ls : List (List Int)} {row : Option Nat} (h : LOwn w base hi v cs ls) (hg : w.grownBy w' row) (hr : ∀ b, row = some b → b < base ∨ hi ≤ b) : LOwn w' base hi v cs ls :=
  RowsOwn.same h (fun b h1 h2 => hg.block b (Nat.lt_of_lt_of_le h2 h.2.1) (fun e => by have := hr b e.symm; omega)) (Nat.le_trans h.2.1 hg.size)
theorem LOwn.marked {w w' : World} {base hi lo up : Nat} {v : Value} {cs : List Value} {ls : List (List Int)} (h : LOwn w base hi v cs ls) (hm : Marks lo up w w') (hr : hi ≤ lo ∨ up ≤ base) : LOwn w' base hi v cs ls :=
  RowsOwn.same h (fun b h1 h2 => hm.block b (Nat.lt_of_lt_of_le h2 h.2.1) (by omega)) (Nat.le_trans h.2.1 hm.size)
set_option maxHeartbeats 3200000 in
theorem core (n : Int) (es : List (Int × Int)) (v : Value) (w : World) (ls : List (List Int)) (hl : ArcsAt w es v) (hz : es.length ≤ 1048576) (hli : LInt ls) (htl : totL ls ≤ 9000000)
    (c1 : ∀ v w, ArcsAt w es v → Calls Try.prog 13 #[.int .i64 n, v] w (ListL ls w))
    (c2 : ∀ v w, ArcsAt w es v → Calls Try.prog 11 #[.int .i64 n, v] w (ListL ls w)) :
    Calls Try.prog 6 #[.int .i64 n, v] w fun e w' => e = .returned (.bool true) ∧ Below w.heap.size w w' := by
  have C1 := Lib.hid c1
  have C2 := Lib.hid c2
  have HLI := Lib.hid hli
  have CS := Lib.hid (szArcs_any es v w 1048576 (by omega) hl)
  have CT := Lib.hid (fun y hk => toArcs_any es v y (hl.keep hk) hz)
  have CM := Lib.hid (fun v base hi cs w h => markLists_any ls v base hi 1 cs w h (by omega))
  have CH := Lib.hid (fun v base hi cs w h => heldLists_any ls v base hi 1 cs w h (by omega))
  have HZ := Lib.hid (leftR_yes hz)
  have hz2 : 0 ≤ ((1048576 - es.length : Nat) : Int) := by omega
  have hk0 : (0 : Int) ≤ ((1 + 2 * es.length : Nat) : Int) := by omega
  have hm0 : (0 : Int) ≤ ((1 + totL ls : Nat) : Int) := by omega
  obtain ⟨aa, cap, rfl, _, hin, _⟩ := hl
  have HIN := Lib.hid hin
  have HE := Lib.hid hz
  clear c1 c2 hz hin hli htl
  go_enter Try.func6, Try.ntmps6
  go_wp2_with fail
  refine CS.out.mono ?_
  rintro e w1 ⟨rfl, rfl⟩
  rw [HZ.out]
  go_wp2_with fail
  refine (CT.out _ (fun _ _ h => h)).mono ?_
  rintro e w2 ⟨v2, rfl, ho, hb⟩
  have L2 := Lib.hid (arcs_of_row ho HIN.out)
  obtain ⟨a2, k2, rfl, _, _⟩ := L2.out
  have B2 := Lib.hid hb
  clear ho hb
  go_wp2_with fail
  refine (C1.out _ _ L2.out).mono ?_
  rintro e w3 ⟨sv, sh, sc, rfl, hs3, hb⟩
  have S3 := Lib.hid hs3
  have B3 := Lib.hid (B2.out.trans (hb.mono B2.out.size))
  have hsh : sh ≤ w3.heap.size := hs3.2.1
  have hw3 : w.heap.size ≤ w3.heap.size := B3.out.size
  clear hs3 hb
  go_wp2_with fail
  refine (CT.out _ (keeps_below B3.out)).mono ?_
  rintro e w4 ⟨v4, rfl, ho, hb⟩
  have O4 := Lib.hid ho
  have L4 := Lib.hid (arcs_of_row ho HIN.out)
  obtain ⟨a4, k4, rfl, _, _⟩ := L4.out
  have S4 := Lib.hid (RowsOwn.below S3.out hb)
  have B4 := Lib.hid (B3.out.trans (hb.mono B3.out.size))
  have h34 : w3.heap.size ≤ w4.heap.size := hb.size
  clear ho hb
  go_wp2_with fail
  refine (C2.out _ _ L4.out).mono ?_
  rintro e w5 ⟨gv, gh, gc, rfl, hg5, hb⟩
  have G5 := Lib.hid hg5
  have S5 := Lib.hid (RowsOwn.below S4.out hb)
  have O5 := Lib.hid (row_below O4.out hb)
  have B5 := Lib.hid (B4.out.trans (hb.mono B4.out.size))
  have A5 := Lib.hid (LOwn.at S5.out HLI.out)
  have Q5 := Lib.hid (LOwn.at G5.out HLI.out)
  clear hg5 hb
  go_wp2_with fail
  refine (eqLists_any ls _ _ _ Q5.out A5.out).mono ?_
  rintro e w6 ⟨rfl, hb⟩
  have G6 := Lib.hid (RowsOwn.below G5.out hb)
  have S6 := Lib.hid (RowsOwn.below S5.out hb)
  have O6 := Lib.hid (row_below O5.out hb)
  have B6 := Lib.hid (B5.out.trans (hb.mono B5.out.size))
  clear hb A5 Q5
  go_wp2_with fail
  refine (CT.out _ (keeps_below B6.out)).mono ?_
  rintro e w7 ⟨v7, rfl, ho, hb⟩
  have L7 := Lib.hid (arcs_of_row ho HIN.out)
  obtain ⟨a7, k7, rfl, _, _⟩ := L7.out
  have G7 := Lib.hid (RowsOwn.below G6.out hb)
  have S7 := Lib.hid (RowsOwn.below S6.out hb)
  have O7 := Lib.hid (row_below O6.out hb)
  have B7 := Lib.hid (B6.out.trans (hb.mono B6.out.size))
  clear ho hb
  go_wp2_with fail
  refine (eqArcs_any es _ _ _ (arcs_of_row O7.out HIN.out) L7.out).mono ?_
  rintro e w8 ⟨rfl, hb⟩
  have G8 := Lib.hid (RowsOwn.below G7.out hb)
  have S8 := Lib.hid (RowsOwn.below S7.out hb)
  have O8 := Lib.hid (row_below O7.out hb)
  have B8 := Lib.hid (B7.out.trans (hb.mono B7.out.size))
  clear hb
  go_wp2_with fail
  refine (markArcs_any _ _ _ 1 _ _ O8.out (by have := HE.out; omega)).mono ?_
  rintro e w9 ⟨rfl, hg⟩
  have hob : ∀ b, (Value.slice a4 es.length k4).ownBlock = some b → w3.heap.size ≤ b ∧ b < w4.heap.size := fun b hb => O4.out.lt b hb
  have G9 := Lib.hid (LOwn.grown G8.out hg (fun b hb => .inl (hob b hb).2))
  have S9 := Lib.hid (LOwn.grown S8.out hg (fun b hb => .inr (Nat.le_trans hsh (hob b hb).1)))
  have B9 := Lib.hid (B8.out.grown hg B8.out.size (fun b hb => Nat.le_trans hw3 (hob b hb).1))
  have A9 := Lib.hid (LOwn.at S9.out HLI.out)
  have Q9 := Lib.hid (LOwn.at G9.out HLI.out)
  clear hg hob
  go_wp2_with fail
  refine (eqLists_any ls _ _ _ Q9.out A9.out).mono ?_
  rintro e wa ⟨rfl, hb⟩
  have GA := Lib.hid (RowsOwn.below G9.out hb)
  have SA := Lib.hid (RowsOwn.below S9.out hb)
  have BA := Lib.hid (B9.out.trans (hb.mono B9.out.size))
  clear hb A9 Q9
  go_wp2_with fail
  refine (CM.out _ _ _ _ _ GA.out).mono ?_
  rintro e wb ⟨rfl, hmb, hmk⟩
  have MB := Lib.hid hmb
  have SB := Lib.hid (LOwn.marked SA.out hmk (.inl (by omega)))
  have BB : Hid (Below w.heap.size w wb) := BA.out.trans ((hmk.below (by have := GA.out.2.1; have := GA.out.2.2.1; omega)).mono (by omega))
  clear hmb hmk
  go_wp2_with fail
  refine (CH.out _ _ _ _ _ MB.out).mono ?_
  rintro e wc ⟨rfl, hg⟩
  have MC := Lib.hid (RowsOwn.below MB.out (below_none hg))
  have SC := Lib.hid (RowsOwn.below SB.out (below_none hg))
  have BC := Lib.hid (BB.out.grown hg BB.out.size (fun _ h => by cases h))
  clear hg
  go_wp2_with fail
  refine (CT.out _ (keeps_below BC.out)).mono ?_
  rintro e wd ⟨vd, rfl, ho, hb⟩
  have LD := Lib.hid (arcs_of_row ho HIN.out)
  obtain ⟨ad, kd, rfl, _, _⟩ := LD.out
  have MD := Lib.hid (RowsOwn.below MC.out hb)
  have SD := Lib.hid (RowsOwn.below SC.out hb)
  have BD := Lib.hid (BC.out.trans (hb.mono BC.out.size))
  clear ho hb
  go_wp2_with fail
  refine (C2.out _ _ LD.out).mono ?_
  rintro e we ⟨hv, hh, hc, rfl, hg5, hb⟩
  have GE := Lib.hid hg5
  have ME := Lib.hid (RowsOwn.below MD.out hb)
  have SE := Lib.hid (RowsOwn.below SD.out hb)
  have BE := Lib.hid (BD.out.trans (hb.mono BD.out.size))
  have AE := Lib.hid (LOwn.at SE.out HLI.out)
  have QE := Lib.hid (LOwn.at GE.out HLI.out)
  clear hg5 hb
  go_wp2_with fail
  refine (eqLists_any ls _ _ _ QE.out AE.out).mono ?_
  rintro e wf ⟨rfl, hb⟩
  have MF := Lib.hid (RowsOwn.below ME.out hb)
  have BF := Lib.hid (BE.out.trans (hb.mono BE.out.size))
  clear hb
  go_wp2_with fail
  refine (CH.out _ _ _ _ _ MF.out).mono ?_
  rintro e wg ⟨rfl, hg⟩
  have BG := Lib.hid (BF.out.grown hg BF.out.size (fun _ h => by cases h))
  clear hg
  go_wp2_with fail
  go_ret
  exact ⟨rfl, BG.out⟩
theorem big (n : Int) (es : List (Int × Int)) (v : Value) (w : World) (hl : ArcsAt w es v) (hz : 1048576 < es.length) :
    Calls Try.prog 6 #[.int .i64 n, v] w fun e w' => e = .returned (.bool true) ∧ Below w.heap.size w w' := by
  have CS := Lib.hid (szArcs_any es v w 1048576 (by omega) hl)
  have HZ := Lib.hid (leftR_no (a := 1048576) (n := es.length) (by omega))
  obtain ⟨aa, cap, rfl, _, _⟩ := hl
  clear hz
  go_enter Try.func6, Try.ntmps6
  go_wp2_with fail
  refine CS.out.mono ?_
  rintro e w1 ⟨rfl, rfl⟩
  rw [HZ.out]
  go_wp2
  go_ret
  exact ⟨rfl, Below.refl _ _⟩
end Go.Proofs.Ytabpbmifegfmgaa.FnExactCompsOfW
