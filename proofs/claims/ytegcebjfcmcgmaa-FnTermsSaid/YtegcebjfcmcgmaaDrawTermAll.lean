/- The model's DrawTerm, walked, and what is true of a drawn term. Conditions: the code lies in memory; it has at most 2 to the 20 bytes. -/
import Derived.Test.YtegcebjfcmcgmaaDrawTerm
import Derived.Test.YtegcebjfcmcgmaaTermRight
import Derived.Test.YtegcebjfcmcgmaaTermSize
namespace Go.Proofs.Ytegcebjfcmcgmaa.Cur
open Go.RowKit Own Trm Lexs
/-- The term that a code draws. -/
def drawnT (bs : List UInt8) : Tree := (drawT bs 3 (newS bs)).1
set_option maxHeartbeats 800000 in
theorem drawTerm_core (bs : List UInt8) (bv : Value) (w : World) (hb : BytesAt w bs bv) (T : Tree) (s1 s2 : St)
    (cn : ∀ w, BytesAt w bs bv → Calls Try.prog 43 #[bv] w fun e w' => e = .returned (.pointer (some ⟨w.heap.size, 0, none⟩)) ∧ At w w' w.heap.size bs bv s1 ∧ w.grownBy w' none)
    (cd : ∀ W0 w c, At W0 w c bs bv s1 → Calls Try.prog 42 #[.pointer (some ⟨c, 0, none⟩), .int .i64 3] w fun e w' => ∃ v, e = .returned v ∧ LiesD (young w' w.heap.size) T v ∧ Next W0 w c bs bv s2 w') :
    Calls Try.prog 10 #[bv] w fun e w' => ∃ v, e = .returned v ∧ LiesD w' T v ∧ Below w.heap.size w w' := by
  obtain ⟨ba, bc, rfl, hbl, _⟩ := id hb
  have R0 : Res (w.alloc (.cells #[.int .i64 0, .int .i64 0, .string ⟨#[]⟩, .slice none 0 0] 26)) w.heap.size := heap_alloc_new _ _
  have HR0 := Lib.hid R0
  have C := Lib.hid (cn (w.alloc (.cells #[.int .i64 0, .int .i64 0, .string ⟨#[]⟩, .slice none 0 0] 26)) (by
    obtain ⟨a, cap, e, h1, h2⟩ := hb
    refine ⟨a, cap, e, h1, fun hp => ?_⟩
    obtain ⟨g, o, e2, h3⟩ := h2 hp
    exact ⟨g, o, e2, fun i hi => keeps_alloc _ _ _ _ (h3 i hi)⟩))
  have hs0 : (w.alloc (.cells #[.int .i64 0, .int .i64 0, .string ⟨#[]⟩, .slice none 0 0] 26)).heap.size = w.heap.size + 1 := by simp
  rw [hs0] at C
  have D := Lib.hid cd
  clear hs0
  clear hb R0 cn cd
  go_enter Try.func10, Try.ntmps10
  go_wp2_with fail
  refine C.out.mono ?_
  rintro e w1 ⟨rfl, hat, hg⟩
  have HA := Lib.hid hat
  have HG := Lib.hid hg
  have hw1 : w.heap.size + 1 ≤ w1.heap.size := by have := hg.size; simpa using this
  have R1 := Lib.hid (HR0.out.next hg (by simp))
  clear hat hg
  go_wp2_with fail
  refine (D.out _ w1 _ HA.out).mono ?_
  rintro e w2 ⟨v2, rfl, hl2, hx⟩
  obtain ⟨va, vc, rfl⟩ := hl2.shape
  have HL := Lib.hid hl2
  have HX := Lib.hid hx
  have R2 := Lib.hid (R1.out.next hx.2 (by simp))
  have hw2 : w1.heap.size ≤ w2.heap.size := hx.2.size
  clear hl2 hx
  obtain ⟨q0, q1, q2, q3, qf⟩ := R2.out.cells
  have f0 := qf 0
  have f1 := qf 1
  have f2 := qf 2
  have f3 := qf 3
  clear qf
  go_wp2
  refine bodyPost_ret (v := .agg #[.int .i64 T.kind, .int .i64 T.num, .string T.name, .slice va T.kids.length vc]) (by simp [results, Try.results10, go_sem, q0, q1, q2, q3]) rfl ⟨_, rfl, ?_, ?_⟩
  · refine HL.out.keep (KeepD.trans (b := young _ w1.heap.size) (young_same (Nat.le_refl _) (fun k h1 h2 => ?_)) (young_keeps _ _))
    rw [heap_setCell_other _ _ _ _ (by simp; omega), heap_setCell_other _ _ _ _ (by simp; omega), heap_setCell_other _ _ _ _ (by simp; omega), heap_setCell_other _ _ _ _ (by simp; omega)]
  · have b0 := (Below.refl w.heap.size w).alloc (Nat.le_refl _) (.cells #[.int .i64 0, .int .i64 0, .string ⟨#[]⟩, .slice none 0 0] 26)
    have b1 := b0.grown HG.out (by simp) (fun _ h => by cases h)
    have b2 := b1.grown HX.out.2 (by omega) (fun k hk => by cases hk; simp)
    exact (((b2.setCell (by simp) _).setCell (by simp) _).setCell (by simp) _).setCell (by simp) _
theorem drawTerm_any (bs : List UInt8) (bv : Value) (w : World) (hb : BytesAt w bs bv) (hl : bs.length ≤ 1048576) :
    Calls Try.prog 10 #[bv] w fun e w' => ∃ v, e = .returned v ∧ LiesD w' (drawnT bs) v ∧ Below w.heap.size w w' :=
  drawTerm_core bs bv w hb _ (newS bs) _ (fun w h => new_any bs bv w h hl) (fun W0 w c h => draw_any bs 3 (by decide) W0 w c bv (newS bs) h)
/-- A drawn term is right. -/
theorem leafT_right (bs : List UInt8) (k : Nat) (s : St) (r : Nat) : rightB (leafT bs k s).1 r = true := by
  unfold leafT
  split
  · have h := pickN_lt bs 8 s (by decide)
    show rightB (.node 1 (numsL.getD (pickN bs 8 s) 0) ⟨#[]⟩ []) r = true
    generalize pickN bs 8 s = j at h
    rw [rightB, if_pos rfl]
    match j, h with
    | 0, _ => decide
    | 1, _ => decide
    | 2, _ => decide
    | 3, _ => decide
    | 4, _ => decide
    | 5, _ => decide
    | 6, _ => decide
    | 7, _ => decide
  · have h := pickN_lt bs 5 s (by decide)
    show rightB (.node 2 0 (namesL.getD (pickN bs 5 s) ByteArray.empty) []) r = true
    generalize pickN bs 5 s = j at h
    rw [rightB, if_neg (by decide), if_pos rfl]
    match j, h with
    | 0, _ => decide +kernel
    | 1, _ => decide +kernel
    | 2, _ => decide +kernel
    | 3, _ => decide +kernel
    | 4, _ => decide +kernel
theorem kinds_are (bs : List UInt8) (s : St) : 3 ≤ kindsL.getD (pickN bs 6 s) 0 ∧ kindsL.getD (pickN bs 6 s) 0 ≤ 9 ∧ kindsL.getD (pickN bs 6 s) 0 ≠ 8 := by
  have h := pickN_lt bs 6 s (by decide)
  generalize pickN bs 6 s = j at h
  match j, h with
  | 0, _ => decide
  | 1, _ => decide
  | 2, _ => decide
  | 3, _ => decide
  | 4, _ => decide
  | 5, _ => decide
theorem drawT_right (bs : List UInt8) : ∀ (d : Nat) (s : St) (r : Nat), d ≤ r → rightB (drawT bs d s).1 r = true
  | 0, s, r, _ => by
    rw [drawT]
    exact leafT_right _ _ _ _
  | d + 1, s, r, h => by
    have hr : r ≠ 0 := by omega
    have i1 := drawT_right bs d (belowS bs 12 s) (r - 1) (by omega)
    have i2 := drawT_right bs d (belowS bs 6 (belowS bs 12 s)) (r - 1) (by omega)
    have i3 := drawT_right bs d (drawT bs d (belowS bs 6 (belowS bs 12 s))).2 (r - 1) (by omega)
    rw [drawT]
    split
    · exact leafT_right _ _ _ _
    · split
      · show rightB (.node 8 0 ⟨#[]⟩ [_]) r = true
        rw [rightB, if_neg (by decide), if_neg (by decide), rightS, rightS, i1]
        simp [manyK, hr]
        rfl
      · obtain ⟨k1, k2, k3⟩ := kinds_are bs (belowS bs 12 s)
        show rightB (.node (kindsL.getD (pickN bs 6 (belowS bs 12 s)) 0) 0 ⟨#[]⟩ [_, _]) r = true
        generalize kindsL.getD (pickN bs 6 (belowS bs 12 s)) 0 = k at k1 k2 k3
        rw [rightB, if_neg (by omega), if_neg (by omega), rightS, rightS, rightS, i2, i3]
        simp [manyK, k3, k1, k2, hr]
        rfl
theorem drawn_right (bs : List UInt8) : okB (drawnT bs) = true := drawT_right bs 3 _ 6 (by decide)
/-- A drawn term is small. -/
theorem leafT_size (bs : List UInt8) (k : Nat) (s : St) : szT (leafT bs k s).1 ≤ 2 := by
  unfold leafT
  split
  · show szT (.node 1 _ ⟨#[]⟩ []) ≤ 2
    rw [szT]; simp [szS]; decide
  · have h := pickN_lt bs 5 s (by decide)
    show szT (.node 2 0 (namesL.getD (pickN bs 5 s) ByteArray.empty) []) ≤ 2
    generalize pickN bs 5 s = j at h
    rw [szT]; simp only [List.length_nil, szS]
    match j, h with
    | 0, _ => decide
    | 1, _ => decide
    | 2, _ => decide
    | 3, _ => decide
    | 4, _ => decide
theorem drawT_size (bs : List UInt8) : ∀ (d : Nat) (s : St), szT (drawT bs d s).1 + 2 ≤ 4 * 2 ^ d
  | 0, s => by
    rw [drawT]
    have := leafT_size bs (if 6 ≤ pickN bs 12 s then pickN bs 12 s - 6 else pickN bs 12 s) (belowS bs 12 s)
    simp; omega
  | d + 1, s => by
    have hp : 1 ≤ 2 ^ d := Nat.one_le_two_pow
    have i1 := drawT_size bs d (belowS bs 12 s)
    have i2 := drawT_size bs d (belowS bs 6 (belowS bs 12 s))
    have i3 := drawT_size bs d (drawT bs d (belowS bs 6 (belowS bs 12 s))).2
    rw [drawT, Nat.pow_succ]
    split
    · have := leafT_size bs (pickN bs 12 s) (belowS bs 12 s); omega
    · split
      · show szT (.node 8 0 ⟨#[]⟩ [_]) + 2 ≤ _
        rw [szT, szS, szS, show ByteArray.size ⟨#[]⟩ = 0 from rfl]
        simp only [List.length_cons, List.length_nil]
        omega
      · show szT (.node _ 0 ⟨#[]⟩ [_, _]) + 2 ≤ _
        rw [szT, szS, szS, szS, show ByteArray.size ⟨#[]⟩ = 0 from rfl]
        simp only [List.length_cons, List.length_nil]
        omega
theorem drawn_size (bs : List UInt8) : szT (drawnT bs) ≤ 30 := by
  have := drawT_size bs 3 (newS bs)
  unfold drawnT
  have e : 4 * 2 ^ 3 = 32 := by decide
  omega
theorem drawn_room (bs : List UInt8) : rightB (drawnT bs) 3 = true := drawT_right bs 3 _ 3 (by decide)
end Go.Proofs.Ytegcebjfcmcgmaa.Cur
