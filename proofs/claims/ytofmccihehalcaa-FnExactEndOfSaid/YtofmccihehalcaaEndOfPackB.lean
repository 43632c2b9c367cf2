/- The law of EndOf, walked. Conditions: the arguments read. With what it stands on, in one text. -/
import Derived.Test.YtofmccihehalcaaChecked
import Derived.Test.YtofmccihehalcaaKTrees
import Derived.Test.YtofmccihehalcaaTermSize
import Derived.Test.YtofmccihehalcaaEndOfPackA
import Derived.Test.YtofmccihehalcaaKOwn
import Derived.OwnWalk
import Derived.WalkSmall
import Derived.Outline
import Derived.Test.YtofmccihehalcaaKMath
import Derived.Test.YtofmccihehalcaaPlaceI
import Derived.Test.YtofmccihehalcaaUnkMath
import Derived.Test.YtofmccihehalcaaKAnsM
import Derived.Deep.RegionWith
import Derived.BigQuiet
import Derived.Deep.RegionHeld3
import Derived.Test.YtofmccihehalcaaKArg
import Derived.Test.YtofmccihehalcaaKEndS
/- The laws' count of a code's names, numbers and instructions, walked. Conditions: the code lies in memory; the room left is at most 2 to the 20. -/
namespace Go.Proofs.Ytofmccihehalcaa.Trm
open Go.RowKit Go.Proofs.Ytofmccihehalcaa.Own
theorem szIns_any (x : InsT) (v : Value) (w : World) (a : Nat) (ha : a ≤ 1048576) (hl : ILies w x v) :
    Calls Try.prog 23 #[v, .int .i64 (a : Int)] w fun e w' => e = .returned (.int .i64 (leftR a (szI x))) ∧ Below w.heap.size w w' := by
  obtain ⟨_, _, _, ta, tc, rfl, h6⟩ := hl
  have CT := Lib.hid (fun w a ha hk => szTerm_any x.term _ w a ha (h6.keep hk))
  have HS : Hid (leftR a (szI x) = leftR a (szT x.term)) := rfl
  clear h6
  go_enter Try.func23, Try.ntmps23
  go_wp2_with fail
  refine (CT.out _ a ha (keeps_alloc _ _)).mono ?_
  rintro e1 w1 ⟨rfl, hb1⟩
  have B1 := Lib.hid (below_box1 hb1)
  clear hb1
  by_cases hle : szT x.term ≤ a
  · have HL := Lib.hid (leftR_yes hle)
    rw [leftR_yes hle]
    go_wp2
    go_ret
    exact ⟨by rw [HS.out, HL.out]; rfl, B1.out⟩
  · have HL := Lib.hid (leftR_no (a := a) (n := szT x.term) (by omega))
    rw [HL.out]
    go_wp2
    go_ret
    exact ⟨by rw [HS.out, HL.out]; rfl, B1.out⟩
set_option maxHeartbeats 800000 in
theorem szInsS_any (xs : List InsT) (v : Value) (w : World) (a : Nat) (ha : a ≤ 1048576) (hl : IsAt w v xs) :
    Calls Try.prog 11 #[v, .int .i64 (a : Int)] w fun e w' => e = .returned (.int .i64 (leftR a (xs.length + szIs xs))) ∧ Below w.heap.size w w' := by
  obtain ⟨hlen, aa, cap, rfl, hk⟩ := hl
  have HK := Lib.hid hk
  clear hk
  by_cases hb : a < xs.length
  · have HO := Lib.hid (leftR_no (a := a) (n := xs.length + szIs xs) (by omega))
    go_enter Try.func11, Try.ntmps11
    go_wp2
    go_ret
    exact ⟨by rw [HO.out]; rfl, Below.refl _ _⟩
  · go_enter Try.func11, Try.ntmps11
    go_wp2
    go_loopw [1, 5] (fun x i wr => ∃ (k b : Nat), k ≤ xs.length ∧ b ≤ 1048576 ∧ i = .int .i64 k ∧ x = .int .i64 b ∧ Hid (leftR a (xs.length + szIs xs) = leftR b (szIs (xs.drop k))) ∧ Hid (Below w.heap.size w wr))
      (fun _ i _ => xs.length - (intOf i).toNat)
    case atStart => exact ⟨0, a - xs.length, Nat.zero_le _, by omega, rfl, by go_num, leftR_step (by omega), Below.refl _ _⟩
    case round =>
      obtain ⟨k, b, hk, hb2, rfl, rfl, hsz, hbe⟩ := hrel
      by_cases hlt : k < xs.length
      · obtain ⟨g, o, rfl, hl⟩ := HK.out (by omega)
        obtain ⟨i0, i1, i2, ta, tc, c0, c1, c2, c3, c4, c5, c6, hl2⟩ := (hl k hlt).keep (keeps_below hbe.out)
        have C := Lib.hid (szIns_any xs[k] _ wr b hb2 ⟨i0, i1, i2, ta, tc, rfl, hl2⟩)
        have hd := szIs_drop hlt
        by_cases hle : szI xs[k] ≤ b
        · have HS : Hid (leftR a (xs.length + szIs xs) = leftR (b - szI xs[k]) (szIs (xs.drop (k + 1)))) := by
            show leftR a (xs.length + szIs xs) = _
            rw [hsz.out, hd]; exact leftR_step hle
          rw [leftR_yes hle] at C
          clear hl hl2 hd i0 i1 i2
          go_wp2_with fail
          refine C.out.mono ?_
          rintro e w1 ⟨rfl, hb1⟩
          have HB1 := Lib.hid (hbe.out.trans (hb1.mono hbe.out.size))
          clear hb1
          go_wp2
          go_roundw
          case rel => exact ⟨k + 1, b - szI xs[k], by omega, by omega, by go_num, rfl, HS, HB1⟩
          case measure => simp [intOf]; omega
        · have HS : Hid (leftR a (xs.length + szIs xs) = -1) := by
            show leftR a (xs.length + szIs xs) = _
            rw [hsz.out, hd]; exact leftR_no (by omega)
          rw [leftR_no (by omega)] at C
          clear hl hl2 hd i0 i1 i2
          go_wp2_with fail
          refine C.out.mono ?_
          rintro e w1 ⟨rfl, hb1⟩
          have HB1 := Lib.hid (hbe.out.trans (hb1.mono hbe.out.size))
          clear hb1
          go_wp2
          go_ret
          exact ⟨by rw [HS.out]; rfl, HB1.out⟩
      · have HS : Hid (leftR a (xs.length + szIs xs) = (b : Int)) := by
          show leftR a (xs.length + szIs xs) = _
          rw [hsz.out, szIs_end (by omega), leftR_yes (by omega)]; rfl
        go_wp2
        go_ret
        exact ⟨by rw [HS.out]; rfl, hbe.out⟩
theorem szInts_any (ns : List Int) (v : Value) (w : World) (a : Nat) (ha : a ≤ 1048576) (hl : IntsAt w ns v) :
    Calls Try.prog 10 #[v, .int .i64 (a : Int)] w fun e w' => e = .returned (.int .i64 (leftR a ns.length)) ∧ w = w' := by
  obtain ⟨aa, cap, rfl, hm, _, _⟩ := hl
  by_cases hb : ns.length ≤ a
  · have HO := Lib.hid (leftR_yes hb)
    have hsub : ((a : Int) - (ns.length : Int)) = ((a - ns.length : Nat) : Int) := by omega
    have HSub := Lib.hid hsub
    clear hsub
    go_enter Try.func10, Try.ntmps10
    go_wp2
    go_ret
    exact ⟨by rw [HO.out, ← HSub.out]; rfl, rfl⟩
  · have HO := Lib.hid (leftR_no (a := a) (n := ns.length) (by omega))
    go_enter Try.func10, Try.ntmps10
    go_wp2
    go_ret
    exact ⟨by rw [HO.out]; rfl, rfl⟩
set_option maxHeartbeats 1600000 in
theorem szCode_any (x : KTree) (v : Value) (w : World) (a : Nat) (ha : a ≤ 1048576) (hl : KLies w x v) :
    Calls Try.prog 4 #[v, .int .i64 (a : Int)] w fun e w' => e = .returned (.int .i64 (leftR a (szK x))) ∧ Below w.heap.size w w' := by
  obtain ⟨ga, gc, la, lc, pa, pc, ea, ec, ia, ic, rfl, h1, h2, h3, h4, h5⟩ := hl
  have C1 := Lib.hid (fun w a ha hk => szStrings_any x.globals (.slice ga x.globals.length gc) w a ha (h1.1.keep hk) h1.2)
  have C2 := Lib.hid (fun w a ha hk => szStrings_any x.locks (.slice la x.locks.length lc) w a ha (h2.1.keep hk) h2.2)
  have C3 := Lib.hid (fun w a ha hk => szStrings_any x.procs (.slice pa x.procs.length pc) w a ha (h3.1.keep hk) h3.2)
  have C4 := Lib.hid (fun w a ha hk => szInts_any x.entry (.slice ea x.entry.length ec) w a ha (h4.keep hk))
  have C5 := Lib.hid (fun w a ha hk => szInsS_any x.ins (.slice ia x.ins.length ic) w a ha (h5.keep hk))
  have X0 := Lib.hid (Box5.new w (.slice ga x.globals.length gc) (.slice la x.locks.length lc) (.slice pa x.procs.length pc) (.slice ea x.entry.length ec) (.slice ia x.ins.length ic) 26)
  clear h1 h2 h3 h4 h5
  have HE : Hid (szK x = (x.globals.length + szB x.globals) + ((x.locks.length + szB x.locks) + ((x.procs.length + szB x.procs) + (x.entry.length + (x.ins.length + szIs x.ins))))) := rfl
  generalize szK x = n at HE
  generalize x.globals.length + szB x.globals = n1 at HE C1
  generalize x.locks.length + szB x.locks = n2 at HE C2
  generalize x.procs.length + szB x.procs = n3 at HE C3
  obtain ⟨n4, hn4⟩ : ∃ m, m = x.entry.length := ⟨_, rfl⟩
  rw [← hn4] at HE
  have C4b : Hid (∀ (w1 : World) (a : Nat), a ≤ 1048576 → Keeps w w1 → Calls Try.prog 10 #[.slice ea x.entry.length ec, .int .i64 (a : Int)] w1 fun e w' => e = .returned (.int .i64 (leftR a n4)) ∧ w1 = w') := by
    show ∀ (w1 : World) (a : Nat), _
    rw [hn4]
    exact C4.out
  clear C4 hn4
  generalize x.ins.length + szIs x.ins = n5 at HE C5
  obtain rfl := HE.out
  clear HE
  have B0 := Lib.hid ((Below.refl w.heap.size w).alloc (Nat.le_refl _) (.cells #[.slice ga x.globals.length gc, .slice la x.locks.length lc, .slice pa x.procs.length pc, .slice ea x.entry.length ec, .slice ia x.ins.length ic] 26))
  go_enter Try.func4, Try.ntmps4
  go_wp2_with fail
  refine (C1.out _ a ha (keeps_alloc _ _)).mono ?_
  rintro e1 w1 ⟨rfl, rfl⟩
  obtain ⟨p0, p1, p2, p3, p4⟩ := X0.out
  by_cases hle0 : n1 ≤ a
  · have HS1 : Hid (leftR a (n1 + (n2 + (n3 + (n4 + n5)))) = leftR (a - n1) (n2 + (n3 + (n4 + n5)))) := leftR_step hle0
    have ha2 : a - n1 ≤ 1048576 := by omega
    rw [leftR_yes hle0]
    generalize a - n1 = a2 at HS1 ha2
    go_wp2_with fail
    refine (C2.out _ a2 ha2 (keeps_alloc _ _)).mono ?_
    rintro e2 w2 ⟨rfl, rfl⟩
    by_cases hle1 : n2 ≤ a2
    · have HS2 : Hid (leftR a (n1 + (n2 + (n3 + (n4 + n5)))) = leftR (a2 - n2) (n3 + (n4 + n5))) := by show _ = _; rw [HS1.out]; exact leftR_step hle1
      have ha3 : a2 - n2 ≤ 1048576 := by omega
      rw [leftR_yes hle1]
      generalize a2 - n2 = a3 at HS2 ha3
      go_wp2_with fail
      refine (C3.out _ a3 ha3 (keeps_alloc _ _)).mono ?_
      rintro e3 w3 ⟨rfl, rfl⟩
      by_cases hle2 : n3 ≤ a3
      · have HS3 : Hid (leftR a (n1 + (n2 + (n3 + (n4 + n5)))) = leftR (a3 - n3) (n4 + n5)) := by show _ = _; rw [HS2.out]; exact leftR_step hle2
        have ha4 : a3 - n3 ≤ 1048576 := by omega
        rw [leftR_yes hle2]
        generalize a3 - n3 = a4 at HS3 ha4
        go_wp2_with fail
        refine (C4b.out _ a4 ha4 (keeps_alloc _ _)).mono ?_
        rintro e4 w4 ⟨rfl, rfl⟩
        by_cases hle3 : n4 ≤ a4
        · have HS4 : Hid (leftR a (n1 + (n2 + (n3 + (n4 + n5)))) = leftR (a4 - n4) (n5)) := by show _ = _; rw [HS3.out]; exact leftR_step hle3
          have ha5 : a4 - n4 ≤ 1048576 := by omega
          rw [leftR_yes hle3]
          generalize a4 - n4 = a5 at HS4 ha5
          go_wp2_with fail
          refine (C5.out _ a5 ha5 (keeps_alloc _ _)).mono ?_
          rintro e5 w5 ⟨rfl, hb5⟩
          have B5 := Lib.hid (below_box1 hb5)
          clear hb5
          by_cases hle : n5 ≤ a5
          · have HL := Lib.hid (leftR_yes hle)
            rw [leftR_yes hle]
            go_wp2
            go_ret
            exact ⟨by rw [HS4.out, HL.out]; rfl, B5.out⟩
          · have HL := Lib.hid (leftR_no (a := a5) (n := n5) (by omega))
            rw [HL.out]
            go_wp2
            go_ret
            exact ⟨by rw [HS4.out, HL.out]; rfl, B5.out⟩
        · have HL := Lib.hid (leftR_no (a := a4) (n := n4) (by omega))
          have HS2 : Hid (leftR a (n1 + (n2 + (n3 + (n4 + n5)))) = -1) := by show _ = _; rw [HS3.out]; exact leftR_no (by omega)
          rw [HL.out]
          go_wp2
          go_ret
          exact ⟨by rw [HS2.out]; rfl, B0.out⟩
      · have HL := Lib.hid (leftR_no (a := a3) (n := n3) (by omega))
        have HS2 : Hid (leftR a (n1 + (n2 + (n3 + (n4 + n5)))) = -1) := by show _ = _; rw [HS2.out]; exact leftR_no (by omega)
        rw [HL.out]
        go_wp2
        go_ret
        exact ⟨by rw [HS2.out]; rfl, B0.out⟩
    · have HL := Lib.hid (leftR_no (a := a2) (n := n2) (by omega))
      have HS2 : Hid (leftR a (n1 + (n2 + (n3 + (n4 + n5)))) = -1) := by show _ = _; rw [HS1.out]; exact leftR_no (by omega)
      rw [HL.out]
      go_wp2
      go_ret
      exact ⟨by rw [HS2.out]; rfl, B0.out⟩
  · have HL := Lib.hid (leftR_no (a := a) (n := n1) (by omega))
    have HS2 : Hid (leftR a (n1 + (n2 + (n3 + (n4 + n5)))) = -1) := leftR_no (by omega)
    rw [HL.out]
    go_wp2
    go_ret
    exact ⟨by rw [HS2.out]; rfl, B0.out⟩
end Go.Proofs.Ytofmccihehalcaa.Trm
/- The laws' copies of instructions and codes, walked. Conditions: they lie in memory, at most 2 to the 20 in all. -/
namespace Go.Proofs.Ytofmccihehalcaa.Trm
open Go.RowKit Go.Proofs.Ytofmccihehalcaa.Own
theorem infoIns : (Try.prog.info? 57).map (fun i => (i.zero, i.size, i.bytes)) = some (some (.agg #[.int .i64 0, .int .i64 0, .int .i64 0, .int .i64 0, .string ⟨#[]⟩, .slice none 0 0, .int .i64 0]), 7, 80) := by kernel_rfl
theorem kcell_of_row (w : World) (b i : Nat) (cells : Array Value) (e : TypeId) (z : Nat × Nat) (h : w.heap[b]? = some (.cells cells e z)) : w.cell? ⟨b, i, none⟩ = cells[i]? := by
  simp [World.cell?, h]
theorem below_set {B : Nat} {w w' : World} {q i : Nat} {v : Value} (h : Below B w w') (hq : B ≤ q) : Below B w (w'.setCell ⟨q, i, none⟩ v) := h.setCell hq v
theorem ktop_at (w : World) (o : Obj) (k : Nat) (h : k = w.heap.size) : (w.alloc o).heap[k]? = some o := by subst h; exact heap_alloc_new w o
/-- An instruction's block of seven cells, known whole. -/
def Row7 (w : World) (b : Nat) (c0 c1 c2 c3 c4 c5 c6 : Value) : Prop := w.heap[b]? = some (.cells #[c0, c1, c2, c3, c4, c5, c6] 57 (0, 0))
theorem Row7.cells {w : World} {b : Nat} {c0 c1 c2 c3 c4 c5 c6 : Value} (h : Row7 w b c0 c1 c2 c3 c4 c5 c6) : Box7 w b c0 c1 c2 c3 c4 c5 c6 := by
  unfold Row7 at h
  refine ⟨?_, ?_, ?_, ?_, ?_, ?_, ?_⟩ <;> (rw [kcell_of_row w b _ _ _ _ h]; rfl)
theorem Row7.free {w : World} {b : Nat} {c0 c1 c2 c3 c4 c5 c6 : Value} (h : Row7 w b c0 c1 c2 c3 c4 c5 c6) (j : Nat) : w.frozen? ⟨b, j, none⟩ = false := frozen_of_row w b j _ _ h
theorem Row7.below {w w' : World} {b B : Nat} {c0 c1 c2 c3 c4 c5 c6 : Value} (h : Row7 w b c0 c1 c2 c3 c4 c5 c6) (hb : Below B w w') (hlt : b < B) : Row7 w' b c0 c1 c2 c3 c4 c5 c6 := (hb.block b hlt).trans h
theorem row_some7 {w : World} {lo : Nat} {e : TypeId} {g cap n j : Nat} {xs : List Value} (h : w.ownsRow lo e 7 (.slice (some ⟨g, 0, none⟩) n cap) n xs) (hj : j < n * 7) : ∃ u, w.cell? ⟨g, j, none⟩ = some u := by
  refine ⟨xs[j]'(by rw [h.1]; exact hj), ?_⟩
  rw [h.cellAt j hj]; simp
theorem set7 : ∀ (ys : List Value) (z0 z1 z2 z3 z4 z5 z6 v0 v1 v2 v3 v4 v5 v6 : Value) (r : List Value) (j : Nat), ys.length = j → (((((((ys ++ z0 :: z1 :: z2 :: z3 :: z4 :: z5 :: z6 :: r).set (j) v0).set (j + 1) v1).set (j + 2) v2).set (j + 3) v3).set (j + 4) v4).set (j + 5) v5).set (j + 6) v6 = ys ++ [v0, v1, v2, v3, v4, v5, v6] ++ r
  | [], _, _, _, _, _, _, _, _, _, _, _, _, _, _, _, _, h => by subst h; rfl
  | y :: ys, z0, z1, z2, z3, z4, z5, z6, v0, v1, v2, v3, v4, v5, v6, r, j, h => by
    subst h
    have e := set7 ys z0 z1 z2 z3 z4 z5 z6 v0 v1 v2 v3 v4 v5 v6 r ys.length rfl
    simp only [List.cons_append, List.length_cons, List.set_cons_succ, Nat.add_right_comm _ 1] at e ⊢
    rw [e]
theorem row_put7 {w : World} {lo : Nat} {e : TypeId} {g cap n k : Nat} {ys zs : List Value} (h : w.ownsRow lo e 7 (.slice (some ⟨g, 0, none⟩) n cap) n (ys ++ zs)) (hy : ys.length = k * 7) (hk : k < n) (v0 v1 v2 v3 v4 v5 v6 : Value) :
    ∃ zs2, ((((((((w).setCell ⟨g, k * 7, none⟩ v0).setCell ⟨g, k * 7 + 1, none⟩ v1).setCell ⟨g, k * 7 + 2, none⟩ v2).setCell ⟨g, k * 7 + 3, none⟩ v3).setCell ⟨g, k * 7 + 4, none⟩ v4).setCell ⟨g, k * 7 + 5, none⟩ v5).setCell ⟨g, k * 7 + 6, none⟩ v6).ownsRow lo e 7 (.slice (some ⟨g, 0, none⟩) n cap) n (ys ++ [v0, v1, v2, v3, v4, v5, v6] ++ zs2) ∧
      w.grownBy ((((((((w).setCell ⟨g, k * 7, none⟩ v0).setCell ⟨g, k * 7 + 1, none⟩ v1).setCell ⟨g, k * 7 + 2, none⟩ v2).setCell ⟨g, k * 7 + 3, none⟩ v3).setCell ⟨g, k * 7 + 4, none⟩ v4).setCell ⟨g, k * 7 + 5, none⟩ v5).setCell ⟨g, k * 7 + 6, none⟩ v6) (some g) := by
  have hl := h.1
  rw [List.length_append, hy] at hl
  obtain ⟨z0, z1, z2, z3, z4, z5, z6, r, rfl⟩ : ∃ z0 z1 z2 z3 z4 z5 z6 r, zs = z0 :: z1 :: z2 :: z3 :: z4 :: z5 :: z6 :: r := by
    match zs, hl with
    | z0 :: z1 :: z2 :: z3 :: z4 :: z5 :: z6 :: r, _ => exact ⟨z0, z1, z2, z3, z4, z5, z6, r, rfl⟩
    | [], hl => exact absurd hl (by simp; omega)
    | [_], hl => exact absurd hl (by simp; omega)
    | [_, _], hl => exact absurd hl (by simp; omega)
    | [_, _, _], hl => exact absurd hl (by simp; omega)
    | [_, _, _, _], hl => exact absurd hl (by simp; omega)
    | [_, _, _, _, _], hl => exact absurd hl (by simp; omega)
    | [_, _, _, _, _, _], hl => exact absurd hl (by simp; omega)
  have a0 := h.stored (k * 7) v0
  have a1 := a0.1.stored (k * 7 + 1) v1
  have a2 := a1.1.stored (k * 7 + 2) v2
  have a3 := a2.1.stored (k * 7 + 3) v3
  have a4 := a3.1.stored (k * 7 + 4) v4
  have a5 := a4.1.stored (k * 7 + 5) v5
  have a6 := a5.1.stored (k * 7 + 6) v6
  refine ⟨r, ?_, a0.2.trans (a1.2.trans (a2.2.trans (a3.2.trans (a4.2.trans (a5.2.trans (a6.2))))))⟩
  have := a6.1
  rw [set7 ys z0 z1 z2 z3 z4 z5 z6 v0 v1 v2 v3 v4 v5 v6 r (k * 7) hy] at this
  exact this
set_option maxRecDepth 20000 in
set_option maxHeartbeats 1600000 in
/-- A copy of one instruction: its term in blocks of its own. -/
theorem toIns_any (x : InsT) (v : Value) (w : World) (hz : szI x ≤ 1048576) (hl : ILies w x v) :
    Calls Try.prog 26 #[v] w fun e w' => ∃ kv l m, e = .returned (aggI x kv) ∧ w.heap.size ≤ l ∧ m ≤ w'.heap.size ∧ Owns w' l m x.term (aggT x.term kv) ∧ Below w.heap.size w w' := by
  obtain ⟨_, _, _, ta, tc, rfl, h5⟩ := hl
  have CT := Lib.hid (fun w hk => toTerm_any x.term _ w hz (h5.keep hk))
  obtain ⟨W, hW⟩ : ∃ W, W = ((w.alloc (.cells #[.int .i64 x.op, .int .i64 x.arg, .int .i64 x.term.kind, .int .i64 x.term.num, .string x.term.name, .slice ta x.term.kids.length tc, .int .i64 x.to] 51)).alloc (.cells #[.int .i64 0, .int .i64 0, .int .i64 0, .int .i64 0, .string ⟨#[]⟩, .slice none 0 0, .int .i64 0] 57)).alloc (.cells #[.int .i64 x.op, .int .i64 x.arg, .int .i64 0, .int .i64 0, .string ⟨#[]⟩, .slice none 0 0, .int .i64 0] 57) := ⟨_, rfl⟩
  have hWs : W.heap.size = w.heap.size + 1 + 1 + 1 := by rw [hW]; simp
  have kW : Keeps w W := by rw [hW]; exact ((keeps_alloc _ _).trans (keeps_alloc _ _)).trans (keeps_alloc _ _)
  have bW : Below w.heap.size w W := by rw [hW]; exact (((Below.refl _ _).alloc (Nat.le_refl _) _).alloc (by simp) _).alloc (by simp; omega) _
  have XW : Box7 W w.heap.size (.int .i64 x.op) (.int .i64 x.arg) (.int .i64 x.term.kind) (.int .i64 x.term.num) (.string x.term.name) (.slice ta x.term.kids.length tc) (.int .i64 x.to) := by
    rw [hW]
    exact (Box7.new w _ _ _ _ _ _ _ _).keep ((keeps_alloc _ _).trans (keeps_alloc _ _))
  have RW : Row7 W (w.heap.size + 1) (.int .i64 0) (.int .i64 0) (.int .i64 0) (.int .i64 0) (.string ⟨#[]⟩) (.slice none 0 0) (.int .i64 0) := by
    rw [hW]
    exact (heap_alloc_old _ _ (by simp)).trans (ktop_at _ _ _ (by simp))
  have OW : Row7 W (w.heap.size + 1 + 1) (.int .i64 x.op) (.int .i64 x.arg) (.int .i64 0) (.int .i64 0) (.string ⟨#[]⟩) (.slice none 0 0) (.int .i64 0) := by
    rw [hW]
    exact ktop_at _ _ _ (by simp)
  have HW := Lib.hid hW
  have HWs := Lib.hid hWs
  have KW := Lib.hid kW
  have BW := Lib.hid bW
  have XW' := Lib.hid XW
  have RW' := Lib.hid RW
  have OW' := Lib.hid OW
  clear h5 hz hW hWs kW bW XW RW OW
  go_enter Try.func26, Try.ntmps26
  go_wp2_with fail
  rw [← HW.out]
  refine (CT.out W KW.out).mono ?_
  rintro e1 w1 ⟨v1, rfl, ho1, hb1⟩
  obtain ⟨va, vc, rfl⟩ := ho1.shape
  have HO1 := Lib.hid ho1
  have HB1 := Lib.hid hb1
  have X1 := Lib.hid (XW'.out.keep (keeps_below hb1))
  have R1 := Lib.hid (RW'.out.below hb1 (by rw [HWs.out]; omega))
  have O1 := Lib.hid (OW'.out.below hb1 (by rw [HWs.out]; omega))
  have hsw1 : w.heap.size + 1 + 1 + 1 ≤ w1.heap.size := by have := hb1.size; rw [HWs.out] at this; exact this
  obtain ⟨x0, x1, x2, x3, x4, x5, x6⟩ := X1.out
  obtain ⟨o0, o1, o2, o3, o4, o5, o6⟩ := O1.out.cells
  obtain ⟨r0, r1, r2, r3, r4, r5, r6⟩ := R1.out.cells
  have f0 := O1.out.free 0
  have g0 := R1.out.free 0
  have f1 := O1.out.free 1
  have g1 := R1.out.free 1
  have f2 := O1.out.free 2
  have g2 := R1.out.free 2
  have f3 := O1.out.free 3
  have g3 := R1.out.free 3
  have f4 := O1.out.free 4
  have g4 := R1.out.free 4
  have f5 := O1.out.free 5
  have g5 := R1.out.free 5
  have f6 := O1.out.free 6
  have g6 := R1.out.free 6
  clear ho1 hb1
  go_wp2
  refine bodyPost_ret (v := aggI x (.slice va x.term.kids.length vc)) (by simp [results, Try.results26, go_sem, aggI, r0, r1, r2, r3, r4, r5, r6]) rfl ⟨_, W.heap.size, w1.heap.size, rfl, by rw [HWs.out]; omega, by simp, ?_, ?_⟩
  · refine Owns.same (fun q h1 h2 => ?_) HO1.out
    rw [HWs.out] at h1
    iterate 12 rw [heap_setCell_other _ _ _ _ (by simp; omega)]
  · exact below_set (below_set (below_set (below_set (below_set (below_set (below_set (below_set (below_set (below_set (below_set (below_set (BW.out.trans (HB1.out.mono BW.out.size)) (by omega)) (by omega)) (by omega)) (by omega)) (by omega)) (by omega)) (by omega)) (by omega)) (by omega)) (by omega)) (by omega)) (by omega)

set_option maxHeartbeats 1600000 in
theorem toInsS_any (xs : List InsT) (v : Value) (w : World) (hsz : xs.length + szIs xs ≤ 1048576) (hl : IsAt w v xs) :
    Calls Try.prog 17 #[v] w fun e w' => ∃ kv cs, e = .returned kv ∧ w'.ownsRow w.heap.size 57 7 kv xs.length cs ∧ (∀ b, kv.ownBlock = some b → b = w.heap.size) ∧ IOwnL w' (fun b => b ≤ w.heap.size) w.heap.size w'.heap.size xs cs ∧ Below w.heap.size w w' := by
  obtain ⟨hlen0, aa, cap, rfl, hk⟩ := hl
  obtain ⟨i0, hi, hz0, hz1, hz2⟩ := info_parts infoIns
  have HK := Lib.hid hk
  have HZ := Lib.hid hsz
  have hlen : xs.length ≤ 1048576 := by omega
  clear hk hsz hlen0
  go_enter Try.func17, Try.ntmps17
  go_wp2_with (at_make; refine wpList_make_full _ rfl (.tmp 6) (.tmp 6) 29 rfl w.heap.size 57 i0 _ 7 Try.underlying29 hi hz0 hz1 .i64 .i64 _ _ xs.length rfl rfl rfl rfl (by rw [hz2]; omega) (by unfold maxLen; omega) (Nat.le_refl _) ?_)
  intro w1 hown hg
  have HO := Lib.hid hown
  have HG := Lib.hid hg
  clear hown hg
  go_wp2
  go_loopw [4] (fun i wr => ∃ (k : Nat) (ys zs : List Value), k ≤ xs.length ∧ i = .int .i64 k ∧ Hid (ys.length = k * 7) ∧ Hid (wr.ownsRow w.heap.size 57 7 (.slice (some ⟨w.heap.size, 0, none⟩) xs.length xs.length) xs.length (ys ++ zs)) ∧ Hid (IOwnL wr (fun b => b ≤ w.heap.size) w.heap.size wr.heap.size (xs.take k) ys) ∧ Hid (Below w.heap.size w wr))
    (fun i _ => xs.length - (intOf i).toNat)
  case atStart => exact ⟨0, [], _, Nat.zero_le _, rfl, rfl, HO.out, ⟨rfl, Nat.le_of_lt (HO.out.lt _ rfl).2⟩, below_noneL HG.out⟩
  case round =>
    obtain ⟨k, ys, zs, hk, rfl, hy, hrow, hol, hbe⟩ := hrel
    by_cases hlt : k < xs.length
    · obtain ⟨g, o, rfl, hl⟩ := HK.out (by omega)
      obtain ⟨i0, i1, i2, ba, bc, c0, c1, c2, c3, c4, c5, c6, hl2⟩ := (hl k hlt).keep (keeps_below hbe.out)
      have C := Lib.hid (toIns_any xs[k] _ wr (by have := szIs_mem (List.getElem_mem hlt); have := HZ.out; omega) ⟨i0, i1, i2, ba, bc, rfl, hl2⟩)
      have I0 := Lib.hid i0
      have I1 := Lib.hid i1
      have I2 := Lib.hid i2
      clear hl hl2 i0 i1 i2
      go_wp2_with fail
      refine C.out.mono ?_
      rintro e w2 ⟨kv, l, m, rfl, hle, hme, how, hb2⟩
      obtain ⟨va, vc, e3⟩ := how.shape
      obtain rfl := aggT_of e3
      have HOw := Lib.hid how
      have HB2 := Lib.hid hb2
      have R2 := Lib.hid (row_below hrow.out hb2)
      clear how hb2 e3 c0 c1 c2 c3 c4 c5 c6
      unfold aggI
      have f0 := R2.out.frozenAt (k * 7)
      have f1 := R2.out.frozenAt (k * 7 + 1)
      have f2 := R2.out.frozenAt (k * 7 + 2)
      have f3 := R2.out.frozenAt (k * 7 + 3)
      have f4 := R2.out.frozenAt (k * 7 + 4)
      have f5 := R2.out.frozenAt (k * 7 + 5)
      have f6 := R2.out.frozenAt (k * 7 + 6)
      obtain ⟨u0, s0⟩ := row_some7 R2.out (j := k * 7) (by omega)
      obtain ⟨u1, s1⟩ := row_some7 R2.out (j := k * 7 + 1) (by omega)
      obtain ⟨u2, s2⟩ := row_some7 R2.out (j := k * 7 + 2) (by omega)
      obtain ⟨u3, s3⟩ := row_some7 R2.out (j := k * 7 + 3) (by omega)
      obtain ⟨u4, s4⟩ := row_some7 R2.out (j := k * 7 + 4) (by omega)
      obtain ⟨u5, s5⟩ := row_some7 R2.out (j := k * 7 + 5) (by omega)
      obtain ⟨u6, s6⟩ := row_some7 R2.out (j := k * 7 + 6) (by omega)
      obtain ⟨zs2, hr4, hg4⟩ := row_put7 R2.out hy.out hlt (.int .i64 xs[k].op) (.int .i64 xs[k].arg) (.int .i64 xs[k].term.kind) (.int .i64 xs[k].term.num) (.string xs[k].term.name) (.slice va xs[k].term.kids.length vc) (.int .i64 xs[k].to)
      have HR4 := Lib.hid hr4
      have HG4 := Lib.hid hg4
      clear hr4 hg4
      go_wp2
      go_roundw
      case rel =>
        refine ⟨k + 1, ys ++ cellsI xs[k] (.slice va xs[k].term.kids.length vc), zs2, by omega, by go_num, ?_, HR4.out, ?_, ?_⟩
        · show _ = _
          rw [List.length_append, hy.out]; simp [cellsI]; omega
        · have hlt0 : w.heap.size < wr.heap.size := (hrow.out.lt _ rfl).2
          have e1 : List.take (k + 1) xs = List.take k xs ++ [xs[k]] := List.take_succ_eq_append_getElem hlt
          rw [e1]
          have hs4 := HG4.out.size
          refine IOwnL.snoc (mid := wr.heap.size) (l := l) (m := m) (IOwnL.same (fun b h1 h2 h3 => ?_) hol.out) I0.out I1.out I2.out hle (by omega) (Owns.same (fun b h1 h2 => ?_) HOw.out) (fun b h1 h2 => by show ¬ b ≤ _; omega)
          · exact (HG4.out.block b (Nat.lt_of_lt_of_le h2 HB2.out.size) (by simp; omega)).trans (HB2.out.block b h2)
          · exact HG4.out.block b (by omega) (by simp; omega)
        · exact (hbe.out.trans (HB2.out.mono hbe.out.size)).grown HG4.out (Nat.le_trans hbe.out.size HB2.out.size) (fun b hb => by cases hb; exact Nat.le_refl _)
      case measure => simp [intOf]; omega
    · obtain rfl : k = xs.length := by omega
      have hz : zs = [] := List.eq_nil_of_length_eq_zero (by have := hrow.out.1; rw [List.length_append, hy.out] at this; omega)
      have HZS := Lib.hid hz
      clear hz
      go_wp2
      go_ret
      have h1 := hrow.out
      have h2 := hol.out
      rw [HZS.out, List.append_nil] at h1
      rw [List.take_length] at h2
      exact ⟨_, ys, rfl, h1, fun b hb => by cases hb; rfl, h2, hbe.out⟩
/-- A block of five cells. -/
def Row5 (w : World) (b : Nat) (c0 c1 c2 c3 c4 : Value) : Prop := w.heap[b]? = some (.cells #[c0, c1, c2, c3, c4] 31 (0, 0))
theorem Row5.cells {w : World} {b : Nat} {c0 c1 c2 c3 c4 : Value} (h : Row5 w b c0 c1 c2 c3 c4) : Box5 w b c0 c1 c2 c3 c4 := by
  unfold Row5 at h
  refine ⟨?_, ?_, ?_, ?_, ?_⟩ <;> (rw [kcell_of_row w b _ _ _ _ h]; rfl)
theorem Row5.free {w : World} {b : Nat} {c0 c1 c2 c3 c4 : Value} (h : Row5 w b c0 c1 c2 c3 c4) (j : Nat) : w.frozen? ⟨b, j, none⟩ = false := frozen_of_row w b j _ _ h
theorem Row5.below {w w' : World} {b B : Nat} {c0 c1 c2 c3 c4 : Value} (h : Row5 w b c0 c1 c2 c3 c4) (hb : Below B w w') (hlt : b < B) : Row5 w' b c0 c1 c2 c3 c4 := (hb.block b hlt).trans h
theorem Row5.other {w : World} {b q i : Nat} {v c0 c1 c2 c3 c4 : Value} (h : Row5 w b c0 c1 c2 c3 c4) (hn : b ≠ q) : Row5 (w.setCell ⟨q, i, none⟩ v) b c0 c1 c2 c3 c4 := (heap_setCell_other w _ b v hn).trans h
theorem Row5.put {w : World} {b i : Nat} {v c0 c1 c2 c3 c4 : Value} (h : Row5 w b c0 c1 c2 c3 c4) : (w.setCell ⟨b, i, none⟩ v).heap[b]? = some (.cells (#[c0, c1, c2, c3, c4].setIfInBounds i v) 31 (0, 0)) := heap_setCell_same w b i _ _ v h
/-- What lies from a block on stays. -/
def KStays (lo : Nat) (w w' : World) : Prop := w.heap.size ≤ w'.heap.size ∧ ∀ b, lo ≤ b → b < w.heap.size → w'.heap[b]? = w.heap[b]?
theorem KStays.of {lo : Nat} {w w' : World} (h : Below w.heap.size w w') : KStays lo w w' := ⟨h.size, fun b _ hb => h.block b hb⟩
theorem KStays.trans {lo : Nat} {w w' w'' : World} (h : KStays lo w w') (h2 : KStays lo w' w'') : KStays lo w w'' := ⟨Nat.le_trans h.1 h2.1, fun b h3 h4 => (h2.2 b h3 (Nat.lt_of_lt_of_le h4 h.1)).trans (h.2 b h3 h4)⟩
theorem KStays.set {lo : Nat} {w : World} {q i : Nat} {v : Value} (h : q < lo) : KStays lo w (w.setCell ⟨q, i, none⟩ v) := ⟨by simp, fun b h1 _ => heap_setCell_other w _ b v (by show b ≠ q; omega)⟩
theorem KStays.row {lo base : Nat} {w w' : World} {e : TypeId} {size : Nat} {v : Value} {n : Nat} {xs : List Value} (h : KStays lo w w') (hr : w.ownsRow base e size v n xs) (hl : lo ≤ base) : w'.ownsRow base e size v n xs := row_same hr (fun b hb => h.2 b (Nat.le_trans hl (hr.lt b hb).1) (hr.lt b hb).2)
set_option maxRecDepth 20000 in
set_option maxHeartbeats 3200000 in
theorem toCode_any (x : KTree) (v : Value) (w : World) (hz : szK x ≤ 1048576) (hl : KLies w x v) :
    Calls Try.prog 6 #[v] w fun e w' => ∃ u, e = .returned u ∧ KOwn w' w.heap.size x u ∧ Below w.heap.size w w' := by
  obtain ⟨ga, gc, la, lc, pa, pc, ea, ec, ia, ic, rfl, h1, h2, h3, h4, h5⟩ := hl
  unfold szK at hz
  have C1 := Lib.hid (fun w hk => toStrings_any x.globals (.slice ga x.globals.length gc) w (h1.1.keep hk) (by omega))
  have C2 := Lib.hid (fun w hk => toStrings_any x.locks (.slice la x.locks.length lc) w (h2.1.keep hk) (by omega))
  have C3 := Lib.hid (fun w hk => toStrings_any x.procs (.slice pa x.procs.length pc) w (h3.1.keep hk) (by omega))
  have C4 := Lib.hid (fun w hk => toInts_any x.entry (.slice ea x.entry.length ec) w (h4.keep hk) (by omega))
  have C5 := Lib.hid (fun w hk => toInsS_any x.ins (.slice ia x.ins.length ic) w (by omega) (h5.keep hk))
  have N1 := Lib.hid h1.2
  have N2 := Lib.hid h2.2
  have N3 := Lib.hid h3.2
  have N4 : Hid (∀ y, y ∈ x.entry → InI y) := by obtain ⟨_, _, _, _, h, _⟩ := h4; exact h
  obtain ⟨W, hW⟩ : ∃ W, W = ((w.alloc (.cells #[.slice ga x.globals.length gc, .slice la x.locks.length lc, .slice pa x.procs.length pc, .slice ea x.entry.length ec, .slice ia x.ins.length ic] 26)).alloc (.cells #[.slice none 0 0, .slice none 0 0, .slice none 0 0, .slice none 0 0, .slice none 0 0] 31)).alloc (.cells #[.slice none 0 0, .slice none 0 0, .slice none 0 0, .slice none 0 0, .slice none 0 0] 31) := ⟨_, rfl⟩
  have hWs : W.heap.size = w.heap.size + 1 + 1 + 1 := by rw [hW]; simp
  have kW : Keeps w W := by rw [hW]; exact ((keeps_alloc _ _).trans (keeps_alloc _ _)).trans (keeps_alloc _ _)
  have bW : Below w.heap.size w W := by rw [hW]; exact (((Below.refl _ _).alloc (Nat.le_refl _) _).alloc (by simp) _).alloc (by simp; omega) _
  have XW : Box5 W w.heap.size (.slice ga x.globals.length gc) (.slice la x.locks.length lc) (.slice pa x.procs.length pc) (.slice ea x.entry.length ec) (.slice ia x.ins.length ic) := by
    rw [hW]
    exact (Box5.new w _ _ _ _ _ _).keep ((keeps_alloc _ _).trans (keeps_alloc _ _))
  have RW : Row5 W (w.heap.size + 1) (.slice none 0 0) (.slice none 0 0) (.slice none 0 0) (.slice none 0 0) (.slice none 0 0) := by
    rw [hW]
    exact (heap_alloc_old _ _ (by simp)).trans (ktop_at _ _ _ (by simp))
  have OW : Row5 W (w.heap.size + 1 + 1) (.slice none 0 0) (.slice none 0 0) (.slice none 0 0) (.slice none 0 0) (.slice none 0 0) := by
    rw [hW]
    exact ktop_at _ _ _ (by simp)
  have HW := Lib.hid hW
  have K0 := Lib.hid kW
  have B0 := Lib.hid bW
  have X0 := Lib.hid XW
  have R0 := Lib.hid RW
  have O0 := Lib.hid OW
  have hs0 : w.heap.size + 1 + 1 + 1 ≤ W.heap.size := by omega
  clear h1 h2 h3 h4 h5 hz hW hWs kW bW XW RW OW
  go_enter Try.func6, Try.ntmps6
  go_wp2_with fail
  rw [← HW.out]
  obtain ⟨V0, hV0⟩ : ∃ V, V = W := ⟨_, rfl⟩
  have HV0 := Lib.hid hV0
  rw [← hV0] at K0 B0 X0 R0 O0 hs0 ⊢
  clear hV0
  refine (C1.out V0 K0.out).mono ?_
  rintro e1 y1 ⟨r1, rfl, ho, hb⟩
  obtain ⟨ga2, gc2, rfl, _⟩ := row_shape ho
  have P1 := Lib.hid ho
  have HB1 := Lib.hid hb
  have X1y := Lib.hid (X0.out.keep (keeps_below hb))
  have R1y := Lib.hid (R0.out.below hb (by omega))
  have O1y := Lib.hid (O0.out.below hb (by omega))
  have hy1 : V0.heap.size ≤ y1.heap.size := hb.size
  obtain ⟨x0, x1, x2, x3, x4⟩ := X1y.out
  obtain ⟨o0, o1, o2, o3, o4⟩ := O1y.out.cells
  have fr := O1y.out.free 0
  clear ho hb
  go_wp2_with fail
  obtain ⟨V1, hV⟩ : ∃ V, V = y1.setCell ⟨w.heap.size + 1 + 1, 0, none⟩ (.slice ga2 x.globals.length gc2) := ⟨_, rfl⟩
  rw [← hV]
  have S1 : Hid (KStays (w.heap.size + 1 + 1 + 1) V0 V1) := by rw [hV]; exact (KStays.of HB1.out).trans (KStays.set (by omega))
  have T1 : Hid (KStays (w.heap.size + 1 + 1 + 1) y1 V1) := by rw [hV]; exact KStays.set (by omega)
  have B1 : Hid (Below w.heap.size w V1) := by rw [hV]; exact (B0.out.trans (HB1.out.mono B0.out.size)).setCell (by simp; omega) _
  have O1 : Hid (Row5 V1 (w.heap.size + 1 + 1) (.slice ga2 x.globals.length gc2) (.slice none 0 0) (.slice none 0 0) (.slice none 0 0) (.slice none 0 0)) := by rw [hV]; exact Row5.put (i := 0) O1y.out
  have R1 : Hid (Row5 V1 (w.heap.size + 1) (.slice none 0 0) (.slice none 0 0) (.slice none 0 0) (.slice none 0 0) (.slice none 0 0)) := by rw [hV]; exact R1y.out.other (by omega)
  have X1 : Hid (Box5 V1 w.heap.size (.slice ga x.globals.length gc) (.slice la x.locks.length lc) (.slice pa x.procs.length pc) (.slice ea x.entry.length ec) (.slice ia x.ins.length ic)) := by
    have h : V1.heap[w.heap.size]? = y1.heap[w.heap.size]? := by rw [hV, heap_setCell_other _ _ _ _ (by simp; omega)]
    have hc : ∀ j, V1.cell? ⟨w.heap.size, j, none⟩ = y1.cell? ⟨w.heap.size, j, none⟩ := fun j => World.cell?_of_block h
    exact ⟨(hc 0).trans x0, (hc 1).trans x1, (hc 2).trans x2, (hc 3).trans x3, (hc 4).trans x4⟩
  have hs1 : V1.heap.size = y1.heap.size := by rw [hV]; simp
  have K1 := Lib.hid (keeps_below B1.out)
  clear hV x0 x1 x2 x3 x4 o0 o1 o2 o3 o4 fr
  refine (C2.out V1 K1.out).mono ?_
  rintro e2 y2 ⟨r2, rfl, ho, hb⟩
  obtain ⟨la2, lc2, rfl, _⟩ := row_shape ho
  have P2 := Lib.hid ho
  have HB2 := Lib.hid hb
  have X2y := Lib.hid (X1.out.keep (keeps_below hb))
  have R2y := Lib.hid (R1.out.below hb (by omega))
  have O2y := Lib.hid (O1.out.below hb (by omega))
  have hy2 : V1.heap.size ≤ y2.heap.size := hb.size
  obtain ⟨x0, x1, x2, x3, x4⟩ := X2y.out
  obtain ⟨o0, o1, o2, o3, o4⟩ := O2y.out.cells
  have fr := O2y.out.free 1
  clear ho hb
  go_wp2_with fail
  obtain ⟨V2, hV⟩ : ∃ V, V = y2.setCell ⟨w.heap.size + 1 + 1, 1, none⟩ (.slice la2 x.locks.length lc2) := ⟨_, rfl⟩
  rw [← hV]
  have S2 : Hid (KStays (w.heap.size + 1 + 1 + 1) V1 V2) := by rw [hV]; exact (KStays.of HB2.out).trans (KStays.set (by omega))
  have T2 : Hid (KStays (w.heap.size + 1 + 1 + 1) y2 V2) := by rw [hV]; exact KStays.set (by omega)
  have B2 : Hid (Below w.heap.size w V2) := by rw [hV]; exact (B1.out.trans (HB2.out.mono B1.out.size)).setCell (by simp; omega) _
  have O2 : Hid (Row5 V2 (w.heap.size + 1 + 1) (.slice ga2 x.globals.length gc2) (.slice la2 x.locks.length lc2) (.slice none 0 0) (.slice none 0 0) (.slice none 0 0)) := by rw [hV]; exact Row5.put (i := 1) O2y.out
  have R2 : Hid (Row5 V2 (w.heap.size + 1) (.slice none 0 0) (.slice none 0 0) (.slice none 0 0) (.slice none 0 0) (.slice none 0 0)) := by rw [hV]; exact R2y.out.other (by omega)
  have X2 : Hid (Box5 V2 w.heap.size (.slice ga x.globals.length gc) (.slice la x.locks.length lc) (.slice pa x.procs.length pc) (.slice ea x.entry.length ec) (.slice ia x.ins.length ic)) := by
    have h : V2.heap[w.heap.size]? = y2.heap[w.heap.size]? := by rw [hV, heap_setCell_other _ _ _ _ (by simp; omega)]
    have hc : ∀ j, V2.cell? ⟨w.heap.size, j, none⟩ = y2.cell? ⟨w.heap.size, j, none⟩ := fun j => World.cell?_of_block h
    exact ⟨(hc 0).trans x0, (hc 1).trans x1, (hc 2).trans x2, (hc 3).trans x3, (hc 4).trans x4⟩
  have hs2 : V2.heap.size = y2.heap.size := by rw [hV]; simp
  have K2 := Lib.hid (keeps_below B2.out)
  clear hV x0 x1 x2 x3 x4 o0 o1 o2 o3 o4 fr
  refine (C3.out V2 K2.out).mono ?_
  rintro e3 y3 ⟨r3, rfl, ho, hb⟩
  obtain ⟨pa2, pc2, rfl, _⟩ := row_shape ho
  have P3 := Lib.hid ho
  have HB3 := Lib.hid hb
  have X3y := Lib.hid (X2.out.keep (keeps_below hb))
  have R3y := Lib.hid (R2.out.below hb (by omega))
  have O3y := Lib.hid (O2.out.below hb (by omega))
  have hy3 : V2.heap.size ≤ y3.heap.size := hb.size
  obtain ⟨x0, x1, x2, x3, x4⟩ := X3y.out
  obtain ⟨o0, o1, o2, o3, o4⟩ := O3y.out.cells
  have fr := O3y.out.free 2
  clear ho hb
  go_wp2_with fail
  obtain ⟨V3, hV⟩ : ∃ V, V = y3.setCell ⟨w.heap.size + 1 + 1, 2, none⟩ (.slice pa2 x.procs.length pc2) := ⟨_, rfl⟩
  rw [← hV]
  have S3 : Hid (KStays (w.heap.size + 1 + 1 + 1) V2 V3) := by rw [hV]; exact (KStays.of HB3.out).trans (KStays.set (by omega))
  have T3 : Hid (KStays (w.heap.size + 1 + 1 + 1) y3 V3) := by rw [hV]; exact KStays.set (by omega)
  have B3 : Hid (Below w.heap.size w V3) := by rw [hV]; exact (B2.out.trans (HB3.out.mono B2.out.size)).setCell (by simp; omega) _
  have O3 : Hid (Row5 V3 (w.heap.size + 1 + 1) (.slice ga2 x.globals.length gc2) (.slice la2 x.locks.length lc2) (.slice pa2 x.procs.length pc2) (.slice none 0 0) (.slice none 0 0)) := by rw [hV]; exact Row5.put (i := 2) O3y.out
  have R3 : Hid (Row5 V3 (w.heap.size + 1) (.slice none 0 0) (.slice none 0 0) (.slice none 0 0) (.slice none 0 0) (.slice none 0 0)) := by rw [hV]; exact R3y.out.other (by omega)
  have X3 : Hid (Box5 V3 w.heap.size (.slice ga x.globals.length gc) (.slice la x.locks.length lc) (.slice pa x.procs.length pc) (.slice ea x.entry.length ec) (.slice ia x.ins.length ic)) := by
    have h : V3.heap[w.heap.size]? = y3.heap[w.heap.size]? := by rw [hV, heap_setCell_other _ _ _ _ (by simp; omega)]
    have hc : ∀ j, V3.cell? ⟨w.heap.size, j, none⟩ = y3.cell? ⟨w.heap.size, j, none⟩ := fun j => World.cell?_of_block h
    exact ⟨(hc 0).trans x0, (hc 1).trans x1, (hc 2).trans x2, (hc 3).trans x3, (hc 4).trans x4⟩
  have hs3 : V3.heap.size = y3.heap.size := by rw [hV]; simp
  have K3 := Lib.hid (keeps_below B3.out)
  clear hV x0 x1 x2 x3 x4 o0 o1 o2 o3 o4 fr
  refine (C4.out V3 K3.out).mono ?_
  rintro e4 y4 ⟨r4, rfl, ho, hb⟩
  obtain ⟨ea2, ec2, rfl, _⟩ := row_shape ho
  have P4 := Lib.hid ho
  have HB4 := Lib.hid hb
  have X4y := Lib.hid (X3.out.keep (keeps_below hb))
  have R4y := Lib.hid (R3.out.below hb (by omega))
  have O4y := Lib.hid (O3.out.below hb (by omega))
  have hy4 : V3.heap.size ≤ y4.heap.size := hb.size
  obtain ⟨x0, x1, x2, x3, x4⟩ := X4y.out
  obtain ⟨o0, o1, o2, o3, o4⟩ := O4y.out.cells
  have fr := O4y.out.free 3
  clear ho hb
  go_wp2_with fail
  obtain ⟨V4, hV⟩ : ∃ V, V = y4.setCell ⟨w.heap.size + 1 + 1, 3, none⟩ (.slice ea2 x.entry.length ec2) := ⟨_, rfl⟩
  rw [← hV]
  have S4 : Hid (KStays (w.heap.size + 1 + 1 + 1) V3 V4) := by rw [hV]; exact (KStays.of HB4.out).trans (KStays.set (by omega))
  have T4 : Hid (KStays (w.heap.size + 1 + 1 + 1) y4 V4) := by rw [hV]; exact KStays.set (by omega)
  have B4 : Hid (Below w.heap.size w V4) := by rw [hV]; exact (B3.out.trans (HB4.out.mono B3.out.size)).setCell (by simp; omega) _
  have O4 : Hid (Row5 V4 (w.heap.size + 1 + 1) (.slice ga2 x.globals.length gc2) (.slice la2 x.locks.length lc2) (.slice pa2 x.procs.length pc2) (.slice ea2 x.entry.length ec2) (.slice none 0 0)) := by rw [hV]; exact Row5.put (i := 3) O4y.out
  have R4 : Hid (Row5 V4 (w.heap.size + 1) (.slice none 0 0) (.slice none 0 0) (.slice none 0 0) (.slice none 0 0) (.slice none 0 0)) := by rw [hV]; exact R4y.out.other (by omega)
  have X4 : Hid (Box5 V4 w.heap.size (.slice ga x.globals.length gc) (.slice la x.locks.length lc) (.slice pa x.procs.length pc) (.slice ea x.entry.length ec) (.slice ia x.ins.length ic)) := by
    have h : V4.heap[w.heap.size]? = y4.heap[w.heap.size]? := by rw [hV, heap_setCell_other _ _ _ _ (by simp; omega)]
    have hc : ∀ j, V4.cell? ⟨w.heap.size, j, none⟩ = y4.cell? ⟨w.heap.size, j, none⟩ := fun j => World.cell?_of_block h
    exact ⟨(hc 0).trans x0, (hc 1).trans x1, (hc 2).trans x2, (hc 3).trans x3, (hc 4).trans x4⟩
  have hs4 : V4.heap.size = y4.heap.size := by rw [hV]; simp
  have K4 := Lib.hid (keeps_below B4.out)
  clear hV x0 x1 x2 x3 x4 o0 o1 o2 o3 o4 fr
  refine (C5.out V4 K4.out).mono ?_
  rintro e5 y5 ⟨r5, cs, rfl, ho, hob, hio, hb⟩
  obtain ⟨ia2, ic2, rfl, _⟩ := row_shape ho
  have P5 := Lib.hid ho
  have PB := Lib.hid hob
  have PI := Lib.hid hio
  have HB5 := Lib.hid hb
  have X5y := Lib.hid (X4.out.keep (keeps_below hb))
  have R5y := Lib.hid (R4.out.below hb (by omega))
  have O5y := Lib.hid (O4.out.below hb (by omega))
  have hy5 : V4.heap.size ≤ y5.heap.size := hb.size
  obtain ⟨x0, x1, x2, x3, x4⟩ := X5y.out
  obtain ⟨o0, o1, o2, o3, o4⟩ := O5y.out.cells
  have fr := O5y.out.free 4
  clear ho hb hob hio
  obtain ⟨r0, r1, r2, r3, r4⟩ := R5y.out.cells
  have g0 := R5y.out.free 0
  have g1 := R5y.out.free 1
  have g2 := R5y.out.free 2
  have g3 := R5y.out.free 3
  have g4 := R5y.out.free 4
  go_wp2
  refine bodyPost_ret (v := .agg #[.slice ga2 x.globals.length gc2, .slice la2 x.locks.length lc2, .slice pa2 x.procs.length pc2, .slice ea2 x.entry.length ec2, .slice ia2 x.ins.length ic2]) (by simp [results, Try.results6, go_sem, r0, r1, r2, r3, r4]) rfl ⟨_, rfl, ?_, ?_⟩
  · have S5 := KStays.of (lo := w.heap.size + 1 + 1 + 1) HB5.out
    have q1 := (((T1.out.trans S2.out).trans S3.out).trans S4.out).trans S5
    have q2 := ((T2.out.trans S3.out).trans S4.out).trans S5
    have q3 := (T3.out.trans S4.out).trans S5
    have q4 := T4.out.trans S5
    have a1 := q1.row P1.out (by omega)
    have a2 := q2.row P2.out (by omega)
    have a3 := q3.row P3.out (by omega)
    have a4 := q4.row P4.out (by omega)
    have l1 := P1.out.lt
    have l2 := P2.out.lt
    have l3 := P3.out.lt
    have l4 := P4.out.lt
    have l5 := P5.out.lt
    have l6 := PB.out
    refine KOwn.wide (lo := w.heap.size + 1 + 1 + 1) (by omega) (KOwn.same (w := y5) ⟨ga2, gc2, la2, lc2, pa2, pc2, ea2, ec2, ia2, ic2, cs, y5.heap.size, rfl, N1.out, N2.out, N3.out, N4.out, a1.mono (by omega), a2.mono (by omega), a3.mono (by omega), a4.mono (by omega), P5.out.mono (by omega), ?_, ?_, Nat.le_refl _⟩ ?_ (by simp))
    · refine ⟨fun b hb h => ?_, fun b hb h => ?_, fun b hb h => ?_, fun b hb h => ?_, fun b hb h => ?_, trivial⟩
      all_goals simp only [RowsOf, List.map_cons, List.map_nil, List.mem_cons, List.not_mem_nil, or_false] at h
      · have := l1 b hb
        rcases h with h | h | h | h
        · have := l2 b h.symm; omega
        · have := l3 b h.symm; omega
        · have := l4 b h.symm; omega
        · have := l5 b h.symm; omega
      · have := l2 b hb
        rcases h with h | h | h
        · have := l3 b h.symm; omega
        · have := l4 b h.symm; omega
        · have := l5 b h.symm; omega
      · have := l3 b hb
        rcases h with h | h
        · have := l4 b h.symm; omega
        · have := l5 b h.symm; omega
      · have := l4 b hb
        have := l5 b h.symm; omega
    · refine IOwnL.wideL (lo := V4.heap.size) (by omega) (IOwnL.reout (fun b h1 h2 h => ?_) PI.out)
      simp only [RowsOf, List.map_cons, List.map_nil, List.mem_cons, List.not_mem_nil, or_false] at h
      show b ≤ V4.heap.size
      rcases h with h | h | h | h | h
      · have := l1 b h.symm; omega
      · have := l2 b h.symm; omega
      · have := l3 b h.symm; omega
      · have := l4 b h.symm; omega
      · have := l6 b h.symm; omega
    · intro b h1 h2
      iterate 6 rw [heap_setCell_other _ _ _ _ (by simp; omega)]
  · exact below_set (below_set (below_set (below_set (below_set (below_set (B4.out.trans (HB5.out.mono B4.out.size)) (by omega)) (by omega)) (by omega)) (by omega)) (by omega)) (by omega)
end Go.Proofs.Ytofmccihehalcaa.Trm
/- The program's hasRightEntries, walked. Conditions: the code lies in memory; it has at most 1500 instructions. -/
namespace Go.Proofs.Ytofmccihehalcaa.Trm
open Go.RowKit Go.Proofs.Ytofmccihehalcaa.Own
theorem endsI_drop {ins : List InsT} {i : Nat} (h : i < ins.length) : endsI i (ins.drop i) = if ins[i].op = 9 then ((i + 1 : Nat) : Int) :: endsI (i + 1) (ins.drop (i + 1)) else endsI (i + 1) (ins.drop (i + 1)) := by rw [List.drop_eq_getElem_cons h, endsI]
theorem endsI_end {ins : List InsT} {i : Nat} (h : ins.length ≤ i) : endsI i (ins.drop i) = [] := by rw [List.drop_of_length_le h, endsI]
theorem endsI_len : ∀ (ins : List InsT) (k : Nat), (endsI k ins).length ≤ ins.length
  | [], k => by simp [endsI]
  | a :: r, k => by
    rw [endsI]
    have := endsI_len r (k + 1)
    split
    · simp only [List.length_cons]; omega
    · simp only [List.length_cons]; omega
/-- A row that was laid of one cell. -/
theorem row_lit1 (w : World) (x : Int) : (w.alloc (.cells #[.int .i64 x] 3)).ownsRow w.heap.size 3 1 (.slice (some ⟨w.heap.size, 0, none⟩) 1 1) 1 (intV [x]) := by
  refine ⟨rfl, .inr ⟨w.heap.size, 1, _, rfl, Nat.le_refl _, heap_alloc_new w _, Nat.le_refl _, by unfold maxLen; omega, ?_, ?_⟩⟩ <;> simp [intV]
noncomputable def entB (x : KTree) : Bool := decide (x.entry.length = x.procs.length) && @decide (EntOk x.entry x.ins) (Classical.propDecidable _)
set_option maxRecDepth 20000 in
set_option maxHeartbeats 3200000 in
theorem implEntries_any (x : KTree) (ga la pa ea ia : Option Addr) (gc lc pc ec ic n : Nat) (w : World) (h0 : 0 < x.procs.length) (he : IntsAt w x.entry (.slice ea x.entry.length ec)) (hI : IsAt w (.slice ia n ic) x.ins) (hn15 : n ≤ 1500) (hpl : x.procs.length ≤ 1048576) :
    Calls Try.prog 30 #[.agg #[.slice ga x.globals.length gc, .slice la x.locks.length lc, .slice pa x.procs.length pc, .slice ea x.entry.length ec, .slice ia n ic]] w fun e w' => e = .returned (.bool (entB x)) ∧ Below w.heap.size w w' := by
  obtain ⟨i0, hi, hz0, hz1, hz2⟩ := info_parts infoIntL
  obtain ⟨_, a2, c2, e2, hk5⟩ := hI
  simp at e2
  obtain ⟨rfl, hn, rfl⟩ := e2
  have HNL := Lib.hid hn
  have HI5 : Hid (0 < n → ∃ g o, ia = some ⟨g, o, none⟩ ∧ ∀ i (h : i < x.ins.length), IElem w g (o + i * 7) x.ins[i]) := fun h => hk5 (by omega)
  have HE := Lib.hid he
  have HB : Hid (entB x = (decide (x.entry.length = x.procs.length) && @decide (EntOk x.entry x.ins) (Classical.propDecidable _))) := rfl
  have HEN : Hid (0 < x.entry.length → (EntOk x.entry x.ins ↔ 0 :: endsI 0 x.ins = x.entry ++ [(n : Int)])) := fun h => by rw [hn]; exact entOk_iff h
  have HEL : Hid ((0 :: endsI 0 x.ins).length ≤ n + 1) := by show _ ≤ _; have := endsI_len x.ins 0; rw [List.length_cons]; omega
  have HP0 := Lib.hid h0
  have HPL := Lib.hid hpl
  generalize entB x = rr at HB
  obtain ⟨W1, hW1⟩ : ∃ W, W = (w.alloc (.cells #[.slice ga x.globals.length gc, .slice la x.locks.length lc, .slice pa x.procs.length pc, .slice ea x.entry.length ec, .slice ia n ic] 31)).alloc (.cells #[.int .i64 0] 3) := ⟨_, rfl⟩
  have hs1 : (w.alloc (.cells #[.slice ga x.globals.length gc, .slice la x.locks.length lc, .slice pa x.procs.length pc, .slice ea x.entry.length ec, .slice ia n ic] 31)).heap.size = w.heap.size + 1 := by simp
  have B1 : Hid (Below w.heap.size w W1) := by rw [hW1]; exact ((Below.refl w.heap.size w).alloc (Nat.le_refl _) _).alloc (by simp) _
  have R1 : Hid (W1.ownsRow (w.heap.size + 1) 3 1 (.slice (some ⟨w.heap.size + 1, 0, none⟩) 1 1) 1 (intV [0])) := by
    have := row_lit1 (w.alloc (.cells #[.slice ga x.globals.length gc, .slice la x.locks.length lc, .slice pa x.procs.length pc, .slice ea x.entry.length ec, .slice ia n ic] 31)) 0
    rw [hs1] at this
    rw [hW1]; exact this
  have Y0 := Lib.hid ((Box5.new w (.slice ga x.globals.length gc) (.slice la x.locks.length lc) (.slice pa x.procs.length pc) (.slice ea x.entry.length ec) (.slice ia n ic) 31).keep (keeps_alloc _ (.cells #[.int .i64 0] 3)))
  rw [← hW1] at Y0
  have HW1 := Lib.hid hW1
  clear he hk5 hn hW1 hs1 h0 hpl
  go_enter Try.func30, Try.ntmps30
  go_wp2_with fail
  rw [← HW1.out]
  obtain ⟨p0, p1, p2, p3, p4⟩ := Y0.out
  go_wp2_with fail
  clear p0 p1 p2 p3 p4
  go_loopw [3, 10] (fun b i wr => ∃ (j : Nat) (bs : List Int), j ≤ n ∧ i = .int .i64 j ∧ Hid (bs ++ endsI j (x.ins.drop j) = 0 :: endsI 0 x.ins) ∧ Hid (wr.ownsRow (w.heap.size + 1) 3 1 b bs.length (intV bs)) ∧ Hid (Box5 wr w.heap.size (.slice ga x.globals.length gc) (.slice la x.locks.length lc) (.slice pa x.procs.length pc) (.slice ea x.entry.length ec) (.slice ia n ic)) ∧ Hid (Below w.heap.size w wr))
    (fun _ i _ => n - (intOf i).toNat)
  case atStart => exact ⟨0, [0], Nat.zero_le _, rfl, rfl, R1.out, Y0.out, B1.out⟩
  case round =>
    obtain ⟨j, bs, hj, rfl, hbs, hrow, hbx, hbe⟩ := hrel
    obtain ⟨oa, oc, rfl, hoa⟩ := row_shape hrow.out
    have hsw : w.heap.size ≤ wr.heap.size := hbe.out.size
    have hsw1 : w.heap.size + 1 ≤ wr.heap.size := cell_lt hbx.out.1
    by_cases hlt : j < n
    · obtain ⟨g, o, rfl, hc⟩ := HI5.out (by omega)
      have hlt2 : j < x.ins.length := by have := HNL.out; omega
      obtain ⟨_, _, _, ta, tc, c0, c1, c2, c3, c4, c5, c6, _⟩ := (hc j hlt2).keep (keeps_below hbe.out)
      have hd := endsI_drop hlt2
      obtain ⟨y, hy⟩ : ∃ y, y = x.ins[j] := ⟨_, rfl⟩
      rw [← hy] at c0 c1 c2 c3 c4 c5 c6 hd
      have hbl : bs.length ≤ 1501 := by have h1 := congrArg List.length hbs.out; rw [List.length_append] at h1; have h2 := HEL.out; rw [← h1] at h2; omega
      have k1 := keeps_alloc wr (.cells #[.int .i64 y.op, .int .i64 y.arg, .int .i64 y.term.kind, .int .i64 y.term.num, .string y.term.name, .slice ta y.term.kids.length tc, .int .i64 y.to] 57)
      have Y2 : Hid (Box5 (wr.alloc (.cells #[.int .i64 y.op, .int .i64 y.arg, .int .i64 y.term.kind, .int .i64 y.term.num, .string y.term.name, .slice ta y.term.kids.length tc, .int .i64 y.to] 57)) w.heap.size (.slice ga x.globals.length gc) (.slice la x.locks.length lc) (.slice pa x.procs.length pc) (.slice ea x.entry.length ec) (.slice (some ⟨g, o, none⟩) n ic)) := hbx.out.keep k1
      have hj0 : (j : Int) ≤ 1500 := by omega
      have HRow := hrow
      obtain ⟨p0, p1, p2, p3, p4⟩ := hbx.out
      clear hc hy k1
      by_cases h9 : y.op = 9
      · rw [if_pos h9] at hd
        rw [h9] at Y2
        have HBS : Hid ((bs ++ [((j + 1 : Nat) : Int)]) ++ endsI (j + 1) (x.ins.drop (j + 1)) = 0 :: endsI 0 x.ins) := by show _ = _; rw [← hbs.out, hd, List.append_assoc]; rfl
        clear hd
        rw [h9] at c0
        go_wp2_with (at_builtin; refine wpList_append_lies _ rfl (.tmp 18) (.tmp 21) 23 rfl (w.heap.size + 1) 3 i0 (.int .i64 0) 1 8 Try.underlying23 hi hz0 hz1 hz2 rfl (by decide) (.slice oa bs.length oc) bs.length _ rfl ((HRow.out.alloc _).alloc _) ⟨wr.heap.size + 1, 0, none⟩ 1 1 [.int .i64 ((j : Int) + 1)] rfl rfl (World.news_of_block (ktop_at _ _ _ (by simp))) (one_intV [(j : Int) + 1]) (by decide) (by unfold maxLen; omega) (by omega) (by simp; omega) _ rfl ?_)
        intro g1 cap1 w1 hown1 hg1 hat1 hlt1
        have hnb : ∀ k, (Value.slice oa bs.length oc).ownBlock = some k → w.heap.size + 1 ≤ k := fun k hk => (HRow.out.lt k hk).1
        have HB1 : Hid (Below w.heap.size w w1) := ((hbe.out.alloc hsw _).alloc (by simp; omega) _).grown hg1 (by simp; omega) (fun k hk => by have := hnb k hk; omega)
        have HX1 : Hid (Box5 w1 w.heap.size (.slice ga x.globals.length gc) (.slice la x.locks.length lc) (.slice pa x.procs.length pc) (.slice ea x.entry.length ec) (.slice (some ⟨g, o, none⟩) n ic)) := by
          have hx := Y2.out.keep (keeps_alloc _ (.cells #[.int .i64 ((j : Int) + 1)] 3))
          have hblk : w1.heap[w.heap.size]? = ((wr.alloc (.cells #[.int .i64 9, .int .i64 y.arg, .int .i64 y.term.kind, .int .i64 y.term.num, .string y.term.name, .slice ta y.term.kids.length tc, .int .i64 y.to] 57)).alloc (.cells #[.int .i64 ((j : Int) + 1)] 3)).heap[w.heap.size]? := hg1.block _ (by simp; omega) (fun e => by have := hnb _ e.symm; omega)
          exact ⟨(World.cell?_of_block hblk).trans hx.1, (World.cell?_of_block hblk).trans hx.2.1, (World.cell?_of_block hblk).trans hx.2.2.1, (World.cell?_of_block hblk).trans hx.2.2.2.1, (World.cell?_of_block hblk).trans hx.2.2.2.2⟩
        have HR1 : Hid (w1.ownsRow (w.heap.size + 1) 3 1 (.slice (some ⟨g1, 0, none⟩) (bs.length + 1) cap1) (bs ++ [((j + 1 : Nat) : Int)]).length (intV (bs ++ [((j + 1 : Nat) : Int)]))) := by
          show World.ownsRow _ _ _ _ _ _ _
          have := hown1
          simpa [intV] using this
        clear hown1 hg1 hat1 hlt1 hnb p0 p1 p2 p3 p4 c0 c1 c2 c3 c4 c5 c6
        go_wp2
        go_roundw
        case rel => exact ⟨j + 1, bs ++ [((j + 1 : Nat) : Int)], by omega, by go_num, HBS.out, HR1.out, HX1.out, HB1.out⟩
        case measure => simp [intOf]; omega
      · rw [if_neg h9] at hd
        have HBS : Hid (bs ++ endsI (j + 1) (x.ins.drop (j + 1)) = 0 :: endsI 0 x.ins) := by show _ = _; rw [← hbs.out, hd]
        have h91 := ne_true h9
        clear hd h9
        go_wp2
        go_roundw
        case rel => exact ⟨j + 1, bs, by omega, by go_num, HBS.out, HRow.out.alloc _, Y2.out, hbe.out.alloc hsw _⟩
        case measure => simp [intOf]; omega
    · have HBS : Hid (bs = 0 :: endsI 0 x.ins) := by
        have h := hbs.out
        rw [endsI_end (by have := HNL.out; omega), List.append_nil] at h
        exact h
      obtain ⟨p0, p1, p2, p3, p4⟩ := hbx.out
      obtain ⟨w2, hw2⟩ : ∃ w0, w0 = wr := ⟨_, rfl⟩
      subst hw2
      by_cases hel : x.entry.length = x.procs.length
      · have HI := Lib.hid (HE.out.keep (keeps_below hbe.out))
        have hpos : 0 < x.entry.length := by rw [hel]; exact HP0.out
        have hel2 : (x.entry.length : Int) = (x.procs.length : Int) := by omega
        have HR : Hid (rr = decide (0 :: endsI 0 x.ins = x.entry ++ [(n : Int)])) := by
          show _ = _
          have h := HEN.out hpos
          rw [HB.out]
          by_cases hq : EntOk x.entry x.ins
          · simp [hel, hq, h.1 hq]
          · have h2 : ¬ (0 :: endsI 0 x.ins = x.entry ++ [(n : Int)]) := fun h3 => hq (h.2 h3)
            simp [hq, h2]
        have hle : x.entry.length ≤ 1048576 := by have := HPL.out; omega
        obtain ⟨a2, c2, e2, _, hin, hk⟩ := HI.out
        simp at e2
        obtain ⟨rfl, rfl⟩ := e2
        obtain ⟨g, o, rfl, _⟩ := hk hpos
        have HSRC := Lib.hid (src_ints HI.out hpos)
        have HIN := Lib.hid hin
        clear hk hin
        have HR2 : Hid (rr = decide (bs = x.entry ++ [(n : Int)])) := by show _ = _; rw [HR.out, HBS.out]
        have hbi : ∀ z, z ∈ bs → InI z := fun z hz => by
          rw [HBS.out] at hz
          have hq : z = 0 ∨ ∃ i : Nat, i < x.ins.length ∧ z = ((0 + i + 1 : Nat) : Int) := by
            rcases List.mem_cons.1 hz with h | h
            · exact .inl h
            · obtain ⟨i, h1, _, h2⟩ := (endsI_mem x.ins 0 z).1 h
              exact .inr ⟨i, h1, h2⟩
          have := HNL.out
          unfold InI
          rcases hq with rfl | ⟨i, h1, rfl⟩
          · omega
          · omega
        have HBI := Lib.hid (ints_of_row hrow.out hbi)
        have HX : Hid (IntsAt (w2.alloc (.cells #[.int .i64 (n : Int)] 3)) [(n : Int)] (.slice (some ⟨w2.heap.size, 0, none⟩) 1 1)) := ints_of_row (row_lit1 w2 n) (fun z hz => by rw [List.mem_singleton.1 hz]; unfold InI; omega)
        have HX2 : Hid (Box2 ((w2.alloc (.cells #[.int .i64 (n : Int)] 3)).alloc (.cells #[.slice (some ⟨g, o, none⟩) x.entry.length ec, .slice (some ⟨w2.heap.size, 0, none⟩) 1 1] 23)) (w2.heap.size + 1) (.slice (some ⟨g, o, none⟩) x.entry.length ec) (.slice (some ⟨w2.heap.size, 0, none⟩) 1 1)) := by
          have h := Box2.new (w2.alloc (.cells #[.int .i64 (n : Int)] 3)) (.slice (some ⟨g, o, none⟩) x.entry.length ec) (.slice (some ⟨w2.heap.size, 0, none⟩) 1 1) 23
          have hs : (w2.alloc (.cells #[.int .i64 (n : Int)] 3)).heap.size = w2.heap.size + 1 := by simp
          rw [hs] at h
          exact h
        have HEL3 := Lib.hid hel
        clear hbi HI
        go_wp2_with fail
        rw [← HEL3.out]
        clear hel hel2
        obtain ⟨W3, hW3⟩ : ∃ W, W = (w2.alloc (.cells #[.int .i64 (n : Int)] 3)).alloc (.cells #[.slice (some ⟨g, o, none⟩) x.entry.length ec, .slice (some ⟨w2.heap.size, 0, none⟩) 1 1] 23) := ⟨_, rfl⟩
        have b3 : Below w2.heap.size w2 W3 := by rw [hW3]; exact ((Below.refl _ _).alloc (Nat.le_refl _) _).alloc (by simp) _
        have k3 : Keeps (w2.alloc (.cells #[.int .i64 (n : Int)] 3)) W3 := by rw [hW3]; exact keeps_alloc _ _
        rw [← hW3] at HX2 ⊢
        have B3 := Lib.hid b3
        refine (implConcatI_any x.entry [(n : Int)] (some ⟨g, o, none⟩) (some ⟨w2.heap.size, 0, none⟩) ec 1 (w2.heap.size + 1) W3 hle (by simp) HX2.out.1 HX2.out.2 (HSRC.out.keep (keeps_below b3)) ((src_ints HX.out (by simp)).keep k3)).mono ?_
        clear b3 k3 hW3 HX HX2 HSRC
        rintro e w4 ⟨ov, rfl, hr4, hb4⟩
        have HI4 := Lib.hid (ints_of_row hr4 (fun z hz => by
          rcases List.mem_append.1 hz with h | h
          · exact HIN.out z h
          · rw [List.mem_singleton.1 h]; unfold InI; omega))
        have B4 := Lib.hid ((B3.out.trans (hb4.mono B3.out.size)))
        have HBE := Lib.hid hbe.out
        have HB4 := Lib.hid (HBI.out.keep (keeps_below B4.out))
        clear hr4 hb4
        generalize x.entry ++ [(n : Int)] = es2 at HR2 HI4
        go_wp2_with fail
        refine (implEqualI_any bs es2 _ _ w4 HB4.out HI4.out).mono ?_
        rintro e w5 ⟨rfl, hb5⟩
        have B5 := Lib.hid (HBE.out.trans ((B4.out.trans (hb5.mono B4.out.size)).mono HBE.out.size))
        clear hb5
        go_wp2
        go_ret
        exact ⟨ret_b (by rw [HR2.out]), B5.out⟩
      · have HF : Hid (rr = false) := by show _ = _; rw [HB.out]; simp [hel]
        have hel2 : ¬ (x.entry.length : Int) = (x.procs.length : Int) := by omega
        have hel3 := ne_true hel2
        clear hel
        go_wp2
        go_ret
        exact ⟨ret_b (by rw [HF.out]), hbe.out⟩
end Go.Proofs.Ytofmccihehalcaa.Trm
/- The program's hasTwice, walked. Conditions: the row lies in memory. -/
namespace Go.Proofs.Ytofmccihehalcaa.Trm
open Go.RowKit Go.Proofs.Ytofmccihehalcaa.Own
theorem implTwice_any (ns : List ByteArray) (nv : Value) (w : World) (h : StrsAt w ns nv) :
    Calls Try.prog 28 #[nv] w fun e w' => e = .returned (.bool (twiceB ns)) ∧ w = w' := by
  have CP := Lib.hid (fun s => implPlace_any ns s nv w h)
  obtain ⟨a, c, rfl, h1, h2⟩ := id h
  have HN := Lib.hid h2
  have HTY : Hid (∀ i (hi : i < ns.length), ns[i] ∈ ns.take i → twiceB ns = true) := fun i hi h => twiceB_yes h
  have HTN : Hid ((∀ i (hi : i < ns.length), ¬ ns[i] ∈ ns.take i) → twiceB ns = false) := twiceB_no
  generalize twiceB ns = tb at HTY HTN ⊢
  clear h2 h
  go_enter Try.func28, Try.ntmps28
  go_wp2
  go_loopw [7] (fun i wr => ∃ j : Nat, j ≤ ns.length ∧ i = .int .i64 j ∧ Hid (∀ k (hk : k < ns.length), k < j → ¬ ns[k] ∈ ns.take k) ∧ w = wr)
    (fun i _ => ns.length - (intOf i).toNat)
  case atStart => exact ⟨0, Nat.zero_le _, rfl, fun _ _ h => by omega, rfl⟩
  case round =>
    obtain ⟨j, hj, rfl, hno, rfl⟩ := hrel
    by_cases hlt : j < ns.length
    · obtain ⟨g, o, rfl, h3⟩ := HN.out (by omega)
      have c0 := h3 j hlt
      have CPJ := Lib.hid (CP.out ns[j])
      clear h3
      by_cases he : ns[j] ∈ ns.take j
      · have HT : Hid (tb = true) := HTY.out j hlt he
        have HX : Hid (∀ x, IdxI ns ns[j] x → x < (j : Int)) := fun x hx => by
          obtain ⟨k, hk, ek⟩ := List.getElem_of_mem he
          rw [List.getElem_take] at ek
          rw [List.length_take] at hk
          rcases hx with ⟨i, hi, rfl, _, hf⟩ | ⟨rfl, hf⟩
          · have : ¬ k < i := fun h => hf k (by omega) h ek
            omega
          · exact absurd ek (hf k (by omega))
        clear he
        generalize ns[j] = z at *
        go_wp2_with fail
        refine CPJ.out.mono ?_
        rintro e w2 ⟨x, rfl, hx, rfl⟩
        have hxj := HX.out x hx
        clear hx
        go_wp2_with fail
        go_ret
        exact ⟨by rw [HT.out]; rfl, rfl⟩
      · have HNO : Hid (∀ k (hk : k < ns.length), k < j + 1 → ¬ ns[k] ∈ ns.take k) := fun k hk h => by
          rcases Nat.lt_or_ge k j with h' | h'
          · exact hno.out k hk h'
          · have : k = j := by omega
            subst this; exact he
        have HX : Hid (∀ x, IdxI ns ns[j] x → ¬ x < (j : Int)) := fun x hx => by
          rcases hx with ⟨i, hi, rfl, ei, hf⟩ | ⟨rfl, hf⟩
          · intro hlt2
            refine he (List.mem_iff_getElem.2 ⟨i, ?_, ?_⟩)
            · rw [List.length_take]; omega
            · rw [List.getElem_take]; exact ei
          · exact absurd rfl (hf j hlt)
        clear he
        generalize ns[j] = z at *
        go_wp2_with fail
        refine CPJ.out.mono ?_
        rintro e w2 ⟨x, rfl, hx, rfl⟩
        have hxj := HX.out x hx
        clear hx
        go_wp2_with fail
        go_roundw
        case rel => exact ⟨j + 1, by omega, by go_num, HNO.out, by first | rfl | trivial⟩
        case measure => simp [intOf]; omega
    · have HF : Hid (tb = false) := HTN.out (fun k hk => hno.out k hk (by omega))
      go_wp2
      go_ret
      exact ⟨by rw [HF.out]; rfl, rfl⟩
end Go.Proofs.Ytofmccihehalcaa.Trm
/- The program's CodeOk, walked. Conditions: the code lies in memory; at most 2 to the 20 names and terms. -/
namespace Go.Proofs.Ytofmccihehalcaa.Trm
open Go.RowKit Go.Proofs.Ytofmccihehalcaa.Own
theorem okK_eq (x : KTree) (n : Nat) (hn : n = x.ins.length) : okK x = (decide (x.globals.length ≤ 6) && (decide (x.locks.length ≤ 6) && (decide (x.procs.length ≤ 8) && (decide (n ≤ 1500) && (nmsB x.globals && (!twiceB x.globals && (nmsB x.locks && (!twiceB x.locks && (nmsB x.procs && (!twiceB x.procs && (@decide (mainB ∈ x.procs) (Classical.propDecidable _) && (entB x && okIns x 0 x.ins)))))))))))) := by
  subst hn
  have e : kHeads x = (okNs x.globals 6 && (okNs x.locks 6 && (okNs x.procs 8 && (!twiceB x.globals && (!twiceB x.locks && (!twiceB x.procs && (decide (x.entry.length = x.procs.length) && (decide (x.ins.length ≤ 1500) && (@decide (mainB ∈ x.procs) (Classical.propDecidable _) && @decide (EntOk x.entry x.ins) (Classical.propDecidable _)))))))))) := by unfold kHeads; congr
  unfold okK entB
  rw [e]
  unfold okNs
  ac_rfl
set_option maxRecDepth 20000 in
set_option maxHeartbeats 6400000 in
theorem implCodeOk_any (x : KTree) (v : Value) (w : World) (hl : KLies w x v) (hz : szK x ≤ 1048576) :
    Calls Try.prog 18 #[v] w fun e w' => e = .returned (.bool (okK x)) ∧ Below w.heap.size w w' := by
  obtain ⟨ga, gc, la, lc, pa, pc, ea, ec, ia, ic, rfl, h1, h2, h3, h4, h5⟩ := hl
  have hzi : szIs x.ins ≤ 1048576 := by unfold szK at hz; omega
  obtain ⟨n, hn⟩ : ∃ n, n = x.ins.length := ⟨_, rfl⟩
  have HE := Lib.hid (okK_eq x n hn)
  have HNL := Lib.hid hn
  rw [← hn] at h5 ⊢
  obtain ⟨W1, hW1⟩ : ∃ W, W = (w.alloc (.cells #[.slice ga x.globals.length gc, .slice la x.locks.length lc, .slice pa x.procs.length pc, .slice ea x.entry.length ec, .slice ia n ic] 31)).alloc (.cells #[.slice ga x.globals.length gc, .slice la x.locks.length lc, .slice pa x.procs.length pc] 22) := ⟨_, rfl⟩
  have hs1 : (w.alloc (.cells #[.slice ga x.globals.length gc, .slice la x.locks.length lc, .slice pa x.procs.length pc, .slice ea x.entry.length ec, .slice ia n ic] 31)).heap.size = w.heap.size + 1 := by simp
  have b1 : Below w.heap.size w W1 := by rw [hW1]; exact ((Below.refl w.heap.size w).alloc (Nat.le_refl _) _).alloc (by simp) _
  have Y1 : Hid (Box5 W1 w.heap.size (.slice ga x.globals.length gc) (.slice la x.locks.length lc) (.slice pa x.procs.length pc) (.slice ea x.entry.length ec) (.slice ia n ic)) := by rw [hW1]; exact (Box5.new w _ _ _ _ _ _).keep (keeps_alloc _ _)
  have Z1 : Hid (Box3 W1 (w.heap.size + 1) (.slice ga x.globals.length gc) (.slice la x.locks.length lc) (.slice pa x.procs.length pc)) := by
    have h := Box3.new (w.alloc (.cells #[.slice ga x.globals.length gc, .slice la x.locks.length lc, .slice pa x.procs.length pc, .slice ea x.entry.length ec, .slice ia n ic] 31)) (.slice ga x.globals.length gc) (.slice la x.locks.length lc) (.slice pa x.procs.length pc) 22
    rw [hs1] at h
    rw [hW1]; exact h
  have X0 := Lib.hid (Box5.new w (.slice ga x.globals.length gc) (.slice la x.locks.length lc) (.slice pa x.procs.length pc) (.slice ea x.entry.length ec) (.slice ia n ic) 31)
  have B0 := Lib.hid ((Below.refl w.heap.size w).alloc (Nat.le_refl _) (.cells #[.slice ga x.globals.length gc, .slice la x.locks.length lc, .slice pa x.procs.length pc, .slice ea x.entry.length ec, .slice ia n ic] 31))
  have B1 := Lib.hid b1
  have N1 := Lib.hid (implNames_any x.globals _ W1 (h1.keep (keeps_below b1)))
  have N2 := Lib.hid (implNames_any x.locks _ W1 (h2.keep (keeps_below b1)))
  have N3 := Lib.hid (implNames_any x.procs _ W1 (h3.keep (keeps_below b1)))
  have T1 := Lib.hid (implTwice_any x.globals _ W1 (h1.keep (keeps_below b1)).1)
  have T2 := Lib.hid (implTwice_any x.locks _ W1 (h2.keep (keeps_below b1)).1)
  have T3 := Lib.hid (implTwice_any x.procs _ W1 (h3.keep (keeps_below b1)).1)
  have CM := Lib.hid (implPlace_any x.procs mainB _ W1 (h3.keep (keeps_below b1)).1)
  have CE := Lib.hid (fun hp hn15 hpl => implEntries_any x ga la pa ea ia gc lc pc ec ic n W1 hp (h4.keep (keeps_below b1)) (h5.keep (keeps_below b1)) hn15 hpl)
  have CI := Lib.hid (fun wx (hb : Below w.heap.size w wx) hr => implInsOk_any x ga la pa ea ia gc lc pc ec ic n wx (h1.keep (keeps_below hb)) (h4.keep (keeps_below hb)) (h5.keep (keeps_below hb)) hr hzi)
  have HEN : Hid (entB x = true → Ris x.entry n) := fun h => by
    unfold entB at h
    rw [Bool.and_eq_true] at h
    have h2 := @of_decide_eq_true _ (_) h.2
    have := h2.1
    rw [← hn] at this
    exact this
  have HW1 := Lib.hid hW1
  generalize okK x = rr at HE
  generalize nmsB x.globals = n1 at HE N1
  generalize nmsB x.locks = n2 at HE N2
  generalize nmsB x.procs = n3 at HE N3
  generalize twiceB x.globals = t1 at HE T1
  generalize twiceB x.locks = t2 at HE T2
  generalize twiceB x.procs = t3 at HE T3
  generalize entB x = eb at HE CE HEN
  generalize okIns x 0 x.ins = ib at HE CI
  obtain ⟨p0, p1, p2, p3, p4⟩ := X0.out
  clear h1 h2 h3 h4 h5 hz hzi hn b1 hW1 hs1
  by_cases l1 : x.globals.length ≤ 6
  rotate_left
  · have HF : Hid (rr = false) := by show _ = _; rw [HE.out]; simp [l1]
    have hq : (6 : Int) < (x.globals.length : Int) := by omega
    clear l1
    go_enter Try.func18, Try.ntmps18
    go_wp2_with fail
    go_ret
    exact ⟨ret_b (by rw [HF.out]), B0.out⟩
  have i1 : ¬ (6 : Int) < (x.globals.length : Int) := by omega
  by_cases l2 : x.locks.length ≤ 6
  rotate_left
  · have HF : Hid (rr = false) := by show _ = _; rw [HE.out]; simp [l2]
    have hq : (6 : Int) < (x.locks.length : Int) := by omega
    clear l2
    go_enter Try.func18, Try.ntmps18
    go_wp2_with fail
    go_ret
    exact ⟨ret_b (by rw [HF.out]), B0.out⟩
  have i2 : ¬ (6 : Int) < (x.locks.length : Int) := by omega
  by_cases l3 : x.procs.length ≤ 8
  rotate_left
  · have HF : Hid (rr = false) := by show _ = _; rw [HE.out]; simp [l3]
    have hq : (8 : Int) < (x.procs.length : Int) := by omega
    clear l3
    go_enter Try.func18, Try.ntmps18
    go_wp2_with fail
    go_ret
    exact ⟨ret_b (by rw [HF.out]), B0.out⟩
  have i3 : ¬ (8 : Int) < (x.procs.length : Int) := by omega
  by_cases l4 : n ≤ 1500
  rotate_left
  · have HF : Hid (rr = false) := by show _ = _; rw [HE.out]; simp [l4]
    have hq : (1500 : Int) < (n : Int) := by omega
    clear l4
    go_enter Try.func18, Try.ntmps18
    go_wp2_with fail
    go_ret
    exact ⟨ret_b (by rw [HF.out]), B0.out⟩
  have i4 : ¬ (1500 : Int) < (n : Int) := by omega
  have HE2 : Hid (rr = (n1 && (!t1 && (n2 && (!t2 && (n3 && (!t3 && (@decide (mainB ∈ x.procs) (Classical.propDecidable _) && (eb && ib))))))))) := by show _ = _; rw [HE.out]; simp [l1, l2, l3, l4]
  have L3 := Lib.hid l3
  have L4 := Lib.hid l4
  clear HE l1 l2 l3 l4
  go_enter Try.func18, Try.ntmps18
  go_wp2_with fail
  rw [← HW1.out]
  clear p0 p1 p2 p3 p4 i1 i2 i3 i4
  go_loopw [35] (fun i wr => ∃ (j : Nat), j ≤ 3 ∧ i = .int .i64 j ∧ Hid (j = 0 ∨ (n1 = true ∧ t1 = false ∧ (j = 1 ∨ (n2 = true ∧ t2 = false ∧ (j = 2 ∨ (n3 = true ∧ t3 = false)))))) ∧ wr = W1)
    (fun i _ => 3 - (intOf i).toNat)
  case atStart => exact ⟨0, by omega, rfl, .inl rfl, rfl⟩
  case round =>
    obtain ⟨j, hj, rfl, hdone, rfl⟩ := hrel
    obtain ⟨z0, z1, z2⟩ := Z1.out
    rcases (by omega : j = 0 ∨ j = 1 ∨ j = 2 ∨ j = 3) with rfl | rfl | rfl | rfl
    · have hd := hdone.out
      cases n1 with
      | false =>
        have HF : Hid (rr = false) := by show _ = _; rw [HE2.out]; simp
        clear hd
        go_wp2_with fail
        refine N1.out.mono ?_
        rintro e w2 ⟨rfl, rfl⟩
        go_wp2_with fail
        go_ret
        exact ⟨ret_b (by rw [HF.out]), B1.out⟩
      | true =>
        cases t1 with
        | true =>
          have HF : Hid (rr = false) := by show _ = _; rw [HE2.out]; simp
          clear hd
          go_wp2_with fail
          refine N1.out.mono ?_
          rintro e w2 ⟨rfl, rfl⟩
          go_wp2_with fail
          refine T1.out.mono ?_
          rintro e w3 ⟨rfl, rfl⟩
          go_wp2_with fail
          go_ret
          exact ⟨ret_b (by rw [HF.out]), B1.out⟩
        | false =>
          have HD := Lib.hid hd
          clear hd
          go_wp2_with fail
          refine N1.out.mono ?_
          rintro e w2 ⟨rfl, rfl⟩
          go_wp2_with fail
          refine T1.out.mono ?_
          rintro e w3 ⟨rfl, rfl⟩
          go_wp2_with fail
          go_roundw
          case rel => exact ⟨1, by omega, by go_num, Or.inr ⟨(by first | rfl | trivial), (by first | rfl | trivial), .inl rfl⟩, by first | rfl | trivial⟩
          case measure => simp [intOf]
    · have hd := hdone.out
      cases n2 with
      | false =>
        have HF : Hid (rr = false) := by show _ = _; rw [HE2.out]; simp
        clear hd
        go_wp2_with fail
        refine N2.out.mono ?_
        rintro e w2 ⟨rfl, rfl⟩
        go_wp2_with fail
        go_ret
        exact ⟨ret_b (by rw [HF.out]), B1.out⟩
      | true =>
        cases t2 with
        | true =>
          have HF : Hid (rr = false) := by show _ = _; rw [HE2.out]; simp
          clear hd
          go_wp2_with fail
          refine N2.out.mono ?_
          rintro e w2 ⟨rfl, rfl⟩
          go_wp2_with fail
          refine T2.out.mono ?_
          rintro e w3 ⟨rfl, rfl⟩
          go_wp2_with fail
          go_ret
          exact ⟨ret_b (by rw [HF.out]), B1.out⟩
        | false =>
          have HD := Lib.hid hd
          clear hd
          go_wp2_with fail
          refine N2.out.mono ?_
          rintro e w2 ⟨rfl, rfl⟩
          go_wp2_with fail
          refine T2.out.mono ?_
          rintro e w3 ⟨rfl, rfl⟩
          go_wp2_with fail
          go_roundw
          case rel => exact ⟨2, by omega, by go_num, by rcases HD.out with h | ⟨a, b, _⟩; exact absurd h (by omega); exact Or.inr ⟨a, b, .inr ⟨(by first | rfl | trivial), (by first | rfl | trivial), .inl rfl⟩⟩, by first | rfl | trivial⟩
          case measure => simp [intOf]
    · have hd := hdone.out
      cases n3 with
      | false =>
        have HF : Hid (rr = false) := by show _ = _; rw [HE2.out]; simp
        clear hd
        go_wp2_with fail
        refine N3.out.mono ?_
        rintro e w2 ⟨rfl, rfl⟩
        go_wp2_with fail
        go_ret
        exact ⟨ret_b (by rw [HF.out]), B1.out⟩
      | true =>
        cases t3 with
        | true =>
          have HF : Hid (rr = false) := by show _ = _; rw [HE2.out]; simp
          clear hd
          go_wp2_with fail
          refine N3.out.mono ?_
          rintro e w2 ⟨rfl, rfl⟩
          go_wp2_with fail
          refine T3.out.mono ?_
          rintro e w3 ⟨rfl, rfl⟩
          go_wp2_with fail
          go_ret
          exact ⟨ret_b (by rw [HF.out]), B1.out⟩
        | false =>
          have HD := Lib.hid hd
          clear hd
          go_wp2_with fail
          refine N3.out.mono ?_
          rintro e w2 ⟨rfl, rfl⟩
          go_wp2_with fail
          refine T3.out.mono ?_
          rintro e w3 ⟨rfl, rfl⟩
          go_wp2_with fail
          go_roundw
          case rel => exact ⟨3, by omega, by go_num, by rcases HD.out with h | ⟨a, b, h | ⟨c, d, _⟩⟩; exact absurd h (by omega); exact absurd h (by omega); exact Or.inr ⟨a, b, .inr ⟨c, d, .inr ⟨(by first | rfl | trivial), (by first | rfl | trivial)⟩⟩⟩, by first | rfl | trivial⟩
          case measure => simp [intOf]
    · have hd : n1 = true ∧ t1 = false ∧ n2 = true ∧ t2 = false ∧ n3 = true ∧ t3 = false := by
        have h := hdone.out
        simp at h
        obtain ⟨h1, h2, h3, h4, h5, h6⟩ := h
        exact ⟨h1, h2, h3, h4, h5, h6⟩
      obtain ⟨rfl, rfl, rfl, rfl, rfl, rfl⟩ := hd
      have HE3 : Hid (rr = (@decide (mainB ∈ x.procs) (Classical.propDecidable _) && (eb && ib))) := by show _ = _; rw [HE2.out]; simp
      obtain ⟨p0, p1, p2, p3, p4⟩ := Y1.out
      clear HE2 z0 z1 z2 hdone
      by_cases hm : mainB ∈ x.procs
      · have HE4 : Hid (rr = (eb && ib)) := by show _ = _; rw [HE3.out]; simp [hm]
        have HX : Hid (∀ z, IdxI x.procs mainB z → 0 ≤ z) := fun z hz => by have := (idxI_neg hz).1; have h2 : ¬ z < 0 := fun h => this h hm; omega
        have CE2 := Lib.hid (CE.out (List.length_pos_of_mem hm) L4.out (by have := L3.out; omega))
        clear hm HE3
        go_wp2_with fail
        refine CM.out.mono ?_
        rintro e w2 ⟨z, rfl, hz, rfl⟩
        have hz0 := HX.out z hz
        clear hz
        go_wp2_with fail
        refine CE2.out.mono ?_
        rintro e w3 ⟨rfl, hb3⟩
        have B3 := Lib.hid (B1.out.trans (hb3.mono B1.out.size))
        have Y3 := Lib.hid (Y1.out.keep (keeps_below hb3))
        clear hb3 p0 p1 p2 p3 p4
        obtain ⟨p0, p1, p2, p3, p4⟩ := Y3.out
        cases eb with
        | false =>
          have HF : Hid (rr = false) := by show _ = _; rw [HE4.out]; rfl
          go_wp2_with fail
          go_ret
          exact ⟨ret_b (by rw [HF.out]), B3.out⟩
        | true =>
          go_wp2_with fail
          refine (CI.out _ B3.out (HEN.out (by first | rfl | trivial))).mono ?_
          rintro e w4 ⟨rfl, hb4⟩
          have B4 := Lib.hid (B3.out.trans (hb4.mono B3.out.size))
          clear hb4
          go_wp2_with fail
          go_ret
          exact ⟨ret_b (by rw [HE4.out]; rfl), B4.out⟩
      · have HF : Hid (rr = false) := by show _ = _; rw [HE3.out]; simp [hm]
        have HX : Hid (∀ z, IdxI x.procs mainB z → ¬ 0 ≤ z) := fun z hz => by have := (idxI_neg hz).2 hm; omega
        clear hm HE3
        go_wp2_with fail
        refine CM.out.mono ?_
        rintro e w2 ⟨z, rfl, hz, rfl⟩
        have hz0 := HX.out z hz
        clear hz
        go_wp2_with fail
        go_ret
        exact ⟨ret_b (by rw [HF.out]), B1.out⟩
end Go.Proofs.Ytofmccihehalcaa.Trm
/- The program's EndOf, walked. Conditions: the code lies in memory; at most 2 to the 20 names and terms. -/
namespace Go.Proofs.Ytofmccihehalcaa.Trm
open Go.RowKit Go.Proofs.Ytofmccihehalcaa.Own
set_option maxRecDepth 20000 in
set_option maxHeartbeats 1600000 in
theorem implEndWith_any (x : KTree) (m : Nat) (v : Value) (w : World) (hl : KLies w x v) (hk : okK x = true) (hm0 : m < x.entry.length) :
    Calls Try.prog 19 #[v, .int .i64 (m : Int)] w fun e w' => e = .returned (.int .i64 (endI x.entry x.ins.length m)) ∧ Below w.heap.size w w' := by
  obtain ⟨ga, gc, la, lc, pa, pc, ea, ec, ia, ic, rfl, h1, h2, h3, h4, h5⟩ := hl
  obtain ⟨n, hn⟩ : ∃ n, n = x.ins.length := ⟨_, rfl⟩
  have hr := okK_ris hk
  rw [← hn] at h5 hr ⊢
  have hlm : n ≤ 9223372036854775807 := by rw [hn]; exact h5.1
  have hel : x.entry.length ≤ 9223372036854775807 := by obtain ⟨_, _, _, h, _⟩ := h4; exact h
  have HENT := Lib.hid (fun wx (hb : Below w.heap.size w wx) => h4.keep (keeps_below hb))
  have X0 := Lib.hid (Box5.new w (.slice ga x.globals.length gc) (.slice la x.locks.length lc) (.slice pa x.procs.length pc) (.slice ea x.entry.length ec) (.slice ia n ic) 31)
  have B0 := Lib.hid ((Below.refl w.heap.size w).alloc (Nat.le_refl _) (.cells #[.slice ga x.globals.length gc, .slice la x.locks.length lc, .slice pa x.procs.length pc, .slice ea x.entry.length ec, .slice ia n ic] 31))
  have HR := Lib.hid hr
  obtain ⟨zz, hzz⟩ : ∃ z, endI x.entry n m = z := ⟨_, rfl⟩
  rw [hzz]
  have HZ := Lib.hid hzz
  clear h1 h2 h3 h4 h5 hn hk hr hzz
  obtain ⟨W1, hW1⟩ : ∃ W, W = w.alloc (.cells #[.slice ga x.globals.length gc, .slice la x.locks.length lc, .slice pa x.procs.length pc, .slice ea x.entry.length ec, .slice ia n ic] 31) := ⟨_, rfl⟩
  obtain ⟨p0, p1, p2, p3, p4⟩ := X0.out
  rw [← hW1] at X0 B0
  have HW1 := Lib.hid hW1
  have HI := Lib.hid (HENT.out _ B0.out)
  clear hW1
  have hn0 : (0 : Int) < (n : Int) := by have h1 := HR.out.1; have h2 := HR.out.2.1; have h3 := HR.out.below h1; omega
  by_cases hm : m + 1 < x.entry.length
  · have HF2 : Hid (zz = x.entry[m + 1] - 1) := by show _ = _; rw [← HZ.out]; unfold endI; rw [dif_pos hm]
    have hlo := HR.out.nonneg hm
    have hhi := HR.out.below hm
    obtain ⟨a2, c2, e2, _, _, hk2⟩ := HI.out
    simp at e2
    obtain ⟨rfl, rfl⟩ := e2
    obtain ⟨g, o, rfl, hc⟩ := hk2 (by omega)
    have c0 := hc (m + 1) hm
    have e1 : ((m : Int) == (x.entry.length : Int) - 1) = false := by rw [beq_eq_false_iff_ne]; omega
    have e3 : ¬ (m : Int) = (x.entry.length : Int) - 1 := by omega
    clear hc hk2 HZ
    generalize x.entry[m + 1] = z at *
    rw [HW1.out] at c0
    go_enter Try.func19, Try.ntmps19
    go_wp2
    go_ret
    rw [← HW1.out]
    exact ⟨ret_z (by rw [HF2.out]), B0.out⟩
  · have HF2 : Hid (zz = (n : Int) - 1) := by show _ = _; rw [← HZ.out]; unfold endI; rw [dif_neg hm]
    have e1 : ((m : Int) == (x.entry.length : Int) - 1) = true := by rw [beq_iff_eq]; omega
    have e3 : (m : Int) = (x.entry.length : Int) - 1 := by omega
    clear HZ
    go_enter Try.func19, Try.ntmps19
    go_wp2
    go_ret
    rw [← HW1.out]
    exact ⟨ret_z (by rw [HF2.out]), B0.out⟩
set_option maxRecDepth 20000 in
set_option maxHeartbeats 1600000 in
theorem implEndOf_any (x : KTree) (a : Int) (v : Value) (w : World) (hl : KLies w x v) (hz : szK x ≤ 1048576) (hai : InI a) :
    Calls Try.prog 7 #[v, .int .i64 a] w fun e w' => e = .returned (.int .i64 (endZ x a)) ∧ Below w.heap.size w w' := by
  have CK := Lib.hid (fun wx (hb : Below w.heap.size w wx) => implCodeOk_any x v wx (hl.keep (keeps_below hb)) hz)
  have CW := Lib.hid (fun wx (hb : Below w.heap.size w wx) m (hk : okK x = true) (hm : m < x.entry.length) => implEndWith_any x m v wx (hl.keep (keeps_below hb)) hk hm)
  obtain ⟨ga, gc, la, lc, pa, pc, ea, ec, ia, ic, rfl, h1, h2, h3, h4, h5⟩ := hl
  obtain ⟨n, hn⟩ : ∃ n, n = x.ins.length := ⟨_, rfl⟩
  have HNL := Lib.hid hn
  rw [← hn] at h5 CK CW ⊢
  have hlm : n ≤ 9223372036854775807 := by rw [hn]; exact h5.1
  have hpl : x.procs.length ≤ 9223372036854775807 := by obtain ⟨_, _, _, h, _⟩ := h3.1; exact h
  have hel : x.entry.length ≤ 9223372036854775807 := by obtain ⟨_, _, _, h, _⟩ := h4; exact h
  have HRI : Hid (okK x = true → Ris x.entry n ∧ x.entry.length = x.procs.length) := fun h => by
    have h2 : kHeads x = true := by unfold okK at h; rw [Bool.and_eq_true] at h; exact h.1
    have h3 := kHeads_ent h2
    have h4 := h3.1.1
    rw [← hn] at h4
    exact ⟨h4, h3.2.1⟩
  have HENT := Lib.hid (fun wx (hb : Below w.heap.size w wx) => h4.keep (keeps_below hb))
  have X0 := Lib.hid (Box5.new w (.slice ga x.globals.length gc) (.slice la x.locks.length lc) (.slice pa x.procs.length pc) (.slice ea x.entry.length ec) (.slice ia n ic) 31)
  have B0 := Lib.hid ((Below.refl w.heap.size w).alloc (Nat.le_refl _) (.cells #[.slice ga x.globals.length gc, .slice la x.locks.length lc, .slice pa x.procs.length pc, .slice ea x.entry.length ec, .slice ia n ic] 31))
  obtain ⟨kb, hkb⟩ : ∃ b, okK x = b := ⟨_, rfl⟩
  rw [hkb] at CK HRI CW
  have HZ : Hid (endZ x a = if kb = true ∧ 0 ≤ a ∧ a < (x.procs.length : Int) then endI x.entry n a.toNat else -1) := by show _ = _; unfold endZ; rw [hkb, hn]
  obtain ⟨zz, hzz⟩ : ∃ z, endZ x a = z := ⟨_, rfl⟩
  rw [hzz] at HZ
  rw [hzz]
  unfold InI at hai
  clear h1 h2 h3 h4 h5 hz hn hkb hzz
  obtain ⟨W1, hW1⟩ : ∃ W, W = w.alloc (.cells #[.slice ga x.globals.length gc, .slice la x.locks.length lc, .slice pa x.procs.length pc, .slice ea x.entry.length ec, .slice ia n ic] 31) := ⟨_, rfl⟩
  obtain ⟨p0, p1, p2, p3, p4⟩ := X0.out
  rw [← hW1] at X0 B0
  have HW1 := Lib.hid hW1
  clear hW1
  go_enter Try.func7, Try.ntmps7
  go_wp2_with fail
  rw [← HW1.out] at p0 p1 p2 p3 p4 ⊢
  refine (CK.out _ B0.out).mono ?_
  rintro e w2 ⟨rfl, hb⟩
  have B2 := Lib.hid (B0.out.trans (hb.mono B0.out.size))
  have X2 := Lib.hid (X0.out.keep (keeps_below hb))
  clear hb p0 p1 p2 p3 p4
  obtain ⟨p0, p1, p2, p3, p4⟩ := X2.out
  cases kb with
  | false =>
    have HF : Hid (zz = -1) := by show _ = _; rw [HZ.out]; simp
    go_wp2_with fail
    go_ret
    exact ⟨ret_z (by rw [HF.out]), B2.out⟩
  | true =>
    obtain ⟨hr, hep⟩ := HRI.out (by first | rfl | trivial)
    have HR := Lib.hid hr
    have HEP := Lib.hid hep
    have HI := Lib.hid (HENT.out _ B2.out)
    clear hr hep
    by_cases ha0 : 0 ≤ a
    rotate_left
    · have HF : Hid (zz = -1) := by show _ = _; rw [HZ.out, if_neg (fun h => ha0 h.2.1)]
      go_wp2_with fail
      go_ret
      exact ⟨ret_z (by rw [HF.out]), B2.out⟩
    by_cases ha1 : a < (x.entry.length : Int)
    rotate_left
    · have HF : Hid (zz = -1) := by show _ = _; rw [HZ.out, if_neg (fun h => ha1 (by have := HEP.out; omega))]
      go_wp2_with fail
      go_ret
      exact ⟨ret_z (by rw [HF.out]), B2.out⟩
    obtain ⟨m, rfl⟩ : ∃ m : Nat, a = (m : Int) := ⟨a.toNat, by omega⟩
    have HF : Hid (zz = endI x.entry n m) := by
      show _ = _
      rw [HZ.out, if_pos ⟨by first | rfl | trivial, ha0, by have := HEP.out; omega⟩]
      rfl
    clear HZ
    go_wp2_with fail
    refine (CW.out _ B2.out m (by first | rfl | trivial) (by omega)).mono ?_
    rintro e w3 ⟨rfl, hb⟩
    have B3 := Lib.hid (B2.out.trans (hb.mono B2.out.size))
    clear hb
    go_wp2_with fail
    go_ret
    exact ⟨ret_z (by rw [HF.out]), B3.out⟩
end Go.Proofs.Ytofmccihehalcaa.Trm
/- The laws' comparison of two terms that are the same, walked. Conditions: both lie in memory. -/
namespace Go.Proofs.Ytofmccihehalcaa.Trm
open Go.RowKit Go.Proofs.Ytofmccihehalcaa.Own
def EqOk (t : Tree) : Prop := ∀ (u v : Value) (w : World), Lies w t u → Lies w t v →
    Calls Try.prog 50 #[u, v] w fun e w' => e = .returned (.bool true) ∧ Below w.heap.size w w'
theorem eqS_any (ks : List Tree) (ih : ∀ t, t ∈ ks → EqOk t) (aa bb : Option Addr) (cap dap : Nat) (w : World) (hlen : ks.length ≤ 9223372036854775807) (hk : 0 < ks.length → ∃ g o, aa = some ⟨g, o, none⟩ ∧ LiesL w g o ks) (hk2 : 0 < ks.length → ∃ g o, bb = some ⟨g, o, none⟩ ∧ LiesL w g o ks) :
    Calls Try.prog 68 #[.slice aa ks.length cap, .slice bb ks.length dap] w fun e w' => e = .returned (.bool true) ∧ Below w.heap.size w w' := by
  have IH := Lib.hid ih
  have HK := Lib.hid hk
  have HK2 := Lib.hid hk2
  clear ih hk hk2
  go_enter Try.func68, Try.ntmps68
  go_wp2
  go_loopw [5] (fun i wr => ∃ (k : Nat), k ≤ ks.length ∧ i = .int .i64 k ∧ Hid (Below w.heap.size w wr))
    (fun i _ => ks.length - (intOf i).toNat)
  case atStart => exact ⟨0, Nat.zero_le _, rfl, Below.refl _ _⟩
  case round =>
    obtain ⟨k, hk, rfl, hbe⟩ := hrel
    by_cases hlt : k < ks.length
    · obtain ⟨g, o, rfl, hl⟩ := HK.out (by omega)
      obtain ⟨h, p, rfl, hm⟩ := HK2.out (by omega)
      obtain ⟨ka, kc, c0, c1, c2, c3, hl2⟩ := (hl.keep (keeps_below hbe.out)).at k hlt
      obtain ⟨la, lc, d0, d1, d2, d3, hm2⟩ := (hm.keep (keeps_below hbe.out)).at k hlt
      have C := Lib.hid (fun w hk => IH.out ks[k] (List.getElem_mem hlt) _ _ w (hl2.keep hk) (hm2.keep hk))
      clear hl hl2 hm hm2
      go_wp2
      go_region_with (go_at_call 50; refine (C.out _ (keeps_drew _)).mono ?_; rintro e w1 ⟨rfl, hb1⟩)
      all_goals
        have HB1 := Lib.hid (hbe.out.trans ((below_of_drew hb1).mono hbe.out.size))
        clear hb1
        go_wp2
        go_roundw
        case rel => exact ⟨k + 1, by omega, by go_num, HB1⟩
        case measure => simp [intOf]; omega
    · go_wp2
      go_ret
      exact ⟨rfl, hbe.out⟩
theorem eqTerm_any : ∀ t : Tree, EqOk t := treeInd fun k n s ks ih u v w hu hv => by
  obtain ⟨h1, h2, h3, h4, aa, cap, rfl, h5⟩ := hu
  obtain ⟨_, _, _, _, bb, dap, rfl, h6⟩ := hv
  have C := Lib.hid (fun w hk hk2 => eqS_any ks ih aa bb cap dap w h4 hk hk2)
  have H5 := Lib.hid h5
  have H6 := Lib.hid h6
  clear ih h5 h6
  go_enter Try.func50, Try.ntmps50
  go_wp2_with fail
  refine (C.out _ (fun h => by obtain ⟨g, o, e, hl⟩ := H5.out h; exact ⟨g, o, e, hl.keep ((keeps_alloc _ _).trans (keeps_alloc _ _))⟩) (fun h => by obtain ⟨g, o, e, hl⟩ := H6.out h; exact ⟨g, o, e, hl.keep ((keeps_alloc _ _).trans (keeps_alloc _ _))⟩)).mono ?_
  rintro e w1 ⟨rfl, hb1⟩
  have HB1 := Lib.hid ((((Below.refl w.heap.size w).alloc (Nat.le_refl _) _).alloc (by simp) _).trans (hb1.mono (by simp; omega)))
  clear hb1
  go_wp2
  go_ret
  exact ⟨rfl, HB1.out⟩
end Go.Proofs.Ytofmccihehalcaa.Trm
/- The laws' comparison of two codes that are the same, walked. Conditions: both lie in memory. -/
namespace Go.Proofs.Ytofmccihehalcaa.Trm
open Go.RowKit Go.Proofs.Ytofmccihehalcaa.Own
set_option maxHeartbeats 800000 in
theorem eqIns_any (x : InsT) (u v : Value) (w : World) (hu : ILies w x u) (hv : ILies w x v) :
    Calls Try.prog 32 #[u, v] w fun e w' => e = .returned (.bool true) ∧ Below w.heap.size w w' := by
  obtain ⟨_, _, _, ba, bc, rfl, h6⟩ := hu
  obtain ⟨_, _, _, da, dc, rfl, i6⟩ := hv
  have CT := Lib.hid (fun w hk => eqTerm_any x.term _ _ w (h6.keep hk) (i6.keep hk))
  have X0 := Lib.hid ((Box7.new w (.int .i64 x.op) (.int .i64 x.arg) (.int .i64 x.term.kind) (.int .i64 x.term.num) (.string x.term.name) (.slice ba x.term.kids.length bc) (.int .i64 x.to) 57).keep (keeps_alloc _ (.cells #[.int .i64 x.op, .int .i64 x.arg, .int .i64 x.term.kind, .int .i64 x.term.num, .string x.term.name, .slice da x.term.kids.length dc, .int .i64 x.to] 57)))
  have Y0 := Lib.hid (Box7.new (w.alloc (.cells #[.int .i64 x.op, .int .i64 x.arg, .int .i64 x.term.kind, .int .i64 x.term.num, .string x.term.name, .slice ba x.term.kids.length bc, .int .i64 x.to] 57)) (.int .i64 x.op) (.int .i64 x.arg) (.int .i64 x.term.kind) (.int .i64 x.term.num) (.string x.term.name) (.slice da x.term.kids.length dc) (.int .i64 x.to) 57)
  have hsz0 : (w.alloc (.cells #[.int .i64 x.op, .int .i64 x.arg, .int .i64 x.term.kind, .int .i64 x.term.num, .string x.term.name, .slice ba x.term.kids.length bc, .int .i64 x.to] 57)).heap.size = w.heap.size + 1 := by simp
  rw [hsz0] at Y0
  clear h6 i6 hsz0
  go_enter Try.func32, Try.ntmps32
  go_wp2_with fail
  refine (CT.out _ ((keeps_alloc _ _).trans (keeps_alloc _ _))).mono ?_
  rintro e1 w1 ⟨rfl, hb1⟩
  have B1 := Lib.hid (below_box1 (below_box1 hb1))
  obtain ⟨p0, p1, p2, p3, p4, p5, p6⟩ := X0.out.keep (keeps_below hb1)
  obtain ⟨q0, q1, q2, q3, q4, q5, q6⟩ := Y0.out.keep (keeps_below hb1)
  clear hb1
  go_wp2
  go_ret
  exact ⟨rfl, B1.out⟩
set_option maxHeartbeats 1600000 in
theorem eqInsS_any (xs : List InsT) (va vb : Value) (w : World) (h1 : IsAt w va xs) (h2 : IsAt w vb xs) :
    Calls Try.prog 22 #[va, vb] w fun e w' => e = .returned (.bool true) ∧ Below w.heap.size w w' := by
  obtain ⟨hlen, aa, cap, rfl, hk⟩ := h1
  obtain ⟨_, bb, dap, rfl, hk2⟩ := h2
  have HK := Lib.hid hk
  have HK2 := Lib.hid hk2
  clear hk hk2
  go_enter Try.func22, Try.ntmps22
  go_wp2
  go_loopw [5] (fun i wr => ∃ (k : Nat), k ≤ xs.length ∧ i = .int .i64 k ∧ Hid (Below w.heap.size w wr))
    (fun i _ => xs.length - (intOf i).toNat)
  case atStart => exact ⟨0, Nat.zero_le _, rfl, Below.refl _ _⟩
  case round =>
    obtain ⟨k, hk, rfl, hbe⟩ := hrel
    by_cases hlt : k < xs.length
    · obtain ⟨g, o, rfl, hl⟩ := HK.out (by omega)
      obtain ⟨h, p, rfl, hm⟩ := HK2.out (by omega)
      obtain ⟨i0, i1, i2, ba, bc, c0, c1, c2, c3, c4, c5, c6, hl2⟩ := (hl k hlt).keep (keeps_below hbe.out)
      obtain ⟨_, _, _, da, dc, d0, d1, d2, d3, d4, d5, d6, hm2⟩ := (hm k hlt).keep (keeps_below hbe.out)
      have C : Hid (∀ wx, Below wr.heap.size wr wx → Calls Try.prog 32 #[.agg #[.int .i64 xs[k].op, .int .i64 xs[k].arg, .int .i64 xs[k].term.kind, .int .i64 xs[k].term.num, .string xs[k].term.name, .slice ba xs[k].term.kids.length bc, .int .i64 xs[k].to], .agg #[.int .i64 xs[k].op, .int .i64 xs[k].arg, .int .i64 xs[k].term.kind, .int .i64 xs[k].term.num, .string xs[k].term.name, .slice da xs[k].term.kids.length dc, .int .i64 xs[k].to]] wx fun e w' => e = .returned (.bool true) ∧ Below wr.heap.size wr w') :=
        fun wx hb => (eqIns_any xs[k] _ _ wx ⟨i0, i1, i2, ba, bc, rfl, hl2.keep (keeps_below hb)⟩ ⟨i0, i1, i2, da, dc, rfl, hm2.keep (keeps_below hb)⟩).mono fun e w' ⟨he, h⟩ => ⟨he, hb.trans (h.mono hb.size)⟩
      have KS : Hid (∀ wx, Below wr.heap.size wr wx → wx.cell? ⟨g, o + k * 7, none⟩ = some (.int .i64 xs[k].op) ∧ wx.cell? ⟨g, o + k * 7 + 1, none⟩ = some (.int .i64 xs[k].arg) ∧ wx.cell? ⟨g, o + k * 7 + 2, none⟩ = some (.int .i64 xs[k].term.kind) ∧ wx.cell? ⟨g, o + k * 7 + 3, none⟩ = some (.int .i64 xs[k].term.num) ∧ wx.cell? ⟨g, o + k * 7 + 4, none⟩ = some (.string xs[k].term.name) ∧ wx.cell? ⟨g, o + k * 7 + 5, none⟩ = some (.slice ba xs[k].term.kids.length bc) ∧ wx.cell? ⟨g, o + k * 7 + 6, none⟩ = some (.int .i64 xs[k].to) ∧ wx.cell? ⟨h, p + k * 7, none⟩ = some (.int .i64 xs[k].op) ∧ wx.cell? ⟨h, p + k * 7 + 1, none⟩ = some (.int .i64 xs[k].arg) ∧ wx.cell? ⟨h, p + k * 7 + 2, none⟩ = some (.int .i64 xs[k].term.kind) ∧ wx.cell? ⟨h, p + k * 7 + 3, none⟩ = some (.int .i64 xs[k].term.num) ∧ wx.cell? ⟨h, p + k * 7 + 4, none⟩ = some (.string xs[k].term.name) ∧ wx.cell? ⟨h, p + k * 7 + 5, none⟩ = some (.slice da xs[k].term.kids.length dc) ∧ wx.cell? ⟨h, p + k * 7 + 6, none⟩ = some (.int .i64 xs[k].to) ∧ Below wr.heap.size wr wx) := fun wx hb => by
        have hk := keeps_below hb
        exact ⟨hk _ _ c0, hk _ _ c1, hk _ _ c2, hk _ _ c3, hk _ _ c4, hk _ _ c5, hk _ _ c6, hk _ _ d0, hk _ _ d1, hk _ _ d2, hk _ _ d3, hk _ _ d4, hk _ _ d5, hk _ _ d6, hb⟩
      have b0 : Below wr.heap.size wr wr.drew := (Below.refl _ _).drew
      clear hl hl2 hm hm2 c0 c1 c2 c3 c4 c5 c6 d0 d1 d2 d3 d4 d5 d6 i0 i1 i2
      go_wp2_with fail
      go_region_held3 (fun wx => wx.cell? ⟨g, o + k * 7, none⟩ = some (.int .i64 xs[k].op) ∧ wx.cell? ⟨g, o + k * 7 + 1, none⟩ = some (.int .i64 xs[k].arg) ∧ wx.cell? ⟨g, o + k * 7 + 2, none⟩ = some (.int .i64 xs[k].term.kind) ∧ wx.cell? ⟨g, o + k * 7 + 3, none⟩ = some (.int .i64 xs[k].term.num) ∧ wx.cell? ⟨g, o + k * 7 + 4, none⟩ = some (.string xs[k].term.name) ∧ wx.cell? ⟨g, o + k * 7 + 5, none⟩ = some (.slice ba xs[k].term.kids.length bc) ∧ wx.cell? ⟨g, o + k * 7 + 6, none⟩ = some (.int .i64 xs[k].to) ∧ wx.cell? ⟨h, p + k * 7, none⟩ = some (.int .i64 xs[k].op) ∧ wx.cell? ⟨h, p + k * 7 + 1, none⟩ = some (.int .i64 xs[k].arg) ∧ wx.cell? ⟨h, p + k * 7 + 2, none⟩ = some (.int .i64 xs[k].term.kind) ∧ wx.cell? ⟨h, p + k * 7 + 3, none⟩ = some (.int .i64 xs[k].term.num) ∧ wx.cell? ⟨h, p + k * 7 + 4, none⟩ = some (.string xs[k].term.name) ∧ wx.cell? ⟨h, p + k * 7 + 5, none⟩ = some (.slice da xs[k].term.kids.length dc) ∧ wx.cell? ⟨h, p + k * 7 + 6, none⟩ = some (.int .i64 xs[k].to) ∧ Below wr.heap.size wr wx)
        (exact KS.out _ (by assumption))
        (first
        | (go_at_call 32; (with_reducible refine (C.out _ (by assumption)).mono ?_); rintro e w1 ⟨rfl, b1⟩))
      all_goals
        have HB1 := Lib.hid (hbe.out.trans (b1.mono hbe.out.size))
        clear b1
        go_wp2
        go_roundw
        case rel => exact ⟨k + 1, by omega, by go_num, HB1⟩
        case measure => simp [intOf]; omega
    · go_wp2
      go_ret
      exact ⟨rfl, hbe.out⟩
set_option maxHeartbeats 1600000 in
theorem eqCode_any (x : KTree) (u v : Value) (w : World) (hu : KLies w x u) (hv : KLies w x v) :
    Calls Try.prog 8 #[u, v] w fun e w' => e = .returned (.bool true) ∧ Below w.heap.size w w' := by
  obtain ⟨ga, gc, la, lc, pa, pc, ea, ec, ia, ic, rfl, h1, h2, h3, h4, h5⟩ := hu
  obtain ⟨ga2, gc2, la2, lc2, pa2, pc2, ea2, ec2, ia2, ic2, rfl, i1, i2, i3, i4, i5⟩ := hv
  have C1 := Lib.hid (fun w hk => eqStrs_at (.slice ga x.globals.length gc) (.slice ga2 x.globals.length gc2) x.globals w (h1.1.keep hk) (i1.1.keep hk))
  have C2 := Lib.hid (fun w hk => eqStrs_at (.slice la x.locks.length lc) (.slice la2 x.locks.length lc2) x.locks w (h2.1.keep hk) (i2.1.keep hk))
  have C3 := Lib.hid (fun w hk => eqStrs_at (.slice pa x.procs.length pc) (.slice pa2 x.procs.length pc2) x.procs w (h3.1.keep hk) (i3.1.keep hk))
  have C4 := Lib.hid (fun w hk => eqInts_at (.slice ea x.entry.length ec) (.slice ea2 x.entry.length ec2) x.entry w (h4.keep hk) (i4.keep hk))
  have C5 := Lib.hid (fun w hk => eqInsS_any x.ins (.slice ia x.ins.length ic) (.slice ia2 x.ins.length ic2) w (h5.keep hk) (i5.keep hk))
  have X0 := Lib.hid ((Box5.new w (.slice ga x.globals.length gc) (.slice la x.locks.length lc) (.slice pa x.procs.length pc) (.slice ea x.entry.length ec) (.slice ia x.ins.length ic) 31).keep (keeps_alloc _ (.cells #[.slice ga2 x.globals.length gc2, .slice la2 x.locks.length lc2, .slice pa2 x.procs.length pc2, .slice ea2 x.entry.length ec2, .slice ia2 x.ins.length ic2] 31)))
  have Y0 := Lib.hid (Box5.new (w.alloc (.cells #[.slice ga x.globals.length gc, .slice la x.locks.length lc, .slice pa x.procs.length pc, .slice ea x.entry.length ec, .slice ia x.ins.length ic] 31)) (.slice ga2 x.globals.length gc2) (.slice la2 x.locks.length lc2) (.slice pa2 x.procs.length pc2) (.slice ea2 x.entry.length ec2) (.slice ia2 x.ins.length ic2) 31)
  have hsz0 : (w.alloc (.cells #[.slice ga x.globals.length gc, .slice la x.locks.length lc, .slice pa x.procs.length pc, .slice ea x.entry.length ec, .slice ia x.ins.length ic] 31)).heap.size = w.heap.size + 1 := by simp
  rw [hsz0] at Y0
  clear h1 h2 h3 h4 h5 i1 i2 i3 i4 i5 hsz0
  go_enter Try.func8, Try.ntmps8
  go_wp2_with fail
  refine (C1.out _ ((keeps_alloc _ _).trans (keeps_alloc _ _))).mono ?_
  rintro e1 w1 ⟨rfl, hb1⟩
  have K1 := Lib.hid (((keeps_alloc w _).trans (keeps_alloc _ _)).trans (keeps_below hb1))
  have B1 := Lib.hid (below_box1 (below_box1 hb1))
  have X1 := Lib.hid (X0.out.keep (keeps_below hb1))
  have Y1 := Lib.hid (Y0.out.keep (keeps_below hb1))
  obtain ⟨p0, p1, p2, p3, p4⟩ := X1.out
  obtain ⟨q0, q1, q2, q3, q4⟩ := Y1.out
  clear hb1
  go_wp2_with fail
  refine (C2.out _ K1.out).mono ?_
  rintro e2 w2 ⟨rfl, hb2⟩
  have K2 := Lib.hid (K1.out.trans (keeps_below hb2))
  have B2 := Lib.hid (B1.out.trans (hb2.mono B1.out.size))
  have X2 := Lib.hid (X1.out.keep (keeps_below hb2))
  have Y2 := Lib.hid (Y1.out.keep (keeps_below hb2))
  clear hb2 p0 p1 p2 p3 p4 q0 q1 q2 q3 q4
  obtain ⟨p0, p1, p2, p3, p4⟩ := X2.out
  obtain ⟨q0, q1, q2, q3, q4⟩ := Y2.out
  go_wp2_with fail
  refine (C3.out _ K2.out).mono ?_
  rintro e3 w3 ⟨rfl, hb3⟩
  have K3 := Lib.hid (K2.out.trans (keeps_below hb3))
  have B3 := Lib.hid (B2.out.trans (hb3.mono B2.out.size))
  have X3 := Lib.hid (X2.out.keep (keeps_below hb3))
  have Y3 := Lib.hid (Y2.out.keep (keeps_below hb3))
  clear hb3 p0 p1 p2 p3 p4 q0 q1 q2 q3 q4
  obtain ⟨p0, p1, p2, p3, p4⟩ := X3.out
  obtain ⟨q0, q1, q2, q3, q4⟩ := Y3.out
  go_wp2_with fail
  refine (C4.out _ K3.out).mono ?_
  rintro e4 w4 ⟨rfl, hb4⟩
  have K4 := Lib.hid (K3.out.trans (keeps_below hb4))
  have B4 := Lib.hid (B3.out.trans (hb4.mono B3.out.size))
  have X4 := Lib.hid (X3.out.keep (keeps_below hb4))
  have Y4 := Lib.hid (Y3.out.keep (keeps_below hb4))
  clear hb4 p0 p1 p2 p3 p4 q0 q1 q2 q3 q4
  obtain ⟨p0, p1, p2, p3, p4⟩ := X4.out
  obtain ⟨q0, q1, q2, q3, q4⟩ := Y4.out
  go_wp2_with fail
  refine (C5.out _ K4.out).mono ?_
  rintro e5 w5 ⟨rfl, hb5⟩
  have B5 := Lib.hid (B4.out.trans (hb5.mono B4.out.size))
  clear hb5
  go_wp2
  go_ret
  exact ⟨rfl, B5.out⟩
end Go.Proofs.Ytofmccihehalcaa.Trm
/- The law of EndOf out of two contracts, walked. Conditions: the arguments read; both sides answer the same. -/
namespace Go.Proofs.Ytofmccihehalcaa.FnExactEndOfW
open Go.RowKit Go.Proofs.Ytofmccihehalcaa.Own Trm
set_option maxHeartbeats 1600000 in
theorem core (x : KTree) (at' : Int) (v : Value) (w : World) (b : Int) (hl : KLies w x v) (hz : szK x ≤ 1048576)
    (c1 : ∀ lo v w, KOwn w lo x v → Calls Try.prog 5 #[v, .int .i64 at'] w fun e w' => e = .returned (.int .i64 b) ∧ Below w.heap.size w w')
    (c2 : ∀ lo v w, KOwn w lo x v → Calls Try.prog 7 #[v, .int .i64 at'] w fun e w' => e = .returned (.int .i64 b) ∧ Below w.heap.size w w') :
    Calls Try.prog 3 #[v, .int .i64 at'] w fun e w' => e = .returned (.bool true) ∧ Below w.heap.size w w' := by
  have C1 := Lib.hid c1
  have C2 := Lib.hid c2
  have CS := Lib.hid (fun y hk => szCode_any x v y 1048576 (by omega) (hl.keep hk))
  have CT := Lib.hid (fun y hk => toCode_any x v y hz (hl.keep hk))
  have CE := Lib.hid (eqCode_any x)
  have HZ := Lib.hid (leftR_yes hz)
  have hz2 : 0 ≤ ((1048576 - szK x : Nat) : Int) := by omega
  obtain ⟨ga0, gc0, ga1, gc1, ga2, gc2, ga3, gc3, ga4, gc4, rfl⟩ := hl.shape
  have X0 := Lib.hid (Box5.new w (.slice ga0 x.globals.length gc0) (.slice ga1 x.locks.length gc1) (.slice ga2 x.procs.length gc2) (.slice ga3 x.entry.length gc3) (.slice ga4 x.ins.length gc4) 26)
  clear c1 c2 hz hl
  go_enter Try.func3, Try.ntmps3
  go_wp2_with fail
  refine (CS.out _ (keeps_alloc _ _)).mono ?_
  rintro e w1 ⟨rfl, hb⟩
  rw [HZ.out]
  have B1 := Lib.hid (below_box1 hb)
  have X1 := Lib.hid (X0.out.keep (keeps_below hb))
  clear hb X0
  obtain ⟨p0, p1, p2, p3, p4⟩ := X1.out
  go_wp2_with fail
  refine (CT.out _ (keeps_below B1.out)).mono ?_
  rintro e w2 ⟨v2, rfl, ho, hb⟩
  have O2 := Lib.hid ho
  obtain ⟨_, _, _, _, _, _, _, _, _, _, rfl⟩ := ho.lies.shape
  have B2 := Lib.hid (B1.out.trans (hb.mono B1.out.size))
  have X2 := Lib.hid (X1.out.keep (keeps_below hb))
  clear ho hb p0 p1 p2 p3 p4
  go_wp2_with fail
  refine (C1.out _ _ _ O2.out).mono ?_
  rintro e w3 ⟨rfl, hb⟩
  have B3 := Lib.hid (B2.out.trans (hb.mono B2.out.size))
  have X3 := Lib.hid (X2.out.keep (keeps_below hb))
  clear hb
  obtain ⟨p0, p1, p2, p3, p4⟩ := X3.out
  go_wp2_with fail
  refine (CT.out _ (keeps_below B3.out)).mono ?_
  rintro e w4 ⟨v4, rfl, ho, hb⟩
  obtain ⟨ua0, uc0, ua1, uc1, ua2, uc2, ua3, uc3, ua4, uc4, rfl⟩ := ho.lies.shape
  have HO4 := Lib.hid ho
  have B4 := Lib.hid (B3.out.trans (hb.mono B3.out.size))
  have X4 := Lib.hid (X3.out.keep (keeps_below hb))
  clear ho hb p0 p1 p2 p3 p4
  have Y4 := Lib.hid (Box5.new w4 (.slice ua0 x.globals.length uc0) (.slice ua1 x.locks.length uc1) (.slice ua2 x.procs.length uc2) (.slice ua3 x.entry.length uc3) (.slice ua4 x.ins.length uc4) 31)
  have A4 := Lib.hid (HO4.out.below ((Below.refl w4.heap.size w4).alloc (Nat.le_refl _) (.cells #[.slice ua0 x.globals.length uc0, .slice ua1 x.locks.length uc1, .slice ua2 x.procs.length uc2, .slice ua3 x.entry.length uc3, .slice ua4 x.ins.length uc4] 31)))
  go_wp2_with fail
  refine (C2.out _ _ _ A4.out).mono ?_
  rintro e w5 ⟨rfl, hb⟩
  have B5 := Lib.hid ((B4.out.alloc B4.out.size _).trans (hb.mono (Nat.le_trans B4.out.size (by simp))))
  have X5 := Lib.hid (X4.out.keep ((keeps_alloc _ _).trans (keeps_below hb)))
  have Y5 := Lib.hid (Y4.out.keep (keeps_below hb))
  have L5 := Lib.hid (A4.out.lies.keep (keeps_below hb))
  clear hb
  obtain ⟨p0, p1, p2, p3, p4⟩ := X5.out
  obtain ⟨q0, q1, q2, q3, q4⟩ := Y5.out
  go_wp2
  go_region_with (first
    | (go_at_call 6; refine (CT.out _ ((keeps_below B5.out).trans (keeps_drew _))).mono ?_; rintro e w7 ⟨v7, rfl, ho, hb⟩; have HO7 := Lib.hid ho.lies; have HB7 := Lib.hid hb; have Y7 := Y5.out.keep ((keeps_drew _).trans (keeps_below hb)); clear ho hb; obtain ⟨r0, r1, r2, r3, r4⟩ := Y7)
    | (go_at_call 8; refine (CE.out _ _ _ (L5.out.keep ((keeps_drew _).trans (keeps_below HB7.out))) HO7.out).mono ?_; rintro e w8 ⟨rfl, hb⟩; have HB8 := Lib.hid hb; clear hb))
  all_goals
    go_wp2
    go_ret
    have B7 := B5.out.trans ((below_of_drew HB7.out).mono B5.out.size)
    exact ⟨rfl, B7.trans (HB8.out.mono B7.size)⟩
theorem big (x : KTree) (at' : Int) (v : Value) (w : World) (hl : KLies w x v) (hz : 1048576 < szK x) :
    Calls Try.prog 3 #[v, .int .i64 at'] w fun e w' => e = .returned (.bool true) ∧ Below w.heap.size w w' := by
  have CS := Lib.hid (fun y hk => szCode_any x v y 1048576 (by omega) (hl.keep hk))
  have HZ := Lib.hid (leftR_no (a := 1048576) (n := szK x) (by omega))
  obtain ⟨ga0, gc0, ga1, gc1, ga2, gc2, ga3, gc3, ga4, gc4, rfl⟩ := hl.shape
  clear hl hz
  go_enter Try.func3, Try.ntmps3
  go_wp2_with fail
  refine (CS.out _ (keeps_alloc _ _)).mono ?_
  rintro e w1 ⟨rfl, hb⟩
  rw [HZ.out]
  have B1 := Lib.hid (below_box1 hb)
  clear hb
  go_wp2
  go_ret
  exact ⟨rfl, B1.out⟩
end Go.Proofs.Ytofmccihehalcaa.FnExactEndOfW
/- The law of EndOf, walked. Conditions: the arguments read. -/
namespace Go.Proofs.Ytofmccihehalcaa.FnExactEndOfW
open Go.RowKit Go.Proofs.Ytofmccihehalcaa.Own Trm
set_option maxRecDepth 100000 in
theorem walk {H : Type} {enc : TypeId × Value → H} {base b0 : Nat} {spare : Nat → Bool} {held : Bool} {r : Reach} {d : DataW H} {p : List MemPlace} (v : Value) (a : Int) (w : World) (ok : Value.okWide Try.prog w r b0 26 v) (k : DataW.Trod enc Try.prog w base spare held 26 v d p) (wa : (Lit.int .i64 a).wf = true) :
    Calls Try.prog 3 #[v, .int .i64 a] w fun e w' => e = .returned (.bool true) ∧ Below w.heap.size w w' := by
  obtain ⟨x, hl⟩ := klies_of_Trod ok k
  by_cases hz : szK x ≤ 1048576
  · exact core x a v w (endZ x a) hl hz (fun _ v w h => specEndOf_any x a v w h.kin hz) (fun _ v w h => implEndOf_any x a v w h.lies hz (bounds_i64 wa))
  · exact big x a v w hl (by omega)
end Go.Proofs.Ytofmccihehalcaa.FnExactEndOfW
