/- The model's l05Fix, walked: the procedures that drawn statements call or start are drawn anew, in place. Conditions: the statements lie in rows of the call's own; the cursor and the names are older. -/
import Derived.Test.YtkfeiekgdfklmaaGreatDoorDrawList
import Derived.Deep.DeepCutAuto
namespace Go.Proofs.YtkfeiekgdfklmaaGreatDoor.Cur
open Go.RowKit Own Trm Lexs
/-- What is not among P is as it was. -/
def Ch (P : Nat → Prop) (w w' : World) : Prop := w'.os = w.os ∧ w'.tape = w.tape ∧ w'.output = w.output ∧ w.heap.size ≤ w'.heap.size ∧ ∀ k, k < w.heap.size → ¬ P k → w'.heap[k]? = w.heap[k]?
theorem Ch.refl (P : Nat → Prop) (w : World) : Ch P w w := ⟨rfl, rfl, rfl, Nat.le_refl _, fun _ _ _ => rfl⟩
theorem Ch.trans {P : Nat → Prop} {a b c : World} (h : Ch P a b) (k : Ch P b c) : Ch P a c :=
  ⟨k.1.trans h.1, k.2.1.trans h.2.1, k.2.2.1.trans h.2.2.1, Nat.le_trans h.2.2.2.1 k.2.2.2.1, fun i h1 h2 => (k.2.2.2.2 i (Nat.lt_of_lt_of_le h1 h.2.2.2.1) h2).trans (h.2.2.2.2 i h1 h2)⟩
theorem Ch.mono {P Q : Nat → Prop} {a b : World} (h : Ch P a b) (hq : ∀ k, P k → Q k) : Ch Q a b := ⟨h.1, h.2.1, h.2.2.1, h.2.2.2.1, fun i h1 h2 => h.2.2.2.2 i h1 (fun e => h2 (hq i e))⟩
theorem Ch.grown {a b : World} {r : Option Nat} (h : a.grownBy b r) : Ch (fun k => r = some k) a b := ⟨h.os, h.tape, h.output, h.size, fun k h1 h2 => h.block k h1 (fun e => h2 e.symm)⟩
theorem Ch.set (w : World) (g j : Nat) (u : Value) : Ch (fun k => k = g) w (w.setCell ⟨g, j, none⟩ u) := ⟨rfl, rfl, rfl, by simp, fun k _ h2 => heap_setCell_other _ _ _ _ (by simp; omega)⟩
theorem Ch.size {P : Nat → Prop} {a b : World} (h : Ch P a b) : a.heap.size ≤ b.heap.size := h.2.2.2.1
theorem Ch.block {P : Nat → Prop} {a b : World} (h : Ch P a b) (k : Nat) (h1 : k < a.heap.size) (h2 : ¬ P k) : b.heap[k]? = a.heap[k]? := h.2.2.2.2 k h1 h2
theorem DL.len {w : World} {g : Option Nat} : ∀ {xs : List STree} {lo hi : Nat} {cs : List Value}, DL w g lo hi xs cs → cs.length = xs.length * 8
  | [], _, _, _, h => by rw [h.1]; rfl
  | x :: r, lo, hi, cs, h => by
    obtain ⟨kv, bv, ev, rest, a, b, rfl, _, _, _, h4⟩ := h
    rw [List.length_append, DL.len h4, List.length_cons]; simp [cellsX]; omega
/-- The statement at a place, those ahead of it and behind it. -/
theorem DL.split {w : World} {g : Option Nat} : ∀ {ys : List STree} {x : STree} {r : List STree} {lo hi : Nat} {cs : List Value}, DL w g lo hi (ys ++ x :: r) cs →
    ∃ (c1 c2 : List Value) (kv bv ev : Value) (a b : Nat), cs = c1 ++ (cellsX x kv bv ev ++ c2) ∧ DL w g lo a ys c1 ∧ (∀ q, g = some q → q < a ∨ b ≤ q) ∧ DX w a b x (aggX x kv bv ev) ∧ DL w g b hi r c2
  | [], x, r, lo, hi, cs, h => by
    obtain ⟨kv, bv, ev, rest, a, b, rfl, h1, h2, h3, h4⟩ := h
    exact ⟨[], rest, kv, bv, ev, a, b, by simp, ⟨rfl, h1⟩, h2, h3, h4⟩
  | y :: ys, x, r, lo, hi, cs, h => by
    obtain ⟨kv, bv, ev, rest, a, b, rfl, h1, h2, h3, h4⟩ := h
    obtain ⟨c1, c2, kv', bv', ev', a', b', rfl, e1, e2, e3, e4⟩ := DL.split h4
    exact ⟨cellsX y kv bv ev ++ c1, c2, kv', bv', ev', a', b', by simp, ⟨kv, bv, ev, c1, a, b, rfl, h1, h2, h3, e1⟩, e2, e3, e4⟩
theorem DL.join {w : World} {g : Option Nat} {ys r : List STree} {x : STree} {lo a b hi : Nat} {c1 c2 : List Value} {kv bv ev : Value} (h1 : DL w g lo a ys c1) (hg : ∀ q, g = some q → q < a ∨ b ≤ q) (h2 : DX w a b x (aggX x kv bv ev)) (h3 : DL w g b hi r c2) :
    DL w g lo hi (ys ++ x :: r) (c1 ++ (cellsX x kv bv ev ++ c2)) := h1.append ⟨kv, bv, ev, c2, a, b, rfl, Nat.le_refl _, hg, h2, h3⟩
/-- The names that procedures have, in older memory. -/
def PsAt (w : World) (gp o : Nat) (ps : List ByteArray) : Prop := ∀ i (h : i < ps.length), w.cell? ⟨gp, o + i, none⟩ = some (.string ps[i])
theorem PsAt.keep {w w' : World} {gp o : Nat} {ps : List ByteArray} {P : Nat → Prop} (h : PsAt w gp o ps) (hc : Ch P w w') (hn : ¬ P gp) : PsAt w' gp o ps := fun i hi => by
  have h1 := h i hi
  rw [← h1]
  exact World.cell?_of_block (hc.block gp (cell_lt h1) hn)
theorem At.ch {W0 w w' : World} {c : Nat} {bs : List UInt8} {bv : Value} {s : St} {P : Nat → Prop} (h : At W0 w c bs bv s) (hg : Ch P w w') (hr : ∀ k, P k → W0.heap.size ≤ k) (hc : ¬ P c) : At W0 w' c bs bv s :=
  ⟨h.bytes, ⟨hg.1.trans h.old.os, hg.2.1.trans h.old.tape, hg.2.2.1.trans h.old.output, Nat.le_trans h.old.size hg.size, fun k hk => (hg.block k (Nat.lt_of_lt_of_le hk h.old.size) (fun e => by have := hr k e; omega)).trans (h.old.block k hk)⟩, h.new, (hg.block c (cell_lt h.cells.1) hc).trans h.block, h.le, h.hI⟩
def FixOk (bs : List UInt8) (ps : List ByteArray) (xs : List STree) : Prop := ∀ (W0 w : World) (c : Nat) (bv : Value) (s : St) (lo hi gp o pc : Nat) (v : Value), At W0 w c bs bv s → c < lo → gp < lo → gp ≠ c → hi ≤ w.heap.size → PsAt w gp o ps → DK w lo hi xs v →
    Calls Tryz.prog 88 #[.pointer (some ⟨c, 0, none⟩), v, .slice (some ⟨gp, o, none⟩) ps.length pc] w fun e w' => e = .returned v ∧ DK w' lo hi (fixXS bs ps xs s).1 v ∧ At W0 w' c bs bv (fixXS bs ps xs s).2 ∧ Ch (fun k => k = c ∨ (lo ≤ k ∧ k < hi)) w w'
theorem mid_cell {w : World} {lo g n cap j : Nat} {c1 c2 : List Value} {x : STree} {kv bv ev : Value} (hr : w.ownsRow lo 36 8 (.slice (some ⟨g, 0, none⟩) n cap) n (c1 ++ (cellsX x kv bv ev ++ c2))) (h1 : c1.length = j * 8) (i : Nat) (hi : i < 8) : w.cell? ⟨g, j * 8 + i, none⟩ = (cellsX x kv bv ev)[i]? := by
  have hl := hr.1
  have hlx : (cellsX x kv bv ev).length = 8 := rfl
  rw [List.length_append, List.length_append, h1, hlx] at hl
  rw [hr.cellAt (j * 8 + i) (by omega), List.getElem?_append_right (by omega), h1, List.getElem?_append_left (by rw [hlx]; omega)]
  congr 1
  omega
theorem mid_set (c1 c2 : List Value) (x : STree) (kv bv ev : Value) (j : Nat) (h1 : c1.length = j * 8) (i : Nat) (hi : i < 8) (u : Value) : (c1 ++ (cellsX x kv bv ev ++ c2)).set (j * 8 + i) u = c1 ++ ((cellsX x kv bv ev).set i u ++ c2) := by
  have hlx : (cellsX x kv bv ev).length = 8 := rfl
  rw [List.set_append_right _ _ (by omega), List.set_append_left _ _ (by rw [hlx]; omega), h1]
  congr 3
  omega
theorem row_free_all {w : World} {base : Nat} {e : TypeId} {size n cap : Nat} {g : Nat} {xs : List Value} (h : w.ownsRow base e size (.slice (some ⟨g, 0, none⟩) n cap) n xs) (j : Nat) : w.frozen? ⟨g, j, none⟩ = false := by
  obtain ⟨cur, T, hb⟩ := row_free h
  exact frozen_of_row w g j _ _ hb
set_option maxHeartbeats 3200000 in
theorem fix_list (bs : List UInt8) (ps : List ByteArray) (hp : 0 < ps.length) (hp2 : ps.length ≤ 1000) (hps : ∀ n, n ∈ ps → n.size ≤ 9223372036854775807) (xs : List STree) (ih : ∀ x, x ∈ xs → FixOk bs ps x.body ∧ FixOk bs ps x.els) : FixOk bs ps xs := fun W0 w c bv s lo hi gp o pc v hA hcl hgl hgc hhi hP hK => by
  obtain ⟨hlen, va, vc, rfl, _⟩ := hK.lies.1
  have IH := Lib.hid ih
  have HA := Lib.hid hA
  have HP := Lib.hid hP
  have HK0 := Lib.hid hK
  clear ih hA hP hK
  go_enter Tryz.func88, Tryz.ntmps88
  go_wp2
  go_loopw [7] (fun i wr => ∃ (j : Nat) (ys : List STree) (s2 : St), j ≤ xs.length ∧ i = .int .i64 j ∧ Hid (ys.length = j) ∧ Hid (fixXS bs ps xs s = (ys ++ (fixXS bs ps (xs.drop j) s2).1, (fixXS bs ps (xs.drop j) s2).2)) ∧ Hid (DK wr lo hi (ys ++ xs.drop j) (.slice va xs.length vc)) ∧ Hid (At W0 wr c bs bv s2) ∧ Hid (Ch (fun k => k = c ∨ (lo ≤ k ∧ k < hi)) w wr))
    (fun i _ => xs.length - (intOf i).toNat)
  case atStart => exact ⟨0, [], s, Nat.zero_le _, rfl, rfl, by show _ = _; simp, HK0.out, HA.out, Ch.refl _ _⟩
  case round =>
    obtain ⟨j, ys, s2, hj, rfl, hy, hE, hK, hA, hC⟩ := hrel
    by_cases hlt : j < xs.length
    · have hd : xs.drop j = xs[j] :: xs.drop (j + 1) := List.drop_eq_getElem_cons hlt
      have hin := Lib.hid (IH.out xs[j] (List.getElem_mem hlt))
      have hrl : (xs.drop (j + 1)).length = xs.length - (j + 1) := List.length_drop
      generalize hxx : xs[j] = x at hin hd
      generalize hrr : xs.drop (j + 1) = r at hd hrl
      have HRR := Lib.hid hrr
      have hK2 := hK.out
      have hE2 := hE.out
      rw [hd] at hK2 hE2
      obtain ⟨cs, hr, hq, hl⟩ := hK2
      have hyl := hy.out
      rw [List.length_append, List.length_cons, hrl, hyl, show j + (xs.length - (j + 1) + 1) = xs.length from by omega] at hr
      obtain ⟨g, cap, e, hlg, _⟩ := hr.form (by omega)
      simp at e
      obtain ⟨rfl, rfl⟩ := e
      have hgh := hq g rfl
      obtain ⟨c1, c2, kv, bv2, ev, a, b, rfl, l1, hab, hd2, l2⟩ := hl.split
      have hc1 : c1.length = j * 8 := by rw [l1.len, hyl]
      have hgab := hab g rfl
      obtain ⟨h1, h2, kv', bv', ev', m1, m2, e, hm1, ht, hb, he⟩ := hd2.parts
      simp [aggX] at e
      obtain ⟨rfl, rfl, rfl⟩ := e
      have hla := l1.le
      have hm2 := hb.le
      have hmb := he.le
      have hbh := l2.le
      obtain ⟨_, ba, bc, rfl, _⟩ := hb.lies.1
      obtain ⟨_, ea, ec, rfl, _⟩ := he.lies.1
      have c0 : wr.cell? ⟨g, j * 8, none⟩ = some (.int .i64 x.kind) := by
        have := mid_cell hr hc1 0 (by omega)
        rw [Nat.add_zero] at this
        exact this
      have hwr := hC.out.size
      have HR := Lib.hid hr
      have HC1 := Lib.hid hc1
      have L1 := Lib.hid l1
      have L2 := Lib.hid l2
      have HT := Lib.hid ht
      have HB := Lib.hid hb
      have HE := Lib.hid he
      have H1 := Lib.hid h1
      have H2 := Lib.hid h2
      have HPS := Lib.hid hps
      have HHE := Lib.hid hE2
      have HYL := Lib.hid hyl
      have HXX := Lib.hid hxx
      have HRL := Lib.hid hrl
      have HAB := Lib.hid hab
      have hpm := pickN_lt bs ps.length s2 hp
      clear hr hq hl hc1 l1 l2 ht hb he h1 h2 hE2 hyl hxx hrl hd hd2 hrr hab hK hE
      go_upto_region 4 with fail
      obtain ⟨B, hB⟩ : ∃ B : Bool, B = decide (x.kind = 4 ∨ x.kind = 5) := ⟨_, rfl⟩
      go_cut [27] (fun s27 wx => s27 = .bool B ∧ wx = wr)
      case first =>
        rcases (by omega : x.kind = 4 ∨ (x.kind ≠ 4 ∧ x.kind = 5) ∨ (x.kind ≠ 4 ∧ x.kind ≠ 5)) with h4 | ⟨h4, h5⟩ | ⟨h4, h5⟩
        · have k4 : (x.kind == 4) = true := by simp [h4]
          have hb : B = true := by rw [hB]; simp [h4]
          clear h4
          go_wp2_with fail
          go_meet
          exact ⟨by rw [hb], rfl⟩
        · have k4 : (x.kind == 4) = false := by rw [beq_eq_false_iff_ne]; exact h4
          have k5 : (x.kind == 5) = true := by simp [h5]
          have hb : B = true := by rw [hB]; simp [h5]
          clear h4 h5
          go_wp2_with fail
          go_meet
          exact ⟨by rw [hb], rfl⟩
        · have k4 : (x.kind == 4) = false := by rw [beq_eq_false_iff_ne]; exact h4
          have k5 : (x.kind == 5) = false := by rw [beq_eq_false_iff_ne]; exact h5
          have hb : B = false := by rw [hB]; simp [h4, h5]
          clear h4 h5
          go_wp2_with fail
          go_meet
          exact ⟨by rw [hb], rfl⟩
      case rest =>
        obtain ⟨rfl, hwr0⟩ := hcut
        subst hwr0
        obtain ⟨wR, hwR⟩ : ∃ w0, w0 = wc := ⟨_, rfl⟩
        subst hwR
        have HBB := Lib.hid hB
        clear hB c0
        go_upto_if 27 with fail
        go_cut [] (fun wx => ∃ (nm : ByteArray) (sA : St), Hid (fixX bs ps x s2 = (.node x.kind nm x.term (fixXS bs ps x.body sA).1 (fixXS bs ps x.els (fixXS bs ps x.body sA).2).1, (fixXS bs ps x.els (fixXS bs ps x.body sA).2).2)) ∧ Hid (nm.size ≤ 9223372036854775807) ∧ Hid (Ch (fun k => k = c ∨ k = g) wR wx) ∧ Hid (At W0 wx c bs bv sA) ∧ Hid (wx.ownsRow lo 36 8 (.slice (some ⟨g, 0, none⟩) xs.length vc) xs.length (c1 ++ (cellsX (.node x.kind nm x.term x.body x.els) kv (.slice ba x.body.length bc) (.slice ea x.els.length ec) ++ c2))))
        case first =>
          cases B with
          | true =>
            have hk : x.kind = 4 ∨ x.kind = 5 := by have := HBB.out; simpa using this.symm
            have HFX : Hid (fixX bs ps x s2 = (.node x.kind (ps.getD (pickN bs ps.length s2) ByteArray.empty) x.term (fixXS bs ps x.body (belowS bs (ps.length : Int) s2)).1 (fixXS bs ps x.els (fixXS bs ps x.body (belowS bs (ps.length : Int) s2)).2).1, (fixXS bs ps x.els (fixXS bs ps x.body (belowS bs (ps.length : Int) s2)).2).2)) := by
              show _ = _
              cases x with
              | node k n t b e => simp only [STree.kind] at hk; simp only [fixX, STree.kind, STree.term, STree.body, STree.els]; rw [if_pos hk]
            have C := Lib.hid (below_any W0 wR c bs bv s2 (ps.length : Int) hA.out (by unfold InI; omega))
            rw [pickN_eq bs ps.length s2 hp] at C
            have hcell := (HP.out.keep hC.out (by omega)) (pickN bs ps.length s2) hpm
            have HNM : Hid (ps.getD (pickN bs ps.length s2) ByteArray.empty = ps[pickN bs ps.length s2]) := by show _ = _; simp [hpm]
            generalize ps.getD (pickN bs ps.length s2) ByteArray.empty = nm at HNM HFX
            generalize pickN bs ps.length s2 = m at C hpm hcell HNM
            obtain rfl := HNM.out
            clear HNM hk
            go_wp2_with fail
            refine C.out.mono ?_
            rintro e w1 ⟨rfl, hx1⟩
            have hcell1 : w1.cell? ⟨gp, o + m, none⟩ = some (.string ps[m]) := (World.cell?_of_block (hx1.2.block gp (cell_lt hcell) (by simp; omega))).trans hcell
            have R1 := Lib.hid (row_same (w' := w1) HR.out (fun k e => by cases e; exact hx1.2.block g (HR.out.lt g rfl).2 (by simp; omega)))
            have q11 : w1.cell? ⟨g, j * 8 + 1, none⟩ = some (.string x.name) := mid_cell R1.out HC1.out 1 (by omega)
            have f11 := row_free_all R1.out (j * 8 + 1)
            have A1 := Lib.hid hx1.1
            have G1 := Lib.hid (Ch.grown hx1.2)
            clear hx1 hcell
            go_wp2_with fail
            go_meet
            refine ⟨ps[m], _, HFX.out, HPS.out _ (List.getElem_mem _), (G1.out.mono (fun k e => .inl (by cases e; rfl))).trans ((Ch.set _ _ _ _).mono (fun k e => .inr e)), A1.out.put (by omega) _ _, ?_⟩
            have := (R1.out.stored (j * 8 + 1) (.string ps[m])).1
            rw [mid_set _ _ _ _ _ _ j HC1.out 1 (by omega)] at this
            exact this
          | false =>
            have hk : ¬ (x.kind = 4 ∨ x.kind = 5) := by have := HBB.out; simpa using this.symm
            have HFX : Hid (fixX bs ps x s2 = (.node x.kind x.name x.term (fixXS bs ps x.body s2).1 (fixXS bs ps x.els (fixXS bs ps x.body s2).2).1, (fixXS bs ps x.els (fixXS bs ps x.body s2).2).2)) := by
              show _ = _
              cases x with
              | node k n t b e => simp only [STree.kind] at hk; simp only [fixX, STree.kind, STree.name, STree.term, STree.body, STree.els]; rw [if_neg hk]
            clear hk
            go_wp2_with fail
            go_meet
            exact ⟨x.name, s2, HFX.out, H2.out, Ch.refl _ _, hA.out, HR.out⟩
        case rest =>
          obtain ⟨nm, sA, HFX, HNS, CA, AA, RA⟩ := hcut
          obtain ⟨wA, hwA0⟩ : ∃ w0, w0 = wc := ⟨_, rfl⟩
          subst hwA0
          have CA6 : wA.cell? ⟨g, j * 8 + 6, none⟩ = some (.slice ba x.body.length bc) := mid_cell RA.out HC1.out 6 (by omega)
          have fA6 := row_free_all RA.out (j * 8 + 6)
          have hwA := CA.out.size
          have B0 := Lib.hid (HB.out.same (w' := wA) (fun k h1 h2 => CA.out.block k (by omega) (by omega)))
          go_wp2_with fail
          refine (hin.out.1 W0 wA c bv _ m1 m2 gp o pc _ AA.out (by omega) (by omega) hgc (by omega) ((HP.out.keep hC.out (by omega)).keep CA.out (by omega)) B0.out).mono ?_
          rintro e w3 ⟨rfl, hk3, ha3, hc3⟩
          have K3 := Lib.hid hk3
          have A3 := Lib.hid ha3
          have C3 := Lib.hid hc3
          have R3 : Hid (w3.ownsRow lo 36 8 (.slice (some ⟨g, 0, none⟩) xs.length vc) xs.length (c1 ++ (cellsX (.node x.kind nm x.term x.body x.els) kv (.slice ba x.body.length bc) (.slice ea x.els.length ec) ++ c2))) := row_same RA.out (fun k e => by cases e; exact hc3.block g (RA.out.lt g rfl).2 (by omega))
          have f36 := row_free_all R3.out (j * 8 + 6)
          have q36 : w3.cell? ⟨g, j * 8 + 6, none⟩ = some (.slice ba x.body.length bc) := mid_cell R3.out HC1.out 6 (by omega)
          have R4 : Hid ((w3.setCell ⟨g, j * 8 + 6, none⟩ (.slice ba x.body.length bc)).ownsRow lo 36 8 (.slice (some ⟨g, 0, none⟩) xs.length vc) xs.length (c1 ++ (cellsX (.node x.kind nm x.term x.body x.els) kv (.slice ba x.body.length bc) (.slice ea x.els.length ec) ++ c2))) := by
            have := (R3.out.stored (j * 8 + 6) (.slice ba x.body.length bc)).1
            rw [mid_set _ _ _ _ _ _ j HC1.out 6 (by omega)] at this
            exact this
          have hs3 := hc3.size
          clear hk3 ha3 hc3 B0
          obtain ⟨w4, hw4⟩ : ∃ w4, w4 = w3.setCell ⟨g, j * 8 + 6, none⟩ (.slice ba x.body.length bc) := ⟨_, rfl⟩
          have C4 : Hid (Ch (fun k => k = g) w3 w4) := by rw [hw4]; exact Ch.set _ _ _ _
          rw [← hw4] at R4
          have CA7 : w4.cell? ⟨g, j * 8 + 7, none⟩ = some (.slice ea x.els.length ec) := mid_cell R4.out HC1.out 7 (by omega)
          have q47 : (w3.setCell ⟨g, j * 8 + 6, none⟩ (.slice ba x.body.length bc)).cell? ⟨g, j * 8 + 7, none⟩ = some (.slice ea x.els.length ec) := by rw [← hw4]; exact CA7
          have HW4 := Lib.hid hw4
          have hs4 := C4.out.size
          have E4 := Lib.hid (HE.out.same (w' := w4) (fun k h1 h2 => (C4.out.block k (by omega) (by omega)).trans ((C3.out.block k (by omega) (by omega)).trans (CA.out.block k (by omega) (by omega)))))
          have A4 := Lib.hid (A3.out.ch C4.out (fun k e => by subst e; have := A3.out.new; omega) (by omega))
          have P4 := Lib.hid ((((HP.out.keep hC.out (by omega)).keep CA.out (by omega)).keep C3.out (by omega)).keep C4.out (by omega))
          clear hw4 CA6 fA6
          go_wp2_with fail
          rw [← HW4.out]
          refine (hin.out.2 W0 w4 c bv _ m2 b gp o pc _ A4.out (by omega) (by omega) hgc (by omega) P4.out E4.out).mono ?_
          rintro e w5 ⟨rfl, hk5, ha5, hc5⟩
          have K5 := Lib.hid hk5
          have A5 := Lib.hid ha5
          have C5 := Lib.hid hc5
          have R5 : Hid (w5.ownsRow lo 36 8 (.slice (some ⟨g, 0, none⟩) xs.length vc) xs.length (c1 ++ (cellsX (.node x.kind nm x.term x.body x.els) kv (.slice ba x.body.length bc) (.slice ea x.els.length ec) ++ c2))) := row_same R4.out (fun k e => by cases e; exact hc5.block g (R4.out.lt g rfl).2 (by omega))
          have f57 := row_free_all R5.out (j * 8 + 7)
          have q57 : w5.cell? ⟨g, j * 8 + 7, none⟩ = some (.slice ea x.els.length ec) := mid_cell R5.out HC1.out 7 (by omega)
          have R6 : Hid ((w5.setCell ⟨g, j * 8 + 7, none⟩ (.slice ea x.els.length ec)).ownsRow lo 36 8 (.slice (some ⟨g, 0, none⟩) xs.length vc) xs.length (c1 ++ (cellsX (.node x.kind nm x.term x.body x.els) kv (.slice ba x.body.length bc) (.slice ea x.els.length ec) ++ c2))) := by
            have := (R5.out.stored (j * 8 + 7) (.slice ea x.els.length ec)).1
            rw [mid_set _ _ _ _ _ _ j HC1.out 7 (by omega)] at this
            exact this
          have hs5 := hc5.size
          clear hk5 ha5 hc5 E4
          have C6 : Hid (Ch (fun k => k = g) w5 (w5.setCell ⟨g, j * 8 + 7, none⟩ (.slice ea x.els.length ec))) := Ch.set _ _ _ _
          have A6 := Lib.hid (A5.out.ch C6.out (fun k e => by subst e; have := A5.out.new; omega) (by omega))
          have CC : Hid (Ch (fun k => k = c ∨ k = g ∨ (m1 ≤ k ∧ k < b)) wR (w5.setCell ⟨g, j * 8 + 7, none⟩ (.slice ea x.els.length ec))) := ((((CA.out.mono (fun k h => by omega)).trans (C3.out.mono (fun k h => by omega))).trans (C4.out.mono (fun k h => by omega))).trans (C5.out.mono (fun k h => by omega))).trans (C6.out.mono (fun k h => by omega))
          have C35 : Hid (Ch (fun k => k = c ∨ k = g ∨ (m2 ≤ k ∧ k < b)) w3 (w5.setCell ⟨g, j * 8 + 7, none⟩ (.slice ea x.els.length ec))) := (((C4.out.mono (fun k h => by omega))).trans (C5.out.mono (fun k h => by omega))).trans (C6.out.mono (fun k h => by omega))
          have HX : Hid (fixX bs ps x s2 = (.node x.kind nm x.term (fixXS bs ps x.body sA).1 (fixXS bs ps x.els (fixXS bs ps x.body sA).2).1, (fixXS bs ps x.els (fixXS bs ps x.body sA).2).2)) := HFX.out
          have K7 : Hid (DK (w5.setCell ⟨g, j * 8 + 7, none⟩ (.slice ea x.els.length ec)) lo hi ((ys ++ [(fixX bs ps x s2).1]) ++ xs.drop (j + 1)) (.slice (some ⟨g, 0, none⟩) xs.length vc)) := by
            show DK _ _ _ _ _
            rw [HX.out, HRR.out, List.append_assoc]
            refine ⟨c1 ++ (cellsX (.node x.kind nm x.term (fixXS bs ps x.body sA).1 (fixXS bs ps x.els (fixXS bs ps x.body sA).2).1) kv (.slice ba x.body.length bc) (.slice ea x.els.length ec) ++ c2), ?_, fun q e => by cases e; exact hgh, ?_⟩
            · rw [List.length_append, List.length_append, HYL.out, HRL.out, show j + ([STree.node x.kind nm x.term (fixXS bs ps x.body sA).1 (fixXS bs ps x.els (fixXS bs ps x.body sA).2).1].length + (xs.length - (j + 1))) = xs.length from by simp; omega]
              exact R6.out
            · refine DL.join (L1.out.same (fun k h1 h2 h3 => CC.out.block k (by omega) (fun e => by rcases e with e | e | e <;> first | omega | exact h3 (by rw [e]; rfl)))) (fun q e => by cases e; exact hgab) ?_ (L2.out.same (fun k h1 h2 h3 => CC.out.block k (by omega) (fun e => by rcases e with e | e | e <;> first | omega | exact h3 (by rw [e]; rfl))))
              exact DX.mk (x := .node x.kind nm x.term (fixXS bs ps x.body sA).1 (fixXS bs ps x.els (fixXS bs ps x.body sA).2).1) H1.out HNS.out hm1 (HT.out.keep (cut_same (Nat.le_refl _) (Nat.le_refl _) (fun k h1 h2 => CC.out.block k (by omega) (by omega)))) (K3.out.same (fun k h1 h2 => C35.out.block k (by omega) (by omega))) (K5.out.same (fun k h1 h2 => C6.out.block k (by omega) (by omega)))
          have C7 := Lib.hid (hC.out.trans (CC.out.mono (fun k h => by omega)))
          have HF : Hid (fixXS bs ps xs s = ((ys ++ [(fixX bs ps x s2).1]) ++ (fixXS bs ps (xs.drop (j + 1)) (fixX bs ps x s2).2).1, (fixXS bs ps (xs.drop (j + 1)) (fixX bs ps x s2).2).2)) := by
            show _ = _
            rw [HHE.out, HRR.out, fixXS]; simp
          have A7 : Hid (At W0 (w5.setCell ⟨g, j * 8 + 7, none⟩ (.slice ea x.els.length ec)) c bs bv (fixX bs ps x s2).2) := by
            show At _ _ _ _ _ _
            rw [HX.out]; exact A6.out
          have HYZ : Hid ((ys ++ [(fixX bs ps x s2).1]).length = j + 1) := by show _ = _; rw [List.length_append, HYL.out]; rfl
          clear A6 C35 CC HX K3 K5 A5 A4 P4 A3 C6 C5 C4 C3 R3 R4 R5 R6
          go_wp2
          go_roundw
          case rel => exact ⟨j + 1, _, _, by omega, by go_num, HYZ.out, HF.out, K7.out, A7.out, C7.out⟩
          case measure => simp [intOf]; omega
    · have HFE : Hid (fixXS bs ps xs s = (ys, s2)) := by
        show _ = _
        rw [hE.out, List.drop_of_length_le (by omega), fixXS]; simp
      have HK9 : Hid (DK wr lo hi (fixXS bs ps xs s).1 (.slice va xs.length vc)) := by
        show DK _ _ _ _ _
        rw [HFE.out]
        have := hK.out
        rw [List.drop_of_length_le (by omega), List.append_nil] at this
        exact this
      have HA9 : Hid (At W0 wr c bs bv (fixXS bs ps xs s).2) := by show At _ _ _ _ _ _; rw [HFE.out]; exact hA.out
      clear hE hK hA
      go_wp2
      go_ret
      exact ⟨rfl, HK9.out, HA9.out, hC.out⟩
theorem fix_any (bs : List UInt8) (ps : List ByteArray) (hp : 0 < ps.length) (hp2 : ps.length ≤ 1000) (hps : ∀ n, n ∈ ps → n.size ≤ 9223372036854775807) (xs : List STree) : FixOk bs ps xs :=
  fix_list bs ps hp hp2 hps xs fun x _ => streeInd (P := fun x => FixOk bs ps x.body ∧ FixOk bs ps x.els) (fun _ _ _ b e hb he => ⟨fix_list bs ps hp hp2 hps b hb, fix_list bs ps hp hp2 hps e he⟩) x
end Go.Proofs.YtkfeiekgdfklmaaGreatDoor.Cur
