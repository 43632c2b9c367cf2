/- The law FnSound, walked. Conditions: the argument reads; the four variables hold four errors of their own. With what it stands on, in one text. -/
import Derived.Test.YtkfeiekgdfklmaaGreatDoorSoPackC
import Derived.Test.YtkfeiekgdfklmaaGreatDoorSoPackH
import Derived.Test.YtkfeiekgdfklmaaGreatDoorSoPackI
import Derived.Test.YtkfeiekgdfklmaaGreatDoorSoPackE
import Derived.Deep.RegionHeld3
import Derived.Deep.CutBlock
import Derived.Deep.DeepCutAuto
import Derived.Deep.RegionLaw
import Derived.Test.YtkfeiekgdfklmaaGreatDoorRows
import Derived.LaidMore
import Derived.Stop.Joined
import Derived.Stop.LaidTwo
/- The law FnSound on a code of at most 2 to the 20 bytes, walked. Conditions: the code lies in memory; the four errors lie there. -/
namespace Go.Proofs.YtkfeiekgdfklmaaGreatDoor.FnSoundW
open Go.RowKit Own Trm Cur Er Lexs
theorem bytes_keep {w w' : World} {bs : List UInt8} {bv : Value} (h : BytesAt w bs bv) (hb : Below w.heap.size w w') : BytesAt w' bs bv := by
  obtain ⟨a, cap, e, h1, h2⟩ := h
  refine ⟨a, cap, e, h1, fun hp => ?_⟩
  obtain ⟨g, o, e2, h3⟩ := h2 hp
  exact ⟨g, o, e2, fun i hi => keeps_below hb _ _ (h3 i hi)⟩
theorem prog_some {w : World} {lo : Nat} {x : PTree} {gv lv : Value} {pa : Option Addr} {n c : Nat} (h : DProg w lo x (.agg #[gv, lv, .slice pa n c])) (hp : x.procs ≠ []) : ∃ gp, pa = some ⟨gp, 0, none⟩ ∧ gp < w.heap.size := by
  obtain ⟨g1, g2, lo2, pv, e, _, _, _, _, _, ⟨cs, h1, _⟩⟩ := h
  simp at e
  obtain ⟨rfl, rfl, rfl⟩ := e
  obtain ⟨g, cap, e, _, hlt⟩ := h1.form (List.length_pos_iff.2 hp)
  simp at e
  exact ⟨g, e.1, hlt⟩
theorem set_eight (cs : List Value) (m : Nat) (h : cs.length = m) (a0 a1 a2 a3 a4 a5 a6 a7 b0 b1 b2 b3 b4 b5 b6 b7 : Value) :
    ((((((((cs ++ [a0, a1, a2, a3, a4, a5, a6, a7]).set m b0).set (m + 1) b1).set (m + 2) b2).set (m + 3) b3).set (m + 4) b4).set (m + 5) b5).set (m + 6) b6).set (m + 7) b7 = cs ++ [b0, b1, b2, b3, b4, b5, b6, b7] := by
  subst h
  simp
theorem setCell_heap {w w' : World} {b i : Nat} {v : Value} (h : w.heap[b]? = w'.heap[b]?) : (w.setCell ⟨b, i, none⟩ v).heap[b]? = (w'.setCell ⟨b, i, none⟩ v).heap[b]? := by
  simp only [World.setCell, Array.getElem?_modify, h]
/-- What a word more behind the second procedure leaves of the program that was drawn. -/
theorem word_more {w2 W2 w3 w4 V : World} {o : Obj} {Q1 gp g4 : Nat} {own v' : Value} (hQ : Q1 = w2.heap.size) (h2 : ∀ k, k < Q1 → W2.heap[k]? = w2.heap[k]?) (hq : Q1 < W2.heap.size) (h3 : Below W2.heap.size W2 w3) (hg : (w3.alloc o).grownBy w4 own.ownBlock)
    (hat : own.ownBlock = some g4 ∨ W2.heap.size ≤ g4) (hown : ∀ k, own.ownBlock = some k → k < Q1) (hgp : gp < Q1) (hne : own.ownBlock ≠ some gp) (hV : ∀ q, q ≠ gp → q ≠ g4 → V.heap[q]? = w4.heap[q]?) (hV2 : V.heap[gp]? = (w4.setCell ⟨gp, 3, none⟩ v').heap[gp]?) :
    (∀ q, q < w2.heap.size → q ≠ gp → own.ownBlock ≠ some q → V.heap[q]? = w2.heap[q]?) ∧ V.heap[gp]? = (w2.setCell ⟨gp, 3, none⟩ v').heap[gp]? ∧ V.heap[Q1]? = W2.heap[Q1]? := by
  have hs3 := h3.size
  have step : ∀ q, q < W2.heap.size → own.ownBlock ≠ some q → w4.heap[q]? = W2.heap[q]? := fun q h1 h2 => (hg.block q (by simp; omega) (fun e => h2 e.symm)).trans ((Below.heap_alloc _ _ _ (by omega)).trans (h3.block q h1))
  refine ⟨fun q u1 u2 u3 => ?_, ?_, ?_⟩
  · rw [hV q u2 (fun e => by rcases hat with h | h; exact u3 (by rw [h, e]); omega), step q (by omega) u3, h2 q (by omega)]
  · rw [hV2]
    exact setCell_heap ((step gp (by omega) hne).trans (h2 gp hgp))
  · have hQo : own.ownBlock ≠ some Q1 := fun e => by have := hown _ e; omega
    rw [hV Q1 (by omega) (fun e => by rcases hat with h | h; exact hQo (by rw [h, e]); omega), step Q1 hq hQo]
/-- Eight cells, one behind the other. -/
def put8 (W : World) (g m : Nat) (b0 b1 b2 b3 b4 b5 b6 b7 : Value) : World := (((((((W.setCell ⟨g, m, none⟩ b0).setCell ⟨g, m + 1, none⟩ b1).setCell ⟨g, m + 2, none⟩ b2).setCell ⟨g, m + 3, none⟩ b3).setCell ⟨g, m + 4, none⟩ b4).setCell ⟨g, m + 5, none⟩ b5).setCell ⟨g, m + 6, none⟩ b6).setCell ⟨g, m + 7, none⟩ b7
theorem put8_row {W : World} {ab g n cap m : Nat} {cs : List Value} {a0 a1 a2 a3 a4 a5 a6 a7 : Value} (h : W.ownsRow ab 36 8 (.slice (some ⟨g, 0, none⟩) n cap) n (cs ++ [a0, a1, a2, a3, a4, a5, a6, a7])) (hm : cs.length = m) (b0 b1 b2 b3 b4 b5 b6 b7 : Value) :
    (put8 W g m b0 b1 b2 b3 b4 b5 b6 b7).ownsRow ab 36 8 (.slice (some ⟨g, 0, none⟩) n cap) n (cs ++ [b0, b1, b2, b3, b4, b5, b6, b7]) := by
  have t0 := (h.stored m b0).1
  have t1 := (t0.stored (m + 1) b1).1
  have t2 := (t1.stored (m + 2) b2).1
  have t3 := (t2.stored (m + 3) b3).1
  have t4 := (t3.stored (m + 4) b4).1
  have t5 := (t4.stored (m + 5) b5).1
  have t6 := (t5.stored (m + 6) b6).1
  have t7 := (t6.stored (m + 7) b7).1
  rw [set_eight cs m hm] at t7
  exact t7
theorem put8_heap (W : World) (g m : Nat) (b0 b1 b2 b3 b4 b5 b6 b7 : Value) {q : Nat} (hq : q ≠ g) : (put8 W g m b0 b1 b2 b3 b4 b5 b6 b7).heap[q]? = W.heap[q]? := by
  unfold put8
  rw [heap_setCell_other _ _ _ _ (by simpa using hq), heap_setCell_other _ _ _ _ (by simpa using hq), heap_setCell_other _ _ _ _ (by simpa using hq), heap_setCell_other _ _ _ _ (by simpa using hq), heap_setCell_other _ _ _ _ (by simpa using hq), heap_setCell_other _ _ _ _ (by simpa using hq), heap_setCell_other _ _ _ _ (by simpa using hq), heap_setCell_other _ _ _ _ (by simpa using hq)]
theorem put8_below {B : Nat} {w W : World} (h : Below B w W) {g : Nat} (hg : B ≤ g) (m : Nat) (b0 b1 b2 b3 b4 b5 b6 b7 : Value) : Below B w (put8 W g m b0 b1 b2 b3 b4 b5 b6 b7) :=
  (((((((h.setCell (p := ⟨g, m, none⟩) hg b0).setCell (p := ⟨g, m + 1, none⟩) hg b1).setCell (p := ⟨g, m + 2, none⟩) hg b2).setCell (p := ⟨g, m + 3, none⟩) hg b3).setCell (p := ⟨g, m + 4, none⟩) hg b4).setCell (p := ⟨g, m + 5, none⟩) hg b5).setCell (p := ⟨g, m + 6, none⟩) hg b6).setCell (p := ⟨g, m + 7, none⟩) hg b7
theorem box3_of {w w' : World} {b : Nat} {c0 c1 c2 : Value} (h : w'.heap[b]? = w.heap[b]?) (hx : Box3 w b c0 c1 c2) : Box3 w' b c0 c1 c2 := ⟨(World.cell?_of_block h).trans hx.1, (World.cell?_of_block h).trans hx.2.1, (World.cell?_of_block h).trans hx.2.2⟩
set_option maxRecDepth 20000 in
set_option maxHeartbeats 3200000 in
theorem core (bs : List UInt8) (bv : Value) (w : World) (hb : BytesAt w bs bv) (hl : bs.length ≤ 1048576) (a : Nat → Addr) (hE : Errs a w) :
    Calls Tryz.prog 3 #[bv] w fun e w' => e = .returned (.bool true) ∧ Below w.heap.size w w' := by
  have CB := Lib.hid (big_no bs bv w hb hl)
  have CD := Lib.hid (fun wx (hx : Below w.heap.size w wx) => drawProg_any bs bv wx (bytes_keep hb hx) hl)
  have HE := Lib.hid (fun wx (hx : Below w.heap.size w wx) => hE.below hx)
  obtain ⟨ba, bc, rfl, _, _⟩ := hb
  obtain ⟨p0, p1, r, hps⟩ := drawn_two bs
  have HPS := Lib.hid hps
  clear hE hl hps
  obtain ⟨x, hx⟩ : ∃ x, x = drawnP bs := ⟨_, rfl⟩
  have HX := Lib.hid hx
  rw [← hx] at HPS CD
  go_enter Tryz.func3, Tryz.ntmps3
  go_wp2_with fail
  refine CB.out.mono ?_
  rintro e w1 ⟨rfl, rfl⟩
  go_wp2_with fail
  refine (CD.out _ (Below.refl _ _)).mono ?_
  rintro e w1 ⟨v1, rfl, hd1, hb1⟩
  obtain ⟨g1, g2, pa1, pc1, rfl⟩ := hd1.shape
  have HO1 : Hid (POwn w1 x (.agg #[.slice (some ⟨g1, 0, none⟩) x.globals.length x.globals.length, .slice (some ⟨g2, 0, none⟩) x.locks.length x.locks.length, .slice pa1 x.procs.length pc1])) := by
    show POwn _ _ _
    rw [hx] at hd1 ⊢; exact drawnP_own hd1
  have B1 := Lib.hid hb1
  have X1 := Lib.hid (Box3.new w1 (.slice (some ⟨g1, 0, none⟩) x.globals.length x.globals.length) (.slice (some ⟨g2, 0, none⟩) x.locks.length x.locks.length) (.slice pa1 x.procs.length pc1) 27)
  have A1 : Hid (Below w.heap.size w (w1.alloc (.cells #[.slice (some ⟨g1, 0, none⟩) x.globals.length x.globals.length, .slice (some ⟨g2, 0, none⟩) x.locks.length x.locks.length, .slice pa1 x.procs.length pc1] 27))) := hb1.alloc hb1.size _
  have O1 : Hid (POwn (w1.alloc (.cells #[.slice (some ⟨g1, 0, none⟩) x.globals.length x.globals.length, .slice (some ⟨g2, 0, none⟩) x.locks.length x.locks.length, .slice pa1 x.procs.length pc1] 27)) x (.agg #[.slice (some ⟨g1, 0, none⟩) x.globals.length x.globals.length, .slice (some ⟨g2, 0, none⟩) x.locks.length x.locks.length, .slice pa1 x.procs.length pc1])) := HO1.out.below ((Below.refl _ _).alloc (Nat.le_refl _) _)
  have hw1 : w1.heap.size + 1 = (w1.alloc (.cells #[.slice (some ⟨g1, 0, none⟩) x.globals.length x.globals.length, .slice (some ⟨g2, 0, none⟩) x.locks.length x.locks.length, .slice pa1 x.procs.length pc1] 27)).heap.size := by simp
  clear hd1 hb1 hx HO1 B1
  go_wp2_with fail
  refine (CD.out _ A1.out).mono ?_
  rintro e w2 ⟨v2, rfl, hd2, hb2⟩
  obtain ⟨h1, h2, pa2, pc2, rfl⟩ := hd2.shape
  obtain ⟨gp, rfl, hgp⟩ := prog_some hd2 (by rw [HPS.out]; simp)
  rw [← hw1] at hd2
  obtain ⟨sa, sc, ab, cs, hn, hlo, _, e3, f3, hab, hab2, row, hne, cont⟩ := hd2.second HPS.out (by rw [HX.out, drawnP_globals]; decide) (by rw [HX.out, drawnP_locks]; decide) (by rw [HX.out, drawnP_globals]; exact glob_le) (by rw [HX.out, drawnP_locks]; exact lock_le)
  have HCT := Lib.hid cont
  have HNE := Lib.hid hne
  have HOB := Lib.hid (fun k e => row.lt k e)
  have hal := Below.heap_alloc w2 (.cells #[.slice (some ⟨h1, 0, none⟩) x.globals.length x.globals.length, .slice (some ⟨h2, 0, none⟩) x.locks.length x.locks.length, .slice (some ⟨gp, 0, none⟩) x.procs.length pc2] 27)
  have HW2 := Lib.hid hal
  have BW2 : Below w2.heap.size w2 (w2.alloc (.cells #[.slice (some ⟨h1, 0, none⟩) x.globals.length x.globals.length, .slice (some ⟨h2, 0, none⟩) x.locks.length x.locks.length, .slice (some ⟨gp, 0, none⟩) x.procs.length pc2] 27)) := (Below.refl _ _).alloc (Nat.le_refl _) _
  have E2 : Hid ((w2.alloc (.cells #[.slice (some ⟨h1, 0, none⟩) x.globals.length x.globals.length, .slice (some ⟨h2, 0, none⟩) x.locks.length x.locks.length, .slice (some ⟨gp, 0, none⟩) x.procs.length pc2] 27)).cell? ⟨gp, 3, none⟩ = some (.slice sa p1.body.length sc)) := keeps_alloc _ _ _ _ e3
  have F2 : Hid ((w2.alloc (.cells #[.slice (some ⟨h1, 0, none⟩) x.globals.length x.globals.length, .slice (some ⟨h2, 0, none⟩) x.locks.length x.locks.length, .slice (some ⟨gp, 0, none⟩) x.procs.length pc2] 27)).frozen? ⟨gp, 3, none⟩ = false) := (World.frozen?_of_block (BW2.block gp hgp)).trans f3
  have R2 : Hid ((w2.alloc (.cells #[.slice (some ⟨h1, 0, none⟩) x.globals.length x.globals.length, .slice (some ⟨h2, 0, none⟩) x.locks.length x.locks.length, .slice (some ⟨gp, 0, none⟩) x.procs.length pc2] 27)).ownsRow ab 36 8 (.slice sa p1.body.length sc) p1.body.length cs) := row.alloc _
  clear cont hne row e3 f3 hal BW2 hn
  have hs2 : w1.heap.size + 1 ≤ w2.heap.size := by have := hb2.size; simp at this; omega
  have hwp : w.heap.size ≤ w1.heap.size + 1 := by have := A1.out.size; simp at this; omega
  have A2 : Hid (Below w.heap.size w (w2.alloc (.cells #[.slice (some ⟨h1, 0, none⟩) x.globals.length x.globals.length, .slice (some ⟨h2, 0, none⟩) x.locks.length x.locks.length, .slice (some ⟨gp, 0, none⟩) x.procs.length pc2] 27))) := by
    have h := A1.out.trans (hb2.mono A1.out.size)
    exact h.alloc h.size _
  have HP : Hid (∀ wx, Below (w1.heap.size + 1) (w2.alloc (.cells #[.slice (some ⟨h1, 0, none⟩) x.globals.length x.globals.length, .slice (some ⟨h2, 0, none⟩) x.locks.length x.locks.length, .slice (some ⟨gp, 0, none⟩) x.procs.length pc2] 27)) wx → POwn wx x (.agg #[.slice (some ⟨g1, 0, none⟩) x.globals.length x.globals.length, .slice (some ⟨g2, 0, none⟩) x.locks.length x.locks.length, .slice pa1 x.procs.length pc1]) ∧ Box3 wx w1.heap.size (.slice (some ⟨g1, 0, none⟩) x.globals.length x.globals.length) (.slice (some ⟨g2, 0, none⟩) x.locks.length x.locks.length) (.slice pa1 x.procs.length pc1)) := fun wx h => by
    rw [hw1] at h
    have h2 := (hb2.alloc hb2.size _).trans h
    exact ⟨O1.out.below h2, X1.out.keep (keeps_below h2)⟩
  have Y2 : Hid (Box3 (w2.alloc (.cells #[.slice (some ⟨h1, 0, none⟩) x.globals.length x.globals.length, .slice (some ⟨h2, 0, none⟩) x.locks.length x.locks.length, .slice (some ⟨gp, 0, none⟩) x.procs.length pc2] 27)) w2.heap.size (.slice (some ⟨h1, 0, none⟩) x.globals.length x.globals.length) (.slice (some ⟨h2, 0, none⟩) x.locks.length x.locks.length) (.slice (some ⟨gp, 0, none⟩) x.procs.length pc2)) := Box3.new _ _ _ _ _
  have hq2 : w2.heap.size < (w2.alloc (.cells #[.slice (some ⟨h1, 0, none⟩) x.globals.length x.globals.length, .slice (some ⟨h2, 0, none⟩) x.locks.length x.locks.length, .slice (some ⟨gp, 0, none⟩) x.procs.length pc2] 27)).heap.size := by simp
  have HLEN : Hid (x.procs.length = r.length + 2) := by show _ = _; rw [HPS.out]; rfl
  have h63 : x.procs.length ≤ 9223372036854775807 := by obtain ⟨_, _, _, _, _, _, _, _, _, h⟩ := O1.out.lies; exact h.1
  obtain ⟨W2, hW2⟩ : ∃ W, W = w2.alloc (.cells #[.slice (some ⟨h1, 0, none⟩) x.globals.length x.globals.length, .slice (some ⟨h2, 0, none⟩) x.locks.length x.locks.length, .slice (some ⟨gp, 0, none⟩) x.procs.length pc2] 27) := ⟨_, rfl⟩
  clear hd2 hb2 X1 A1 O1
  go_upto_region 5 with fail
  rw [← hW2] at A2 HP Y2 HW2 E2 F2 R2 hq2
  rw [← hW2]
  clear hW2
  obtain ⟨P1, hP1⟩ : ∃ n, n = w1.heap.size := ⟨_, rfl⟩
  obtain ⟨Q1, hQ1⟩ : ∃ n, n = w2.heap.size := ⟨_, rfl⟩
  rw [← hP1] at HP hs2 hlo hab hwp
  rw [← hP1] at HCT
  rw [← hQ1] at Y2 hq2 hs2 hgp HOB HW2 HCT hab2
  have HQ1 := Lib.hid hQ1
  rw [← hP1, ← hQ1]
  clear hP1 hQ1 hw1
  go_cut [15] (fun s15 wx => ∃ b : Bool, s15 = .bool b ∧ Hid (Below W2.heap.size W2 wx))
  case first =>
    go_wp2_with fail
    go_region
    all_goals
      first | go_meet | (go_wp2_with fail; go_meet)
      exact ⟨_, rfl, ((Below.refl _ _).alloc (Nat.le_refl _) _).drew⟩
  case rest =>
    obtain ⟨b, rfl, hbc⟩ := hcut
    obtain ⟨w3, hw3⟩ : ∃ w0, w0 = wc := ⟨_, rfl⟩
    subst hw3
    have hs3 : W2.heap.size ≤ w3.heap.size := hbc.out.size
    have Y3 := Lib.hid (Y2.out.keep (keeps_below hbc.out))
    have e3 := keeps_below hbc.out _ _ E2.out
    have f3 := (World.frozen?_of_block (hbc.out.block gp (by omega))).trans F2.out
    have HROW := Lib.hid (row_below R2.out hbc.out)
    have hbl : p1.body.length ≤ 3000 := by
      have h1 : p1 ∈ (drawnP bs).procs := by rw [← HX.out, HPS.out]; simp
      have h2 := drawnP_pr bs p1 h1
      unfold szPr at h2
      omega
    obtain ⟨i0, hi, hz0, hz1, hz2⟩ := info_parts infoStmtD
    obtain ⟨y0, y1, y2⟩ := Y3.out
    have hn1 : (1 : Int) < (x.procs.length : Int) := by have := HLEN.out; omega
    have hn2 : 1 < x.procs.length := by have := HLEN.out; omega
    go_upto_if 15 with fail
    go_cut [] (fun wx => Hid (Below (P1 + 1) W2 wx) ∧ Hid (Box3 wx Q1 (.slice (some ⟨h1, 0, none⟩) x.globals.length x.globals.length) (.slice (some ⟨h2, 0, none⟩) x.locks.length x.locks.length) (.slice (some ⟨gp, 0, none⟩) x.procs.length pc2)) ∧ Hid (POwn wx ⟨x.globals, x.locks, p0 :: ⟨p1.name, p1.body ++ [.node 6 nopeB zT [] []]⟩ :: r⟩ (.agg #[.slice (some ⟨h1, 0, none⟩) x.globals.length x.globals.length, .slice (some ⟨h2, 0, none⟩) x.locks.length x.locks.length, .slice (some ⟨gp, 0, none⟩) x.procs.length pc2])) ∧ w3.heap.size ≤ wx.heap.size)
    case first =>
      cases b with
      | true =>
        go_wp2_with (at_builtin; refine wpList_append_lies _ rfl (.tmp 20) (.tmp 23) 29 rfl ab 36 i0 (.agg #[.int .i64 0, .string ⟨#[]⟩, .int .i64 0, .int .i64 0, .string ⟨#[]⟩, .slice none 0 0, .slice none 0 0, .slice none 0 0]) 8 128 Tryz.underlying29 hi hz0 hz1 hz2 rfl (by decide) (.slice sa p1.body.length sc) p1.body.length cs rfl (HROW.out.alloc _) ⟨w3.heap.size, 0, none⟩ 1 1 (cellsW 0 ⟨#[]⟩) rfl rfl (World.news_of_block (heap_alloc_new _ _)) (one_cellsW _ _) (by decide) (by unfold maxLen; omega) (by omega) (by simp; omega) _ rfl ?_)
        intro g4 cap4 w4 hown hg4 hat4 hlt4
        have z3 : w4.cell? ⟨gp, 3, none⟩ = some (.slice sa p1.body.length sc) := (World.cell?_of_block (hg4.block gp (by simp; omega) (fun e => HNE.out e.symm))).trans (keeps_alloc _ _ _ _ e3)
        have zf : w4.frozen? ⟨gp, 3, none⟩ = false := (World.frozen?_of_block (hg4.block gp (by simp; omega) (fun e => HNE.out e.symm))).trans ((World.frozen?_of_block (Below.heap_alloc w3 _ gp (by omega))).trans f3)
        have hgg : g4 ≠ gp := fun e => by
          rcases hat4 with h | h
          · rw [e] at h; exact HNE.out h
          · omega
        go_upto_region 7 with fail
        have R5 : Hid ((w4.setCell ⟨gp, 3, none⟩ (.slice (some ⟨g4, 0, none⟩) (p1.body.length + 1) cap4)).ownsRow ab 36 8 (.slice (some ⟨g4, 0, none⟩) (p1.body.length + 1) cap4) (p1.body.length + 1) (cs ++ cellsW 0 ⟨#[]⟩)) := row_same hown (fun q e => heap_setCell_other _ _ _ _ (by simp [Value.ownBlock] at e; subst e; exact hgg))
        have hcl : cs.length = p1.body.length * 8 := HROW.out.1
        obtain ⟨W5, hW5⟩ : ∃ W, W = w4.setCell ⟨gp, 3, none⟩ (.slice (some ⟨g4, 0, none⟩) (p1.body.length + 1) cap4) := ⟨_, rfl⟩
        rw [← hW5] at R5
        rw [← hW5]
        have HW5 := Lib.hid hW5
        clear hW5
        have CL : ∀ k (hk : k < 8), W5.cell? ⟨g4, p1.body.length * 8 + k, none⟩ = (cellsW 0 ⟨#[]⟩)[k]? := fun k hk => by
          rw [R5.out.cellAt (p1.body.length * 8 + k) (by omega), List.getElem?_append_right (by omega), hcl]
          congr 1
          omega
        have FL : ∀ k, W5.frozen? ⟨g4, p1.body.length * 8 + k, none⟩ = false := fun k => R5.out.frozenAt _
        have k0 := CL 0 (by omega)
        have k1 := CL 1 (by omega)
        have k2 := CL 2 (by omega)
        have k3 := CL 3 (by omega)
        have k4 := CL 4 (by omega)
        have k5 := CL 5 (by omega)
        have k6 := CL 6 (by omega)
        have k7 := CL 7 (by omega)
        simp only [cellsW, List.getElem?_cons_zero, List.getElem?_cons_succ, Nat.add_zero] at k0 k1 k2 k3 k4 k5 k6 k7
        have l0 := FL 0
        rw [Nat.add_zero] at l0
        have l1 := FL 1
        have l2 := FL 2
        have l3 := FL 3
        have l4 := FL 4
        have l5 := FL 5
        have l6 := FL 6
        have l7 := FL 7
        clear CL FL
        have hg1 : P1 + 1 ≤ g4 := by
          rcases hat4 with h | h
          · have := HROW.out.lt g4 h; omega
          · omega
        have B5 : Below (P1 + 1) W2 W5 := by
          rw [HW5.out]
          have q0 : Below (P1 + 1) W2 (w3.alloc (.cells #[.int .i64 0, .string ⟨#[]⟩, .int .i64 0, .int .i64 0, .string ⟨#[]⟩, .slice none 0 0, .slice none 0 0, .slice none 0 0] 36)) := (hbc.out.mono (by omega)).alloc (by omega) _
          exact (q0.grown hg4 (by simp; omega) (fun k e => by have := HROW.out.lt k e; omega)).setCell (by simp; omega) _
        have R8 := Lib.hid (put8_row R5.out hcl (.int .i64 6) (.string nopeB) (.int .i64 0) (.int .i64 0) (.string ⟨#[]⟩) (.slice none 0 0) (.slice none 0 0) (.slice none 0 0))
        have B8 := Lib.hid (put8_below B5 hg1 (p1.body.length * 8) (.int .i64 6) (.string nopeB) (.int .i64 0) (.int .i64 0) (.string ⟨#[]⟩) (.slice none 0 0) (.slice none 0 0) (.slice none 0 0))
        have H8 := Lib.hid (fun q (hq : q ≠ g4) => put8_heap W5 g4 (p1.body.length * 8) (.int .i64 6) (.string nopeB) (.int .i64 0) (.int .i64 0) (.string ⟨#[]⟩) (.slice none 0 0) (.slice none 0 0) (.slice none 0 0) hq)
        have hsz5 : w3.heap.size ≤ W5.heap.size := by rw [HW5.out]; have := hg4.size; simp at this ⊢; omega
        have hat5 : (Value.slice sa p1.body.length sc).ownBlock = some g4 ∨ W2.heap.size ≤ g4 := hat4.imp id (fun h => by omega)
        have HG4 := Lib.hid hg4
        clear hown hg4 hat4 B5
        go_wp2_with fail
        have M := word_more (v' := .slice (some ⟨g4, 0, none⟩) (p1.body.length + 1) cap4) HQ1.out HW2.out hq2 hbc.out HG4.out hat5 (fun k e => by have := (HOB.out k e).2; have := HQ1.out; omega) hgp HNE.out (V := put8 W5 g4 (p1.body.length * 8) (.int .i64 6) (.string nopeB) (.int .i64 0) (.int .i64 0) (.string ⟨#[]⟩) (.slice none 0 0) (.slice none 0 0) (.slice none 0 0))
          (fun q u1 u2 => by rw [H8.out q u2, HW5.out, heap_setCell_other _ _ _ _ (by simpa using u1)])
          (by rw [H8.out gp (fun e => hgg e.symm), HW5.out])
        have PN := HCT.out _ _ 6 nopeB ab (by unfold InI; omega) (by decide) (fun q _ u2 u3 u4 => M.1 q (by have := HQ1.out; omega) u3 u4) M.2.1 R8.out
        have YN : Box3 (put8 W5 g4 (p1.body.length * 8) (.int .i64 6) (.string nopeB) (.int .i64 0) (.int .i64 0) (.string ⟨#[]⟩) (.slice none 0 0) (.slice none 0 0) (.slice none 0 0)) Q1 (.slice (some ⟨h1, 0, none⟩) x.globals.length x.globals.length) (.slice (some ⟨h2, 0, none⟩) x.locks.length x.locks.length) (.slice (some ⟨gp, 0, none⟩) x.procs.length pc2) := box3_of M.2.2 Y2.out
        clear M
        go_meet
        exact ⟨B8, YN, PN, by simp; omega⟩
      | false =>
        have y2d : w3.drew.cell? ⟨Q1, 2, none⟩ = some (.slice (some ⟨gp, 0, none⟩) x.procs.length pc2) := y2
        have e3d : w3.drew.cell? ⟨gp, 3, none⟩ = some (.slice sa p1.body.length sc) := e3
        have hQo : (Value.slice sa p1.body.length sc).ownBlock ≠ some Q1 := fun e => by have := (HOB.out _ e).2; have := HQ1.out; omega
        go_upto_region 8 with fail
        have y2a : (w3.alloc (.cells #[.int .i64 6, .string ⟨#[110, 111, 112, 101]⟩, .int .i64 0, .int .i64 0, .string ⟨#[]⟩, .slice none 0 0, .slice none 0 0, .slice none 0 0] 36)).cell? ⟨Q1, 2, none⟩ = some (.slice (some ⟨gp, 0, none⟩) x.procs.length pc2) := keeps_alloc _ _ _ _ y2
        have e3a : (w3.alloc (.cells #[.int .i64 6, .string ⟨#[110, 111, 112, 101]⟩, .int .i64 0, .int .i64 0, .string ⟨#[]⟩, .slice none 0 0, .slice none 0 0, .slice none 0 0] 36)).cell? ⟨gp, 3, none⟩ = some (.slice sa p1.body.length sc) := keeps_alloc _ _ _ _ e3
        go_region_law
          (first
          | (refine step_append_lies _ rfl (.tmp 34) (.tmp 36) 29 rfl ab 36 i0 (.agg #[.int .i64 0, .string ⟨#[]⟩, .int .i64 0, .int .i64 0, .string ⟨#[]⟩, .slice none 0 0, .slice none 0 0, .slice none 0 0]) 8 128 Tryz.underlying29 hi hz0 hz1 hz2 rfl (by decide) (.slice sa p1.body.length sc) p1.body.length cs rfl (HROW.out.alloc _) ⟨w3.heap.size, 0, none⟩ 1 1 (cellsW 6 nopeB) rfl rfl (World.news_of_block (heap_alloc_new _ _)) (one_cellsW _ _) (by decide) (by unfold maxLen; omega) (by omega) (by simp; omega) _ rfl ?_; intro g4 cap4 w4 hown hg4 hat4 hlt4; have z2 : w4.cell? ⟨Q1, 2, none⟩ = some (.slice (some ⟨gp, 0, none⟩) x.procs.length pc2) := (World.cell?_of_block (hg4.block Q1 (by simp; omega) (fun e => hQo e.symm))).trans (keeps_alloc _ _ _ _ y2); have z3 : w4.cell? ⟨gp, 3, none⟩ = some (.slice sa p1.body.length sc) := (World.cell?_of_block (hg4.block gp (by simp; omega) (fun e => HNE.out e.symm))).trans (keeps_alloc _ _ _ _ e3); have zf : w4.frozen? ⟨gp, 3, none⟩ = false := (World.frozen?_of_block (hg4.block gp (by simp; omega) (fun e => HNE.out e.symm))).trans ((World.frozen?_of_block (Below.heap_alloc w3 _ gp (by omega))).trans f3)))
        all_goals
          have hgr : (w3.alloc (.cells #[.int .i64 6, .string ⟨#[110, 111, 112, 101]⟩, .int .i64 0, .int .i64 0, .string ⟨#[]⟩, .slice none 0 0, .slice none 0 0, .slice none 0 0] 36)).grownBy w4 (Value.slice sa p1.body.length sc).ownBlock := ⟨hg4.os, hg4.tape, hg4.output, hg4.size, hg4.block⟩
          have hgg : g4 ≠ gp := fun e => by
            rcases hat4 with h | h
            · rw [e] at h; exact HNE.out h
            · simp at h; omega
          have hat5 : (Value.slice sa p1.body.length sc).ownBlock = some g4 ∨ W2.heap.size ≤ g4 := hat4.imp id (fun h => by simp at h; omega)
          have B8 : Below (P1 + 1) W2 (w4.setCell ⟨gp, 3, none⟩ (.slice (some ⟨g4, 0, none⟩) (p1.body.length + 1) cap4)) := by
            have q0 : Below (P1 + 1) W2 (w3.alloc (.cells #[.int .i64 6, .string ⟨#[110, 111, 112, 101]⟩, .int .i64 0, .int .i64 0, .string ⟨#[]⟩, .slice none 0 0, .slice none 0 0, .slice none 0 0] 36)) := (hbc.out.mono (by omega)).alloc (by omega) _
            exact (q0.grown hgr (by simp; omega) (fun k e => by have := HROW.out.lt k e; omega)).setCell (by simp; omega) _
          have R8 : (w4.setCell ⟨gp, 3, none⟩ (.slice (some ⟨g4, 0, none⟩) (p1.body.length + 1) cap4)).ownsRow ab 36 8 (.slice (some ⟨g4, 0, none⟩) (p1.body.length + 1) cap4) (p1.body.length + 1) (cs ++ cellsW 6 nopeB) := row_same hown (fun q e => heap_setCell_other _ _ _ _ (by simp [Value.ownBlock] at e; subst e; exact hgg))
          have M := word_more (v' := .slice (some ⟨g4, 0, none⟩) (p1.body.length + 1) cap4) HQ1.out HW2.out hq2 hbc.out hgr hat5 (fun k e => by have := (HOB.out k e).2; have := HQ1.out; omega) hgp HNE.out (V := w4.setCell ⟨gp, 3, none⟩ (.slice (some ⟨g4, 0, none⟩) (p1.body.length + 1) cap4)) (fun q u1 u2 => heap_setCell_other _ _ _ _ (by simpa using u1)) rfl
          have PN := HCT.out _ _ 6 nopeB ab (by unfold InI; omega) (by decide) (fun q _ u2 u3 u4 => M.1 q (by have := HQ1.out; omega) u3 u4) M.2.1 R8
          have YN : Box3 (w4.setCell ⟨gp, 3, none⟩ (.slice (some ⟨g4, 0, none⟩) (p1.body.length + 1) cap4)) Q1 (.slice (some ⟨h1, 0, none⟩) x.globals.length x.globals.length) (.slice (some ⟨h2, 0, none⟩) x.locks.length x.locks.length) (.slice (some ⟨gp, 0, none⟩) x.procs.length pc2) := box3_of M.2.2 Y2.out
          have hsz : w3.heap.size ≤ (w4.setCell ⟨gp, 3, none⟩ (.slice (some ⟨g4, 0, none⟩) (p1.body.length + 1) cap4)).heap.size := by have := hgr.size; simp at this ⊢; omega
          clear M R8 hown hg4 hat4 hgr
          first | go_meet | (go_wp2_with fail; go_meet)
          exact ⟨B8, YN, PN, hsz⟩
    case rest =>
      obtain ⟨hB5, hY5, hN5, hsz5⟩ := hcut
      obtain ⟨w5, hw5⟩ : ∃ w0, w0 = wc := ⟨_, rfl⟩
      subst hw5
      have A5 := Lib.hid (A2.out.trans (hB5.out.mono hwp))
      have PP5 := Lib.hid (HP.out w5 hB5.out)
      clear HP Y2 HW2 HCT HOB HNE E2 F2 R2 hq2 hbc e3 f3 hbl y0 y1 y2 hB5 A2 Y3
      go_wp2_with fail
      refine (CD.out _ A5.out).mono ?_
      rintro e w6 ⟨v6, rfl, hd6, hb6⟩
      obtain ⟨j1, j2, pa6, pc6, rfl⟩ := hd6.shape
      obtain ⟨j1', hje, hnr, hcont⟩ := hd6.globs (by rw [HX.out, drawnP_globals]; decide) (by rw [HX.out, drawnP_locks]; decide) (by rw [HX.out, drawnP_locks]; exact lock_le)
      simp at hje
      obtain rfl := hje
      have hjb := hnr.lt j1 rfl
      have HCN := Lib.hid hcont
      have hs6 : w5.heap.size ≤ w6.heap.size := hb6.size
      have A6 : Hid (Below w5.heap.size w5 (w6.alloc (.cells #[.slice (some ⟨j1, 0, none⟩) x.globals.length x.globals.length, .slice (some ⟨j2, 0, none⟩) x.locks.length x.locks.length, .slice pa6 x.procs.length pc6] 27))) := hb6.alloc hs6 _
      have B6 : Hid (Box3 (w6.alloc (.cells #[.slice (some ⟨j1, 0, none⟩) x.globals.length x.globals.length, .slice (some ⟨j2, 0, none⟩) x.locks.length x.locks.length, .slice pa6 x.procs.length pc6] 27)) w6.heap.size (.slice (some ⟨j1, 0, none⟩) x.globals.length x.globals.length) (.slice (some ⟨j2, 0, none⟩) x.locks.length x.locks.length) (.slice pa6 x.procs.length pc6)) := Box3.new _ _ _ _ _
      have NR6 : Hid ((w6.alloc (.cells #[.slice (some ⟨j1, 0, none⟩) x.globals.length x.globals.length, .slice (some ⟨j2, 0, none⟩) x.locks.length x.locks.length, .slice pa6 x.procs.length pc6] 27)).ownsRow w5.heap.size 9 1 (.slice (some ⟨j1, 0, none⟩) x.globals.length x.globals.length) x.globals.length (strV x.globals)) := World.ownsRow.alloc hnr _
      have FR6 : (w6.alloc (.cells #[.slice (some ⟨j1, 0, none⟩) x.globals.length x.globals.length, .slice (some ⟨j2, 0, none⟩) x.locks.length x.locks.length, .slice pa6 x.procs.length pc6] 27)).frozen? ⟨w6.heap.size, 0, none⟩ = false := frozen_of_row _ _ _ _ _ (heap_alloc_new _ _)
      have hgl : x.globals.length ≤ 1000 := by rw [HX.out, drawnP_globals]; decide
      obtain ⟨k0, hk0, hkz0, hkz1, hkz2⟩ := info_parts infoStrR
      have HKW6 := Lib.hid (fun k hk => Below.heap_alloc w6 (.cells #[.slice (some ⟨j1, 0, none⟩) x.globals.length x.globals.length, .slice (some ⟨j2, 0, none⟩) x.locks.length x.locks.length, .slice pa6 x.procs.length pc6] 27) k hk)
      have hz6 : (w6.alloc (.cells #[.slice (some ⟨j1, 0, none⟩) x.globals.length x.globals.length, .slice (some ⟨j2, 0, none⟩) x.locks.length x.locks.length, .slice pa6 x.procs.length pc6] 27)).heap.size = w6.heap.size + 1 := by simp
      obtain ⟨W6, hW6⟩ : ∃ W, W = w6.alloc (.cells #[.slice (some ⟨j1, 0, none⟩) x.globals.length x.globals.length, .slice (some ⟨j2, 0, none⟩) x.locks.length x.locks.length, .slice pa6 x.procs.length pc6] 27) := ⟨_, rfl⟩
      clear hd6 hb6 hcont hnr
      go_upto_region 10 with fail
      rw [← hW6] at A6 B6 NR6 FR6 HKW6 hz6
      rw [← hW6]
      clear hW6
      obtain ⟨R1, hR1⟩ : ∃ n, n = w6.heap.size := ⟨_, rfl⟩
      rw [← hR1] at B6 FR6 HKW6 hs6 hz6 hjb HCN
      rw [← hR1]
      have HR1 := Lib.hid hR1
      clear hR1
      obtain ⟨q0, q1, q2⟩ := B6.out
      have HZ6 := Lib.hid hz6
      clear hz6
      go_wp2_with (at_builtin; refine wpList_append_lies _ rfl (.tmp 43) (.tmp 44) 24 rfl w5.heap.size 9 k0 (.string ⟨#[]⟩) 1 16 Tryz.underlying24 hk0 hkz0 hkz1 hkz2 rfl (by decide) (.slice (some ⟨j1, 0, none⟩) x.globals.length x.globals.length) x.globals.length _ rfl (NR6.out.alloc _) ⟨W6.heap.size, 0, none⟩ 1 1 [.string ⟨#[120]⟩] rfl rfl (World.news_of_block (heap_alloc_new _ _)) (one_textR _) (by decide) (by unfold maxLen; omega) (by omega) (by have := HZ6.out; simp; omega) _ rfl ?_)
      intro g7 cap7 w7 hown7 hg7 hat7 hlt7
      have hz6 := HZ6.out
      have hjo : (Value.slice (some ⟨j1, 0, none⟩) x.globals.length x.globals.length).ownBlock = some j1 := rfl
      have hjR : some R1 ≠ (Value.slice (some ⟨j1, 0, none⟩) x.globals.length x.globals.length).ownBlock := by rw [hjo]; simp; omega
      have hb7 : w7.heap[R1]? = W6.heap[R1]? := (hg7.block R1 (by simp; omega) hjR).trans (Below.heap_alloc _ _ _ (by omega))
      have z0 := (World.cell?_of_block hb7).trans q0
      have z1 := (World.cell?_of_block hb7).trans q1
      have z2 := (World.cell?_of_block hb7).trans q2
      have zf := (World.frozen?_of_block hb7).trans FR6
      have hgR : g7 ≠ R1 := fun e => by
        rcases hat7 with h | h
        · rw [hjo] at h; simp at h; omega
        · omega
      have B7 : Hid (Below w5.heap.size w5 (w7.setCell ⟨R1, 0, none⟩ (.slice (some ⟨g7, 0, none⟩) (x.globals.length + 1) cap7))) := by
        have q0 := A6.out.alloc (by omega) (.cells #[.string ⟨#[120]⟩] 9)
        exact (q0.grown hg7 (by simp; omega) (fun k e => by rw [hjo] at e; simp at e; omega)).setCell (by simp; omega) _
      have RB7 : Hid (Box3 (w7.setCell ⟨R1, 0, none⟩ (.slice (some ⟨g7, 0, none⟩) (x.globals.length + 1) cap7)) R1 (.slice (some ⟨g7, 0, none⟩) (x.globals.length + 1) cap7) (.slice (some ⟨j2, 0, none⟩) x.locks.length x.locks.length) (.slice pa6 x.procs.length pc6)) :=
        ⟨World.cell?_setCell_same _ _ _ z0, (World.cell?_setCell_other _ _ _ _ (by simp)).trans z1, (World.cell?_setCell_other _ _ _ _ (by simp)).trans z2⟩
      have RN7 : Hid (POwn (w7.setCell ⟨R1, 0, none⟩ (.slice (some ⟨g7, 0, none⟩) (x.globals.length + 1) cap7)) ⟨x.globals ++ [⟨#[120]⟩], x.locks, x.procs⟩ (.agg #[.slice (some ⟨g7, 0, none⟩) (x.globals.length + 1) cap7, .slice (some ⟨j2, 0, none⟩) x.locks.length x.locks.length, .slice pa6 x.procs.length pc6])) := by
        refine HCN.out _ _ _ w5.heap.size (fun q u1 u2 u3 => ?_) ?_ (fun s hs => ?_)
        · rw [heap_setCell_other _ _ _ _ (by show q ≠ R1; omega)]
          exact (hg7.block q (by simp; omega) (by rw [hjo]; simp; omega)).trans ((Below.heap_alloc _ _ _ (by omega)).trans (HKW6.out q u2))
        · have e : (x.globals ++ [(⟨#[120]⟩ : ByteArray)]).length = x.globals.length + 1 := by simp
          unfold NRow
          rw [e, strV_append]
          exact row_same hown7 (fun k hk => heap_setCell_other _ _ _ _ (by simp [Value.ownBlock] at hk; subst hk; exact hgR))
        · rcases List.mem_append.1 hs with h | h
          · rw [HX.out, drawnP_globals] at h; exact glob_le s h
          · simp at h; subst h; decide
      have A7 := Lib.hid (A5.out.trans (B7.out.mono A5.out.size))
      clear hown7 hg7 hat7 hlt7 hb7 z1 z2 q0 q1 q2 HCN NR6 A6 B6 HKW6 hjo hjR
      go_upto_region 11 with fail
      obtain ⟨V7, hV7⟩ : ∃ W, W = w7.setCell ⟨R1, 0, none⟩ (.slice (some ⟨g7, 0, none⟩) (x.globals.length + 1) cap7) := ⟨_, rfl⟩
      rw [← hV7] at B7 RB7 RN7 A7
      rw [← hV7]
      clear hV7 z0 zf FR6
      generalize (x.globals.length + 1) = gn7 at RB7 RN7
      go_wp2_with fail
      refine (CD.out _ A7.out).mono ?_
      rintro e w8 ⟨v8, rfl, hd8, hb8⟩
      obtain ⟨m1, m2, pa8, pc8, rfl⟩ := hd8.shape
      obtain ⟨gm, rfl, hgm⟩ := prog_some hd8 (by rw [HPS.out]; simp)
      have D8 : Hid (DProg (w8.alloc (.cells #[.slice (some ⟨m1, 0, none⟩) x.globals.length x.globals.length, .slice (some ⟨m2, 0, none⟩) x.locks.length x.locks.length, .slice (some ⟨gm, 0, none⟩) x.procs.length pc8] 27)) V7.heap.size x (.agg #[.slice (some ⟨m1, 0, none⟩) x.globals.length x.globals.length, .slice (some ⟨m2, 0, none⟩) x.locks.length x.locks.length, .slice (some ⟨gm, 0, none⟩) x.procs.length pc8])) := hd8.keep (fun k _ h => heap_alloc_old _ _ h) (by simp)
      have hs8 : V7.heap.size ≤ w8.heap.size := hb8.size
      have A8 : Hid (Below V7.heap.size V7 (w8.alloc (.cells #[.slice (some ⟨m1, 0, none⟩) x.globals.length x.globals.length, .slice (some ⟨m2, 0, none⟩) x.locks.length x.locks.length, .slice (some ⟨gm, 0, none⟩) x.procs.length pc8] 27))) := hb8.alloc hs8 _
      have MB8 : Hid (Box3 (w8.alloc (.cells #[.slice (some ⟨m1, 0, none⟩) x.globals.length x.globals.length, .slice (some ⟨m2, 0, none⟩) x.locks.length x.locks.length, .slice (some ⟨gm, 0, none⟩) x.procs.length pc8] 27)) w8.heap.size (.slice (some ⟨m1, 0, none⟩) x.globals.length x.globals.length) (.slice (some ⟨m2, 0, none⟩) x.locks.length x.locks.length) (.slice (some ⟨gm, 0, none⟩) x.procs.length pc8)) := Box3.new _ _ _ _ _
      clear hd8 hb8
      go_upto_region 12 with fail
      obtain ⟨W8, hW8⟩ : ∃ W, W = w8.alloc (.cells #[.slice (some ⟨m1, 0, none⟩) x.globals.length x.globals.length, .slice (some ⟨m2, 0, none⟩) x.locks.length x.locks.length, .slice (some ⟨gm, 0, none⟩) x.procs.length pc8] 27) := ⟨_, rfl⟩
      obtain ⟨M1, hM1⟩ : ∃ n, n = w8.heap.size := ⟨_, rfl⟩
      have hgm8 : gm < W8.heap.size := by rw [hW8]; simp; omega
      have hM8 : M1 < W8.heap.size := by rw [hW8, hM1]; simp
      rw [← hW8] at D8 A8 MB8
      rw [← hM1] at MB8 hs8 hgm
      rw [← hW8, ← hM1]
      have hs8b : V7.heap.size ≤ W8.heap.size := by omega
      clear hW8 hM1
      obtain ⟨am, cm, _, mcs, hmn, hml, _, _, mf3, _, _, _, _, _⟩ := D8.out.second HPS.out (by rw [HX.out, drawnP_globals]; decide) (by rw [HX.out, drawnP_locks]; decide) (by rw [HX.out, drawnP_globals]; exact glob_le) (by rw [HX.out, drawnP_locks]; exact lock_le)
      obtain ⟨nm0, hn0, hf0⟩ : ∃ s, W8.cell? ⟨gm, 0, none⟩ = some (.string s) ∧ W8.frozen? ⟨gm, 0, none⟩ = false := by
        obtain ⟨_, _, _, _, e, _, _, _, _, _, h6⟩ := D8.out
        simp at e
        obtain ⟨_, _, rfl⟩ := e
        rw [HPS.out] at h6
        obtain ⟨_, k1, _, _, _, _, _, _, rfl, _⟩ := h6
        exact ⟨p0.name, (k1.cellAt 0 (by simp)).trans rfl, k1.frozenAt 0⟩
      have hn81 : (0 : Int) < (x.procs.length : Int) := by have := HLEN.out; omega
      have hn82 : 0 < x.procs.length := by omega
      obtain ⟨q0, q1, q2⟩ := MB8.out
      have A9 : Hid (Below V7.heap.size V7 (W8.setCell ⟨gm, 0, none⟩ (.string ⟨#[111, 116, 104, 101, 114]⟩))) := A8.out.setCell (by show _ ≤ gm; omega) _
      have MB9 : Hid (Box3 (W8.setCell ⟨gm, 0, none⟩ (.string ⟨#[111, 116, 104, 101, 114]⟩)) M1 (.slice (some ⟨m1, 0, none⟩) x.globals.length x.globals.length) (.slice (some ⟨m2, 0, none⟩) x.locks.length x.locks.length) (.slice (some ⟨gm, 0, none⟩) x.procs.length pc8)) := box3_of (heap_setCell_other _ _ _ _ (by show M1 ≠ gm; omega)) MB8.out
      have MO9 : Hid (POwn (W8.setCell ⟨gm, 0, none⟩ (.string ⟨#[111, 116, 104, 101, 114]⟩)) ⟨x.globals, x.locks, ⟨otherB, p0.body⟩ :: p1 :: r⟩ (.agg #[.slice (some ⟨m1, 0, none⟩) x.globals.length x.globals.length, .slice (some ⟨m2, 0, none⟩) x.locks.length x.locks.length, .slice (some ⟨gm, 0, none⟩) x.procs.length pc8])) := (D8.out.rename HPS.out otherB (by decide)).own (by show x.globals.length ≤ 1000; exact hgl) (by show x.locks.length ≤ 1000; rw [HX.out, drawnP_locks]; decide) (by show ∀ s, s ∈ x.globals → _; rw [HX.out, drawnP_globals]; exact glob_le) (by show ∀ s, s ∈ x.locks → _; rw [HX.out, drawnP_locks]; exact lock_le)
      clear D8 A8 MB8 mf3 hmn hml
      go_upto_region 13 with fail
      obtain ⟨V, hV⟩ : ∃ W, W = W8.setCell ⟨gm, 0, none⟩ (.string ⟨#[111, 116, 104, 101, 114]⟩) := ⟨_, rfl⟩
      rw [← hV] at A9 MB9 MO9
      rw [← hV]
      clear hV q0 q1 q2 hn0 hf0 hn81 hn82
      have K57 := B7.out.trans (A9.out.mono B7.out.size)
      have EV := Lib.hid (HE.out V (A7.out.trans (A9.out.mono A7.out.size)))
      have AV := Lib.hid (A7.out.trans (A9.out.mono A7.out.size))
      have OP := Lib.hid (PP5.out.1.below K57)
      have XP := Lib.hid (PP5.out.2.keep (keeps_below K57))
      have OQ := Lib.hid (hN5.out.below K57)
      have XQ := Lib.hid (hY5.out.keep (keeps_below K57))
      have OR := Lib.hid (RN7.out.below A9.out)
      have XR := Lib.hid (RB7.out.keep (keeps_below A9.out))
      have CDV := Lib.hid (fun wx (hx : Below V.heap.size V wx) => CD.out wx (AV.out.trans (hx.mono AV.out.size)))
      clear K57 PP5 hN5 hY5 RN7 RB7 A9 A7 B7 CD HE A5
      have ZX : Hid (szP x ≤ 1048576) := by show _ ≤ _; have := drawnP_size bs; rw [← HX.out] at this; omega
      have hpd : (drawnP bs).procs = p0 :: p1 :: r := by rw [← HX.out]; exact HPS.out
      have ZN : Hid (szP (⟨x.globals, x.locks, p0 :: ⟨p1.name, p1.body ++ [.node 6 nopeB zT [] []]⟩ :: r⟩) ≤ 1048576) := by show _ ≤ _; have := nope_size hpd; rw [← HX.out] at this; omega
      have ZM : Hid (szP (⟨x.globals, x.locks, ⟨otherB, p0.body⟩ :: p1 :: r⟩) ≤ 1048576) := by show _ ≤ _; have := other_size hpd; rw [← HX.out] at this; omega
      have ZR : Hid (szP (⟨x.globals ++ [⟨#[120]⟩], x.locks, x.procs⟩) ≤ 1048576) := by show _ ≤ _; have := twice_size bs; unfold twiceP at this; rw [← HX.out] at this; omega
      have F0 : Hid (faultI x = 0) := by show _ = _; rw [HX.out]; exact drawn_fault bs
      have F2 : Hid (faultI (⟨x.globals ++ [⟨#[120]⟩], x.locks, x.procs⟩) = 2) := by show _ = _; have := twice_fault bs; unfold twiceP at this; rw [← HX.out] at this; exact this
      have F4 : Hid (faultI (⟨x.globals, x.locks, ⟨otherB, p0.body⟩ :: p1 :: r⟩) = 4) := by
        show _ = _
        have := other_fault bs
        unfold otherP at this
        rw [hpd, ← HX.out] at this
        exact this
      have U0 : Hid (unkIn x = []) := by show _ = _; rw [HX.out]; exact drawn_unk bs
      have UN : Hid (unkIn (⟨x.globals, x.locks, p0 :: ⟨p1.name, p1.body ++ [.node 6 nopeB zT [] []]⟩ :: r⟩) = [] ∨ nopeB ∈ unkIn (⟨x.globals, x.locks, p0 :: ⟨p1.name, p1.body ++ [.node 6 nopeB zT [] []]⟩ :: r⟩)) := by
        have := nope_unk bs p1 1 (by rw [hpd]; simp)
        unfold nopeP at this
        rw [hpd, ← HX.out] at this
        exact this
      obtain ⟨xn, hxn⟩ : ∃ z : PTree, z = ⟨x.globals, x.locks, p0 :: ⟨p1.name, p1.body ++ [.node 6 nopeB zT [] []]⟩ :: r⟩ := ⟨_, rfl⟩
      obtain ⟨xm, hxm⟩ : ∃ z : PTree, z = ⟨x.globals, x.locks, ⟨otherB, p0.body⟩ :: p1 :: r⟩ := ⟨_, rfl⟩
      obtain ⟨xr, hxr⟩ : ∃ z : PTree, z = ⟨x.globals ++ [⟨#[120]⟩], x.locks, x.procs⟩ := ⟨_, rfl⟩
      rw [← hxn] at OQ ZN UN
      rw [← hxm] at MO9 ZM F4
      rw [← hxr] at OR ZR F2
      clear hxn hxm hxr
      obtain ⟨fq, hfq⟩ : ∃ f, f = faultI xn := ⟨_, rfl⟩
      obtain ⟨sq, hsq⟩ : ∃ l, l = unkIn xn := ⟨_, rfl⟩
      rw [← hsq] at UN
      have CFP := Lib.hid (fun wx (hx : Below V.heap.size V wx) => implFault_any a x (.agg #[.slice (some ⟨g1, 0, none⟩) x.globals.length x.globals.length, .slice (some ⟨g2, 0, none⟩) x.locks.length x.locks.length, .slice pa1 x.procs.length pc1]) wx ZX.out (OP.out.below hx) (EV.out.below hx))
      have CFQ := Lib.hid (fun wx (hx : Below V.heap.size V wx) => implFault_any a xn (.agg #[.slice (some ⟨h1, 0, none⟩) x.globals.length x.globals.length, .slice (some ⟨h2, 0, none⟩) x.locks.length x.locks.length, .slice (some ⟨gp, 0, none⟩) x.procs.length pc2]) wx ZN.out (OQ.out.below hx) (EV.out.below hx))
      have CSQ := Lib.hid (fun wx (hx : Below V.heap.size V wx) => specFault_any xn (.agg #[.slice (some ⟨h1, 0, none⟩) x.globals.length x.globals.length, .slice (some ⟨h2, 0, none⟩) x.locks.length x.locks.length, .slice (some ⟨gp, 0, none⟩) x.procs.length pc2]) wx ZN.out (OQ.out.below hx).lies (OQ.out.below hx).cap)
      have CFR := Lib.hid (fun wx (hx : Below V.heap.size V wx) => implFault_any a xr (.agg #[.slice (some ⟨g7, 0, none⟩) gn7 cap7, .slice (some ⟨j2, 0, none⟩) x.locks.length x.locks.length, .slice pa6 x.procs.length pc6]) wx ZR.out (OR.out.below hx) (EV.out.below hx))
      have CFM := Lib.hid (fun wx (hx : Below V.heap.size V wx) => implFault_any a xm (.agg #[.slice (some ⟨m1, 0, none⟩) x.globals.length x.globals.length, .slice (some ⟨m2, 0, none⟩) x.locks.length x.locks.length, .slice (some ⟨gm, 0, none⟩) x.procs.length pc8]) wx ZM.out (MO9.out.below hx) (EV.out.below hx))
      rw [F0.out] at CFP
      rw [← hfq] at CFQ CSQ
      rw [F2.out] at CFR
      rw [F4.out] at CFM
      have CUQ : Hid (∀ wx, Below V.heap.size V wx → Calls Tryz.prog 13 #[.agg #[.slice (some ⟨h1, 0, none⟩) x.globals.length x.globals.length, .slice (some ⟨h2, 0, none⟩) x.locks.length x.locks.length, .slice (some ⟨gp, 0, none⟩) x.procs.length pc2]] wx fun e w' => ∃ ov, e = .returned ov ∧ StrsAt w' sq ov ∧ Below wx.heap.size wx w') := fun wx hx => by
        rw [hsq]
        refine (implUnkIn_any xn (.agg #[.slice (some ⟨h1, 0, none⟩) x.globals.length x.globals.length, .slice (some ⟨h2, 0, none⟩) x.locks.length x.locks.length, .slice (some ⟨gp, 0, none⟩) x.procs.length pc2]) wx ZN.out (OQ.out.below hx)).mono ?_
        rintro e w' ⟨ov, rfl, hr, hb⟩
        exact ⟨ov, rfl, strsAt_row rfl hr, hb⟩
      have CVQ : Hid (∀ wx, Below V.heap.size V wx → Calls Tryz.prog 14 #[.agg #[.slice (some ⟨h1, 0, none⟩) x.globals.length x.globals.length, .slice (some ⟨h2, 0, none⟩) x.locks.length x.locks.length, .slice (some ⟨gp, 0, none⟩) x.procs.length pc2]] wx fun e w' => ∃ a c, e = .returned (.slice a sq.length c) ∧ StrsAt w' sq (.slice a sq.length c) ∧ Below wx.heap.size wx w' ∧ Below V.heap.size V w') := fun wx hx => by
        rw [hsq]
        refine (specUnkIn_any xn (.agg #[.slice (some ⟨h1, 0, none⟩) x.globals.length x.globals.length, .slice (some ⟨h2, 0, none⟩) x.locks.length x.locks.length, .slice (some ⟨gp, 0, none⟩) x.procs.length pc2]) wx ZN.out (OQ.out.below hx).lies).mono ?_
        rintro e w' ⟨ov, rfl, hr, hb⟩
        obtain ⟨a, c, rfl, _⟩ := row_shape hr
        exact ⟨a, c, rfl, strsAt_row rfl hr, hb, hx.trans (hb.mono hx.size)⟩
      have CUP : Hid (∀ wx, Below V.heap.size V wx → Calls Tryz.prog 13 #[.agg #[.slice (some ⟨g1, 0, none⟩) x.globals.length x.globals.length, .slice (some ⟨g2, 0, none⟩) x.locks.length x.locks.length, .slice pa1 x.procs.length pc1]] wx fun e w' => ∃ a c, e = .returned (.slice a 0 c) ∧ Below wx.heap.size wx w') := fun wx hx => by
        refine (implUnkIn_any x (.agg #[.slice (some ⟨g1, 0, none⟩) x.globals.length x.globals.length, .slice (some ⟨g2, 0, none⟩) x.locks.length x.locks.length, .slice pa1 x.procs.length pc1]) wx ZX.out (OP.out.below hx)).mono ?_
        rintro e w' ⟨ov, rfl, hr, hb⟩
        rw [U0.out] at hr
        obtain ⟨a, c, rfl, _⟩ := row_shape hr
        exact ⟨a, c, rfl, hb⟩
      have CNP : Hid (∀ wx, Below V.heap.size V wx → Calls Tryz.prog 11 #[.agg #[.slice (some ⟨g1, 0, none⟩) x.globals.length x.globals.length, .slice (some ⟨g2, 0, none⟩) x.locks.length x.locks.length, .slice pa1 x.procs.length pc1]] wx fun e w' => ∃ ov, e = .returned ov ∧ StrsAt w' (unuIn x) ov ∧ Below V.heap.size V w') := fun wx hx => by
        refine (implUnuIn_any x (.agg #[.slice (some ⟨g1, 0, none⟩) x.globals.length x.globals.length, .slice (some ⟨g2, 0, none⟩) x.locks.length x.locks.length, .slice pa1 x.procs.length pc1]) wx ZX.out (OP.out.below hx)).mono ?_
        rintro e w' ⟨ov, rfl, hr, hb⟩
        exact ⟨ov, rfl, strsAt_row rfl hr, hx.trans (hb.mono hx.size)⟩
      have KB : Hid (∀ wx, Below V.heap.size V wx → Box3 wx P1 (.slice (some ⟨g1, 0, none⟩) x.globals.length x.globals.length) (.slice (some ⟨g2, 0, none⟩) x.locks.length x.locks.length) (.slice pa1 x.procs.length pc1) ∧ Box3 wx Q1 (.slice (some ⟨h1, 0, none⟩) x.globals.length x.globals.length) (.slice (some ⟨h2, 0, none⟩) x.locks.length x.locks.length) (.slice (some ⟨gp, 0, none⟩) x.procs.length pc2) ∧ Box3 wx R1 (.slice (some ⟨g7, 0, none⟩) gn7 cap7) (.slice (some ⟨j2, 0, none⟩) x.locks.length x.locks.length) (.slice pa6 x.procs.length pc6) ∧ Box3 wx M1 (.slice (some ⟨m1, 0, none⟩) x.globals.length x.globals.length) (.slice (some ⟨m2, 0, none⟩) x.locks.length x.locks.length) (.slice (some ⟨gm, 0, none⟩) x.procs.length pc8)) := fun wx hx => ⟨XP.out.keep (keeps_below hx), XQ.out.keep (keeps_below hx), XR.out.keep (keeps_below hx), MB9.out.keep (keeps_below hx)⟩
      clear hfq hpd XP XQ XR MB9 OR MO9 ZM ZR F0 F2 F4
      go_cut [70] (fun s70 wx => s70 = .bool false ∧ Hid (Below V.heap.size V wx))
      case first =>
        obtain ⟨⟨p0, p1, p2⟩, _⟩ := KB.out _ (Below.refl V.heap.size V)
        go_wp2_with fail
        refine (CFP.out _ (Below.refl V.heap.size V)).mono ?_
        rintro e y1 ⟨rfl, hy1⟩
        have Y1 := Lib.hid hy1
        clear p0 p1 p2 hy1
        obtain ⟨_, ⟨p0, p1, p2⟩, _⟩ := KB.out _ Y1.out
        by_cases hf : fq = 3
        · have hf1 : (fq != 3) = false := by simp [hf]
          clear hf
          go_wp2_with fail
          refine (CFQ.out _ Y1.out).mono ?_
          rintro e y2 ⟨rfl, hy2⟩
          have Y2 := Lib.hid (Y1.out.trans (hy2.mono Y1.out.size))
          clear p0 p1 p2 hy2
          obtain ⟨_, _, ⟨p0, p1, p2⟩, _⟩ := KB.out _ Y2.out
          go_wp2_with fail
          refine (CFR.out _ Y2.out).mono ?_
          rintro e y3 ⟨rfl, hy3⟩
          have Y3 := Lib.hid (Y2.out.trans (hy3.mono Y2.out.size))
          clear p0 p1 p2 hy3
          go_wp2_with fail
          go_meet
          exact ⟨rfl, Y3⟩
        · have hf1 : (fq != 3) = true := by simp [hf]
          have hf2 : (fq == 3) = false := by simp [hf]
          clear hf
          go_wp2_with fail
          refine (CFQ.out _ Y1.out).mono ?_
          rintro e y2 ⟨rfl, hy2⟩
          have Y2 := Lib.hid (Y1.out.trans (hy2.mono Y1.out.size))
          clear p0 p1 p2 hy2
          obtain ⟨_, ⟨p0, p1, p2⟩, _⟩ := KB.out _ Y2.out
          go_wp2_with fail
          refine (CSQ.out _ Y2.out).mono ?_
          rintro e y3 ⟨rfl, hy3⟩
          have Y3 := Lib.hid (Y2.out.trans (hy3.mono Y2.out.size))
          clear p0 p1 p2 hy3
          obtain ⟨_, _, ⟨p0, p1, p2⟩, _⟩ := KB.out _ Y3.out
          go_wp2_with fail
          refine (CFR.out _ Y3.out).mono ?_
          rintro e y4 ⟨rfl, hy4⟩
          have Y4 := Lib.hid (Y3.out.trans (hy4.mono Y3.out.size))
          clear p0 p1 p2 hy4
          go_wp2_with fail
          go_meet
          exact ⟨rfl, Y4⟩
      case rest =>
        obtain ⟨rfl, hbv⟩ := hcut
        obtain ⟨V2, hV2⟩ : ∃ w0, w0 = wc := ⟨_, rfl⟩
        subst hV2
        obtain ⟨⟨p0, p1, p2⟩, _⟩ := KB.out _ hbv.out
        go_wp2_with fail
        refine (CNP.out _ hbv.out).mono ?_
        rintro e V3 ⟨uv, rfl, huv, hb3⟩
        have BV3 := Lib.hid hb3
        have HUV := Lib.hid huv
        clear p0 p1 p2 huv hb3
        have AV3 : Hid (Below w.heap.size w V3) := AV.out.trans (BV3.out.mono AV.out.size)
        have UP : Hid (∀ wx, Below V3.heap.size V3 wx → Below V.heap.size V wx) := fun wx h => BV3.out.trans (h.mono BV3.out.size)
        obtain ⟨n, hn⟩ : ∃ n, n = sq.length := ⟨_, rfl⟩
        have C1 : Hid (∀ wx, Below V3.heap.size V3 wx → Calls Tryz.prog 9 #[.agg #[.slice (some ⟨m1, 0, none⟩) x.globals.length x.globals.length, .slice (some ⟨m2, 0, none⟩) x.locks.length x.locks.length, .slice (some ⟨gm, 0, none⟩) x.procs.length pc8]] wx fun e w' => e = .returned (.int .i64 4) ∧ Below V3.heap.size V3 w') := fun wx hx => (CFM.out wx (UP.out wx hx)).mono (by rintro e w' ⟨rfl, hb⟩; exact ⟨rfl, hx.trans (hb.mono hx.size)⟩)
        have C2 : Hid (∀ wx, Below V3.heap.size V3 wx → Calls Tryz.prog 13 #[.agg #[.slice (some ⟨h1, 0, none⟩) x.globals.length x.globals.length, .slice (some ⟨h2, 0, none⟩) x.locks.length x.locks.length, .slice (some ⟨gp, 0, none⟩) x.procs.length pc2]] wx fun e w' => ∃ ov, e = .returned ov ∧ StrsAt w' sq ov ∧ Below V3.heap.size V3 w') := fun wx hx => (CUQ.out wx (UP.out wx hx)).mono (by rintro e w' ⟨ov, rfl, hs, hb⟩; exact ⟨ov, rfl, hs, hx.trans (hb.mono hx.size)⟩)
        have C3 : Hid (∀ wx, Below V3.heap.size V3 wx → Calls Tryz.prog 13 #[.agg #[.slice (some ⟨g1, 0, none⟩) x.globals.length x.globals.length, .slice (some ⟨g2, 0, none⟩) x.locks.length x.locks.length, .slice pa1 x.procs.length pc1]] wx fun e w' => ∃ a c, e = .returned (.slice a 0 c) ∧ Below V3.heap.size V3 w') := fun wx hx => (CUP.out wx (UP.out wx hx)).mono (by rintro e w' ⟨a, c, rfl, hb⟩; exact ⟨a, c, rfl, hx.trans (hb.mono hx.size)⟩)
        have C4 : Hid (∀ wx, Below V3.heap.size V3 wx → Calls Tryz.prog 14 #[.agg #[.slice (some ⟨h1, 0, none⟩) x.globals.length x.globals.length, .slice (some ⟨h2, 0, none⟩) x.locks.length x.locks.length, .slice (some ⟨gp, 0, none⟩) x.procs.length pc2]] wx fun e w' => ∃ a c, e = .returned (.slice a n c) ∧ StrsAt w' sq (.slice a n c) ∧ Hid (∀ l u, StrsAt wx l u → StrsAt w' l u) ∧ Below V3.heap.size V3 w') := fun wx hx => (CVQ.out wx (UP.out wx hx)).mono (by rintro e w' ⟨a, c, rfl, hs, hb, _⟩; rw [hn]; exact ⟨a, c, rfl, hs, fun l u h => h.keep (keeps_below hb), hx.trans (hb.mono hx.size)⟩)
        have C5 : Hid (∀ wx, Below V3.heap.size V3 wx → ∀ l u v, StrsAt wx l u → StrsAt wx l v → Calls Tryz.prog 12 #[u, v] wx fun e w' => e = .returned (.bool true) ∧ Below V3.heap.size V3 w') := fun wx hx l u v h1 h2 => (sameTexts_at u v l wx h1 h2).mono (by rintro e w' ⟨rfl, hb⟩; exact ⟨rfl, hx.trans (hb.mono hx.size)⟩)
        have C7 : Hid (∀ wx, Below V3.heap.size V3 wx → Calls Tryz.prog 8 #[.slice ba bs.length bc] wx fun e w' => ∃ v, e = .returned v ∧ Hid (POwn w' x v) ∧ Below V3.heap.size V3 w') := fun wx hx => (CDV.out wx (UP.out wx hx)).mono (by
          rintro e w' ⟨v, rfl, hd, hb⟩
          refine ⟨v, rfl, ?_, hx.trans (hb.mono hx.size)⟩
          show POwn _ _ _
          rw [HX.out] at hd ⊢
          exact drawnP_own hd)
        have C8 : Hid (∀ wx, Below V3.heap.size V3 wx → ∀ v, Hid (POwn wx x v) → Calls Tryz.prog 15 #[v] wx fun e w' => ∃ ov, e = .returned ov ∧ StrsAt w' (unuIn x) ov ∧ Below V3.heap.size V3 w') := fun wx hx v hv => (specUnuIn_any x v wx ZX.out hv.out.lies hv.out.room).mono (by rintro e w' ⟨ov, rfl, hr, hb⟩; exact ⟨ov, rfl, strsAt_row rfl hr, hx.trans (hb.mono hx.size)⟩)
        have KS : Hid (∀ wx, Below V3.heap.size V3 wx → wx.cell? ⟨P1, 0, none⟩ = some (.slice (some ⟨g1, 0, none⟩) x.globals.length x.globals.length) ∧ wx.cell? ⟨P1, 1, none⟩ = some (.slice (some ⟨g2, 0, none⟩) x.locks.length x.locks.length) ∧ wx.cell? ⟨P1, 2, none⟩ = some (.slice pa1 x.procs.length pc1) ∧ wx.cell? ⟨Q1, 0, none⟩ = some (.slice (some ⟨h1, 0, none⟩) x.globals.length x.globals.length) ∧ wx.cell? ⟨Q1, 1, none⟩ = some (.slice (some ⟨h2, 0, none⟩) x.locks.length x.locks.length) ∧ wx.cell? ⟨Q1, 2, none⟩ = some (.slice (some ⟨gp, 0, none⟩) x.procs.length pc2) ∧ wx.cell? ⟨M1, 0, none⟩ = some (.slice (some ⟨m1, 0, none⟩) x.globals.length x.globals.length) ∧ wx.cell? ⟨M1, 1, none⟩ = some (.slice (some ⟨m2, 0, none⟩) x.locks.length x.locks.length) ∧ wx.cell? ⟨M1, 2, none⟩ = some (.slice (some ⟨gm, 0, none⟩) x.procs.length pc8) ∧ Below V3.heap.size V3 wx) := fun wx hx => by
          obtain ⟨⟨p0, p1, p2⟩, ⟨q0, q1, q2⟩, _, ⟨m0, m1, m2⟩⟩ := KB.out wx (UP.out wx hx)
          exact ⟨p0, p1, p2, q0, q1, q2, m0, m1, m2, hx⟩
        have hdr : Below V3.heap.size V3 V3.drew := (Below.refl _ _).drew
        have UN2 := UN.out
        clear CFP CFQ CSQ CFR CFM CUQ CUP CVQ CNP CDV KB OP OQ EV hbv UN
        go_upto_region 16 with fail
        rcases UN2 with h | h
        · obtain rfl : n = 0 := by rw [hn, h]; rfl
          clear hn h
          refine wp_region_noPanic (wp_region_held_drew (S := (fun wx => wx.cell? ⟨P1, 0, none⟩ = some (.slice (some ⟨g1, 0, none⟩) x.globals.length x.globals.length) ∧ wx.cell? ⟨P1, 1, none⟩ = some (.slice (some ⟨g2, 0, none⟩) x.locks.length x.locks.length) ∧ wx.cell? ⟨P1, 2, none⟩ = some (.slice pa1 x.procs.length pc1) ∧ wx.cell? ⟨Q1, 0, none⟩ = some (.slice (some ⟨h1, 0, none⟩) x.globals.length x.globals.length) ∧ wx.cell? ⟨Q1, 1, none⟩ = some (.slice (some ⟨h2, 0, none⟩) x.locks.length x.locks.length) ∧ wx.cell? ⟨Q1, 2, none⟩ = some (.slice (some ⟨gp, 0, none⟩) x.procs.length pc2) ∧ wx.cell? ⟨M1, 0, none⟩ = some (.slice (some ⟨m1, 0, none⟩) x.globals.length x.globals.length) ∧ wx.cell? ⟨M1, 1, none⟩ = some (.slice (some ⟨m2, 0, none⟩) x.locks.length x.locks.length) ∧ wx.cell? ⟨M1, 2, none⟩ = some (.slice (some ⟨gm, 0, none⟩) x.procs.length pc8) ∧ Below V3.heap.size V3 wx)) (by kernel_rfl) (KS.out _ hdr) (fun hHeld => ?_))
          (refine wpAnyH_take (i := 0) (v := ?_) (RegSeq.op_at (by rfl)) (by kernel_rfl) (by kernel_rfl) (by kernel_rfl) (fun _ _ _ h => (h : False).elim) (Or.inl ⟨by rfl, ?_⟩) (by assumption) ?_; rotate_left; (focus ((intro w hSw; (try dsimp only at hSw); go_simp) <;> with_reducible rfl)); (try simp only [Act.put]); (try simp only [List.setIfInBounds_toArray]); (try simp only [List.set_cons_succ]); (try simp only [List.set_cons_zero]))
          refine wpAnyH_ready (rs := [1]) (by kernel_rfl) (by simp) (AllReadyH.cons (RegSeq.op_at (by rfl)) (fun K hK => ?_) AllReadyH.nil)
          go_simp
          go_at_call 9
          with_reducible refine (C1.out _ (by assumption)).mono ?_
          rintro e wa ⟨rfl, ba⟩
          clear hHeld
          refine hK.out _ _ (KS.out _ (by assumption)) (fun hHeld => ?_)
          clear hK K
          (try simp only [Act.put]); (try simp only [List.setIfInBounds_toArray]); (try simp only [List.set_cons_succ]); (try simp only [List.set_cons_zero])
          (refine wpAnyH_take (i := 2) (v := ?_) (RegSeq.op_at (by rfl)) (by kernel_rfl) (by kernel_rfl) (by kernel_rfl) (fun _ _ _ h => (h : False).elim) (Or.inl ⟨by rfl, ?_⟩) (by assumption) ?_; rotate_left; (focus ((intro w hSw; (try dsimp only at hSw); go_simp) <;> with_reducible rfl)); (try simp only [Act.put]); (try simp only [List.setIfInBounds_toArray]); (try simp only [List.set_cons_succ]); (try simp only [List.set_cons_zero]))
          (refine wpAnyH_take (i := 3) (v := ?_) (RegSeq.op_at (by rfl)) (by kernel_rfl) (by kernel_rfl) (by kernel_rfl) (fun _ _ _ h => (h : False).elim) (Or.inl ⟨by rfl, ?_⟩) (by assumption) ?_; rotate_left; (focus ((intro w hSw; (try dsimp only at hSw); go_simp) <;> with_reducible rfl)); (try simp only [Act.put]); (try simp only [List.setIfInBounds_toArray]); (try simp only [List.set_cons_succ]); (try simp only [List.set_cons_zero]))
          (refine wpAnyH_take (i := 4) (v := ?_) (RegSeq.op_at (by rfl)) (by kernel_rfl) (by kernel_rfl) (by kernel_rfl) (fun _ _ _ h => (h : False).elim) (Or.inl ⟨by rfl, ?_⟩) (by assumption) ?_; rotate_left; (focus ((intro w hSw; (try dsimp only at hSw); go_simp) <;> with_reducible rfl)); (try simp only [Act.put]); (try simp only [List.setIfInBounds_toArray]); (try simp only [List.set_cons_succ]); (try simp only [List.set_cons_zero]))
          (refine wpAnyH_take (i := 6) (v := ?_) (RegSeq.op_at (by rfl)) (by kernel_rfl) (by kernel_rfl) (by kernel_rfl) (fun _ _ _ h => (h : False).elim) (Or.inl ⟨by rfl, ?_⟩) (by assumption) ?_; rotate_left; (focus ((intro w hSw; (try dsimp only at hSw); go_simp) <;> with_reducible rfl)); (try simp only [Act.put]); (try simp only [List.setIfInBounds_toArray]); (try simp only [List.set_cons_succ]); (try simp only [List.set_cons_zero]))
          refine wpAnyH_ready (rs := [5]) (by kernel_rfl) (by simp) (AllReadyH.cons (RegSeq.op_at (by rfl)) (fun K hK => ?_) AllReadyH.nil)
          go_simp
          go_at_call 13
          with_reducible refine (C2.out _ (by assumption)).mono ?_
          rintro e wa ⟨ov, rfl, so, ba⟩
          clear hHeld
          refine hK.out _ _ (KS.out _ (by assumption)) (fun hHeld => ?_)
          clear hK K
          (try simp only [Act.put]); (try simp only [List.setIfInBounds_toArray]); (try simp only [List.set_cons_succ]); (try simp only [List.set_cons_zero])
          refine wpAnyH_ready (rs := [7]) (by kernel_rfl) (by simp) (AllReadyH.cons (RegSeq.op_at (by rfl)) (fun K hK => ?_) AllReadyH.nil)
          go_simp
          go_at_call 14
          with_reducible refine (C4.out _ (by assumption)).mono ?_
          rintro e wa ⟨oa, oc, rfl, st, hk, ba⟩
          have so2 := hk.out _ _ so
          clear hHeld
          refine hK.out _ _ (KS.out _ (by assumption)) (fun hHeld => ?_)
          clear hK K
          (try simp only [Act.put]); (try simp only [List.setIfInBounds_toArray]); (try simp only [List.set_cons_succ]); (try simp only [List.set_cons_zero])
          refine wpAnyH_ready (rs := [8]) (by kernel_rfl) (by simp) (AllReadyH.cons (RegSeq.op_at (by rfl)) (fun K hK => ?_) AllReadyH.nil)
          go_simp
          go_at_call 12
          with_reducible refine (C5.out _ (by assumption) sq _ _ (by assumption) (by assumption)).mono ?_
          rintro e wa ⟨rfl, ba⟩
          clear hHeld
          refine hK.out _ _ (KS.out _ (by assumption)) (fun hHeld => ?_)
          clear hK K
          (try simp only [Act.put]); (try simp only [List.setIfInBounds_toArray]); (try simp only [List.set_cons_succ]); (try simp only [List.set_cons_zero])
          (refine wpAnyH_take (i := 9) (v := ?_) (RegSeq.op_at (by rfl)) (by kernel_rfl) (by kernel_rfl) (by kernel_rfl) (fun _ _ _ h => (h : False).elim) (Or.inl ⟨by rfl, ?_⟩) (by assumption) ?_; rotate_left; (focus ((intro w hSw; (try dsimp only at hSw); go_simp) <;> with_reducible rfl)); (try simp only [Act.put]); (try simp only [List.setIfInBounds_toArray]); (try simp only [List.set_cons_succ]); (try simp only [List.set_cons_zero]))
          (refine wpAnyH_take (i := 10) (v := ?_) (RegSeq.op_at (by rfl)) (by kernel_rfl) (by kernel_rfl) (by kernel_rfl) (fun _ _ _ h => (h : False).elim) (Or.inl ⟨by rfl, ?_⟩) (by assumption) ?_; rotate_left; (focus ((intro w hSw; (try dsimp only at hSw); go_simp) <;> with_reducible rfl)); (try simp only [Act.put]); (try simp only [List.setIfInBounds_toArray]); (try simp only [List.set_cons_succ]); (try simp only [List.set_cons_zero]))
          (refine wpAnyH_take (i := 11) (v := ?_) (RegSeq.op_at (by rfl)) (by kernel_rfl) (by kernel_rfl) (by kernel_rfl) (fun _ _ _ h => (h : False).elim) (Or.inl ⟨by rfl, ?_⟩) (by assumption) ?_; rotate_left; (focus ((intro w hSw; (try dsimp only at hSw); go_simp) <;> with_reducible rfl)); (try simp only [Act.put]); (try simp only [List.setIfInBounds_toArray]); (try simp only [List.set_cons_succ]); (try simp only [List.set_cons_zero]))
          refine wpAnyH_ready (rs := [12]) (by kernel_rfl) (by simp) (AllReadyH.cons (RegSeq.op_at (by rfl)) (fun K hK => ?_) AllReadyH.nil)
          go_simp
          go_at_call 13
          with_reducible refine (C3.out _ (by assumption)).mono ?_
          rintro e wa ⟨oa, oc, rfl, ba⟩
          clear hHeld
          refine hK.out _ _ (KS.out _ (by assumption)) (fun hHeld => ?_)
          clear hK K
          (try simp only [Act.put]); (try simp only [List.setIfInBounds_toArray]); (try simp only [List.set_cons_succ]); (try simp only [List.set_cons_zero])
          (refine wpAnyH_take (i := 13) (v := ?_) (RegSeq.op_at (by rfl)) (by kernel_rfl) (by kernel_rfl) (by kernel_rfl) (fun _ _ _ h => (h : False).elim) (Or.inl ⟨by rfl, ?_⟩) (by assumption) ?_; rotate_left; (focus ((intro w hSw; (try dsimp only at hSw); go_simp) <;> with_reducible rfl)); (try simp only [Act.put]); (try simp only [List.setIfInBounds_toArray]); (try simp only [List.set_cons_succ]); (try simp only [List.set_cons_zero]))
          (refine wpAnyH_take (i := 14) (v := ?_) (RegSeq.op_at (by rfl)) (by kernel_rfl) (by kernel_rfl) (by kernel_rfl) (fun _ _ _ h => (h : False).elim) (Or.inl ⟨by rfl, ?_⟩) (by assumption) ?_; rotate_left; (focus ((intro w hSw; (try dsimp only at hSw); go_simp) <;> with_reducible rfl)); (try simp only [Act.put]); (try simp only [List.setIfInBounds_toArray]); (try simp only [List.set_cons_succ]); (try simp only [List.set_cons_zero]))
          (refine wpAnyH_take (i := 15) (v := ?_) (RegSeq.op_at (by rfl)) (by kernel_rfl) (by kernel_rfl) (by kernel_rfl) (fun _ _ _ h => (h : False).elim) (Or.inl ⟨by rfl, ?_⟩) (by assumption) ?_; rotate_left; (focus ((intro w hSw; (try dsimp only at hSw); go_simp) <;> with_reducible rfl)); (try simp only [Act.put]); (try simp only [List.setIfInBounds_toArray]); (try simp only [List.set_cons_succ]); (try simp only [List.set_cons_zero]))
          (refine wpAnyH_take (i := 16) (v := ?_) (RegSeq.op_at (by rfl)) (by kernel_rfl) (by kernel_rfl) (by kernel_rfl) (fun _ _ _ h => (h : False).elim) (Or.inl ⟨by rfl, ?_⟩) (by assumption) ?_; rotate_left; (focus ((intro w hSw; (try dsimp only at hSw); go_simp) <;> with_reducible rfl)); (try simp only [Act.put]); (try simp only [List.setIfInBounds_toArray]); (try simp only [List.set_cons_succ]); (try simp only [List.set_cons_zero]))
          (refine wpAnyH_take (i := 17) (v := ?_) (RegSeq.op_at (by rfl)) (by kernel_rfl) (by kernel_rfl) (by kernel_rfl) (fun _ _ _ h => (h : False).elim) (Or.inl ⟨by rfl, ?_⟩) (by assumption) ?_; rotate_left; (focus ((intro w hSw; (try dsimp only at hSw); go_simp) <;> with_reducible rfl)); (try simp only [Act.put]); (try simp only [List.setIfInBounds_toArray]); (try simp only [List.set_cons_succ]); (try simp only [List.set_cons_zero]))
          (refine wpAnyH_take (i := 18) (v := ?_) (RegSeq.op_at (by rfl)) (by kernel_rfl) (by kernel_rfl) (by kernel_rfl) (fun _ _ _ h => (h : False).elim) (Or.inl ⟨by rfl, ?_⟩) (by assumption) ?_; rotate_left; (focus ((intro w hSw; (try dsimp only at hSw); go_simp) <;> with_reducible rfl)); (try simp only [Act.put]); (try simp only [List.setIfInBounds_toArray]); (try simp only [List.set_cons_succ]); (try simp only [List.set_cons_zero]))
          refine wpAnyH_ready (rs := [19]) (by kernel_rfl) (by simp) (AllReadyH.cons (RegSeq.op_at (by rfl)) (fun K hK => ?_) AllReadyH.nil)
          go_simp
          go_at_call 8
          with_reducible refine (C7.out _ (by assumption)).mono ?_
          rintro e wa ⟨dv, rfl, po, ba⟩
          clear hHeld
          refine hK.out _ _ (KS.out _ (by assumption)) (fun hHeld => ?_)
          clear hK K
          (try simp only [Act.put]); (try simp only [List.setIfInBounds_toArray]); (try simp only [List.set_cons_succ]); (try simp only [List.set_cons_zero])
          refine wpAnyH_ready (rs := [20]) (by kernel_rfl) (by simp) (AllReadyH.cons (RegSeq.op_at (by rfl)) (fun K hK => ?_) AllReadyH.nil)
          go_simp
          go_at_call 15
          with_reducible refine (C8.out _ (by assumption) _ (by assumption)).mono ?_
          rintro e wa ⟨ov, rfl, so, ba⟩
          clear hHeld
          refine hK.out _ _ (KS.out _ (by assumption)) (fun hHeld => ?_)
          clear hK K
          (try simp only [Act.put]); (try simp only [List.setIfInBounds_toArray]); (try simp only [List.set_cons_succ]); (try simp only [List.set_cons_zero])
          refine wpAnyH_ready (rs := [21]) (by kernel_rfl) (by simp) (AllReadyH.cons (RegSeq.op_at (by rfl)) (fun K hK => ?_) AllReadyH.nil)
          go_simp
          go_at_call 12
          with_reducible refine (C5.out _ (by assumption) (unuIn x) uv _ (HUV.out.keep (keeps_below (by assumption))) (by assumption)).mono ?_
          rintro e wa ⟨rfl, ba⟩
          clear hHeld
          refine hK.out _ _ (KS.out _ (by assumption)) (fun hHeld => ?_)
          clear hK K
          (try simp only [Act.put]); (try simp only [List.setIfInBounds_toArray]); (try simp only [List.set_cons_succ]); (try simp only [List.set_cons_zero])
          (refine wpAnyH_take (i := 22) (v := ?_) (RegSeq.op_at (by rfl)) (by kernel_rfl) (by kernel_rfl) (by kernel_rfl) (fun _ _ _ h => (h : False).elim) (Or.inl ⟨by rfl, ?_⟩) (by assumption) ?_; rotate_left; (focus ((intro w hSw; (try dsimp only at hSw); go_simp) <;> with_reducible rfl)); (try simp only [Act.put]); (try simp only [List.setIfInBounds_toArray]); (try simp only [List.set_cons_succ]); (try simp only [List.set_cons_zero]))
          (refine wpAnyH_take (i := 23) (v := ?_) (RegSeq.op_at (by rfl)) (by kernel_rfl) (by kernel_rfl) (by kernel_rfl) (fun _ _ _ h => (h : False).elim) (Or.inl ⟨by rfl, ?_⟩) (by assumption) ?_; rotate_left; (focus ((intro w hSw; (try dsimp only at hSw); go_simp) <;> with_reducible rfl)); (try simp only [Act.put]); (try simp only [List.setIfInBounds_toArray]); (try simp only [List.set_cons_succ]); (try simp only [List.set_cons_zero]))
          (refine wpAnyH_take (i := 24) (v := ?_) (RegSeq.op_at (by rfl)) (by kernel_rfl) (by kernel_rfl) (by kernel_rfl) (fun _ _ _ h => (h : False).elim) (Or.inl ⟨by rfl, ?_⟩) (by assumption) ?_; rotate_left; (focus ((intro w hSw; (try dsimp only at hSw); go_simp) <;> with_reducible rfl)); (try simp only [Act.put]); (try simp only [List.setIfInBounds_toArray]); (try simp only [List.set_cons_succ]); (try simp only [List.set_cons_zero]))
          refine wpAnyH_ready (rs := [25]) (by kernel_rfl) (by simp) (AllReadyH.cons (RegSeq.op_at (by rfl)) (fun K hK => ?_) AllReadyH.nil)
          go_simp
          go_at_call 14
          with_reducible refine (C4.out _ (by assumption)).mono ?_
          rintro e wa ⟨oa, oc, rfl, st, hk, ba⟩
          clear hHeld
          refine hK.out _ _ (KS.out _ (by assumption)) (fun hHeld => ?_)
          clear hK K
          (try simp only [Act.put]); (try simp only [List.setIfInBounds_toArray]); (try simp only [List.set_cons_succ]); (try simp only [List.set_cons_zero])
          (refine wpAnyH_take (i := 26) (v := ?_) (RegSeq.op_at (by rfl)) (by kernel_rfl) (by kernel_rfl) (by kernel_rfl) (fun _ _ _ h => (h : False).elim) (Or.inl ⟨by rfl, ?_⟩) (by assumption) ?_; rotate_left; (focus ((intro w hSw; (try dsimp only at hSw); go_simp) <;> with_reducible rfl)); (try simp only [Act.put]); (try simp only [List.setIfInBounds_toArray]); (try simp only [List.set_cons_succ]); (try simp only [List.set_cons_zero]))
          (refine wpAnyH_take (i := 27) (v := ?_) (RegSeq.op_at (by rfl)) (by kernel_rfl) (by kernel_rfl) (by kernel_rfl) (fun _ _ _ h => (h : False).elim) (Or.inl ⟨by rfl, ?_⟩) (by assumption) ?_; rotate_left; (focus ((intro w hSw; (try dsimp only at hSw); go_simp) <;> with_reducible rfl)); (try simp only [Act.put]); (try simp only [List.setIfInBounds_toArray]); (try simp only [List.set_cons_succ]); (try simp only [List.set_cons_zero]))
          (refine wpAnyH_take (i := 28) (v := ?_) (RegSeq.op_at (by rfl)) (by kernel_rfl) (by kernel_rfl) (by kernel_rfl) (fun _ _ _ h => (h : False).elim) (Or.inl ⟨by rfl, ?_⟩) (by assumption) ?_; rotate_left; (focus ((intro w hSw; (try dsimp only at hSw); go_simp) <;> with_reducible rfl)); (try simp only [Act.put]); (try simp only [List.setIfInBounds_toArray]); (try simp only [List.set_cons_succ]); (try simp only [List.set_cons_zero]))
          (refine wpAnyH_ready (rs := [29]) (by kernel_rfl) (by simp) (AllReadyH.cons (RegSeq.op_at (by rfl)) (fun K hK => ?_) AllReadyH.nil); go_simp; refine hK.out _ _ (by assumption) (fun hHeld2 => ?_); clear hK K hHeld2; (try simp only [Act.put]); (try simp only [List.setIfInBounds_toArray]); (try simp only [List.set_cons_succ]); (try simp only [List.set_cons_zero]))
          (refine wpAnyH_ready (rs := [30]) (by kernel_rfl) (by simp) (AllReadyH.cons (RegSeq.op_at (by rfl)) (fun K hK => ?_) AllReadyH.nil); go_simp; refine hK.out _ _ (by assumption) (fun hHeld2 => ?_); clear hK K hHeld2; (try simp only [Act.put]); (try simp only [List.setIfInBounds_toArray]); (try simp only [List.set_cons_succ]); (try simp only [List.set_cons_zero]))
          (refine wpAnyH_ready (rs := [31]) (by kernel_rfl) (by simp) (AllReadyH.cons (RegSeq.op_at (by rfl)) (fun K hK => ?_) AllReadyH.nil); go_simp; refine hK.out _ _ (by assumption) (fun hHeld2 => ?_); clear hK K hHeld2; (try simp only [Act.put]); (try simp only [List.setIfInBounds_toArray]); (try simp only [List.set_cons_succ]); (try simp only [List.set_cons_zero]))
          (refine wpAnyH_take (i := 32) (v := ?_) (RegSeq.op_at (by rfl)) (by kernel_rfl) (by kernel_rfl) (by kernel_rfl) (fun _ _ _ h => (h : False).elim) (Or.inl ⟨by rfl, ?_⟩) (by assumption) ?_; rotate_left; (focus ((intro w hSw; (try dsimp only at hSw); go_simp) <;> with_reducible rfl)); (try simp only [Act.put]); (try simp only [List.setIfInBounds_toArray]); (try simp only [List.set_cons_succ]); (try simp only [List.set_cons_zero]))
          (refine wpAnyH_take (i := 33) (v := ?_) (RegSeq.op_at (by rfl)) (by kernel_rfl) (by kernel_rfl) (by kernel_rfl) (fun _ _ _ h => (h : False).elim) (Or.inl ⟨by rfl, ?_⟩) (by assumption) ?_; rotate_left; (focus ((intro w hSw; (try dsimp only at hSw); go_simp) <;> with_reducible rfl)); (try simp only [Act.put]); (try simp only [List.setIfInBounds_toArray]); (try simp only [List.set_cons_succ]); (try simp only [List.set_cons_zero]))
          (refine wpAnyH_take (i := 34) (v := ?_) (RegSeq.op_at (by rfl)) (by kernel_rfl) (by kernel_rfl) (by kernel_rfl) (fun _ _ _ h => (h : False).elim) (Or.inl ⟨by rfl, ?_⟩) (by assumption) ?_; rotate_left; (focus ((intro w hSw; (try dsimp only at hSw); go_simp) <;> with_reducible rfl)); (try simp only [Act.put]); (try simp only [List.setIfInBounds_toArray]); (try simp only [List.set_cons_succ]); (try simp only [List.set_cons_zero]))
          refine wpAnyH_done (by kernel_rfl) (NoPanic.normal ?_) _
          go_wp2_with fail
          go_ret
          exact ⟨rfl, AV3.out.trans (Below.mono (by assumption) AV3.out.size)⟩
        · have hq : ((n : Int) == 0) = false := by
            have : 0 < n := by rw [hn]; exact List.length_pos_iff.2 (fun e => by rw [e] at h; cases h)
            simp; omega
          have C6 : Hid (∀ wx, Below V3.heap.size V3 wx → ∀ u, StrsAt wx sq u → Calls Tryz.prog 16 #[u, .string ⟨#[110, 111, 112, 101]⟩] wx fun e w' => e = .returned (.bool true) ∧ Below V3.heap.size V3 w') := fun wx hx u hu => (hasText_any sq nopeB u wx hu).mono (by rintro e w' ⟨rfl, rfl⟩; exact ⟨by rw [hasTx_yes h], hx⟩)
          clear hn h
          go_region_held3 (fun wx => wx.cell? ⟨P1, 0, none⟩ = some (.slice (some ⟨g1, 0, none⟩) x.globals.length x.globals.length) ∧ wx.cell? ⟨P1, 1, none⟩ = some (.slice (some ⟨g2, 0, none⟩) x.locks.length x.locks.length) ∧ wx.cell? ⟨P1, 2, none⟩ = some (.slice pa1 x.procs.length pc1) ∧ wx.cell? ⟨Q1, 0, none⟩ = some (.slice (some ⟨h1, 0, none⟩) x.globals.length x.globals.length) ∧ wx.cell? ⟨Q1, 1, none⟩ = some (.slice (some ⟨h2, 0, none⟩) x.locks.length x.locks.length) ∧ wx.cell? ⟨Q1, 2, none⟩ = some (.slice (some ⟨gp, 0, none⟩) x.procs.length pc2) ∧ wx.cell? ⟨M1, 0, none⟩ = some (.slice (some ⟨m1, 0, none⟩) x.globals.length x.globals.length) ∧ wx.cell? ⟨M1, 1, none⟩ = some (.slice (some ⟨m2, 0, none⟩) x.locks.length x.locks.length) ∧ wx.cell? ⟨M1, 2, none⟩ = some (.slice (some ⟨gm, 0, none⟩) x.procs.length pc8) ∧ Below V3.heap.size V3 wx)
          (exact KS.out _ (by assumption))
          (first
          | (go_at_call 9; (with_reducible refine (C1.out _ (by assumption)).mono ?_); rintro e wa ⟨rfl, ba⟩)
          | (go_at_call 13; (with_reducible refine (C2.out _ (by assumption)).mono ?_); rintro e wa ⟨ov, rfl, so, ba⟩)
          | (go_at_call 13; (with_reducible refine (C3.out _ (by assumption)).mono ?_); rintro e wa ⟨oa, oc, rfl, ba⟩)
          | (go_at_call 14; (with_reducible refine (C4.out _ (by assumption)).mono ?_); rintro e wa ⟨oa, oc, rfl, st, hk, ba⟩; have so2 := hk.out _ _ (by assumption))
          | (go_at_call 14; (with_reducible refine (C4.out _ (by assumption)).mono ?_); rintro e wa ⟨oa, oc, rfl, st, hk, ba⟩)
          | (go_at_call 12; (with_reducible refine (C5.out _ (by assumption) sq _ _ (by assumption) (by assumption)).mono ?_); rintro e wa ⟨rfl, ba⟩)
          | (go_at_call 12; (with_reducible refine (C5.out _ (by assumption) (unuIn x) uv _ (HUV.out.keep (keeps_below (by assumption))) (by assumption)).mono ?_); rintro e wa ⟨rfl, ba⟩)
          | (go_at_call 8; (with_reducible refine (C7.out _ (by assumption)).mono ?_); rintro e wa ⟨dv, rfl, po, ba⟩)
          | (go_at_call 15; (with_reducible refine (C8.out _ (by assumption) _ (by assumption)).mono ?_); rintro e wa ⟨ov, rfl, so, ba⟩)
          | (go_at_call 16; (with_reducible refine (C6.out _ (by assumption) _ (by assumption)).mono ?_); rintro e wa ⟨rfl, ba⟩))
          all_goals
            go_wp2_with fail
            go_ret
            exact ⟨rfl, AV3.out.trans (Below.mono (by assumption) AV3.out.size)⟩
end Go.Proofs.YtkfeiekgdfklmaaGreatDoor.FnSoundW
/- What the listed variables give a walk: four errors of their own; and the variables read again behind the call. Conditions: the listed variables hold what the text lays in them. -/
namespace Go.Proofs.YtkfeiekgdfklmaaGreatDoor.Er
open Go.RowKit Go.ChangeShapes Go.WideShapes Trm
theorem laidMet_skip {P : Program} {x y : String × DataW Unit} {r : List (String × DataW Unit)} {w : World} (h : laidMet P (x :: y :: r) w) : laidMet P (x :: r) w := by
  obtain ⟨ps, hv, hnd, hrows⟩ := h
  obtain ⟨n, d⟩ := x
  obtain ⟨n2, d2⟩ := y
  obtain ⟨g, t, cs, fuel, p, q, h1, h2, h3, h4, hq, rfl⟩ := hv
  obtain ⟨g2, t2, cs2, fuel2, p2, q2, _, _, _, _, hq2, rfl⟩ := hq
  refine ⟨_, ⟨g, t, cs, fuel, p, q2, h1, h2, h3, h4, hq2, rfl⟩, ?_, fun b off hm => hrows b off ?_⟩
  · exact List.Nodup.sublist (List.Sublist.append_left (List.sublist_append_right _ _) _) hnd
  · rcases List.mem_append.1 hm with h | h
    · exact List.mem_append_left _ h
    · exact List.mem_append_right _ (List.mem_append_right _ h)
theorem gT0 : (Tryz.prog.globals[0]?).map (·.type) = some 65 := by kernel_rfl
theorem gT1 : (Tryz.prog.globals[1]?).map (·.type) = some 65 := by kernel_rfl
theorem gT2 : (Tryz.prog.globals[2]?).map (·.type) = some 65 := by kernel_rfl
theorem gT3 : (Tryz.prog.globals[3]?).map (·.type) = some 65 := by kernel_rfl
theorem gN0 : Tryz.prog.globalNamed "loop.example/g00966/impl.errForm" = some 0 := by kernel_rfl
theorem gN1 : Tryz.prog.globalNamed "loop.example/g00966/impl.errTwice" = some 1 := by kernel_rfl
theorem gN2 : Tryz.prog.globalNamed "loop.example/g00966/impl.errName" = some 2 := by kernel_rfl
theorem gN3 : Tryz.prog.globalNamed "loop.example/g00966/impl.errMain" = some 3 := by kernel_rfl
theorem star : "*" ++ "errors.errorString" = "*errors.errorString" := by decide
theorem rowE (u : TypeId) (h : Tryz.prog.typeName? 3 u = some "*errors.errorString") : u = 265 :=
  typeName_ptr_named (nm := "errors.errorString") (by rw [star]; kernel_rfl) (by kernel_rfl) (by decide) u (by rw [star]; exact h)
theorem cellsE : Tryz.prog.cellsOf 289 = 1 := by kernel_rfl
theorem cellsS : Tryz.prog.cellsOf 9 = 1 := by kernel_rfl
/-- Two of them. -/
def Two (W : World) (n0 n1 : String) : Prop := ∃ a0 a1 : Addr, W.var? Tryz.prog n0 = some #[.iface 265 (.pointer (some a0))] ∧ W.var? Tryz.prog n1 = some #[.iface 265 (.pointer (some a1))] ∧ a0 ≠ a1 ∧ (∃ c t, W.heap[a0.block]? = some (.cells c t (0, 0))) ∧ ∃ c t, W.heap[a1.block]? = some (.cells c t (0, 0))
theorem two {W : World} {n0 n1 : String} {text0 text1 : List UInt8} {r : List (String × DataW Unit)} {g0 g1 : Nat}
    (h : laidMet Tryz.prog ((n0, .iface "*errors.errorString" (.ptr (.agg [.lit (.string text0)]))) :: (n1, .iface "*errors.errorString" (.ptr (.agg [.lit (.string text1)]))) :: r) W)
    (hg0 : Tryz.prog.globalNamed n0 = some g0) (ht0 : (Tryz.prog.globals[g0]?).map (·.type) = some 65) (hg1 : Tryz.prog.globalNamed n1 = some g1) (ht1 : (Tryz.prog.globals[g1]?).map (·.type) = some 65) : Two W n0 n1 := by
  obtain ⟨a0, a1, s0, s1, c0, c1, t0, t1, h0, h1, _, _, _, _, _, _, hne, hb0, hb1⟩ := laid_sentinels2 h hg0 ht0 hg1 ht1 Tryz.underlying65 rowE Tryz.underlying265 Tryz.underlying289 rfl rfl Tryz.underlying9 cellsE cellsS
  exact ⟨a0, a1, h0, h1, hne, ⟨_, _, hb0⟩, ⟨_, _, hb1⟩⟩
theorem same_var {W : World} {n : String} {a b : Addr} (h : W.var? Tryz.prog n = some #[.iface 265 (.pointer (some a))]) (h2 : W.var? Tryz.prog n = some #[.iface 265 (.pointer (some b))]) : a = b := by
  rw [h] at h2
  simpa using h2
abbrev E0 : String := "loop.example/g00966/impl.errForm"
abbrev E1 : String := "loop.example/g00966/impl.errTwice"
abbrev E2 : String := "loop.example/g00966/impl.errName"
abbrev E3 : String := "loop.example/g00966/impl.errMain"
/-- What the four variables hold. -/
structure Held (a : Nat → Addr) (W : World) : Prop where
  v0 : W.var? Tryz.prog E0 = some #[.iface 265 (.pointer (some (a 0)))]
  v1 : W.var? Tryz.prog E1 = some #[.iface 265 (.pointer (some (a 1)))]
  v2 : W.var? Tryz.prog E2 = some #[.iface 265 (.pointer (some (a 2)))]
  v3 : W.var? Tryz.prog E3 = some #[.iface 265 (.pointer (some (a 3)))]
def four (a0 a1 a2 a3 : Addr) (i : Nat) : Addr := match i with | 0 => a0 | 1 => a1 | 2 => a2 | _ => a3
theorem errs_laid {W : World} (h : laidMetH Tryz.prog Rows.fnExactProgFaultRow.laid W) : ∃ a, Errs a W ∧ Held a W := by
  rw [MakeChecks.laidMetH_plain _ _ _ (by kernel_rfl)] at h
  obtain ⟨a0, a1, h0, h1, n01, r0, r1⟩ := two h gN0 gT0 gN1 gT1
  obtain ⟨b0, a2, k0, h2, n02, _, r2⟩ := two (laidMet_skip h) gN0 gT0 gN2 gT2
  obtain ⟨d0, a3, j0, h3, n03, _, r3⟩ := two (laidMet_skip (laidMet_skip h)) gN0 gT0 gN3 gT3
  obtain ⟨e1, e2, m1, m2, n12, _, _⟩ := two (laidMet.tail h) gN1 gT1 gN2 gT2
  obtain ⟨f1, f3, p1, p3, n13, _, _⟩ := two (laidMet_skip (laidMet.tail h)) gN1 gT1 gN3 gT3
  obtain ⟨i2, i3, q2, q3, n23, _, _⟩ := two (laidMet.tail (laidMet.tail h)) gN2 gT2 gN3 gT3
  obtain rfl := same_var h0 k0
  obtain rfl := same_var h0 j0
  obtain rfl := same_var h1 m1
  obtain rfl := same_var h1 p1
  obtain rfl := same_var h2 m2
  obtain rfl := same_var h2 q2
  obtain rfl := same_var h3 p3
  obtain rfl := same_var h3 q3
  refine ⟨four a0 a1 a2 a3, ⟨fun i hi => ?_, fun i hi => ?_, fun i j hi hj hij => ?_⟩, ⟨h0, h1, h2, h3⟩⟩
  · rcases (by omega : i = 0 ∨ i = 1 ∨ i = 2 ∨ i = 3) with rfl | rfl | rfl | rfl
    · have e := World.var?_cell gN0 h0 0
      show W.cell? _ = some (.iface _ (.pointer (some a0)))
      simpa using e
    · have e := World.var?_cell gN1 h1 0
      show W.cell? _ = some (.iface _ (.pointer (some a1)))
      simpa using e
    · have e := World.var?_cell gN2 h2 0
      show W.cell? _ = some (.iface _ (.pointer (some a2)))
      simpa using e
    · have e := World.var?_cell gN3 h3 0
      show W.cell? _ = some (.iface _ (.pointer (some a3)))
      simpa using e
  · rcases (by omega : i = 0 ∨ i = 1 ∨ i = 2 ∨ i = 3) with rfl | rfl | rfl | rfl
    · exact r0
    · exact r1
    · exact r2
    · exact r3
  · rcases (by omega : i = 0 ∨ i = 1 ∨ i = 2 ∨ i = 3) with rfl | rfl | rfl | rfl <;> rcases (by omega : j = 0 ∨ j = 1 ∨ j = 2 ∨ j = 3) with rfl | rfl | rfl | rfl
    · exact absurd rfl hij
    · exact n01
    · exact n02
    · exact n03
    · exact fun e => n01 e.symm
    · exact absurd rfl hij
    · exact n12
    · exact n13
    · exact fun e => n02 e.symm
    · exact fun e => n12 e.symm
    · exact absurd rfl hij
    · exact n23
    · exact fun e => n03 e.symm
    · exact fun e => n13 e.symm
    · exact fun e => n23 e.symm
    · exact absurd rfl hij
theorem var_below {W W' : World} {n : String} {cs : Array Value} (h : W.var? Tryz.prog n = some cs) (hb : Below W.heap.size W W') : W'.var? Tryz.prog n = some cs := by
  unfold World.var? at h ⊢
  cases hg : Tryz.prog.globalNamed n with
  | none => simp [hg] at h
  | some g =>
    simp only [hg, Option.bind_some] at h ⊢
    have hlt : g < W.heap.size := by
      rcases Nat.lt_or_ge g W.heap.size with h' | h'
      · exact h'
      · simp [Array.getElem?_eq_none h'] at h
    rw [hb.block g hlt]; exact h
theorem Held.below {a : Nat → Addr} {W W' : World} (h : Held a W) (hb : Below W.heap.size W W') : Held a W' := ⟨var_below h.v0 hb, var_below h.v1 hb, var_below h.v2 hb, var_below h.v3 hb⟩
/-- The four read again, as tokens. -/
theorem vars_read4 {H : Type} (enc : TypeId × Value → H) {a : Nat → Addr} {W : World} (h : Held a W) (sp : Nat → Bool) :
    DataW.TrodVars enc Tryz.prog W sp [E0, E1, E2, E3] [tok enc (.iface 265 (.pointer (some (a 0)))), tok enc (.iface 265 (.pointer (some (a 1)))), tok enc (.iface 265 (.pointer (some (a 2)))), tok enc (.iface 265 (.pointer (some (a 3))))] [.cell 0 0, .cell 1 0, .cell 2 0, .cell 3 0] := by
  have hold : ∀ x : Addr, DataW.trod enc Tryz.prog W 0 sp true 1 65 [.iface 265 (.pointer (some x))] = some (tok enc (.iface 265 (.pointer (some x))), []) := fun x => trod_held (v := .iface 265 (.pointer (some x))) Tryz.underlying65 trivial 0
  exact ⟨0, 65, _, 1, [], [.cell 1 0, .cell 2 0, .cell 3 0], gN0, gT0, h.v0, hold _, ⟨1, 65, _, 1, [], [.cell 2 0, .cell 3 0], gN1, gT1, h.v1, hold _, ⟨2, 65, _, 1, [], [.cell 3 0], gN2, gT2, h.v2, hold _, ⟨3, 65, _, 1, [], [], gN3, gT3, h.v3, hold _, rfl, rfl⟩, rfl⟩, rfl⟩, rfl⟩
end Go.Proofs.YtkfeiekgdfklmaaGreatDoor.Er
/- The law FnSound, walked. Conditions: the argument reads; the four variables hold four errors of their own. -/
namespace Go.Proofs.YtkfeiekgdfklmaaGreatDoor.FnSoundW
open Go.RowKit Trm Cur Er
theorem big (bs : List UInt8) (bv : Value) (w : World) (hb : BytesAt w bs bv) (hl : 1048576 < bs.length) :
    Calls Tryz.prog 3 #[bv] w fun e w' => e = .returned (.bool true) ∧ Below w.heap.size w w' := by
  have C := Trm.big_yes bs bv w hb hl
  obtain ⟨ba, bc, rfl, hbl, _⟩ := hb
  have HC := Lib.hid C
  clear C
  go_enter Tryz.func3, Tryz.ntmps3
  go_wp2_with fail
  refine HC.out.mono ?_
  rintro e w1 ⟨rfl, rfl⟩
  go_wp2
  go_ret
  exact ⟨rfl, Below.refl _ _⟩
set_option maxRecDepth 100000 in
theorem walk {H : Type} {enc : TypeId × Value → H} {base b0 : Nat} {spare : Nat → Bool} {held : Bool} {r : Reach} {d : DataW H} {p : List MemPlace} (v : Value) (w : World) (ok : Value.okWide Tryz.prog w r b0 22 v) (k : DataW.Trod enc Tryz.prog w base spare held 22 v d p) (a : Nat → Addr) (hE : Errs a w) :
    Calls Tryz.prog 3 #[v] w fun e w' => e = .returned (.bool true) ∧ Below w.heap.size w w' := by
  obtain ⟨bs, hb⟩ := bytes_of_Trod ok k
  by_cases hl : bs.length ≤ 1048576
  · exact core bs v w hb hl a hE
  · exact big bs v w hb (by omega)
end Go.Proofs.YtkfeiekgdfklmaaGreatDoor.FnSoundW
