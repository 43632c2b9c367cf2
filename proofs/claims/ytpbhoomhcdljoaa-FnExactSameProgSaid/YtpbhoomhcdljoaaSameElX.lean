/- Two lists of statements held against each other but for what is within them, walked; the lists within one. Conditions: both lists lie in rows that are not frozen. -/
import Derived.Test.YtpbhoomhcdljoaaSpotX
import Derived.Test.YtpbhoomhcdljoaaKindX
import Derived.WalkSmall
import Derived.Outline
import Derived.Test.YtpbhoomhcdljoaaSameTermImpl
namespace Go.Proofs.Ytpbhoomhcdljoaa.SpX
open Go.RowKit Own Trm Km
set_option maxHeartbeats 1600000 in
theorem implShal_any (x y : STree) (ta ba ea ua da fa : Option Addr) (tc bc ec uc dc fc : Nat) (w : World) (hz : szT x.term ≤ 1048576) (h1 : LiesF w x.term (.agg #[.int .i64 x.term.kind, .int .i64 x.term.num, .string x.term.name, .slice ta x.term.kids.length tc])) (h2 : LiesF w y.term (.agg #[.int .i64 y.term.kind, .int .i64 y.term.num, .string y.term.name, .slice ua y.term.kids.length uc])) :
    Calls Try.prog 62 #[.agg #[.int .i64 x.kind, .string x.name, .int .i64 x.term.kind, .int .i64 x.term.num, .string x.term.name, .slice ta x.term.kids.length tc, .slice ba x.body.length bc, .slice ea x.els.length ec], .agg #[.int .i64 y.kind, .string y.name, .int .i64 y.term.kind, .int .i64 y.term.num, .string y.term.name, .slice ua y.term.kids.length uc, .slice da y.body.length dc, .slice fa y.els.length fc]] w fun e w' => e = .returned (.bool (shalX x y)) ∧ Below w.heap.size w w' := by
  have HR : Hid (shalX x y = (decide (x.kind = y.kind) && decide (x.name = y.name) && sameT x.term y.term)) := rfl
  have C := Lib.hid (fun w2 hk => implSame_any x.term y.term _ _ w2 hz (h1.keep hk) (h2.keep hk))
  obtain ⟨k, s, t, b, e⟩ := x
  obtain ⟨k', s', t', b', e'⟩ := y
  simp only [STree.kind, STree.name, STree.term, STree.body, STree.els] at HR C ⊢
  clear h1 h2 hz
  by_cases hk : k = k'
  · subst hk
    by_cases hs : s = s'
    · subst hs
      go_enter Try.func62, Try.ntmps62
      go_wp2_with fail
      refine (C.out _ (keepF_below (((Below.refl _ _).alloc (Nat.le_refl _) _).alloc (by simp) _))).mono ?_
      rintro e w1 ⟨rfl, hb⟩
      have HB := Lib.hid ((((Below.refl w.heap.size w).alloc (Nat.le_refl _) _).alloc (by simp) _).trans (hb.mono (by simp <;> omega)))
      clear hb
      go_wp2
      go_ret
      exact ⟨ret_b (by rw [HR.out]; simp), HB.out⟩
    · have hq := bytes_ne hs
      have HS := Lib.hid hs
      clear hs
      go_enter Try.func62, Try.ntmps62
      go_wp2
      go_ret
      exact ⟨ret_b (by rw [HR.out]; simp [HS.out]), ((Below.refl _ _).alloc (Nat.le_refl _) _).alloc (by simp) _⟩
  · have hq : (k == k') = false := by simp [hk]
    have HK := Lib.hid hk
    clear hk
    go_enter Try.func62, Try.ntmps62
    go_wp2
    go_ret
    exact ⟨ret_b (by rw [HR.out]; simp [HK.out]), ((Below.refl _ _).alloc (Nat.le_refl _) _).alloc (by simp) _⟩

/-- The lists within one, as values. -/
def CellsIn (w : World) (g : Nat) (vs : List Value) : Prop := ∀ j (_ : j < vs.length), w.cell? ⟨g, j, none⟩ = some (vs[j])
structure ListsIn (V : World) (x : STree) (vs : List Value) : Prop where
  len : vs.length = 2
  at' : ∀ j (h : j < vs.length) (h2 : j < (KX.wi x).length), SListF V vs[j] (KX.wi x)[j]
theorem CellsIn.keep {w w' : World} {g : Nat} {vs : List Value} (hk : ∀ p u, p.block = g → w.cell? p = some u → w'.cell? p = some u) (h : CellsIn w g vs) : CellsIn w' g vs := fun j hj => hk _ _ rfl (h j hj)
abbrev inVs (x : STree) (ba ea : Option Addr) (bc ec : Nat) : List Value := [.slice ba x.body.length bc, .slice ea x.els.length ec]
theorem lists_in {V : World} (x : STree) {ba ea : Option Addr} {bc ec : Nat} (hb : SListF V (.slice ba x.body.length bc) x.body) (he : SListF V (.slice ea x.els.length ec) x.els) : ListsIn V x (inVs x ba ea bc ec) := by
  refine ⟨rfl, fun j hj h2 => ?_⟩
  have hj : j < 2 := hj
  match j, hj with
  | 0, _ => exact hb
  | 1, _ => exact he
theorem implWithin_any (x : STree) (ta ba ea : Option Addr) (tc bc ec : Nat) (w : World) :
    Calls Try.prog 63 #[.agg #[.int .i64 x.kind, .string x.name, .int .i64 x.term.kind, .int .i64 x.term.num, .string x.term.name, .slice ta x.term.kids.length tc, .slice ba x.body.length bc, .slice ea x.els.length ec]] w fun e w' => ∃ g, e = .returned (.slice (some ⟨g, 0, none⟩) 2 2) ∧ Below w.heap.size w w' ∧ w.heap.size ≤ g ∧ g < w'.heap.size ∧ CellsIn w' g (inVs x ba ea bc ec) := by
  go_enter Try.func63, Try.ntmps63
  go_wp2
  go_ret
  refine ⟨_, rfl, ((Below.refl _ _).alloc (Nat.le_refl _) _).alloc (by simp) _, by simp, by simp, fun j hj => ?_⟩
  have hj : j < 2 := hj
  match j, hj with
  | 0, _ => simp [go_sem]
  | 1, _ => simp [go_sem]
def shB : List STree → List STree → Bool
  | x :: xs, y :: ys => KX.sh x y && shB xs ys
  | _, _ => true
theorem shB_drop {xs ys : List STree} {i : Nat} (h : i < xs.length) (h2 : i < ys.length) : shB (xs.drop i) (ys.drop i) = (KX.sh xs[i] ys[i] && shB (xs.drop (i + 1)) (ys.drop (i + 1))) := by
  rw [List.drop_eq_getElem_cons h, List.drop_eq_getElem_cons h2, shB]
theorem shB_end {xs ys : List STree} {i : Nat} (h : xs.length ≤ i) : shB (xs.drop i) (ys.drop i) = true := by
  rw [List.drop_of_length_le h, shB]; simp
theorem shB_iff : ∀ {xs ys : List STree}, xs.length = ys.length → (shB xs ys = true ↔ ∀ i (h : i < xs.length) (h2 : i < ys.length), KX.sh xs[i] ys[i] = true)
  | [], [], _ => by simp [shB]
  | x :: xs, y :: ys, hl => by
    rw [shB, Bool.and_eq_true, shB_iff (xs := xs) (ys := ys) (by simpa using hl)]
    constructor
    · intro ⟨h1, h2⟩ i hi hi2
      cases i with
      | zero => exact h1
      | succ i => exact h2 i (by simpa using hi) (by simpa using hi2)
    · intro h
      exact ⟨h 0 (by simp) (by simp), fun i hi hi2 => h (i + 1) (by simpa using hi) (by simpa using hi2)⟩
  | [], _ :: _, hl => by simp at hl
  | _ :: _, [], hl => by simp at hl
def shP (p : List STree × List STree) : Bool := decide (p.1.length = p.2.length) && shB p.1 p.2
theorem shP_iff (p : List STree × List STree) : shP p = true ↔ Lg.ShalP KX p := by
  unfold shP Lg.ShalP
  rw [Bool.and_eq_true, decide_eq_true_eq]
  constructor
  · intro ⟨h1, h2⟩; exact ⟨h1, (shB_iff h1).1 h2⟩
  · intro ⟨h1, h2⟩; exact ⟨h1, (shB_iff h1).2 h2⟩
set_option maxHeartbeats 1600000 in
theorem implEqF_any (p : List STree × List STree) (va vb : Value) (w : World) (ha : SListF w va p.1) (hb : SListF w vb p.2) (hz : ∀ x, x ∈ p.1 → szT x.term ≤ 1048576) :
    Calls Try.prog 74 #[va, vb, .func (.func 62) #[] #[]] w fun e w' => e = .returned (.bool (shP p)) ∧ Below w.heap.size w w' := by
  obtain ⟨ts, us⟩ := p
  obtain ⟨ha1, aa, ac, rfl, ha2⟩ := ha
  obtain ⟨hb1, ba, bc, rfl, hb2⟩ := hb
  simp only at ha1 ha2 hb1 hb2 ⊢
  have HA := Lib.hid ha2
  have HB := Lib.hid hb2
  have HZ := Lib.hid hz
  have HR : Hid (shP (ts, us) = (decide (ts.length = us.length) && shB ts us)) := rfl
  clear ha2 hb2 hz
  by_cases hl : ts.length = us.length
  · have HL := Lib.hid hl
    have hq : ((ts.length : Int) != (us.length : Int)) = false := by rw [hl]; simp
    have HR2 : Hid (shP (ts, us) = shB ts us) := by show _ = _; rw [HR.out]; simp [hl]
    clear hl
    go_enter Try.func74, Try.ntmps74
    go_wp2
    go_loopw [17] (fun i wr => ∃ j : Nat, j ≤ ts.length ∧ i = .int .i64 j ∧ Hid (shP (ts, us) = shB (ts.drop j) (us.drop j)) ∧ Hid (Below w.heap.size w wr))
      (fun i _ => ts.length - (intOf i).toNat)
    case atStart => exact ⟨0, Nat.zero_le _, rfl, HR2.out, Below.refl _ _⟩
    case round =>
      obtain ⟨j, hj, rfl, hsz, hbe⟩ := hrel
      by_cases hlt : j < ts.length
      · have hlt2 : j < us.length := by have := HL.out; omega
        obtain ⟨g, o, rfl, f1, l1⟩ := HA.out (by omega)
        obtain ⟨h, q, rfl, f2, l2⟩ := HB.out (by omega)
        have kf := keepF_below hbe.out
        obtain ⟨ta, tc, ba, bc, ea, ec, c0, c1, c2, c3, c4, c5, c6, c7, lx⟩ := (l1.keep kf f1).at j hlt
        obtain ⟨ua, uc, da, dc, fa, fc, d0, d1, d2, d3, d4, d5, d6, d7, ly⟩ := (l2.keep kf f2).at j hlt2
        have C := Lib.hid (fun (w2 : World) (hb : Below wr.heap.size wr w2) => implShal_any ts[j] us[j] ta ba ea ua da fa tc bc ec uc dc fc w2 (HZ.out _ (List.getElem_mem hlt)) (lx.lists.1.keep (keepF_below hb)) (ly.lists.1.keep (keepF_below hb)))
        have hd : shB (ts.drop j) (us.drop j) = (shalX ts[j] us[j] && shB (ts.drop (j + 1)) (us.drop (j + 1))) := shB_drop hlt hlt2
        have ke := keeps_alloc wr (.cells #[.int .i64 ts[j].kind, .string ts[j].name, .int .i64 ts[j].term.kind, .int .i64 ts[j].term.num, .string ts[j].term.name, .slice ta ts[j].term.kids.length tc, .slice ba ts[j].body.length bc, .slice ea ts[j].els.length ec] 74)
        have e0 := ke _ _ d0
        have e1 := ke _ _ d1
        have e2 := ke _ _ d2
        have e3 := ke _ _ d3
        have e4 := ke _ _ d4
        have e5 := ke _ _ d5
        have e6 := ke _ _ d6
        have e7 := ke _ _ d7
        clear l1 l2 f1 f2 kf ke d0 d1 d2 d3 d4 d5 d6 d7 lx ly
        cases hq2 : shalX ts[j] us[j] with
        | false =>
          have HS2 : Hid (shP (ts, us) = false) := by show _ = _; rw [hsz.out, hd, hq2]; rfl
          rw [hq2] at C
          clear hq2 hd
          go_wp2_with fail
          refine (C.out _ (((Below.refl _ _).alloc (Nat.le_refl _) _).alloc (by simp) _)).mono ?_
          rintro e w1 ⟨rfl, hb1⟩
          have HB1 := Lib.hid hb1
          clear hb1
          go_wp2
          go_ret
          exact ⟨ret_b (by rw [HS2.out]), hbe.out.trans ((below_box1 (below_box1 HB1.out)).mono hbe.out.size)⟩
        | true =>
          have HS2 : Hid (shP (ts, us) = shB (ts.drop (j + 1)) (us.drop (j + 1))) := by show shP (ts, us) = _; rw [hsz.out, hd, hq2]; rfl
          rw [hq2] at C
          clear hq2 hd
          go_wp2_with fail
          refine (C.out _ (((Below.refl _ _).alloc (Nat.le_refl _) _).alloc (by simp) _)).mono ?_
          rintro e w1 ⟨rfl, hb1⟩
          have HB1 := Lib.hid (below_box1 (below_box1 hb1))
          clear hb1
          go_wp2
          go_roundw
          case rel => exact ⟨j + 1, by omega, by go_num, HS2, hbe.out.trans (HB1.out.mono hbe.out.size)⟩
          case measure => simp [intOf]; omega
      · have HS2 : Hid (shP (ts, us) = true) := by show _ = _; rw [hsz.out, shB_end (by omega)]
        go_wp2
        go_ret
        exact ⟨ret_b (by rw [HS2.out]), hbe.out⟩
  · have hq : ((ts.length : Int) != (us.length : Int)) = true := by simp; omega
    have HL := Lib.hid hl
    clear hl
    go_enter Try.func74, Try.ntmps74
    go_wp2
    go_ret
    exact ⟨ret_b (by rw [HR.out]; simp [HL.out]), Below.refl _ _⟩
end Go.Proofs.Ytpbhoomhcdljoaa.SpX
