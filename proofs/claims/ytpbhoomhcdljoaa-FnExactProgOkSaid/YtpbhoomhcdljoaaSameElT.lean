/- Two lists of terms held against each other but for what is within them, walked; the lists within one. Conditions: both lists lie in rows that are not frozen. -/
import Derived.Test.YtpbhoomhcdljoaaSpotT
import Derived.Test.YtpbhoomhcdljoaaKindT
import Derived.WalkSmall
import Derived.Outline
namespace Go.Proofs.Ytpbhoomhcdljoaa.SpT
open Go.RowKit Own Trm Km
set_option maxHeartbeats 1600000 in
theorem implShal_any (t t2 : Tree) (a b : Option Addr) (c d : Nat) (w : World) :
    Calls Try.prog 83 #[.agg #[.int .i64 t.kind, .int .i64 t.num, .string t.name, .slice a t.kids.length c], .agg #[.int .i64 t2.kind, .int .i64 t2.num, .string t2.name, .slice b t2.kids.length d]] w fun e w' => e = .returned (.bool (shal t t2)) ∧ Below w.heap.size w w' := by
  have HR : Hid (shal t t2 = (decide (t.kind = t2.kind) && decide (t.num = t2.num) && decide (t.name = t2.name))) := rfl
  obtain ⟨k, n, s, ks⟩ := t
  obtain ⟨k', n', s', ks'⟩ := t2
  simp only [Tree.kind, Tree.num, Tree.name, Tree.kids] at HR ⊢
  by_cases hk : k = k'
  · subst hk
    by_cases hn : n = n'
    · subst hn
      by_cases hs : s = s'
      · subst hs
        go_enter Try.func83, Try.ntmps83
        go_wp2
        go_ret
        exact ⟨ret_b (by rw [HR.out]; simp), ((Below.refl _ _).alloc (Nat.le_refl _) _).alloc (by simp) _⟩
      · have hq := bytes_ne hs
        have HS := Lib.hid hs
        clear hs
        go_enter Try.func83, Try.ntmps83
        go_wp2
        go_ret
        exact ⟨ret_b (by rw [HR.out]; simp [HS.out]), ((Below.refl _ _).alloc (Nat.le_refl _) _).alloc (by simp) _⟩
    · have hq : (n == n') = false := by simp [hn]
      have HN := Lib.hid hn
      clear hn
      go_enter Try.func83, Try.ntmps83
      go_wp2
      go_ret
      exact ⟨ret_b (by rw [HR.out]; simp [HN.out]), ((Below.refl _ _).alloc (Nat.le_refl _) _).alloc (by simp) _⟩
  · have hq : (k == k') = false := by simp [hk]
    have HK := Lib.hid hk
    clear hk
    go_enter Try.func83, Try.ntmps83
    go_wp2
    go_ret
    exact ⟨ret_b (by rw [HR.out]; simp [HK.out]), ((Below.refl _ _).alloc (Nat.le_refl _) _).alloc (by simp) _⟩

/-- The lists within one, as values. -/
def CellsIn (w : World) (g : Nat) (vs : List Value) : Prop := ∀ j (_ : j < vs.length), w.cell? ⟨g, j, none⟩ = some (vs[j])
structure ListsIn (V : World) (x : Tree) (vs : List Value) : Prop where
  len : vs.length = 1
  at' : ∀ j (h : j < vs.length) (h2 : j < (KT.wi x).length), ListF V vs[j] (KT.wi x)[j]
theorem CellsIn.keep {w w' : World} {g : Nat} {vs : List Value} (hk : ∀ p u, p.block = g → w.cell? p = some u → w'.cell? p = some u) (h : CellsIn w g vs) : CellsIn w' g vs := fun j hj => hk _ _ rfl (h j hj)
abbrev inVs (x : Tree) (ka : Option Addr) (kc : Nat) : List Value := [.slice ka x.kids.length kc]
theorem lists_in {V : World} (x : Tree) {ka : Option Addr} {kc : Nat} (hl : ListF V (.slice ka x.kids.length kc) x.kids) : ListsIn V x (inVs x ka kc) := by
  refine ⟨rfl, fun j hj h2 => ?_⟩
  obtain rfl : j = 0 := by simpa using hj
  exact hl
theorem implWithin_any (x : Tree) (ka : Option Addr) (kc : Nat) (w : World) :
    Calls Try.prog 84 #[.agg #[.int .i64 x.kind, .int .i64 x.num, .string x.name, .slice ka x.kids.length kc]] w fun e w' => ∃ g, e = .returned (.slice (some ⟨g, 0, none⟩) 1 1) ∧ Below w.heap.size w w' ∧ w.heap.size ≤ g ∧ g < w'.heap.size ∧ CellsIn w' g (inVs x ka kc) := by
  go_enter Try.func84, Try.ntmps84
  go_wp2
  go_ret
  refine ⟨_, rfl, ((Below.refl _ _).alloc (Nat.le_refl _) _).alloc (by simp) _, by simp, by simp, fun j hj => ?_⟩
  obtain rfl : j = 0 := by simpa using hj
  simp [go_sem]
def shB : List Tree → List Tree → Bool
  | x :: xs, y :: ys => KT.sh x y && shB xs ys
  | _, _ => true
theorem shB_drop {xs ys : List Tree} {i : Nat} (h : i < xs.length) (h2 : i < ys.length) : shB (xs.drop i) (ys.drop i) = (KT.sh xs[i] ys[i] && shB (xs.drop (i + 1)) (ys.drop (i + 1))) := by
  rw [List.drop_eq_getElem_cons h, List.drop_eq_getElem_cons h2, shB]
theorem shB_end {xs ys : List Tree} {i : Nat} (h : xs.length ≤ i) : shB (xs.drop i) (ys.drop i) = true := by
  rw [List.drop_of_length_le h, shB]; simp
theorem shB_iff : ∀ {xs ys : List Tree}, xs.length = ys.length → (shB xs ys = true ↔ ∀ i (h : i < xs.length) (h2 : i < ys.length), KT.sh xs[i] ys[i] = true)
  | [], [], _ => by simp [shB]
  | x :: xs, y :: ys, hl => by
    rw [shB, Bool.and_eq_true, shB_iff (xs := xs) (ys := ys) (by simpa using hl)]
    constructor
    · intro ⟨h1, h2⟩ i hi hi2
      cases i with
      | zero => exact h1
      | succ i => exact h2 i (by simpa using hi) (by simpa using hi2)
    · intro h
      exact ⟨h 0 (by simp) (by simp), fun i hi hi2 => h (i + 1) (by simpa using hi) (by simpa using hi2)⟩
  | [], _ :: _, hl => by simp at hl
  | _ :: _, [], hl => by simp at hl
def shP (p : List Tree × List Tree) : Bool := decide (p.1.length = p.2.length) && shB p.1 p.2
theorem shP_iff (p : List Tree × List Tree) : shP p = true ↔ Lg.ShalP KT p := by
  unfold shP Lg.ShalP
  rw [Bool.and_eq_true, decide_eq_true_eq]
  constructor
  · intro ⟨h1, h2⟩; exact ⟨h1, (shB_iff h1).1 h2⟩
  · intro ⟨h1, h2⟩; exact ⟨h1, (shB_iff h1).2 h2⟩
set_option maxHeartbeats 1600000 in
theorem implEqF_any (p : List Tree × List Tree) (va vb : Value) (w : World) (ha : ListF w va p.1) (hb : ListF w vb p.2) :
    Calls Try.prog 90 #[va, vb, .func (.func 83) #[] #[]] w fun e w' => e = .returned (.bool (shP p)) ∧ Below w.heap.size w w' := by
  obtain ⟨ts, us⟩ := p
  obtain ⟨ha1, aa, ac, rfl, ha2⟩ := ha
  obtain ⟨hb1, ba, bc, rfl, hb2⟩ := hb
  simp only at ha1 ha2 hb1 hb2 ⊢
  have HA := Lib.hid ha2
  have HB := Lib.hid hb2
  have HR : Hid (shP (ts, us) = (decide (ts.length = us.length) && shB ts us)) := rfl
  clear ha2 hb2
  by_cases hl : ts.length = us.length
  · have HL := Lib.hid hl
    have hq : ((ts.length : Int) != (us.length : Int)) = false := by rw [hl]; simp
    have HR2 : Hid (shP (ts, us) = shB ts us) := by show _ = _; rw [HR.out]; simp [hl]
    clear hl
    go_enter Try.func90, Try.ntmps90
    go_wp2
    go_loopw [17] (fun i wr => ∃ j : Nat, j ≤ ts.length ∧ i = .int .i64 j ∧ Hid (shP (ts, us) = shB (ts.drop j) (us.drop j)) ∧ Hid (Below w.heap.size w wr))
      (fun i _ => ts.length - (intOf i).toNat)
    case atStart => exact ⟨0, Nat.zero_le _, rfl, HR2.out, Below.refl _ _⟩
    case round =>
      obtain ⟨j, hj, rfl, hsz, hbe⟩ := hrel
      by_cases hlt : j < ts.length
      · have hlt2 : j < us.length := by have := HL.out; omega
        obtain ⟨g, o, rfl, f1, l1⟩ := HA.out (by omega)
        obtain ⟨h, q, rfl, f2, l2⟩ := HB.out (by omega)
        have kf := keepF_below hbe.out
        obtain ⟨ka, kc, c0, c1, c2, c3, _⟩ := (l1.keep kf f1).at j hlt
        obtain ⟨la, lc, d0, d1, d2, d3, _⟩ := (l2.keep kf f2).at j hlt2
        have C := Lib.hid (fun (w2 : World) (_ : Below wr.heap.size wr w2) => implShal_any ts[j] us[j] ka la kc lc w2)
        have hd : shB (ts.drop j) (us.drop j) = (shal ts[j] us[j] && shB (ts.drop (j + 1)) (us.drop (j + 1))) := shB_drop hlt hlt2
        have ke := keeps_alloc wr (.cells #[.int .i64 ts[j].kind, .int .i64 ts[j].num, .string ts[j].name, .slice ka ts[j].kids.length kc] 72)
        have e0 := ke _ _ d0
        have e1 := ke _ _ d1
        have e2 := ke _ _ d2
        have e3 := ke _ _ d3
        clear l1 l2 f1 f2 kf ke d0 d1 d2 d3
        cases hq2 : shal ts[j] us[j] with
        | false =>
          have HS2 : Hid (shP (ts, us) = false) := by show _ = _; rw [hsz.out, hd, hq2]; rfl
          rw [hq2] at C
          clear hq2 hd
          go_wp2_with fail
          refine (C.out _ (((Below.refl _ _).alloc (Nat.le_refl _) _).alloc (by simp) _)).mono ?_
          rintro e w1 ⟨rfl, hb1⟩
          have HB1 := Lib.hid hb1
          clear hb1
          go_wp2
          go_ret
          exact ⟨ret_b (by rw [HS2.out]), hbe.out.trans ((below_box1 (below_box1 HB1.out)).mono hbe.out.size)⟩
        | true =>
          have HS2 : Hid (shP (ts, us) = shB (ts.drop (j + 1)) (us.drop (j + 1))) := by show shP (ts, us) = _; rw [hsz.out, hd, hq2]; rfl
          rw [hq2] at C
          clear hq2 hd
          go_wp2_with fail
          refine (C.out _ (((Below.refl _ _).alloc (Nat.le_refl _) _).alloc (by simp) _)).mono ?_
          rintro e w1 ⟨rfl, hb1⟩
          have HB1 := Lib.hid (below_box1 (below_box1 hb1))
          clear hb1
          go_wp2
          go_roundw
          case rel => exact ⟨j + 1, by omega, by go_num, HS2, hbe.out.trans (HB1.out.mono hbe.out.size)⟩
          case measure => simp [intOf]; omega
      · have HS2 : Hid (shP (ts, us) = true) := by show _ = _; rw [hsz.out, shB_end (by omega)]
        go_wp2
        go_ret
        exact ⟨ret_b (by rw [HS2.out]), hbe.out⟩
  · have hq : ((ts.length : Int) != (us.length : Int)) = true := by simp; omega
    have HL := Lib.hid hl
    clear hl
    go_enter Try.func90, Try.ntmps90
    go_wp2
    go_ret
    exact ⟨ret_b (by rw [HR.out]; simp [HL.out]), Below.refl _ _⟩
end Go.Proofs.Ytpbhoomhcdljoaa.SpT
