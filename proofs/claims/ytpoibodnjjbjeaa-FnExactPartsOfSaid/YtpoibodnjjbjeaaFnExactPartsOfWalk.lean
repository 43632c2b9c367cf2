/- The law of PartsOf, walked out of the contracts. Conditions: the line's length fits an int. -/
import Derived.Test.YtpoibodnjjbjeaaPartsSpec
import Derived.Test.YtpoibodnjjbjeaaPartsImpl
import Derived.Lib.Hide
import Derived.WalkSmall
namespace Go.Proofs.Ytpoibodnjjbjeaa.FnExactPartsOfW
open Go.RowKit Own Parts
theorem kept_none {w w' : World} {base : Nat} {e : TypeId} {size : Nat} {v : Value} {n : Nat} {xs : List Value} (h : w.ownsRow base e size v n xs) (hg : w.grownBy w' none) : w'.ownsRow base e size v n xs :=
  h.kept hg (by cases v.ownBlock <;> simp)
theorem kept_far {w w' : World} {base base' : Nat} {e : TypeId} {size : Nat} {v v' : Value} {n n' : Nat} {xs xs' : List Value} {w0 : World} (h : w.ownsRow base e size v n xs) (h0 : w0.ownsRow base e size v n xs) (h' : w.ownsRow base' e size v' n' xs') (hb : w0.heap.size ≤ base') (hg : w.grownBy w' v'.ownBlock) : w'.ownsRow base e size v n xs := by
  refine h.kept hg ?_
  cases e1 : v.ownBlock with
  | none => exact .inl rfl
  | some g =>
    refine .inr fun e2 => ?_
    have a := (h0.lt g e1).2
    have b := (h'.lt g e2.symm).1
    omega
theorem row_at {w : World} {base : Nat} {e : TypeId} {v : Value} {n : Nat} {ss : List ByteArray} (h : w.ownsRow base e 1 v n (strV ss)) : w.ownsRow base e 1 v ss.length (strV ss) := by rw [row_len h]; exact h
theorem mark_one (v : Value) (b n : Nat) (ss : List ByteArray) (w : World) (h1 : w.ownsRow b 9 1 v n (strV ss)) (hn : n ≤ 1000000) :
    Calls Try.prog 14 #[v, .int .i64 1] w fun e w' => e = .returned (.int .i64 (1 + (n : Int))) ∧ w'.ownsRow b 9 1 v n (strV (marks 1 n)) ∧ w.grownBy w' v.ownBlock := by
  have := markStrings_any v b n 1 ss w h1 (Nat.le_refl _) (by omega)
  rw [show ((1 + n : Nat) : Int) = 1 + (n : Int) from by omega] at this
  exact this
theorem held_one (v : Value) (b n : Nat) (w : World) (h1 : w.ownsRow b 9 1 v n (strV (marks 1 n))) (hn : n ≤ 1000000) :
    Calls Try.prog 15 #[v, .int .i64 1] w fun e w' => e = .returned (.int .i64 (1 + (n : Int))) ∧ w.grownBy w' none := by
  have := heldStrings_any v b n 1 w h1 (Nat.le_refl _) (by omega)
  rw [show ((1 + n : Nat) : Int) = 1 + (n : Int) from by omega] at this
  exact this

set_option maxHeartbeats 800000 in
theorem core (a : ByteArray) (w : World) (ps : List ByteArray) (f : Bool) (hp : ps.length ≤ 12) (_ha : a.size ≤ 1048576)
    (c1 : ∀ w, Calls Try.prog 11 #[.string a] w fun e w' => ∃ v, e = .returned (.tuple #[v, .bool f]) ∧ w'.ownsRow w.heap.size 9 1 v ps.length (strV ps) ∧ w.grownBy w' none)
    (c2 : ∀ w, Calls Try.prog 12 #[.string a] w fun e w' => ∃ v, e = .returned (.tuple #[v, .bool f]) ∧ w'.ownsRow w.heap.size 9 1 v ps.length (strV ps) ∧ w.grownBy w' none) :
    Calls Try.prog 5 #[.string a] w fun e w' => e = .returned (.bool true) ∧ Below w.heap.size w w' := by
  have C1 := Lib.hid c1
  have C2 := Lib.hid c2
  clear c1 c2
  have HB := Lib.hid (Below.refl w.heap.size w)
  go_enter Try.func5, Try.ntmps5
  go_wp2_with fail
  refine (C1.out _).mono ?_
  rintro e w1 ⟨v0, rfl, ho, hg⟩
  have O0 := Lib.hid ho
  have B1 := Lib.hid (HB.out.grown hg (Nat.le_refl _) (fun _ h => by cases h))
  clear ho hg
  go_wp2_with fail
  refine (C2.out _).mono ?_
  rintro e w2 ⟨v1, rfl, ho, hg⟩
  have O1 := Lib.hid ho
  have O0b := Lib.hid (kept_none O0.out hg)
  have B2 := Lib.hid (B1.out.grown hg B1.out.size (fun _ h => by cases h))
  clear ho hg
  go_wp2_with fail
  refine (eqStrings_same v1 v0 _ _ ps.length ps w2 O1.out O0b.out).mono ?_
  rintro e w3 ⟨rfl, m, rfl⟩
  go_wp2_with fail
  refine (mark_one v1 w1.heap.size ps.length ps (w2.drewN m) O1.out (by omega)).mono ?_
  rintro e w4 ⟨rfl, ho, hg⟩
  have M4 := Lib.hid ho
  have O0c := Lib.hid (kept_far (w := w2.drewN m) (w0 := w1) O0b.out O0.out O1.out (Nat.le_refl _) hg)
  have B4 := Lib.hid ((below_drewN B2.out m).grown hg B2.out.size (fun k hk => Nat.le_trans B1.out.size (O1.out.lt k hk).1))
  clear ho hg
  go_wp2_with fail
  refine (held_one v1 w1.heap.size ps.length w4 M4.out (by omega)).mono ?_
  rintro e w5 ⟨rfl, hg⟩
  have M5 := Lib.hid (kept_none M4.out hg)
  have O0d := Lib.hid (kept_none O0c.out hg)
  have B5 := Lib.hid (B4.out.grown hg B4.out.size (fun _ h => by cases h))
  clear hg
  go_wp2_with fail
  refine (C2.out _).mono ?_
  rintro e w6 ⟨v2, rfl, ho, hg⟩
  have O2 := Lib.hid ho
  have M6 := Lib.hid (kept_none M5.out hg)
  have O0e := Lib.hid (kept_none O0d.out hg)
  have B6 := Lib.hid (B5.out.grown hg B5.out.size (fun _ h => by cases h))
  clear ho hg
  go_wp2_with fail
  refine (eqStrings_same v2 v0 _ _ ps.length ps w6 O2.out O0e.out).mono ?_
  rintro e w7 ⟨rfl, m2, rfl⟩
  go_wp2_with fail
  refine (held_one v1 w1.heap.size ps.length (w6.drewN m2) M6.out (by omega)).mono ?_
  rintro e w8 ⟨rfl, hg⟩
  have B8 := Lib.hid ((below_drewN B6.out m2).grown hg B6.out.size (fun _ h => by cases h))
  clear hg
  go_wp2_with fail
  go_ret
  exact ⟨rfl, B8.out⟩

theorem walk (a : ByteArray) (w : World) (wa : a.size ≤ maxLen) :
    Calls Try.prog 5 #[.string a] w fun e w' => e = .returned (.bool true) ∧ Below w.heap.size w w' := by
  unfold maxLen at wa
  by_cases h2 : a.size ≤ 1048576
  · obtain ⟨ps, f, ho⟩ : ∃ ps f, out a = (ps, f) := ⟨_, _, rfl⟩
    have hl : ps.length ≤ 12 := by have := out_length a; rw [ho] at this; exact this
    refine core a w ps f hl h2 (fun w => ?_) (fun w => ?_)
    · by_cases h : a.size ≤ 600
      · refine (specParts_short a w h).mono ?_
        rintro e w' ⟨v, n, rfl, h1, h3⟩
        rw [ho] at h1 ⊢
        exact ⟨v, rfl, row_at h1, h3⟩
      · refine (specParts_long a w (by omega) (by omega)).mono ?_
        rintro e w' ⟨v, n, rfl, h1, h3⟩
        rw [ho] at h1 ⊢
        exact ⟨v, rfl, row_at h1, h3⟩
    · by_cases h : a.size ≤ 600
      · refine (implParts_short a w h).mono ?_
        rintro e w' ⟨v, n, rfl, h1, h3⟩
        rw [ho] at h1 ⊢
        exact ⟨v, rfl, row_at h1, h3⟩
      · refine (implParts_long a w (by omega) (by omega)).mono ?_
        rintro e w' ⟨rfl, rfl⟩
        have := out_long (s := a) (by omega)
        rw [ho] at this
        obtain ⟨rfl, rfl⟩ := Prod.mk.inj this
        exact ⟨_, rfl, World.ownsRow_nil _ _ _ _, World.grownBy.refl _ _⟩
  · go_enter Try.func5, Try.ntmps5
    go_wp2
    go_ret
    exact ⟨rfl, Below.refl _ _⟩
end Go.Proofs.Ytpoibodnjjbjeaa.FnExactPartsOfW
