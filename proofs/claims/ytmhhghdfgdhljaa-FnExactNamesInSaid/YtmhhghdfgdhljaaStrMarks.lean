/- Lists of texts that a call owns, marked from 1 on and found marked; rows that lie apart. Conditions: the rows are owned by the call. -/
import Derived.Test.YtmhhghdfgdhljaaStrRows
import Derived.WalkSmall
namespace Go.Proofs.Ytmhhghdfgdhljaa.Own
open Go.RowKit
theorem kept_none {w w' : World} {base : Nat} {e : TypeId} {size : Nat} {v : Value} {n : Nat} {xs : List Value} (h : w.ownsRow base e size v n xs) (hg : w.grownBy w' none) : w'.ownsRow base e size v n xs :=
  h.kept hg (by cases v.ownBlock <;> simp)
theorem kept_far {w w' : World} {base base' : Nat} {e : TypeId} {size : Nat} {v v' : Value} {n n' : Nat} {xs xs' : List Value} {w0 : World} (h : w.ownsRow base e size v n xs) (h0 : w0.ownsRow base e size v n xs) (h' : w.ownsRow base' e size v' n' xs') (hb : w0.heap.size ≤ base') (hg : w.grownBy w' v'.ownBlock) : w'.ownsRow base e size v n xs := by
  refine h.kept hg ?_
  cases e1 : v.ownBlock with
  | none => exact .inl rfl
  | some g =>
    refine .inr fun e2 => ?_
    have a := (h0.lt g e1).2
    have b := (h'.lt g e2.symm).1
    omega
theorem row_at {w : World} {base : Nat} {e : TypeId} {v : Value} {n : Nat} {ss : List ByteArray} (h : w.ownsRow base e 1 v n (strV ss)) : w.ownsRow base e 1 v ss.length (strV ss) := by rw [row_len h]; exact h
theorem mark_one (v : Value) (b n : Nat) (ss : List ByteArray) (w : World) (h1 : w.ownsRow b 9 1 v n (strV ss)) (hn : n ≤ 9000000) :
    Calls Try.prog 32 #[v, .int .i64 1] w fun e w' => e = .returned (.int .i64 (1 + (n : Int))) ∧ w'.ownsRow b 9 1 v n (strV (marks 1 n)) ∧ w.grownBy w' v.ownBlock := by
  have := markStrings_any v b n 1 ss w h1 (Nat.le_refl _) (by omega)
  rw [show ((1 + n : Nat) : Int) = 1 + (n : Int) from by omega] at this
  exact this
theorem held_one (v : Value) (b n : Nat) (w : World) (h1 : w.ownsRow b 9 1 v n (strV (marks 1 n))) (hn : n ≤ 9000000) :
    Calls Try.prog 33 #[v, .int .i64 1] w fun e w' => e = .returned (.int .i64 (1 + (n : Int))) ∧ w.grownBy w' none := by
  have := heldStrings_any v b n 1 w h1 (Nat.le_refl _) (by omega)
  rw [show ((1 + n : Nat) : Int) = 1 + (n : Int) from by omega] at this
  exact this

end Go.Proofs.Ytmhhghdfgdhljaa.Own
