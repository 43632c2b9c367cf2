/- Words on rows and on what a call leaves as it was. Without conditions. -/
import Derived.Test.YtabpbmifegfmgaaChecked
import Derived.Test.YtabpbmifegfmgaaTrees
import Derived.Test.YtabpbmifegfmgaaStrCells
import Derived.Test.YtabpbmifegfmgaaLists
import Derived.WalkKit
import Derived.BigQuiet
import Derived.OwnWalk
import Derived.WalkSmall
import Derived.Outline
namespace Go.Proofs.Ytabpbmifegfmgaa.Trm
open Go.RowKit Own
theorem infoStrL : (Try.prog.info? 9).map (fun i => (i.zero, i.size, i.bytes)) = some (some (.string ⟨#[]⟩), 1, 16) := by kernel_rfl
theorem infoIntL : (Try.prog.info? 3).map (fun i => (i.zero, i.size, i.bytes)) = some (some (.int .i64 0), 1, 8) := by kernel_rfl
theorem below_noneL {w w' : World} (h : w.grownBy w' none) : Below w.heap.size w w' := ⟨h.os, h.tape, h.output, h.size, fun k hk => h.block k hk (by simp)⟩
theorem set_mid (ys : List Value) (z : Value) (zs : List Value) (u : Value) (j : Nat) (h : ys.length = j) : (ys ++ z :: zs).set j u = (ys ++ [u]) ++ zs := by
  subst h
  rw [List.set_append_right _ _ (Nat.le_refl _), Nat.sub_self, List.set_cons_zero]
  simp
/-- Blocks that are as they were. -/
def Same (lo hi : Nat) (w w' : World) : Prop := ∀ b, lo ≤ b → b < hi → w'.heap[b]? = w.heap[b]?
theorem row_same {w w' : World} {lo : Nat} {e : TypeId} {size : Nat} {v : Value} {n : Nat} {xs : List Value} (h : w.ownsRow lo e size v n xs) (hb : ∀ b, v.ownBlock = some b → w'.heap[b]? = w.heap[b]?) : w'.ownsRow lo e size v n xs := by
  refine ⟨h.1, ?_⟩
  rcases h.2 with h0 | ⟨g, cap, cur, rfl, h1, h2, h3⟩
  · exact .inl h0
  · exact .inr ⟨g, cap, cur, rfl, h1, (hb g rfl).trans h2, h3⟩
theorem below_none {w w' : World} (h : w.grownBy w' none) : Below w.heap.size w w' := ⟨h.os, h.tape, h.output, h.size, fun k hk => h.block k hk (by simp)⟩
theorem row_below {w w' : World} {lo : Nat} {e : TypeId} {size : Nat} {v : Value} {n : Nat} {xs : List Value} (h : w.ownsRow lo e size v n xs) (hb : Below w.heap.size w w') : w'.ownsRow lo e size v n xs :=
  row_same h fun b hb' => hb.block b (h.lt b hb').2
/-- What is left of so much, or -1. -/
def leftR (a n : Nat) : Int := if n ≤ a then ((a - n : Nat) : Int) else -1
theorem leftR_yes {a n : Nat} (h : n ≤ a) : leftR a n = ((a - n : Nat) : Int) := by unfold leftR; rw [if_pos h]
theorem leftR_no {a n : Nat} (h : a < n) : leftR a n = -1 := by unfold leftR; rw [if_neg (by omega)]
theorem leftR_step {a m n : Nat} (h : m ≤ a) : leftR a (m + n) = leftR (a - m) n := by
  unfold leftR
  by_cases hn : n ≤ a - m
  · rw [if_pos hn, if_pos (by omega)]; congr 1; omega
  · rw [if_neg hn, if_neg (by omega)]
/-- What is written lies between two blocks. -/
structure Marks (lo hi : Nat) (w w' : World) : Prop where
  os : w'.os = w.os
  tape : w'.tape = w.tape
  output : w'.output = w.output
  size : w.heap.size ≤ w'.heap.size
  block : ∀ k, k < w.heap.size → (k < lo ∨ hi ≤ k) → w'.heap[k]? = w.heap[k]?
theorem Marks.refl (lo hi : Nat) (w : World) : Marks lo hi w w := ⟨rfl, rfl, rfl, Nat.le_refl _, fun _ _ _ => rfl⟩
theorem Marks.trans {lo hi : Nat} {a b c : World} (h : Marks lo hi a b) (k : Marks lo hi b c) : Marks lo hi a c :=
  ⟨k.os.trans h.os, k.tape.trans h.tape, k.output.trans h.output, Nat.le_trans h.size k.size, fun i hi' ho => (k.block i (Nat.lt_of_lt_of_le hi' h.size) ho).trans (h.block i hi' ho)⟩
theorem Marks.wide {lo hi lo' hi' : Nat} {w w' : World} (h : Marks lo hi w w') (h1 : lo' ≤ lo) (h2 : hi ≤ hi') : Marks lo' hi' w w' :=
  ⟨h.os, h.tape, h.output, h.size, fun k hk ho => h.block k hk (by omega)⟩
theorem Marks.of_grown {lo hi : Nat} {w w' : World} {row : Option Nat} (h : w.grownBy w' row) (hr : ∀ b, row = some b → lo ≤ b ∧ b < hi) : Marks lo hi w w' :=
  ⟨h.os, h.tape, h.output, h.size, fun k hk ho => h.block k hk (fun e => by have := hr k e.symm; omega)⟩
theorem Marks.below {lo hi : Nat} {w w' : World} (h : Marks lo hi w w') (hl : lo ≤ w.heap.size) : Below lo w w' :=
  ⟨h.os, h.tape, h.output, h.size, fun k hk => h.block k (by omega) (.inl hk)⟩
theorem wrap_nat (a : Nat) (h : a ≤ 4611686018427387904) : IntKind.i64.wrap (a : Int) = a := IntWalk.i64_in _ (by omega)
theorem ne_true {k x : Int} (h : k ≠ x) : (k == x) = false := by simp [h]
theorem one_intV (ss : List Int) : ∀ u ∈ intV ss, u.oneCell' = true := by
  intro u hu
  obtain ⟨s, _, rfl⟩ := List.mem_map.1 hu
  rfl
theorem intV_append (a b : List Int) : intV (a ++ b) = intV a ++ intV b := by simp [intV]
end Go.Proofs.Ytabpbmifegfmgaa.Trm
