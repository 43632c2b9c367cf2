/- Rows and blocks beside a map that a walk keeps. Without conditions. -/
import Derived.Test.YtmhhghdfgdhljaaFreeX
import Derived.Test.YtmhhghdfgdhljaaStrCells
namespace Go.Proofs.Ytmhhghdfgdhljaa.SpX
open Go.RowKit Own Trm
/-- The place: the map's block is none that keeps lists; both are newer than the call's world. -/
structure Ctx (V w : World) (M : Nat) : Prop where
  map : ∃ es clock, V.heap[M]? = some (Obj.map es clock)
  hM : w.heap.size ≤ M
  hV : w.heap.size ≤ V.heap.size
theorem Ctx.lt {V w : World} {M : Nat} (c : Ctx V w M) : M < V.heap.size := by obtain ⟨es, k, h⟩ := c.map; exact heap_lt h
theorem row_prefix {w : World} {base : Nat} {e : TypeId} {size n n' cap : Nat} {a : Option Addr} {xs ys : List Value} (h : w.ownsRow base e size (.slice a (n + n') cap) (n + n') (xs ++ ys)) (hx : xs.length = n * size) (hn : 0 < n') : w.ownsRow base e size (.slice a n cap) n xs := by
  refine ⟨hx, ?_⟩
  rcases h.2 with ⟨e1, e2⟩ | ⟨g, cap', cur, e1, h1, h2, h3, h4, h5, h6⟩
  · omega
  · simp at e1
    obtain ⟨rfl, rfl⟩ := e1
    refine .inr ⟨g, cap, cur, rfl, h1, h2, by omega, h4, h5, ?_⟩
    have := congrArg (List.take (n * size)) h6
    rw [List.take_take, List.take_append_of_le_length (by omega), List.take_of_length_le (l := xs) (by omega)] at this
    rw [← this]
    congr 1
    have : n * size ≤ (n + n') * size := Nat.mul_le_mul_right _ (by omega)
    omega
theorem row_cap {w : World} {base : Nat} {e : TypeId} {size n m cap : Nat} {a : Option Addr} {xs : List Value} (h : w.ownsRow base e size (.slice a m cap) n xs) : n ≤ cap := by
  rcases h.2 with ⟨e1, e2⟩ | ⟨g, cap', cur, e1, h1, h2, h3, _⟩
  · omega
  · simp at e1
    omega
theorem blk_at {W : World} {b : Nat} {o o' : Obj} (hb : b < W.heap.size) (h : W.heap[b]? = some o) : (W.alloc o').heap[b]? = some o := by
  rw [((Below.refl W.heap.size W).alloc (Nat.le_refl _) o').block b hb]; exact h
theorem cell_noMap {w : World} {b M : Nat} {i : Nat} {u : Value} {es : Array MapEntry} {k : Nat} (h : w.cell? ⟨b, i, none⟩ = some u) (hm : w.heap[M]? = some (.map es k)) : b ≠ M := fun e => by
  subst e
  simp [World.cell?, hm] at h
theorem cell_grown {w w' : World} {row : Option Nat} {b i : Nat} {u : Value} (h : w.cell? ⟨b, i, none⟩ = some u) (hg : w.grownBy w' row) (hn : some b ≠ row) : w'.cell? ⟨b, i, none⟩ = some u := by
  rw [World.cell?_of_block (hg.block b (cell_lt h) hn)]; exact h
theorem two_cells (a b : Option Addr) (n m c d : Nat) : ∀ u ∈ [Value.slice a n c, Value.slice b m d], u.oneCell' = true := by
  intro u hu
  simp at hu
  rcases hu with rfl | rfl <;> rfl
theorem last_of {α : Type} : ∀ (l : List α), l ≠ [] → ∃ l' e, l = l' ++ [e]
  | [], h => absurd rfl h
  | [a], _ => ⟨[], a, rfl⟩
  | a :: b :: r, _ => by
    obtain ⟨l', e, h⟩ := last_of (b :: r) (by simp)
    exact ⟨a :: l', e, by rw [h]; rfl⟩
end Go.Proofs.Ytmhhghdfgdhljaa.SpX
