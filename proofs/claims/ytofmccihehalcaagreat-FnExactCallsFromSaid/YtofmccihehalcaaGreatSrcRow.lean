/- What an append reads, and the append's law over it. Without conditions beyond those of the law that it rests on. -/
import Derived.Test.YtofmccihehalcaaGreatMovesD
import Derived.Maps.AppendAt
import Derived.Laws.AppendOwnNone
namespace Go.Proofs.YtofmccihehalcaaGreat.Trm
open Go.RowKit Own
/-- What an append reads: nothing, or cells one behind the other. -/
def Src (w : World) (sa : Option Addr) (m sc : Nat) (ys : List Value) : Prop := (sa = none ∧ m = 0 ∧ sc = 0 ∧ ys = []) ∨ ∃ ad, sa = some ad ∧ ys.length = m ∧ ∀ j u, ys[j]? = some u → w.cell? (ad.add j) = some u
theorem Src.keep {w w' : World} {sa : Option Addr} {m sc : Nat} {ys : List Value} (h : Src w sa m sc ys) (hk : Keeps w w') : Src w' sa m sc ys := by
  rcases h with h | ⟨ad, h1, h2, h3⟩
  · exact .inl h
  · exact .inr ⟨ad, h1, h2, fun j u e => hk _ _ (h3 j u e)⟩
theorem moves_append {w w' : World} {v v' : Value} (hg : w.grownBy w' v.ownBlock) (h : v'.ownBlock = v.ownBlock ∨ v'.ownBlock = some w.heap.size) : Moves w v w' v' := by
  refine ⟨hg, ?_⟩
  rcases h with h | h
  · exact .inl h
  · exact .inr fun k hk => by rw [h] at hk; cases hk; exact Nat.le_refl _
theorem wpList_append_src {P : Program} {w : World} {ops : Array Oper} {rest : List Oper} {o : Oper} {a : Act} {Q : Exit → Act → World → Prop} (hgd : o.guard = none) (s x : Operand) (t : TypeId)
    (ho : o.op = .call { callee := .builtin .append, args := #[s, x], argTypes := #[t, t] })
    (base : Nat) (e : TypeId) (i : TypeInfo) (z : Value) (bytes : Nat) (ht : P.underlying t = some (.slice e)) (hi : P.info? e = some i) (hz : i.zero = some z)
    (hsize : i.size = 1) (hby : i.bytes = bytes) (hzs : z.cells.size = 1)
    (v : Value) (n : Nat) (xs : List Value) (hs : a.eval s = v) (hown : w.ownsRow base e 1 v n xs)
    (sa : Option Addr) (m sc : Nat) (ys : List Value) (hx : a.eval x = .slice sa m sc) (hsrc : Src w sa m sc ys) (h1 : ∀ u ∈ ys, u.oneCell' = true)
    (h63 : n + m ≤ maxLen) (hbytes : (n + m) * bytes ≤ 140737488355328) (hbase : base ≤ w.heap.size)
    (h : ∀ v' w', w'.ownsRow base e 1 v' (n + m) (xs ++ ys) → Moves w v w' v' → wpList P ops Q rest (a.put o.dst v') w') : wpList P ops Q (o :: rest) a w := by
  rcases hsrc with ⟨rfl, rfl, rfl, rfl⟩ | ⟨ad, rfl, hl, hc⟩
  · exact wpList_append_own_none hgd s x t ho base e i 1 ht hi v n xs hs hown hx (h v w (by simpa using hown) (Moves.refl _ _))
  · exact wpList_append_own_at w hgd s x t ho base e i z 1 bytes ht hi hz hsize hby hzs (by decide) v n xs hs hown ad m sc ys hx (by simpa using hl) hc h1 h63 hbytes hbase fun v' w' a1 a2 _ a4 => h v' w' a1 (moves_append a2 a4)
end Go.Proofs.YtofmccihehalcaaGreat.Trm
