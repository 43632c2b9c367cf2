/- Terms that lie in memory of the call's own: each list of kids in a row of its own, the rows apart. Without conditions. -/
import Derived.Test.YtofmccihehalcaaChecked
import Derived.Test.YtofmccihehalcaaTrees
import Derived.WalkKit
import Derived.Deep.AppendLies
import Derived.Deep.Onto
namespace Go.Proofs.Ytofmccihehalcaa.Trm
open Go.RowKit Own
/-- The cells of an element. -/
def cellsT (t : Tree) (kv : Value) : List Value := [.int .i64 t.kind, .int .i64 t.num, .string t.name, kv]
def aggT (t : Tree) (kv : Value) : Value := .agg #[.int .i64 t.kind, .int .i64 t.num, .string t.name, kv]
mutual
def Owns (w : World) (lo hi : Nat) : Tree → Value → Prop
  | .node k n s ks, v => InI k ∧ InI n ∧ s.size ≤ 9223372036854775807 ∧ ∃ (kv : Value) (xs : List Value) (m : Nat), v = .agg #[.int .i64 k, .int .i64 n, .string s, kv] ∧ w.ownsRow lo 55 4 kv ks.length xs ∧ lo ≤ m ∧ (∀ b, kv.ownBlock = some b → b < m) ∧ OwnsL w m hi ks xs
def OwnsL (w : World) (lo hi : Nat) : List Tree → List Value → Prop
  | [], xs => xs = [] ∧ lo ≤ hi
  | t :: ts, xs => ∃ (kv : Value) (rest : List Value) (mid : Nat), xs = cellsT t kv ++ rest ∧ lo ≤ mid ∧ Owns w lo mid t (aggT t kv) ∧ OwnsL w mid hi ts rest
end
def OwnsK (w : World) (lo hi : Nat) (ks : List Tree) (kv : Value) : Prop :=
  ∃ (xs : List Value) (m : Nat), w.ownsRow lo 55 4 kv ks.length xs ∧ lo ≤ m ∧ (∀ b, kv.ownBlock = some b → b < m) ∧ OwnsL w m hi ks xs
theorem Owns.parts {w : World} {lo hi : Nat} {t : Tree} {v : Value} (h : Owns w lo hi t v) : InI t.kind ∧ InI t.num ∧ t.name.size ≤ 9223372036854775807 ∧ ∃ kv, v = aggT t kv ∧ OwnsK w lo hi t.kids kv := by
  cases t with
  | node k n s ks =>
    obtain ⟨h1, h2, h3, kv, xs, m, rfl, h4, h5, h6, h7⟩ := h
    exact ⟨h1, h2, h3, kv, rfl, xs, m, h4, h5, h6, h7⟩
theorem Owns.mk {w : World} {lo hi : Nat} {t : Tree} {kv : Value} (h1 : InI t.kind) (h2 : InI t.num) (h3 : t.name.size ≤ 9223372036854775807) (h : OwnsK w lo hi t.kids kv) : Owns w lo hi t (aggT t kv) := by
  cases t with
  | node k n s ks =>
    obtain ⟨xs, m, h4, h5, h6, h7⟩ := h
    exact ⟨h1, h2, h3, kv, xs, m, rfl, h4, h5, h6, h7⟩
/-- Blocks that are as they were. -/
def Same (lo hi : Nat) (w w' : World) : Prop := ∀ b, lo ≤ b → b < hi → w'.heap[b]? = w.heap[b]?
theorem row_same {w w' : World} {lo : Nat} {e : TypeId} {size : Nat} {v : Value} {n : Nat} {xs : List Value} (h : w.ownsRow lo e size v n xs) (hb : ∀ b, v.ownBlock = some b → w'.heap[b]? = w.heap[b]?) : w'.ownsRow lo e size v n xs := by
  refine ⟨h.1, ?_⟩
  rcases h.2 with h0 | ⟨g, cap, cur, rfl, h1, h2, h3⟩
  · exact .inl h0
  · exact .inr ⟨g, cap, cur, rfl, h1, (hb g rfl).trans h2, h3⟩
mutual
theorem Owns.le {w : World} : ∀ {t : Tree} {lo hi : Nat} {v : Value}, Owns w lo hi t v → lo ≤ hi
  | .node k n s ks, lo, hi, v, h => by
    obtain ⟨_, _, _, kv, xs, m, _, _, h5, _, h7⟩ := h
    exact Nat.le_trans h5 (OwnsL.le h7)
theorem OwnsL.le {w : World} : ∀ {ts : List Tree} {lo hi : Nat} {xs : List Value}, OwnsL w lo hi ts xs → lo ≤ hi
  | [], _, _, _, h => h.2
  | t :: ts, lo, hi, xs, h => by
    obtain ⟨kv, rest, mid, _, h1, _, h3⟩ := h
    exact Nat.le_trans h1 (OwnsL.le h3)
end
mutual
theorem Owns.same {w w' : World} : ∀ {t : Tree} {lo hi : Nat} {v : Value}, Same lo hi w w' → Owns w lo hi t v → Owns w' lo hi t v
  | .node k n s ks, lo, hi, v, hs, h => by
    obtain ⟨h1, h2, h3, kv, xs, m, rfl, h4, h5, h6, h7⟩ := h
    have hm := h7.le
    refine ⟨h1, h2, h3, kv, xs, m, rfl, row_same h4 (fun b hb => hs b (h4.lt b hb).1 (Nat.lt_of_lt_of_le (h6 b hb) hm)), h5, h6, OwnsL.same (fun b hb hb2 => hs b (by omega) hb2) h7⟩
theorem OwnsL.same {w w' : World} : ∀ {ts : List Tree} {lo hi : Nat} {xs : List Value}, Same lo hi w w' → OwnsL w lo hi ts xs → OwnsL w' lo hi ts xs
  | [], _, _, _, _, h => h
  | t :: ts, lo, hi, xs, hs, h => by
    obtain ⟨kv, rest, mid, e, h1, h2, h3⟩ := h
    have hm := h3.le
    exact ⟨kv, rest, mid, e, h1, Owns.same (fun b hb hb2 => hs b hb (by omega)) h2, OwnsL.same (fun b hb hb2 => hs b (by omega) hb2) h3⟩
end
theorem OwnsK.same {w w' : World} {lo hi : Nat} {ks : List Tree} {kv : Value} (hs : Same lo hi w w') (h : OwnsK w lo hi ks kv) : OwnsK w' lo hi ks kv := by
  obtain ⟨xs, m, h4, h5, h6, h7⟩ := h
  have hm := h7.le
  exact ⟨xs, m, row_same h4 (fun b hb => hs b (h4.lt b hb).1 (Nat.lt_of_lt_of_le (h6 b hb) hm)), h5, h6, OwnsL.same (fun b hb hb2 => hs b (by omega) hb2) h7⟩
mutual
theorem Owns.wide {w : World} : ∀ {t : Tree} {lo lo' hi hi' : Nat} {v : Value}, lo' ≤ lo → hi ≤ hi' → Owns w lo hi t v → Owns w lo' hi' t v
  | .node k n s ks, lo, lo', hi, hi', v, hl, hh, h => by
    obtain ⟨h1, h2, h3, kv, xs, m, rfl, h4, h5, h6, h7⟩ := h
    exact ⟨h1, h2, h3, kv, xs, m, rfl, h4.mono hl, by omega, h6, OwnsL.wideR hh h7⟩
theorem OwnsL.wideR {w : World} : ∀ {ts : List Tree} {lo hi hi' : Nat} {xs : List Value}, hi ≤ hi' → OwnsL w lo hi ts xs → OwnsL w lo hi' ts xs
  | [], _, _, _, _, hh, h => ⟨h.1, Nat.le_trans h.2 hh⟩
  | t :: ts, lo, hi, hi', xs, hh, h => by
    obtain ⟨kv, rest, mid, e, h1, h2, h3⟩ := h
    exact ⟨kv, rest, mid, e, h1, h2, OwnsL.wideR hh h3⟩
end
theorem OwnsK.wide {w : World} {lo lo' hi hi' : Nat} {ks : List Tree} {kv : Value} (hl : lo' ≤ lo) (hh : hi ≤ hi') (h : OwnsK w lo hi ks kv) : OwnsK w lo' hi' ks kv := by
  obtain ⟨xs, m, h4, h5, h6, h7⟩ := h
  exact ⟨xs, m, h4.mono hl, by omega, h6, h7.wideR hh⟩
theorem OwnsL.snoc {w : World} : ∀ {ts : List Tree} {lo mid hi : Nat} {xs : List Value} {t : Tree} {kv : Value}, OwnsL w lo mid ts xs → Owns w mid hi t (aggT t kv) → OwnsL w lo hi (ts ++ [t]) (xs ++ cellsT t kv)
  | [], lo, mid, hi, xs, t, kv, h, ht => by
    obtain ⟨rfl, h2⟩ := h
    exact ⟨kv, [], hi, by simp, Nat.le_trans h2 ht.le, ht.wide h2 (Nat.le_refl _), rfl, Nat.le_refl _⟩
  | a :: ts, lo, mid, hi, xs, t, kv, h, ht => by
    obtain ⟨kv', rest, m, rfl, h1, h2, h3⟩ := h
    exact ⟨kv', rest ++ cellsT t kv, m, by simp, h1, h2, OwnsL.snoc h3 ht⟩
/-- What is owned lies there. -/
theorem lies_of_row {w : World} {lo : Nat} {n : Nat} {v : Value} {xs : List Value} (h : w.ownsRow lo 55 4 v n xs) : ∃ a cap, v = .slice a n cap ∧ n ≤ 9223372036854775807 ∧ (0 < n → ∃ g, a = some ⟨g, 0, none⟩ ∧ ∀ j, j < n * 4 → w.cell? ⟨g, j, none⟩ = xs[j]?) := by
  rcases h.2 with ⟨rfl, rfl⟩ | ⟨g, cap, cur, rfl, h1, h2, h3, h4, h5⟩
  · exact ⟨none, 0, rfl, by omega, fun h => by omega⟩
  · refine ⟨_, cap, rfl, by unfold maxLen at h4; omega, fun hn => ⟨g, rfl, fun j hj => h.cellAt j hj⟩⟩
mutual
theorem Owns.lies {w : World} : ∀ {t : Tree} {lo hi : Nat} {v : Value}, Owns w lo hi t v → Lies w t v
  | .node k n s ks, lo, hi, v, h => by
    obtain ⟨h1, h2, h3, kv, xs, m, rfl, h4, h5, h6, h7⟩ := h
    obtain ⟨a, cap, rfl, hn, hc⟩ := lies_of_row h4
    refine ⟨h1, h2, h3, hn, a, cap, rfl, fun hp => ?_⟩
    obtain ⟨g, rfl, hcell⟩ := hc hp
    refine ⟨g, 0, rfl, OwnsL.lies h7 (fun j hj => ?_)⟩
    rw [Nat.zero_add]
    exact hcell j (by have := h4.1; omega)
theorem OwnsL.lies {w : World} : ∀ {ts : List Tree} {lo hi g o : Nat} {xs : List Value}, OwnsL w lo hi ts xs → (∀ j, j < xs.length → w.cell? ⟨g, o + j, none⟩ = xs[j]?) → LiesL w g o ts
  | [], _, _, _, _, _, _, _ => trivial
  | t :: ts, lo, hi, g, o, xs, h, hc => by
    obtain ⟨kv, rest, mid, rfl, h1, h2, h3⟩ := h
    have hl := h2.lies
    obtain ⟨_, _, _, _, a, cap, e, _⟩ := hl.parts
    have e2 : kv = .slice a t.kids.length cap := by
      have := e
      unfold aggT at this
      simp at this
      exact this
    subst e2
    refine ⟨⟨a, cap, ?_, ?_, ?_, ?_, hl⟩, OwnsL.lies h3 (fun j hj => ?_)⟩
    · exact hc 0 (by simp [cellsT])
    · exact hc 1 (by simp [cellsT])
    · exact hc 2 (by simp [cellsT])
    · exact hc 3 (by simp [cellsT])
    · have := hc (4 + j) (by simp [cellsT]; omega)
      rw [show o + 4 + j = o + (4 + j) from by omega, this, List.getElem?_append_right (by simp [cellsT])]
      congr 1
      simp [cellsT]
end
end Go.Proofs.Ytofmccihehalcaa.Trm
