/- Code that lies in memory of the call's own: five rows in blocks of their own, the terms in ranges of blocks apart from them. Without conditions. -/
import Derived.Test.YtofmccihehalcaaChecked
import Derived.Test.YtofmccihehalcaaKTrees
import Derived.Test.YtofmccihehalcaaTermOwn
import Derived.Test.YtofmccihehalcaaStrCells
namespace Go.Proofs.Ytofmccihehalcaa.Trm
open Go.RowKit Own
/-- Instructions whose terms lie in ranges of blocks one behind the other, none of them one of out. -/
def IOwnL (w : World) (out : Nat → Prop) (lo hi : Nat) : List InsT → List Value → Prop
  | [], cs => cs = [] ∧ lo ≤ hi
  | x :: r, cs => ∃ kv rest l m, cs = cellsI x kv ++ rest ∧ InI x.op ∧ InI x.arg ∧ InI x.to ∧ lo ≤ l ∧ Owns w l m x.term (aggT x.term kv) ∧ (∀ b, l ≤ b → b < m → ¬ out b) ∧ IOwnL w out m hi r rest
theorem IOwnL.le {w : World} {out : Nat → Prop} : ∀ {xs : List InsT} {lo hi : Nat} {cs : List Value}, IOwnL w out lo hi xs cs → lo ≤ hi
  | [], _, _, _, h => h.2
  | _ :: _, _, _, _, h => by
    obtain ⟨_, _, l, m, _, _, _, _, h1, h2, _, h3⟩ := h
    have := h2.le
    have := IOwnL.le h3
    omega
/-- What lies elsewhere may change. -/
theorem IOwnL.same {w w' : World} {out : Nat → Prop} : ∀ {xs : List InsT} {lo hi : Nat} {cs : List Value}, (∀ b, lo ≤ b → b < hi → ¬ out b → w'.heap[b]? = w.heap[b]?) → IOwnL w out lo hi xs cs → IOwnL w' out lo hi xs cs
  | [], _, _, _, _, h => h
  | _ :: _, lo, hi, _, hs, h => by
    obtain ⟨kv, rest, l, m, e, i0, i1, i2, h1, h2, h3, h4⟩ := h
    have l1 := h2.le
    have l2 := h4.le
    exact ⟨kv, rest, l, m, e, i0, i1, i2, h1, h2.same (fun b g1 g2 => hs b (by omega) (by omega) (h3 b g1 g2)), h3, IOwnL.same (fun b g1 g2 => hs b (by omega) g2) h4⟩
theorem IOwnL.wideR {w : World} {out : Nat → Prop} : ∀ {xs : List InsT} {lo hi hi' : Nat} {cs : List Value}, hi ≤ hi' → IOwnL w out lo hi xs cs → IOwnL w out lo hi' xs cs
  | [], _, _, _, _, hh, h => ⟨h.1, Nat.le_trans h.2 hh⟩
  | _ :: _, _, _, _, _, hh, h => by
    obtain ⟨kv, rest, l, m, e, i0, i1, i2, h1, h2, h3, h4⟩ := h
    exact ⟨kv, rest, l, m, e, i0, i1, i2, h1, h2, h3, IOwnL.wideR hh h4⟩
theorem IOwnL.wideL {w : World} {out : Nat → Prop} : ∀ {xs : List InsT} {lo lo' hi : Nat} {cs : List Value}, lo' ≤ lo → IOwnL w out lo hi xs cs → IOwnL w out lo' hi xs cs
  | [], _, _, _, _, hh, h => ⟨h.1, Nat.le_trans hh h.2⟩
  | _ :: _, _, _, _, _, hh, h => by
    obtain ⟨kv, rest, l, m, e, i0, i1, i2, h1, h2, h3, h4⟩ := h
    exact ⟨kv, rest, l, m, e, i0, i1, i2, Nat.le_trans hh h1, h2, h3, h4⟩
/-- Other blocks that are none of the terms'. -/
theorem IOwnL.reout {w : World} {out out' : Nat → Prop} : ∀ {xs : List InsT} {lo hi : Nat} {cs : List Value}, (∀ b, lo ≤ b → b < hi → out' b → out b) → IOwnL w out lo hi xs cs → IOwnL w out' lo hi xs cs
  | [], _, _, _, _, h => h
  | _ :: _, lo, hi, _, hs, h => by
    obtain ⟨kv, rest, l, m, e, i0, i1, i2, h1, h2, h3, h4⟩ := h
    have l1 := h2.le
    have l2 := h4.le
    exact ⟨kv, rest, l, m, e, i0, i1, i2, h1, h2, fun b g1 g2 g3 => h3 b g1 g2 (hs b (by omega) (by omega) g3), IOwnL.reout (fun b g1 g2 => hs b (by omega) g2) h4⟩
theorem IOwnL.snoc {w : World} {out : Nat → Prop} : ∀ {xs : List InsT} {lo mid l m hi : Nat} {cs : List Value} {x : InsT} {kv : Value}, IOwnL w out lo mid xs cs → InI x.op → InI x.arg → InI x.to → mid ≤ l → m ≤ hi → Owns w l m x.term (aggT x.term kv) → (∀ b, l ≤ b → b < m → ¬ out b) → IOwnL w out lo hi (xs ++ [x]) (cs ++ cellsI x kv)
  | [], lo, mid, l, m, hi, cs, x, kv, h, i0, i1, i2, hl, hm, ht, ho => by
    obtain ⟨rfl, h2⟩ := h
    exact ⟨kv, [], l, m, by simp, i0, i1, i2, Nat.le_trans h2 hl, ht, ho, rfl, hm⟩
  | a :: xs, lo, mid, l, m, hi, cs, x, kv, h, i0, i1, i2, hl, hm, ht, ho => by
    obtain ⟨kv', rest, l', m', rfl, j0, j1, j2, h1, h2, h3, h4⟩ := h
    exact ⟨kv', rest ++ cellsI x kv, l', m', by simp, j0, j1, j2, h1, h2, h3, IOwnL.snoc h4 i0 i1 i2 hl hm ht ho⟩
theorem aggT_of {t : Tree} {kv : Value} {a : Option Addr} {c : Nat} (h : aggT t kv = .agg #[.int .i64 t.kind, .int .i64 t.num, .string t.name, .slice a t.kids.length c]) : kv = .slice a t.kids.length c := by
  unfold aggT at h
  simp at h
  exact h
/-- The instruction at a place. -/
theorem IOwnL.at {w : World} {out : Nat → Prop} : ∀ {xs : List InsT} {lo hi g o : Nat} {cs : List Value}, IOwnL w out lo hi xs cs → (∀ j, j < cs.length → w.cell? ⟨g, o + j, none⟩ = cs[j]?) → ∀ i (h : i < xs.length), IElem w g (o + i * 7) xs[i]
  | [], _, _, _, _, _, _, _, i, hi => absurd hi (by simp)
  | x :: r, lo, hi, g, o, cs, h, hc, 0, _ => by
    obtain ⟨kv, rest, l, m, rfl, i0, i1, i2, h1, h2, h3, h4⟩ := h
    have hl := h2.lies
    obtain ⟨_, _, _, _, a, c, e, _⟩ := hl.parts
    obtain rfl := aggT_of e
    rw [Nat.zero_mul, Nat.add_zero]
    exact ⟨i0, i1, i2, a, c, hc 0 (by simp [cellsI]), hc 1 (by simp [cellsI]), hc 2 (by simp [cellsI]), hc 3 (by simp [cellsI]), hc 4 (by simp [cellsI]), hc 5 (by simp [cellsI]), hc 6 (by simp [cellsI]), hl⟩
  | x :: r, lo, hi, g, o, cs, h, hc, i + 1, hi' => by
    obtain ⟨kv, rest, l, m, rfl, i0, i1, i2, h1, h2, h3, h4⟩ := h
    have := IOwnL.at (o := o + 7) h4 (fun j hj => by
      have := hc (7 + j) (by simp [cellsI]; omega)
      rw [show o + 7 + j = o + (7 + j) from by omega, this, List.getElem?_append_right (by simp [cellsI])]
      congr 1
      simp [cellsI]) i (by simpa using hi')
    rw [show o + 7 + i * 7 = o + (i + 1) * 7 from by omega] at this
    exact this
theorem isAt_own {w : World} {out : Nat → Prop} {base lo hi : Nat} {xs : List InsT} {v : Value} {cs : List Value} (h : w.ownsRow base 57 7 v xs.length cs) (h2 : IOwnL w out lo hi xs cs) : IsAt w v xs := by
  have hm := row_small h
  unfold maxLen at hm
  obtain ⟨a, c, rfl, ha⟩ := row_shape h
  refine ⟨by omega, a, c, rfl, fun hp => ?_⟩
  obtain ⟨g, rfl⟩ := ha hp
  refine ⟨g, 0, rfl, h2.at (fun j hj => ?_)⟩
  rw [Nat.zero_add]
  exact h.cellAt j (by have := h.1; omega)
/-- The blocks of rows. -/
def RowsOf (vs : List Value) (b : Nat) : Prop := some b ∈ vs.map Value.ownBlock
/-- No two of them in one block. -/
def Apart : List Value → Prop
  | [] => True
  | v :: r => (∀ b, v.ownBlock = some b → ¬ RowsOf r b) ∧ Apart r
def KOwn (w : World) (lo : Nat) (k : KTree) (v : Value) : Prop := ∃ ga gc la lc pa pc ea ec ia ic cs hi, v = .agg #[.slice ga k.globals.length gc, .slice la k.locks.length lc, .slice pa k.procs.length pc, .slice ea k.entry.length ec, .slice ia k.ins.length ic] ∧
  (∀ s, s ∈ k.globals → s.size ≤ 9223372036854775807) ∧ (∀ s, s ∈ k.locks → s.size ≤ 9223372036854775807) ∧ (∀ s, s ∈ k.procs → s.size ≤ 9223372036854775807) ∧ (∀ x, x ∈ k.entry → InI x) ∧
  w.ownsRow lo 9 1 (.slice ga k.globals.length gc) k.globals.length (strV k.globals) ∧ w.ownsRow lo 9 1 (.slice la k.locks.length lc) k.locks.length (strV k.locks) ∧ w.ownsRow lo 9 1 (.slice pa k.procs.length pc) k.procs.length (strV k.procs) ∧ w.ownsRow lo 3 1 (.slice ea k.entry.length ec) k.entry.length (intV k.entry) ∧ w.ownsRow lo 57 7 (.slice ia k.ins.length ic) k.ins.length cs ∧
  Apart [.slice ga k.globals.length gc, .slice la k.locks.length lc, .slice pa k.procs.length pc, .slice ea k.entry.length ec, .slice ia k.ins.length ic] ∧
  IOwnL w (RowsOf [.slice ga k.globals.length gc, .slice la k.locks.length lc, .slice pa k.procs.length pc, .slice ea k.entry.length ec, .slice ia k.ins.length ic]) lo hi k.ins cs ∧ hi ≤ w.heap.size
theorem KOwn.lies {w : World} {lo : Nat} {k : KTree} {v : Value} (h : KOwn w lo k v) : KLies w k v := by
  obtain ⟨ga, gc, la, lc, pa, pc, ea, ec, ia, ic, cs, hi, rfl, n1, n2, n3, n4, r1, r2, r3, r4, r5, _, ho, _⟩ := h
  exact ⟨ga, gc, la, lc, pa, pc, ea, ec, ia, ic, rfl, ⟨strs_of_row r1, n1⟩, ⟨strs_of_row r2, n2⟩, ⟨strs_of_row r3, n3⟩, ints_of_row r4 n4, isAt_own r5 ho⟩
theorem KOwn.same {w w' : World} {lo : Nat} {k : KTree} {v : Value} (h : KOwn w lo k v) (hs : Same lo w.heap.size w w') (hw : w.heap.size ≤ w'.heap.size) : KOwn w' lo k v := by
  obtain ⟨ga, gc, la, lc, pa, pc, ea, ec, ia, ic, cs, hi, rfl, n1, n2, n3, n4, r1, r2, r3, r4, r5, ha, ho, hh⟩ := h
  exact ⟨ga, gc, la, lc, pa, pc, ea, ec, ia, ic, cs, hi, rfl, n1, n2, n3, n4, row_same r1 (fun b hb => hs b (r1.lt b hb).1 (r1.lt b hb).2), row_same r2 (fun b hb => hs b (r2.lt b hb).1 (r2.lt b hb).2), row_same r3 (fun b hb => hs b (r3.lt b hb).1 (r3.lt b hb).2), row_same r4 (fun b hb => hs b (r4.lt b hb).1 (r4.lt b hb).2), row_same r5 (fun b hb => hs b (r5.lt b hb).1 (r5.lt b hb).2), ha, ho.same (fun b g1 g2 _ => hs b g1 (by omega)), by omega⟩
theorem KOwn.below {w w' : World} {lo : Nat} {k : KTree} {v : Value} (h : KOwn w lo k v) (hb : Below w.heap.size w w') : KOwn w' lo k v := h.same (fun b _ g2 => hb.block b g2) hb.size
theorem KOwn.wide {w : World} {lo lo' : Nat} {k : KTree} {v : Value} (hl : lo' ≤ lo) (h : KOwn w lo k v) : KOwn w lo' k v := by
  obtain ⟨ga, gc, la, lc, pa, pc, ea, ec, ia, ic, cs, hi, rfl, n1, n2, n3, n4, r1, r2, r3, r4, r5, ha, ho, hh⟩ := h
  exact ⟨ga, gc, la, lc, pa, pc, ea, ec, ia, ic, cs, hi, rfl, n1, n2, n3, n4, r1.mono hl, r2.mono hl, r3.mono hl, r4.mono hl, r5.mono hl, ha, ho.wideL hl, hh⟩
end Go.Proofs.Ytofmccihehalcaa.Trm
