/- What contracts on codes ask: the code lies in memory, its lists have the room that Go asks. Without conditions. -/
import Derived.Test.YtofmccihehalcaaKOwn
import Derived.Test.YtofmccihehalcaaUnkHas
import Derived.Test.YtofmccihehalcaaPlaceI
import Derived.Test.YtofmccihehalcaaKMath
namespace Go.Proofs.Ytofmccihehalcaa.Trm
open Go.RowKit Own
def KIn (w : World) (x : KTree) (v : Value) : Prop := ∃ ga gc la lc pa pc ea ec ia ic, v = .agg #[.slice ga x.globals.length gc, .slice la x.locks.length lc, .slice pa x.procs.length pc, .slice ea x.entry.length ec, .slice ia x.ins.length ic] ∧ NamesAt w x.globals (.slice ga x.globals.length gc) ∧ NamesAt w x.locks (.slice la x.locks.length lc) ∧ NamesAt w x.procs (.slice pa x.procs.length pc) ∧ IntsAt w x.entry (.slice ea x.entry.length ec) ∧ IsAt w (.slice ia x.ins.length ic) x.ins ∧ x.globals.length ≤ gc ∧ x.locks.length ≤ lc ∧ x.procs.length ≤ pc
theorem KIn.keep {w w' : World} {x : KTree} {v : Value} (h : KIn w x v) (hk : Keeps w w') : KIn w' x v := by
  obtain ⟨ga, gc, la, lc, pa, pc, ea, ec, ia, ic, rfl, h1, h2, h3, h4, h5, h6⟩ := h
  exact ⟨ga, gc, la, lc, pa, pc, ea, ec, ia, ic, rfl, h1.keep hk, h2.keep hk, h3.keep hk, h4.keep hk, h5.keep hk, h6⟩
theorem cap_le {w : World} {base : Nat} {e : TypeId} {size n c : Nat} {a : Option Addr} {xs : List Value} (h : w.ownsRow base e size (.slice a n c) n xs) : n ≤ c := by
  obtain ⟨a2, c2, e2, h2⟩ := cap_row h
  simp at e2
  obtain ⟨rfl, rfl⟩ := e2
  exact h2
theorem KOwn.kin {w : World} {lo : Nat} {x : KTree} {v : Value} (h : KOwn w lo x v) : KIn w x v := by
  have hl := h.lies
  obtain ⟨ga, gc, la, lc, pa, pc, ea, ec, ia, ic, cs, hi, rfl, n1, n2, n3, n4, r1, r2, r3, r4, r5, _, ho, _⟩ := h
  exact ⟨ga, gc, la, lc, pa, pc, ea, ec, ia, ic, rfl, ⟨strs_of_row r1, n1⟩, ⟨strs_of_row r2, n2⟩, ⟨strs_of_row r3, n3⟩, ints_of_row r4 n4, isAt_own r5 ho, cap_le r1, cap_le r2, cap_le r3⟩
theorem idxI_neg {ns : List ByteArray} {s : ByteArray} {z : Int} (h : IdxI ns s z) : z < 0 ↔ ¬ s ∈ ns := by
  rcases h with ⟨i, hi, rfl, he, _⟩ | ⟨rfl, h⟩
  · constructor
    · intro h; omega
    · intro h
      exact absurd (he ▸ List.getElem_mem hi) h
  · constructor
    · intro _ hm
      obtain ⟨i, hi, e⟩ := List.getElem_of_mem hm
      exact h i hi e
    · intro _; omega
theorem IsP.lt {es : List Int} {a : Int} {p : Nat} (h : IsP es a p) : p < es.length := by obtain ⟨h, _⟩ := h; exact h
/-- An entry as it should be. -/
def GoodE (es : List Int) (n q : Nat) : Prop := ∃ h : q < es.length, (q = 0 → es[q] = 0) ∧ (∀ m (h2 : m + 1 = q), es[m]'(by omega) < es[q]) ∧ es[q] < (n : Int)
theorem ris_of {es : List Int} {n : Nat} (h0 : 0 < es.length) (h : ∀ q, q < es.length → GoodE es n q) : Ris es n := by
  refine ⟨h0, ?_, fun i hi => ?_, fun i hi => ?_⟩
  · obtain ⟨_, h1, _, _⟩ := h 0 h0; exact h1 rfl
  · obtain ⟨_, _, h2, _⟩ := h (i + 1) hi; exact h2 i rfl
  · obtain ⟨_, _, _, h3⟩ := h i hi; exact h3
theorem ris_good {es : List Int} {n q : Nat} (h : Ris es n) (hq : q < es.length) : GoodE es n q := by
  obtain ⟨h0, e0, h1, h2⟩ := h
  refine ⟨hq, fun e => ?_, fun m e => ?_, h2 q hq⟩
  · subst e; exact e0
  · subst e; exact h1 m hq
end Go.Proofs.Ytofmccihehalcaa.Trm
