/- A term that came in as an argument, read as a tree. Without conditions beyond the reading's own. -/
import Derived.Test.YtofmccihehalcaaChecked
import Derived.Test.YtofmccihehalcaaTrees
import Derived.Test.YtofmccihehalcaaRowArg
import Derived.Deep.Slices
import Derived.Deep.Fields
import Derived.ChangeSame
import Derived.OpenShut
namespace Go.Proofs.Ytofmccihehalcaa.Trm
open Go.RowKit Own Go.ChangeShapes Go.WideShapes Go.Deep
/-- An element's cells, and what lies behind them. -/
def ElemAt (w : World) (g o : Nat) (t : Tree) : Prop := ∃ a cap, w.cell? ⟨g, o, none⟩ = some (.int .i64 t.kind) ∧ w.cell? ⟨g, o + 1, none⟩ = some (.int .i64 t.num) ∧ w.cell? ⟨g, o + 2, none⟩ = some (.string t.name) ∧ w.cell? ⟨g, o + 3, none⟩ = some (.slice a t.kids.length cap) ∧
      Lies w t (.agg #[.int .i64 t.kind, .int .i64 t.num, .string t.name, .slice a t.kids.length cap])
theorem liesL_of {w : World} : ∀ {ts : List Tree} {g o : Nat}, (∀ (i : Nat) (hi : i < ts.length), ElemAt w g (o + i * 4) ts[i]) → LiesL w g o ts
  | [], _, _, _ => trivial
  | t :: ts, g, o, h => by
    refine ⟨?_, liesL_of (fun i hi => ?_)⟩
    · have := h 0 (by simp)
      rw [Nat.zero_mul, Nat.add_zero] at this
      exact this
    · have := h (i + 1) (by simpa using hi)
      rw [show o + (i + 1) * 4 = o + 4 + i * 4 from by omega] at this
      exact this
section
variable {H : Type} {enc : TypeId × Value → H} {w : World} {base : Nat} {spare : Nat → Bool} {held : Bool}
theorem cellsT4 : Try.prog.cellsOf 49 = 4 := by kernel_rfl
theorem cellsInt1 : Try.prog.cellsOf 3 = 1 := by kernel_rfl
theorem cellsStr1 : Try.prog.cellsOf 9 = 1 := by kernel_rfl
theorem cellsKids1 : Try.prog.cellsOf 47 = 1 := by kernel_rfl
set_option maxRecDepth 100000 in
theorem lies_of_trod : ∀ (fuel : Nat) (cs : List Value) (x : DataW H × List MemPlace), DataW.trod enc Try.prog w base spare held fuel 49 cs = some x →
    ∃ (t : Tree) (a : Option Addr) (cap : Nat), cs = [.int .i64 t.kind, .int .i64 t.num, .string t.name, .slice a t.kids.length cap] ∧ Lies w t (.agg #[.int .i64 t.kind, .int .i64 t.num, .string t.name, .slice a t.kids.length cap]) := by
  intro fuel
  induction fuel using Nat.strongRecOn with
  | _ fuel ih =>
    intro cs x h
    obtain ⟨ys, n, rfl, _, hlen, _, hf⟩ := DataW.trod_struct Try.underlying49 h
    rw [cellsT4] at hlen
    match cs, hlen with
    | [v0, v1, v2, v3], _ =>
      have f0 : DataW.trod enc Try.prog w base spare held n 3 (([v0, v1, v2, v3].drop 0).take (Try.prog.cellsOf 3)) = ys[0]? := hf 0 _ rfl
      have f1 : DataW.trod enc Try.prog w base spare held n 3 (([v0, v1, v2, v3].drop 1).take (Try.prog.cellsOf 3)) = ys[1]? := hf 1 _ rfl
      have f2 : DataW.trod enc Try.prog w base spare held n 9 (([v0, v1, v2, v3].drop 2).take (Try.prog.cellsOf 9)) = ys[2]? := hf 2 _ rfl
      have f3 : DataW.trod enc Try.prog w base spare held n 47 (([v0, v1, v2, v3].drop 3).take (Try.prog.cellsOf 47)) = ys[3]? := hf 3 _ rfl
      rw [cellsInt1] at f0 f1
      rw [cellsStr1] at f2
      rw [cellsKids1] at f3
      have hy : ys.length = 4 := by assumption
      rw [List.getElem?_eq_getElem (by omega)] at f0 f1 f2 f3
      obtain ⟨k, e0, _, w0⟩ := DataW.trod_int Try.underlying3 f0
      obtain ⟨m, e1, _, w1⟩ := DataW.trod_int Try.underlying3 f1
      obtain ⟨s, e2, _, w2⟩ := DataW.trod_string Try.underlying9 f2
      injection e0 with e0 _
      injection e1 with e1 _
      injection e2 with e2 _
      subst e0 e1 e2
      rcases DataW.trod_slice Try.underlying47 f3 with ⟨e3, _⟩ | ⟨a, len, cap, elems, rest, n', rfl, e3, _, _, hl, hm, hel, hat, _⟩
      · injection e3 with e3 _
        subst e3
        exact ⟨.node k m s [], none, 0, rfl, bounds_i64 w0, bounds_i64 w1, w2, by simp, none, 0, rfl, fun h => absurd h (by simp)⟩
      · injection e3 with e3 _
        subst e3
        unfold maxLen at hm
        rw [cellsT4] at hat
        have hsp : 0 < len → a.spot = none := fun hpos => by
          have h1 := hat 0 hpos
          rw [List.getElem?_eq_getElem (by omega)] at h1
          obtain ⟨cs', hc, _⟩ := Option.bind_eq_some_iff.1 h1
          obtain ⟨_, hcl, hcell⟩ := World.cells?_some hc
          have g0 := hcell 0 (by omega)
          rw [List.getElem?_eq_getElem (by omega)] at g0
          exact spot_none (a := a) g0
        obtain ⟨ts, htl, hp⟩ := pick_list (fun i t => ElemAt w a.block (a.off + i * 4) t) len (fun i hi => by
          have h1 := hat i hi
          rw [List.getElem?_eq_getElem (by omega)] at h1
          obtain ⟨cs', hc, ht⟩ := Option.bind_eq_some_iff.1 h1
          obtain ⟨_, hcl, hcell⟩ := World.cells?_some hc
          obtain ⟨t, b, c, rfl, hl2⟩ := ih n' (by omega) cs' _ ht
          have g0 := hcell 0 (by omega)
          have g1 := hcell 1 (by omega)
          have g2 := hcell 2 (by omega)
          have g3 := hcell 3 (by omega)
          rw [add_add, add_of (hsp (by omega))] at g0 g1 g2 g3
          exact ⟨t, b, c, g0, g1, g2, g3, hl2⟩)
        refine ⟨.node k m s ts, some a, cap, by simp [Tree.kind, Tree.num, Tree.name, Tree.kids, htl], bounds_i64 w0, bounds_i64 w1, w2, by omega, some a, cap, rfl, fun hpos => ?_⟩
        have hs := hsp (by omega)
        exact ⟨a.block, a.off, by cases a; simp at hs; subst hs; rfl, liesL_of hp⟩
set_option maxRecDepth 100000 in
/-- An argument that is a term. -/
theorem lies_of_Trod {r : Reach} {b0 : Nat} {v : Value} {d : DataW H} {p : List MemPlace} (hv : Value.okWide Try.prog w r b0 49 v) (h : DataW.Trod enc Try.prog w base spare held 49 v d p) : ∃ t : Tree, Lies w t v := by
  obtain ⟨cs, rfl, hsz⟩ := okWide_struct Try.underlying49 hv
  obtain ⟨fuel, hf⟩ := h
  obtain ⟨t, a, cap, e, hl⟩ := lies_of_trod fuel _ _ hf
  refine ⟨t, ?_⟩
  have e2 : cs = #[.int .i64 t.kind, .int .i64 t.num, .string t.name, .slice a t.kids.length cap] := by
    apply Array.ext'
    exact e
  rw [e2]
  exact hl
end
end Go.Proofs.Ytofmccihehalcaa.Trm
