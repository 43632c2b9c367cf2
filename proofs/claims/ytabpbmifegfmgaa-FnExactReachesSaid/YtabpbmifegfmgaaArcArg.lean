/- A list of arcs that came in as an argument. Without conditions beyond the reading's own. -/
import Derived.Test.YtabpbmifegfmgaaArcs
import Derived.Test.YtabpbmifegfmgaaRowArg
namespace Go.Proofs.Ytabpbmifegfmgaa.Trm
open Go.RowKit Own Go.ChangeShapes Go.WideShapes Go.Deep
set_option maxRecDepth 100000
section
variable {H : Type} {enc : TypeId × Value → H} {w : World} {base : Nat} {spare : Nat → Bool} {held : Bool}
theorem cellsArc2 : Try.prog.cellsOf 75 = 2 := by kernel_rfl
theorem cellsIntA : Try.prog.cellsOf 3 = 1 := by kernel_rfl
theorem arc_of_trod {n : Nat} {cs : List Value} {x : DataW H × List MemPlace} (h : DataW.trod enc Try.prog w base spare held n 75 cs = some x) : ∃ e : Int × Int, cs = [.int .i64 e.1, .int .i64 e.2] ∧ InI e.1 ∧ InI e.2 := by
  obtain ⟨ys, m, rfl, _, hlen, _, hf⟩ := DataW.trod_struct Try.underlying75 h
  rw [cellsArc2] at hlen
  match cs, hlen with
  | [v0, v1], _ =>
    have f0 : DataW.trod enc Try.prog w base spare held m 3 (([v0, v1].drop 0).take (Try.prog.cellsOf 3)) = ys[0]? := hf 0 _ rfl
    have f1 : DataW.trod enc Try.prog w base spare held m 3 (([v0, v1].drop 1).take (Try.prog.cellsOf 3)) = ys[1]? := hf 1 _ rfl
    rw [cellsIntA] at f0 f1
    have hy : ys.length = 2 := by assumption
    rw [List.getElem?_eq_getElem (by omega)] at f0 f1
    obtain ⟨x, e0, _, w0⟩ := DataW.trod_int Try.underlying3 f0
    obtain ⟨y, e1, _, w1⟩ := DataW.trod_int Try.underlying3 f1
    simp at e0 e1
    subst e0 e1
    exact ⟨(x, y), rfl, bounds_i64 w0, bounds_i64 w1⟩
theorem arcs_of_Trod {r : Reach} {b0 : Nat} {v : Value} {d : DataW H} {p : List MemPlace} (hv : Value.okWide Try.prog w r b0 35 v) (hT : DataW.Trod enc Try.prog w base spare held 35 v d p) : ∃ es : List (Int × Int), ArcsAt w es v := by
  obtain ⟨a0, l0, c0, rfl⟩ := okWide_slice Try.underlying35 hv
  obtain ⟨fuel, h⟩ := hT
  rcases DataW.trod_slice Try.underlying35 h with ⟨e3, _⟩ | ⟨a, len, cap, elems, rest, n', rfl, e3, _, _, hl, hm, hel, hat, _⟩
  · have e2 : Value.slice a0 l0 c0 = .slice none 0 0 := by
      have : [Value.slice a0 l0 c0] = [Value.slice none 0 0] := e3
      injection this
    rw [e2]
    exact ⟨[], none, 0, rfl, by simp, by simp, fun h => absurd h (by simp)⟩
  · have e2 : Value.slice a0 l0 c0 = .slice (some a) len cap := by
      have : [Value.slice a0 l0 c0] = [Value.slice (some a) len cap] := e3
      injection this
    rw [e2]
    unfold maxLen at hm
    rw [cellsArc2] at hat
    have hsp : 0 < len → a.spot = none := fun hpos => by
      have h1 := hat 0 hpos
      rw [List.getElem?_eq_getElem (by omega)] at h1
      obtain ⟨cs', hc, _⟩ := Option.bind_eq_some_iff.1 h1
      obtain ⟨_, hcl, hcell⟩ := World.cells?_some hc
      have g0 := hcell 0 (by omega)
      rw [List.getElem?_eq_getElem (by omega)] at g0
      exact spot_none (a := a) g0
    obtain ⟨ts, htl, hp⟩ := pick_list (fun i (e : Int × Int) => (InI e.1 ∧ InI e.2) ∧ w.cell? ⟨a.block, a.off + i * 2, none⟩ = some (.int .i64 e.1) ∧ w.cell? ⟨a.block, a.off + i * 2 + 1, none⟩ = some (.int .i64 e.2)) len (fun i hi => by
      have h1 := hat i hi
      rw [List.getElem?_eq_getElem (by omega)] at h1
      obtain ⟨cs', hc, ht⟩ := Option.bind_eq_some_iff.1 h1
      obtain ⟨_, hcl, hcell⟩ := World.cells?_some hc
      obtain ⟨e, rfl, he⟩ := arc_of_trod ht
      have g0 := hcell 0 (by omega)
      have g1 := hcell 1 (by omega)
      rw [add_add, add_of (hsp (by omega))] at g0 g1
      exact ⟨e, he, g0, g1⟩)
    refine ⟨ts, some a, cap, by rw [htl], by omega, fun e he => ?_, fun hpos => ?_⟩
    · obtain ⟨i, hi, rfl⟩ := List.mem_iff_getElem.1 he
      exact (hp i hi).1
    · have hs := hsp (by omega)
      exact ⟨a.block, a.off, by cases a; simp at hs; subst hs; rfl, fun i hi => (hp i hi).2⟩
end
end Go.Proofs.Ytabpbmifegfmgaa.Trm
