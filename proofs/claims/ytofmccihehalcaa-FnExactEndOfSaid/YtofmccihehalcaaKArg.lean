/- Code that came in as an argument, read as lists of names, of numbers and of instructions. Without conditions beyond the reading's own. -/
import Derived.Test.YtofmccihehalcaaChecked
import Derived.Test.YtofmccihehalcaaKTrees
import Derived.Test.YtofmccihehalcaaTermArg
import Derived.Test.YtofmccihehalcaaRowArg
namespace Go.Proofs.Ytofmccihehalcaa.Trm
open Go.RowKit Own Go.ChangeShapes Go.WideShapes Go.Deep
set_option maxRecDepth 100000
section
variable {H : Type} {enc : TypeId × Value → H} {w : World} {base : Nat} {spare : Nat → Bool} {held : Bool}
theorem cellsIn7 : Try.prog.cellsOf 51 = 7 := by kernel_rfl
theorem cellsKd5 : Try.prog.cellsOf 26 = 5 := by kernel_rfl
theorem cellsKStrs1 : Try.prog.cellsOf 22 = 1 := by kernel_rfl
theorem cellsKInts1 : Try.prog.cellsOf 23 = 1 := by kernel_rfl
theorem cellsKIns1 : Try.prog.cellsOf 24 = 1 := by kernel_rfl
theorem knames_of_trod {n : Nat} {cs : List Value} {x : DataW H × List MemPlace} (h : DataW.trod enc Try.prog w base spare held n 22 cs = some x) : ∃ (ss : List ByteArray) (a : Option Addr) (cap : Nat), cs = [.slice a ss.length cap] ∧ NamesAt w ss (.slice a ss.length cap) := by
  obtain ⟨a, len, cap, e, hm, hc⟩ := cells_of_slice Try.underlying22 (by kernel_rfl) h
  obtain ⟨ss, hl, hp⟩ := pick_list (fun i s => s.size ≤ 9223372036854775807 ∧ ∀ g o, a = some ⟨g, o, none⟩ → w.cell? ⟨g, o + i, none⟩ = some (.string s)) len (fun i hi => by
    obtain ⟨g, o, rfl, hcell⟩ := hc (by omega)
    obtain ⟨u, n, y, hu, hy⟩ := hcell i hi
    obtain ⟨s, es, _, hs⟩ := DataW.trod_string Try.underlying9 hy
    injection es with es _
    subst es
    exact ⟨s, hs, fun g' o' e' => by cases e'; exact hu⟩)
  refine ⟨ss, a, cap, by rw [hl]; exact e, ⟨a, cap, rfl, by rw [hl]; exact hm, fun hpos => ?_⟩, fun s hs => ?_⟩
  · obtain ⟨g, o, e3, _⟩ := hc (by omega)
    exact ⟨g, o, e3, fun i hi => (hp i hi).2 g o e3⟩
  · obtain ⟨i, hi, rfl⟩ := List.mem_iff_getElem.1 hs
    exact (hp i hi).1
theorem kints_of_trod {n : Nat} {cs : List Value} {x : DataW H × List MemPlace} (h : DataW.trod enc Try.prog w base spare held n 23 cs = some x) : ∃ (ss : List Int) (a : Option Addr) (cap : Nat), cs = [.slice a ss.length cap] ∧ IntsAt w ss (.slice a ss.length cap) := by
  obtain ⟨a, len, cap, e, hm, hc⟩ := cells_of_slice Try.underlying23 (by kernel_rfl) h
  obtain ⟨ss, hl, hp⟩ := pick_list (fun i s => InI s ∧ ∀ g o, a = some ⟨g, o, none⟩ → w.cell? ⟨g, o + i, none⟩ = some (.int .i64 s)) len (fun i hi => by
    obtain ⟨g, o, rfl, hcell⟩ := hc (by omega)
    obtain ⟨u, n, y, hu, hy⟩ := hcell i hi
    obtain ⟨s, es, _, hs⟩ := DataW.trod_int Try.underlying3 hy
    injection es with es _
    subst es
    exact ⟨s, bounds_i64 hs, fun g' o' e' => by cases e'; exact hu⟩)
  refine ⟨ss, a, cap, by rw [hl]; exact e, a, cap, rfl, by rw [hl]; exact hm, fun s hs => ?_, fun hpos => ?_⟩
  · obtain ⟨i, hi, rfl⟩ := List.mem_iff_getElem.1 hs
    exact (hp i hi).1
  · obtain ⟨g, o, e3, _⟩ := hc (by omega)
    exact ⟨g, o, e3, fun i hi => (hp i hi).2 g o e3⟩
theorem in_of_trod {n : Nat} {cs : List Value} {x : DataW H × List MemPlace} (h : DataW.trod enc Try.prog w base spare held n 51 cs = some x) : ∃ (p : InsT) (a : Option Addr) (c : Nat), cs = [.int .i64 p.op, .int .i64 p.arg, .int .i64 p.term.kind, .int .i64 p.term.num, .string p.term.name, .slice a p.term.kids.length c, .int .i64 p.to] ∧ InI p.op ∧ InI p.arg ∧ InI p.to ∧ Lies w p.term (.agg #[.int .i64 p.term.kind, .int .i64 p.term.num, .string p.term.name, .slice a p.term.kids.length c]) := by
  obtain ⟨ys, m, rfl, _, hlen, _, hf⟩ := DataW.trod_struct Try.underlying51 h
  rw [cellsIn7] at hlen
  match cs, hlen with
  | [v0, v1, v2, v3, v4, v5, v6], _ =>
    have f0 : DataW.trod enc Try.prog w base spare held m 3 (([v0, v1, v2, v3, v4, v5, v6].drop 0).take (Try.prog.cellsOf 3)) = ys[0]? := hf 0 _ rfl
    have f1 : DataW.trod enc Try.prog w base spare held m 3 (([v0, v1, v2, v3, v4, v5, v6].drop 1).take (Try.prog.cellsOf 3)) = ys[1]? := hf 1 _ rfl
    have f2 : DataW.trod enc Try.prog w base spare held m 49 (([v0, v1, v2, v3, v4, v5, v6].drop 2).take (Try.prog.cellsOf 49)) = ys[2]? := hf 2 _ rfl
    have f3 : DataW.trod enc Try.prog w base spare held m 3 (([v0, v1, v2, v3, v4, v5, v6].drop 6).take (Try.prog.cellsOf 3)) = ys[3]? := hf 3 _ rfl
    rw [cellsInt1] at f0 f1 f3
    rw [cellsT4] at f2
    have hy : ys.length = 4 := by assumption
    rw [List.getElem?_eq_getElem (by omega)] at f0 f1 f2 f3
    obtain ⟨k0, e0, _, w0⟩ := DataW.trod_int Try.underlying3 f0
    obtain ⟨k1, e1, _, w1⟩ := DataW.trod_int Try.underlying3 f1
    obtain ⟨t, ta, tc, e2, hlt⟩ := lies_of_trod m _ _ f2
    obtain ⟨k3, e3, _, w3⟩ := DataW.trod_int Try.underlying3 f3
    simp at e0 e1 e2 e3
    obtain ⟨rfl, rfl, rfl, rfl⟩ := e2
    subst e0 e1 e3
    exact ⟨⟨k0, k1, t, k3⟩, ta, tc, rfl, bounds_i64 w0, bounds_i64 w1, bounds_i64 w3, hlt⟩
theorem ins_of_trod {n : Nat} {cs : List Value} {x : DataW H × List MemPlace} (h : DataW.trod enc Try.prog w base spare held n 24 cs = some x) : ∃ (ps : List InsT) (a : Option Addr) (cap : Nat), cs = [.slice a ps.length cap] ∧ IsAt w (.slice a ps.length cap) ps := by
  rcases DataW.trod_slice Try.underlying24 h with ⟨e3, _⟩ | ⟨a, len, cap, elems, rest, n', rfl, e3, _, _, hl, hm, hel, hat, _⟩
  · exact ⟨[], none, 0, e3, by simp, none, 0, rfl, fun h => absurd h (by simp)⟩
  · unfold maxLen at hm
    rw [cellsIn7] at hat
    have hsp : 0 < len → a.spot = none := fun hpos => by
      have h1 := hat 0 hpos
      rw [List.getElem?_eq_getElem (by omega)] at h1
      obtain ⟨cs', hc, _⟩ := Option.bind_eq_some_iff.1 h1
      obtain ⟨_, hcl, hcell⟩ := World.cells?_some hc
      have g0 := hcell 0 (by omega)
      rw [List.getElem?_eq_getElem (by omega)] at g0
      exact spot_none (a := a) g0
    obtain ⟨ts, htl, hp⟩ := pick_list (fun i t => IElem w a.block (a.off + i * 7) t) len (fun i hi => by
      have h1 := hat i hi
      rw [List.getElem?_eq_getElem (by omega)] at h1
      obtain ⟨cs', hc, ht⟩ := Option.bind_eq_some_iff.1 h1
      obtain ⟨_, hcl, hcell⟩ := World.cells?_some hc
      obtain ⟨t, ba, bc, rfl, i0, i1, i2, hl2⟩ := in_of_trod ht
      have g0 := hcell 0 (by omega)
      have g1 := hcell 1 (by omega)
      have g2 := hcell 2 (by omega)
      have g3 := hcell 3 (by omega)
      have g4 := hcell 4 (by omega)
      have g5 := hcell 5 (by omega)
      have g6 := hcell 6 (by omega)
      rw [add_add, add_of (hsp (by omega))] at g0 g1 g2 g3 g4 g5 g6
      exact ⟨t, i0, i1, i2, ba, bc, g0, g1, g2, g3, g4, g5, g6, hl2⟩)
    refine ⟨ts, some a, cap, by rw [e3, htl], by omega, some a, cap, rfl, fun hpos => ?_⟩
    have hs := hsp (by omega)
    exact ⟨a.block, a.off, by cases a; simp at hs; subst hs; rfl, hp⟩
/-- An argument that is a code. -/
theorem klies_of_Trod {r : Reach} {b0 : Nat} {v : Value} {d : DataW H} {p : List MemPlace} (hv : Value.okWide Try.prog w r b0 26 v) (h : DataW.Trod enc Try.prog w base spare held 26 v d p) : ∃ x : KTree, KLies w x v := by
  obtain ⟨cs, rfl, hsz⟩ := okWide_struct Try.underlying26 hv
  obtain ⟨fuel, hf⟩ := h
  obtain ⟨ys, m, _, _, hlen, _, hg⟩ := DataW.trod_struct Try.underlying26 hf
  rw [cellsKd5] at hlen
  obtain ⟨cs⟩ := cs
  have hlen2 : cs.length = 5 := by simpa [Value.cells] using hlen
  match cs, hlen2 with
  | [v0, v1, v2, v3, v4], _ =>
    have f0 : DataW.trod enc Try.prog w base spare held m 22 (([v0, v1, v2, v3, v4].drop 0).take (Try.prog.cellsOf 22)) = ys[0]? := hg 0 _ rfl
    have f1 : DataW.trod enc Try.prog w base spare held m 22 (([v0, v1, v2, v3, v4].drop 1).take (Try.prog.cellsOf 22)) = ys[1]? := hg 1 _ rfl
    have f2 : DataW.trod enc Try.prog w base spare held m 22 (([v0, v1, v2, v3, v4].drop 2).take (Try.prog.cellsOf 22)) = ys[2]? := hg 2 _ rfl
    have f3 : DataW.trod enc Try.prog w base spare held m 23 (([v0, v1, v2, v3, v4].drop 3).take (Try.prog.cellsOf 23)) = ys[3]? := hg 3 _ rfl
    have f4 : DataW.trod enc Try.prog w base spare held m 24 (([v0, v1, v2, v3, v4].drop 4).take (Try.prog.cellsOf 24)) = ys[4]? := hg 4 _ rfl
    rw [cellsKStrs1] at f0 f1 f2
    rw [cellsKInts1] at f3
    rw [cellsKIns1] at f4
    have hy : ys.length = 5 := by assumption
    rw [List.getElem?_eq_getElem (by omega)] at f0 f1 f2 f3 f4
    obtain ⟨gs, ga, gc, e0, h0⟩ := knames_of_trod f0
    obtain ⟨ls, la, lc, e1, h1⟩ := knames_of_trod f1
    obtain ⟨ps, pa, pc, e2, h2⟩ := knames_of_trod f2
    obtain ⟨es, ea, ec, e3, h3⟩ := kints_of_trod f3
    obtain ⟨is, ia, ic, e4, h4⟩ := ins_of_trod f4
    simp at e0 e1 e2 e3 e4
    subst e0 e1 e2 e3 e4
    exact ⟨⟨gs, ls, ps, es, is⟩, ga, gc, la, lc, pa, pc, ea, ec, ia, ic, rfl, h0, h1, h2, h3, h4⟩
end
end Go.Proofs.Ytofmccihehalcaa.Trm
