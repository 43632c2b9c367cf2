/- A program that came in as an argument, read as lists of names and of procedures. Without conditions beyond the reading's own. -/
import Derived.Test.YtmhhghdfgdhljaaGreatDoorChecked
import Derived.Test.YtmhhghdfgdhljaaGreatDoorPTrees
import Derived.Test.YtmhhghdfgdhljaaGreatDoorSArg
import Derived.Test.YtmhhghdfgdhljaaGreatDoorListArg
namespace Go.Proofs.YtmhhghdfgdhljaaGreatDoor.Trm
open Go.RowKit Own Go.ChangeShapes Go.WideShapes Go.Deep
set_option maxRecDepth 100000
section
variable {H : Type} {enc : TypeId × Value → H} {w : World} {base : Nat} {spare : Nat → Bool} {held : Bool}
theorem cellsPr2 : Tryz.prog.cellsOf 133 = 2 := by kernel_rfl
theorem cellsPg3 : Tryz.prog.cellsOf 49 = 3 := by kernel_rfl
theorem cellsStrs1 : Tryz.prog.cellsOf 24 = 1 := by kernel_rfl
theorem cellsPrs1 : Tryz.prog.cellsOf 47 = 1 := by kernel_rfl
theorem names_of_trod {n : Nat} {cs : List Value} {x : DataW H × List MemPlace} (h : DataW.trod enc Tryz.prog w base spare held n 24 cs = some x) : ∃ (ss : List ByteArray) (a : Option Addr) (cap : Nat), cs = [.slice a ss.length cap] ∧ NamesAt w ss (.slice a ss.length cap) := by
  obtain ⟨a, len, cap, e, hm, hc⟩ := cells_of_slice Tryz.underlying24 (by kernel_rfl) h
  obtain ⟨ss, hl, hp⟩ := pick_list (fun i s => s.size ≤ 9223372036854775807 ∧ ∀ g o, a = some ⟨g, o, none⟩ → w.cell? ⟨g, o + i, none⟩ = some (.string s)) len (fun i hi => by
    obtain ⟨g, o, rfl, hcell⟩ := hc (by omega)
    obtain ⟨u, n, y, hu, hy⟩ := hcell i hi
    obtain ⟨s, es, _, hs⟩ := DataW.trod_string Tryz.underlying9 hy
    injection es with es _
    subst es
    exact ⟨s, hs, fun g' o' e' => by cases e'; exact hu⟩)
  refine ⟨ss, a, cap, by rw [hl]; exact e, ⟨a, cap, rfl, by rw [hl]; exact hm, fun hpos => ?_⟩, fun s hs => ?_⟩
  · obtain ⟨g, o, e3, _⟩ := hc (by omega)
    exact ⟨g, o, e3, fun i hi => (hp i hi).2 g o e3⟩
  · obtain ⟨i, hi, rfl⟩ := List.mem_iff_getElem.1 hs
    exact (hp i hi).1
theorem proc_of_trod {n : Nat} {cs : List Value} {x : DataW H × List MemPlace} (h : DataW.trod enc Tryz.prog w base spare held n 133 cs = some x) : ∃ (p : PrT) (a : Option Addr) (c : Nat), cs = [.string p.name, .slice a p.body.length c] ∧ p.name.size ≤ 9223372036854775807 ∧ SListAt w (.slice a p.body.length c) p.body := by
  obtain ⟨ys, m, rfl, _, hlen, _, hf⟩ := DataW.trod_struct Tryz.underlying133 h
  rw [cellsPr2] at hlen
  match cs, hlen with
  | [v0, v1], _ =>
    have f0 : DataW.trod enc Tryz.prog w base spare held m 9 (([v0, v1].drop 0).take (Tryz.prog.cellsOf 9)) = ys[0]? := hf 0 _ rfl
    have f1 : DataW.trod enc Tryz.prog w base spare held m 131 (([v0, v1].drop 1).take (Tryz.prog.cellsOf 131)) = ys[1]? := hf 1 _ rfl
    rw [cellsStr1] at f0
    rw [cellsXs1] at f1
    have hy : ys.length = 2 := by assumption
    rw [List.getElem?_eq_getElem (by omega)] at f0 f1
    obtain ⟨s, e0, _, w0⟩ := DataW.trod_string Tryz.underlying9 f0
    obtain ⟨xs, a, c, e1, hl⟩ := slist_of_slice m (fun k _ => slies_of_trod k) _ _ f1
    simp at e0 e1
    subst e0 e1
    exact ⟨⟨s, xs⟩, a, c, rfl, w0, hl⟩
theorem procs_of_trod {n : Nat} {cs : List Value} {x : DataW H × List MemPlace} (h : DataW.trod enc Tryz.prog w base spare held n 47 cs = some x) : ∃ (ps : List PrT) (a : Option Addr) (cap : Nat), cs = [.slice a ps.length cap] ∧ PrsAt w (.slice a ps.length cap) ps := by
  rcases DataW.trod_slice Tryz.underlying47 h with ⟨e3, _⟩ | ⟨a, len, cap, elems, rest, n', rfl, e3, _, _, hl, hm, hel, hat, _⟩
  · exact ⟨[], none, 0, e3, by simp, none, 0, rfl, fun h => absurd h (by simp)⟩
  · unfold maxLen at hm
    rw [cellsPr2] at hat
    have hsp : 0 < len → a.spot = none := fun hpos => by
      have h1 := hat 0 hpos
      rw [List.getElem?_eq_getElem (by omega)] at h1
      obtain ⟨cs', hc, _⟩ := Option.bind_eq_some_iff.1 h1
      obtain ⟨_, hcl, hcell⟩ := World.cells?_some hc
      have g0 := hcell 0 (by omega)
      rw [List.getElem?_eq_getElem (by omega)] at g0
      exact spot_none (a := a) g0
    obtain ⟨ts, htl, hp⟩ := pick_list (fun i t => PrElem w a.block (a.off + i * 2) t) len (fun i hi => by
      have h1 := hat i hi
      rw [List.getElem?_eq_getElem (by omega)] at h1
      obtain ⟨cs', hc, ht⟩ := Option.bind_eq_some_iff.1 h1
      obtain ⟨_, hcl, hcell⟩ := World.cells?_some hc
      obtain ⟨t, ba, bc, rfl, hn, hl2⟩ := proc_of_trod ht
      have g0 := hcell 0 (by omega)
      have g1 := hcell 1 (by omega)
      rw [add_add, add_of (hsp (by omega))] at g0 g1
      exact ⟨t, hn, ba, bc, g0, g1, hl2⟩)
    refine ⟨ts, some a, cap, by rw [e3, htl], by omega, some a, cap, rfl, fun hpos => ?_⟩
    have hs := hsp (by omega)
    exact ⟨a.block, a.off, by cases a; simp at hs; subst hs; rfl, hp⟩
/-- An argument that is a program. -/
theorem plies_of_Trod {r : Reach} {b0 : Nat} {v : Value} {d : DataW H} {p : List MemPlace} (hv : Value.okWide Tryz.prog w r b0 49 v) (h : DataW.Trod enc Tryz.prog w base spare held 49 v d p) : ∃ x : PTree, PLies w x v := by
  obtain ⟨cs, rfl, hsz⟩ := okWide_struct Tryz.underlying49 hv
  obtain ⟨fuel, hf⟩ := h
  obtain ⟨ys, m, _, _, hlen, _, hg⟩ := DataW.trod_struct Tryz.underlying49 hf
  rw [cellsPg3] at hlen
  obtain ⟨cs⟩ := cs
  have hlen2 : cs.length = 3 := by simpa [Value.cells] using hlen
  match cs, hlen2 with
  | [v0, v1, v2], _ =>
    have f0 : DataW.trod enc Tryz.prog w base spare held m 24 (([v0, v1, v2].drop 0).take (Tryz.prog.cellsOf 24)) = ys[0]? := hg 0 _ rfl
    have f1 : DataW.trod enc Tryz.prog w base spare held m 24 (([v0, v1, v2].drop 1).take (Tryz.prog.cellsOf 24)) = ys[1]? := hg 1 _ rfl
    have f2 : DataW.trod enc Tryz.prog w base spare held m 47 (([v0, v1, v2].drop 2).take (Tryz.prog.cellsOf 47)) = ys[2]? := hg 2 _ rfl
    rw [cellsStrs1] at f0 f1
    rw [cellsPrs1] at f2
    have hy : ys.length = 3 := by assumption
    rw [List.getElem?_eq_getElem (by omega)] at f0 f1 f2
    obtain ⟨gs, ga, gc, e0, h0⟩ := names_of_trod f0
    obtain ⟨ls, la, lc, e1, h1⟩ := names_of_trod f1
    obtain ⟨ps, pa, pc, e2, h2⟩ := procs_of_trod f2
    simp at e0 e1 e2
    subst e0 e1 e2
    exact ⟨⟨gs, ls, ps⟩, ga, gc, la, lc, pa, pc, rfl, h0, h1, h2⟩
end
end Go.Proofs.YtmhhghdfgdhljaaGreatDoor.Trm
