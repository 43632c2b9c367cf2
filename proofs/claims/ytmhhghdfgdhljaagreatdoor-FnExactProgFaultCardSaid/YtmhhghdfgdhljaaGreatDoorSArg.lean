/- A statement, and a list of statements, that came in as arguments, read as trees. Without conditions beyond the reading's own. -/
import Derived.Test.YtmhhghdfgdhljaaGreatDoorChecked
import Derived.Test.YtmhhghdfgdhljaaGreatDoorSTrees
import Derived.Test.YtmhhghdfgdhljaaGreatDoorTermArg
namespace Go.Proofs.YtmhhghdfgdhljaaGreatDoor.Trm
open Go.RowKit Own Go.ChangeShapes Go.WideShapes Go.Deep
set_option maxRecDepth 100000
section
variable {H : Type} {enc : TypeId × Value → H} {w : World} {base : Nat} {spare : Nat → Bool} {held : Bool}
theorem cellsX8 : Tryz.prog.cellsOf 216 = 8 := by kernel_rfl
theorem cellsXs1 : Tryz.prog.cellsOf 131 = 1 := by kernel_rfl
theorem slist_of_slice (n : Nat) (ih : ∀ m, m < n → ∀ (cs : List Value) (x : DataW H × List MemPlace), DataW.trod enc Tryz.prog w base spare held m 216 cs = some x → ∃ (x : STree) (ta : Option Addr) (tc : Nat) (ba : Option Addr) (bc : Nat) (ea : Option Addr) (ec : Nat), cs = [.int .i64 x.kind, .string x.name, .int .i64 x.term.kind, .int .i64 x.term.num, .string x.term.name, .slice ta x.term.kids.length tc, .slice ba x.body.length bc, .slice ea x.els.length ec] ∧ SLies w x (.agg #[.int .i64 x.kind, .string x.name, .int .i64 x.term.kind, .int .i64 x.term.num, .string x.term.name, .slice ta x.term.kids.length tc, .slice ba x.body.length bc, .slice ea x.els.length ec]))
    (cs : List Value) (x : DataW H × List MemPlace) (h : DataW.trod enc Tryz.prog w base spare held n 131 cs = some x) : ∃ (xs : List STree) (a : Option Addr) (cap : Nat), cs = [.slice a xs.length cap] ∧ SListAt w (.slice a xs.length cap) xs := by
  rcases DataW.trod_slice Tryz.underlying131 h with ⟨e3, _⟩ | ⟨a, len, cap, elems, rest, n', rfl, e3, _, _, hl, hm, hel, hat, _⟩
  · exact ⟨[], none, 0, e3, by simp, none, 0, rfl, fun h => absurd h (by simp)⟩
  · unfold maxLen at hm
    rw [cellsX8] at hat
    have hsp : 0 < len → a.spot = none := fun hpos => by
      have h1 := hat 0 hpos
      rw [List.getElem?_eq_getElem (by omega)] at h1
      obtain ⟨cs', hc, _⟩ := Option.bind_eq_some_iff.1 h1
      obtain ⟨_, hcl, hcell⟩ := World.cells?_some hc
      have g0 := hcell 0 (by omega)
      rw [List.getElem?_eq_getElem (by omega)] at g0
      exact spot_none (a := a) g0
    obtain ⟨ts, htl, hp⟩ := pick_list (fun i t => SElem w a.block (a.off + i * 8) t) len (fun i hi => by
      have h1 := hat i hi
      rw [List.getElem?_eq_getElem (by omega)] at h1
      obtain ⟨cs', hc, ht⟩ := Option.bind_eq_some_iff.1 h1
      obtain ⟨_, hcl, hcell⟩ := World.cells?_some hc
      obtain ⟨t, ta, tc, ba, bc, ea, ec, rfl, hl2⟩ := ih n' (by omega) cs' _ ht
      have g0 := hcell 0 (by omega)
      have g1 := hcell 1 (by omega)
      have g2 := hcell 2 (by omega)
      have g3 := hcell 3 (by omega)
      have g4 := hcell 4 (by omega)
      have g5 := hcell 5 (by omega)
      have g6 := hcell 6 (by omega)
      have g7 := hcell 7 (by omega)
      rw [add_add, add_of (hsp (by omega))] at g0 g1 g2 g3 g4 g5 g6 g7
      exact ⟨t, ta, tc, ba, bc, ea, ec, g0, g1, g2, g3, g4, g5, g6, g7, hl2⟩)
    refine ⟨ts, some a, cap, by rw [e3, htl], by omega, some a, cap, rfl, fun hpos => ?_⟩
    have hs := hsp (by omega)
    exact ⟨a.block, a.off, by cases a; simp at hs; subst hs; rfl, SLiesL.of hp⟩
set_option maxRecDepth 100000 in
theorem slies_of_trod : ∀ (fuel : Nat) (cs : List Value) (x : DataW H × List MemPlace), DataW.trod enc Tryz.prog w base spare held fuel 216 cs = some x →
    ∃ (x : STree) (ta : Option Addr) (tc : Nat) (ba : Option Addr) (bc : Nat) (ea : Option Addr) (ec : Nat), cs = [.int .i64 x.kind, .string x.name, .int .i64 x.term.kind, .int .i64 x.term.num, .string x.term.name, .slice ta x.term.kids.length tc, .slice ba x.body.length bc, .slice ea x.els.length ec] ∧ SLies w x (.agg #[.int .i64 x.kind, .string x.name, .int .i64 x.term.kind, .int .i64 x.term.num, .string x.term.name, .slice ta x.term.kids.length tc, .slice ba x.body.length bc, .slice ea x.els.length ec]) := by
  intro fuel
  induction fuel using Nat.strongRecOn with
  | _ fuel ih =>
    intro cs x h
    obtain ⟨ys, n, rfl, _, hlen, _, hf⟩ := DataW.trod_struct Tryz.underlying216 h
    rw [cellsX8] at hlen
    match cs, hlen with
    | [v0, v1, v2, v3, v4, v5, v6, v7], _ =>
      have f0 : DataW.trod enc Tryz.prog w base spare held n 3 (([v0, v1, v2, v3, v4, v5, v6, v7].drop 0).take (Tryz.prog.cellsOf 3)) = ys[0]? := hf 0 _ rfl
      have f1 : DataW.trod enc Tryz.prog w base spare held n 9 (([v0, v1, v2, v3, v4, v5, v6, v7].drop 1).take (Tryz.prog.cellsOf 9)) = ys[1]? := hf 1 _ rfl
      have f2 : DataW.trod enc Tryz.prog w base spare held n 140 (([v0, v1, v2, v3, v4, v5, v6, v7].drop 2).take (Tryz.prog.cellsOf 140)) = ys[2]? := hf 2 _ rfl
      have f3 : DataW.trod enc Tryz.prog w base spare held n 131 (([v0, v1, v2, v3, v4, v5, v6, v7].drop 6).take (Tryz.prog.cellsOf 131)) = ys[3]? := hf 3 _ rfl
      have f4 : DataW.trod enc Tryz.prog w base spare held n 131 (([v0, v1, v2, v3, v4, v5, v6, v7].drop 7).take (Tryz.prog.cellsOf 131)) = ys[4]? := hf 4 _ rfl
      rw [cellsInt1] at f0
      rw [cellsStr1] at f1
      rw [cellsT4] at f2
      rw [cellsXs1] at f3 f4
      have hy : ys.length = 5 := by assumption
      rw [List.getElem?_eq_getElem (by omega)] at f0 f1 f2 f3 f4
      obtain ⟨k, e0, _, w0⟩ := DataW.trod_int Tryz.underlying3 f0
      obtain ⟨s, e1, _, w1⟩ := DataW.trod_string Tryz.underlying9 f1
      obtain ⟨t, ta, tc, e2, hlt⟩ := lies_of_trod n _ _ f2
      obtain ⟨b, ba, bc, e3, hb⟩ := slist_of_slice n (fun m hm => ih m (by omega)) _ _ f3
      obtain ⟨e, ea, ec, e4, he⟩ := slist_of_slice n (fun m hm => ih m (by omega)) _ _ f4
      simp at e0 e1 e2 e3 e4
      obtain ⟨rfl, rfl, rfl, rfl⟩ := e2
      subst e0 e1 e3 e4
      obtain ⟨hb1, _, _, eb, hb2⟩ := hb
      obtain ⟨he1, _, _, ee, he2⟩ := he
      simp at eb ee
      obtain ⟨rfl, rfl⟩ := eb
      obtain ⟨rfl, rfl⟩ := ee
      exact ⟨.node k s t b e, ta, tc, ba, bc, ea, ec, rfl, bounds_i64 w0, w1, hb1, he1, ta, tc, ba, bc, ea, ec, rfl, hlt, hb2, he2⟩
/-- An argument that is a statement. -/
theorem slies_of_Trod {r : Reach} {b0 : Nat} {v : Value} {d : DataW H} {p : List MemPlace} (hv : Value.okWide Tryz.prog w r b0 216 v) (h : DataW.Trod enc Tryz.prog w base spare held 216 v d p) : ∃ x : STree, SLies w x v := by
  obtain ⟨cs, rfl, hsz⟩ := okWide_struct Tryz.underlying216 hv
  obtain ⟨fuel, hf⟩ := h
  obtain ⟨x, ta, tc, ba, bc, ea, ec, e, hl⟩ := slies_of_trod fuel _ _ hf
  refine ⟨x, ?_⟩
  have e2 : cs = #[.int .i64 x.kind, .string x.name, .int .i64 x.term.kind, .int .i64 x.term.num, .string x.term.name, .slice ta x.term.kids.length tc, .slice ba x.body.length bc, .slice ea x.els.length ec] := by
    apply Array.ext'
    exact e
  rw [e2]
  exact hl
/-- An argument that is a list of statements. -/
theorem slist_of_Trod {r : Reach} {b0 : Nat} {v : Value} {d : DataW H} {p : List MemPlace} (hv : Value.okWide Tryz.prog w r b0 131 v) (h : DataW.Trod enc Tryz.prog w base spare held 131 v d p) : ∃ xs : List STree, SListAt w v xs := by
  obtain ⟨a0, l0, c0, rfl⟩ := okWide_slice Tryz.underlying131 hv
  obtain ⟨fuel, hf⟩ := h
  obtain ⟨xs, a, cap, e, hl⟩ := slist_of_slice fuel (fun m _ => slies_of_trod m) _ _ hf
  have e2 : Value.slice a0 l0 c0 = .slice a xs.length cap := by
    have : [Value.slice a0 l0 c0] = [Value.slice a xs.length cap] := e
    injection this
  rw [e2]
  exact ⟨xs, hl⟩
end
end Go.Proofs.YtmhhghdfgdhljaaGreatDoor.Trm
