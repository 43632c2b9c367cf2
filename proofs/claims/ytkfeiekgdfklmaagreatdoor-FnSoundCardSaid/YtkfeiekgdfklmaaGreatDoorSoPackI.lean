/- A code that came in, and whether it is too large for a law, walked. Without conditions beyond the reading's own. With what it stands on, in one text. -/
import Derived.Test.YtkfeiekgdfklmaaGreatDoorChecked
import Derived.Deep.Slices
import Derived.Deep.Fields
import Derived.ChangeSame
import Derived.OpenShut
import Derived.Test.YtkfeiekgdfklmaaGreatDoorTrees
import Derived.Test.YtkfeiekgdfklmaaGreatDoorLists
import Derived.Test.YtkfeiekgdfklmaaGreatDoorTermSame
import Derived.Test.YtkfeiekgdfklmaaGreatDoorCursor
import Derived.BigQuiet
import Derived.WalkSmall
import Derived.Outline
/- Rows that came in as arguments, cell by cell. Without conditions beyond the reading's own. -/
namespace Go.Proofs.YtkfeiekgdfklmaaGreatDoor.Trm
open Go.RowKit Go.ChangeShapes Go.WideShapes Go.Deep
theorem pick_list {α : Type} (P : Nat → α → Prop) : ∀ n, (∀ i, i < n → ∃ x, P i x) → ∃ l : List α, l.length = n ∧ ∀ (i : Nat) (hi : i < l.length), P i l[i]
  | 0, _ => ⟨[], rfl, fun i hi => absurd hi (by simp)⟩
  | n + 1, h => by
    obtain ⟨l, hl, hp⟩ := pick_list P n (fun i hi => h i (by omega))
    obtain ⟨x, hx⟩ := h n (by omega)
    refine ⟨l ++ [x], by simp [hl], fun i hi => ?_⟩
    by_cases hin : i < l.length
    · rw [List.getElem_append_left hin]; exact hp i hin
    · have hi2 : i = l.length := by simp at hi; omega
      subst hi2
      simp only [List.getElem_append_right (Nat.le_refl _), Nat.sub_self, List.getElem_cons_zero]
      rw [hl]; exact hx
theorem spot_none {w : World} {a : Addr} {u : Value} (h : w.cell? a = some u) : a.spot = none := by
  unfold World.cell? at h
  cases hs : a.spot with
  | none => rfl
  | some s =>
    rw [hs] at h
    split at h
    · simp at h
    · cases h
theorem add_of {a : Addr} (h : a.spot = none) (n : Nat) : a.add n = ⟨a.block, a.off + n, none⟩ := by
  unfold Addr.add
  by_cases hn : n = 0
  · rw [if_pos hn]; subst hn; cases a; simp at h; subst h; rfl
  · rw [if_neg hn]
set_option maxRecDepth 100000
section
variable {H : Type} {enc : TypeId × Value → H} {w : World} {base : Nat} {spare : Nat → Bool} {held : Bool}
theorem cells_of_slice {P : Program} {t e : TypeId} {fuel : Nat} {cs : List Value} {x : DataW H × List MemPlace} (ht : P.underlying t = some (.slice e)) (hc : P.cellsOf e = 1) (h : DataW.trod enc P w base spare held fuel t cs = some x) :
    ∃ (a : Option Addr) (len cap : Nat), cs = [.slice a len cap] ∧ len ≤ 9223372036854775807 ∧ (0 < len → ∃ g o, a = some ⟨g, o, none⟩ ∧ ∀ i, i < len → ∃ u n y, w.cell? ⟨g, o + i, none⟩ = some u ∧ DataW.trod enc P w base spare held n e [u] = some y) := by
  rcases DataW.trod_slice ht h with ⟨e3, _⟩ | ⟨a, len, cap, elems, rest, n', rfl, e3, _, _, hl, hm, hel, hat, _⟩
  · exact ⟨none, 0, 0, e3, by omega, fun h => by omega⟩
  · unfold maxLen at hm
    rw [hc] at hat
    have hone : ∀ i, i < len → ∃ u y, w.cell? (a.add i) = some u ∧ DataW.trod enc P w base spare held n' e [u] = some y := fun i hi => by
      have h1 := hat i hi
      rw [List.getElem?_eq_getElem (by omega), Nat.mul_one] at h1
      obtain ⟨cs', hcs, htr⟩ := Option.bind_eq_some_iff.1 h1
      obtain ⟨_, hcl, hcell⟩ := World.cells?_some hcs
      match cs', hcl with
      | [u], _ =>
        have g0 := hcell 0 (by omega)
        rw [add_add, Nat.add_zero] at g0
        exact ⟨u, _, g0, htr⟩
    have hsp : 0 < len → a.spot = none := fun hpos => by
      obtain ⟨u, y, hu, _⟩ := hone 0 hpos
      exact spot_none (a := a) hu
    refine ⟨some a, len, cap, e3, by omega, fun hpos => ?_⟩
    have hs := hsp hpos
    refine ⟨a.block, a.off, by cases a; simp at hs; subst hs; rfl, fun i hi => ?_⟩
    obtain ⟨u, y, hu, hy⟩ := hone i hi
    rw [add_of hs] at hu
    exact ⟨u, n', y, hu, hy⟩
end
end Go.Proofs.YtkfeiekgdfklmaaGreatDoor.Trm
/- A term that came in as an argument, read as a tree. Without conditions beyond the reading's own. -/
namespace Go.Proofs.YtkfeiekgdfklmaaGreatDoor.Trm
open Go.RowKit Own Go.ChangeShapes Go.WideShapes Go.Deep
/-- An element's cells, and what lies behind them. -/
def ElemAt (w : World) (g o : Nat) (t : Tree) : Prop := ∃ a cap, w.cell? ⟨g, o, none⟩ = some (.int .i64 t.kind) ∧ w.cell? ⟨g, o + 1, none⟩ = some (.int .i64 t.num) ∧ w.cell? ⟨g, o + 2, none⟩ = some (.string t.name) ∧ w.cell? ⟨g, o + 3, none⟩ = some (.slice a t.kids.length cap) ∧
      Lies w t (.agg #[.int .i64 t.kind, .int .i64 t.num, .string t.name, .slice a t.kids.length cap])
theorem liesL_of {w : World} : ∀ {ts : List Tree} {g o : Nat}, (∀ (i : Nat) (hi : i < ts.length), ElemAt w g (o + i * 4) ts[i]) → LiesL w g o ts
  | [], _, _, _ => trivial
  | t :: ts, g, o, h => by
    refine ⟨?_, liesL_of (fun i hi => ?_)⟩
    · have := h 0 (by simp)
      rw [Nat.zero_mul, Nat.add_zero] at this
      exact this
    · have := h (i + 1) (by simpa using hi)
      rw [show o + (i + 1) * 4 = o + 4 + i * 4 from by omega] at this
      exact this
section
variable {H : Type} {enc : TypeId × Value → H} {w : World} {base : Nat} {spare : Nat → Bool} {held : Bool}
theorem cellsT4 : Tryz.prog.cellsOf 221 = 4 := by kernel_rfl
theorem cellsInt1 : Tryz.prog.cellsOf 3 = 1 := by kernel_rfl
theorem cellsStr1 : Tryz.prog.cellsOf 9 = 1 := by kernel_rfl
theorem cellsKids1 : Tryz.prog.cellsOf 219 = 1 := by kernel_rfl
set_option maxRecDepth 100000 in
theorem lies_of_trod : ∀ (fuel : Nat) (cs : List Value) (x : DataW H × List MemPlace), DataW.trod enc Tryz.prog w base spare held fuel 221 cs = some x →
    ∃ (t : Tree) (a : Option Addr) (cap : Nat), cs = [.int .i64 t.kind, .int .i64 t.num, .string t.name, .slice a t.kids.length cap] ∧ Lies w t (.agg #[.int .i64 t.kind, .int .i64 t.num, .string t.name, .slice a t.kids.length cap]) := by
  intro fuel
  induction fuel using Nat.strongRecOn with
  | _ fuel ih =>
    intro cs x h
    obtain ⟨ys, n, rfl, _, hlen, _, hf⟩ := DataW.trod_struct Tryz.underlying221 h
    rw [cellsT4] at hlen
    match cs, hlen with
    | [v0, v1, v2, v3], _ =>
      have f0 : DataW.trod enc Tryz.prog w base spare held n 3 (([v0, v1, v2, v3].drop 0).take (Tryz.prog.cellsOf 3)) = ys[0]? := hf 0 _ rfl
      have f1 : DataW.trod enc Tryz.prog w base spare held n 3 (([v0, v1, v2, v3].drop 1).take (Tryz.prog.cellsOf 3)) = ys[1]? := hf 1 _ rfl
      have f2 : DataW.trod enc Tryz.prog w base spare held n 9 (([v0, v1, v2, v3].drop 2).take (Tryz.prog.cellsOf 9)) = ys[2]? := hf 2 _ rfl
      have f3 : DataW.trod enc Tryz.prog w base spare held n 219 (([v0, v1, v2, v3].drop 3).take (Tryz.prog.cellsOf 219)) = ys[3]? := hf 3 _ rfl
      rw [cellsInt1] at f0 f1
      rw [cellsStr1] at f2
      rw [cellsKids1] at f3
      have hy : ys.length = 4 := by assumption
      rw [List.getElem?_eq_getElem (by omega)] at f0 f1 f2 f3
      obtain ⟨k, e0, _, w0⟩ := DataW.trod_int Tryz.underlying3 f0
      obtain ⟨m, e1, _, w1⟩ := DataW.trod_int Tryz.underlying3 f1
      obtain ⟨s, e2, _, w2⟩ := DataW.trod_string Tryz.underlying9 f2
      injection e0 with e0 _
      injection e1 with e1 _
      injection e2 with e2 _
      subst e0 e1 e2
      rcases DataW.trod_slice Tryz.underlying219 f3 with ⟨e3, _⟩ | ⟨a, len, cap, elems, rest, n', rfl, e3, _, _, hl, hm, hel, hat, _⟩
      · injection e3 with e3 _
        subst e3
        exact ⟨.node k m s [], none, 0, rfl, bounds_i64 w0, bounds_i64 w1, w2, by simp, none, 0, rfl, fun h => absurd h (by simp)⟩
      · injection e3 with e3 _
        subst e3
        unfold maxLen at hm
        rw [cellsT4] at hat
        have hsp : 0 < len → a.spot = none := fun hpos => by
          have h1 := hat 0 hpos
          rw [List.getElem?_eq_getElem (by omega)] at h1
          obtain ⟨cs', hc, _⟩ := Option.bind_eq_some_iff.1 h1
          obtain ⟨_, hcl, hcell⟩ := World.cells?_some hc
          have g0 := hcell 0 (by omega)
          rw [List.getElem?_eq_getElem (by omega)] at g0
          exact spot_none (a := a) g0
        obtain ⟨ts, htl, hp⟩ := pick_list (fun i t => ElemAt w a.block (a.off + i * 4) t) len (fun i hi => by
          have h1 := hat i hi
          rw [List.getElem?_eq_getElem (by omega)] at h1
          obtain ⟨cs', hc, ht⟩ := Option.bind_eq_some_iff.1 h1
          obtain ⟨_, hcl, hcell⟩ := World.cells?_some hc
          obtain ⟨t, b, c, rfl, hl2⟩ := ih n' (by omega) cs' _ ht
          have g0 := hcell 0 (by omega)
          have g1 := hcell 1 (by omega)
          have g2 := hcell 2 (by omega)
          have g3 := hcell 3 (by omega)
          rw [add_add, add_of (hsp (by omega))] at g0 g1 g2 g3
          exact ⟨t, b, c, g0, g1, g2, g3, hl2⟩)
        refine ⟨.node k m s ts, some a, cap, by simp [Tree.kind, Tree.num, Tree.name, Tree.kids, htl], bounds_i64 w0, bounds_i64 w1, w2, by omega, some a, cap, rfl, fun hpos => ?_⟩
        have hs := hsp (by omega)
        exact ⟨a.block, a.off, by cases a; simp at hs; subst hs; rfl, liesL_of hp⟩
set_option maxRecDepth 100000 in
/-- An argument that is a term. -/
theorem lies_of_Trod {r : Reach} {b0 : Nat} {v : Value} {d : DataW H} {p : List MemPlace} (hv : Value.okWide Tryz.prog w r b0 221 v) (h : DataW.Trod enc Tryz.prog w base spare held 221 v d p) : ∃ t : Tree, Lies w t v := by
  obtain ⟨cs, rfl, hsz⟩ := okWide_struct Tryz.underlying221 hv
  obtain ⟨fuel, hf⟩ := h
  obtain ⟨t, a, cap, e, hl⟩ := lies_of_trod fuel _ _ hf
  refine ⟨t, ?_⟩
  have e2 : cs = #[.int .i64 t.kind, .int .i64 t.num, .string t.name, .slice a t.kids.length cap] := by
    apply Array.ext'
    exact e
  rw [e2]
  exact hl
end
end Go.Proofs.YtkfeiekgdfklmaaGreatDoor.Trm
/- Lists of texts and of numbers that came in as arguments. Without conditions beyond the reading's own. -/
namespace Go.Proofs.YtkfeiekgdfklmaaGreatDoor.Trm
open Go.RowKit Own Go.ChangeShapes Go.WideShapes Go.Deep
set_option maxRecDepth 100000
section
variable {H : Type} {enc : TypeId × Value → H} {w : World} {base : Nat} {spare : Nat → Bool} {held : Bool}
theorem strs_of_Trod {r : Reach} {b0 : Nat} {v : Value} {d : DataW H} {p : List MemPlace} (hv : Value.okWide Tryz.prog w r b0 24 v) (h : DataW.Trod enc Tryz.prog w base spare held 24 v d p) : ∃ ss : List ByteArray, StrsAt w ss v ∧ ∀ s, s ∈ ss → s.size ≤ 9223372036854775807 := by
  obtain ⟨a0, l0, c0, rfl⟩ := okWide_slice Tryz.underlying24 hv
  obtain ⟨fuel, hf⟩ := h
  obtain ⟨a, len, cap, e, hm, hc⟩ := cells_of_slice Tryz.underlying24 (by kernel_rfl) hf
  have e2 : Value.slice a0 l0 c0 = .slice a len cap := by
    have : [Value.slice a0 l0 c0] = [Value.slice a len cap] := e
    injection this
  rw [e2]
  obtain ⟨ss, hl, hp⟩ := pick_list (fun i s => s.size ≤ 9223372036854775807 ∧ ∀ g o, a = some ⟨g, o, none⟩ → w.cell? ⟨g, o + i, none⟩ = some (.string s)) len (fun i hi => by
    obtain ⟨g, o, rfl, hcell⟩ := hc (by omega)
    obtain ⟨u, n, y, hu, hy⟩ := hcell i hi
    obtain ⟨s, es, _, hs⟩ := DataW.trod_string Tryz.underlying9 hy
    injection es with es _
    subst es
    exact ⟨s, hs, fun g' o' e' => by cases e'; exact hu⟩)
  refine ⟨ss, ⟨a, cap, by rw [hl], by rw [hl]; exact hm, fun hpos => ?_⟩, fun s hs => ?_⟩
  · obtain ⟨g, o, e3, _⟩ := hc (by omega)
    exact ⟨g, o, e3, fun i hi => (hp i hi).2 g o e3⟩
  · obtain ⟨i, hi, rfl⟩ := List.mem_iff_getElem.1 hs
    exact (hp i hi).1
end
end Go.Proofs.YtkfeiekgdfklmaaGreatDoor.Trm
/- Lists of numbers that came in as arguments. Without conditions beyond the reading's own. -/
namespace Go.Proofs.YtkfeiekgdfklmaaGreatDoor.Trm
open Go.RowKit Own Go.ChangeShapes Go.WideShapes Go.Deep
set_option maxRecDepth 100000
section
variable {H : Type} {enc : TypeId × Value → H} {w : World} {base : Nat} {spare : Nat → Bool} {held : Bool}
theorem ints_of_Trod {r : Reach} {b0 : Nat} {v : Value} {d : DataW H} {p : List MemPlace} (hv : Value.okWide Tryz.prog w r b0 41 v) (h : DataW.Trod enc Tryz.prog w base spare held 41 v d p) : ∃ ss : List Int, IntsAt w ss v := by
  obtain ⟨a0, l0, c0, rfl⟩ := okWide_slice Tryz.underlying41 hv
  obtain ⟨fuel, hf⟩ := h
  obtain ⟨a, len, cap, e, hm, hc⟩ := cells_of_slice Tryz.underlying41 (by kernel_rfl) hf
  have e2 : Value.slice a0 l0 c0 = .slice a len cap := by
    have : [Value.slice a0 l0 c0] = [Value.slice a len cap] := e
    injection this
  rw [e2]
  obtain ⟨ss, hl, hp⟩ := pick_list (fun i s => InI s ∧ ∀ g o, a = some ⟨g, o, none⟩ → w.cell? ⟨g, o + i, none⟩ = some (.int .i64 s)) len (fun i hi => by
    obtain ⟨g, o, rfl, hcell⟩ := hc (by omega)
    obtain ⟨u, n, y, hu, hy⟩ := hcell i hi
    obtain ⟨s, es, _, hs⟩ := DataW.trod_int Tryz.underlying3 hy
    injection es with es _
    subst es
    exact ⟨s, bounds_i64 hs, fun g' o' e' => by cases e'; exact hu⟩)
  refine ⟨ss, a, cap, by rw [hl], by rw [hl]; exact hm, fun s hs => ?_, fun hpos => ?_⟩
  · obtain ⟨i, hi, rfl⟩ := List.mem_iff_getElem.1 hs
    exact (hp i hi).1
  · obtain ⟨g, o, e3, _⟩ := hc (by omega)
    exact ⟨g, o, e3, fun i hi => (hp i hi).2 g o e3⟩
end
end Go.Proofs.YtkfeiekgdfklmaaGreatDoor.Trm
/- The laws' small helpers over lists of texts and over a code, walked. Conditions: the lists lie in memory. -/
namespace Go.Proofs.YtkfeiekgdfklmaaGreatDoor.Trm
open Go.RowKit Own Cur Go.ChangeShapes Go.WideShapes Go.Deep
set_option maxRecDepth 100000
open Classical in
noncomputable def hasTx (ss : List ByteArray) (s : ByteArray) : Bool := if s ∈ ss then true else false
theorem hasTx_yes {ss : List ByteArray} {s : ByteArray} (h : s ∈ ss) : hasTx ss s = true := by unfold hasTx; rw [if_pos h]
theorem hasTx_no {ss : List ByteArray} {s : ByteArray} (h : ¬ s ∈ ss) : hasTx ss s = false := by unfold hasTx; rw [if_neg h]
theorem hasText_any (ss : List ByteArray) (s : ByteArray) (v : Value) (w : World) (hl : StrsAt w ss v) :
    Calls Tryz.prog 16 #[v, .string s] w fun e w' => e = .returned (.bool (hasTx ss s)) ∧ w = w' := by
  obtain ⟨a, cap, rfl, h1, h2⟩ := hl
  have HK := Lib.hid h2
  clear h2
  go_enter Tryz.func16, Tryz.ntmps16
  go_wp2
  go_loop [5] (fun i => ∃ j : Nat, j ≤ ss.length ∧ i = .int .i64 j ∧ Hid (∀ k (h : k < ss.length), k < j → ss[k] ≠ s))
    (fun i => ss.length - (intOf i).toNat)
  case atStart => exact ⟨0, Nat.zero_le _, rfl, fun k _ h => by omega⟩
  case round =>
    obtain ⟨j, hj, rfl, hne⟩ := hrel
    by_cases hlt : j < ss.length
    · obtain ⟨g, o, rfl, hc⟩ := HK.out (by omega)
      have c0 := hc j hlt
      clear hc
      by_cases he : ss[j] = s
      · have HS : Hid (hasTx ss s = true) := hasTx_yes (he ▸ List.getElem_mem hlt)
        rw [he] at c0
        clear he
        go_wp2
        go_ret
        exact ⟨ret_b HS.out.symm, rfl⟩
      · have hq := bytes_ne he
        have HS : Hid (∀ k (h : k < ss.length), k < j + 1 → ss[k] ≠ s) := fun k h hk => by
          rcases Nat.lt_or_ge k j with h1 | h1
          · exact hne.out k h h1
          · obtain rfl : k = j := by omega
            exact he
        clear he
        go_wp2
        go_round
        case rel => exact ⟨j + 1, by omega, by go_num, HS⟩
        case measure => simp [intOf]; omega
    · have HS : Hid (hasTx ss s = false) := by
        refine hasTx_no fun hm => ?_
        obtain ⟨k, hk, e⟩ := List.mem_iff_getElem.1 hm
        exact hne.out k hk (by omega) e
      go_wp2
      go_ret
      exact ⟨ret_b HS.out.symm, rfl⟩
set_option maxHeartbeats 400000 in
theorem sameTexts_at (u v : Value) (ss : List ByteArray) (w : World) (h1 : StrsAt w ss u) (h2 : StrsAt w ss v) :
    Calls Tryz.prog 12 #[u, v] w fun e w' => e = .returned (.bool true) ∧ Below w.heap.size w w' := by
  obtain ⟨a1, c1, rfl, hm, ha1⟩ := h1
  obtain ⟨a2, c2, rfl, _, ha2⟩ := h2
  have HA1 := Lib.hid ha1
  have HA2 := Lib.hid ha2
  clear ha1 ha2
  go_enter Tryz.func12, Tryz.ntmps12
  go_wp2
  go_loopw [5] (fun i wr => ∃ k m : Nat, k ≤ ss.length ∧ i = .int .i64 k ∧ wr = w.drewN m)
    (fun i _ => ss.length - (intOf i).toNat)
  case atStart => exact ⟨0, 0, Nat.zero_le _, rfl, (World.drewN_zero _).symm⟩
  case round =>
    obtain ⟨k, m, hk, rfl, rfl⟩ := hrel
    by_cases hlt : k < ss.length
    · obtain ⟨g1, o1, rfl, q1⟩ := HA1.out (by omega)
      obtain ⟨g2, o2, rfl, q2⟩ := HA2.out (by omega)
      have d1 := q1 k hlt
      have d2 := q2 k hlt
      clear q1 q2
      go_wp2
      go_quiet (fail)
      go_wp2
      go_roundw
      case rel => exact ⟨k + 1, m + nq, by omega, by go_num, rfl⟩
      case measure => simp [intOf]; omega
    · go_wp2
      go_ret
      exact ⟨rfl, below_drewN (Below.refl _ _) _⟩
end Go.Proofs.YtkfeiekgdfklmaaGreatDoor.Trm
/- A code that came in, and whether it is too large for a law, walked. Without conditions beyond the reading's own. -/
namespace Go.Proofs.YtkfeiekgdfklmaaGreatDoor.Trm
open Go.RowKit Own Go.ChangeShapes Go.WideShapes Go.Deep Cur
set_option maxRecDepth 100000
theorem ret_bC {a b : Bool} (h : a = b) : Ending.returned (.bool a) = .returned (.bool b) := by rw [h]
theorem big_no (bs : List UInt8) (v : Value) (w : World) (hb : BytesAt w bs v) (hl : bs.length ≤ 1048576) :
    Calls Tryz.prog 7 #[v] w fun e w' => e = .returned (.bool false) ∧ w = w' := by
  obtain ⟨a, cap, rfl, h1, _⟩ := hb
  go_enter Tryz.func7, Tryz.ntmps7
  go_wp2
  go_ret
  exact ⟨ret_bC (decide_eq_false (by omega)), rfl⟩
theorem big_yes (bs : List UInt8) (v : Value) (w : World) (hb : BytesAt w bs v) (hl : 1048576 < bs.length) :
    Calls Tryz.prog 7 #[v] w fun e w' => e = .returned (.bool true) ∧ w = w' := by
  obtain ⟨a, cap, rfl, h1, _⟩ := hb
  go_enter Tryz.func7, Tryz.ntmps7
  go_wp2
  go_ret
  exact ⟨ret_bC (decide_eq_true (by omega)), rfl⟩
section
variable {H : Type} {enc : TypeId × Value → H} {w : World} {base : Nat} {spare : Nat → Bool} {held : Bool}
/-- A code that came in. -/
theorem bytes_of_Trod {r : Reach} {b0 : Nat} {v : Value} {d : DataW H} {p : List MemPlace} (hv : Value.okWide Tryz.prog w r b0 22 v) (h : DataW.Trod enc Tryz.prog w base spare held 22 v d p) : ∃ bs : List UInt8, BytesAt w bs v := by
  obtain ⟨a0, l0, c0, rfl⟩ := okWide_slice Tryz.underlying22 hv
  obtain ⟨fuel, hf⟩ := h
  obtain ⟨a, len, cap, e, hm, hc⟩ := cells_of_slice Tryz.underlying22 (by kernel_rfl) hf
  have e2 : Value.slice a0 l0 c0 = .slice a len cap := by
    have : [Value.slice a0 l0 c0] = [Value.slice a len cap] := e
    injection this
  rw [e2]
  obtain ⟨ss, hl, hp⟩ := pick_list (fun i (b : UInt8) => ∀ g o, a = some ⟨g, o, none⟩ → w.cell? ⟨g, o + i, none⟩ = some (.int .u8 (b.toNat : Int))) len (fun i hi => by
    obtain ⟨g, o, rfl, hcell⟩ := hc (by omega)
    obtain ⟨u, n, y, hu, hy⟩ := hcell i hi
    obtain ⟨x, es, _, hs⟩ := DataW.trod_int Tryz.underlying5 hy
    injection es with es _
    subst es
    have hb := bounds_u8 hs
    refine ⟨UInt8.ofNat x.toNat, fun g' o' e' => ?_⟩
    cases e'
    rw [hu]
    congr 2
    have : x.toNat < 256 := by omega
    simp [UInt8.toNat_ofNat']
    omega)
  refine ⟨ss, a, cap, by rw [hl], by rw [hl]; exact hm, fun hpos => ?_⟩
  obtain ⟨g, o, e3, _⟩ := hc (by omega)
  exact ⟨g, o, e3, fun i hi => hp i hi g o e3⟩
end
end Go.Proofs.YtkfeiekgdfklmaaGreatDoor.Trm
