/- The laws' comparison of two codes that are the same, walked. Conditions: both lie in memory. With what it stands on, in one text. -/
import Derived.Test.YtofmccihehalcabInLoopPackD
import Derived.Test.YtofmccihehalcabInLoopPackB
import Derived.Maps.OwnIn
import Derived.Test.YtofmccihehalcabFlowM
import Derived.Shelf.AbstractIn
import Derived.Test.YtofmccihehalcabFlowNextS
import Derived.Test.YtofmccihehalcabChecked
import Derived.Test.YtofmccihehalcabTermSize
import Derived.Deep.RegionWith
import Derived.BigQuiet
import Derived.WalkSmall
import Derived.Outline
import Derived.Test.YtofmccihehalcabKTrees
import Derived.Test.YtofmccihehalcabIntCalls
import Derived.Test.YtofmccihehalcabListEq
import Derived.Deep.RegionHeld3
/- The iterator of a place, and what a round of it keeps. Conditions: the code lies in memory and is right. -/
namespace Go.Proofs.Ytofmccihehalcab.Trm
open Go.RowKit Go.Proofs.Ytofmccihehalcab.Own Go.Shelf
attribute [local go_sem] Oper.semAt_some
theorem KIn.lies {w : World} {x : KTree} {v : Value} (h : KIn w x v) : KLies w x v := by
  obtain ⟨ga, gc, la, lc, pa, pc, ea, ec, ia, ic, rfl, h1, h2, h3, h4, h5, _⟩ := h
  exact ⟨ga, gc, la, lc, pa, pc, ea, ec, ia, ic, rfl, h1, h2, h3, h4, h5⟩
/-- The iterator's contract. -/
theorem next_stops (F : Fence) (m : Nat) (hF : F.fn 57) (hro : F.round = none) (hm : 1 ≤ m) (y : InsT) (i n : Nat) (gv lv pv ev : Value) (g o ic Kb Ab : Nat) (w : World) (hi : i < n) (hn : n ≤ 1500) (hto : y.op = 2 ∨ y.op = 3 → 0 ≤ y.to)
    (hk : Box5 w Kb gv lv pv ev (.slice (some ⟨g, o, none⟩) n ic)) (ha : w.cell? ⟨Ab, 0, none⟩ = some (.int .i64 (i : Int))) (hel : IElem w g (o + i * 7) y) :
    SeqStopsK F m Try.prog 57 #[.pointer (some ⟨Kb, 0, none⟩), .pointer (some ⟨Ab, 0, none⟩)] (fun x : Nat => #[Value.int .i64 (x : Int)]) (KpN Ab) (fun ys => ys = nextN i y) (fun pre => pre <+: nextN i y) 2 w := fun l J Jx W hW hA _ hY h0 => by
  obtain ⟨op, a, t, u⟩ := y
  have kW := keeps_below hW
  obtain ⟨_, _, _, ta, tc, c0, c1, c2, c3, c4, c5, c6, _⟩ := hel.keep kW
  exact next1_in F m hF hro hm op a u t i n gv lv pv ev g o ic Kb Ab l ta tc J Jx W hi hn hto hA (fun pre z W1 hj _ hl => hY pre z W1 hj hl) (hk.keep kW) (kW _ _ ha) c0 c1 c2 c3 c4 c5 c6 h0
/-- What an append of a round keeps. -/
theorem KpN.appended {Ab n₀ B : Nat} {W w1 : World} {v v' : Value} {k : Nat} {xs : List Value} {tmp : Obj} (hA : Ab < W.heap.size) (hne : ∀ b, v.ownBlock = some b → b ≠ Ab) (hB : Ab ≠ B) (hv1 : Boxed w1 B 23 v) (hrow : W.ownsRow n₀ 3 1 v k xs) (hg : (W.alloc tmp).grownBy w1 v.ownBlock) : KpN Ab W (w1.setCell ⟨B, 0, none⟩ v') := by
  refine ((KpN.alloc hA tmp).trans (KpN.grown (by simp; omega) hg fun r e => ?_)).trans (KpN.grown ?_ (grownBy_setCell' w1 B v') fun r e => ?_)
  · rcases (hrow.alloc tmp).2 with ⟨rfl, _⟩ | ⟨gg, cap, cur, rfl, hb, hgb, _⟩
    · simp [Value.ownBlock] at e
    · obtain rfl : gg = r := by simpa [Value.ownBlock] using e
      refine ⟨hne _ rfl, fun c h => ?_⟩
      rw [hgb] at h
      have h2 := (Obj.cells.inj (Option.some.inj h)).2.1
      exact absurd h2 (by decide)
  · have := hg.size
    simp at this
    omega
  · cases e
    refine ⟨fun h => hB h.symm, fun c h => ?_⟩
    rw [show w1.heap[B]? = _ from hv1] at h
    have h2 := (Obj.cells.inj (Option.some.inj h)).2.1
    exact absurd h2 (by decide)
/-- The iterator of a place: the code and the place lie in boxes of their own. -/
theorem nextPlaces_any (gv lv pv ev iv : Value) (a : Int) (w : World) :
    Calls Try.prog 45 #[.agg #[gv, lv, pv, ev, iv], .int .i64 a] w fun e w' => e = .returned (.func (.func 57) #[] #[.pointer (some ⟨w.heap.size, 0, none⟩), .pointer (some ⟨w.heap.size + 1, 0, none⟩)]) ∧ Below w.heap.size w w' ∧ Box5 w' w.heap.size gv lv pv ev iv ∧ w'.cell? ⟨w.heap.size + 1, 0, none⟩ = some (.int .i64 a) ∧ w'.heap.size = w.heap.size + 2 := by
  have Y0 := (Box5.new w gv lv pv ev iv 31).keep (keeps_alloc _ (.cells #[.int .i64 a] 3))
  have B0 := ((Below.refl w.heap.size w).alloc (Nat.le_refl _) (.cells #[gv, lv, pv, ev, iv] 31)).alloc (by simp) (.cells #[.int .i64 a] 3)
  have C0 : ((w.alloc (.cells #[gv, lv, pv, ev, iv] 31)).alloc (.cells #[.int .i64 a] 3)).cell? ⟨w.heap.size + 1, 0, none⟩ = some (.int .i64 a) := by simp [go_sem]
  have HY := Lib.hid Y0
  have HB := Lib.hid B0
  have HC := Lib.hid C0
  clear Y0 B0 C0
  go_enter Try.func45, Try.ntmps45
  go_wp2
  go_ret
  exact ⟨rfl, HB.out, HY.out, HC.out, by simp⟩
end Go.Proofs.Ytofmccihehalcab.Trm
/- The marks that a range over a function leaves among a call's deferred calls, where it stands in a loop: as many as there were rounds. Without conditions. -/
namespace Go.Proofs.Ytofmccihehalcab.Trm
open Go.RowKit Go.Proofs.Ytofmccihehalcab.Own Go.Shelf
/-- The iterator's contract, each place known to be one of them. -/
theorem next_stopsS (F : Fence) (m : Nat) (hF : F.fn 57) (hro : F.round = none) (hm : 1 ≤ m) (y : InsT) (i n : Nat) (gv lv pv ev : Value) (g o ic Kb Ab : Nat) (w : World) (hi : i < n) (hn : n ≤ 1500) (hto : y.op = 2 ∨ y.op = 3 → 0 ≤ y.to)
    (hk : Box5 w Kb gv lv pv ev (.slice (some ⟨g, o, none⟩) n ic)) (ha : w.cell? ⟨Ab, 0, none⟩ = some (.int .i64 (i : Int))) (hel : IElem w g (o + i * 7) y) :
    SeqStopsK F m Try.prog 57 #[.pointer (some ⟨Kb, 0, none⟩), .pointer (some ⟨Ab, 0, none⟩)] (fun x : { z : Nat // z ∈ nextN i y } => #[Value.int .i64 ((x.1 : Nat) : Int)]) (KpN Ab) (fun ys => ys.map (fun z => z.1) = nextN i y) (fun _ => True) 2 w := fun l J Jx W hW hA _ hY h0 => by
  obtain ⟨op, a, t, u⟩ := y
  have kW := keeps_below hW
  obtain ⟨_, _, _, ta, tc, c0, c1, c2, c3, c4, c5, c6, _⟩ := hel.keep kW
  refine (next1_in F m hF hro hm op a u t i n gv lv pv ev g o ic Kb Ab l ta tc (fun pre W => ∃ pa : List { z : Nat // z ∈ nextN i ⟨op, a, t, u⟩ }, pa.map (fun z => z.1) = pre ∧ J pa W) (fun _ W => ∃ pa, Jx pa W) W hi hn hto ?_ ?_ (hk.keep kW) (kW _ _ ha) c0 c1 c2 c3 c4 c5 c6 ⟨[], rfl, h0⟩).mono ?_
  · rintro s A B row ⟨pa, hp, hj⟩ hg hr
    exact ⟨pa, hp, hA pa A B row hj hg hr⟩
  · rintro pre z W1 ⟨pa, hp, hj⟩ hz hl
    have hl2 : pa.length < 2 := by rw [← hp, List.length_map] at hl; exact hl
    obtain ⟨fn, tmps, assign, body, h1, h2⟩ := hY pa ⟨z, hz⟩ W1 hj hl2
    refine ⟨fn, tmps, assign, body, h1, h2.mono ?_⟩
    rintro e W' (⟨rfl, h3, h4⟩ | ⟨rfl, h3⟩)
    · exact .inl ⟨rfl, ⟨pa ++ [⟨z, hz⟩], by rw [List.map_append, hp]; rfl, h3⟩, h4⟩
    · exact .inr ⟨rfl, _, h3⟩
  · rintro e W' ⟨hv, ⟨ys, rfl, pa, hp, hj⟩ | ⟨pre, _, pa, hj⟩⟩
    · exact ⟨hv, .inl ⟨pa, hp, hj⟩⟩
    · exact ⟨hv, .inr ⟨pa, trivial, hj⟩⟩
def markD (D : Nat) : Deferred := { target := .collected D, args := #[] }
/-- The blocks of the marks: apart, all of them from n₀ on, none of which holds a call. -/
def MarksAt (n₀ : Nat) (Ds : List Nat) (W : World) : Prop := Ds.Nodup ∧ ∀ D, D ∈ Ds → n₀ ≤ D ∧ W.heap[D]? = some (Obj.deferred (some []))
theorem MarksAt.nil (n₀ : Nat) (W : World) : MarksAt n₀ [] W := ⟨List.nodup_nil, fun D h => by cases h⟩
theorem MarksAt.lt {n₀ : Nat} {Ds : List Nat} {W : World} (h : MarksAt n₀ Ds W) {D : Nat} (hD : D ∈ Ds) : D < W.heap.size := (Array.getElem?_eq_some_iff.1 (h.2 D hD).2).1
theorem MarksAt.kept {n₀ : Nat} {Ds : List Nat} {W W' : World} {row : Option Nat} (h : MarksAt n₀ Ds W) (hg : W.grownBy W' row) (hr : ∀ r, row = some r → r ∉ Ds) : MarksAt n₀ Ds W' :=
  ⟨h.1, fun D hD => ⟨(h.2 D hD).1, (hg.block D (h.lt hD) (fun e => hr D e.symm hD)).trans (h.2 D hD).2⟩⟩
theorem MarksAt.below {n₀ : Nat} {Ds : List Nat} {W W' : World} (h : MarksAt n₀ Ds W) (hb : Below W.heap.size W W') : MarksAt n₀ Ds W' :=
  ⟨h.1, fun D hD => ⟨(h.2 D hD).1, (hb.block D (h.lt hD)).trans (h.2 D hD).2⟩⟩
theorem MarksAt.not_cells {n₀ : Nat} {Ds : List Nat} {W : World} (h : MarksAt n₀ Ds W) {r : Nat} {c : Array Value} {t : TypeId} {z : Nat × Nat} (hr : W.heap[r]? = some (Obj.cells c t z)) : r ∉ Ds := fun hD => by
  rw [(h.2 r hD).2] at hr
  cases hr
theorem MarksAt.cons {n₀ B D : Nat} {Ds : List Nat} {W : World} (h : MarksAt n₀ Ds W) (hl : ∀ D', D' ∈ Ds → D' < B) (hB : B ≤ D) (hn : n₀ ≤ D) (hD : W.heap[D]? = some (Obj.deferred (some []))) : MarksAt n₀ (D :: Ds) W :=
  ⟨List.nodup_cons.2 ⟨fun hm => by have := hl D hm; omega, h.1⟩, fun D' hD' => by
    rcases List.mem_cons.1 hD' with rfl | hm
    · exact ⟨hn, hD⟩
    · exact h.2 D' hm⟩
theorem ownFrom_marks {β : Type} {n₀ B : Nat} {Ds : List Nat} (hl : ∀ D, D ∈ Ds → D < B) : OwnFrom B (fun (_ : β) W => MarksAt n₀ Ds W) := fun _ _ _ _ hs hg hr => hs.kept hg fun r e hD => by have := (hr r e).1; have := hl r hD; omega
theorem row_block {W : World} {base : Nat} {e : TypeId} {size : Nat} {v : Value} {k : Nat} {xs : List Value} (h : W.ownsRow base e size v k xs) {r : Nat} (hr : v.ownBlock = some r) : ∃ c, W.heap[r]? = some (Obj.cells c e (0, 0)) := by
  rcases h.2 with ⟨rfl, _⟩ | ⟨g, cap, cur, rfl, _, hgb, _⟩
  · simp [Value.ownBlock] at hr
  · obtain rfl : g = r := by simpa [Value.ownBlock] using hr
    exact ⟨cur, hgb⟩
theorem MarksAt.appended {n₀ n₁ B : Nat} {Ds : List Nat} {W w1 : World} {v v' u : Value} {t : TypeId} {k : Nat} {xs : List Value} {tmp : Obj} (h : MarksAt n₁ Ds W) (hv1 : Boxed w1 B t u) (hrow : W.ownsRow n₀ 3 1 v k xs) (hg : (W.alloc tmp).grownBy w1 v.ownBlock) : MarksAt n₁ Ds (w1.setCell ⟨B, 0, none⟩ v') := by
  have h1 : MarksAt n₁ Ds w1 := by
    have h0 : MarksAt n₁ Ds (W.alloc tmp) := h.kept (World.grownBy_alloc W tmp none) (fun r e => by cases e)
    refine h0.kept hg fun r e => ?_
    obtain ⟨c, hc⟩ := row_block (hrow.alloc tmp) e
    exact h0.not_cells hc
  exact h1.kept (grownBy_setCell' w1 B v') fun r e => by cases e; exact h1.not_cells hv1
/-- A block that an append and the store of its list leave as it was. -/
theorem app_block {W w1 : World} {v v' : Value} {tmp : Obj} {B b : Nat} (hg : (W.alloc tmp).grownBy w1 v.ownBlock) (hb : b < W.heap.size) (h1 : v.ownBlock ≠ some b) (h2 : b ≠ B) : (w1.setCell ⟨B, 0, none⟩ v').heap[b]? = W.heap[b]? := by
  have e1 : w1.heap[b]? = (W.alloc tmp).heap[b]? := hg.block b (by simp; omega) (fun e => h1 e.symm)
  exact ((Below.heap_setCell _ _ _ b h2).trans e1).trans (Below.heap_alloc W tmp b hb)
theorem box5_block {W W' : World} {b : Nat} {c0 c1 c2 c3 c4 : Value} (h : Box5 W b c0 c1 c2 c3 c4) (hb : W'.heap[b]? = W.heap[b]?) : Box5 W' b c0 c1 c2 c3 c4 :=
  ⟨(World.cell?_of_block hb).trans h.1, (World.cell?_of_block hb).trans h.2.1, (World.cell?_of_block hb).trans h.2.2.1, (World.cell?_of_block hb).trans h.2.2.2.1, (World.cell?_of_block hb).trans h.2.2.2.2⟩
theorem own_size {β : Type} (n : Nat) : Go.Own (fun (_ : β) W => n ≤ W.heap.size) := fun _ _ _ _ hs hg _ => Nat.le_trans hs hg.size
/-- A call's return, its marks taken in one by one. -/
theorem leaves_marks {F : Fence} {n : Nat} {P : Program} {fn : Func} {tmps : Array Value} {R : Ending → World → Prop} {n₀ : Nat} (K : World → Prop)
    (hstep : ∀ W D, K W → n₀ ≤ D → W.heap[D]? = some (Obj.deferred (some [])) → K (W.putObj D (.deferred none))) (hend : ∀ W, K W → LeavesIn F n P fn tmps R [] .returning W) :
    ∀ (Ds : List Nat) (W : World), K W → MarksAt n₀ Ds W → LeavesInM F n P fn tmps R (Ds.map markD) .returning W
  | [], W, hk, _ => hend W hk
  | D :: Ds, W, hk, hm => by
    have hD := hm.2 D List.mem_cons_self
    have hnd := List.nodup_cons.1 hm.1
    refine ⟨by simp, .inl ⟨D, _, rfl, run_takeDeferred hD.2, ?_⟩⟩
    refine leaves_marks K hstep hend Ds _ (hstep W D hk hD.1 hD.2) ⟨hnd.2, fun D' h' => ?_⟩
    exact ⟨(hm.2 D' (List.mem_cons_of_mem _ h')).1, (World.putObj_heap_other (fun e => by subst e; exact hnd.1 h')).trans (hm.2 D' (List.mem_cons_of_mem _ h')).2⟩
theorem box5_own {β : Type} (b : Nat) (c0 c1 c2 c3 c4 : Value) : Go.Own (fun (_ : β) W => Box5 W b c0 c1 c2 c3 c4) := fun _ _ _ _ hs hg hr => ⟨cell_kept hs.1 hg hr, cell_kept hs.2.1 hg hr, cell_kept hs.2.2.1 hg hr, cell_kept hs.2.2.2.1 hg hr, cell_kept hs.2.2.2.2 hg hr⟩
theorem cell_own {β : Type} (a : Addr) (c : Value) : Go.Own (fun (_ : β) W => W.cell? a = some c) := fun _ _ _ _ hs hg hr => cell_kept hs hg hr
end Go.Proofs.Ytofmccihehalcab.Trm
/- The program's search, as values: what is left to look at, in whatever order the places come. Without conditions: no Go text is walked here. -/
namespace Go.Proofs.Ytofmccihehalcab.Trm
open Go.RowKit Go.Proofs.Ytofmccihehalcab.Own
/-- What is marked is passed by, whatever is still to be looked at. -/
theorem Srch.skipG {E : Nat → Nat → Prop} {s n c z : Nat} {met : List Bool} {op zs zs' : List Nat} (h : Srch E s n met op c zs) (hz : met[z]? = some true) (h1 : ∀ y, y ∈ zs → y = z ∨ y ∈ zs') (h2 : ∀ y, y ∈ zs' → y ∈ zs) : Srch E s n met op c zs' := by
  refine ⟨h.len, h.start, h.right, h.opn, h.small, fun hne => h.cur (fun e => ?_), fun y hy => h.edge y (h2 y hy), fun y hy => ?_⟩
  · obtain ⟨y, hy⟩ := List.exists_mem_of_ne_nil _ hne
    have := h2 y hy
    rw [e] at this
    cases this
  · rcases h.all y hy with h3 | h3
    · exact .inl h3
    · refine .inr fun z2 hz2 => ?_
      rcases h3 z2 hz2 with h4 | ⟨h5, h4⟩
      · exact .inl h4
      · rcases h1 z2 h4 with rfl | h4
        · exact .inl hz
        · exact .inr ⟨h5, h4⟩
theorem set_met {met : List Bool} {z : Nat} (hlt : z < met.length) (y : Nat) : (met.set z true)[y]? = some true ↔ y = z ∨ met[y]? = some true := by
  by_cases e : y = z
  · subst e
    simp [hlt]
  · rw [List.getElem?_set_ne (fun e2 => e e2.symm)]
    simp [e]
/-- What is not marked is marked, and open. -/
theorem Srch.hitG {E : Nat → Nat → Prop} {s n c z : Nat} {met : List Bool} {op zs zs' : List Nat} (h : Srch E s n met op c zs) (hc : c = s ∨ met[c]? = some true) (he : E c z) (hzn : z < n) (h1 : ∀ y, y ∈ zs → y = z ∨ y ∈ zs') (h2 : ∀ y, y ∈ zs' → y ∈ zs) : Srch E s n (met.set z true) (op ++ [z]) c zs' := by
  have hlt : z < met.length := by rw [h.len]; exact hzn
  have hset := set_met hlt
  have hr : Rch E s z := by
    rcases hc with rfl | h2
    · exact .one he
    · exact .more (h.right _ h2) he
  refine ⟨by rw [List.length_set]; exact h.len, h.start, fun y hy => ?_, fun y hy => ?_, fun y hy => ?_, fun _ => ?_, fun y hy => h.edge y (h2 y hy), fun y hy => ?_⟩
  · rcases (hset y).1 hy with rfl | hy
    · exact hr
    · exact h.right y hy
  · rcases List.mem_append.1 hy with hy | hy
    · rcases h.opn y hy with h2 | h2
      · exact .inl h2
      · exact .inr ((hset y).2 (.inr h2))
    · rw [List.mem_singleton] at hy
      exact .inr ((hset y).2 (.inl hy))
  · rcases List.mem_append.1 hy with hy | hy
    · exact h.small y hy
    · rw [List.mem_singleton] at hy; rw [hy]; exact hzn
  · rcases hc with h2 | h2
    · exact .inl h2
    · exact .inr ((hset _).2 (.inr h2))
  · by_cases e : y = z
    · exact .inl (by rw [e]; simp)
    · have hy2 : y = s ∨ met[y]? = some true := by
        rcases hy with hy | hy
        · exact .inl hy
        · rcases (hset y).1 hy with h2 | h2
          · exact absurd h2 e
          · exact .inr h2
      rcases h.all y hy2 with h3 | h3
      · exact .inl (List.mem_append_left _ h3)
      · refine .inr fun z2 hz2 => ?_
        rcases h3 z2 hz2 with h4 | ⟨h5, h4⟩
        · exact .inl ((hset z2).2 (.inr h4))
        · rcases h1 z2 h4 with rfl | h4
          · exact .inl ((hset _).2 (.inl rfl))
          · exact .inr ⟨h5, h4⟩
/-- Those that have not come. -/
def restN (zs pre : List Nat) : List Nat := zs.filter fun z => !pre.contains z
theorem restN_nil (zs : List Nat) : restN zs [] = zs := by simp [restN]
theorem restN_done (zs : List Nat) : restN zs zs = [] := by
  unfold restN
  rw [List.filter_eq_nil_iff]
  intro z hz
  simp [hz]
theorem restN_step (zs pre : List Nat) (x : Nat) : (∀ y, y ∈ restN zs pre → y = x ∨ y ∈ restN zs (pre ++ [x])) ∧ (∀ y, y ∈ restN zs (pre ++ [x]) → y ∈ restN zs pre) := by
  constructor
  · intro y hy
    unfold restN at hy ⊢
    simp only [List.mem_filter, Bool.not_eq_true', List.contains_eq_mem, decide_eq_false_iff_not, List.mem_append, List.mem_singleton] at hy ⊢
    by_cases e : y = x
    · exact .inl e
    · exact .inr ⟨hy.1, fun h => by rcases h with h | h; exact hy.2 h; exact e h⟩
  · intro y hy
    unfold restN at hy ⊢
    simp only [List.mem_filter, Bool.not_eq_true', List.contains_eq_mem, decide_eq_false_iff_not, List.mem_append, List.mem_singleton] at hy ⊢
    exact ⟨hy.1, fun h => hy.2 (.inl h)⟩
/-- How many truth values of a block are false. -/
def isF : Value → Bool
  | .bool b => !b
  | _ => false
def noF (l : List Value) : Nat := (l.filter isF).length
theorem noF_bool : ∀ bs : List Bool, noF (bs.map Value.bool) = unm bs
  | [] => rfl
  | b :: r => by
    have ih := noF_bool r
    unfold noF at ih ⊢
    rw [List.map_cons, unm]
    cases b with
    | true => rw [List.filter_cons_of_neg (by simp [isF]), ih]; simp
    | false => rw [List.filter_cons_of_pos (by simp [isF]), List.length_cons, ih]; simp; omega
/-- What is still to be done of a search, told by the memory: the places that are not marked, and those that are open. -/
def leftW (mb tb : Nat) (W : World) : Nat := (match W.heap[mb]? with | some (Obj.cells c _ _) => noF c.toList | _ => 0) + (match W.cell? ⟨tb, 0, none⟩ with | some (.slice _ k _) => k | _ => 0)
theorem leftW_eq {W : World} {mb tb base n : Nat} {bs : List Bool} {a : Option Addr} {k c : Nat} (h : W.ownsRow base 4 1 (.slice (some ⟨mb, 0, none⟩) n n) n (bs.map Value.bool)) (ht : W.cell? ⟨tb, 0, none⟩ = some (.slice a k c)) : leftW mb tb W = unm bs + k := by
  rcases h.2 with ⟨e, _⟩ | ⟨g, cap, cur, e, _, hgb, _, _, hsz, hcur⟩
  · cases e
  · have e2 := e
    simp at e2
    obtain ⟨rfl, rfl⟩ := e2
    unfold leftW
    rw [hgb, ht]
    have h3 : cur.toList = bs.map Value.bool := by
      have h4 : cur.toList.length = n * 1 := by rw [Array.length_toList]; exact hsz
      rw [← h4, List.take_length] at hcur
      exact hcur
    show noF cur.toList + k = _
    rw [h3, noF_bool]
end Go.Proofs.Ytofmccihehalcab.Trm
/- The program's search: which places one comes to, walked. Conditions: the code lies in memory and is right; the place is there. -/
namespace Go.Proofs.Ytofmccihehalcab.Trm
open Go.RowKit Go.Proofs.Ytofmccihehalcab.Own Go.Shelf
attribute [local go_sem] Oper.semAt_some
theorem boxed_nc {W W' : World} {row : Option Nat} {B : Nat} {t : TypeId} {v : Value} (h : Boxed W B t v) (hg : W.grownBy W' row) (hr : ∀ r, row = some r → ∃ o : Obj, W.heap[r]? = some o ∧ o.isCells = false) : Boxed W' B t v :=
  h.kept hg (fun e => by obtain ⟨o, ho, hc⟩ := hr B e.symm; rw [show W.heap[B]? = _ from h] at ho; cases ho; cases hc)
theorem row_nc {W W' : World} {row : Option Nat} {base : Nat} {e : TypeId} {size : Nat} {v : Value} {k : Nat} {xs : List Value} (h : W.ownsRow base e size v k xs) (hg : W.grownBy W' row) (hr : ∀ r, row = some r → ∃ o : Obj, W.heap[r]? = some o ∧ o.isCells = false) : W'.ownsRow base e size v k xs :=
  row_same h fun b hb => hg.block b (h.lt b hb).2 fun e1 => by
    obtain ⟨o, ho, hc⟩ := hr b e1.symm
    obtain ⟨c, hcc⟩ := row_block h hb
    rw [hcc] at ho
    cases ho
    cases hc
/-- The front of a row that a call owns. -/
theorem row_front {W : World} {base : Nat} {e : TypeId} {g n c m : Nat} {xs : List Value} (h : W.ownsRow base e 1 (.slice (some ⟨g, 0, none⟩) n c) n xs) (hm : m ≤ n) : W.ownsRow base e 1 (.slice (some ⟨g, 0, none⟩) m c) m (xs.take m) := by
  have hl := h.1
  rcases h.2 with ⟨e1, _⟩ | ⟨g2, cap, cur, e1, hb, hgb, h1, h2, h3, h4⟩
  · cases e1
  · have e2 := e1
    simp at e2
    obtain ⟨rfl, rfl⟩ := e2
    refine ⟨by rw [List.length_take]; omega, .inr ⟨g, c, cur, rfl, hb, hgb, by omega, h2, h3, ?_⟩⟩
    rw [← h4, List.take_take]
    congr 1
    omega
theorem cell_one_set (W : World) (a : Addr) (v x : Value) (t : TypeId) : ∀ j u, [x][j]? = some u → ((W.setCell a v).alloc (.cells #[x] t)).cell? ((⟨W.heap.size, 0, none⟩ : Addr).add j) = some u := by
  have h := cell_one_new (W.setCell a v) x t
  have hs : (W.setCell a v).heap.size = W.heap.size := by simp
  rw [hs] at h
  exact h
/-- A row that is made at its full length, inside a fence. -/
theorem makeFullIn {F : Fence} {n : Nat} {P : Program} (w : World) {ops : Array Oper} {rest : List Oper} {o : Oper} {a : Act} {Q : Exit → Act → World → Prop}
    (hg : o.guard = none) (l c : Operand) (t : TypeId) (hop : o.op = Op.makeSlice t l c)
    (base : Nat) (e : TypeId) (i : TypeInfo) (z : Value) (size : Nat) (h1 : P.underlying t = some (.slice e)) (h2 : P.info? e = some i) (h3 : i.zero = some z) (h4 : i.size = size)
    (m : Nat) (hl : a.eval l = .int .i64 (m : Int)) (hc : a.eval c = .int .i64 (m : Int)) (b2 : i.bytes * m ≤ 281474976710656) (b3 : m ≤ maxLen) (b4 : base ≤ w.heap.size)
    (hK : ∀ w', w'.ownsRow base e size (.slice (some ⟨w.heap.size, 0, none⟩) m m) m (madeCells z.cells (m * size)).toList → w.grownBy w' none → wpListIn F n P ops Q rest (a.put o.dst (.slice (some ⟨w.heap.size, 0, none⟩) m m)) w') :
    wpListIn F n P ops Q (o :: rest) a w := by
  refine wpListIn_plain hg fun K hK' => ?_
  obtain ⟨w', hrun, r1, r2⟩ := run_make_full (P := P) w base t e i z size h1 h2 h3 h4 .i64 .i64 m b2 b3 b4
  unfold Oper.wpIn
  refine ⟨?_, ?_⟩
  · simp [Oper.about, hop]
  · rw [Oper.semAt_plain F _ _ (by rw [hop]; intro c hc'; cases hc')]
    simp [execOp, hop, hl, hc, hrun, Result.andThen]
    exact hK' _ _ (hK w' r1 r2)
/-- What a search asks of a function that tells what comes next: for each place, in whatever memory has grown out of this one, an iterator over these places, which keeps the code's instructions. -/
def NextsBy (v fv : Value) (nx : Nat → List Nat) (n : Nat) (w : World) : Prop := ∃ (F : Nat) (bd : Array Value), fv = .func (.func F) #[] bd ∧ (∀ args W, (callFunc F args).run Try.prog W = .ok (.enter F args) W) ∧ ∀ y, y < n → ∀ wx, Below w.heap.size w wx →
  CallsIn Fence.wide 5 Try.prog F (#[v, .int .i64 (y : Int)] ++ bd) wx fun e w' => ∃ (gf : Nat) (lb : Array Value) (Ab : Nat), e = .returned (.func (.func gf) #[] lb) ∧ Below wx.heap.size wx w' ∧ wx.heap.size ≤ Ab ∧ Ab < w'.heap.size ∧ (∀ args W, (callFunc gf args).run Try.prog W = .ok (.enter gf args) W) ∧
    SeqStopsK Fence.wide 5 Try.prog gf lb (fun x : { z : Nat // z ∈ nx y } => #[Value.int .i64 ((x.1 : Nat) : Int)]) (KpN Ab) (fun ys => ys.map (fun z => z.1) = nx y) (fun _ => True) 2 w'
/-- The places that one comes to. -/
def srE (nx : Nat → List Nat) (n i j : Nat) : Prop := i < n ∧ j ∈ nx i
open Classical in
noncomputable def reachG (nx : Nat → List Nat) (n s : Nat) : List Bool := (List.range n).map fun y => decide (Rch (srE nx n) s y)
theorem reachG_length (nx : Nat → List Nat) (n s : Nat) : (reachG nx n s).length = n := by unfold reachG; simp
theorem reachG_at (nx : Nat → List Nat) (n s y : Nat) : (reachG nx n s)[y]? = some true ↔ y < n ∧ Rch (srE nx n) s y := by
  unfold reachG
  rw [List.getElem?_map]
  by_cases h : y < n
  · rw [List.getElem?_range h]
    simp [h]
  · rw [List.getElem?_eq_none (by simpa using h)]
    simp [h]
theorem Srch.reachG {nx : Nat → List Nat} {n s c : Nat} {met : List Bool} (h : Srch (srE nx n) s n met [] c []) : met = reachG nx n s := by
  refine bools_ext (by rw [h.len, reachG_length]) fun y => ?_
  rw [h.done, reachG_at]
  constructor
  · intro hr
    have h1 := (h.done y).2 hr
    have := (List.getElem?_eq_some_iff.1 h1).1
    rw [h.len] at this
    exact ⟨this, hr⟩
  · exact fun hr => hr.2
set_option maxRecDepth 100000 in
set_option maxHeartbeats 8000000 in
theorem implReachBy_any (x : KTree) (nx : Nat → List Nat) (s : Nat) (v fv : Value) (w : World) (hl : KIn w x v) (hk : okK x = true) (hs : s < x.ins.length) (hlt : ∀ y, y < x.ins.length → ∀ z, z ∈ nx y → z < x.ins.length)
    (hnx : ∀ wx, Below w.heap.size w wx → NextsBy v fv nx x.ins.length wx) :
    Calls Try.prog 56 #[v, .int .i64 (s : Int), fv] w (ListB (reachG nx x.ins.length s) w) := by
  obtain ⟨i0, hi0, iz0, iz1, iz2⟩ := info_parts infoIntL
  obtain ⟨j0, hj0, jz0, jz1, jz2⟩ := info_parts infoBoolL
  obtain ⟨ga, gc, la, lc, pa, pc, ea, ec, ia, ic, rfl, h1, h2, h3, h4, h5, _⟩ := hl
  obtain ⟨n, hn⟩ : ∃ n, n = x.ins.length := ⟨_, rfl⟩
  obtain ⟨g, o, rfl, _⟩ := atIns rfl h5 hs
  obtain ⟨F, bd, rfl, eF, hNX⟩ := hnx w (Below.refl _ _)
  have HNX := Lib.hid hNX
  have HLT := Lib.hid hlt
  have hn15 : n ≤ 1500 := by rw [hn]; exact okK_len hk
  rw [← hn] at hs h5 HNX HLT ⊢
  have HN := Lib.hid hn
  have HK := Lib.hid hk
  have X0 := Lib.hid (Box5.new w (.slice ga x.globals.length gc) (.slice la x.locks.length lc) (.slice pa x.procs.length pc) (.slice ea x.entry.length ec) (.slice (some ⟨g, o, none⟩) n ic) 31)
  have B0 := Lib.hid ((Below.refl w.heap.size w).alloc (Nat.le_refl _) (.cells #[.slice ga x.globals.length gc, .slice la x.locks.length lc, .slice pa x.procs.length pc, .slice ea x.entry.length ec, .slice (some ⟨g, o, none⟩) n ic] 31))
  have HRL := Lib.hid (reachG_length nx n s)
  clear h1 h2 h3 h4 h5 hk hn hlt hnx hNX
  obtain ⟨p0, p1, p2, p3, p4⟩ := X0.out
  refine (callsIn_wide (n := 6)).1 ?_
  refine callsIn_of_wp_marks Try.func56 rfl trivial ?_ rfl
  simp only [Try.ntmps56, List.size_toArray, List.length_cons, List.length_nil, Nat.reduceAdd, Nat.reduceSub, Array.replicate_succ, Array.replicate_zero, List.push_toArray, List.append_toArray, List.nil_append, List.cons_append]
  gi_wp2_with (gi_at_make; refine makeFullIn _ rfl (.tmp 14) (.tmp 14) 44 rfl (w.heap.size + 1) 4 j0 _ 1 Try.underlying44 hj0 jz0 jz1 n rfl rfl (by rw [jz2]; omega) (by unfold maxLen; omega) (by simp) ?_)
  intro w1 hown hg
  rw [boolV_made] at hown
  have hs1 : w.heap.size + 1 < w1.heap.size := (hown.lt (w.heap.size + 1) rfl).2
  have B1 := B0.out.grown hg B0.out.size (fun b hb => by cases hb)
  have X1 := X0.out.keep (keeps_below (below_none hg))
  have M4 : Hid ((((w1.alloc (.cells #[.slice (some ⟨w.heap.size + 1, 0, none⟩) n n] 44)).alloc (.cells #[.int .i64 (s : Int)] 3)).alloc (.cells #[.slice (some ⟨w1.heap.size + 1, 0, none⟩) 1 1] 23)).ownsRow (w.heap.size + 1) 4 1 (.slice (some ⟨w.heap.size + 1, 0, none⟩) n n) n (boolV (List.replicate n false))) := ((hown.alloc _).alloc _).alloc _
  have R4 : Hid (Boxed (((w1.alloc (.cells #[.slice (some ⟨w.heap.size + 1, 0, none⟩) n n] 44)).alloc (.cells #[.int .i64 (s : Int)] 3)).alloc (.cells #[.slice (some ⟨w1.heap.size + 1, 0, none⟩) 1 1] 23)) w1.heap.size 44 (.slice (some ⟨w.heap.size + 1, 0, none⟩) n n)) := ((Boxed.new w1 44 (.slice (some ⟨w.heap.size + 1, 0, none⟩) n n)).alloc _).alloc _
  have L4 : Hid ((((w1.alloc (.cells #[.slice (some ⟨w.heap.size + 1, 0, none⟩) n n] 44)).alloc (.cells #[.int .i64 (s : Int)] 3)).alloc (.cells #[.slice (some ⟨w1.heap.size + 1, 0, none⟩) 1 1] 23)).ownsRow (w1.heap.size + 1) 3 1 (.slice (some ⟨w1.heap.size + 1, 0, none⟩) 1 1) [s].length (intV (upI [s]))) := by
    have h := (litI1 (w1.alloc (.cells #[.slice (some ⟨w.heap.size + 1, 0, none⟩) n n] 44)) (s : Int)).alloc (.cells #[.slice (some ⟨w1.heap.size + 1, 0, none⟩) 1 1] 23)
    rw [World.size_alloc] at h
    exact h
  have T4 : Hid (Boxed (((w1.alloc (.cells #[.slice (some ⟨w.heap.size + 1, 0, none⟩) n n] 44)).alloc (.cells #[.int .i64 (s : Int)] 3)).alloc (.cells #[.slice (some ⟨w1.heap.size + 1, 0, none⟩) 1 1] 23)) (w1.heap.size + 1 + 1) 23 (.slice (some ⟨w1.heap.size + 1, 0, none⟩) 1 1)) := by
    have h := Boxed.new ((w1.alloc (.cells #[.slice (some ⟨w.heap.size + 1, 0, none⟩) n n] 44)).alloc (.cells #[.int .i64 (s : Int)] 3)) 23 (.slice (some ⟨w1.heap.size + 1, 0, none⟩) 1 1)
    rw [World.size_alloc, World.size_alloc] at h
    exact h
  have X4 : Hid (Box5 (((w1.alloc (.cells #[.slice (some ⟨w.heap.size + 1, 0, none⟩) n n] 44)).alloc (.cells #[.int .i64 (s : Int)] 3)).alloc (.cells #[.slice (some ⟨w1.heap.size + 1, 0, none⟩) 1 1] 23)) w.heap.size (.slice ga x.globals.length gc) (.slice la x.locks.length lc) (.slice pa x.procs.length pc) (.slice ea x.entry.length ec) (.slice (some ⟨g, o, none⟩) n ic)) := X1.keep (((keeps_alloc _ _).trans (keeps_alloc _ _)).trans (keeps_alloc _ _))
  have B4 : Hid (Below w.heap.size w (((w1.alloc (.cells #[.slice (some ⟨w.heap.size + 1, 0, none⟩) n n] 44)).alloc (.cells #[.int .i64 (s : Int)] 3)).alloc (.cells #[.slice (some ⟨w1.heap.size + 1, 0, none⟩) 1 1] 23))) := ((B1.alloc B1.size _).alloc (by simp; omega) _).alloc (by simp; omega) _
  have key0 : ∀ m, unm (List.replicate m false) = m := fun m => by
    induction m with
    | zero => rfl
    | succ m ih => rw [List.replicate_succ, unm, ih]; simp; omega
  clear hown hg B1 X1 p0 p1 p2 p3 p4
  gi_wp2
  refine wpIn_loop (fun a' w' => ∃ (Ds todo : List Nat) (met : List Bool) (c : Nat) (tv u7 u8 u16 u17 u18 u19 u20 u21 u22 u23 u24 u25 u26 u27 u28 u29 u30 u31 u32 : Value), a' = { tmps := #[(.agg #[.slice ga x.globals.length gc, .slice la x.locks.length lc, .slice pa x.procs.length pc, .slice ea x.entry.length ec, .slice (some ⟨g, o, none⟩) n ic]), .int .i64 (s : Int), .func (.func F) #[] bd, .pointer (some ⟨w.heap.size, 0, none⟩), undef, undef, .slice none 0 0, .pointer (some ⟨w1.heap.size, 0, none⟩), .pointer (some ⟨w1.heap.size + 1 + 1, 0, none⟩), u7, u8, undef, .pointer (some ⟨w.heap.size, 4, none⟩), .slice (some ⟨g, o, none⟩) n ic, .int .i64 (n : Int), (.slice (some ⟨w.heap.size + 1, 0, none⟩) n n), .int .i64 (s : Int), .slice (some ⟨w1.heap.size + 1, 0, none⟩) 1 1, u16, u17, u18, u19, u20, u21, u22, u23, u24, u25, u26, u27, u28, u29, u30, u31, u32, undef, undef, undef, undef, undef, undef, undef, undef, undef, undef, undef, undef, undef, undef], defers := Ds.map markD } ∧ Hid (Srch (srE nx n) s n met todo c []) ∧ unm met + todo.length ≤ n + 1 ∧ Hid (Boxed w' w1.heap.size 44 (.slice (some ⟨w.heap.size + 1, 0, none⟩) n n)) ∧ Hid (w'.ownsRow (w.heap.size + 1) 4 1 (.slice (some ⟨w.heap.size + 1, 0, none⟩) n n) n (boolV met)) ∧ Hid (Boxed w' (w1.heap.size + 1 + 1) 23 tv) ∧ Hid (w'.ownsRow (w1.heap.size + 1) 3 1 tv todo.length (intV (upI todo))) ∧ Hid (Box5 w' w.heap.size (.slice ga x.globals.length gc) (.slice la x.locks.length lc) (.slice pa x.procs.length pc) (.slice ea x.entry.length ec) (.slice (some ⟨g, o, none⟩) n ic)) ∧ Hid (MarksAt (w1.heap.size + 1) Ds w') ∧ Hid (Below w.heap.size w w'))
    (fun _ w' => leftW (w.heap.size + 1) (w1.heap.size + 1 + 1) w') ?_ ?_
  · exact ⟨[], [s], List.replicate n false, 0, _, _, _, _, _, _, _, _, _, _, _, _, _, _, _, _, _, _, _, _, rfl, Srch.begin hs, by rw [key0]; simp, R4.out, M4.out, T4.out, L4.out, X4.out, MarksAt.nil _ _, B4.out⟩
  · rintro a' wr ⟨Ds, todo, met, c, tv, u7, u8, u16, u17, u18, u19, u20, u21, u22, u23, u24, u25, u26, u27, u28, u29, u30, u31, u32, rfl, hsr, hum, hbR, hmr, hbT, htr, hk5, hmk, hbe⟩
    have hwr : w1.heap.size + 1 + 1 < wr.heap.size := hbT.out.lt
    rcases List.eq_nil_or_concat todo with rfl | ⟨td, y, rfl⟩
    · obtain ⟨va, vc, rfl, _⟩ := row_shape htr.out
      have c6 := hbT.out.cell
      have cR := hbR.out.cell
      have HM : Hid (met = reachG nx n s) := hsr.out.reachG
      have hml := boolV_len hmr.out
      gi_wp2
      refine leaves_marks (fun W => W.ownsRow w.heap.size 4 1 (.slice (some ⟨w.heap.size + 1, 0, none⟩) n n) n (boolV met) ∧ Below w.heap.size w W) ?_ ?_ Ds wr ⟨hmr.out.mono (by omega), hbe.out⟩ hmk.out
      · rintro W D ⟨h6, h7⟩ hD hK
        exact ⟨ownsRow_putObj h6 _ hK rfl, h7.trans (belowK_b (w := w) (Nat.le_refl _) W D _ _ (by omega) hK rfl rfl)⟩
      · rintro W ⟨h6, h7⟩
        exact ⟨_, results_tmp rfl _ _ _, _, rfl, by rw [← HM.out, hml]; exact h6, h7⟩
    · rw [List.concat_eq_append] at *
      have htr2 := htr.out
      rw [List.length_append, List.length_singleton] at htr2
      obtain ⟨tg, tc, rfl⟩ := ownsRow_succ htr2
      have q0 := natCell htr2 td.length (by rw [List.length_append]; exact Nat.lt_succ_self _)
      have q1 : (td ++ [y])[td.length]'(by rw [List.length_append]; exact Nat.lt_succ_self _) = y := by simp
      rw [q1] at q0
      have htl : td.length ≤ 1500 := by rw [List.length_append, List.length_singleton] at hum; omega
      have htc : td.length + 1 ≤ tc := cap_le htr2
      have c6 := hbT.out.cell
      have f6 := hbT.out.frozen
      obtain ⟨p0, p1, p2, p3, p4⟩ := hk5.out
      gi_wp2_with fail
      have hsm : y < n := hsr.out.small y (by simp)
      have HT : Hid (Srch (srE nx n) s n met td y (nx y)) := by
        refine hsr.out.take (by simp) (fun z hz => ?_) (fun z hz => List.mem_append_left _ hz) (fun z => ⟨fun ⟨_, h2⟩ => h2, fun h2 => ⟨hsm, h2⟩⟩) (fun z hz => HLT.out y hsm z hz)
        rcases List.mem_append.1 hz with h | h
        · exact .inr h
        · exact .inl (List.mem_singleton.1 h)
      have HCY := Lib.hid (hsr.out.opn y (by simp))
      have gA := grownBy_setCell' wr (w1.heap.size + 1 + 1) (.slice (some ⟨tg, 0, none⟩) td.length tc)
      have hsA : (wr.setCell ⟨w1.heap.size + 1 + 1, 0, none⟩ (.slice (some ⟨tg, 0, none⟩) td.length tc)).heap.size = wr.heap.size := by simp
      have hnt : some (w1.heap.size + 1 + 1) ≠ (Value.slice (some ⟨tg, 0, none⟩) (td.length + 1) tc).ownBlock := hbT.out.not_row (by decide) htr2
      have RA := Lib.hid (hbR.out.other (B' := w1.heap.size + 1 + 1) (by omega) (.slice (some ⟨tg, 0, none⟩) td.length tc))
      have MA := Lib.hid (hmr.out.kept gA (.inr (fun e => by
        have h2 : w.heap.size + 1 = w1.heap.size + 1 + 1 := by simpa [Value.ownBlock] using e
        omega)))
      have TA := Lib.hid (hbT.out.set (.slice (some ⟨tg, 0, none⟩) td.length tc))
      have LA : Hid ((wr.setCell ⟨w1.heap.size + 1 + 1, 0, none⟩ (.slice (some ⟨tg, 0, none⟩) td.length tc)).ownsRow (w1.heap.size + 1) 3 1 (.slice (some ⟨tg, 0, none⟩) td.length tc) td.length (intV (upI td))) := by
        have h2 := (row_front htr2 (Nat.le_succ td.length)).kept gA (.inr (fun e => hnt e.symm))
        have h3 : (intV (upI (td ++ [y]))).take td.length = intV (upI td) := by simp [intV, upI]
        rw [h3] at h2
        exact h2
      have XA := Lib.hid (box5_other hk5.out gA (fun e => by injection e with e; omega))
      have KA := Lib.hid (hmk.out.kept gA (fun r e => by cases e; exact hmk.out.not_cells hbT.out))
      have BA : Hid (Below w.heap.size w (wr.setCell ⟨w1.heap.size + 1 + 1, 0, none⟩ (.slice (some ⟨tg, 0, none⟩) td.length tc))) := hbe.out.setCell (by show w.heap.size ≤ w1.heap.size + 1 + 1; omega) _
      have CN := HNX.out y hsm _ BA
      refine ⟨trivial, CN.mono ?_⟩
      rintro e w3 ⟨gf, lb, Ab, rfl, hb3, hA1, hA2, eg, hSq⟩
      clear CN
      have X5 := Lib.hid (XA.out.keep (keeps_below hb3))
      have R5 : Hid (Boxed w3 w1.heap.size 44 (.slice (some ⟨w.heap.size + 1, 0, none⟩) n n)) := (hb3.block _ RA.out.lt).trans RA.out
      have M5 := Lib.hid (row_below MA.out hb3)
      have T5 : Hid (Boxed w3 (w1.heap.size + 1 + 1) 23 (.slice (some ⟨tg, 0, none⟩) td.length tc)) := (hb3.block _ TA.out.lt).trans TA.out
      have L5 := Lib.hid (row_below LA.out hb3)
      have K5 := Lib.hid (KA.out.below hb3)
      have B5 := Lib.hid (BA.out.trans (hb3.mono BA.out.size))
      rw [hsA] at hA1
      have S5 := Lib.hid hSq
      have htg : tg < wr.heap.size := (htr2.lt tg rfl).2
      have HZN : Hid (∀ z, z ∈ nx y → z < n) := HLT.out y hsm
      clear hb3 hSq p0 p1 p2 p3 p4 q0 q1 c6 f6 gA hnt
      gi_wp2
      refine wpIn_rangeFunc_ownG rfl (by omega) (gf := gf) (lb := lb) rfl trivial eg
        S5.out (fun h k => h.trans k) (KpN.put (by omega)) (Below.refl _ _) (fun _ => rfl)
        (fun pre W => (∃ (met' : List Bool) (todo' : List Nat) (tv' : Value), (Srch (srE nx n) s n met' todo' y (restN (nx y) (pre.map (fun z => z.1))) ∧ (y = s ∨ met'[y]? = some true) ∧ unm met' + todo'.length = unm met + td.length) ∧ Boxed W w1.heap.size 44 (.slice (some ⟨w.heap.size + 1, 0, none⟩) n n) ∧ W.ownsRow (w.heap.size + 1) 4 1 (.slice (some ⟨w.heap.size + 1, 0, none⟩) n n) n (boolV met') ∧ Boxed W (w1.heap.size + 1 + 1) 23 tv' ∧ W.ownsRow (w1.heap.size + 1) 3 1 tv' todo'.length (intV (upI todo')) ∧ (∀ b, tv'.ownBlock = some b → b ≠ Ab)) ∧ (Box5 W w.heap.size (.slice ga x.globals.length gc) (.slice la x.locks.length lc) (.slice pa x.procs.length pc) (.slice ea x.entry.length ec) (.slice (some ⟨g, o, none⟩) n ic) ∧ (MarksAt (w1.heap.size + 1) Ds W ∧ (w3.heap.size ≤ W.heap.size ∧ Below w.heap.size w W))))
        (fun _ _ _ => False)
        (OwnFrom.and (Go.Own.from (fun pre A B row ⟨m1, t1, v1, hp, h1, h2, h3, h4, h5⟩ hg hr => ⟨m1, t1, v1, hp, boxed_nc h1 hg hr, row_nc h2 hg hr, boxed_nc h3 hg hr, row_nc h4 hg hr, h5⟩) _) (OwnFrom.and (Go.Own.from (box5_own _ _ _ _ _ _) _) (OwnFrom.and (ownFrom_marks (fun D hD => K5.out.lt hD)) (OwnFrom.and (Go.Own.from (own_size _) _) (ownFrom_below (Nat.le_refl _) B5.out.size)))))
        (fun _ _ _ _ _ hs _ _ => hs)
        ⟨⟨met, td, _, ⟨by rw [List.map_nil, restN_nil]; exact HT.out, HCY.out, rfl⟩, R5.out, M5.out, T5.out, L5.out, fun b hb => by
          have h2 : tg = b := by simpa [Value.ownBlock] using hb
          omega⟩, X5.out, K5.out, Nat.le_refl _, B5.out⟩
        (fun q => { tmps := #[(.agg #[.slice ga x.globals.length gc, .slice la x.locks.length lc, .slice pa x.procs.length pc, .slice ea x.entry.length ec, .slice (some ⟨g, o, none⟩) n ic]), .int .i64 (s : Int), .func (.func F) #[] bd, .pointer (some ⟨w.heap.size, 0, none⟩), undef, undef, .slice none 0 0, .pointer (some ⟨w1.heap.size, 0, none⟩), .pointer (some ⟨w1.heap.size + 1 + 1, 0, none⟩), .int .i64 (td.length : Int), .int .i64 (y : Int), .int .i64 ((q.1 : Nat) : Int), .pointer (some ⟨w.heap.size, 4, none⟩), .slice (some ⟨g, o, none⟩) n ic, .int .i64 (n : Int), (.slice (some ⟨w.heap.size + 1, 0, none⟩) n n), .int .i64 (s : Int), .slice (some ⟨w1.heap.size + 1, 0, none⟩) 1 1, .slice (some ⟨tg, 0, none⟩) (td.length + 1) tc, .int .i64 ((td.length : Int) + 1), .bool true, .slice (some ⟨tg, 0, none⟩) (td.length + 1) tc, .int .i64 ((td.length : Int) + 1), .int .i64 (td.length : Int), .slice (some ⟨tg, 0, none⟩) (td.length + 1) tc, .int .i64 (td.length : Int), .pointer (some ⟨tg, td.length, none⟩), .int .i64 (y : Int), .slice (some ⟨tg, 0, none⟩) (td.length + 1) tc, .int .i64 (td.length : Int), .slice (some ⟨tg, 0, none⟩) td.length tc, .func (.func F) #[] bd, (.agg #[.slice ga x.globals.length gc, .slice la x.locks.length lc, .slice pa x.procs.length pc, .slice ea x.entry.length ec, .slice (some ⟨g, o, none⟩) n ic]), .int .i64 (y : Int), (.func (.func gf) #[] lb), .int .i64 ((q.1 : Nat) : Int), undef, undef, undef, undef, undef, undef, undef, undef, undef, undef, undef, undef, undef], defers := [] }) ?assign ?body ?done ?stop
      case assign =>
        intro l q W K hK
        gi_wp2
        exact hK
      case body =>
        rintro l pre ⟨z, hzm⟩ W ⟨⟨met', todo', tv', ⟨hs', hc', hu'⟩, hR, hM, hT, hL, hd⟩, hX, hMk, hS, hB⟩ hlt3
        have hzn := HZN.out z hzm
        have hE : srE nx n y z := ⟨hsm, hzm⟩
        have hzl : z < met'.length := by rw [hs'.len]; exact hzn
        have cR := hR.cell
        have c1 := boolV_cell hM z hzl
        have hRw : w1.heap.size < W.heap.size := hR.lt
        have hTw : w1.heap.size + 1 + 1 < W.heap.size := hT.lt
        have hmap : (pre ++ [(⟨z, hzm⟩ : { z : Nat // z ∈ nx y })]).map (fun z => z.1) = pre.map (fun z => z.1) ++ [z] := by simp
        have hrs := restN_step (nx y) (pre.map (fun z => z.1)) z
        obtain ⟨bz, hbz⟩ : ∃ b, met'[z] = b := ⟨_, rfl⟩
        rw [hbz] at c1
        have hbz2 : met'[z]? = some bz := by rw [List.getElem?_eq_getElem hzl, hbz]
        have hul := unm_le met
        have htl2 : todo'.length ≤ 3100 := by have := hs'.len; have := HT.out.len; omega
        clear hbz
        cases bz with
        | true =>
          gi_wp2
          exact ⟨KeepsFrom.refl _ _, KpN.refl _ _, ⟨met', todo', tv', ⟨by rw [hmap]; exact hs'.skipG hbz2 hrs.1 hrs.2, hc', hu'⟩, hR, hM, hT, hL, hd⟩, hX, hMk, hS, hB⟩
        | false =>
          have hs6 := hs'.hitG hc' hE hzn hrs.1 hrs.2
          have hc6 : y = s ∨ (met'.set z true)[y]? = some true := by
            rcases hc' with h | h
            · exact .inl h
            · exact .inr ((set_met hzl y).2 (.inr h))
          have hu6 : unm (met'.set z true) + (todo' ++ [z]).length = unm met + td.length := by
            have h2 := unm_set hzl (by rw [hbz2]; simp)
            rw [List.length_append, List.length_singleton]
            omega
          have f1 := hM.frozenAt z
          obtain ⟨m6, g6⟩ := boolV_set hM z true
          have hs66 : (W.setCell ⟨w.heap.size + 1, z, none⟩ (.bool true)).heap.size = W.heap.size := by simp
          have T6 := hT.kept g6 (by intro e; injection e with e; omega)
          have hnl : tv'.ownBlock ≠ some (w.heap.size + 1) := fun e => by have := (hL.lt _ e).1; omega
          have L6 := hL.kept g6 (.inr hnl)
          have cT := T6.cell
          have Mk6 := hMk.kept g6 (fun r e => by
            cases e
            obtain ⟨c9, hc9⟩ := row_block hM (r := w.heap.size + 1) rfl
            exact hMk.not_cells hc9)
          have k6 : KpN Ab W (W.setCell ⟨w.heap.size + 1, z, none⟩ (.bool true)) := KpN.grown (by omega) g6 (fun r e => by
            cases e
            refine ⟨by omega, fun c9 h9 => ?_⟩
            obtain ⟨c8, hc8⟩ := row_block hM (r := w.heap.size + 1) rfl
            rw [hc8] at h9
            exact absurd (Obj.cells.inj (Option.some.inj h9)).2.1 (by decide))
          gi_wp2_with (gi_at_builtin; refine wpListIn_append_own_at _ rfl _ _ 23 rfl (w1.heap.size + 1) 3 i0 (.int .i64 0) 1 8 Try.underlying23 hi0 iz0 iz1 iz2 rfl (by decide) _ _ _ rfl (L6.alloc _) ⟨W.heap.size, 0, none⟩ 1 1 [.int .i64 (z : Int)] rfl rfl (cell_one_set _ _ _ _ _) (by simp [Value.oneCell']) (by unfold maxLen; omega) (by omega) (by simp; omega) ?_; intro v' w4 hown' hgrow _ hat4; obtain ⟨g', cap', rfl⟩ := ownsRow_succ hown'; obtain ⟨hv1, hv2, hr2, hk2, hb2⟩ := T6.appended (by decide) L6 (by omega) (by omega) hown' hgrow; have hc1 := hv1.cell; have hf1 := hv1.frozen)
          have blk : ∀ b, b < W.heap.size → b < w1.heap.size + 1 → b ≠ w.heap.size + 1 → (w4.setCell ⟨w1.heap.size + 1 + 1, 0, none⟩ (.slice (some ⟨g', 0, none⟩) (todo'.length + 1) cap')).heap[b]? = W.heap[b]? := fun b hb1 hb3 hb4 => (app_block hgrow (by omega) (fun e => by have := (hL.lt b e).1; omega) (by omega)).trans (g6.block b hb1 (fun e => by injection e with e; omega))
          refine ⟨((KeepsOthers.setCell W _ _).trans hk2).from _, k6.trans (KpN.appended (by omega) hd (by omega) hv1 L6 hgrow), ⟨met'.set z true, todo' ++ [z], _, ⟨by rw [hmap]; exact hs6, hc6, hu6⟩, (blk _ hRw (by omega) (by omega)).trans hR, row_same m6 (fun b hb => ?_), hv2, by simpa [intV, upI] using hr2, fun b hb => ?_⟩, box5_block hX (blk _ (by omega) (by omega) (by omega)), Mk6.appended hv1 L6 hgrow, ?_, ?_⟩
          · have h2 : w.heap.size + 1 = b := by simpa [Value.ownBlock] using hb
            subst h2
            exact app_block hgrow (by omega) hnl (by omega)
          · rcases hat4 with h4 | h4
            · exact hd b (h4.symm.trans hb)
            · have h5 := Option.some.inj (hb.symm.trans h4)
              simp at h5
              omega
          · have := hk2.size
            omega
          · exact (hB.setCell (p := ⟨w.heap.size + 1, z, none⟩) (by show w.heap.size ≤ w.heap.size + 1; omega) _).trans (hb2.mono (by omega))
      case done =>
        rintro D ys W hD hys ⟨⟨met', todo', tv', ⟨hs', hc', hu'⟩, hR, hM, hT, hL, hd⟩, hX, hMk, hS, hB⟩ hK
        rw [hys, restN_done] at hs'
        have hM2 := Lib.hid (hMk.cons (fun D' h' => K5.out.lt h') hD (by omega) hK)
        obtain ⟨va, vc, rfl, _⟩ := row_shape hL
        have e1 := leftW_eq hM hT.cell
        have e2 := leftW_eq hmr.out hbT.out.cell
        have HS2 := Lib.hid hs'
        have HR2 := Lib.hid hR
        have HMM := Lib.hid hM
        have HT2 := Lib.hid hT
        have HL2 := Lib.hid hL
        have HX2 := Lib.hid hX
        have HB2 := Lib.hid hB
        have hlt9 : leftW (w.heap.size + 1) (w1.heap.size + 1 + 1) W < leftW (w.heap.size + 1) (w1.heap.size + 1 + 1) wr := by rw [e1, e2]; omega
        have hle9 : unm met' + todo'.length ≤ n + 1 := by rw [List.length_append, List.length_singleton] at hum; omega
        clear hs' hR hM hT hL hX hMk hB hK e1 e2 hys
        gi_wp2
        exact ⟨⟨D :: Ds, todo', met', y, _, _, _, _, _, _, _, _, _, _, _, _, _, _, _, _, _, _, _, _, rfl, HS2.out, hle9, HR2.out, HMM.out, HT2.out, HL2.out, HX2.out, hM2.out, HB2.out⟩, hlt9⟩
      case stop =>
        rintro D c pre W _ _ h _
        exact h.elim
noncomputable def nxN (x : KTree) (i : Nat) : List Nat := if h : i < x.ins.length then nextN i (x.ins[i]'h) else []
theorem nxN_eq {x : KTree} {i : Nat} (h : i < x.ins.length) : nxN x i = nextN i x.ins[i] := by unfold nxN; rw [dif_pos h]
theorem reachG_next (x : KTree) (s : Nat) : reachG (nxN x) x.ins.length s = reachB x s := by
  have key : ∀ a b, srE (nxN x) x.ins.length a b ↔ nxE x a b := fun a b => by
    unfold srE nxE
    constructor
    · rintro ⟨h1, h2⟩
      rw [nxN_eq h1] at h2
      exact ⟨h1, h2⟩
    · rintro ⟨h1, h2⟩
      exact ⟨h1, by rw [nxN_eq h1]; exact h2⟩
  have key2 : ∀ y, Rch (srE (nxN x) x.ins.length) s y ↔ Rch (nxE x) s y := fun y => by
    constructor
    · intro h
      induction h with
      | one h1 => exact .one ((key _ _).1 h1)
      | more _ h1 ih => exact .more ih ((key _ _).1 h1)
    · intro h
      induction h with
      | one h1 => exact .one ((key _ _).2 h1)
      | more _ h1 ih => exact .more ih ((key _ _).2 h1)
  refine bools_ext (by rw [reachG_length, reachB_length]) fun y => ?_
  rw [reachG_at, reachB_at, key2]
/-- nextPlaces itself tells what comes next. -/
theorem nexts_any (x : KTree) (v : Value) (w : World) (hl : KIn w x v) (hk : okK x = true) : NextsBy v (.func (.func 45) #[] #[]) (nxN x) x.ins.length w := by
  refine ⟨_, _, rfl, enters_of Try.func45 (by kernel_rfl) rfl, fun y hy wx hb => ?_⟩
  obtain ⟨ga, gc, la, lc, pa, pc, ea, ec, ia, ic, rfl, h1, h2, h3, h4, h5, _⟩ := hl
  obtain ⟨g, o, rfl, hc⟩ := atIns rfl h5 hy
  rw [nxN_eq hy]
  have hlen := okK_len hk
  refine (callsIn_wide.2 (nextPlaces_any _ _ _ _ _ _ wx)).mono ?_
  rintro e w3 ⟨rfl, hb3, hk3, ha3, hs3⟩
  exact ⟨_, _, _, rfl, hb3, by omega, by omega, enters_of Try.func57 (by kernel_rfl) rfl,
    next_stopsS Fence.wide 5 trivial rfl (by omega) x.ins[y] y x.ins.length _ _ _ _ g o ic _ _ w3 hy hlen (fun h2 => (okK_to hk hy h2).1) hk3 ha3 ((hc y hy).keep (keeps_below (hb.trans (hb3.mono hb.size))))⟩
set_option maxRecDepth 20000 in
set_option maxHeartbeats 1600000 in
theorem implReach_any (x : KTree) (s : Nat) (v : Value) (w : World) (hl : KIn w x v) (hk : okK x = true) (hs : s < x.ins.length) :
    Calls Try.prog 42 #[v, .int .i64 (s : Int)] w (ListB (reachB x s) w) := by
  have CR := Lib.hid (fun wx (hb : Below w.heap.size w wx) => implReachBy_any x _ s v (.func (.func 45) #[] #[]) wx (hl.keep (keeps_below hb)) hk hs (fun y hy z hz => by rw [nxN_eq hy] at hz; exact nextN_lt hk hy z hz) (fun wy hb2 => nexts_any x v wy (hl.keep (keeps_below (hb.trans (hb2.mono hb.size)))) hk))
  rw [reachG_next] at CR
  obtain ⟨ga, gc, la, lc, pa, pc, ea, ec, ia, ic, rfl, _⟩ := hl
  have X0 := Lib.hid (Box5.new w (.slice ga x.globals.length gc) (.slice la x.locks.length lc) (.slice pa x.procs.length pc) (.slice ea x.entry.length ec) (.slice ia x.ins.length ic) 31)
  have B0 := Lib.hid ((Below.refl w.heap.size w).alloc (Nat.le_refl _) (.cells #[.slice ga x.globals.length gc, .slice la x.locks.length lc, .slice pa x.procs.length pc, .slice ea x.entry.length ec, .slice ia x.ins.length ic] 31))
  obtain ⟨p0, p1, p2, p3, p4⟩ := X0.out
  obtain ⟨bs, hbs⟩ : ∃ z, z = reachB x s := ⟨_, rfl⟩
  rw [← hbs] at CR ⊢
  clear hbs hs hk
  go_enter Try.func42, Try.ntmps42
  go_wp2_with fail
  refine (CR.out _ B0.out).mono ?_
  rintro e w2 ⟨ov, rfl, hr, hb⟩
  have HR := Lib.hid (World.ownsRow.mono hr B0.out.size)
  have B2 := Lib.hid (B0.out.trans (hb.mono B0.out.size))
  clear hr hb
  go_wp2_with fail
  go_ret
  exact ⟨_, rfl, HR.out, B2.out⟩
end Go.Proofs.Ytofmccihehalcab.Trm
/- Who calls whom in a code, as values: what a procedure names at its live places, who calls it, where, what one comes to by calls. Without conditions: no Go text is walked here. -/
namespace Go.Proofs.Ytofmccihehalcab.Trm
open Go.RowKit Go.Proofs.Ytofmccihehalcab.Own
theorem rch_mono {E E' : Nat → Nat → Prop} {s y : Nat} (h : Rch E s y) (hE : ∀ a b, (a = s ∨ Rch E s a) → E a b → E' a b) : Rch E' s y := by
  induction h with
  | one h1 => exact .one (hE _ _ (.inl rfl) h1)
  | more h0 h1 ih => exact .more ih (hE _ _ (.inr h0) h1)
/-- The entry of a procedure. -/
def entN (x : KTree) (p : Nat) : Nat := if h : p < x.entry.length then (x.entry[p]'h).toNat else 0
theorem entN_eq {x : KTree} {p : Nat} (hk : okK x = true) (h : p < x.entry.length) : x.entry[p] = (entN x p : Int) := by
  unfold entN
  rw [dif_pos h]
  have := (okK_ris hk).nonneg h
  omega
theorem entN_lt {x : KTree} {p : Nat} (hk : okK x = true) (h : p < x.entry.length) : entN x p < x.ins.length := by
  have h1 := entN_eq hk h
  have h2 := (okK_ris hk).below h
  omega
theorem okK_procs {x : KTree} (hk : okK x = true) : x.entry.length = x.procs.length := by
  have h2 : kHeads x = true := by have h := hk; unfold okK at h; rw [Bool.and_eq_true] at h; exact h.1
  exact (kHeads_ent h2).2.1
/-- The end of a procedure. -/
def endN (x : KTree) (p : Nat) : Nat := (endI x.entry x.ins.length p).toNat
theorem endN_eq {x : KTree} {p : Nat} (hk : okK x = true) (h : p < x.entry.length) : endI x.entry x.ins.length p = (endN x p : Int) ∧ entN x p ≤ endN x p ∧ endN x p < x.ins.length := by
  have hr := okK_ris hk
  have h1 := entN_eq hk h
  have h2 := hr.below h
  have h3 : (x.entry[p] : Int) ≤ endI x.entry x.ins.length p ∧ endI x.entry x.ins.length p < (x.ins.length : Int) := by
    unfold endI
    split
    · rename_i h5
      have h6 := hr.lt (i := p) (j := p + 1) (by omega) h5
      have h7 := hr.below h5
      omega
    · omega
  unfold endN
  omega
/-- The live places of a procedure. -/
noncomputable def liveB (x : KTree) (p : Nat) : List Bool := (reachB x (entN x p)).set (entN x p) true
theorem liveB_length (x : KTree) (p : Nat) : (liveB x p).length = x.ins.length := by unfold liveB; rw [List.length_set, reachB_length]
theorem liveB_at {x : KTree} {p : Nat} (hk : okK x = true) (hp : p < x.entry.length) (i : Nat) : (liveB x p)[i]? = some true ↔ i < x.ins.length ∧ (i = entN x p ∨ Rch (nxE x) (entN x p) i) := by
  unfold liveB
  rw [set_met (by rw [reachB_length]; exact entN_lt hk hp), reachB_at]
  have := entN_lt hk hp
  constructor
  · rintro (rfl | ⟨h1, h2⟩)
    · exact ⟨this, .inl rfl⟩
    · exact ⟨h1, .inr h2⟩
  · rintro ⟨h1, h2 | h2⟩
    · exact .inl h2
    · exact .inr ⟨h1, h2⟩
/-- What comes next stays within the procedure. -/
theorem nxE_within {x : KTree} (hk : okK x = true) {p i j : Nat} (hi : IsP x.entry (i : Int) p) (h : nxE x i j) : IsP x.entry (j : Int) p := by
  obtain ⟨hil, hm⟩ := h
  have hr := okK_ris hk
  have h1 := okK_in hk hil
  have hent : EntOk x.entry x.ins := by
    have h := hk
    unfold okK at h
    rw [Bool.and_eq_true] at h
    exact (kHeads_ent h.1).1
  have step : x.ins[i].op ≠ 9 → IsP x.entry ((i + 1 : Nat) : Int) p := fun h9 => by
    obtain ⟨h2, h3, h4⟩ := hi
    have h5 := fun h6 => h9 ((hent.2 i hil).2 h6)
    refine ⟨h2, by omega, fun h6 => ?_⟩
    have h7 := h4 h6
    have h8 : x.entry[p + 1] ≠ (i : Int) + 1 := fun e => h5 (.inl ⟨p + 1, h6, e⟩)
    omega
  have hto : x.ins[i].op = 2 ∨ x.ins[i].op = 3 → IsP x.entry ((x.ins[i].to.toNat : Nat) : Int) p := fun h23 => by
    have h0 := okK_to hk hil h23
    unfold okIn at h1
    simp only [Bool.and_eq_true] at h1
    obtain ⟨_, _, _, h4⟩ := h1
    rw [if_pos h23] at h4
    unfold toB at h4
    simp only [decide_eq_true_eq] at h4
    obtain ⟨h5, q, h6, h7⟩ := h4
    obtain rfl := IsP.uni hr hi h6
    have : ((x.ins[i].to.toNat : Nat) : Int) = x.ins[i].to := by omega
    rw [this]
    exact h7
  unfold nextN at hm
  split at hm
  · rename_i h2
    split at hm
    · rw [List.mem_singleton] at hm; subst hm; exact step (by omega)
    · simp only [List.mem_cons, List.not_mem_nil, or_false] at hm
      rcases hm with rfl | rfl
      · exact step (by omega)
      · exact hto (.inl h2)
  · split at hm
    · rename_i h2
      rw [List.mem_singleton] at hm; subst hm; exact hto (.inr h2)
    · split at hm
      · simp at hm
      · rename_i h9
        rw [List.mem_singleton] at hm; subst hm; exact step h9
theorem entN_isP {x : KTree} (hk : okK x = true) {p : Nat} (hp : p < x.entry.length) : IsP x.entry (entN x p : Int) p := by
  have h1 := entN_eq hk hp
  refine ⟨hp, by omega, fun h => ?_⟩
  have := (okK_ris hk).lt (i := p) (j := p + 1) (by omega) h
  omega
theorem rch_isP {x : KTree} (hk : okK x = true) {p s y : Nat} (hs : IsP x.entry (s : Int) p) (h : Rch (nxE x) s y) : IsP x.entry (y : Int) p := by
  induction h with
  | one h1 => exact nxE_within hk hs h1
  | more _ h1 ih => exact nxE_within hk ih h1
theorem liveB_isP {x : KTree} (hk : okK x = true) {p : Nat} (hp : p < x.entry.length) {i : Nat} (h : (liveB x p)[i]? = some true) : IsP x.entry (i : Int) p := by
  obtain ⟨_, rfl | h2⟩ := (liveB_at hk hp i).1 h
  · exact entN_isP hk hp
  · exact rch_isP hk (entN_isP hk hp) h2
theorem liveB_range {x : KTree} (hk : okK x = true) {p : Nat} (hp : p < x.entry.length) {i : Nat} (h : (liveB x p)[i]? = some true) : entN x p ≤ i ∧ i ≤ endN x p := by
  obtain ⟨h1, h2, h3⟩ := liveB_isP hk hp h
  have h4 := entN_eq hk hp
  have h5 := endN_eq hk hp
  have h6 := ((liveB_at hk hp i).1 h).1
  refine ⟨by omega, ?_⟩
  have h7 := h5.1
  unfold endI at h7
  split at h7
  · rename_i h8
    have := h3 h8
    omega
  · omega
/-- A live place with an op that names a procedure. -/
def CallAt (x : KTree) (p : Nat) (o : Int) (i q : Nat) : Prop := (liveB x p)[i]? = some true ∧ ∃ h : i < x.ins.length, x.ins[i].op = o ∧ x.ins[i].arg = (q : Int)
open Classical in
/-- The procedures that live places with an op name. -/
noncomputable def opsB (x : KTree) (p : Nat) (o : Int) : List Bool := (List.range x.entry.length).map fun q => decide (∃ i, CallAt x p o i q)
theorem opsB_length (x : KTree) (p : Nat) (o : Int) : (opsB x p o).length = x.entry.length := by unfold opsB; simp
theorem bmap_at (n : Nat) (P : Nat → Prop) [DecidablePred P] (q : Nat) : ((List.range n).map fun q => decide (P q))[q]? = some true ↔ q < n ∧ P q := by
  rw [List.getElem?_map]
  by_cases h : q < n
  · rw [List.getElem?_range h]
    simp [h]
  · rw [List.getElem?_eq_none (by simpa using h)]
    simp [h]
theorem opsB_at (x : KTree) (p : Nat) (o : Int) (q : Nat) : (opsB x p o)[q]? = some true ↔ q < x.entry.length ∧ ∃ i, CallAt x p o i q := by
  classical
  unfold opsB
  exact bmap_at _ _ q
theorem callAt_lt {x : KTree} (hk : okK x = true) {p i q : Nat} {o : Int} (ho : o = 4 ∨ o = 5) (h : CallAt x p o i q) : q < x.entry.length := by
  obtain ⟨_, hi, h1, h2⟩ := h
  have h3 := okK_in hk hi
  unfold okIn at h3
  simp only [Bool.and_eq_true, decide_eq_true_eq] at h3
  obtain ⟨_, ⟨_, h4⟩, _⟩ := h3
  unfold mostI at h4
  rw [h1] at h4
  have := okK_procs hk
  rcases ho with rfl | rfl
  · rw [if_neg (by decide), if_neg (by decide), if_pos (by decide)] at h4
    omega
  · rw [if_neg (by decide), if_neg (by decide), if_pos (by decide)] at h4
    omega
theorem arg_nat {x : KTree} (hk : okK x = true) {i : Nat} (hi : i < x.ins.length) (ho : x.ins[i].op = 4 ∨ x.ins[i].op = 5) : ∃ q : Nat, x.ins[i].arg = (q : Int) ∧ q < x.entry.length := by
  have h3 := okK_in hk hi
  unfold okIn at h3
  simp only [Bool.and_eq_true, decide_eq_true_eq] at h3
  obtain ⟨_, ⟨h5, h4⟩, _⟩ := h3
  unfold mostI at h4
  have := okK_procs hk
  rw [if_neg (by rcases ho with h | h <;> omega), if_neg (by rcases ho with h | h <;> omega), if_pos ho] at h4
  exact ⟨x.ins[i].arg.toNat, by omega, by omega⟩
/-- Marks that say what is so. -/
def MkI (m : Nat) (P : Nat → Prop) (met : List Bool) : Prop := met.length = m ∧ ∀ q, met[q]? = some true ↔ q < m ∧ P q
theorem MkI.none (m : Nat) {P : Nat → Prop} (h : ∀ q, ¬ P q) : MkI m P (List.replicate m false) := ⟨by simp, fun q => by
  constructor
  · intro h2; simp [List.getElem?_replicate] at h2
  · intro h2; exact absurd h2.2 (h q)⟩
theorem MkI.same {m : Nat} {P P' : Nat → Prop} {met : List Bool} (h : MkI m P met) (e : ∀ q, q < m → (P' q ↔ P q)) : MkI m P' met := ⟨h.1, fun q => by
  rw [h.2]
  constructor
  · exact fun ⟨a, b⟩ => ⟨a, (e q a).2 b⟩
  · exact fun ⟨a, b⟩ => ⟨a, (e q a).1 b⟩⟩
theorem MkI.mark {m z : Nat} {P P' : Nat → Prop} {met : List Bool} (h : MkI m P met) (hz : z < m) (e : ∀ q, q < m → (P' q ↔ q = z ∨ P q)) : MkI m P' (met.set z true) := ⟨by rw [List.length_set]; exact h.1, fun q => by
  rw [set_met (by rw [h.1]; exact hz), h.2]
  constructor
  · rintro (rfl | ⟨a, b⟩)
    · exact ⟨hz, (e _ hz).2 (.inl rfl)⟩
    · exact ⟨a, (e q a).2 (.inr b)⟩
  · rintro ⟨a, b⟩
    rcases (e q a).1 b with h2 | h2
    · exact .inl h2
    · exact .inr ⟨a, h2⟩⟩
theorem MkI.eq {m : Nat} {P : Nat → Prop} {a b : List Bool} (ha : MkI m P a) (hb : MkI m P b) : a = b := bools_ext (by rw [ha.1, hb.1]) fun y => by rw [ha.2, hb.2]
theorem opsB_mk (x : KTree) (p : Nat) (o : Int) : MkI x.entry.length (fun q => ∃ i, CallAt x p o i q) (opsB x p o) := ⟨opsB_length x p o, opsB_at x p o⟩
/-- Whether there is such a procedure in code that is right. -/
noncomputable def prB (x : KTree) (a : Int) : Bool := okK x && decide (0 ≤ a ∧ a < (x.entry.length : Int))
theorem prB_iff {x : KTree} {a : Int} : prB x a = true ↔ okK x = true ∧ 0 ≤ a ∧ a < (x.entry.length : Int) := by
  unfold prB
  rw [Bool.and_eq_true, decide_eq_true_eq]
noncomputable def opsAns (o : Int) (x : KTree) (a : Int) : List Nat := if prB x a = true then markedN 0 (opsB x a.toNat o) else []
/-- The procedures that call one, rising. -/
noncomputable def callersN (x : KTree) (q m : Nat) : List Nat := (List.range m).filter fun p => decide ((opsB x p 4)[q]? = some true)
theorem callersN_zero (x : KTree) (q : Nat) : callersN x q 0 = [] := rfl
theorem callersN_succ (x : KTree) (q m : Nat) : callersN x q (m + 1) = callersN x q m ++ (if (opsB x m 4)[q]? = some true then [m] else []) := by
  unfold callersN
  rw [List.range_succ, List.filter_append]
  congr 1
  by_cases h : (opsB x m 4)[q]? = some true
  · simp [h]
  · simp [h]
theorem callersN_le (x : KTree) (q m : Nat) : (callersN x q m).length ≤ m := by
  unfold callersN
  have := List.length_filter_le (fun p => decide ((opsB x p 4)[q]? = some true)) (List.range m)
  rw [List.length_range] at this
  exact this
noncomputable def callersAns (x : KTree) (a : Int) : List Nat := if prB x a = true then callersN x a.toNat x.entry.length else []
/-- The places of a procedure that call one, below a place, rising. -/
def siteB (x : KTree) (bs : List Bool) (q i : Nat) : Bool := (bs[i]? == some true) && (if h : i < x.ins.length then decide (x.ins[i].op = 4 ∧ x.ins[i].arg = (q : Int)) else false)
def siteN (x : KTree) (bs : List Bool) (q m : Nat) : List Nat := (List.range m).filter (siteB x bs q)
theorem siteN_succ (x : KTree) (bs : List Bool) (q m : Nat) : siteN x bs q (m + 1) = siteN x bs q m ++ (if siteB x bs q m then [m] else []) := by
  unfold siteN
  rw [List.range_succ, List.filter_append]
  congr 1
  by_cases h : siteB x bs q m = true
  · simp [h]
  · simp [h]
theorem siteN_le (x : KTree) (bs : List Bool) (q m : Nat) : (siteN x bs q m).length ≤ m := by
  unfold siteN
  have := List.length_filter_le (siteB x bs q) (List.range m)
  rw [List.length_range] at this
  exact this
theorem siteN_none {x : KTree} {bs : List Bool} {q m : Nat} (h : ∀ i, i < m → bs[i]? ≠ some true) : siteN x bs q m = [] := by
  unfold siteN
  rw [List.filter_eq_nil_iff]
  intro i hi
  have := h i (List.mem_range.1 hi)
  unfold siteB
  simp [this]
theorem siteN_more {x : KTree} {bs : List Bool} {q m : Nat} : ∀ d, (∀ i, m ≤ i → i < m + d → bs[i]? ≠ some true) → siteN x bs q (m + d) = siteN x bs q m
  | 0, _ => rfl
  | d + 1, h => by
    rw [← Nat.add_assoc, siteN_succ, siteN_more d (fun i h1 h2 => h i h1 (by omega))]
    have := h (m + d) (by omega) (by omega)
    have hs : siteB x bs q (m + d) = false := by unfold siteB; simp [this]
    rw [hs]
    simp
/-- All places that call one, of the procedures below one, rising. -/
noncomputable def sitesN (x : KTree) (q m : Nat) : List Nat := ((List.range m).map fun p => siteN x (liveB x p) q x.ins.length).flatten
theorem sitesN_zero (x : KTree) (q : Nat) : sitesN x q 0 = [] := rfl
theorem sitesN_succ (x : KTree) (q m : Nat) : sitesN x q (m + 1) = sitesN x q m ++ siteN x (liveB x m) q x.ins.length := by
  unfold sitesN
  rw [List.range_succ, List.map_append, List.flatten_append]
  simp
noncomputable def sitesAns (x : KTree) (a : Int) : List Nat := if prB x a = true then sitesN x a.toNat x.entry.length else []
/-- A part of a procedure's places: those from its entry up to its end. -/
theorem siteN_from {x : KTree} (hk : okK x = true) {p : Nat} (hp : p < x.entry.length) (q : Nat) : siteN x (liveB x p) q (entN x p) = [] :=
  siteN_none fun i hi h => by have := (liveB_range hk hp h).1; omega
theorem siteN_upto {x : KTree} (hk : okK x = true) {p : Nat} (hp : p < x.entry.length) (q : Nat) : siteN x (liveB x p) q (endN x p + 1) = siteN x (liveB x p) q x.ins.length := by
  have h1 := endN_eq hk hp
  have h2 := siteN_more (x := x) (bs := liveB x p) (q := q) (m := endN x p + 1) (x.ins.length - (endN x p + 1)) (fun i h3 _ h4 => by have := (liveB_range hk hp h4).2; omega)
  have h3 : endN x p + 1 + (x.ins.length - (endN x p + 1)) = x.ins.length := by omega
  rw [h3] at h2
  exact h2.symm
theorem sitesN_mem (x : KTree) (q m i : Nat) : i ∈ sitesN x q m ↔ ∃ p, p < m ∧ CallAt x p 4 i q := by
  unfold sitesN
  rw [List.mem_flatten]
  constructor
  · rintro ⟨l, hl, hi⟩
    obtain ⟨p, hp, rfl⟩ := List.mem_map.1 hl
    refine ⟨p, List.mem_range.1 hp, ?_⟩
    unfold siteN at hi
    obtain ⟨h1, h2⟩ := List.mem_filter.1 hi
    have h3 := List.mem_range.1 h1
    unfold siteB at h2
    rw [dif_pos h3] at h2
    simp only [Bool.and_eq_true, beq_iff_eq, decide_eq_true_eq] at h2
    exact ⟨h2.1, h3, h2.2⟩
  · rintro ⟨p, hp, h1, h2, h3⟩
    refine ⟨_, List.mem_map.2 ⟨p, List.mem_range.2 hp, rfl⟩, ?_⟩
    unfold siteN
    refine List.mem_filter.2 ⟨List.mem_range.2 h2, ?_⟩
    unfold siteB
    rw [dif_pos h2]
    simp only [Bool.and_eq_true, beq_iff_eq, decide_eq_true_eq]
    exact ⟨h1, h3⟩
/-- Places that rise, each below a bound: no more than there are. -/
theorem rise_len : ∀ {l : List Nat} {lo n : Nat}, l.Pairwise (· < ·) → (∀ y, y ∈ l → lo ≤ y ∧ y < n) → lo ≤ n → l.length ≤ n - lo
  | [], _, _, _, _, _ => by simp
  | a :: r, lo, n, h, hb, _ => by
    have h1 := hb a List.mem_cons_self
    rw [List.pairwise_cons] at h
    have := rise_len (lo := a + 1) (n := n) h.2 (fun y hy => ⟨h.1 y hy, (hb y (List.mem_cons_of_mem _ hy)).2⟩) (by omega)
    rw [List.length_cons]
    omega
theorem siteN_rise (x : KTree) (bs : List Bool) (q m : Nat) : (siteN x bs q m).Pairwise (· < ·) := by
  unfold siteN
  exact List.Pairwise.filter _ List.pairwise_lt_range
theorem sitesN_rise {x : KTree} (hk : okK x = true) (q : Nat) : ∀ m, m ≤ x.entry.length → (sitesN x q m).Pairwise (· < ·)
  | 0, _ => List.Pairwise.nil
  | m + 1, h => by
    rw [sitesN_succ, List.pairwise_append]
    refine ⟨sitesN_rise hk q m (by omega), siteN_rise _ _ _ _, fun a ha b hb => ?_⟩
    obtain ⟨p, hp, h1, _⟩ := (sitesN_mem x q m a).1 ha
    unfold siteN at hb
    have h2 := (List.mem_filter.1 hb).2
    unfold siteB at h2
    simp only [Bool.and_eq_true, beq_iff_eq] at h2
    have h3 := liveB_isP hk (by omega : p < x.entry.length) h1
    have h4 := liveB_isP hk (by omega : m < x.entry.length) h2.1
    have hr := okK_ris hk
    obtain ⟨g1, g2, g3⟩ := h3
    obtain ⟨k1, k2, k3⟩ := h4
    have h5 := g3 (by omega)
    rcases Nat.lt_or_ge (p + 1) m with h6 | h6
    · have := hr.lt h6 k1
      omega
    · obtain rfl : m = p + 1 := by omega
      omega
theorem sitesN_le {x : KTree} (hk : okK x = true) (q m : Nat) (h : m ≤ x.entry.length) : (sitesN x q m).length ≤ x.ins.length := by
  have := rise_len (lo := 0) (n := x.ins.length) (sitesN_rise hk q m h) (fun y hy => by
    obtain ⟨_, _, _, h2, _⟩ := (sitesN_mem x q m y).1 hy
    exact ⟨Nat.zero_le _, h2⟩) (Nat.zero_le _)
  omega
/-- The answers are few and small. -/
theorem okK_nprocs {x : KTree} (hk : okK x = true) : x.entry.length ≤ x.ins.length := by
  have hr := okK_ris hk
  have key : ∀ i (h : i < x.entry.length), (i : Int) ≤ x.entry[i] := fun i => by
    induction i with
    | zero => intro h; exact hr.nonneg h
    | succ i ih =>
      intro h
      have := ih (by omega)
      have := hr.lt (i := i) (j := i + 1) (by omega) h
      omega
  rcases Nat.eq_zero_or_pos x.entry.length with h | h
  · omega
  · have h1 := key (x.entry.length - 1) (by omega)
    have h2 := hr.below (i := x.entry.length - 1) (by omega)
    omega
theorem opsAns_small (o : Int) (x : KTree) (a : Int) : SmallN (opsAns o x a) := by
  unfold opsAns
  split
  · rename_i h
    have hk := (prB_iff.1 h).1
    have h1 := okK_len hk
    have h2 := okK_nprocs hk
    have h3 := opsB_length x a.toNat o
    exact ⟨by have := markedN_le 0 (opsB x a.toNat o); omega, fun y hy => by have := markedN_lt _ _ y hy; omega⟩
  · exact smallN_nil
theorem callersAns_small (x : KTree) (a : Int) : SmallN (callersAns x a) := by
  unfold callersAns
  split
  · rename_i h
    have hk := (prB_iff.1 h).1
    have h1 := okK_len hk
    have h2 := okK_nprocs hk
    refine ⟨by have := callersN_le x a.toNat x.entry.length; omega, fun y hy => ?_⟩
    unfold callersN at hy
    have := List.mem_range.1 (List.mem_filter.1 hy).1
    omega
  · exact smallN_nil
theorem sitesAns_small (x : KTree) (a : Int) : SmallN (sitesAns x a) := by
  unfold sitesAns
  split
  · rename_i h
    have hk := (prB_iff.1 h).1
    have h1 := okK_len hk
    refine ⟨by have := sitesN_le hk a.toNat x.entry.length (Nat.le_refl _); omega, fun y hy => ?_⟩
    obtain ⟨_, _, _, h2, _⟩ := (sitesN_mem x _ _ y).1 hy
    omega
  · exact smallN_nil
end Go.Proofs.Ytofmccihehalcab.Trm
/- The program's EndOf, walked. Conditions: the code lies in memory; at most 2 to the 20 names and terms. -/
namespace Go.Proofs.Ytofmccihehalcab.Trm
open Go.RowKit Go.Proofs.Ytofmccihehalcab.Own
set_option maxRecDepth 20000 in
set_option maxHeartbeats 1600000 in
theorem implEndWith_any (x : KTree) (m : Nat) (v : Value) (w : World) (hl : KLies w x v) (hk : okK x = true) (hm0 : m < x.entry.length) :
    Calls Try.prog 51 #[v, .int .i64 (m : Int)] w fun e w' => e = .returned (.int .i64 (endI x.entry x.ins.length m)) ∧ Below w.heap.size w w' := by
  obtain ⟨ga, gc, la, lc, pa, pc, ea, ec, ia, ic, rfl, h1, h2, h3, h4, h5⟩ := hl
  obtain ⟨n, hn⟩ : ∃ n, n = x.ins.length := ⟨_, rfl⟩
  have hr := okK_ris hk
  rw [← hn] at h5 hr ⊢
  have hlm : n ≤ 9223372036854775807 := by rw [hn]; exact h5.1
  have hel : x.entry.length ≤ 9223372036854775807 := by obtain ⟨_, _, _, h, _⟩ := h4; exact h
  have HENT := Lib.hid (fun wx (hb : Below w.heap.size w wx) => h4.keep (keeps_below hb))
  have X0 := Lib.hid (Box5.new w (.slice ga x.globals.length gc) (.slice la x.locks.length lc) (.slice pa x.procs.length pc) (.slice ea x.entry.length ec) (.slice ia n ic) 31)
  have B0 := Lib.hid ((Below.refl w.heap.size w).alloc (Nat.le_refl _) (.cells #[.slice ga x.globals.length gc, .slice la x.locks.length lc, .slice pa x.procs.length pc, .slice ea x.entry.length ec, .slice ia n ic] 31))
  have HR := Lib.hid hr
  obtain ⟨zz, hzz⟩ : ∃ z, endI x.entry n m = z := ⟨_, rfl⟩
  rw [hzz]
  have HZ := Lib.hid hzz
  clear h1 h2 h3 h4 h5 hn hk hr hzz
  obtain ⟨W1, hW1⟩ : ∃ W, W = w.alloc (.cells #[.slice ga x.globals.length gc, .slice la x.locks.length lc, .slice pa x.procs.length pc, .slice ea x.entry.length ec, .slice ia n ic] 31) := ⟨_, rfl⟩
  obtain ⟨p0, p1, p2, p3, p4⟩ := X0.out
  rw [← hW1] at X0 B0
  have HW1 := Lib.hid hW1
  have HI := Lib.hid (HENT.out _ B0.out)
  clear hW1
  have hn0 : (0 : Int) < (n : Int) := by have h1 := HR.out.1; have h2 := HR.out.2.1; have h3 := HR.out.below h1; omega
  by_cases hm : m + 1 < x.entry.length
  · have HF2 : Hid (zz = x.entry[m + 1] - 1) := by show _ = _; rw [← HZ.out]; unfold endI; rw [dif_pos hm]
    have hlo := HR.out.nonneg hm
    have hhi := HR.out.below hm
    obtain ⟨a2, c2, e2, _, _, hk2⟩ := HI.out
    simp at e2
    obtain ⟨rfl, rfl⟩ := e2
    obtain ⟨g, o, rfl, hc⟩ := hk2 (by omega)
    have c0 := hc (m + 1) hm
    have e1 : ((m : Int) == (x.entry.length : Int) - 1) = false := by rw [beq_eq_false_iff_ne]; omega
    have e3 : ¬ (m : Int) = (x.entry.length : Int) - 1 := by omega
    clear hc hk2 HZ
    generalize x.entry[m + 1] = z at *
    rw [HW1.out] at c0
    go_enter Try.func51, Try.ntmps51
    go_wp2
    go_ret
    rw [← HW1.out]
    exact ⟨ret_z (by rw [HF2.out]), B0.out⟩
  · have HF2 : Hid (zz = (n : Int) - 1) := by show _ = _; rw [← HZ.out]; unfold endI; rw [dif_neg hm]
    have e1 : ((m : Int) == (x.entry.length : Int) - 1) = true := by rw [beq_iff_eq]; omega
    have e3 : (m : Int) = (x.entry.length : Int) - 1 := by omega
    clear HZ
    go_enter Try.func51, Try.ntmps51
    go_wp2
    go_ret
    rw [← HW1.out]
    exact ⟨ret_z (by rw [HF2.out]), B0.out⟩
set_option maxRecDepth 20000 in
set_option maxHeartbeats 1600000 in
theorem implEndOf_any (x : KTree) (a : Int) (v : Value) (w : World) (hl : KLies w x v) (hz : szK x ≤ 1048576) (hai : InI a) :
    Calls Try.prog 32 #[v, .int .i64 a] w fun e w' => e = .returned (.int .i64 (endZ x a)) ∧ Below w.heap.size w w' := by
  have CK := Lib.hid (fun wx (hb : Below w.heap.size w wx) => implCodeOk_any x v wx (hl.keep (keeps_below hb)) hz)
  have CW := Lib.hid (fun wx (hb : Below w.heap.size w wx) m (hk : okK x = true) (hm : m < x.entry.length) => implEndWith_any x m v wx (hl.keep (keeps_below hb)) hk hm)
  obtain ⟨ga, gc, la, lc, pa, pc, ea, ec, ia, ic, rfl, h1, h2, h3, h4, h5⟩ := hl
  obtain ⟨n, hn⟩ : ∃ n, n = x.ins.length := ⟨_, rfl⟩
  have HNL := Lib.hid hn
  rw [← hn] at h5 CK CW ⊢
  have hlm : n ≤ 9223372036854775807 := by rw [hn]; exact h5.1
  have hpl : x.procs.length ≤ 9223372036854775807 := by obtain ⟨_, _, _, h, _⟩ := h3.1; exact h
  have hel : x.entry.length ≤ 9223372036854775807 := by obtain ⟨_, _, _, h, _⟩ := h4; exact h
  have HRI : Hid (okK x = true → Ris x.entry n ∧ x.entry.length = x.procs.length) := fun h => by
    have h2 : kHeads x = true := by unfold okK at h; rw [Bool.and_eq_true] at h; exact h.1
    have h3 := kHeads_ent h2
    have h4 := h3.1.1
    rw [← hn] at h4
    exact ⟨h4, h3.2.1⟩
  have HENT := Lib.hid (fun wx (hb : Below w.heap.size w wx) => h4.keep (keeps_below hb))
  have X0 := Lib.hid (Box5.new w (.slice ga x.globals.length gc) (.slice la x.locks.length lc) (.slice pa x.procs.length pc) (.slice ea x.entry.length ec) (.slice ia n ic) 31)
  have B0 := Lib.hid ((Below.refl w.heap.size w).alloc (Nat.le_refl _) (.cells #[.slice ga x.globals.length gc, .slice la x.locks.length lc, .slice pa x.procs.length pc, .slice ea x.entry.length ec, .slice ia n ic] 31))
  obtain ⟨kb, hkb⟩ : ∃ b, okK x = b := ⟨_, rfl⟩
  rw [hkb] at CK HRI CW
  have HZ : Hid (endZ x a = if kb = true ∧ 0 ≤ a ∧ a < (x.procs.length : Int) then endI x.entry n a.toNat else -1) := by show _ = _; unfold endZ; rw [hkb, hn]
  obtain ⟨zz, hzz⟩ : ∃ z, endZ x a = z := ⟨_, rfl⟩
  rw [hzz] at HZ
  rw [hzz]
  unfold InI at hai
  clear h1 h2 h3 h4 h5 hz hn hkb hzz
  obtain ⟨W1, hW1⟩ : ∃ W, W = w.alloc (.cells #[.slice ga x.globals.length gc, .slice la x.locks.length lc, .slice pa x.procs.length pc, .slice ea x.entry.length ec, .slice ia n ic] 31) := ⟨_, rfl⟩
  obtain ⟨p0, p1, p2, p3, p4⟩ := X0.out
  rw [← hW1] at X0 B0
  have HW1 := Lib.hid hW1
  clear hW1
  go_enter Try.func32, Try.ntmps32
  go_wp2_with fail
  rw [← HW1.out] at p0 p1 p2 p3 p4 ⊢
  refine (CK.out _ B0.out).mono ?_
  rintro e w2 ⟨rfl, hb⟩
  have B2 := Lib.hid (B0.out.trans (hb.mono B0.out.size))
  have X2 := Lib.hid (X0.out.keep (keeps_below hb))
  clear hb p0 p1 p2 p3 p4
  obtain ⟨p0, p1, p2, p3, p4⟩ := X2.out
  cases kb with
  | false =>
    have HF : Hid (zz = -1) := by show _ = _; rw [HZ.out]; simp
    go_wp2_with fail
    go_ret
    exact ⟨ret_z (by rw [HF.out]), B2.out⟩
  | true =>
    obtain ⟨hr, hep⟩ := HRI.out (by first | rfl | trivial)
    have HR := Lib.hid hr
    have HEP := Lib.hid hep
    have HI := Lib.hid (HENT.out _ B2.out)
    clear hr hep
    by_cases ha0 : 0 ≤ a
    rotate_left
    · have HF : Hid (zz = -1) := by show _ = _; rw [HZ.out, if_neg (fun h => ha0 h.2.1)]
      go_wp2_with fail
      go_ret
      exact ⟨ret_z (by rw [HF.out]), B2.out⟩
    by_cases ha1 : a < (x.entry.length : Int)
    rotate_left
    · have HF : Hid (zz = -1) := by show _ = _; rw [HZ.out, if_neg (fun h => ha1 (by have := HEP.out; omega))]
      go_wp2_with fail
      go_ret
      exact ⟨ret_z (by rw [HF.out]), B2.out⟩
    obtain ⟨m, rfl⟩ : ∃ m : Nat, a = (m : Int) := ⟨a.toNat, by omega⟩
    have HF : Hid (zz = endI x.entry n m) := by
      show _ = _
      rw [HZ.out, if_pos ⟨by first | rfl | trivial, ha0, by have := HEP.out; omega⟩]
      rfl
    clear HZ
    go_wp2_with fail
    refine (CW.out _ B2.out m (by first | rfl | trivial) (by omega)).mono ?_
    rintro e w3 ⟨rfl, hb⟩
    have B3 := Lib.hid (B2.out.trans (hb.mono B2.out.size))
    clear hb
    go_wp2_with fail
    go_ret
    exact ⟨ret_z (by rw [HF.out]), B3.out⟩
end Go.Proofs.Ytofmccihehalcab.Trm
/- The program's ReachIn, LiveIn, InLoop, walked. Conditions: the code lies in memory; at most 2 to the 20 names and terms. -/
namespace Go.Proofs.Ytofmccihehalcab.Trm
open Go.RowKit Go.Proofs.Ytofmccihehalcab.Own
set_option maxHeartbeats 1600000 in
theorem implMarked_any (bs : List Bool) (v : Value) (base : Nat) (w : World) (hn15 : bs.length ≤ 1500) (hr : w.ownsRow base 4 1 v bs.length (boolV bs)) :
    Calls Try.prog 41 #[v] w (ListI (upI (markedN 0 bs)) w) := by
  obtain ⟨i0, hi, hz0, hz1, hz2⟩ := info_parts infoIntL
  obtain ⟨a, c, rfl, ha⟩ := row_shape hr
  have HA := Lib.hid ha
  have HR := Lib.hid hr
  obtain ⟨n, hn⟩ : ∃ n, n = bs.length := ⟨_, rfl⟩
  have HN := Lib.hid hn
  rw [← hn] at hn15 HA HR ⊢
  clear ha hr hn
  go_enter Try.func41, Try.ntmps41
  go_wp2
  go_loopw [3, 8] (fun ov iv wr => ∃ (j : Nat) (ls : List Nat), j ≤ n ∧ iv = .int .i64 j ∧ Hid (ls = markedN 0 (bs.take j)) ∧ Hid (wr.ownsRow w.heap.size 3 1 ov ls.length (intV (upI ls))) ∧ Hid (Below w.heap.size w wr))
    (fun _ iv _ => n - (intOf iv).toNat)
  case atStart => exact ⟨0, [], Nat.zero_le _, rfl, rfl, World.ownsRow_nil _ _ _ _, Below.refl _ _⟩
  case round =>
    obtain ⟨j, ls, hj, rfl, hls, hrow, hbe⟩ := hrel
    obtain ⟨oa, oc, rfl, _⟩ := row_shape hrow.out
    have hll : ls.length ≤ 1500 := by rw [hls.out]; have := markedN_le 0 (bs.take j); rw [List.length_take] at this; omega
    by_cases hlt : j < n
    · obtain ⟨g, rfl⟩ := HA.out (by omega)
      have hjb : j < bs.length := by have := HN.out; omega
      have c0 := boolV_cell (row_below HR.out hbe.out) j hjb
      have hmt := markedN_take hjb
      obtain ⟨b, hb⟩ : ∃ b, bs[j] = b := ⟨_, rfl⟩
      rw [hb] at c0 hmt
      rw [← hls.out] at hmt
      have HMT := Lib.hid hmt
      clear hb hmt
      cases b with
      | false =>
        have HL : Hid (ls = markedN 0 (bs.take (j + 1))) := by show _ = _; rw [HMT.out]; simp
        go_wp2
        go_roundw
        case rel => exact ⟨j + 1, ls, by omega, by go_num, HL.out, hrow.out, hbe.out⟩
        case measure => simp [intOf]; omega
      | true =>
        have HL : Hid (ls ++ [j] = markedN 0 (bs.take (j + 1))) := by show _ = _; rw [HMT.out]; simp
        have hsw : w.heap.size ≤ wr.heap.size := hbe.out.size
        go_wp2_with (at_builtin; refine wpList_append_lies _ rfl (.tmp 14) (.tmp 16) 23 rfl w.heap.size 3 i0 (.int .i64 0) 1 8 Try.underlying23 hi hz0 hz1 hz2 rfl (by decide) (.slice oa ls.length oc) ls.length _ rfl (hrow.out.alloc _) ⟨wr.heap.size, 0, none⟩ 1 1 [.int .i64 (j : Int)] rfl rfl (World.news_of_block (heap_alloc_new _ _)) (one_intV [(j : Int)]) (by decide) (by unfold maxLen; omega) (by omega) (by simp; omega) _ rfl ?_)
        intro g1 cap1 w5 hown1 hg1 hat1 hlt1
        have HB5 : Hid (Below w.heap.size w w5) := (hbe.out.alloc hsw _).grown hg1 (by simp; omega) (fun k hk => (hrow.out.lt k hk).1)
        have HR5 : Hid (w5.ownsRow w.heap.size 3 1 (.slice (some ⟨g1, 0, none⟩) (ls.length + 1) cap1) (ls ++ [j]).length (intV (upI (ls ++ [j])))) := by
          show World.ownsRow _ _ _ _ _ _ _
          have := hown1
          simpa [intV, upI] using this
        clear hown1 hg1 hat1 hlt1
        go_wp2
        go_roundw
        case rel => exact ⟨j + 1, ls ++ [j], by omega, by go_num, HL.out, HR5.out, HB5.out⟩
        case measure => simp [intOf]; omega
    · have HL : Hid (ls = markedN 0 bs) := by show _ = _; rw [hls.out, List.take_of_length_le (by have := HN.out; omega)]
      have hul := upI_length ls
      go_wp2
      go_ret
      exact ⟨_, rfl, by rw [← HL.out, hul]; exact hrow.out, hbe.out⟩
set_option maxRecDepth 20000 in
set_option maxHeartbeats 1600000 in
theorem implReachIn_any (x : KTree) (a : Int) (v : Value) (w : World) (hl : KIn w x v) (hz : szK x ≤ 1048576) :
    Calls Try.prog 17 #[v, .int .i64 a] w (ListI (upI (reachAns x a)) w) := by
  have CA := Lib.hid (fun wx (hb : Below w.heap.size w wx) => implProcOf_any x a v wx (KIn.lies (hl.keep (keeps_below hb))) hz)
  have CR := Lib.hid (fun wx (hb : Below w.heap.size w wx) s (hk : okK x = true) (hs : s < x.ins.length) => implReach_any x s v wx (hl.keep (keeps_below hb)) hk hs)
  obtain ⟨ga, gc, la, lc, pa, pc, ea, ec, ia, ic, rfl, h1, h2, h3, h4, h5, _⟩ := hl
  obtain ⟨n, hn⟩ : ∃ n, n = x.ins.length := ⟨_, rfl⟩
  rw [← hn] at h5 CA CR ⊢
  have HN := Lib.hid hn
  have X0 := Lib.hid (Box5.new w (.slice ga x.globals.length gc) (.slice la x.locks.length lc) (.slice pa x.procs.length pc) (.slice ea x.entry.length ec) (.slice ia n ic) 31)
  have B0 := Lib.hid ((Below.refl w.heap.size w).alloc (Nat.le_refl _) (.cells #[.slice ga x.globals.length gc, .slice la x.locks.length lc, .slice pa x.procs.length pc, .slice ea x.entry.length ec, .slice ia n ic] 31))
  obtain ⟨rs, hrs⟩ : ∃ rs, rs = upI (reachAns x a) := ⟨_, rfl⟩
  have HRS := Lib.hid hrs
  rw [← hrs]
  clear h1 h2 h3 h4 h5 hz hn hrs
  obtain ⟨W1, hW1⟩ : ∃ W, W = w.alloc (.cells #[.slice ga x.globals.length gc, .slice la x.locks.length lc, .slice pa x.procs.length pc, .slice ea x.entry.length ec, .slice ia n ic] 31) := ⟨_, rfl⟩
  obtain ⟨p0, p1, p2, p3, p4⟩ := X0.out
  rw [← hW1] at X0 B0
  have HW1 := Lib.hid hW1
  clear hW1
  go_enter Try.func17, Try.ntmps17
  go_wp2_with fail
  rw [← HW1.out] at p0 p1 p2 p3 p4 ⊢
  refine (CA.out _ B0.out).mono ?_
  rintro e w2 ⟨z, rfl, hpz, hb⟩
  have B2 := Lib.hid (B0.out.trans (hb.mono B0.out.size))
  have X2 := Lib.hid (X0.out.keep (keeps_below hb))
  clear hb p0 p1 p2 p3 p4
  obtain ⟨p0, p1, p2, p3, p4⟩ := X2.out
  have hzn := procAns_neg hpz
  obtain ⟨kb, hkb⟩ : ∃ b, atB x a = b := ⟨_, rfl⟩
  have HKB := Lib.hid hkb
  rw [hkb] at hzn
  clear hkb hpz
  cases kb with
  | false =>
    have HF : Hid (rs = []) := by show _ = _; rw [HRS.out]; unfold reachAns; rw [if_neg (fun h => by rw [HKB.out] at h; cases h)]; rfl
    have hz1 : z < 0 := hzn.2 rfl
    clear hzn
    go_wp2_with fail
    go_ret
    exact ⟨_, rfl, by rw [HF.out]; exact World.ownsRow_nil _ _ _ _, B2.out⟩
  | true =>
    obtain ⟨hk, ha0, ha1⟩ := atB_iff.1 HKB.out
    obtain ⟨i, rfl⟩ : ∃ i : Nat, a = (i : Int) := ⟨a.toNat, by omega⟩
    have hi : i < x.ins.length := by omega
    have hlen := okK_len hk
    have HF : Hid (rs = upI (markedN 0 (reachB x i))) := by
      show _ = _
      rw [HRS.out]
      unfold reachAns
      rw [if_pos HKB.out]
      rfl
    have C := Lib.hid (CR.out _ B2.out i hk (by have := HN.out; omega))
    have hrl := reachB_length x i
    obtain ⟨bs, hbs⟩ : ∃ z, z = reachB x i := ⟨_, rfl⟩
    rw [← hbs] at C HF hrl
    have hbl : bs.length ≤ 1500 := by omega
    clear hk ha0 ha1 hlen hbs hrl
    have hz1 : ¬ z < 0 := fun h => by have := hzn.1 h; cases this
    clear hzn
    go_wp2_with fail
    refine C.out.mono ?_
    rintro e w3 ⟨bv, rfl, hr3, hb3⟩
    have R3 := Lib.hid hr3
    have B3 := Lib.hid (B2.out.trans (hb3.mono B2.out.size))
    clear hr3 hb3 p0 p1 p2 p3 p4
    go_wp2_with fail
    refine (implMarked_any bs bv _ w3 hbl R3.out).mono ?_
    rintro e w4 ⟨ov, rfl, hr, hb⟩
    have HRo := Lib.hid (World.ownsRow.mono hr B3.out.size)
    have B4 := Lib.hid (B3.out.trans (hb.mono B3.out.size))
    clear hr hb
    go_wp2_with fail
    go_ret
    exact ⟨_, rfl, by rw [HF.out]; exact HRo.out, B4.out⟩
set_option maxRecDepth 20000 in
set_option maxHeartbeats 1600000 in
theorem implInLoop_any (x : KTree) (a : Int) (v : Value) (w : World) (hl : KIn w x v) (hz : szK x ≤ 1048576) :
    Calls Try.prog 21 #[v, .int .i64 a] w fun e w' => e = .returned (.bool (loopAns x a)) ∧ Below w.heap.size w w' := by
  have CA := Lib.hid (fun wx (hb : Below w.heap.size w wx) => implProcOf_any x a v wx (KIn.lies (hl.keep (keeps_below hb))) hz)
  have CR := Lib.hid (fun wx (hb : Below w.heap.size w wx) s (hk : okK x = true) (hs : s < x.ins.length) => implReach_any x s v wx (hl.keep (keeps_below hb)) hk hs)
  obtain ⟨ga, gc, la, lc, pa, pc, ea, ec, ia, ic, rfl, h1, h2, h3, h4, h5, _⟩ := hl
  obtain ⟨n, hn⟩ : ∃ n, n = x.ins.length := ⟨_, rfl⟩
  rw [← hn] at h5 CA CR ⊢
  have HN := Lib.hid hn
  have X0 := Lib.hid (Box5.new w (.slice ga x.globals.length gc) (.slice la x.locks.length lc) (.slice pa x.procs.length pc) (.slice ea x.entry.length ec) (.slice ia n ic) 31)
  have B0 := Lib.hid ((Below.refl w.heap.size w).alloc (Nat.le_refl _) (.cells #[.slice ga x.globals.length gc, .slice la x.locks.length lc, .slice pa x.procs.length pc, .slice ea x.entry.length ec, .slice ia n ic] 31))
  obtain ⟨rs, hrs⟩ : ∃ rs, rs = loopAns x a := ⟨_, rfl⟩
  have HRS := Lib.hid hrs
  rw [← hrs]
  clear h1 h2 h3 h4 h5 hz hn hrs
  obtain ⟨W1, hW1⟩ : ∃ W, W = w.alloc (.cells #[.slice ga x.globals.length gc, .slice la x.locks.length lc, .slice pa x.procs.length pc, .slice ea x.entry.length ec, .slice ia n ic] 31) := ⟨_, rfl⟩
  obtain ⟨p0, p1, p2, p3, p4⟩ := X0.out
  rw [← hW1] at X0 B0
  have HW1 := Lib.hid hW1
  clear hW1
  go_enter Try.func21, Try.ntmps21
  go_wp2_with fail
  rw [← HW1.out] at p0 p1 p2 p3 p4 ⊢
  refine (CA.out _ B0.out).mono ?_
  rintro e w2 ⟨z, rfl, hpz, hb⟩
  have B2 := Lib.hid (B0.out.trans (hb.mono B0.out.size))
  have X2 := Lib.hid (X0.out.keep (keeps_below hb))
  clear hb p0 p1 p2 p3 p4
  obtain ⟨p0, p1, p2, p3, p4⟩ := X2.out
  have hzn := procAns_neg hpz
  obtain ⟨kb, hkb⟩ : ∃ b, atB x a = b := ⟨_, rfl⟩
  have HKB := Lib.hid hkb
  rw [hkb] at hzn
  clear hkb hpz
  cases kb with
  | false =>
    have HF : Hid (rs = false) := by show _ = _; rw [HRS.out]; unfold loopAns; rw [HKB.out]; rfl
    have hz1 : ¬ 0 ≤ z := by have := hzn.2 rfl; omega
    clear hzn
    go_wp2_with fail
    go_ret
    exact ⟨ret_b2 (by rw [HF.out]), B2.out⟩
  | true =>
    obtain ⟨hk, ha0, ha1⟩ := atB_iff.1 HKB.out
    obtain ⟨i, rfl⟩ : ∃ i : Nat, a = (i : Int) := ⟨a.toNat, by omega⟩
    have hi : i < x.ins.length := by omega
    have hlen := okK_len hk
    have C := Lib.hid (CR.out _ B2.out i hk (by have := HN.out; omega))
    have hrl := reachB_length x i
    have HF : Hid (∀ b, (reachB x i)[i]? = some b → rs = b) := fun b hb => by
      rw [HRS.out]
      unfold loopAns
      rw [HKB.out]
      have h1 : ((i : Int)).toNat = i := rfl
      rw [h1, hb]
      cases b <;> simp
    obtain ⟨bs, hbs⟩ : ∃ z, z = reachB x i := ⟨_, rfl⟩
    rw [← hbs] at C HF hrl
    have hbl : bs.length = n := by have := HN.out; omega
    have hin : i < bs.length := by omega
    have HF2 : Hid (rs = bs[i]) := HF.out _ (List.getElem?_eq_getElem hin)
    have hn15 : n ≤ 1500 := by have := HN.out; omega
    clear hk ha0 ha1 hlen hbs hrl HF
    have hz1 : 0 ≤ z := Int.not_lt.1 (fun h => by have := hzn.1 h; cases this)
    clear hzn
    go_wp2_with fail
    refine C.out.mono ?_
    rintro e w3 ⟨bv, rfl, hr3, hb3⟩
    obtain ⟨ba, bc, rfl, hba⟩ := row_shape hr3
    obtain ⟨bg, rfl⟩ := hba (by omega)
    have c0 := boolV_cell hr3 i hin
    have B3 := Lib.hid (B2.out.trans (hb3.mono B2.out.size))
    rw [← HF2.out] at c0
    clear hr3 hb3 p0 p1 p2 p3 p4 hba
    go_wp2_with fail
    go_ret
    exact ⟨rfl, B3.out⟩
theorem endZ_neg {x : KTree} {a : Int} : endZ x a < 0 ↔ ¬ (okK x = true ∧ 0 ≤ a ∧ a < (x.procs.length : Int)) := by
  unfold endZ
  by_cases h : okK x = true ∧ 0 ≤ a ∧ a < (x.procs.length : Int)
  · rw [if_pos h]
    constructor
    · intro h2
      exfalso
      have hr := okK_ris h.1
      have h3 : kHeads x = true := by have h4 := h.1; unfold okK at h4; rw [Bool.and_eq_true] at h4; exact h4.1
      have hep := (kHeads_ent h3).2.1
      have hlt : a.toNat < x.entry.length := by omega
      unfold endI at h2
      split at h2
      · rename_i h5
        have h6 := hr.lt (i := a.toNat) (j := a.toNat + 1) (by omega) h5
        have h7 := hr.nonneg hlt
        omega
      · have h6 := hr.below hlt
        have h7 := hr.nonneg hlt
        omega
    · intro h2; exact absurd h h2
  · rw [if_neg h]
    constructor
    · intro _; exact h
    · intro _; omega
set_option maxRecDepth 20000 in
set_option maxHeartbeats 3200000 in
theorem implLivePlaces_any (x : KTree) (p : Nat) (v : Value) (w : World) (hl : KIn w x v) (hk : okK x = true) (hp : p < x.entry.length) :
    Calls Try.prog 33 #[v, .int .i64 (p : Int)] w (ListI (upI (markedN 0 (liveB x p))) w) := by
  have CR := Lib.hid (fun wx (hb : Below w.heap.size w wx) => implReach_any x (entN x p) v wx (hl.keep (keeps_below hb)) hk (entN_lt hk hp))
  have he := entN_eq hk hp
  have hen := entN_lt hk hp
  have hnn := okK_len hk
  obtain ⟨ga, gc, la, lc, pa, pc, ea, ec, ia, ic, rfl, h1, h2, h3, h4, h5, _⟩ := hl
  obtain ⟨n, hn⟩ : ∃ n, n = x.ins.length := ⟨_, rfl⟩
  rw [← hn] at h5 CR hen hnn ⊢
  have hel : x.entry.length ≤ 9223372036854775807 := by obtain ⟨_, _, _, h, _⟩ := h4; exact h
  have X0 := Lib.hid (Box5.new w (.slice ga x.globals.length gc) (.slice la x.locks.length lc) (.slice pa x.procs.length pc) (.slice ea x.entry.length ec) (.slice ia n ic) 31)
  have B0 := Lib.hid ((Below.refl w.heap.size w).alloc (Nat.le_refl _) (.cells #[.slice ga x.globals.length gc, .slice la x.locks.length lc, .slice pa x.procs.length pc, .slice ea x.entry.length ec, .slice ia n ic] 31))
  have HF : Hid (liveB x p = (reachB x (entN x p)).set (entN x p) true) := rfl
  have hrl := reachB_length x (entN x p)
  obtain ⟨e, hee⟩ : ∃ e, e = entN x p := ⟨_, rfl⟩
  rw [← hee] at he CR HF hrl hen
  obtain ⟨bs, hbs⟩ : ∃ z, z = reachB x e := ⟨_, rfl⟩
  rw [← hbs] at CR HF hrl
  have hbl : bs.length = n := by omega
  have hsl : (bs.set e true).length = n := by rw [List.length_set]; exact hbl
  obtain ⟨a2, c2, e2, _, _, hk4⟩ := h4
  simp at e2
  obtain ⟨rfl, rfl⟩ := e2
  obtain ⟨eg, eo, rfl, hec⟩ := hk4 (by omega)
  have q0 := keeps_below B0.out _ _ (hec p hp)
  rw [he] at q0
  have hpl : (p : Int) < (x.entry.length : Int) := by omega
  rw [HF.out]
  clear h1 h2 h3 h5 hk hk4 hec he hbs hee hrl hn HF
  obtain ⟨W1, hW1⟩ : ∃ W, W = w.alloc (.cells #[.slice ga x.globals.length gc, .slice la x.locks.length lc, .slice pa x.procs.length pc, .slice (some ⟨eg, eo, none⟩) x.entry.length ec, .slice ia n ic] 31) := ⟨_, rfl⟩
  obtain ⟨p0, p1, p2, p3, p4⟩ := X0.out
  have HW1 := Lib.hid hW1
  clear hW1
  go_enter Try.func33, Try.ntmps33
  go_wp2_with fail
  rw [← HW1.out] at p0 p1 p2 p3 p4 q0 B0 ⊢
  refine (CR.out _ B0.out).mono ?_
  rintro en w3 ⟨bv, rfl, hr3, hb3⟩
  rw [hbl] at hr3
  obtain ⟨ba, bc, rfl, hba⟩ := row_shape hr3
  obtain ⟨bg, rfl⟩ := hba (by omega)
  have hbg := (hr3.lt bg rfl).1
  have hw2s : w.heap.size ≤ W1.heap.size := B0.out.size
  have B3 := Lib.hid (B0.out.trans (hb3.mono B0.out.size))
  have c3 := boolV_cell hr3 e (by omega)
  have f3 := hr3.frozenAt e
  obtain ⟨m4, g4⟩ := boolV_set hr3 e true
  have M4 := Lib.hid m4
  have B4 := Lib.hid (B3.out.grown g4 B3.out.size (fun k hk => by cases hk; omega))
  obtain ⟨W4, hW4⟩ : ∃ W, W = w3.setCell ⟨bg, e, none⟩ (.bool true) := ⟨_, rfl⟩
  rw [← hW4] at M4 B4
  have HW4 := Lib.hid hW4
  have CM := Lib.hid (implMarked_any (bs.set e true) _ W1.heap.size W4 (by omega) (by rw [hsl]; exact M4.out))
  clear p0 p1 p2 p3 p4 q0 m4 g4 hba hb3 hr3 hW4
  go_wp2_with fail
  rw [← HW4.out]
  refine CM.out.mono ?_
  rintro en w5 ⟨ov, rfl, hr, hb⟩
  have HRo := Lib.hid (World.ownsRow.mono hr B4.out.size)
  have B5 := Lib.hid (B4.out.trans (hb.mono B4.out.size))
  clear hr hb
  go_wp2_with fail
  go_ret
  exact ⟨_, rfl, HRo.out, B5.out⟩
set_option maxRecDepth 20000 in
set_option maxHeartbeats 3200000 in
theorem implLiveIn_any (x : KTree) (a : Int) (v : Value) (w : World) (hl : KIn w x v) (hz : szK x ≤ 1048576) (hai : InI a) :
    Calls Try.prog 10 #[v, .int .i64 a] w (ListI (upI (liveAns x a)) w) := by
  have CA := Lib.hid (fun wx (hb : Below w.heap.size w wx) => implEndOf_any x a v wx (KIn.lies (hl.keep (keeps_below hb))) hz hai)
  have CR := Lib.hid (fun wx (hb : Below w.heap.size w wx) p (hk : okK x = true) (hp : p < x.entry.length) => implLivePlaces_any x p v wx (hl.keep (keeps_below hb)) hk hp)
  obtain ⟨ga, gc, la, lc, pa, pc, ea, ec, ia, ic, rfl, h1, h2, h3, h4, h5, _⟩ := hl
  obtain ⟨n, hn⟩ : ∃ n, n = x.ins.length := ⟨_, rfl⟩
  rw [← hn] at h5 CA CR ⊢
  have HE4 := Lib.hid h4
  have hel : x.entry.length ≤ 9223372036854775807 := by obtain ⟨_, _, _, h, _⟩ := h4; exact h
  have HN := Lib.hid hn
  have X0 := Lib.hid (Box5.new w (.slice ga x.globals.length gc) (.slice la x.locks.length lc) (.slice pa x.procs.length pc) (.slice ea x.entry.length ec) (.slice ia n ic) 31)
  have B0 := Lib.hid ((Below.refl w.heap.size w).alloc (Nat.le_refl _) (.cells #[.slice ga x.globals.length gc, .slice la x.locks.length lc, .slice pa x.procs.length pc, .slice ea x.entry.length ec, .slice ia n ic] 31))
  obtain ⟨rs, hrs⟩ : ∃ rs, rs = upI (liveAns x a) := ⟨_, rfl⟩
  have HRS := Lib.hid hrs
  rw [← hrs]
  have hzn := endZ_neg (x := x) (a := a)
  obtain ⟨z, hze⟩ : ∃ z, endZ x a = z := ⟨_, rfl⟩
  rw [hze] at CA hzn
  have HZN := Lib.hid hzn
  clear h1 h2 h3 h4 h5 hz hn hrs hze hzn hai
  obtain ⟨W1, hW1⟩ : ∃ W, W = w.alloc (.cells #[.slice ga x.globals.length gc, .slice la x.locks.length lc, .slice pa x.procs.length pc, .slice ea x.entry.length ec, .slice ia n ic] 31) := ⟨_, rfl⟩
  obtain ⟨p0, p1, p2, p3, p4⟩ := X0.out
  rw [← hW1] at X0 B0
  have HW1 := Lib.hid hW1
  clear hW1
  go_enter Try.func10, Try.ntmps10
  go_wp2_with fail
  rw [← HW1.out] at p0 p1 p2 p3 p4 ⊢
  refine (CA.out _ B0.out).mono ?_
  rintro e w2 ⟨rfl, hb⟩
  have B2 := Lib.hid (B0.out.trans (hb.mono B0.out.size))
  have X2 := Lib.hid (X0.out.keep (keeps_below hb))
  clear hb p0 p1 p2 p3 p4
  obtain ⟨p0, p1, p2, p3, p4⟩ := X2.out
  by_cases hz0 : z < 0
  · have HF : Hid (rs = []) := by
      show _ = _
      rw [HRS.out]
      unfold liveAns
      rw [dif_neg (fun h => (HZN.out.1 hz0) ⟨h.1, h.2.1, ?_⟩)]
      · rfl
      · have h2 : kHeads x = true := by have h3 := h.1; unfold okK at h3; rw [Bool.and_eq_true] at h3; exact h3.1
        have := (kHeads_ent h2).2.1
        have := h.2.2
        omega
    go_wp2_with fail
    go_ret
    exact ⟨_, rfl, by rw [HF.out]; exact World.ownsRow_nil _ _ _ _, B2.out⟩
  · have hq : okK x = true ∧ 0 ≤ a ∧ a < (x.procs.length : Int) := Classical.byContradiction fun h => hz0 (HZN.out.2 h)
    obtain ⟨hk, ha0, ha1⟩ := hq
    have hep := okK_procs hk
    obtain ⟨p, rfl⟩ : ∃ p : Nat, a = (p : Int) := ⟨a.toNat, by omega⟩
    have hp : p < x.entry.length := by omega
    have h3 : ((p : Int)).toNat = p := rfl
    have HF : Hid (rs = upI (markedN 0 (liveB x p))) := by
      show _ = _
      rw [HRS.out]
      unfold liveAns
      rw [dif_pos ⟨hk, ha0, by rw [h3]; exact hp⟩]
      unfold liveB entN
      rw [dif_pos hp]
      rfl
    have C := Lib.hid (CR.out w2 B2.out p hk hp)
    rw [← HF.out] at C
    clear hk hep ha1 h3
    go_wp2_with fail
    refine C.out.mono ?_
    rintro en w5 ⟨ov, rfl, hr, hb⟩
    have HRo := Lib.hid (World.ownsRow.mono hr B2.out.size)
    have B5 := Lib.hid (B2.out.trans (hb.mono B2.out.size))
    clear hr hb
    go_wp2_with fail
    go_ret
    exact ⟨_, rfl, HRo.out, B5.out⟩
end Go.Proofs.Ytofmccihehalcab.Trm
/- The laws' comparison of two terms that are the same, walked. Conditions: both lie in memory. -/
namespace Go.Proofs.Ytofmccihehalcab.Trm
open Go.RowKit Go.Proofs.Ytofmccihehalcab.Own
def EqOk (t : Tree) : Prop := ∀ (u v : Value) (w : World), Lies w t u → Lies w t v →
    Calls Try.prog 73 #[u, v] w fun e w' => e = .returned (.bool true) ∧ Below w.heap.size w w'
theorem eqS_any (ks : List Tree) (ih : ∀ t, t ∈ ks → EqOk t) (aa bb : Option Addr) (cap dap : Nat) (w : World) (hlen : ks.length ≤ 9223372036854775807) (hk : 0 < ks.length → ∃ g o, aa = some ⟨g, o, none⟩ ∧ LiesL w g o ks) (hk2 : 0 < ks.length → ∃ g o, bb = some ⟨g, o, none⟩ ∧ LiesL w g o ks) :
    Calls Try.prog 88 #[.slice aa ks.length cap, .slice bb ks.length dap] w fun e w' => e = .returned (.bool true) ∧ Below w.heap.size w w' := by
  have IH := Lib.hid ih
  have HK := Lib.hid hk
  have HK2 := Lib.hid hk2
  clear ih hk hk2
  go_enter Try.func88, Try.ntmps88
  go_wp2
  go_loopw [5] (fun i wr => ∃ (k : Nat), k ≤ ks.length ∧ i = .int .i64 k ∧ Hid (Below w.heap.size w wr))
    (fun i _ => ks.length - (intOf i).toNat)
  case atStart => exact ⟨0, Nat.zero_le _, rfl, Below.refl _ _⟩
  case round =>
    obtain ⟨k, hk, rfl, hbe⟩ := hrel
    by_cases hlt : k < ks.length
    · obtain ⟨g, o, rfl, hl⟩ := HK.out (by omega)
      obtain ⟨h, p, rfl, hm⟩ := HK2.out (by omega)
      obtain ⟨ka, kc, c0, c1, c2, c3, hl2⟩ := (hl.keep (keeps_below hbe.out)).at k hlt
      obtain ⟨la, lc, d0, d1, d2, d3, hm2⟩ := (hm.keep (keeps_below hbe.out)).at k hlt
      have C := Lib.hid (fun w hk => IH.out ks[k] (List.getElem_mem hlt) _ _ w (hl2.keep hk) (hm2.keep hk))
      clear hl hl2 hm hm2
      go_wp2
      go_region_with (go_at_call 73; refine (C.out _ (keeps_drew _)).mono ?_; rintro e w1 ⟨rfl, hb1⟩)
      all_goals
        have HB1 := Lib.hid (hbe.out.trans ((below_of_drew hb1).mono hbe.out.size))
        clear hb1
        go_wp2
        go_roundw
        case rel => exact ⟨k + 1, by omega, by go_num, HB1⟩
        case measure => simp [intOf]; omega
    · go_wp2
      go_ret
      exact ⟨rfl, hbe.out⟩
theorem eqTerm_any : ∀ t : Tree, EqOk t := treeInd fun k n s ks ih u v w hu hv => by
  obtain ⟨h1, h2, h3, h4, aa, cap, rfl, h5⟩ := hu
  obtain ⟨_, _, _, _, bb, dap, rfl, h6⟩ := hv
  have C := Lib.hid (fun w hk hk2 => eqS_any ks ih aa bb cap dap w h4 hk hk2)
  have H5 := Lib.hid h5
  have H6 := Lib.hid h6
  clear ih h5 h6
  go_enter Try.func73, Try.ntmps73
  go_wp2_with fail
  refine (C.out _ (fun h => by obtain ⟨g, o, e, hl⟩ := H5.out h; exact ⟨g, o, e, hl.keep ((keeps_alloc _ _).trans (keeps_alloc _ _))⟩) (fun h => by obtain ⟨g, o, e, hl⟩ := H6.out h; exact ⟨g, o, e, hl.keep ((keeps_alloc _ _).trans (keeps_alloc _ _))⟩)).mono ?_
  rintro e w1 ⟨rfl, hb1⟩
  have HB1 := Lib.hid ((((Below.refl w.heap.size w).alloc (Nat.le_refl _) _).alloc (by simp) _).trans (hb1.mono (by simp; omega)))
  clear hb1
  go_wp2
  go_ret
  exact ⟨rfl, HB1.out⟩
end Go.Proofs.Ytofmccihehalcab.Trm
/- The laws' comparison of two codes that are the same, walked. Conditions: both lie in memory. -/
namespace Go.Proofs.Ytofmccihehalcab.Trm
open Go.RowKit Go.Proofs.Ytofmccihehalcab.Own
set_option maxHeartbeats 800000 in
theorem eqIns_any (x : InsT) (u v : Value) (w : World) (hu : ILies w x u) (hv : ILies w x v) :
    Calls Try.prog 52 #[u, v] w fun e w' => e = .returned (.bool true) ∧ Below w.heap.size w w' := by
  obtain ⟨_, _, _, ba, bc, rfl, h6⟩ := hu
  obtain ⟨_, _, _, da, dc, rfl, i6⟩ := hv
  have CT := Lib.hid (fun w hk => eqTerm_any x.term _ _ w (h6.keep hk) (i6.keep hk))
  have X0 := Lib.hid ((Box7.new w (.int .i64 x.op) (.int .i64 x.arg) (.int .i64 x.term.kind) (.int .i64 x.term.num) (.string x.term.name) (.slice ba x.term.kids.length bc) (.int .i64 x.to) 66).keep (keeps_alloc _ (.cells #[.int .i64 x.op, .int .i64 x.arg, .int .i64 x.term.kind, .int .i64 x.term.num, .string x.term.name, .slice da x.term.kids.length dc, .int .i64 x.to] 66)))
  have Y0 := Lib.hid (Box7.new (w.alloc (.cells #[.int .i64 x.op, .int .i64 x.arg, .int .i64 x.term.kind, .int .i64 x.term.num, .string x.term.name, .slice ba x.term.kids.length bc, .int .i64 x.to] 66)) (.int .i64 x.op) (.int .i64 x.arg) (.int .i64 x.term.kind) (.int .i64 x.term.num) (.string x.term.name) (.slice da x.term.kids.length dc) (.int .i64 x.to) 66)
  have hsz0 : (w.alloc (.cells #[.int .i64 x.op, .int .i64 x.arg, .int .i64 x.term.kind, .int .i64 x.term.num, .string x.term.name, .slice ba x.term.kids.length bc, .int .i64 x.to] 66)).heap.size = w.heap.size + 1 := by simp
  rw [hsz0] at Y0
  clear h6 i6 hsz0
  go_enter Try.func52, Try.ntmps52
  go_wp2_with fail
  refine (CT.out _ ((keeps_alloc _ _).trans (keeps_alloc _ _))).mono ?_
  rintro e1 w1 ⟨rfl, hb1⟩
  have B1 := Lib.hid (below_box1 (below_box1 hb1))
  obtain ⟨p0, p1, p2, p3, p4, p5, p6⟩ := X0.out.keep (keeps_below hb1)
  obtain ⟨q0, q1, q2, q3, q4, q5, q6⟩ := Y0.out.keep (keeps_below hb1)
  clear hb1
  go_wp2
  go_ret
  exact ⟨rfl, B1.out⟩
set_option maxHeartbeats 1600000 in
theorem eqInsS_any (xs : List InsT) (va vb : Value) (w : World) (h1 : IsAt w va xs) (h2 : IsAt w vb xs) :
    Calls Try.prog 35 #[va, vb] w fun e w' => e = .returned (.bool true) ∧ Below w.heap.size w w' := by
  obtain ⟨hlen, aa, cap, rfl, hk⟩ := h1
  obtain ⟨_, bb, dap, rfl, hk2⟩ := h2
  have HK := Lib.hid hk
  have HK2 := Lib.hid hk2
  clear hk hk2
  go_enter Try.func35, Try.ntmps35
  go_wp2
  go_loopw [5] (fun i wr => ∃ (k : Nat), k ≤ xs.length ∧ i = .int .i64 k ∧ Hid (Below w.heap.size w wr))
    (fun i _ => xs.length - (intOf i).toNat)
  case atStart => exact ⟨0, Nat.zero_le _, rfl, Below.refl _ _⟩
  case round =>
    obtain ⟨k, hk, rfl, hbe⟩ := hrel
    by_cases hlt : k < xs.length
    · obtain ⟨g, o, rfl, hl⟩ := HK.out (by omega)
      obtain ⟨h, p, rfl, hm⟩ := HK2.out (by omega)
      obtain ⟨i0, i1, i2, ba, bc, c0, c1, c2, c3, c4, c5, c6, hl2⟩ := (hl k hlt).keep (keeps_below hbe.out)
      obtain ⟨_, _, _, da, dc, d0, d1, d2, d3, d4, d5, d6, hm2⟩ := (hm k hlt).keep (keeps_below hbe.out)
      have C : Hid (∀ wx, Below wr.heap.size wr wx → Calls Try.prog 52 #[.agg #[.int .i64 xs[k].op, .int .i64 xs[k].arg, .int .i64 xs[k].term.kind, .int .i64 xs[k].term.num, .string xs[k].term.name, .slice ba xs[k].term.kids.length bc, .int .i64 xs[k].to], .agg #[.int .i64 xs[k].op, .int .i64 xs[k].arg, .int .i64 xs[k].term.kind, .int .i64 xs[k].term.num, .string xs[k].term.name, .slice da xs[k].term.kids.length dc, .int .i64 xs[k].to]] wx fun e w' => e = .returned (.bool true) ∧ Below wr.heap.size wr w') :=
        fun wx hb => (eqIns_any xs[k] _ _ wx ⟨i0, i1, i2, ba, bc, rfl, hl2.keep (keeps_below hb)⟩ ⟨i0, i1, i2, da, dc, rfl, hm2.keep (keeps_below hb)⟩).mono fun e w' ⟨he, h⟩ => ⟨he, hb.trans (h.mono hb.size)⟩
      have KS : Hid (∀ wx, Below wr.heap.size wr wx → wx.cell? ⟨g, o + k * 7, none⟩ = some (.int .i64 xs[k].op) ∧ wx.cell? ⟨g, o + k * 7 + 1, none⟩ = some (.int .i64 xs[k].arg) ∧ wx.cell? ⟨g, o + k * 7 + 2, none⟩ = some (.int .i64 xs[k].term.kind) ∧ wx.cell? ⟨g, o + k * 7 + 3, none⟩ = some (.int .i64 xs[k].term.num) ∧ wx.cell? ⟨g, o + k * 7 + 4, none⟩ = some (.string xs[k].term.name) ∧ wx.cell? ⟨g, o + k * 7 + 5, none⟩ = some (.slice ba xs[k].term.kids.length bc) ∧ wx.cell? ⟨g, o + k * 7 + 6, none⟩ = some (.int .i64 xs[k].to) ∧ wx.cell? ⟨h, p + k * 7, none⟩ = some (.int .i64 xs[k].op) ∧ wx.cell? ⟨h, p + k * 7 + 1, none⟩ = some (.int .i64 xs[k].arg) ∧ wx.cell? ⟨h, p + k * 7 + 2, none⟩ = some (.int .i64 xs[k].term.kind) ∧ wx.cell? ⟨h, p + k * 7 + 3, none⟩ = some (.int .i64 xs[k].term.num) ∧ wx.cell? ⟨h, p + k * 7 + 4, none⟩ = some (.string xs[k].term.name) ∧ wx.cell? ⟨h, p + k * 7 + 5, none⟩ = some (.slice da xs[k].term.kids.length dc) ∧ wx.cell? ⟨h, p + k * 7 + 6, none⟩ = some (.int .i64 xs[k].to) ∧ Below wr.heap.size wr wx) := fun wx hb => by
        have hk := keeps_below hb
        exact ⟨hk _ _ c0, hk _ _ c1, hk _ _ c2, hk _ _ c3, hk _ _ c4, hk _ _ c5, hk _ _ c6, hk _ _ d0, hk _ _ d1, hk _ _ d2, hk _ _ d3, hk _ _ d4, hk _ _ d5, hk _ _ d6, hb⟩
      have b0 : Below wr.heap.size wr wr.drew := (Below.refl _ _).drew
      clear hl hl2 hm hm2 c0 c1 c2 c3 c4 c5 c6 d0 d1 d2 d3 d4 d5 d6 i0 i1 i2
      go_wp2_with fail
      go_region_held3 (fun wx => wx.cell? ⟨g, o + k * 7, none⟩ = some (.int .i64 xs[k].op) ∧ wx.cell? ⟨g, o + k * 7 + 1, none⟩ = some (.int .i64 xs[k].arg) ∧ wx.cell? ⟨g, o + k * 7 + 2, none⟩ = some (.int .i64 xs[k].term.kind) ∧ wx.cell? ⟨g, o + k * 7 + 3, none⟩ = some (.int .i64 xs[k].term.num) ∧ wx.cell? ⟨g, o + k * 7 + 4, none⟩ = some (.string xs[k].term.name) ∧ wx.cell? ⟨g, o + k * 7 + 5, none⟩ = some (.slice ba xs[k].term.kids.length bc) ∧ wx.cell? ⟨g, o + k * 7 + 6, none⟩ = some (.int .i64 xs[k].to) ∧ wx.cell? ⟨h, p + k * 7, none⟩ = some (.int .i64 xs[k].op) ∧ wx.cell? ⟨h, p + k * 7 + 1, none⟩ = some (.int .i64 xs[k].arg) ∧ wx.cell? ⟨h, p + k * 7 + 2, none⟩ = some (.int .i64 xs[k].term.kind) ∧ wx.cell? ⟨h, p + k * 7 + 3, none⟩ = some (.int .i64 xs[k].term.num) ∧ wx.cell? ⟨h, p + k * 7 + 4, none⟩ = some (.string xs[k].term.name) ∧ wx.cell? ⟨h, p + k * 7 + 5, none⟩ = some (.slice da xs[k].term.kids.length dc) ∧ wx.cell? ⟨h, p + k * 7 + 6, none⟩ = some (.int .i64 xs[k].to) ∧ Below wr.heap.size wr wx)
        (exact KS.out _ (by assumption))
        (first
        | (go_at_call 52; (with_reducible refine (C.out _ (by assumption)).mono ?_); rintro e w1 ⟨rfl, b1⟩))
      all_goals
        have HB1 := Lib.hid (hbe.out.trans (b1.mono hbe.out.size))
        clear b1
        go_wp2
        go_roundw
        case rel => exact ⟨k + 1, by omega, by go_num, HB1⟩
        case measure => simp [intOf]; omega
    · go_wp2
      go_ret
      exact ⟨rfl, hbe.out⟩
set_option maxHeartbeats 1600000 in
theorem eqCode_any (x : KTree) (u v : Value) (w : World) (hu : KLies w x u) (hv : KLies w x v) :
    Calls Try.prog 12 #[u, v] w fun e w' => e = .returned (.bool true) ∧ Below w.heap.size w w' := by
  obtain ⟨ga, gc, la, lc, pa, pc, ea, ec, ia, ic, rfl, h1, h2, h3, h4, h5⟩ := hu
  obtain ⟨ga2, gc2, la2, lc2, pa2, pc2, ea2, ec2, ia2, ic2, rfl, i1, i2, i3, i4, i5⟩ := hv
  have C1 := Lib.hid (fun w hk => eqStrs_at (.slice ga x.globals.length gc) (.slice ga2 x.globals.length gc2) x.globals w (h1.1.keep hk) (i1.1.keep hk))
  have C2 := Lib.hid (fun w hk => eqStrs_at (.slice la x.locks.length lc) (.slice la2 x.locks.length lc2) x.locks w (h2.1.keep hk) (i2.1.keep hk))
  have C3 := Lib.hid (fun w hk => eqStrs_at (.slice pa x.procs.length pc) (.slice pa2 x.procs.length pc2) x.procs w (h3.1.keep hk) (i3.1.keep hk))
  have C4 := Lib.hid (fun w hk => eqInts_at (.slice ea x.entry.length ec) (.slice ea2 x.entry.length ec2) x.entry w (h4.keep hk) (i4.keep hk))
  have C5 := Lib.hid (fun w hk => eqInsS_any x.ins (.slice ia x.ins.length ic) (.slice ia2 x.ins.length ic2) w (h5.keep hk) (i5.keep hk))
  have X0 := Lib.hid ((Box5.new w (.slice ga x.globals.length gc) (.slice la x.locks.length lc) (.slice pa x.procs.length pc) (.slice ea x.entry.length ec) (.slice ia x.ins.length ic) 31).keep (keeps_alloc _ (.cells #[.slice ga2 x.globals.length gc2, .slice la2 x.locks.length lc2, .slice pa2 x.procs.length pc2, .slice ea2 x.entry.length ec2, .slice ia2 x.ins.length ic2] 31)))
  have Y0 := Lib.hid (Box5.new (w.alloc (.cells #[.slice ga x.globals.length gc, .slice la x.locks.length lc, .slice pa x.procs.length pc, .slice ea x.entry.length ec, .slice ia x.ins.length ic] 31)) (.slice ga2 x.globals.length gc2) (.slice la2 x.locks.length lc2) (.slice pa2 x.procs.length pc2) (.slice ea2 x.entry.length ec2) (.slice ia2 x.ins.length ic2) 31)
  have hsz0 : (w.alloc (.cells #[.slice ga x.globals.length gc, .slice la x.locks.length lc, .slice pa x.procs.length pc, .slice ea x.entry.length ec, .slice ia x.ins.length ic] 31)).heap.size = w.heap.size + 1 := by simp
  rw [hsz0] at Y0
  clear h1 h2 h3 h4 h5 i1 i2 i3 i4 i5 hsz0
  go_enter Try.func12, Try.ntmps12
  go_wp2_with fail
  refine (C1.out _ ((keeps_alloc _ _).trans (keeps_alloc _ _))).mono ?_
  rintro e1 w1 ⟨rfl, hb1⟩
  have K1 := Lib.hid (((keeps_alloc w _).trans (keeps_alloc _ _)).trans (keeps_below hb1))
  have B1 := Lib.hid (below_box1 (below_box1 hb1))
  have X1 := Lib.hid (X0.out.keep (keeps_below hb1))
  have Y1 := Lib.hid (Y0.out.keep (keeps_below hb1))
  obtain ⟨p0, p1, p2, p3, p4⟩ := X1.out
  obtain ⟨q0, q1, q2, q3, q4⟩ := Y1.out
  clear hb1
  go_wp2_with fail
  refine (C2.out _ K1.out).mono ?_
  rintro e2 w2 ⟨rfl, hb2⟩
  have K2 := Lib.hid (K1.out.trans (keeps_below hb2))
  have B2 := Lib.hid (B1.out.trans (hb2.mono B1.out.size))
  have X2 := Lib.hid (X1.out.keep (keeps_below hb2))
  have Y2 := Lib.hid (Y1.out.keep (keeps_below hb2))
  clear hb2 p0 p1 p2 p3 p4 q0 q1 q2 q3 q4
  obtain ⟨p0, p1, p2, p3, p4⟩ := X2.out
  obtain ⟨q0, q1, q2, q3, q4⟩ := Y2.out
  go_wp2_with fail
  refine (C3.out _ K2.out).mono ?_
  rintro e3 w3 ⟨rfl, hb3⟩
  have K3 := Lib.hid (K2.out.trans (keeps_below hb3))
  have B3 := Lib.hid (B2.out.trans (hb3.mono B2.out.size))
  have X3 := Lib.hid (X2.out.keep (keeps_below hb3))
  have Y3 := Lib.hid (Y2.out.keep (keeps_below hb3))
  clear hb3 p0 p1 p2 p3 p4 q0 q1 q2 q3 q4
  obtain ⟨p0, p1, p2, p3, p4⟩ := X3.out
  obtain ⟨q0, q1, q2, q3, q4⟩ := Y3.out
  go_wp2_with fail
  refine (C4.out _ K3.out).mono ?_
  rintro e4 w4 ⟨rfl, hb4⟩
  have K4 := Lib.hid (K3.out.trans (keeps_below hb4))
  have B4 := Lib.hid (B3.out.trans (hb4.mono B3.out.size))
  have X4 := Lib.hid (X3.out.keep (keeps_below hb4))
  have Y4 := Lib.hid (Y3.out.keep (keeps_below hb4))
  clear hb4 p0 p1 p2 p3 p4 q0 q1 q2 q3 q4
  obtain ⟨p0, p1, p2, p3, p4⟩ := X4.out
  obtain ⟨q0, q1, q2, q3, q4⟩ := Y4.out
  go_wp2_with fail
  refine (C5.out _ K4.out).mono ?_
  rintro e5 w5 ⟨rfl, hb5⟩
  have B5 := Lib.hid (B4.out.trans (hb5.mono B4.out.size))
  clear hb5
  go_wp2
  go_ret
  exact ⟨rfl, B5.out⟩
end Go.Proofs.Ytofmccihehalcab.Trm
