/- The program's own reading of one statement as one that is right, walked, by its kind. Conditions: it lies in rows that are not frozen; at most 6 kinds with statements are left. With what it stands on, in one text. -/
import Derived.Test.YtkfeiekgdfklmaaGreatDoorSoPackD
import Derived.Test.YtkfeiekgdfklmaaGreatDoorSRight
import Derived.Test.YtkfeiekgdfklmaaGreatDoorFreeX
import Derived.Test.YtkfeiekgdfklmaaGreatDoorChecked
import Derived.Deep.RegionHeld3
import Derived.Deep.DeepCutAuto
import Derived.Test.YtkfeiekgdfklmaaGreatDoorNameImpl
/- Right statements as the program keeps them; what it asks of one statement aside from those within it. Conditions: the statements lie in rows that are not frozen. -/
namespace Go.Proofs.YtkfeiekgdfklmaaGreatDoor.Trm
open Go.RowKit Own Lexs
/-- What stands ahead of a name. -/
def wordB (k : Int) : ByteArray := if k = 4 then ⟨#[99, 97, 108, 108]⟩ else if k = 5 then ⟨#[115, 112, 97, 119, 110]⟩ else if k = 6 then ⟨#[108, 111, 99, 107]⟩ else if k = 7 then ⟨#[117, 110, 108, 111, 99, 107]⟩ else ⟨#[]⟩
mutual
/-- A right statement's value, what is within it in blocks from a number on. -/
def RV (lo : Nat) (w : World) : STree → Value → Prop
  | .node k s t b e, v =>
    if k = 1 then v = .iface 230 (.agg #[.string s, rtV t])
    else if k = 2 then ∃ a c, v = .iface 236 (.agg #[rtV t, .slice a b.length b.length, .slice c e.length e.length]) ∧ (0 < b.length → ∃ g, lo ≤ g ∧ a = some ⟨g, 0, none⟩ ∧ RVL lo w g 0 b) ∧ (0 < e.length → ∃ g, lo ≤ g ∧ c = some ⟨g, 0, none⟩ ∧ RVL lo w g 0 e)
    else if k = 3 then ∃ a, v = .iface 238 (.agg #[rtV t, .slice a b.length b.length]) ∧ (0 < b.length → ∃ g, lo ≤ g ∧ a = some ⟨g, 0, none⟩ ∧ RVL lo w g 0 b)
    else if k = 8 then v = .iface 240 (.agg #[])
    else v = .iface 242 (.agg #[.string s, .string (wordB k)])
def RVL (lo : Nat) (w : World) (g o : Nat) : List STree → Prop
  | [] => True
  | x :: xs => (∃ u, w.cell? ⟨g, o, none⟩ = some u ∧ RV lo w x u) ∧ RVL lo w g (o + 1) xs
end
/-- What lies in blocks from a number on is kept. -/
def KeepsF (lo : Nat) (w w' : World) : Prop := ∀ p u, lo ≤ p.block → w.cell? p = some u → w'.cell? p = some u
theorem Keeps.from {w w' : World} (h : Keeps w w') (lo : Nat) : KeepsF lo w w' := fun p u _ e => h p u e
mutual
theorem RV.keep {lo lo' : Nat} {w w' : World} (hl : lo' ≤ lo) (hk : KeepsF lo w w') : ∀ {x : STree} {v : Value}, RV lo w x v → RV lo' w' x v
  | .node k s t b e, v, h => by
    unfold RV at h ⊢
    by_cases h1 : k = 1
    · rw [if_pos h1] at h ⊢; exact h
    · rw [if_neg h1] at h ⊢
      by_cases h2 : k = 2
      · rw [if_pos h2] at h ⊢
        obtain ⟨a, c, e1, hb, he⟩ := h
        refine ⟨a, c, e1, fun hp => ?_, fun hp => ?_⟩
        · obtain ⟨g, h0, e2, h3⟩ := hb hp; exact ⟨g, Nat.le_trans hl h0, e2, RVL.keep hl hk h0 h3⟩
        · obtain ⟨g, h0, e2, h3⟩ := he hp; exact ⟨g, Nat.le_trans hl h0, e2, RVL.keep hl hk h0 h3⟩
      · rw [if_neg h2] at h ⊢
        by_cases h3 : k = 3
        · rw [if_pos h3] at h ⊢
          obtain ⟨a, e1, hb⟩ := h
          refine ⟨a, e1, fun hp => ?_⟩
          obtain ⟨g, h0, e2, h3⟩ := hb hp; exact ⟨g, Nat.le_trans hl h0, e2, RVL.keep hl hk h0 h3⟩
        · rw [if_neg h3] at h ⊢; exact h
theorem RVL.keep {lo lo' : Nat} {w w' : World} (hl : lo' ≤ lo) (hk : KeepsF lo w w') : ∀ {xs : List STree} {g o : Nat}, lo ≤ g → RVL lo w g o xs → RVL lo' w' g o xs
  | [], _, _, _, _ => trivial
  | x :: xs, g, o, hg, h => by
    obtain ⟨⟨u, hc, hv⟩, hr⟩ := h
    exact ⟨⟨u, hk _ _ hg hc, RV.keep hl hk hv⟩, RVL.keep hl hk hg hr⟩
end
theorem RVL.at {lo : Nat} {w : World} : ∀ {xs : List STree} {g o : Nat}, RVL lo w g o xs → ∀ i (h : i < xs.length), ∃ u, w.cell? ⟨g, o + i, none⟩ = some u ∧ RV lo w xs[i] u
  | [], _, _, _, i, h => absurd h (by simp)
  | x :: xs, g, o, h, 0, _ => h.1
  | x :: xs, g, o, h, i + 1, hi => by
    have := RVL.at h.2 i (by simpa using hi)
    rw [show o + 1 + i = o + (i + 1) from by omega] at this
    exact this
theorem RVL.of {lo : Nat} {w : World} : ∀ {xs : List STree} {g o : Nat}, (∀ i (h : i < xs.length), ∃ u, w.cell? ⟨g, o + i, none⟩ = some u ∧ RV lo w xs[i] u) → RVL lo w g o xs
  | [], _, _, _ => trivial
  | x :: xs, g, o, h => ⟨h 0 (by simp), RVL.of fun i hi => by
    have := h (i + 1) (by simpa using hi)
    rw [show o + (i + 1) = o + 1 + i from by omega] at this
    exact this⟩
/-- A list of right statements. -/
def LV (lo : Nat) (w : World) (xs : List STree) (v : Value) : Prop := ∃ a, v = .slice a xs.length xs.length ∧ (0 < xs.length → ∃ g, lo ≤ g ∧ a = some ⟨g, 0, none⟩ ∧ RVL lo w g 0 xs)
theorem LV.keep {lo lo' : Nat} {w w' : World} (hl : lo' ≤ lo) (hk : KeepsF lo w w') {xs : List STree} {v : Value} (h : LV lo w xs v) : LV lo' w' xs v := by
  obtain ⟨a, e, h⟩ := h
  refine ⟨a, e, fun hp => ?_⟩
  obtain ⟨g, h0, e2, h3⟩ := h hp
  exact ⟨g, Nat.le_trans hl h0, e2, h3.keep hl hk h0⟩
theorem RV.iface {lo : Nat} {w : World} {x : STree} {v : Value} (h : RV lo w x v) : ∃ ty pv, v = .iface ty pv := by
  cases x with
  | node k s t b e =>
    unfold RV at h
    split at h
    · exact ⟨_, _, h⟩
    · split at h
      · obtain ⟨_, _, h, _⟩ := h; exact ⟨_, _, h⟩
      · split at h
        · obtain ⟨_, h, _⟩ := h; exact ⟨_, _, h⟩
        · split at h
          · exact ⟨_, _, h⟩
          · exact ⟨_, _, h⟩
theorem implWord_any (k : Int) (w : World) : Calls Tryz.prog 189 #[.int .i64 k] w fun e w' => e = .returned (.string (wordB k)) ∧ w = w' := by
  by_cases h : k = 4 ∨ k = 5 ∨ k = 6 ∨ k = 7
  · rcases h with rfl | rfl | rfl | rfl
    all_goals
      go_enter Tryz.func189, Tryz.ntmps189
      go_wp2
      go_ret
      exact ⟨rfl, rfl⟩
  · have e4 := ne_true (k := k) (x := 4) (by omega)
    have e5 := ne_true (k := k) (x := 5) (by omega)
    have e6 := ne_true (k := k) (x := 6) (by omega)
    have e7 := ne_true (k := k) (x := 7) (by omega)
    have HS : Hid (wordB k = ⟨#[]⟩) := by
      show _ = _
      unfold wordB
      rw [if_neg (by omega), if_neg (by omega), if_neg (by omega), if_neg (by omega)]
    clear h
    go_enter Tryz.func189, Tryz.ntmps189
    go_wp2
    go_ret
    exact ⟨by rw [HS.out]; rfl, rfl⟩
theorem wordB_none {k : Int} (h : ¬ (k = 4 ∨ k = 5 ∨ k = 6 ∨ k = 7)) : wordB k = ⟨#[]⟩ := by
  unfold wordB
  rw [if_neg (by omega), if_neg (by omega), if_neg (by omega), if_neg (by omega)]
def noLists (b e : List STree) : Bool := decide (b.length = 0) && decide (e.length = 0)
theorem implNoLists_any (x : STree) (ta ba ea : Option Addr) (tc bc ec : Nat) (w : World) :
    Calls Tryz.prog 187 #[.agg #[.int .i64 x.kind, .string x.name, .int .i64 x.term.kind, .int .i64 x.term.num, .string x.term.name, .slice ta x.term.kids.length tc, .slice ba x.body.length bc, .slice ea x.els.length ec]] w fun e w' => e = .returned (.bool (noLists x.body x.els)) ∧ Below w.heap.size w w' := by
  have HR : Hid (noLists x.body x.els = (decide (x.body.length = 0) && decide (x.els.length = 0))) := rfl
  by_cases h1 : x.body.length = 0
  · have hq : ((x.body.length : Int) == 0) = true := by rw [h1]; rfl
    by_cases h2 : x.els.length = 0
    · have hq2 : ((x.els.length : Int) == 0) = true := by rw [h2]; rfl
      have HF : Hid (noLists x.body x.els = true) := by show _ = _; rw [HR.out]; simp [h1, h2]
      clear h1 h2
      go_enter Tryz.func187, Tryz.ntmps187
      go_wp2
      go_ret
      exact ⟨ret_b (by rw [HF.out]), (Below.refl _ _).alloc (Nat.le_refl _) _⟩
    · have hq2 : ((x.els.length : Int) == 0) = false := ne_true (by omega)
      have HF : Hid (noLists x.body x.els = false) := by show _ = _; rw [HR.out]; simp [h2]
      clear h1 h2
      go_enter Tryz.func187, Tryz.ntmps187
      go_wp2
      go_ret
      exact ⟨ret_b (by rw [HF.out]), (Below.refl _ _).alloc (Nat.le_refl _) _⟩
  · have hq : ((x.body.length : Int) == 0) = false := ne_true (by omega)
    have HF : Hid (noLists x.body x.els = false) := by show _ = _; rw [HR.out]; simp [h1]
    clear h1
    go_enter Tryz.func187, Tryz.ntmps187
    go_wp2
    go_ret
    exact ⟨ret_b (by rw [HF.out]), (Below.refl _ _).alloc (Nat.le_refl _) _⟩
/-- A statement that lies both ways. -/
structure SB (w : World) (x : STree) (v : Value) : Prop where
  l : SLies w x v
  f : SLiesF w x v
theorem SB.below {w w' : World} {x : STree} {v : Value} (h : SB w x v) (hb : Below w.heap.size w w') : SB w' x v := ⟨h.l.keep (keeps_below hb), h.f.keep (keepF_below hb)⟩
structure SBL (w : World) (xs : List STree) (v : Value) : Prop where
  l : SListAt w v xs
  f : SListF w v xs
theorem SBL.below {w w' : World} {xs : List STree} {v : Value} (h : SBL w xs v) (hb : Below w.heap.size w w') : SBL w' xs v := ⟨h.l.keep (keeps_below hb), h.f.keep (keepF_below hb)⟩
theorem SB.parts {w : World} {x : STree} {v : Value} (h : SB w x v) : InI x.kind ∧ x.name.size ≤ 9223372036854775807 ∧ ∃ ta tc ba bc ea ec, v = .agg #[.int .i64 x.kind, .string x.name, .int .i64 x.term.kind, .int .i64 x.term.num, .string x.term.name, .slice ta x.term.kids.length tc, .slice ba x.body.length bc, .slice ea x.els.length ec] ∧ Lies w x.term (.agg #[.int .i64 x.term.kind, .int .i64 x.term.num, .string x.term.name, .slice ta x.term.kids.length tc]) ∧ LiesF w x.term (.agg #[.int .i64 x.term.kind, .int .i64 x.term.num, .string x.term.name, .slice ta x.term.kids.length tc]) ∧ SBL w x.body (.slice ba x.body.length bc) ∧ SBL w x.els (.slice ea x.els.length ec) := by
  obtain ⟨h1, h2, _, _, ta, tc, ba, bc, ea, ec, rfl, h5, _, _⟩ := h.l.parts
  have hl := h.l.lists
  have hf := h.f.lists
  exact ⟨h1, h2, ta, tc, ba, bc, ea, ec, rfl, h5, hf.1, ⟨hl.2.1, hf.2.1⟩, ⟨hl.2.2, hf.2.2⟩⟩
theorem SBL.at {w : World} {xs : List STree} {a : Option Addr} {n c : Nat} (h : SBL w xs (.slice a n c)) (i : Nat) (hi : i < xs.length) : ∃ g o ta tc ba bc ea ec, a = some ⟨g, o, none⟩ ∧ w.cell? ⟨g, o + i * 8, none⟩ = some (.int .i64 xs[i].kind) ∧ w.cell? ⟨g, o + i * 8 + 1, none⟩ = some (.string xs[i].name) ∧ w.cell? ⟨g, o + i * 8 + 2, none⟩ = some (.int .i64 xs[i].term.kind) ∧ w.cell? ⟨g, o + i * 8 + 3, none⟩ = some (.int .i64 xs[i].term.num) ∧ w.cell? ⟨g, o + i * 8 + 4, none⟩ = some (.string xs[i].term.name) ∧ w.cell? ⟨g, o + i * 8 + 5, none⟩ = some (.slice ta xs[i].term.kids.length tc) ∧ w.cell? ⟨g, o + i * 8 + 6, none⟩ = some (.slice ba xs[i].body.length bc) ∧ w.cell? ⟨g, o + i * 8 + 7, none⟩ = some (.slice ea xs[i].els.length ec) ∧ SB w xs[i] (.agg #[.int .i64 xs[i].kind, .string xs[i].name, .int .i64 xs[i].term.kind, .int .i64 xs[i].term.num, .string xs[i].term.name, .slice ta xs[i].term.kids.length tc, .slice ba xs[i].body.length bc, .slice ea xs[i].els.length ec]) := by
  obtain ⟨_, a1, c1, e1, hl⟩ := h.l
  obtain ⟨_, a2, c2, e2, hf⟩ := h.f
  simp at e1 e2
  obtain ⟨rfl, _, rfl⟩ := e1
  obtain ⟨rfl, _, rfl⟩ := e2
  obtain ⟨g, o, e3, l1⟩ := hl (by omega)
  obtain ⟨g', o', e4, _, l2⟩ := hf (by omega)
  rw [e3] at e4
  simp at e4
  obtain ⟨rfl, rfl⟩ := e4
  obtain ⟨ta, tc, ba, bc, ea, ec, c0, c1, c2, c3, c4, c5, c6, c7, hx⟩ := l1.at i hi
  obtain ⟨ua, uc, da, dc, fa, fc, d0, d1, d2, d3, d4, d5, d6, d7, hy⟩ := l2.at i hi
  rw [c5] at d5
  rw [c6] at d6
  rw [c7] at d7
  simp at d5 d6 d7
  obtain ⟨rfl, rfl⟩ := d5
  obtain ⟨rfl, rfl⟩ := d6
  obtain ⟨rfl, rfl⟩ := d7
  exact ⟨g, o, ta, tc, ba, bc, ea, ec, e3, c0, c1, c2, c3, c4, c5, c6, c7, hx, hy⟩
end Go.Proofs.YtkfeiekgdfklmaaGreatDoor.Trm
/- A region that draws its order, walked once in the order of its text, under one condition on the world: what is not wanted is passed over, a call is met where it alone may come up. Cases may be parted between two operations. -/
namespace Go.Proofs.YtkfeiekgdfklmaaGreatDoor.RegSeq
open Go
section
variable {P : Program} {ops : Array Oper} {Q : Exit → Act → World → Prop} {S : World → Prop}
/-- The first k have come up. -/
def ls (n k : Nat) : Array Bool := (List.replicate k true ++ List.replicate (n - k) false).toArray
theorem ls_set {n k : Nat} (h : k < n) : (ls n k).setIfInBounds k true = ls n (k + 1) := by
  unfold ls
  rw [List.setIfInBounds_toArray]
  congr 1
  apply List.ext_getElem
  · simp; omega
  · intro i h1 h2
    simp only [List.getElem_set, List.getElem_append, List.length_replicate, List.getElem_replicate]
    split <;> split <;> (try split) <;> first | rfl | omega
theorem ls_zero (n : Nat) : ls n 0 = Array.replicate n false := by
  unfold ls
  simp
def okAt (ops : Array Oper) (k : Nat) : Bool := (Region.ready .any ops (ls ops.size k)).contains k && Region.free .any ops (ls ops.size k) k
def okAll (ops : Array Oper) : Bool := Region.noSelect ops && (List.range ops.size).all (okAt ops) && (Region.ready .any ops (ls ops.size ops.size)).isEmpty
/-- What is left of the region from number k on. -/
def Seq (P : Program) (ops : Array Oper) (Q : Exit → Act → World → Prop) (S : World → Prop) (k : Nat) (a : Act) (w : World) : Prop :=
  okAll ops = true → wpAnyH P .any ops (NoPanic Q) S (ops.size - k) (ls ops.size k) a w
theorem seq_start {id : Nat} {a : Act} {w : World} (hm : P.follows .mixedOrders = true) (hok : okAll ops = true) (hS : S w.drew)
    (h : S w.drew → Seq P ops Q S 0 a w.drew) : (Code.region id ops true).wp P Q a w :=
  wp_region_noPanic (wp_region_held_drew hm hS fun hs => by rw [← ls_zero]; exact h hs hok)
theorem ok_parts (hok : okAll ops = true) {k : Nat} (hk : k < ops.size) : Region.noSelect ops = true ∧ (Region.ready .any ops (ls ops.size k)).contains k = true ∧ Region.free .any ops (ls ops.size k) k = true := by
  unfold okAll at hok
  simp only [Bool.and_eq_true] at hok
  have h2 := List.all_eq_true.1 hok.1.2 k (List.mem_range.2 hk)
  unfold okAt at h2
  simp only [Bool.and_eq_true] at h2
  exact ⟨hok.1.1, h2.1, h2.2⟩
theorem lt_of_op {k : Nat} {o : Oper} (hk : ops[k]? = some o) : k < ops.size := (Array.getElem?_eq_some_iff.1 hk).1
theorem Seq.yields {k : Nat} {o : Oper} {v : Value} {a : Act} {w : World} (hk : ops[k]? = some o) (hy : YieldsIf P ops S o v a) (hS : S w)
    (h : Seq P ops Q S (k + 1) (a.put o.dst v) w) : Seq P ops Q S k a w := fun hok => by
  have hlt := lt_of_op hk
  obtain ⟨h1, h2, h3⟩ := ok_parts hok hlt
  have e : ops.size - k = (ops.size - (k + 1)) + 1 := by omega
  rw [e]
  refine wpAnyH_take hk h1 h3 h2 (fun c _ _ h => (h : False).elim) hy hS ?_
  rw [ls_set hlt]
  exact h hok
/-- It is wanted, and yields v in every world that meets S. -/
theorem Seq.take {k : Nat} {o : Oper} {v : Value} {a : Act} {w : World} (hk : ops[k]? = some o) (hw : Region.wanted o (yielded ops a.tmps) = true)
    (hv : ∀ w, S w → (execOp a.eval o).run P w = .ok (.value v) w) (hS : S w)
    (h : Seq P ops Q S (k + 1) (a.put o.dst v) w) : Seq P ops Q S k a w := Seq.yields hk (.inl ⟨hw, hv⟩) hS h
theorem Seq.skip {k : Nat} {o : Oper} {a : Act} {w : World} (hk : ops[k]? = some o) (hw : Region.wanted o (yielded ops a.tmps) = false) (hS : S w)
    (h : Seq P ops Q S (k + 1) (a.put o.dst undef) w) : Seq P ops Q S k a w := Seq.yields hk (.inr ⟨hw, rfl⟩) hS h
/-- It alone may come up. -/
theorem Seq.step {k : Nat} {o : Oper} {a : Act} {w : World} (hk : ops[k]? = some o) (hr : Region.ready .any ops (ls ops.size k) = [k])
    (h : ∀ K' : Act → World → Prop, Shut (∀ a w, S w → (S w → Seq P ops Q S (k + 1) a w) → K' a w) → if Region.wanted o (yielded ops a.tmps) = true then Oper.wp P o a w K' (NoPanic Q) else K' (a.put o.dst undef) w) :
    Seq P ops Q S k a w := fun hok => by
  have hlt := lt_of_op hk
  have e : ops.size - k = (ops.size - (k + 1)) + 1 := by omega
  rw [e]
  refine wpAnyH_ready hr (by simp) (AllReadyH.cons hk (fun K' hK => h K' fun a w hS hW => hK.out a w hS fun hs => ?_) AllReadyH.nil)
  rw [ls_set hlt]
  exact hW hs hok
theorem Seq.done {k : Nat} {a : Act} {w : World} (hk : ops.size = k) (h : Q .normal a w) : Seq P ops Q S k a w := fun hok => by
  unfold okAll at hok
  simp only [Bool.and_eq_true] at hok
  subst hk
  exact wpAnyH_done (List.isEmpty_iff.1 hok.2) (NoPanic.normal h) _
theorem ls_get {n k : Nat} (hk : k ≤ n) (i : Nat) (d : Bool) : (ls n k).getD i d = if i < k then true else if i < n then false else d := by
  unfold ls
  rw [Array.getD_eq_getD_getElem?, List.getElem?_toArray, List.getElem?_append, List.getElem?_replicate, List.getElem?_replicate, List.length_replicate]
  by_cases h : i < k
  · simp [h]
  · by_cases h2 : i < n
    · have : i - k < n - k := by omega
      simp [h, h2, this]
    · have : ¬ i - k < n - k := by omega
      simp [h, h2, this]
/-- What the order of the text asks, read once over the list. -/
def okFrom (ops : Array Oper) : Nat → List Oper → Bool
  | _, [] => true
  | k, o :: rest => o.after.all (fun e => !Region.binds .any e || Nat.blt e.on k) && rest.all (fun oj => oj.after.any (fun e => Region.binds .any e && e.on == k) || o.apart ops oj) && okFrom ops (k + 1) rest
theorem okFrom_at (n : Nat) : ∀ (k : Nat), ops.size - k = n → okFrom ops k (ops.toList.drop k) = true → ∀ j, k ≤ j → j < ops.size → okAt ops j = true := by
  induction n with
  | zero => intro k hn _ j hkj hj; omega
  | succ n ih =>
    intro k hn h j hkj hj
    have hk : k < ops.size := by omega
    have hd : ops.toList.drop k = ops[k] :: ops.toList.drop (k + 1) := by
      rw [List.drop_eq_getElem_cons (by simpa using hk)]; simp
    rw [hd, okFrom] at h
    simp only [Bool.and_eq_true] at h
    obtain ⟨⟨h1, h2⟩, h3⟩ := h
    by_cases hjk : k = j
    · subst hjk
      unfold okAt
      rw [Bool.and_eq_true]
      constructor
      · rw [List.contains_iff_mem]
        unfold Region.ready
        refine List.mem_filter.2 ⟨List.mem_range.2 hk, ?_⟩
        rw [ls_get (by omega), Array.getElem?_eq_getElem hk]
        simp only [Nat.lt_irrefl, if_false, hk, if_true, Bool.not_false, Bool.true_and, Option.map_some, Option.getD_some]
        rw [Array.all_eq_true_iff_forall_mem] at h1 ⊢
        intro e he
        have := h1 e he
        simp only [Bool.or_eq_true] at this ⊢
        refine this.imp id fun hb => ?_
        rw [ls_get (by omega)]
        have : e.on < k := by rw [Nat.blt_eq] at hb; exact hb
        simp [this]
      · unfold Region.free
        rw [Array.getElem?_eq_getElem hk]
        show List.all _ _ = true
        rw [List.all_eq_true]
        intro i hi
        have hi := List.mem_range.1 hi
        rw [ls_get (by omega)]
        by_cases hik : i < k
        · simp [hik]
        · by_cases hie : i = k
          · simp [hie]
          · have hmem : ops[i] ∈ ops.toList.drop (k + 1) := by
              rw [List.mem_iff_getElem]
              exact ⟨i - (k + 1), by simp; omega, by simp [show k + 1 + (i - (k + 1)) = i by omega]⟩
            have := List.all_eq_true.1 h2 _ hmem
            rw [Array.getElem?_eq_getElem hi]
            simp only [hie, hik, hi, if_true, if_false, Bool.or_false, beq_iff_eq, Bool.or_eq_true]
            exact .inr (by simpa using this)
    · exact ih (k + 1) (by omega) h3 j (by omega) hj
theorem okAll_of (hs : Region.noSelect ops = true) (h : okFrom ops 0 ops.toList = true) : okAll ops = true := by
  unfold okAll
  simp only [Bool.and_eq_true]
  refine ⟨⟨hs, List.all_eq_true.2 fun k hk => okFrom_at _ 0 rfl (by simpa using h) k (Nat.zero_le _) (List.mem_range.1 hk)⟩, ?_⟩
  rw [List.isEmpty_iff]
  unfold Region.ready
  rw [List.filter_eq_nil_iff]
  intro i hi
  have hi := List.mem_range.1 hi
  rw [ls_get (Nat.le_refl _)]
  simp [hi]
theorem seq_begin {id : Nat} {a : Act} {w : World} (hm : P.follows .mixedOrders = true) (hns : Region.noSelect ops = true) (hok : okFrom ops 0 ops.toList = true) (hS : S w.drew)
    (h : S w.drew → Seq P ops Q S 0 a w.drew) : (Code.region id ops true).wp P Q a w := seq_start hm (okAll_of hns hok) hS h
theorem op_at {k : Nat} {o : Oper} {rest : List Oper} (h : ops.toList.drop k = o :: rest) : ops[k]? = some o := by
  have := congrArg List.head? h
  rw [List.head?_drop] at this
  simpa using this
/-- It is wanted, and yields v in every world that meets S. -/
theorem Seq.take' {k : Nat} {o : Oper} {rest : List Oper} {v : Value} {a : Act} {w : World} (hk : ops.toList.drop k = o :: rest) (hw : Region.wanted o (yielded ops a.tmps) = true)
    (hv : ∀ w, S w → (execOp a.eval o).run P w = .ok (.value v) w) (hS : S w)
    (h : Seq P ops Q S (k + 1) (a.put o.dst v) w) : Seq P ops Q S k a w := Seq.take (op_at hk) hw hv hS h
/-- It alone may come up, and is wanted. -/
theorem Seq.step' {k : Nat} {o : Oper} {rest : List Oper} {a : Act} {w : World} (hk : ops.toList.drop k = o :: rest) (hr : Region.ready .any ops (ls ops.size k) = [k]) (hw : Region.wanted o (yielded ops a.tmps) = true)
    (h : ∀ K' : Act → World → Prop, Shut (∀ a w, S w → (S w → Seq P ops Q S (k + 1) a w) → K' a w) → Oper.wp P o a w K' (NoPanic Q)) :
    Seq P ops Q S k a w := Seq.step (op_at hk) hr fun K' hK => by rw [if_pos hw]; exact h K' hK
/-- The next ones, which write the temporaries ds, are not wanted. -/
def skips (ops : Array Oper) : Nat → List Nat → Act → Bool
  | _, [], _ => true
  | k, d :: ds, a => match ops[k]? with
    | none => false
    | some o => o.dst == some d && !Region.wanted o (yielded ops a.tmps) && skips ops (k + 1) ds (a.put (some d) undef)
def skipped : List Nat → Act → Act
  | [], a => a
  | d :: ds, a => skipped ds (a.put (some d) undef)
theorem Seq.skips {w : World} (hS : S w) : ∀ (ds : List Nat) (k : Nat) (a : Act), RegSeq.skips ops k ds a = true → Seq P ops Q S (k + ds.length) (skipped ds a) w → Seq P ops Q S k a w
  | [], _, _, _, h => h
  | d :: ds, k, a, hs, h => by
    unfold RegSeq.skips at hs
    cases ho : ops[k]? with
    | none => rw [ho] at hs; simp at hs
    | some o =>
      rw [ho] at hs
      simp only [Bool.and_eq_true, Bool.not_eq_true', beq_iff_eq] at hs
      have h' : Seq P ops Q S (k + 1 + ds.length) (skipped ds (a.put (some d) undef)) w := by
        rw [show k + 1 + ds.length = k + (d :: ds).length by simp; omega]; exact h
      exact Seq.skip ho hs.1.2 hS (by rw [hs.1.1]; exact Seq.skips hS ds (k + 1) _ hs.2 h')
end
end Go.Proofs.YtkfeiekgdfklmaaGreatDoor.RegSeq
/- The program's own reading of statements as ones that are right: lists and blocks, walked. Conditions: the statements lie in rows that are not frozen; at most 6 kinds with statements are left. -/
namespace Go.Proofs.YtkfeiekgdfklmaaGreatDoor.Trm
open Go.RowKit Own Lexs
theorem infoRS : (Tryz.prog.info? 201).map (fun i => (i.zero, i.size, i.bytes)) = some (some .nilIface, 1, 16) := by kernel_rfl
def WPost (x : STree) (r : Nat) (w : World) (e : Ending) (w' : World) : Prop := ∃ u, e = .returned (.tuple #[u, .bool (rightX x r)]) ∧ ((rightX x r = true → RV w.heap.size w' x u) ∧ IfV u) ∧ Below w.heap.size w w'
def WOk (x : STree) : Prop := ∀ (v : Value) (w : World) (r : Nat), r ≤ 6 → szX x ≤ 1048576 → SB w x v → Calls Tryz.prog 174 #[v, .int .i64 (r : Int)] w (WPost x r w)
def LPost (xs : List STree) (r : Nat) (w : World) (e : Ending) (w' : World) : Prop := Below w.heap.size w w' ∧ ((rightXS xs r = true ∧ ∃ v, e = .returned (.tuple #[v, .bool true]) ∧ LV w.heap.size w' xs v) ∨ (rightXS xs r = false ∧ e = .returned (.tuple #[.slice none 0 0, .bool false])))
def LOk (xs : List STree) : Prop := ∀ (v : Value) (w : World) (r : Nat), r ≤ 6 → xs.length + szXS xs ≤ 1048576 → SBL w xs v → Calls Tryz.prog 141 #[v, .int .i64 (r : Int)] w (LPost xs r w)
set_option maxHeartbeats 1600000 in
theorem right_slist (xs : List STree) (ih : ∀ x, x ∈ xs → WOk x) : LOk xs := fun v w r hr hz hl => by
  obtain ⟨i0, hi, hz0, hz1, hz2⟩ := info_parts infoRS
  have HL := Lib.hid hl
  obtain ⟨_, aa, cap, rfl, _⟩ := hl.l
  have IH := Lib.hid ih
  have HZ := Lib.hid hz
  have hn : xs.length ≤ 1048576 := by omega
  clear ih hl hz
  go_enter Tryz.func141, Tryz.ntmps141
  go_wp2_with (at_make; refine wpList_make_full _ rfl (.tmp 12) (.tmp 12) 167 rfl w.heap.size 201 i0 _ 1 Tryz.underlying167 hi hz0 hz1 .i64 .i64 _ _ xs.length rfl rfl rfl rfl (by rw [hz2]; omega) (by unfold maxLen; omega) (by simp) ?_)
  intro w1 hown hg
  have HO := Lib.hid hown
  have B1 := Lib.hid ((Below.refl w.heap.size w).grown hg (Nat.le_refl _) (fun b hb => by cases hb))
  have HG := Lib.hid (hown.lt w.heap.size rfl).2
  clear hown hg
  go_wp2
  go_loopw [16] (fun i wr => ∃ (j : Nat) (us zs : List Value), j ≤ xs.length ∧ i = .int .i64 j ∧ us.length = j ∧ Hid (rightXS xs r = rightXS (xs.drop j) r) ∧ Hid (wr.ownsRow w.heap.size 201 1 (.slice (some ⟨w.heap.size, 0, none⟩) xs.length xs.length) xs.length (us ++ zs)) ∧ Hid (Below w.heap.size w wr) ∧ Hid (∀ i (h : i < us.length) (h2 : i < xs.length), RV (w.heap.size + 1) wr xs[i] us[i]))
    (fun i _ => xs.length - (intOf i).toNat)
  case atStart => exact ⟨0, [], _, Nat.zero_le _, rfl, rfl, rfl, HO.out, B1.out, fun i h => absurd h (by simp)⟩
  case round =>
    obtain ⟨j, us, zs, hj, rfl, hus, hsz, hrow, hbe, hrv⟩ := hrel
    by_cases hlt : j < xs.length
    · obtain ⟨g, o, ta, tc, ba, bc, ea, ec, rfl, c0, c1, c2, c3, c4, c5, c6, c7, hx⟩ := (HL.out.below hbe.out).at j hlt
      have hzx := szXS_mem (List.getElem_mem hlt)
      obtain ⟨W1, hW1⟩ : ∃ W1, W1 = wr.alloc (.cells #[.int .i64 xs[j].kind, .string xs[j].name, .int .i64 xs[j].term.kind, .int .i64 xs[j].term.num, .string xs[j].term.name, .slice ta xs[j].term.kids.length tc, .slice ba xs[j].body.length bc, .slice ea xs[j].els.length ec] 36) := ⟨_, rfl⟩
      have bW : Below wr.heap.size wr W1 := by rw [hW1]; exact (Below.refl _ _).alloc (Nat.le_refl _) _
      have BW := Lib.hid bW
      have C := Lib.hid (IH.out xs[j] (List.getElem_mem hlt) _ W1 r hr (by have := HZ.out; omega) (hx.below bW))
      have hd := rightXS_drop (r := r) hlt
      have HW1 := Lib.hid hW1
      have hgw : w.heap.size < wr.heap.size := by have := (hrow.out.lt w.heap.size rfl).2; exact this
      clear hx bW hW1
      go_wp2_with fail
      rw [← HW1.out]
      refine C.out.mono ?_
      rintro e w2 ⟨u, rfl, ⟨hu, hif⟩, hb2⟩
      have B12 := Lib.hid (BW.out.trans (hb2.mono BW.out.size))
      have HB2 := Lib.hid (hbe.out.trans (B12.out.mono hbe.out.size))
      have R2 := Lib.hid (row_below hrow.out B12.out)
      have V2 : Hid (∀ i (h : i < us.length) (h2 : i < xs.length), RV (w.heap.size + 1) w2 xs[i] us[i]) := fun i h h2 => (hrv.out i h h2).keep (Nat.le_refl _) ((keeps_below B12.out).from _)
      clear c0 c1 c2 c3 c4 c5 c6 c7
      cases hq2 : rightX xs[j] r with
      | false =>
        have HS2 : Hid (rightXS xs r = false) := by show _ = _; rw [hsz.out, hd, hq2]; rfl
        clear hq2 hd hu hb2
        go_wp2
        go_ret2
        exact ⟨HB2.out, .inr ⟨HS2.out, rfl⟩⟩
      | true =>
        have HU : Hid (RV (w.heap.size + 1) w2 xs[j] u) := (hu hq2).keep (by have := BW.out.size; omega) (fun _ _ _ h => h)
        obtain ⟨ty, pv, rfl⟩ := (hu hq2).iface
        have HS2 : Hid (rightXS xs r = rightXS (xs.drop (j + 1)) r) := by show rightXS xs r = _; rw [hsz.out, hd, hq2]; rfl
        clear hq2 hd hu hb2 hif
        have hls := R2.out.1
        simp only [List.length_append] at hls
        obtain ⟨z, zs2, rfl⟩ : ∃ z zs2, zs = z :: zs2 := by
          cases zs with
          | nil => simp at hls; omega
          | cons z r => exact ⟨z, r, rfl⟩
        have f0 := R2.out.frozenAt j
        obtain ⟨u0, s0⟩ : ∃ u, w2.cell? ⟨w.heap.size, j, none⟩ = some u := ⟨_, (R2.out.cellAt j (by omega)).trans (List.getElem?_eq_getElem (by rw [R2.out.1]; omega))⟩
        obtain ⟨hr2, hg2⟩ := R2.out.stored j (.iface ty pv)
        rw [set_midK _ _ _ _ j hus] at hr2
        have HR2 := Lib.hid hr2
        have HB3 := Lib.hid (HB2.out.grown hg2 HB2.out.size (fun b hb => by cases hb; omega))
        have V3 : Hid (∀ i (h : i < (us ++ [Value.iface ty pv]).length) (h2 : i < xs.length), RV (w.heap.size + 1) (w2.setCell ⟨w.heap.size, j, none⟩ (.iface ty pv)) xs[i] (us ++ [Value.iface ty pv])[i]) := fun i h h2 => by
          have hk : KeepsF (w.heap.size + 1) w2 (w2.setCell ⟨w.heap.size, j, none⟩ (.iface ty pv)) := fun p u hp e => by
            rw [World.cell?_of_block (hg2.block p.block (cell_lt e) (fun e2 => by simp at e2; omega))]; exact e
          rcases Nat.lt_or_ge i us.length with h3 | h3
          · rw [List.getElem_append_left h3]
            exact (V2.out i h3 h2).keep (Nat.le_refl _) hk
          · have h4 : i = j := by simp at h; omega
            subst h4
            rw [List.getElem_append_right h3]
            simp only [hus, Nat.sub_self, List.getElem_cons_zero]
            exact HU.out.keep (Nat.le_refl _) hk
        clear hls hr2 hg2
        go_wp2
        go_roundw
        case rel => exact ⟨j + 1, us ++ [.iface ty pv], zs2, by omega, by go_num, by simp [hus], HS2, HR2, HB3, V3⟩
        case measure => simp [intOf]; omega
    · obtain rfl : j = xs.length := by omega
      have h1 := hrow.out
      have hz : zs = [] := by have := h1.1; simp [hus] at this; exact this
      rw [hz, List.append_nil] at h1
      have H1 := Lib.hid h1
      have HS2 : Hid (rightXS xs r = true) := by show _ = _; rw [hsz.out, rightXS_end (by omega)]
      have HLV : Hid (LV w.heap.size wr xs (.slice (some ⟨w.heap.size, 0, none⟩) xs.length xs.length)) := ⟨_, rfl, fun _ => ⟨w.heap.size, Nat.le_refl _, rfl, RVL.of fun i hi => ⟨us[i]'(by omega), by rw [Nat.zero_add, H1.out.cellAt i (by omega)]; exact List.getElem?_eq_getElem _, (hrv.out i (by omega) hi).keep (by omega) (fun _ _ _ h => h)⟩⟩⟩
      clear h1 hz
      go_wp2
      go_ret2
      exact ⟨hbe.out, .inl ⟨HS2.out, _, rfl, HLV.out⟩⟩
/-- What a statement with others within it has in common with its like. -/
def blkB (x : STree) (r : Nat) : Bool := decide (x.name.size = 0) && (decide (r ≠ 0) && (okB x.term && rightXS x.body (r - 1)))
def BPost (x : STree) (r : Nat) (w : World) (e : Ending) (w' : World) : Prop := ∃ c0 c1, e = .returned (.tuple #[.agg #[c0, c1], .bool (blkB x r)]) ∧ ((blkB x r = true → c0 = rtV x.term ∧ LV w.heap.size w' x.body c1) ∧ IfV c0 ∧ ∃ a n c, c1 = .slice a n c) ∧ Below w.heap.size w w'
theorem blk_no {x : STree} {r : Nat} {w : World} {e : Ending} {w' : World} (h : blkB x r = false) (he : e = .returned (.tuple #[.agg #[.nilIface, .slice none 0 0], .bool false])) (hb : Below w.heap.size w w') : BPost x r w e w' :=
  ⟨_, _, by rw [h]; exact he, ⟨(fun h2 => by rw [h] at h2; cases h2), .inl rfl, _, _, _, rfl⟩, hb⟩
set_option maxHeartbeats 1600000 in
theorem implBlock_any (x : STree) (ihb : LOk x.body) (v : Value) (w : World) (r : Nat) (hr : r ≤ 6) (hz : szX x ≤ 1048576) (hx : SB w x v) :
    Calls Tryz.prog 188 #[v, .int .i64 (r : Int)] w (BPost x r w) := by
  obtain ⟨_, _, ta, tc, ba, bc, ea, ec, rfl, hlt, _, hlb, _⟩ := hx.parts
  have HR : Hid (blkB x r = (decide (x.name.size = 0) && (decide (r ≠ 0) && (okB x.term && rightXS x.body (r - 1))))) := rfl
  have hzz := szX_eq x
  have CT := Lib.hid (fun w2 hb => implRight_any x.term _ w2 6 (Nat.le_refl _) (hlt.keep (keeps_below (w' := w2) hb)))
  have CL := Lib.hid (fun w2 hb => ihb _ w2 (r - 1) (by omega) (by omega) (hlb.below (w' := w2) hb))
  obtain ⟨W2, hW2⟩ : ∃ W2, W2 = (w.alloc (.cells #[.int .i64 x.kind, .string x.name, .int .i64 x.term.kind, .int .i64 x.term.num, .string x.term.name, .slice ta x.term.kids.length tc, .slice ba x.body.length bc, .slice ea x.els.length ec] 36)).alloc (.cells #[.nilIface, .slice none 0 0] 232) := ⟨_, rfl⟩
  have bW : Below w.heap.size w W2 := by rw [hW2]; exact ((Below.refl _ _).alloc (Nat.le_refl _) _).alloc (by simp) _
  have BW := Lib.hid bW
  have x6 : W2.cell? ⟨w.heap.size, 6, none⟩ = some (.slice ba x.body.length bc) := by rw [hW2]; exact keeps_alloc _ _ _ _ (by simp [go_sem])
  have X6 := Lib.hid x6
  have hn : W2.heap.size = w.heap.size + 1 + 1 := by rw [hW2]; simp
  have b0 : W2.cell? ⟨w.heap.size + 1, 0, none⟩ = some .nilIface := by rw [hW2]; simp [go_sem]
  have b1 : W2.cell? ⟨w.heap.size + 1, 1, none⟩ = some (.slice none 0 0) := by rw [hW2]; simp [go_sem]
  have f0 : W2.frozen? ⟨w.heap.size + 1, 0, none⟩ = false := by rw [hW2]; simp [go_sem]
  have f1 : W2.frozen? ⟨w.heap.size + 1, 1, none⟩ = false := by rw [hW2]; simp [go_sem]
  have HBX := Lib.hid (And.intro b0 (And.intro b1 (And.intro f0 f1)))
  have HN := Lib.hid hn
  have HW2 := Lib.hid hW2
  clear hlt hlb hx hzz hz bW x6 b0 b1 f0 f1 hn hW2
  by_cases hs : x.name.size = 0
  · have he := empty_true hs
    by_cases h0 : r = 0
    · have HF : Hid (blkB x r = false) := by show _ = _; rw [HR.out]; simp [h0]
      have hq : ((r : Int) == 0) = true := by rw [h0]; rfl
      clear hs h0
      go_enter Tryz.func188, Tryz.ntmps188
      go_wp2
      refine bodyPost_ret (v := .tuple #[.agg #[.nilIface, .slice none 0 0], .bool false]) (by simp [results, Tryz.results188, go_sem]) rfl ?_
      exact blk_no HF.out rfl (((Below.refl _ _).alloc (Nat.le_refl _) _).alloc (by simp) _)
    · have hq : ((r : Int) == 0) = false := ne_true (by omega)
      have hr1 : 1 ≤ r := by omega
      have hrn : ((r - 1 : Nat) : Int) = (r : Int) - 1 := by omega
      rw [hrn] at CL
      have HF : Hid (blkB x r = (okB x.term && rightXS x.body (r - 1))) := by show _ = _; rw [HR.out]; simp [hs, h0]
      clear hs h0 hrn
      have HO : Hid (okB x.term = rightB x.term 6) := rfl
      go_enter Tryz.func188, Tryz.ntmps188
      go_wp2_with fail
      rw [← HW2.out]
      refine (CT.out _ BW.out).mono ?_
      rintro e w3 ⟨y, rfl, ⟨hy, hif⟩, hb3⟩
      have HB3 := Lib.hid (BW.out.trans (hb3.mono BW.out.size))
      have k3 := keeps_below hb3
      obtain ⟨q0, q1⟩ := And.intro (k3 _ _ HBX.out.1) (k3 _ _ HBX.out.2.1)
      have hlt3 : w.heap.size + 1 < W2.heap.size := by rw [HN.out]; omega
      have f0 : w3.frozen? ⟨w.heap.size + 1, 0, none⟩ = false := (hb3.frozen (p := ⟨w.heap.size + 1, 0, none⟩) hlt3).trans HBX.out.2.2.1
      have f1 : w3.frozen? ⟨w.heap.size + 1, 1, none⟩ = false := (hb3.frozen (p := ⟨w.heap.size + 1, 1, none⟩) hlt3).trans HBX.out.2.2.2
      have x6 := k3 _ _ X6.out
      have X3 := Lib.hid (And.intro q0 (And.intro q1 (And.intro f0 f1)))
      clear hb3 k3
      cases hq2 : rightB x.term 6 with
      | false =>
        have HF2 : Hid (blkB x r = false) := by show _ = _; rw [HF.out, HO.out, hq2]; rfl
        clear hq2 hy hif x6
        go_wp2
        refine bodyPost_ret (v := .tuple #[.agg #[.nilIface, .slice none 0 0], .bool false]) (by simp [results, Tryz.results188, go_sem, q0, q1]) rfl ?_
        exact blk_no HF2.out rfl ((HB3.out.setCell (by simp) _).setCell (by simp) _)
      | true =>
        obtain ⟨ty, pv, hi⟩ := rtV_iface x.term
        obtain rfl : y = .iface ty pv := (hy hq2).trans hi
        have HI := Lib.hid hi
        have HF2 : Hid (blkB x r = rightXS x.body (r - 1)) := by show _ = _; rw [HF.out, HO.out, hq2]; rfl
        clear hq2 hy hif hi
        go_wp2_with fail
        refine (CL.out _ HB3.out).mono ?_
        rintro e w4 ⟨hb4, hres⟩
        have HB4 := Lib.hid (HB3.out.trans (hb4.mono HB3.out.size))
        have k4 := keeps_below hb4
        have hlt4 : w.heap.size + 1 < w3.heap.size := cell_lt X3.out.1
        replace q0 := k4 _ _ X3.out.1
        replace q1 := k4 _ _ X3.out.2.1
        replace f0 : w4.frozen? ⟨w.heap.size + 1, 0, none⟩ = false := (hb4.frozen (p := ⟨w.heap.size + 1, 0, none⟩) hlt4).trans X3.out.2.2.1
        replace f1 : w4.frozen? ⟨w.heap.size + 1, 1, none⟩ = false := (hb4.frozen (p := ⟨w.heap.size + 1, 1, none⟩) hlt4).trans X3.out.2.2.2
        have HS3 : Hid (w.heap.size + 1 < w3.heap.size) := hlt4
        clear hb4 k4 x6 hlt4 hlt3
        rcases hres with ⟨ht, v, rfl, hlv⟩ | ⟨ht, rfl⟩
        · obtain ⟨a, rfl, _⟩ := id hlv
          have HLV := Lib.hid hlv
          have HT := Lib.hid ht
          clear ht hlv
          go_wp2
          refine bodyPost_ret (v := .tuple #[.agg #[.iface ty pv, .slice a x.body.length x.body.length], .bool true]) (by simp [results, Tryz.results188, go_sem, q0, q1]) rfl ?_
          refine ⟨_, _, by rw [HF2.out, HT.out], ⟨fun _ => ⟨HI.out.symm, HLV.out.keep (by have := HB3.out.size; omega) (fun p u hp e => ?_)⟩, .inr ⟨_, _, rfl⟩, _, _, _, rfl⟩, (HB4.out.setCell (by simp) _).setCell (by simp) _⟩
          have hne : p.block ≠ w.heap.size + 1 := by have := HS3.out; omega
          rw [World.cell?_of_block ((Below.heap_setCell _ _ _ _ hne).trans (Below.heap_setCell _ _ _ _ hne))]
          exact e
        · have HF3 : Hid (blkB x r = false) := by show _ = _; rw [HF2.out, ht]
          clear ht
          go_wp2
          refine bodyPost_ret (v := .tuple #[.agg #[.iface ty pv, .slice none 0 0], .bool false]) (by simp [results, Tryz.results188, go_sem, q0, q1]) rfl ?_
          exact ⟨_, _, by rw [HF3.out], ⟨(fun h => by rw [HF3.out] at h; cases h), .inr ⟨_, _, rfl⟩, _, _, _, rfl⟩, (HB4.out.setCell (by simp) _).setCell (by simp) _⟩
  · have he := empty_false hs
    have HF : Hid (blkB x r = false) := by show _ = _; rw [HR.out]; simp [hs]
    clear hs
    go_enter Tryz.func188, Tryz.ntmps188
    go_wp2
    refine bodyPost_ret (v := .tuple #[.agg #[.nilIface, .slice none 0 0], .bool false]) (by simp [results, Tryz.results188, go_sem]) rfl ?_
    exact blk_no HF.out rfl (((Below.refl _ _).alloc (Nat.le_refl _) _).alloc (by simp) _)
end Go.Proofs.YtkfeiekgdfklmaaGreatDoor.Trm
/- The program's own reading of one statement as one that is right, walked, by its kind. Conditions: it lies in rows that are not frozen; at most 6 kinds with statements are left. -/
namespace Go.Proofs.YtkfeiekgdfklmaaGreatDoor.Trm
open Go.RowKit Own Lexs
theorem w_no {x : STree} {r : Nat} {w : World} {e : Ending} {w' : World} {u : Value} (h : rightX x r = false) (he : e = .returned (.tuple #[u, .bool false])) (hb : Below w.heap.size w w') (hi : IfV u := by first | exact Or.inl rfl | exact Or.inr ⟨_, _, rfl⟩) : WPost x r w e w' :=
  ⟨u, by rw [h]; exact he, ⟨(fun h2 => by rw [h] at h2; cases h2), hi⟩, hb⟩
theorem w_yes {x : STree} {r : Nat} {w : World} {e : Ending} {w' : World} {u : Value} (h : rightX x r = true) (hu : RV w.heap.size w' x u) (he : e = .returned (.tuple #[u, .bool true])) (hb : Below w.heap.size w w') : WPost x r w e w' :=
  ⟨u, by rw [h]; exact he, ⟨fun _ => hu, .inr hu.iface⟩, hb⟩
theorem dec_empty (s : ByteArray) : decide (s = ⟨#[]⟩) = decide (s.size = 0) := by
  by_cases h : s = ⟨#[]⟩
  · subst h; rfl
  · rw [decide_eq_false h, decide_eq_false]
    intro h2
    apply h
    apply ByteArray.ext
    exact Array.eq_empty_of_size_eq_zero h2
theorem dec_sum (n m : Nat) : decide (n + m = 0) = (decide (n = 0) && decide (m = 0)) := by
  rw [← Bool.decide_and]; congr 1; exact propext (by omega)
theorem oneB_eq (x : STree) : oneB x = oneV x.kind (decide (x.name.size = 0)) (isNm x.name.data.toList) (okB x.term) (sameT x.term zT) x.body.length x.els.length := by
  cases x; rw [oneB, dec_empty]; rfl
theorem rx_set {x : STree} {r : Nat} (h : x.kind = 1) : rightX x r = (okB x.term && (isNm x.name.data.toList && noLists x.body x.els)) := by
  rw [rightX_eq, oneB_eq, h]; unfold oneV noLists
  rw [if_pos rfl, dec_sum]
  cases okB x.term <;> cases isNm x.name.data.toList <;> simp
theorem rx_if {x : STree} {r : Nat} (h : x.kind = 2) : rightX x r = (blkB x r && rightXS x.els (r - 1)) := by
  rw [rightX_eq, oneB_eq, h]; unfold oneV blkB
  rw [if_neg (by decide), if_pos rfl]
  cases okB x.term <;> cases decide (x.name.size = 0) <;> cases decide (r ≠ 0) <;> simp
theorem rx_while {x : STree} {r : Nat} (h : x.kind = 3) : rightX x r = (blkB x r && decide (x.els.length = 0)) := by
  rw [rightX_eq, oneB_eq, h]; unfold oneV blkB
  rw [if_neg (by decide), if_neg (by decide), if_pos rfl]
  by_cases he : x.els.length = 0
  · rw [List.length_eq_zero_iff.1 he, rightXS]
    cases okB x.term <;> cases decide (x.name.size = 0) <;> cases decide (r ≠ 0) <;> simp
  · simp [he]
theorem rx_word {x : STree} {r : Nat} (h : x.kind = 4 ∨ x.kind = 5 ∨ x.kind = 6 ∨ x.kind = 7) : rightX x r = (isNm x.name.data.toList && (sameT x.term zT && noLists x.body x.els)) := by
  rw [rightX_eq, oneB_eq]; unfold oneV noLists
  rw [if_neg (by omega), if_neg (by omega), if_neg (by omega), if_pos h, dec_sum, decide_eq_true (show ¬ (x.kind = 2 ∨ x.kind = 3) by omega)]
  cases isNm x.name.data.toList <;> cases sameT x.term zT <;> simp
theorem rx_skip {x : STree} {r : Nat} (h : x.kind = 8) : rightX x r = (decide (x.name.size = 0) && (sameT x.term zT && noLists x.body x.els)) := by
  rw [rightX_eq, oneB_eq, h]; unfold oneV noLists
  rw [if_neg (by decide), if_neg (by decide), if_neg (by decide), if_neg (by decide), if_pos rfl, dec_sum]
  cases decide (x.name.size = 0) <;> cases sameT x.term zT <;> simp
theorem rx_none {x : STree} {r : Nat} (h : ¬ (1 ≤ x.kind ∧ x.kind ≤ 8)) : rightX x r = false := by
  rw [rightX_eq, oneB_eq]; unfold oneV
  rw [if_neg (by omega), if_neg (by omega), if_neg (by omega), if_neg (by omega), if_neg (by omega)]
  rfl
/-- The statement's box. -/
structure Boxed (x : STree) (ta ba ea : Option Addr) (tc bc ec : Nat) (w W1 : World) : Prop where
  b : Below w.heap.size w W1
  k : ∀ wx, Below W1.heap.size W1 wx → wx.cell? ⟨w.heap.size, 0, none⟩ = some (.int .i64 x.kind) ∧ wx.cell? ⟨w.heap.size, 1, none⟩ = some (.string x.name) ∧ wx.cell? ⟨w.heap.size, 2, none⟩ = some (.int .i64 x.term.kind) ∧ wx.cell? ⟨w.heap.size, 3, none⟩ = some (.int .i64 x.term.num) ∧ wx.cell? ⟨w.heap.size, 4, none⟩ = some (.string x.term.name) ∧ wx.cell? ⟨w.heap.size, 5, none⟩ = some (.slice ta x.term.kids.length tc) ∧ wx.cell? ⟨w.heap.size, 6, none⟩ = some (.slice ba x.body.length bc) ∧ wx.cell? ⟨w.heap.size, 7, none⟩ = some (.slice ea x.els.length ec) ∧ Below w.heap.size w wx
theorem boxed (x : STree) (ta ba ea : Option Addr) (tc bc ec : Nat) (w : World) : Boxed x ta ba ea tc bc ec w (w.alloc (.cells #[.int .i64 x.kind, .string x.name, .int .i64 x.term.kind, .int .i64 x.term.num, .string x.term.name, .slice ta x.term.kids.length tc, .slice ba x.body.length bc, .slice ea x.els.length ec] 36)) := by
  have bW : Below w.heap.size w (w.alloc (.cells #[.int .i64 x.kind, .string x.name, .int .i64 x.term.kind, .int .i64 x.term.num, .string x.term.name, .slice ta x.term.kids.length tc, .slice ba x.body.length bc, .slice ea x.els.length ec] 36)) := (Below.refl _ _).alloc (Nat.le_refl _) _
  refine ⟨bW, fun wx hb => ?_⟩
  have k := keeps_below hb
  exact ⟨k _ _ (by simp [go_sem]), k _ _ (by simp [go_sem]), k _ _ (by simp [go_sem]), k _ _ (by simp [go_sem]), k _ _ (by simp [go_sem]), k _ _ (by simp [go_sem]), k _ _ (by simp [go_sem]), k _ _ (by simp [go_sem]), bW.trans (hb.mono bW.size)⟩
theorem rv_set {lo : Nat} {w : World} {x : STree} (h : x.kind = 1) : RV lo w x (.iface 230 (.agg #[.string x.name, rtV x.term])) := by
  cases x with
  | node k s t b e =>
    have h : k = 1 := h
    unfold RV; rw [if_pos h]; rfl
theorem rv_if {lo : Nat} {w : World} {x : STree} {c1 c2 : Value} (h : x.kind = 2) (h1 : LV lo w x.body c1) (h2 : LV lo w x.els c2) : RV lo w x (.iface 236 (.agg #[rtV x.term, c1, c2])) := by
  obtain ⟨a, rfl, h1⟩ := h1
  obtain ⟨c, rfl, h2⟩ := h2
  cases x with
  | node k s t b e =>
    have h : k = 2 := h
    unfold RV; rw [if_neg (by omega), if_pos h]
    exact ⟨a, c, rfl, h1, h2⟩
theorem rv_while {lo : Nat} {w : World} {x : STree} {c1 : Value} (h : x.kind = 3) (h1 : LV lo w x.body c1) : RV lo w x (.iface 238 (.agg #[rtV x.term, c1])) := by
  obtain ⟨a, rfl, h1⟩ := h1
  cases x with
  | node k s t b e =>
    have h : k = 3 := h
    unfold RV; rw [if_neg (by omega), if_neg (by omega), if_pos h]
    exact ⟨a, rfl, h1⟩
theorem rv_skip {lo : Nat} {w : World} {x : STree} (h : x.kind = 8) : RV lo w x (.iface 240 (.agg #[])) := by
  cases x with
  | node k s t b e =>
    have h : k = 8 := h
    unfold RV; rw [if_neg (by omega), if_neg (by omega), if_neg (by omega), if_pos h]
theorem rv_word {lo : Nat} {w : World} {x : STree} (h : x.kind = 4 ∨ x.kind = 5 ∨ x.kind = 6 ∨ x.kind = 7) : RV lo w x (.iface 242 (.agg #[.string x.name, .string (wordB x.kind)])) := by
  cases x with
  | node k s t b e =>
    have h : k = 4 ∨ k = 5 ∨ k = 6 ∨ k = 7 := h
    unfold RV; rw [if_neg (by omega), if_neg (by omega), if_neg (by omega), if_neg (by omega)]; rfl
theorem blk_pos {x : STree} {r : Nat} (h : blkB x r = true) : 1 ≤ r := by
  unfold blkB at h
  simp only [Bool.and_eq_true, decide_eq_true_eq] at h
  omega
theorem wordB_some {k : Int} (h : k = 4 ∨ k = 5 ∨ k = 6 ∨ k = 7) : ¬ (wordB k).size = 0 := by
  rcases h with rfl | rfl | rfl | rfl <;> decide
end Go.Proofs.YtkfeiekgdfklmaaGreatDoor.Trm
namespace Go.Proofs.YtkfeiekgdfklmaaGreatDoor.Trm
open Go.RowKit Own Lexs
set_option linter.unusedSimpArgs false in
set_option maxRecDepth 20000 in
set_option maxHeartbeats 6400000 in
theorem within_set (x : STree) (v : Value) (w : World) (r : Nat) (_ : r ≤ 6) (_ : szX x ≤ 1048576) (hx : SB w x v) (hk : x.kind = 1) : Calls Tryz.prog 174 #[v, .int .i64 (r : Int)] w (WPost x r w) := by
  obtain ⟨_, hnm, ta, tc, ba, bc, ea, ec, rfl, hlt, hlf, hlb, hle⟩ := hx.parts
  have hzz := szX_eq x
  obtain ⟨W1, hW1⟩ : ∃ W1, W1 = w.alloc (.cells #[.int .i64 x.kind, .string x.name, .int .i64 x.term.kind, .int .i64 x.term.num, .string x.term.name, .slice ta x.term.kids.length tc, .slice ba x.body.length bc, .slice ea x.els.length ec] 36) := ⟨_, rfl⟩
  have BX := Lib.hid (by rw [hW1]; exact boxed x ta ba ea tc bc ec w : Boxed x ta ba ea tc bc ec w W1)
  have HW1 := Lib.hid hW1
  have CN : Hid (∀ wx, Below W1.heap.size W1 wx → Calls Tryz.prog 95 #[.string x.name] wx fun e w' => e = .returned (.bool (isNm x.name.data.toList)) ∧ Below W1.heap.size W1 w') := fun wx hb => (implIsName_any x.name wx hnm).mono fun e w' ⟨he, h⟩ => ⟨he, h ▸ hb⟩
  have CL : Hid (∀ wx, Below W1.heap.size W1 wx → Calls Tryz.prog 187 #[.agg #[.int .i64 x.kind, .string x.name, .int .i64 x.term.kind, .int .i64 x.term.num, .string x.term.name, .slice ta x.term.kids.length tc, .slice ba x.body.length bc, .slice ea x.els.length ec]] wx fun e w' => e = .returned (.bool (noLists x.body x.els)) ∧ Below W1.heap.size W1 w') := fun wx hb => (implNoLists_any x ta ba ea tc bc ec wx).mono fun e w' ⟨he, h⟩ => ⟨he, hb.trans (h.mono hb.size)⟩
  have CZ : Hid (∀ wx, Below W1.heap.size W1 wx → Calls Tryz.prog 150 #[.agg #[.int .i64 x.term.kind, .int .i64 x.term.num, .string x.term.name, .slice ta x.term.kids.length tc]] wx fun e w' => e = .returned (.bool (sameT x.term zT)) ∧ Below W1.heap.size W1 w') := fun wx hb => (implNoTerm_any x.term ta tc wx (hlt.keep (keeps_below (BX.out.k wx hb).2.2.2.2.2.2.2.2))).mono fun e w' ⟨he, h⟩ => ⟨he, hb.trans (h.mono hb.size)⟩
  have CT := Lib.hid (fun w2 hb => implRight_any x.term _ w2 6 (Nat.le_refl _) (hlt.keep (keeps_below (w' := w2) hb)))
  have HR := Lib.hid (rx_set (r := r) hk)
  have HO : Hid (okB x.term = rightB x.term 6) := rfl
  have HKD := Lib.hid hk
  have KS : Hid (∀ wx, Below W1.heap.size W1 wx → wx.cell? ⟨w.heap.size, 0, none⟩ = some (.int .i64 x.kind) ∧ wx.cell? ⟨w.heap.size, 1, none⟩ = some (.string x.name) ∧ wx.cell? ⟨w.heap.size, 2, none⟩ = some (.int .i64 x.term.kind) ∧ wx.cell? ⟨w.heap.size, 3, none⟩ = some (.int .i64 x.term.num) ∧ wx.cell? ⟨w.heap.size, 4, none⟩ = some (.string x.term.name) ∧ wx.cell? ⟨w.heap.size, 5, none⟩ = some (.slice ta x.term.kids.length tc) ∧ wx.cell? ⟨w.heap.size, 6, none⟩ = some (.slice ba x.body.length bc) ∧ wx.cell? ⟨w.heap.size, 7, none⟩ = some (.slice ea x.els.length ec) ∧ Below W1.heap.size W1 wx) := fun wx hb => ⟨(BX.out.k wx hb).1, (BX.out.k wx hb).2.1, (BX.out.k wx hb).2.2.1, (BX.out.k wx hb).2.2.2.1, (BX.out.k wx hb).2.2.2.2.1, (BX.out.k wx hb).2.2.2.2.2.1, (BX.out.k wx hb).2.2.2.2.2.2.1, (BX.out.k wx hb).2.2.2.2.2.2.2.1, hb⟩
  clear hx hlt hlf hlb hle hzz hnm hW1
  have hk1 : (x.kind == 1) = true := by simp [hk]
  clear hk
  go_enter Tryz.func174, Tryz.ntmps174
  go_wp2_with fail
  rw [← HW1.out]
  refine (CT.out _ BX.out.b).mono ?_
  rintro e w2 ⟨y, rfl, ⟨hy, hif⟩, hb2⟩
  have B2 := Lib.hid hb2
  have hb0 : Below W1.heap.size W1 w2.drew := hb2.drew
  generalize isNm x.name.data.toList = r1 at CN HR
  generalize noLists x.body x.els = r3 at CL HR
  clear hb2
  cases hq : rightB x.term 6 with
  | false =>
    have HF : Hid (rightX x r = false) := by show _ = _; rw [HR.out, HO.out, hq]; rfl
    clear hq hy
    rcases hif with rfl | ⟨ty, pv, rfl⟩
    all_goals
      go_wp2_with fail
      (try dsimp only [List.append])
      refine RegSeq.seq_begin (S := fun wx => wx.cell? ⟨w.heap.size, 0, none⟩ = some (.int .i64 x.kind) ∧ wx.cell? ⟨w.heap.size, 1, none⟩ = some (.string x.name) ∧ wx.cell? ⟨w.heap.size, 2, none⟩ = some (.int .i64 x.term.kind) ∧ wx.cell? ⟨w.heap.size, 3, none⟩ = some (.int .i64 x.term.num) ∧ wx.cell? ⟨w.heap.size, 4, none⟩ = some (.string x.term.name) ∧ wx.cell? ⟨w.heap.size, 5, none⟩ = some (.slice ta x.term.kids.length tc) ∧ wx.cell? ⟨w.heap.size, 6, none⟩ = some (.slice ba x.body.length bc) ∧ wx.cell? ⟨w.heap.size, 7, none⟩ = some (.slice ea x.els.length ec) ∧ Below W1.heap.size W1 wx) (by kernel_rfl) (by kernel_rfl) (by kernel_rfl) (KS.out _ hb0) (fun hHeld => ?_)
      iterate 8 (((refine RegSeq.Seq.take' (v := ?_) (by rfl) (by kernel_rfl) ?_ hHeld ?_; rotate_left; (focus ((intro w hSw; (try dsimp only at hSw); go_simp) <;> with_reducible rfl))); simp only [Act.put, List.setIfInBounds_toArray, List.set_cons_zero, List.set_cons_succ, Nat.reduceAdd]))
      (refine RegSeq.Seq.skips hHeld [32, 33, 34] _ _ (by kernel_rfl) ?_; simp only [RegSeq.skipped, List.length_cons, List.length_nil]; simp only [Act.put, List.setIfInBounds_toArray, List.set_cons_zero, List.set_cons_succ, Nat.reduceAdd])
      iterate 2 (((refine RegSeq.Seq.take' (v := ?_) (by rfl) (by kernel_rfl) ?_ hHeld ?_; rotate_left; (focus ((intro w hSw; (try dsimp only at hSw); go_simp) <;> with_reducible rfl))); simp only [Act.put, List.setIfInBounds_toArray, List.set_cons_zero, List.set_cons_succ, Nat.reduceAdd]))
      (refine RegSeq.Seq.skips hHeld [37, 38] _ _ (by kernel_rfl) ?_; simp only [RegSeq.skipped, List.length_cons, List.length_nil]; simp only [Act.put, List.setIfInBounds_toArray, List.set_cons_zero, List.set_cons_succ, Nat.reduceAdd])
      iterate 3 (((refine RegSeq.Seq.take' (v := ?_) (by rfl) (by kernel_rfl) ?_ hHeld ?_; rotate_left; (focus ((intro w hSw; (try dsimp only at hSw); go_simp) <;> with_reducible rfl))); simp only [Act.put, List.setIfInBounds_toArray, List.set_cons_zero, List.set_cons_succ, Nat.reduceAdd]))
      refine RegSeq.Seq.done (by kernel_rfl) ?_
      clear hHeld
      go_wp2
      go_ret2
      exact w_no HF.out rfl (BX.out.b.trans (Below.mono hb0 BX.out.b.size))
  | true =>
    obtain ⟨ty, pv, hi⟩ := rtV_iface x.term
    obtain rfl : y = .iface ty pv := (hy hq).trans hi
    have HI := Lib.hid hi
    have HQ := Lib.hid hq
    clear hq hy hif hi
    go_wp2_with fail
    (try dsimp only [List.append])
    refine RegSeq.seq_begin (S := fun wx => wx.cell? ⟨w.heap.size, 0, none⟩ = some (.int .i64 x.kind) ∧ wx.cell? ⟨w.heap.size, 1, none⟩ = some (.string x.name) ∧ wx.cell? ⟨w.heap.size, 2, none⟩ = some (.int .i64 x.term.kind) ∧ wx.cell? ⟨w.heap.size, 3, none⟩ = some (.int .i64 x.term.num) ∧ wx.cell? ⟨w.heap.size, 4, none⟩ = some (.string x.term.name) ∧ wx.cell? ⟨w.heap.size, 5, none⟩ = some (.slice ta x.term.kids.length tc) ∧ wx.cell? ⟨w.heap.size, 6, none⟩ = some (.slice ba x.body.length bc) ∧ wx.cell? ⟨w.heap.size, 7, none⟩ = some (.slice ea x.els.length ec) ∧ Below W1.heap.size W1 wx) (by kernel_rfl) (by kernel_rfl) (by kernel_rfl) (KS.out _ hb0) (fun hHeld => ?_)
    iterate 10 (((refine RegSeq.Seq.take' (v := ?_) (by rfl) (by kernel_rfl) ?_ hHeld ?_; rotate_left; (focus ((intro w hSw; (try dsimp only at hSw); go_simp) <;> with_reducible rfl))); simp only [Act.put, List.setIfInBounds_toArray, List.set_cons_zero, List.set_cons_succ, Nat.reduceAdd]))
    refine RegSeq.Seq.step' (by rfl) (by kernel_rfl) (by kernel_rfl) (fun K hK => ?_)
    go_simp
    go_at_call 95
    with_reducible refine (CN.out _ (by assumption)).mono ?_
    rintro e w3 ⟨rfl, bw3⟩
    refine hK.out _ _ (KS.out _ bw3) (fun hHeld => ?_)
    clear hK K
    simp only [Act.put, List.setIfInBounds_toArray, List.set_cons_zero, List.set_cons_succ, Nat.reduceAdd]
    cases r1 with
    | false =>
      have HF : Hid (rightX x r = false) := by show _ = _; rw [HR.out]; simp
      iterate 2 (((refine RegSeq.Seq.take' (v := ?_) (by rfl) (by kernel_rfl) ?_ hHeld ?_; rotate_left; (focus ((intro w hSw; (try dsimp only at hSw); go_simp) <;> with_reducible rfl))); simp only [Act.put, List.setIfInBounds_toArray, List.set_cons_zero, List.set_cons_succ, Nat.reduceAdd]))
      (refine RegSeq.Seq.skips hHeld [37, 38] _ _ (by kernel_rfl) ?_; simp only [RegSeq.skipped, List.length_cons, List.length_nil]; simp only [Act.put, List.setIfInBounds_toArray, List.set_cons_zero, List.set_cons_succ, Nat.reduceAdd])
      iterate 3 (((refine RegSeq.Seq.take' (v := ?_) (by rfl) (by kernel_rfl) ?_ hHeld ?_; rotate_left; (focus ((intro w hSw; (try dsimp only at hSw); go_simp) <;> with_reducible rfl))); simp only [Act.put, List.setIfInBounds_toArray, List.set_cons_zero, List.set_cons_succ, Nat.reduceAdd]))
      refine RegSeq.Seq.done (by kernel_rfl) ?_
      clear hHeld
      go_wp2
      go_ret2
      exact w_no HF.out rfl (BX.out.b.trans (Below.mono bw3 BX.out.b.size))
    | true =>
      iterate 3 (((refine RegSeq.Seq.take' (v := ?_) (by rfl) (by kernel_rfl) ?_ hHeld ?_; rotate_left; (focus ((intro w hSw; (try dsimp only at hSw); go_simp) <;> with_reducible rfl))); simp only [Act.put, List.setIfInBounds_toArray, List.set_cons_zero, List.set_cons_succ, Nat.reduceAdd]))
      refine RegSeq.Seq.step' (by rfl) (by kernel_rfl) (by kernel_rfl) (fun K hK => ?_)
      go_simp
      go_at_call 187
      with_reducible refine (CL.out _ (by assumption)).mono ?_
      rintro e w4 ⟨rfl, bw4⟩
      refine hK.out _ _ (KS.out _ bw4) (fun hHeld => ?_)
      clear hK K
      simp only [Act.put, List.setIfInBounds_toArray, List.set_cons_zero, List.set_cons_succ, Nat.reduceAdd]
      cases r3 with
      | false =>
        have HF : Hid (rightX x r = false) := by show _ = _; rw [HR.out]; simp
        iterate 3 (((refine RegSeq.Seq.take' (v := ?_) (by rfl) (by kernel_rfl) ?_ hHeld ?_; rotate_left; (focus ((intro w hSw; (try dsimp only at hSw); go_simp) <;> with_reducible rfl))); simp only [Act.put, List.setIfInBounds_toArray, List.set_cons_zero, List.set_cons_succ, Nat.reduceAdd]))
        refine RegSeq.Seq.done (by kernel_rfl) ?_
        clear hHeld
        go_wp2
        go_ret2
        exact w_no HF.out rfl (BX.out.b.trans (Below.mono bw4 BX.out.b.size))
      | true =>
        have HF : Hid (rightX x r = true) := by show _ = _; rw [HR.out, HO.out, HQ.out]; rfl
        have HV : Hid (∀ w', RV w.heap.size w' x (.iface 230 (.agg #[.string x.name, .iface ty pv]))) := fun w' => by
          rw [← HI.out]
          exact rv_set HKD.out
        iterate 3 (((refine RegSeq.Seq.take' (v := ?_) (by rfl) (by kernel_rfl) ?_ hHeld ?_; rotate_left; (focus ((intro w hSw; (try dsimp only at hSw); go_simp) <;> with_reducible rfl))); simp only [Act.put, List.setIfInBounds_toArray, List.set_cons_zero, List.set_cons_succ, Nat.reduceAdd]))
        refine RegSeq.Seq.done (by kernel_rfl) ?_
        clear hHeld
        go_wp2
        go_ret2
        exact w_yes HF.out (HV.out _) rfl (BX.out.b.trans (Below.mono bw4 BX.out.b.size))
end Go.Proofs.YtkfeiekgdfklmaaGreatDoor.Trm
namespace Go.Proofs.YtkfeiekgdfklmaaGreatDoor.Trm
open Go.RowKit Own Lexs
set_option linter.unusedSimpArgs false in
set_option maxRecDepth 20000 in
set_option maxHeartbeats 6400000 in
theorem within_if (x : STree) (ihb : LOk x.body) (ihe : LOk x.els) (v : Value) (w : World) (r : Nat) (hr : r ≤ 6) (hz : szX x ≤ 1048576) (hx : SB w x v) (hk : x.kind = 2) : Calls Tryz.prog 174 #[v, .int .i64 (r : Int)] w (WPost x r w) := by
  obtain ⟨_, hnm, ta, tc, ba, bc, ea, ec, rfl, hlt, hlf, hlb, hle⟩ := hx.parts
  have hzz := szX_eq x
  obtain ⟨W1, hW1⟩ : ∃ W1, W1 = w.alloc (.cells #[.int .i64 x.kind, .string x.name, .int .i64 x.term.kind, .int .i64 x.term.num, .string x.term.name, .slice ta x.term.kids.length tc, .slice ba x.body.length bc, .slice ea x.els.length ec] 36) := ⟨_, rfl⟩
  have BX := Lib.hid (by rw [hW1]; exact boxed x ta ba ea tc bc ec w : Boxed x ta ba ea tc bc ec w W1)
  have HW1 := Lib.hid hW1
  have HR := Lib.hid (rx_if (r := r) hk)
  have HKD := Lib.hid hk
  have CB := Lib.hid (fun w2 hb => implBlock_any x ihb _ w2 r hr hz (hx.below (w' := w2) hb))
  have CL := Lib.hid (fun w2 hb => ihe _ w2 (r - 1) (by omega) (by omega) (hle.below (w' := w2) hb))
  have KS : Hid (∀ wx, Below W1.heap.size W1 wx → wx.cell? ⟨w.heap.size, 0, none⟩ = some (.int .i64 x.kind) ∧ wx.cell? ⟨w.heap.size, 1, none⟩ = some (.string x.name) ∧ wx.cell? ⟨w.heap.size, 2, none⟩ = some (.int .i64 x.term.kind) ∧ wx.cell? ⟨w.heap.size, 3, none⟩ = some (.int .i64 x.term.num) ∧ wx.cell? ⟨w.heap.size, 4, none⟩ = some (.string x.term.name) ∧ wx.cell? ⟨w.heap.size, 5, none⟩ = some (.slice ta x.term.kids.length tc) ∧ wx.cell? ⟨w.heap.size, 6, none⟩ = some (.slice ba x.body.length bc) ∧ wx.cell? ⟨w.heap.size, 7, none⟩ = some (.slice ea x.els.length ec) ∧ Below W1.heap.size W1 wx) := fun wx hb => ⟨(BX.out.k wx hb).1, (BX.out.k wx hb).2.1, (BX.out.k wx hb).2.2.1, (BX.out.k wx hb).2.2.2.1, (BX.out.k wx hb).2.2.2.2.1, (BX.out.k wx hb).2.2.2.2.2.1, (BX.out.k wx hb).2.2.2.2.2.2.1, (BX.out.k wx hb).2.2.2.2.2.2.2.1, hb⟩
  have hk1 := ne_true (k := x.kind) (x := 1) (by omega)
  have hk2 : (x.kind == 2) = true := by simp [hk]
  clear hx hlt hlf hlb hle hzz hz hnm hW1 hk
  go_enter Tryz.func174, Tryz.ntmps174
  go_wp2_with fail
  rw [← HW1.out]
  refine (CB.out _ BX.out.b).mono ?_
  rintro e w2 ⟨c0, c1, rfl, ⟨hv, hif, a1, n1, m1, rfl⟩, hb2⟩
  have B2 := Lib.hid hb2
  obtain ⟨W3, hW3⟩ : ∃ W3, W3 = w2.alloc (.cells #[c0, .slice a1 n1 m1] 232) := ⟨_, rfl⟩
  have hb3 : Below W1.heap.size W1 W3 := by rw [hW3]; exact hb2.alloc hb2.size _
  have B3 := Lib.hid hb3
  have d0 : W3.cell? ⟨w2.heap.size, 0, none⟩ = some c0 := by rw [hW3]; simp [go_sem]
  have d1 : W3.cell? ⟨w2.heap.size, 1, none⟩ = some (.slice a1 n1 m1) := by rw [hW3]; simp [go_sem]
  have D3 := Lib.hid (And.intro d0 d1)
  have K3 : Hid (Keeps w2 W3) := by show Keeps _ _; rw [hW3]; exact keeps_alloc _ _
  have HW3 := Lib.hid hW3
  obtain ⟨q0, q1, q2, q3, q4, q5, q6, q7, _⟩ := KS.out _ hb3
  clear hb2 hW3 d0 d1
  cases hq : blkB x r with
  | false =>
    have HF : Hid (rightX x r = false) := by show _ = _; rw [HR.out, hq]; rfl
    clear hq hv
    rcases hif with rfl | ⟨ty, pv, rfl⟩
    all_goals
      go_wp2
      rw [← HW3.out]
      go_ret2
      exact w_no HF.out rfl (BX.out.b.trans (Below.mono B3.out BX.out.b.size))
  | true =>
    obtain ⟨hc0, hlv⟩ := hv hq
    have hr1 := blk_pos hq
    have hrn : ((r - 1 : Nat) : Int) = (r : Int) - 1 := by omega
    rw [hrn] at CL
    obtain ⟨ty, pv, hi⟩ := rtV_iface x.term
    have HI := Lib.hid hi
    obtain rfl : c0 = .iface ty pv := hc0.trans hi
    have HLV := Lib.hid hlv
    have HR2 : Hid (rightX x r = rightXS x.els (r - 1)) := by show _ = _; rw [HR.out, hq]; rfl
    clear hq hv hc0 hi hif hlv hrn q0 q1 q2 q3 q4 q5 q6
    rw [HW3.out] at q7
    go_wp2_with fail
    rw [← HW3.out]
    refine (CL.out _ (BX.out.b.trans (Below.mono B3.out BX.out.b.size))).mono ?_
    rintro e w4 ⟨hb4, hres⟩
    have HB4 := Lib.hid (BX.out.b.trans (Below.mono (B3.out.trans (hb4.mono B3.out.size)) BX.out.b.size))
    have k4 := keeps_below hb4
    have K4 := Lib.hid k4
    have r0 := k4 _ _ D3.out.1
    have r1 := k4 _ _ D3.out.2
    obtain ⟨D, hD⟩ : ∃ D, D = w2.heap.size := ⟨_, rfl⟩
    rw [← hD] at r0 r1 ⊢
    clear hb4 k4 hD q7
    rcases hres with ⟨ht, v, rfl, hlv2⟩ | ⟨ht, rfl⟩
    · obtain ⟨a2, rfl, _⟩ := id hlv2
      have HF : Hid (rightX x r = true) := by show _ = _; rw [HR2.out, ht]
      have HV : Hid (RV w.heap.size w4 x (.iface 236 (.agg #[.iface ty pv, .slice a1 n1 m1, .slice a2 x.els.length x.els.length]))) := by
        show RV _ _ _ _
        rw [← HI.out]
        exact rv_if HKD.out (HLV.out.keep BX.out.b.size (fun p u _ e => K4.out _ _ (K3.out _ _ e))) (hlv2.keep (Nat.le_trans BX.out.b.size B3.out.size) (fun _ _ _ h => h))
      clear ht hlv2
      go_wp2
      go_ret2
      exact w_yes HF.out HV.out rfl HB4.out
    · have HF : Hid (rightX x r = false) := by show _ = _; rw [HR2.out, ht]
      clear ht
      go_wp2
      go_ret2
      exact w_no HF.out rfl HB4.out
end Go.Proofs.YtkfeiekgdfklmaaGreatDoor.Trm
namespace Go.Proofs.YtkfeiekgdfklmaaGreatDoor.Trm
open Go.RowKit Own Lexs
set_option linter.unusedSimpArgs false in
set_option maxRecDepth 20000 in
set_option maxHeartbeats 6400000 in
theorem within_while (x : STree) (ihb : LOk x.body) (v : Value) (w : World) (r : Nat) (hr : r ≤ 6) (hz : szX x ≤ 1048576) (hx : SB w x v) (hk : x.kind = 3) : Calls Tryz.prog 174 #[v, .int .i64 (r : Int)] w (WPost x r w) := by
  obtain ⟨_, hnm, ta, tc, ba, bc, ea, ec, rfl, hlt, hlf, hlb, hle⟩ := hx.parts
  have hzz := szX_eq x
  obtain ⟨W1, hW1⟩ : ∃ W1, W1 = w.alloc (.cells #[.int .i64 x.kind, .string x.name, .int .i64 x.term.kind, .int .i64 x.term.num, .string x.term.name, .slice ta x.term.kids.length tc, .slice ba x.body.length bc, .slice ea x.els.length ec] 36) := ⟨_, rfl⟩
  have BX := Lib.hid (by rw [hW1]; exact boxed x ta ba ea tc bc ec w : Boxed x ta ba ea tc bc ec w W1)
  have HW1 := Lib.hid hW1
  have HR := Lib.hid (rx_while (r := r) hk)
  have HKD := Lib.hid hk
  have CB := Lib.hid (fun w2 hb => implBlock_any x ihb _ w2 r hr hz (hx.below (w' := w2) hb))
  have KS : Hid (∀ wx, Below W1.heap.size W1 wx → wx.cell? ⟨w.heap.size, 0, none⟩ = some (.int .i64 x.kind) ∧ wx.cell? ⟨w.heap.size, 1, none⟩ = some (.string x.name) ∧ wx.cell? ⟨w.heap.size, 2, none⟩ = some (.int .i64 x.term.kind) ∧ wx.cell? ⟨w.heap.size, 3, none⟩ = some (.int .i64 x.term.num) ∧ wx.cell? ⟨w.heap.size, 4, none⟩ = some (.string x.term.name) ∧ wx.cell? ⟨w.heap.size, 5, none⟩ = some (.slice ta x.term.kids.length tc) ∧ wx.cell? ⟨w.heap.size, 6, none⟩ = some (.slice ba x.body.length bc) ∧ wx.cell? ⟨w.heap.size, 7, none⟩ = some (.slice ea x.els.length ec) ∧ Below W1.heap.size W1 wx) := fun wx hb => ⟨(BX.out.k wx hb).1, (BX.out.k wx hb).2.1, (BX.out.k wx hb).2.2.1, (BX.out.k wx hb).2.2.2.1, (BX.out.k wx hb).2.2.2.2.1, (BX.out.k wx hb).2.2.2.2.2.1, (BX.out.k wx hb).2.2.2.2.2.2.1, (BX.out.k wx hb).2.2.2.2.2.2.2.1, hb⟩
  have hk1 := ne_true (k := x.kind) (x := 1) (by omega)
  have hk2 := ne_true (k := x.kind) (x := 2) (by omega)
  have hk3 : (x.kind == 3) = true := by simp [hk]
  clear hx hlt hlf hlb hle hzz hz hnm hW1 hk
  go_enter Tryz.func174, Tryz.ntmps174
  go_wp2_with fail
  rw [← HW1.out]
  refine (CB.out _ BX.out.b).mono ?_
  rintro e w2 ⟨c0, c1, rfl, ⟨hv, hif, a1, n1, m1, rfl⟩, hb2⟩
  have B2 := Lib.hid hb2
  obtain ⟨W3, hW3⟩ : ∃ W3, W3 = w2.alloc (.cells #[c0, .slice a1 n1 m1] 232) := ⟨_, rfl⟩
  have hb3 : Below W1.heap.size W1 W3 := by rw [hW3]; exact hb2.alloc hb2.size _
  have B3 := Lib.hid hb3
  have d0 : W3.cell? ⟨w2.heap.size, 0, none⟩ = some c0 := by rw [hW3]; simp [go_sem]
  have d1 : W3.cell? ⟨w2.heap.size, 1, none⟩ = some (.slice a1 n1 m1) := by rw [hW3]; simp [go_sem]
  have D3 := Lib.hid (And.intro d0 d1)
  have K3 : Hid (Keeps w2 W3) := by show Keeps _ _; rw [hW3]; exact keeps_alloc _ _
  have HW3 := Lib.hid hW3
  obtain ⟨q0, q1, q2, q3, q4, q5, q6, q7, _⟩ := KS.out _ hb3
  clear hb2 hW3 hb3
  cases hq : blkB x r with
  | false =>
    have HF : Hid (rightX x r = false) := by show _ = _; rw [HR.out, hq]; rfl
    clear hq hv
    rcases hif with rfl | ⟨ty, pv, rfl⟩
    · go_wp2_with fail
      rw [← HW3.out]
      obtain ⟨D, hD⟩ : ∃ D, D = w2.heap.size := ⟨_, rfl⟩
      rw [← hD] at d0 d1 ⊢
      clear hD
      (try dsimp only [List.append])
      refine RegSeq.seq_begin (S := fun wx => wx.cell? ⟨D, 0, none⟩ = some .nilIface ∧ wx.cell? ⟨D, 1, none⟩ = some (.slice a1 n1 m1) ∧ wx.cell? ⟨w.heap.size, 7, none⟩ = some (.slice ea x.els.length ec)) (by kernel_rfl) (by kernel_rfl) (by kernel_rfl) (And.intro d0 (And.intro d1 q7)) (fun hHeld => ?_)
      iterate 5 (((refine RegSeq.Seq.take' (v := ?_) (by rfl) (by kernel_rfl) ?_ hHeld ?_; rotate_left; (focus ((intro w hSw; (try dsimp only at hSw); go_simp) <;> with_reducible rfl))); simp only [Act.put, List.setIfInBounds_toArray, List.set_cons_zero, List.set_cons_succ, Nat.reduceAdd]))
      (refine RegSeq.Seq.skips hHeld [76, 77, 78, 79] _ _ (by kernel_rfl) ?_; simp only [RegSeq.skipped, List.length_cons, List.length_nil]; simp only [Act.put, List.setIfInBounds_toArray, List.set_cons_zero, List.set_cons_succ, Nat.reduceAdd])
      iterate 3 (((refine RegSeq.Seq.take' (v := ?_) (by rfl) (by kernel_rfl) ?_ hHeld ?_; rotate_left; (focus ((intro w hSw; (try dsimp only at hSw); go_simp) <;> with_reducible rfl))); simp only [Act.put, List.setIfInBounds_toArray, List.set_cons_zero, List.set_cons_succ, Nat.reduceAdd]))
      refine RegSeq.Seq.done (by kernel_rfl) ?_
      clear hHeld
      go_wp2
      go_ret2
      exact w_no HF.out rfl (BX.out.b.trans (Below.mono B3.out.drew BX.out.b.size))
    · go_wp2_with fail
      rw [← HW3.out]
      obtain ⟨D, hD⟩ : ∃ D, D = w2.heap.size := ⟨_, rfl⟩
      rw [← hD] at d0 d1 ⊢
      clear hD
      (try dsimp only [List.append])
      refine RegSeq.seq_begin (S := fun wx => wx.cell? ⟨D, 0, none⟩ = some (.iface ty pv) ∧ wx.cell? ⟨D, 1, none⟩ = some (.slice a1 n1 m1) ∧ wx.cell? ⟨w.heap.size, 7, none⟩ = some (.slice ea x.els.length ec)) (by kernel_rfl) (by kernel_rfl) (by kernel_rfl) (And.intro d0 (And.intro d1 q7)) (fun hHeld => ?_)
      iterate 5 (((refine RegSeq.Seq.take' (v := ?_) (by rfl) (by kernel_rfl) ?_ hHeld ?_; rotate_left; (focus ((intro w hSw; (try dsimp only at hSw); go_simp) <;> with_reducible rfl))); simp only [Act.put, List.setIfInBounds_toArray, List.set_cons_zero, List.set_cons_succ, Nat.reduceAdd]))
      (refine RegSeq.Seq.skips hHeld [76, 77, 78, 79] _ _ (by kernel_rfl) ?_; simp only [RegSeq.skipped, List.length_cons, List.length_nil]; simp only [Act.put, List.setIfInBounds_toArray, List.set_cons_zero, List.set_cons_succ, Nat.reduceAdd])
      iterate 3 (((refine RegSeq.Seq.take' (v := ?_) (by rfl) (by kernel_rfl) ?_ hHeld ?_; rotate_left; (focus ((intro w hSw; (try dsimp only at hSw); go_simp) <;> with_reducible rfl))); simp only [Act.put, List.setIfInBounds_toArray, List.set_cons_zero, List.set_cons_succ, Nat.reduceAdd]))
      refine RegSeq.Seq.done (by kernel_rfl) ?_
      clear hHeld
      go_wp2
      go_ret2
      exact w_no HF.out rfl (BX.out.b.trans (Below.mono B3.out.drew BX.out.b.size))
  | true =>
    obtain ⟨hc0, hlv⟩ := hv hq
    obtain ⟨ty, pv, hi⟩ := rtV_iface x.term
    have HI := Lib.hid hi
    obtain rfl : c0 = .iface ty pv := hc0.trans hi
    have HLV := Lib.hid hlv
    have HR2 : Hid (rightX x r = decide (x.els.length = 0)) := by show _ = _; rw [HR.out, hq]; rfl
    have HV : Hid (RV w.heap.size W3.drew x (.iface 238 (.agg #[.iface ty pv, .slice a1 n1 m1]))) := by
      show RV _ _ _ _
      rw [← HI.out]
      exact rv_while HKD.out ((HLV.out.keep BX.out.b.size (fun p u _ e => K3.out _ _ e)).keep (Nat.le_refl _) ((keeps_drew W3).from _))
    clear hq hv hc0 hi hif hlv
    by_cases hl : x.els.length = 0
    · have hql : ((x.els.length : Int) == 0) = true := by rw [hl]; rfl
      have HF : Hid (rightX x r = true) := by show _ = _; rw [HR2.out]; simp [hl]
      clear hl
      go_wp2_with fail
      rw [← HW3.out]
      obtain ⟨D, hD⟩ : ∃ D, D = w2.heap.size := ⟨_, rfl⟩
      rw [← hD] at d0 d1 ⊢
      clear hD
      (try dsimp only [List.append])
      refine RegSeq.seq_begin (S := fun wx => wx.cell? ⟨D, 0, none⟩ = some (.iface ty pv) ∧ wx.cell? ⟨D, 1, none⟩ = some (.slice a1 n1 m1) ∧ wx.cell? ⟨w.heap.size, 7, none⟩ = some (.slice ea x.els.length ec)) (by kernel_rfl) (by kernel_rfl) (by kernel_rfl) (And.intro d0 (And.intro d1 q7)) (fun hHeld => ?_)
      iterate 12 (((refine RegSeq.Seq.take' (v := ?_) (by rfl) (by kernel_rfl) ?_ hHeld ?_; rotate_left; (focus ((intro w hSw; (try dsimp only at hSw); go_simp) <;> with_reducible rfl))); simp only [Act.put, List.setIfInBounds_toArray, List.set_cons_zero, List.set_cons_succ, Nat.reduceAdd]))
      refine RegSeq.Seq.done (by kernel_rfl) ?_
      clear hHeld
      go_wp2
      go_ret2
      exact w_yes HF.out HV.out rfl (BX.out.b.trans (Below.mono B3.out.drew BX.out.b.size))
    · have hql : ((x.els.length : Int) == 0) = false := ne_true (by omega)
      have HF : Hid (rightX x r = false) := by show _ = _; rw [HR2.out]; simp [hl]
      clear hl
      go_wp2_with fail
      rw [← HW3.out]
      obtain ⟨D, hD⟩ : ∃ D, D = w2.heap.size := ⟨_, rfl⟩
      rw [← hD] at d0 d1 ⊢
      clear hD
      (try dsimp only [List.append])
      refine RegSeq.seq_begin (S := fun wx => wx.cell? ⟨D, 0, none⟩ = some (.iface ty pv) ∧ wx.cell? ⟨D, 1, none⟩ = some (.slice a1 n1 m1) ∧ wx.cell? ⟨w.heap.size, 7, none⟩ = some (.slice ea x.els.length ec)) (by kernel_rfl) (by kernel_rfl) (by kernel_rfl) (And.intro d0 (And.intro d1 q7)) (fun hHeld => ?_)
      iterate 12 (((refine RegSeq.Seq.take' (v := ?_) (by rfl) (by kernel_rfl) ?_ hHeld ?_; rotate_left; (focus ((intro w hSw; (try dsimp only at hSw); go_simp) <;> with_reducible rfl))); simp only [Act.put, List.setIfInBounds_toArray, List.set_cons_zero, List.set_cons_succ, Nat.reduceAdd]))
      refine RegSeq.Seq.done (by kernel_rfl) ?_
      clear hHeld
      go_wp2
      go_ret2
      exact w_no HF.out rfl (BX.out.b.trans (Below.mono B3.out.drew BX.out.b.size))
end Go.Proofs.YtkfeiekgdfklmaaGreatDoor.Trm
namespace Go.Proofs.YtkfeiekgdfklmaaGreatDoor.Trm
open Go.RowKit Own Lexs
set_option linter.unusedSimpArgs false in
set_option maxRecDepth 20000 in
set_option maxHeartbeats 6400000 in
theorem within_skip (x : STree) (v : Value) (w : World) (r : Nat) (_ : r ≤ 6) (_ : szX x ≤ 1048576) (hx : SB w x v) (hk : x.kind = 8) : Calls Tryz.prog 174 #[v, .int .i64 (r : Int)] w (WPost x r w) := by
  obtain ⟨_, hnm, ta, tc, ba, bc, ea, ec, rfl, hlt, hlf, hlb, hle⟩ := hx.parts
  have hzz := szX_eq x
  obtain ⟨W1, hW1⟩ : ∃ W1, W1 = w.alloc (.cells #[.int .i64 x.kind, .string x.name, .int .i64 x.term.kind, .int .i64 x.term.num, .string x.term.name, .slice ta x.term.kids.length tc, .slice ba x.body.length bc, .slice ea x.els.length ec] 36) := ⟨_, rfl⟩
  have BX := Lib.hid (by rw [hW1]; exact boxed x ta ba ea tc bc ec w : Boxed x ta ba ea tc bc ec w W1)
  have HW1 := Lib.hid hW1
  have CN : Hid (∀ wx, Below W1.heap.size W1 wx → Calls Tryz.prog 95 #[.string x.name] wx fun e w' => e = .returned (.bool (isNm x.name.data.toList)) ∧ Below W1.heap.size W1 w') := fun wx hb => (implIsName_any x.name wx hnm).mono fun e w' ⟨he, h⟩ => ⟨he, h ▸ hb⟩
  have CL : Hid (∀ wx, Below W1.heap.size W1 wx → Calls Tryz.prog 187 #[.agg #[.int .i64 x.kind, .string x.name, .int .i64 x.term.kind, .int .i64 x.term.num, .string x.term.name, .slice ta x.term.kids.length tc, .slice ba x.body.length bc, .slice ea x.els.length ec]] wx fun e w' => e = .returned (.bool (noLists x.body x.els)) ∧ Below W1.heap.size W1 w') := fun wx hb => (implNoLists_any x ta ba ea tc bc ec wx).mono fun e w' ⟨he, h⟩ => ⟨he, hb.trans (h.mono hb.size)⟩
  have CZ : Hid (∀ wx, Below W1.heap.size W1 wx → Calls Tryz.prog 150 #[.agg #[.int .i64 x.term.kind, .int .i64 x.term.num, .string x.term.name, .slice ta x.term.kids.length tc]] wx fun e w' => e = .returned (.bool (sameT x.term zT)) ∧ Below W1.heap.size W1 w') := fun wx hb => (implNoTerm_any x.term ta tc wx (hlt.keep (keeps_below (BX.out.k wx hb).2.2.2.2.2.2.2.2))).mono fun e w' ⟨he, h⟩ => ⟨he, hb.trans (h.mono hb.size)⟩
  have HR := Lib.hid (rx_skip (r := r) hk)
  have HV : Hid (∀ w', RV w.heap.size w' x (.iface 240 (.agg #[]))) := fun w' => rv_skip hk
  have KS : Hid (∀ wx, Below W1.heap.size W1 wx → wx.cell? ⟨w.heap.size, 0, none⟩ = some (.int .i64 x.kind) ∧ wx.cell? ⟨w.heap.size, 1, none⟩ = some (.string x.name) ∧ wx.cell? ⟨w.heap.size, 2, none⟩ = some (.int .i64 x.term.kind) ∧ wx.cell? ⟨w.heap.size, 3, none⟩ = some (.int .i64 x.term.num) ∧ wx.cell? ⟨w.heap.size, 4, none⟩ = some (.string x.term.name) ∧ wx.cell? ⟨w.heap.size, 5, none⟩ = some (.slice ta x.term.kids.length tc) ∧ wx.cell? ⟨w.heap.size, 6, none⟩ = some (.slice ba x.body.length bc) ∧ wx.cell? ⟨w.heap.size, 7, none⟩ = some (.slice ea x.els.length ec) ∧ Below W1.heap.size W1 wx) := fun wx hb => ⟨(BX.out.k wx hb).1, (BX.out.k wx hb).2.1, (BX.out.k wx hb).2.2.1, (BX.out.k wx hb).2.2.2.1, (BX.out.k wx hb).2.2.2.2.1, (BX.out.k wx hb).2.2.2.2.2.1, (BX.out.k wx hb).2.2.2.2.2.2.1, (BX.out.k wx hb).2.2.2.2.2.2.2.1, hb⟩
  have hk1 := ne_true (k := x.kind) (x := 1) (by omega)
  have hk2 := ne_true (k := x.kind) (x := 2) (by omega)
  have hk3 := ne_true (k := x.kind) (x := 3) (by omega)
  have hk8 : (x.kind == 8) = true := by simp [hk]
  have b00 : Below W1.heap.size W1 W1 := Below.refl _ _
  clear hx hlt hlf hlb hle hzz hnm hW1 hk
  generalize sameT x.term zT = r2 at CZ HR
  generalize noLists x.body x.els = r3 at CL HR
  by_cases hs : x.name.size = 0
  · have he := empty_true hs
    have HR2 : Hid (rightX x r = (r2 && r3)) := by show _ = _; rw [HR.out]; simp [hs]
    clear hs
    go_enter Tryz.func174, Tryz.ntmps174
    go_wp2_with fail
    rw [← HW1.out]
    refine (CZ.out _ b00).mono ?_
    rintro e w3 ⟨rfl, b3⟩
    obtain ⟨q0, q1, q2, q3, q4, q5, q6, q7, _⟩ := KS.out _ b3
    cases r2 with
    | false =>
      have HF : Hid (rightX x r = false) := by show _ = _; rw [HR2.out]; rfl
      go_wp2
      go_ret2
      exact w_no HF.out rfl (BX.out.b.trans (Below.mono b3 BX.out.b.size))
    | true =>
      go_wp2_with fail
      refine (CL.out _ b3).mono ?_
      rintro e w4 ⟨rfl, b4⟩
      cases r3 with
      | false =>
        have HF : Hid (rightX x r = false) := by show _ = _; rw [HR2.out]; rfl
        go_wp2
        go_ret2
        exact w_no HF.out rfl (BX.out.b.trans (Below.mono b4 BX.out.b.size))
      | true =>
        have HF : Hid (rightX x r = true) := by show _ = _; rw [HR2.out]; rfl
        go_wp2
        go_ret2
        exact w_yes HF.out (HV.out _) rfl (BX.out.b.trans (Below.mono b4 BX.out.b.size))
  · have he := empty_false hs
    have HF : Hid (rightX x r = false) := by show _ = _; rw [HR.out]; simp [hs]
    clear hs
    go_enter Tryz.func174, Tryz.ntmps174
    go_wp2
    rw [← HW1.out]
    go_ret2
    exact w_no HF.out rfl BX.out.b
end Go.Proofs.YtkfeiekgdfklmaaGreatDoor.Trm
namespace Go.Proofs.YtkfeiekgdfklmaaGreatDoor.Trm
open Go.RowKit Own Lexs
set_option linter.unusedSimpArgs false in
set_option maxRecDepth 20000 in
set_option maxHeartbeats 6400000 in
theorem within_word (x : STree) (v : Value) (w : World) (r : Nat) (_ : r ≤ 6) (_ : szX x ≤ 1048576) (hx : SB w x v) (hk : x.kind = 4 ∨ x.kind = 5 ∨ x.kind = 6 ∨ x.kind = 7) : Calls Tryz.prog 174 #[v, .int .i64 (r : Int)] w (WPost x r w) := by
  obtain ⟨_, hnm, ta, tc, ba, bc, ea, ec, rfl, hlt, hlf, hlb, hle⟩ := hx.parts
  have hzz := szX_eq x
  obtain ⟨W1, hW1⟩ : ∃ W1, W1 = w.alloc (.cells #[.int .i64 x.kind, .string x.name, .int .i64 x.term.kind, .int .i64 x.term.num, .string x.term.name, .slice ta x.term.kids.length tc, .slice ba x.body.length bc, .slice ea x.els.length ec] 36) := ⟨_, rfl⟩
  have BX := Lib.hid (by rw [hW1]; exact boxed x ta ba ea tc bc ec w : Boxed x ta ba ea tc bc ec w W1)
  have HW1 := Lib.hid hW1
  have CN : Hid (∀ wx, Below W1.heap.size W1 wx → Calls Tryz.prog 95 #[.string x.name] wx fun e w' => e = .returned (.bool (isNm x.name.data.toList)) ∧ Below W1.heap.size W1 w') := fun wx hb => (implIsName_any x.name wx hnm).mono fun e w' ⟨he, h⟩ => ⟨he, h ▸ hb⟩
  have CL : Hid (∀ wx, Below W1.heap.size W1 wx → Calls Tryz.prog 187 #[.agg #[.int .i64 x.kind, .string x.name, .int .i64 x.term.kind, .int .i64 x.term.num, .string x.term.name, .slice ta x.term.kids.length tc, .slice ba x.body.length bc, .slice ea x.els.length ec]] wx fun e w' => e = .returned (.bool (noLists x.body x.els)) ∧ Below W1.heap.size W1 w') := fun wx hb => (implNoLists_any x ta ba ea tc bc ec wx).mono fun e w' ⟨he, h⟩ => ⟨he, hb.trans (h.mono hb.size)⟩
  have CZ : Hid (∀ wx, Below W1.heap.size W1 wx → Calls Tryz.prog 150 #[.agg #[.int .i64 x.term.kind, .int .i64 x.term.num, .string x.term.name, .slice ta x.term.kids.length tc]] wx fun e w' => e = .returned (.bool (sameT x.term zT)) ∧ Below W1.heap.size W1 w') := fun wx hb => (implNoTerm_any x.term ta tc wx (hlt.keep (keeps_below (BX.out.k wx hb).2.2.2.2.2.2.2.2))).mono fun e w' ⟨he, h⟩ => ⟨he, hb.trans (h.mono hb.size)⟩
  have CW := Lib.hid (fun w2 => implWord_any x.kind w2)
  have HR := Lib.hid (rx_word (r := r) hk)
  have HWE := Lib.hid (empty_false (wordB_some hk))
  have HV : Hid (∀ w', RV w.heap.size w' x (.iface 242 (.agg #[.string x.name, .string (wordB x.kind)]))) := fun w' => rv_word hk
  have KS : Hid (∀ wx, Below W1.heap.size W1 wx → wx.cell? ⟨w.heap.size, 0, none⟩ = some (.int .i64 x.kind) ∧ wx.cell? ⟨w.heap.size, 1, none⟩ = some (.string x.name) ∧ wx.cell? ⟨w.heap.size, 2, none⟩ = some (.int .i64 x.term.kind) ∧ wx.cell? ⟨w.heap.size, 3, none⟩ = some (.int .i64 x.term.num) ∧ wx.cell? ⟨w.heap.size, 4, none⟩ = some (.string x.term.name) ∧ wx.cell? ⟨w.heap.size, 5, none⟩ = some (.slice ta x.term.kids.length tc) ∧ wx.cell? ⟨w.heap.size, 6, none⟩ = some (.slice ba x.body.length bc) ∧ wx.cell? ⟨w.heap.size, 7, none⟩ = some (.slice ea x.els.length ec) ∧ Below W1.heap.size W1 wx) := fun wx hb => ⟨(BX.out.k wx hb).1, (BX.out.k wx hb).2.1, (BX.out.k wx hb).2.2.1, (BX.out.k wx hb).2.2.2.1, (BX.out.k wx hb).2.2.2.2.1, (BX.out.k wx hb).2.2.2.2.2.1, (BX.out.k wx hb).2.2.2.2.2.2.1, (BX.out.k wx hb).2.2.2.2.2.2.2.1, hb⟩
  have hk1 := ne_true (k := x.kind) (x := 1) (by omega)
  have hk2 := ne_true (k := x.kind) (x := 2) (by omega)
  have hk3 := ne_true (k := x.kind) (x := 3) (by omega)
  have hk8 := ne_true (k := x.kind) (x := 8) (by omega)
  have b00 : Below W1.heap.size W1 W1 := Below.refl _ _
  clear hx hlt hlf hlb hle hzz hnm hW1 hk
  generalize wordB x.kind = wd at CW HWE HV
  have hwe := HWE.out
  go_enter Tryz.func174, Tryz.ntmps174
  go_wp2_with fail
  rw [← HW1.out]
  refine (CW.out _).mono ?_
  rintro e w2 ⟨rfl, rfl⟩
  have hb0 : Below W1.heap.size W1 W1.drew := b00.drew
  generalize isNm x.name.data.toList = r1 at CN HR
  generalize sameT x.term zT = r2 at CZ HR
  generalize noLists x.body x.els = r3 at CL HR
  go_wp2_with fail
  (try dsimp only [List.append])
  refine RegSeq.seq_begin (S := fun wx => wx.cell? ⟨w.heap.size, 0, none⟩ = some (.int .i64 x.kind) ∧ wx.cell? ⟨w.heap.size, 1, none⟩ = some (.string x.name) ∧ wx.cell? ⟨w.heap.size, 2, none⟩ = some (.int .i64 x.term.kind) ∧ wx.cell? ⟨w.heap.size, 3, none⟩ = some (.int .i64 x.term.num) ∧ wx.cell? ⟨w.heap.size, 4, none⟩ = some (.string x.term.name) ∧ wx.cell? ⟨w.heap.size, 5, none⟩ = some (.slice ta x.term.kids.length tc) ∧ wx.cell? ⟨w.heap.size, 6, none⟩ = some (.slice ba x.body.length bc) ∧ wx.cell? ⟨w.heap.size, 7, none⟩ = some (.slice ea x.els.length ec) ∧ Below W1.heap.size W1 wx) (by kernel_rfl) (by kernel_rfl) (by kernel_rfl) (KS.out _ hb0) (fun hHeld => ?_)
  iterate 9 (((refine RegSeq.Seq.take' (v := ?_) (by rfl) (by kernel_rfl) ?_ hHeld ?_; rotate_left; (focus ((intro w hSw; (try dsimp only at hSw); go_simp) <;> with_reducible rfl))); simp only [Act.put, List.setIfInBounds_toArray, List.set_cons_zero, List.set_cons_succ, Nat.reduceAdd]))
  iterate 2 (((refine RegSeq.Seq.take' (v := ?_) (by rfl) (by kernel_rfl) ?_ hHeld ?_; rotate_left; (focus ((intro w hSw; (try dsimp only at hSw); go_simp) <;> with_reducible rfl))); simp only [Act.put, List.setIfInBounds_toArray, List.set_cons_zero, List.set_cons_succ, Nat.reduceAdd]))
  refine RegSeq.Seq.step' (by rfl) (by kernel_rfl) (by kernel_rfl) (fun K hK => ?_)
  go_simp
  go_at_call 95
  with_reducible refine (CN.out _ (by assumption)).mono ?_
  rintro e w3 ⟨rfl, bw3⟩
  refine hK.out _ _ (KS.out _ bw3) (fun hHeld => ?_)
  clear hK K
  simp only [Act.put, List.setIfInBounds_toArray, List.set_cons_zero, List.set_cons_succ, Nat.reduceAdd]
  cases r1 with
  | false =>
    have HF : Hid (rightX x r = false) := by show _ = _; rw [HR.out]; rfl
    iterate 2 (((refine RegSeq.Seq.take' (v := ?_) (by rfl) (by kernel_rfl) ?_ hHeld ?_; rotate_left; (focus ((intro w hSw; (try dsimp only at hSw); go_simp) <;> with_reducible rfl))); simp only [Act.put, List.setIfInBounds_toArray, List.set_cons_zero, List.set_cons_succ, Nat.reduceAdd]))
    (refine RegSeq.Seq.skips hHeld [114, 115, 116] _ _ (by kernel_rfl) ?_; simp only [RegSeq.skipped, List.length_cons, List.length_nil]; simp only [Act.put, List.setIfInBounds_toArray, List.set_cons_zero, List.set_cons_succ, Nat.reduceAdd])
    iterate 2 (((refine RegSeq.Seq.take' (v := ?_) (by rfl) (by kernel_rfl) ?_ hHeld ?_; rotate_left; (focus ((intro w hSw; (try dsimp only at hSw); go_simp) <;> with_reducible rfl))); simp only [Act.put, List.setIfInBounds_toArray, List.set_cons_zero, List.set_cons_succ, Nat.reduceAdd]))
    (refine RegSeq.Seq.skips hHeld [119, 120] _ _ (by kernel_rfl) ?_; simp only [RegSeq.skipped, List.length_cons, List.length_nil]; simp only [Act.put, List.setIfInBounds_toArray, List.set_cons_zero, List.set_cons_succ, Nat.reduceAdd])
    iterate 3 (((refine RegSeq.Seq.take' (v := ?_) (by rfl) (by kernel_rfl) ?_ hHeld ?_; rotate_left; (focus ((intro w hSw; (try dsimp only at hSw); go_simp) <;> with_reducible rfl))); simp only [Act.put, List.setIfInBounds_toArray, List.set_cons_zero, List.set_cons_succ, Nat.reduceAdd]))
    refine RegSeq.Seq.done (by kernel_rfl) ?_
    clear hHeld
    go_wp2
    go_ret2
    exact w_no HF.out rfl (BX.out.b.trans (Below.mono bw3 BX.out.b.size))
  | true =>
    iterate 4 (((refine RegSeq.Seq.take' (v := ?_) (by rfl) (by kernel_rfl) ?_ hHeld ?_; rotate_left; (focus ((intro w hSw; (try dsimp only at hSw); go_simp) <;> with_reducible rfl))); simp only [Act.put, List.setIfInBounds_toArray, List.set_cons_zero, List.set_cons_succ, Nat.reduceAdd]))
    refine RegSeq.Seq.step' (by rfl) (by kernel_rfl) (by kernel_rfl) (fun K hK => ?_)
    go_simp
    go_at_call 150
    with_reducible refine (CZ.out _ (by assumption)).mono ?_
    rintro e w4 ⟨rfl, bw4⟩
    refine hK.out _ _ (KS.out _ bw4) (fun hHeld => ?_)
    clear hK K
    simp only [Act.put, List.setIfInBounds_toArray, List.set_cons_zero, List.set_cons_succ, Nat.reduceAdd]
    cases r2 with
    | false =>
      have HF : Hid (rightX x r = false) := by show _ = _; rw [HR.out]; rfl
      iterate 2 (((refine RegSeq.Seq.take' (v := ?_) (by rfl) (by kernel_rfl) ?_ hHeld ?_; rotate_left; (focus ((intro w hSw; (try dsimp only at hSw); go_simp) <;> with_reducible rfl))); simp only [Act.put, List.setIfInBounds_toArray, List.set_cons_zero, List.set_cons_succ, Nat.reduceAdd]))
      (refine RegSeq.Seq.skips hHeld [119, 120] _ _ (by kernel_rfl) ?_; simp only [RegSeq.skipped, List.length_cons, List.length_nil]; simp only [Act.put, List.setIfInBounds_toArray, List.set_cons_zero, List.set_cons_succ, Nat.reduceAdd])
      iterate 3 (((refine RegSeq.Seq.take' (v := ?_) (by rfl) (by kernel_rfl) ?_ hHeld ?_; rotate_left; (focus ((intro w hSw; (try dsimp only at hSw); go_simp) <;> with_reducible rfl))); simp only [Act.put, List.setIfInBounds_toArray, List.set_cons_zero, List.set_cons_succ, Nat.reduceAdd]))
      refine RegSeq.Seq.done (by kernel_rfl) ?_
      clear hHeld
      go_wp2
      go_ret2
      exact w_no HF.out rfl (BX.out.b.trans (Below.mono bw4 BX.out.b.size))
    | true =>
      iterate 3 (((refine RegSeq.Seq.take' (v := ?_) (by rfl) (by kernel_rfl) ?_ hHeld ?_; rotate_left; (focus ((intro w hSw; (try dsimp only at hSw); go_simp) <;> with_reducible rfl))); simp only [Act.put, List.setIfInBounds_toArray, List.set_cons_zero, List.set_cons_succ, Nat.reduceAdd]))
      refine RegSeq.Seq.step' (by rfl) (by kernel_rfl) (by kernel_rfl) (fun K hK => ?_)
      go_simp
      go_at_call 187
      with_reducible refine (CL.out _ (by assumption)).mono ?_
      rintro e w5 ⟨rfl, bw5⟩
      refine hK.out _ _ (KS.out _ bw5) (fun hHeld => ?_)
      clear hK K
      simp only [Act.put, List.setIfInBounds_toArray, List.set_cons_zero, List.set_cons_succ, Nat.reduceAdd]
      cases r3 with
      | false =>
        have HF : Hid (rightX x r = false) := by show _ = _; rw [HR.out]; rfl
        iterate 3 (((refine RegSeq.Seq.take' (v := ?_) (by rfl) (by kernel_rfl) ?_ hHeld ?_; rotate_left; (focus ((intro w hSw; (try dsimp only at hSw); go_simp) <;> with_reducible rfl))); simp only [Act.put, List.setIfInBounds_toArray, List.set_cons_zero, List.set_cons_succ, Nat.reduceAdd]))
        refine RegSeq.Seq.done (by kernel_rfl) ?_
        clear hHeld
        go_wp2
        go_ret2
        exact w_no HF.out rfl (BX.out.b.trans (Below.mono bw5 BX.out.b.size))
      | true =>
        have HF : Hid (rightX x r = true) := by show _ = _; rw [HR.out]; rfl
        iterate 3 (((refine RegSeq.Seq.take' (v := ?_) (by rfl) (by kernel_rfl) ?_ hHeld ?_; rotate_left; (focus ((intro w hSw; (try dsimp only at hSw); go_simp) <;> with_reducible rfl))); simp only [Act.put, List.setIfInBounds_toArray, List.set_cons_zero, List.set_cons_succ, Nat.reduceAdd]))
        refine RegSeq.Seq.done (by kernel_rfl) ?_
        clear hHeld
        go_wp2
        go_ret2
        exact w_yes HF.out (HV.out _) rfl (BX.out.b.trans (Below.mono bw5 BX.out.b.size))
end Go.Proofs.YtkfeiekgdfklmaaGreatDoor.Trm
namespace Go.Proofs.YtkfeiekgdfklmaaGreatDoor.Trm
open Go.RowKit Own Lexs
set_option linter.unusedSimpArgs false in
set_option maxRecDepth 20000 in
set_option maxHeartbeats 6400000 in
theorem within_none (x : STree) (v : Value) (w : World) (r : Nat) (_ : r ≤ 6) (_ : szX x ≤ 1048576) (hx : SB w x v) (hk : ¬ (1 ≤ x.kind ∧ x.kind ≤ 8)) : Calls Tryz.prog 174 #[v, .int .i64 (r : Int)] w (WPost x r w) := by
  obtain ⟨_, hnm, ta, tc, ba, bc, ea, ec, rfl, hlt, hlf, hlb, hle⟩ := hx.parts
  have hzz := szX_eq x
  obtain ⟨W1, hW1⟩ : ∃ W1, W1 = w.alloc (.cells #[.int .i64 x.kind, .string x.name, .int .i64 x.term.kind, .int .i64 x.term.num, .string x.term.name, .slice ta x.term.kids.length tc, .slice ba x.body.length bc, .slice ea x.els.length ec] 36) := ⟨_, rfl⟩
  have BX := Lib.hid (by rw [hW1]; exact boxed x ta ba ea tc bc ec w : Boxed x ta ba ea tc bc ec w W1)
  have HW1 := Lib.hid hW1
  have CN : Hid (∀ wx, Below W1.heap.size W1 wx → Calls Tryz.prog 95 #[.string x.name] wx fun e w' => e = .returned (.bool (isNm x.name.data.toList)) ∧ Below W1.heap.size W1 w') := fun wx hb => (implIsName_any x.name wx hnm).mono fun e w' ⟨he, h⟩ => ⟨he, h ▸ hb⟩
  have CL : Hid (∀ wx, Below W1.heap.size W1 wx → Calls Tryz.prog 187 #[.agg #[.int .i64 x.kind, .string x.name, .int .i64 x.term.kind, .int .i64 x.term.num, .string x.term.name, .slice ta x.term.kids.length tc, .slice ba x.body.length bc, .slice ea x.els.length ec]] wx fun e w' => e = .returned (.bool (noLists x.body x.els)) ∧ Below W1.heap.size W1 w') := fun wx hb => (implNoLists_any x ta ba ea tc bc ec wx).mono fun e w' ⟨he, h⟩ => ⟨he, hb.trans (h.mono hb.size)⟩
  have CZ : Hid (∀ wx, Below W1.heap.size W1 wx → Calls Tryz.prog 150 #[.agg #[.int .i64 x.term.kind, .int .i64 x.term.num, .string x.term.name, .slice ta x.term.kids.length tc]] wx fun e w' => e = .returned (.bool (sameT x.term zT)) ∧ Below W1.heap.size W1 w') := fun wx hb => (implNoTerm_any x.term ta tc wx (hlt.keep (keeps_below (BX.out.k wx hb).2.2.2.2.2.2.2.2))).mono fun e w' ⟨he, h⟩ => ⟨he, hb.trans (h.mono hb.size)⟩
  have CW := Lib.hid (fun w2 => implWord_any x.kind w2)
  have HF : Hid (rightX x r = false) := rx_none (by omega)
  have HWE := Lib.hid (empty_true (p := wordB x.kind) (by rw [wordB_none (by omega)]; rfl))
  have KS : Hid (∀ wx, Below W1.heap.size W1 wx → wx.cell? ⟨w.heap.size, 0, none⟩ = some (.int .i64 x.kind) ∧ wx.cell? ⟨w.heap.size, 1, none⟩ = some (.string x.name) ∧ wx.cell? ⟨w.heap.size, 2, none⟩ = some (.int .i64 x.term.kind) ∧ wx.cell? ⟨w.heap.size, 3, none⟩ = some (.int .i64 x.term.num) ∧ wx.cell? ⟨w.heap.size, 4, none⟩ = some (.string x.term.name) ∧ wx.cell? ⟨w.heap.size, 5, none⟩ = some (.slice ta x.term.kids.length tc) ∧ wx.cell? ⟨w.heap.size, 6, none⟩ = some (.slice ba x.body.length bc) ∧ wx.cell? ⟨w.heap.size, 7, none⟩ = some (.slice ea x.els.length ec) ∧ Below W1.heap.size W1 wx) := fun wx hb => ⟨(BX.out.k wx hb).1, (BX.out.k wx hb).2.1, (BX.out.k wx hb).2.2.1, (BX.out.k wx hb).2.2.2.1, (BX.out.k wx hb).2.2.2.2.1, (BX.out.k wx hb).2.2.2.2.2.1, (BX.out.k wx hb).2.2.2.2.2.2.1, (BX.out.k wx hb).2.2.2.2.2.2.2.1, hb⟩
  have hk1 := ne_true (k := x.kind) (x := 1) (by omega)
  have hk2 := ne_true (k := x.kind) (x := 2) (by omega)
  have hk3 := ne_true (k := x.kind) (x := 3) (by omega)
  have hk8 := ne_true (k := x.kind) (x := 8) (by omega)
  have b00 : Below W1.heap.size W1 W1 := Below.refl _ _
  clear hx hlt hlf hlb hle hzz hnm hW1 hk
  generalize wordB x.kind = wd at CW HWE
  have hwe := HWE.out
  go_enter Tryz.func174, Tryz.ntmps174
  go_wp2_with fail
  rw [← HW1.out]
  refine (CW.out _).mono ?_
  rintro e w2 ⟨rfl, rfl⟩
  have hb0 : Below W1.heap.size W1 W1.drew := b00.drew
  go_wp2_with fail
  (try dsimp only [List.append])
  refine RegSeq.seq_begin (S := fun wx => wx.cell? ⟨w.heap.size, 0, none⟩ = some (.int .i64 x.kind) ∧ wx.cell? ⟨w.heap.size, 1, none⟩ = some (.string x.name) ∧ wx.cell? ⟨w.heap.size, 2, none⟩ = some (.int .i64 x.term.kind) ∧ wx.cell? ⟨w.heap.size, 3, none⟩ = some (.int .i64 x.term.num) ∧ wx.cell? ⟨w.heap.size, 4, none⟩ = some (.string x.term.name) ∧ wx.cell? ⟨w.heap.size, 5, none⟩ = some (.slice ta x.term.kids.length tc) ∧ wx.cell? ⟨w.heap.size, 6, none⟩ = some (.slice ba x.body.length bc) ∧ wx.cell? ⟨w.heap.size, 7, none⟩ = some (.slice ea x.els.length ec) ∧ Below W1.heap.size W1 wx) (by kernel_rfl) (by kernel_rfl) (by kernel_rfl) (KS.out _ hb0) (fun hHeld => ?_)
  iterate 9 (((refine RegSeq.Seq.take' (v := ?_) (by rfl) (by kernel_rfl) ?_ hHeld ?_; rotate_left; (focus ((intro w hSw; (try dsimp only at hSw); go_simp) <;> with_reducible rfl))); simp only [Act.put, List.setIfInBounds_toArray, List.set_cons_zero, List.set_cons_succ, Nat.reduceAdd]))
  (refine RegSeq.Seq.skips hHeld [109, 110, 111] _ _ (by kernel_rfl) ?_; simp only [RegSeq.skipped, List.length_cons, List.length_nil]; simp only [Act.put, List.setIfInBounds_toArray, List.set_cons_zero, List.set_cons_succ, Nat.reduceAdd])
  iterate 2 (((refine RegSeq.Seq.take' (v := ?_) (by rfl) (by kernel_rfl) ?_ hHeld ?_; rotate_left; (focus ((intro w hSw; (try dsimp only at hSw); go_simp) <;> with_reducible rfl))); simp only [Act.put, List.setIfInBounds_toArray, List.set_cons_zero, List.set_cons_succ, Nat.reduceAdd]))
  (refine RegSeq.Seq.skips hHeld [114, 115, 116] _ _ (by kernel_rfl) ?_; simp only [RegSeq.skipped, List.length_cons, List.length_nil]; simp only [Act.put, List.setIfInBounds_toArray, List.set_cons_zero, List.set_cons_succ, Nat.reduceAdd])
  iterate 2 (((refine RegSeq.Seq.take' (v := ?_) (by rfl) (by kernel_rfl) ?_ hHeld ?_; rotate_left; (focus ((intro w hSw; (try dsimp only at hSw); go_simp) <;> with_reducible rfl))); simp only [Act.put, List.setIfInBounds_toArray, List.set_cons_zero, List.set_cons_succ, Nat.reduceAdd]))
  (refine RegSeq.Seq.skips hHeld [119, 120] _ _ (by kernel_rfl) ?_; simp only [RegSeq.skipped, List.length_cons, List.length_nil]; simp only [Act.put, List.setIfInBounds_toArray, List.set_cons_zero, List.set_cons_succ, Nat.reduceAdd])
  iterate 3 (((refine RegSeq.Seq.take' (v := ?_) (by rfl) (by kernel_rfl) ?_ hHeld ?_; rotate_left; (focus ((intro w hSw; (try dsimp only at hSw); go_simp) <;> with_reducible rfl))); simp only [Act.put, List.setIfInBounds_toArray, List.set_cons_zero, List.set_cons_succ, Nat.reduceAdd]))
  refine RegSeq.Seq.done (by kernel_rfl) ?_
  clear hHeld
  go_wp2
  go_ret2
  exact w_no HF.out rfl (BX.out.b.trans (Below.mono hb0 BX.out.b.size))
end Go.Proofs.YtkfeiekgdfklmaaGreatDoor.Trm
