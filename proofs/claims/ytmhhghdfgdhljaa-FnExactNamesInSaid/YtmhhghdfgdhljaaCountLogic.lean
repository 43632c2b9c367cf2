/- How statements are counted list by list, with a map of what was counted: what holds of the heap of lists that are to be counted. Without conditions: no Go text is spoken of here. -/
import Derived.Test.YtmhhghdfgdhljaaSpotOne
import Derived.Test.YtmhhghdfgdhljaaSCnt
import Derived.Test.YtmhhghdfgdhljaaKindSize
namespace Go.Proofs.Ytmhhghdfgdhljaa.Cn
open Go.RowKit Own Trm Km SpX
/-- A list that is to be counted. -/
structure Ce where
  v : Value
  l : List STree
  b : Bool
abbrev keyV (v : Value) (l : List STree) : Value := spV (spotA v) l.length
/-- The lists within an element. -/
def KidAt (V : World) (v : Value) (xs : List STree) (i j : Nat) (mv : Value) (m : List STree) : Prop :=
  ∃ (g o n c : Nat) (hi : i < xs.length), v = .slice (some ⟨g, o, none⟩) n c ∧ V.cell? ⟨g, o + i * 8 + (6 + j), none⟩ = some mv ∧ (j = 0 ∧ m = xs[i].body ∨ j = 1 ∧ m = xs[i].els)
def Done (me : List MapEntry) (v : Value) (l : List STree) : Prop := lookK me (keyV v l) = some (.int .i64 (cntXS l : Int))
def Same (v u : Value) (l m : List STree) : Prop := spotA v = spotA u ∧ l = m
theorem Same.key {v u : Value} {l m : List STree} (h : Same v u l m) : keyV v l = keyV u m := by unfold keyV; rw [h.1, h.2]
theorem Done.of_same {me : List MapEntry} {v u : Value} {l m : List STree} (h : Done me v l) (hs : Same v u l m) : Done me u m := by
  unfold Done at *
  rw [← hs.key, ← hs.2]; exact h
theorem same_of_key {V : World} {v u : Value} {l m : List STree} (h1 : SListF V v l) (h2 : SListF V u m) (e : keyV v l = keyV u m) : Same v u l m := by
  unfold keyV at e
  rw [spV_iff] at e
  exact ⟨e.1, spot_det h1 h2 e.1 e.2⟩
def Wait (V : World) (me : List MapEntry) : List Ce → Prop
  | [] => True
  | e :: B => (e.b = true → ∀ i j mv m, KidAt V e.v e.l i j mv m → Done me mv m ∨ ∃ f, f ∈ B ∧ Same f.v mv f.l m) ∧ Wait V me B
def Ord (es : List Ce) : Prop := es.Pairwise fun e f => e.b = true → kdXL f.l < kdXL e.l
structure Cg (V : World) (rv : Value) (root : List STree) (me : List MapEntry) (es : List Ce) : Prop where
  ord : Ord es
  wait : Wait V me es
  look : ∀ k v, lookK me k = some v → ∃ mv m, k = keyV mv m ∧ SListF V mv m ∧ (v = .int .i64 (cntXS m : Int) ∨ (∃ e, e ∈ es ∧ e.b = true ∧ Same e.v mv e.l m))
  rt : Done me rv root ∨ ∃ e, e ∈ es ∧ Same e.v rv e.l root
  ok : ∀ e, e ∈ es → SListF V e.v e.l
def costE (e : Ce) : Nat := if e.b then 1 else 2 + 2 * kdXL e.l
def cost : List Ce → Nat
  | [] => 0
  | e :: es => costE e + cost es
theorem cost_append : ∀ (a b : List Ce), cost (a ++ b) = cost a + cost b
  | [], b => by simp [cost]
  | e :: a, b => by simp only [List.cons_append, cost, cost_append a b]; omega
theorem cost_len : ∀ es : List Ce, es.length ≤ cost es
  | [] => by simp [cost]
  | e :: es => by
    have := cost_len es
    have h : 1 ≤ costE e := by unfold costE; split <;> omega
    simp only [List.length_cons, cost]; omega
theorem wait_snoc {V : World} {me : List MapEntry} : ∀ {A : List Ce} {c : Ce}, Wait V me (A ++ [c]) ↔ ((∀ (A1 A2 : List Ce) (e : Ce), A = A1 ++ e :: A2 → e.b = true → ∀ i j mv m, KidAt V e.v e.l i j mv m → Done me mv m ∨ (∃ f, f ∈ A2 ∧ Same f.v mv f.l m) ∨ Same c.v mv c.l m) ∧ (c.b = true → ∀ i j mv m, KidAt V c.v c.l i j mv m → Done me mv m))
  | [], c => by
    constructor
    · intro h
      refine ⟨fun A1 A2 e he => by simp at he, fun hb i j mv m hk => ?_⟩
      rcases h.1 hb i j mv m hk with h | ⟨f, hf, _⟩
      · exact h
      · cases hf
    · intro h
      exact ⟨fun hb i j mv m hk => .inl (h.2 hb i j mv m hk), trivial⟩
  | a :: A, c => by
    constructor
    · intro h
      have ih := (wait_snoc (A := A) (c := c)).1 h.2
      refine ⟨fun A1 A2 e he hb i j mv m hk => ?_, ih.2⟩
      cases A1 with
      | nil =>
        simp at he
        obtain ⟨rfl, rfl⟩ := he
        rcases h.1 hb i j mv m hk with h | ⟨f, hf, hs⟩
        · exact .inl h
        · rcases List.mem_append.1 hf with hf | hf
          · exact .inr (.inl ⟨f, hf, hs⟩)
          · obtain rfl : f = c := by simpa using hf
            exact .inr (.inr hs)
      | cons a' A1 =>
        simp at he
        obtain ⟨rfl, he⟩ := he
        exact ih.1 A1 A2 e he hb i j mv m hk
    · intro h
      refine ⟨fun hb i j mv m hk => ?_, (wait_snoc (A := A) (c := c)).2 ⟨fun A1 A2 e he => h.1 (a :: A1) A2 e (by rw [he]; rfl), h.2⟩⟩
      rcases h.1 [] A a rfl hb i j mv m hk with h | ⟨f, hf, hs⟩ | hs
      · exact .inl h
      · exact .inr ⟨f, by simp [hf], hs⟩
      · exact .inr ⟨c, by simp, hs⟩
theorem wait_of {V : World} {me : List MapEntry} : ∀ {A B : List Ce}, (∀ (A1 A2 : List Ce) (e : Ce), A = A1 ++ e :: A2 → e.b = true → ∀ i j mv m, KidAt V e.v e.l i j mv m → Done me mv m ∨ ∃ f, f ∈ A2 ++ B ∧ Same f.v mv f.l m) → Wait V me B → Wait V me (A ++ B)
  | [], B, _, hb => hb
  | a :: A, B, h, hb => ⟨fun ht i j mv m hk => h [] A a rfl ht i j mv m hk, wait_of (A := A) (fun A1 A2 e he => h (a :: A1) A2 e (by rw [he]; rfl)) hb⟩
theorem wait_false {V : World} {me : List MapEntry} : ∀ {B : List Ce}, (∀ f, f ∈ B → f.b = false) → Wait V me B
  | [], _ => trivial
  | b :: B, h => ⟨(fun ht => by rw [h b (by simp)] at ht; cases ht), wait_false fun f hf => h f (by simp [hf])⟩
theorem Cg.start {V : World} {rv : Value} {root : List STree} (h : SListF V rv root) : Cg V rv root [] [⟨rv, root, false⟩] :=
  ⟨List.pairwise_singleton .., ⟨(fun h => by cases h), trivial⟩, (fun k v h => by simp [lookK] at h), .inr ⟨⟨rv, root, false⟩, by simp, rfl, rfl⟩, fun e he => by
    obtain rfl : e = _ := by simpa using he
    exact h⟩
theorem ord_pre {A : List Ce} {c : Ce} (h : Ord (A ++ [c])) : Ord A ∧ ∀ e, e ∈ A → e.b = true → kdXL c.l < kdXL e.l := by
  unfold Ord at *
  rw [List.pairwise_append] at h
  exact ⟨h.1, fun e he hb => h.2.2 e he c (by simp) hb⟩
/-- What was met is done. -/
theorem Cg.met {V : World} {rv : Value} {root : List STree} {me : List MapEntry} {A : List Ce} {c : Ce} (h : Cg V rv root me (A ++ [c])) (hb : c.b = false) {v : Value} (hv : lookK me (keyV c.v c.l) = some v) : Done me c.v c.l := by
  obtain ⟨mv, m, e, hm, hx⟩ := h.look _ _ hv
  have hs := same_of_key (h.ok c (by simp)) hm e
  rcases hx with hx | ⟨f, hf, hfb, hfs⟩
  · unfold Done
    rw [hv, hx, hs.2]
  · rcases List.mem_append.1 hf with hf | hf
    · have := (ord_pre h.ord).2 f hf hfb
      rw [hs.2, hfs.2] at this
      omega
    · obtain rfl : f = c := by simpa using hf
      rw [hb] at hfb; cases hfb
theorem Cg.skip {V : World} {rv : Value} {root : List STree} {me : List MapEntry} {A : List Ce} {c : Ce} (h : Cg V rv root me (A ++ [c])) (hb : c.b = false) (hd : Done me c.v c.l) : Cg V rv root me A := by
  refine ⟨(ord_pre h.ord).1, ?_, fun k v hv => ?_, ?_, fun e he => h.ok e (by simp [he])⟩
  · have hw := wait_snoc.1 h.wait
    have := wait_of (V := V) (me := me) (A := A) (B := []) (fun A1 A2 e he ht i j mv m hk => by
      rcases hw.1 A1 A2 e he ht i j mv m hk with h1 | ⟨f, hf, hs⟩ | hs
      · exact .inl h1
      · exact .inr ⟨f, by simp [hf], hs⟩
      · exact .inl (hd.of_same hs)) trivial
    rw [List.append_nil] at this
    exact this
  · obtain ⟨mv, m, e, hm, hx⟩ := h.look _ _ hv
    refine ⟨mv, m, e, hm, hx.imp id ?_⟩
    rintro ⟨f, hf, hfb, hfs⟩
    rcases List.mem_append.1 hf with hf | hf
    · exact ⟨f, hf, hfb, hfs⟩
    · obtain rfl : f = c := by simpa using hf
      rw [hb] at hfb; cases hfb
  · rcases h.rt with h1 | ⟨f, hf, hs⟩
    · exact .inl h1
    · rcases List.mem_append.1 hf with hf | hf
      · exact .inr ⟨f, hf, hs⟩
      · obtain rfl : f = c := by simpa using hf
        exact .inl (hd.of_same hs)
/-- All within what is counted behind all within it is done. -/
theorem Cg.kids {V : World} {rv : Value} {root : List STree} {me : List MapEntry} {A : List Ce} {c : Ce} (h : Cg V rv root me (A ++ [c])) (hb : c.b = true) : ∀ i j mv m, KidAt V c.v c.l i j mv m → Done me mv m := (wait_snoc.1 h.wait).2 hb
theorem Cg.close {V : World} {rv : Value} {root : List STree} {me me' : List MapEntry} {A : List Ce} {c : Ce} (hr : SListF V rv root) (h : Cg V rv root me (A ++ [c]))
    (hl : ∀ k', lookK me' k' = @ite _ (keyV c.v c.l = k') (Classical.propDecidable _) (some (Value.int .i64 (cntXS c.l : Int))) (lookK me k')) (hkid : ∀ e, e ∈ A → ∀ i j mv m, KidAt V e.v e.l i j mv m → SListF V mv m) : Cg V rv root me' A := by
  have okc : SListF V c.v c.l := h.ok c (by simp)
  have hdc : Done me' c.v c.l := by unfold Done; rw [hl, if_pos rfl]
  have hmono : ∀ v l, SListF V v l → Done me v l → Done me' v l := fun v l hv hd => by
    unfold Done
    rw [hl]
    by_cases he : keyV c.v c.l = keyV v l
    · rw [if_pos he, (same_of_key okc hv he).2]
    · rw [if_neg he]; exact hd
  refine ⟨(ord_pre h.ord).1, ?_, fun k v hv => ?_, ?_, fun e he => h.ok e (by simp [he])⟩
  · have hw := wait_snoc.1 h.wait
    have := wait_of (V := V) (me := me') (A := A) (B := []) (fun A1 A2 e he ht i j mv m hk => by
      have hmv := hkid e (by rw [he]; simp) i j mv m hk
      rcases hw.1 A1 A2 e he ht i j mv m hk with h1 | ⟨f, hf, hs⟩ | hs
      · exact .inl (hmono _ _ hmv h1)
      · exact .inr ⟨f, by simp [hf], hs⟩
      · exact .inl (hdc.of_same hs)) trivial
    rw [List.append_nil] at this
    exact this
  · rw [hl] at hv
    by_cases he : keyV c.v c.l = k
    · rw [if_pos he] at hv
      exact ⟨c.v, c.l, he.symm, okc, .inl (by simpa using hv.symm)⟩
    · rw [if_neg he] at hv
      obtain ⟨mv, m, e, hm, hx⟩ := h.look _ _ hv
      refine ⟨mv, m, e, hm, hx.imp id ?_⟩
      rintro ⟨f, hf, hfb, hfs⟩
      rcases List.mem_append.1 hf with hf | hf
      · exact ⟨f, hf, hfb, hfs⟩
      · obtain rfl : f = c := by simpa using hf
        exact absurd (hfs.key.trans e.symm) he
  · rcases h.rt with h1 | ⟨f, hf, hs⟩
    · exact .inl (hmono _ _ hr h1)
    · rcases List.mem_append.1 hf with hf | hf
      · exact .inr ⟨f, hf, hs⟩
      · obtain rfl : f = c := by simpa using hf
        exact .inl (hdc.of_same hs)
/-- The lists within the first elements, as they are pushed. -/
def kidsE (V : World) (g o : Nat) (xs : List STree) : Nat → List Ce
  | 0 => []
  | i + 1 => kidsE V g o xs i ++ [⟨(V.cell? ⟨g, o + i * 8 + 6, none⟩).getD (.slice none 0 0), (xs[i]?.map (·.body)).getD [], false⟩, ⟨(V.cell? ⟨g, o + i * 8 + 7, none⟩).getD (.slice none 0 0), (xs[i]?.map (·.els)).getD [], false⟩]
theorem kidsE_succ {V : World} {g o : Nat} {xs : List STree} {i : Nat} (hi : i < xs.length) {bv ev : Value} (h6 : V.cell? ⟨g, o + i * 8 + 6, none⟩ = some bv) (h7 : V.cell? ⟨g, o + i * 8 + 7, none⟩ = some ev) : kidsE V g o xs (i + 1) = kidsE V g o xs i ++ [⟨bv, xs[i].body, false⟩, ⟨ev, xs[i].els, false⟩] := by
  rw [kidsE, h6, h7, List.getElem?_eq_getElem hi]
  rfl
theorem kidsE_len {V : World} {g o : Nat} {xs : List STree} : ∀ i, (kidsE V g o xs i).length = 2 * i
  | 0 => rfl
  | i + 1 => by rw [kidsE, List.length_append, kidsE_len i]; simp; omega
theorem kd_mem : ∀ {xs : List STree} {x : STree}, x ∈ xs → kdX x ≤ kdXL xs
  | a :: r, x, h => by
    rw [kdXL]
    rcases List.mem_cons.1 h with rfl | h
    · omega
    · have := kd_mem h; omega
theorem kdX_eq (x : STree) : kdX x = 2 + kdXL x.body + kdXL x.els := by cases x; rfl
theorem kdXL_take {xs : List STree} {i : Nat} (h : i < xs.length) : kdXL (xs.take (i + 1)) = kdXL (xs.take i) + kdX xs[i] := by
  rw [List.take_succ_eq_append_getElem h]
  generalize xs.take i = a
  induction a with
  | nil => simp [kdXL]
  | cons b r ih => simp only [List.cons_append, kdXL, ih]; omega
/-- Each is of its kind. -/
theorem kidsE_at {V : World} {g o : Nat} {xs : List STree} (hl : SLiesLF V g o xs) : ∀ i, i ≤ xs.length → (∀ f, f ∈ kidsE V g o xs i → f.b = false ∧ SListF V f.v f.l ∧ kdXL f.l < kdXL xs) ∧ cost (kidsE V g o xs i) = 2 * kdXL (xs.take i) ∧ (∀ k n c j mv m, k < i → KidAt V (.slice (some ⟨g, o, none⟩) n c) xs k j mv m → ∃ f, f ∈ kidsE V g o xs i ∧ f.v = mv ∧ f.l = m)
  | 0, _ => ⟨(fun f hf => by cases hf), by simp [kidsE, cost, kdXL], fun k n c j mv m hk => by omega⟩
  | i + 1, hi => by
    have hlt : i < xs.length := by omega
    obtain ⟨h1, h2, h3⟩ := kidsE_at hl i (by omega)
    obtain ⟨ta, tc, ba, bc, ea, ec, c0, c1, c2, c3, c4, c5, c6, c7, lx⟩ := hl.at i hlt
    obtain ⟨_, lb, le⟩ := lx.lists
    have hx := kdX_eq xs[i]
    have hm := kd_mem (List.getElem_mem hlt)
    rw [kidsE_succ hlt c6 c7]
    refine ⟨fun f hf => ?_, ?_, fun k n c j mv m hk hkid => ?_⟩
    · rcases List.mem_append.1 hf with hf | hf
      · exact h1 f hf
      · have hf : f = (⟨.slice ba xs[i].body.length bc, xs[i].body, false⟩ : Ce) ∨ f = (⟨.slice ea xs[i].els.length ec, xs[i].els, false⟩ : Ce) := by simpa using hf
        rcases hf with rfl | rfl
        · exact ⟨rfl, lb, by simp only; omega⟩
        · exact ⟨rfl, le, by simp only; omega⟩
    · rw [cost_append, h2, kdXL_take hlt, hx]
      simp [cost, costE]
      omega
    · by_cases hki : k = i
      · subst hki
        obtain ⟨g', o', n', c', hi', e, hcell, hj⟩ := hkid
        simp at e
        obtain ⟨⟨rfl, rfl⟩, _⟩ := e
        rcases hj with ⟨rfl, rfl⟩ | ⟨rfl, rfl⟩
        · rw [Nat.add_zero, c6] at hcell
          exact ⟨_, List.mem_append.2 (.inr (List.mem_cons_self ..)), by simpa using hcell, rfl⟩
        · rw [show o + k * 8 + (6 + 1) = o + k * 8 + 7 from rfl, c7] at hcell
          exact ⟨_, List.mem_append.2 (.inr (List.mem_cons_of_mem _ (List.mem_cons_self ..))), by simpa using hcell, rfl⟩
      · obtain ⟨f, hf, h⟩ := h3 k n c j mv m (by omega) hkid
        exact ⟨f, List.mem_append.2 (.inl hf), h⟩
theorem kid_ok {V : World} {v : Value} {xs : List STree} (h : SListF V v xs) : ∀ i j mv m, KidAt V v xs i j mv m → SListF V mv m := fun i j mv m hk => by
  obtain ⟨g, o, n, c, hi, rfl, hcell, hj⟩ := hk
  obtain ⟨_, a, cap, e, hf⟩ := h
  simp at e
  obtain ⟨rfl, _, _⟩ := e
  obtain ⟨g', o', e, _, hl⟩ := hf (by omega)
  simp at e
  obtain ⟨rfl, rfl⟩ := e
  obtain ⟨ta, tc, ba, bc, ea, ec, c0, c1, c2, c3, c4, c5, c6, c7, lx⟩ := hl.at i hi
  obtain ⟨_, lb, le⟩ := lx.lists
  rcases hj with ⟨rfl, rfl⟩ | ⟨rfl, rfl⟩
  · rw [Nat.add_zero, c6] at hcell
    obtain rfl := Option.some.inj hcell
    exact lb
  · rw [show o + i * 8 + (6 + 1) = o + i * 8 + 7 from rfl, c7] at hcell
    obtain rfl := Option.some.inj hcell
    exact le
/-- A list is opened: it is to be counted behind all within it. -/
theorem Cg.opened {V : World} {rv : Value} {root : List STree} {me me' : List MapEntry} {A B : List Ce} {v : Value} {l : List STree} {mx : Value} (h : Cg V rv root me (A ++ [⟨v, l, false⟩])) (hn : lookK me (keyV v l) = none)
    (hl : ∀ k', lookK me' k' = @ite _ (keyV v l = k') (Classical.propDecidable _) (some mx) (lookK me k'))
    (hB : ∀ f, f ∈ B → f.b = false ∧ SListF V f.v f.l ∧ kdXL f.l < kdXL l) (hk : ∀ i j mv m, KidAt V v l i j mv m → ∃ f, f ∈ B ∧ Same f.v mv f.l m) : Cg V rv root me' (A ++ [⟨v, l, true⟩] ++ B) := by
  have okc : SListF V v l := h.ok ⟨v, l, false⟩ (by simp)
  have hmono : ∀ u m, Done me u m → Done me' u m := fun u m hd => by
    unfold Done
    rw [hl, if_neg (fun e => by unfold Done at hd; rw [← e, hn] at hd; cases hd)]
    exact hd
  have ho := ord_pre h.ord
  refine ⟨?_, ?_, fun k w hv => ?_, ?_, fun e he => ?_⟩
  · unfold Ord
    rw [List.pairwise_append, List.pairwise_append]
    refine ⟨⟨ho.1, List.pairwise_singleton .., fun e he f hf hb => ?_⟩, ?_, fun e he f hf hb => ?_⟩
    · obtain rfl : f = _ := by simpa using hf
      exact ho.2 e he hb
    · refine List.Pairwise.imp_of_mem (R := fun _ _ => True) (fun ha _ _ ht => by rw [(hB _ ha).1] at ht; cases ht) ?_
      exact List.pairwise_of_forall (fun _ _ => trivial)
    · rcases List.mem_append.1 he with he | he
      · exact Nat.lt_trans (hB f hf).2.2 (ho.2 e he hb)
      · obtain rfl : e = _ := by simpa using he
        exact (hB f hf).2.2
  · rw [List.append_assoc]
    have hw := wait_snoc.1 h.wait
    refine wait_of (fun A1 A2 e he ht i j mv m hkd => ?_) ⟨fun _ i j mv m hkd => .inr (hk i j mv m hkd), wait_false fun f hf => (hB f hf).1⟩
    rcases hw.1 A1 A2 e he ht i j mv m hkd with h1 | ⟨f, hf, hs⟩ | hs
    · exact .inl (hmono _ _ h1)
    · exact .inr ⟨f, by simp [hf], hs⟩
    · exact .inr ⟨⟨v, l, true⟩, by simp, hs⟩
  · rw [hl] at hv
    by_cases he : keyV v l = k
    · exact ⟨v, l, he.symm, okc, .inr ⟨⟨v, l, true⟩, by simp, rfl, rfl, rfl⟩⟩
    · rw [if_neg he] at hv
      obtain ⟨mv, m, e, hm, hx⟩ := h.look _ _ hv
      refine ⟨mv, m, e, hm, hx.imp id ?_⟩
      rintro ⟨f, hf, hfb, hfs⟩
      rcases List.mem_append.1 hf with hf | hf
      · exact ⟨f, by simp [hf], hfb, hfs⟩
      · obtain rfl : f = _ := by simpa using hf
        cases hfb
  · rcases h.rt with h1 | ⟨f, hf, hs⟩
    · exact .inl (hmono _ _ h1)
    · rcases List.mem_append.1 hf with hf | hf
      · exact .inr ⟨f, by simp [hf], hs⟩
      · obtain rfl : f = _ := by simpa using hf
        exact .inr ⟨⟨v, l, true⟩, by simp, hs⟩
  · rcases List.mem_append.1 he with he | he
    · rcases List.mem_append.1 he with he | he
      · exact h.ok e (by simp [he])
      · obtain rfl : e = _ := by simpa using he
        exact okc
    · exact (hB e he).2.1
theorem Cg.yes {V : World} {rv : Value} {root : List STree} {me : List MapEntry} (h : Cg V rv root me []) : Done me rv root := h.rt.resolve_right (by simp)
end Go.Proofs.Ytmhhghdfgdhljaa.Cn
