/- The law of ProgOk, walked. Conditions: the argument reads. With what it stands on, in one text. -/
import Derived.Test.YtpbhoomhcdljoaaSpotX
import Derived.Test.YtpbhoomhcdljoaaSCnt
import Derived.Test.YtpbhoomhcdljoaaKindX
import Derived.WalkSmall
import Derived.Outline
import Derived.Test.YtpbhoomhcdljoaaSameTermImpl
import Derived.Test.YtpbhoomhcdljoaaStrCells
import Derived.Deep.RegionHeld3
import Derived.Deep.DeepCutAuto
import Derived.Test.YtpbhoomhcdljoaaWithinAll
import Derived.Test.YtpbhoomhcdljoaaPOkSpec
import Derived.Test.YtpbhoomhcdljoaaPOwn
import Derived.Test.YtpbhoomhcdljoaaChecked
import Derived.Test.YtpbhoomhcdljoaaSTrees
import Derived.Test.YtpbhoomhcdljoaaTermSize
import Derived.Test.YtpbhoomhcdljoaaLists
import Derived.BigQuiet
import Derived.OwnWalk
import Derived.Test.YtpbhoomhcdljoaaPTrees
import Derived.Test.YtpbhoomhcdljoaaSOwn
import Derived.Deep.RegionWith
import Derived.Test.YtpbhoomhcdljoaaPArg
/- How statements are counted list by list, with a map of what was counted: what holds of the heap of lists that are to be counted. Without conditions: no Go text is spoken of here. -/
namespace Go.Proofs.Ytpbhoomhcdljoaa.Cn
open Go.RowKit Own Trm Km SpX
/-- A list that is to be counted. -/
structure Ce where
  v : Value
  l : List STree
  b : Bool
abbrev keyV (v : Value) (l : List STree) : Value := spV (spotA v) l.length
/-- The lists within an element. -/
def KidAt (V : World) (v : Value) (xs : List STree) (i j : Nat) (mv : Value) (m : List STree) : Prop :=
  ∃ (g o n c : Nat) (hi : i < xs.length), v = .slice (some ⟨g, o, none⟩) n c ∧ V.cell? ⟨g, o + i * 8 + (6 + j), none⟩ = some mv ∧ (j = 0 ∧ m = xs[i].body ∨ j = 1 ∧ m = xs[i].els)
def Done (me : List MapEntry) (v : Value) (l : List STree) : Prop := lookK me (keyV v l) = some (.int .i64 (cntXS l : Int))
def Same (v u : Value) (l m : List STree) : Prop := spotA v = spotA u ∧ l = m
theorem Same.key {v u : Value} {l m : List STree} (h : Same v u l m) : keyV v l = keyV u m := by unfold keyV; rw [h.1, h.2]
theorem Done.of_same {me : List MapEntry} {v u : Value} {l m : List STree} (h : Done me v l) (hs : Same v u l m) : Done me u m := by
  unfold Done at *
  rw [← hs.key, ← hs.2]; exact h
theorem same_of_key {V : World} {v u : Value} {l m : List STree} (h1 : SListF V v l) (h2 : SListF V u m) (e : keyV v l = keyV u m) : Same v u l m := by
  unfold keyV at e
  rw [spV_iff] at e
  exact ⟨e.1, spot_det h1 h2 e.1 e.2⟩
def Wait (V : World) (me : List MapEntry) : List Ce → Prop
  | [] => True
  | e :: B => (e.b = true → ∀ i j mv m, KidAt V e.v e.l i j mv m → Done me mv m ∨ ∃ f, f ∈ B ∧ Same f.v mv f.l m) ∧ Wait V me B
def Ord (es : List Ce) : Prop := es.Pairwise fun e f => e.b = true → kdXL f.l < kdXL e.l
structure Cg (V : World) (rv : Value) (root : List STree) (me : List MapEntry) (es : List Ce) : Prop where
  ord : Ord es
  wait : Wait V me es
  look : ∀ k v, lookK me k = some v → ∃ mv m, k = keyV mv m ∧ SListF V mv m ∧ (v = .int .i64 (cntXS m : Int) ∨ (∃ e, e ∈ es ∧ e.b = true ∧ Same e.v mv e.l m))
  rt : Done me rv root ∨ ∃ e, e ∈ es ∧ Same e.v rv e.l root
  ok : ∀ e, e ∈ es → SListF V e.v e.l
def costE (e : Ce) : Nat := if e.b then 1 else 2 + 2 * kdXL e.l
def cost : List Ce → Nat
  | [] => 0
  | e :: es => costE e + cost es
theorem cost_append : ∀ (a b : List Ce), cost (a ++ b) = cost a + cost b
  | [], b => by simp [cost]
  | e :: a, b => by simp only [List.cons_append, cost, cost_append a b]; omega
theorem cost_len : ∀ es : List Ce, es.length ≤ cost es
  | [] => by simp [cost]
  | e :: es => by
    have := cost_len es
    have h : 1 ≤ costE e := by unfold costE; split <;> omega
    simp only [List.length_cons, cost]; omega
theorem wait_snoc {V : World} {me : List MapEntry} : ∀ {A : List Ce} {c : Ce}, Wait V me (A ++ [c]) ↔ ((∀ (A1 A2 : List Ce) (e : Ce), A = A1 ++ e :: A2 → e.b = true → ∀ i j mv m, KidAt V e.v e.l i j mv m → Done me mv m ∨ (∃ f, f ∈ A2 ∧ Same f.v mv f.l m) ∨ Same c.v mv c.l m) ∧ (c.b = true → ∀ i j mv m, KidAt V c.v c.l i j mv m → Done me mv m))
  | [], c => by
    constructor
    · intro h
      refine ⟨fun A1 A2 e he => by simp at he, fun hb i j mv m hk => ?_⟩
      rcases h.1 hb i j mv m hk with h | ⟨f, hf, _⟩
      · exact h
      · cases hf
    · intro h
      exact ⟨fun hb i j mv m hk => .inl (h.2 hb i j mv m hk), trivial⟩
  | a :: A, c => by
    constructor
    · intro h
      have ih := (wait_snoc (A := A) (c := c)).1 h.2
      refine ⟨fun A1 A2 e he hb i j mv m hk => ?_, ih.2⟩
      cases A1 with
      | nil =>
        simp at he
        obtain ⟨rfl, rfl⟩ := he
        rcases h.1 hb i j mv m hk with h | ⟨f, hf, hs⟩
        · exact .inl h
        · rcases List.mem_append.1 hf with hf | hf
          · exact .inr (.inl ⟨f, hf, hs⟩)
          · obtain rfl : f = c := by simpa using hf
            exact .inr (.inr hs)
      | cons a' A1 =>
        simp at he
        obtain ⟨rfl, he⟩ := he
        exact ih.1 A1 A2 e he hb i j mv m hk
    · intro h
      refine ⟨fun hb i j mv m hk => ?_, (wait_snoc (A := A) (c := c)).2 ⟨fun A1 A2 e he => h.1 (a :: A1) A2 e (by rw [he]; rfl), h.2⟩⟩
      rcases h.1 [] A a rfl hb i j mv m hk with h | ⟨f, hf, hs⟩ | hs
      · exact .inl h
      · exact .inr ⟨f, by simp [hf], hs⟩
      · exact .inr ⟨c, by simp, hs⟩
theorem wait_of {V : World} {me : List MapEntry} : ∀ {A B : List Ce}, (∀ (A1 A2 : List Ce) (e : Ce), A = A1 ++ e :: A2 → e.b = true → ∀ i j mv m, KidAt V e.v e.l i j mv m → Done me mv m ∨ ∃ f, f ∈ A2 ++ B ∧ Same f.v mv f.l m) → Wait V me B → Wait V me (A ++ B)
  | [], B, _, hb => hb
  | a :: A, B, h, hb => ⟨fun ht i j mv m hk => h [] A a rfl ht i j mv m hk, wait_of (A := A) (fun A1 A2 e he => h (a :: A1) A2 e (by rw [he]; rfl)) hb⟩
theorem wait_false {V : World} {me : List MapEntry} : ∀ {B : List Ce}, (∀ f, f ∈ B → f.b = false) → Wait V me B
  | [], _ => trivial
  | b :: B, h => ⟨(fun ht => by rw [h b (by simp)] at ht; cases ht), wait_false fun f hf => h f (by simp [hf])⟩
theorem Cg.start {V : World} {rv : Value} {root : List STree} (h : SListF V rv root) : Cg V rv root [] [⟨rv, root, false⟩] :=
  ⟨List.pairwise_singleton .., ⟨(fun h => by cases h), trivial⟩, (fun k v h => by simp [lookK] at h), .inr ⟨⟨rv, root, false⟩, by simp, rfl, rfl⟩, fun e he => by
    obtain rfl : e = _ := by simpa using he
    exact h⟩
theorem ord_pre {A : List Ce} {c : Ce} (h : Ord (A ++ [c])) : Ord A ∧ ∀ e, e ∈ A → e.b = true → kdXL c.l < kdXL e.l := by
  unfold Ord at *
  rw [List.pairwise_append] at h
  exact ⟨h.1, fun e he hb => h.2.2 e he c (by simp) hb⟩
/-- What was met is done. -/
theorem Cg.met {V : World} {rv : Value} {root : List STree} {me : List MapEntry} {A : List Ce} {c : Ce} (h : Cg V rv root me (A ++ [c])) (hb : c.b = false) {v : Value} (hv : lookK me (keyV c.v c.l) = some v) : Done me c.v c.l := by
  obtain ⟨mv, m, e, hm, hx⟩ := h.look _ _ hv
  have hs := same_of_key (h.ok c (by simp)) hm e
  rcases hx with hx | ⟨f, hf, hfb, hfs⟩
  · unfold Done
    rw [hv, hx, hs.2]
  · rcases List.mem_append.1 hf with hf | hf
    · have := (ord_pre h.ord).2 f hf hfb
      rw [hs.2, hfs.2] at this
      omega
    · obtain rfl : f = c := by simpa using hf
      rw [hb] at hfb; cases hfb
theorem Cg.skip {V : World} {rv : Value} {root : List STree} {me : List MapEntry} {A : List Ce} {c : Ce} (h : Cg V rv root me (A ++ [c])) (hb : c.b = false) (hd : Done me c.v c.l) : Cg V rv root me A := by
  refine ⟨(ord_pre h.ord).1, ?_, fun k v hv => ?_, ?_, fun e he => h.ok e (by simp [he])⟩
  · have hw := wait_snoc.1 h.wait
    have := wait_of (V := V) (me := me) (A := A) (B := []) (fun A1 A2 e he ht i j mv m hk => by
      rcases hw.1 A1 A2 e he ht i j mv m hk with h1 | ⟨f, hf, hs⟩ | hs
      · exact .inl h1
      · exact .inr ⟨f, by simp [hf], hs⟩
      · exact .inl (hd.of_same hs)) trivial
    rw [List.append_nil] at this
    exact this
  · obtain ⟨mv, m, e, hm, hx⟩ := h.look _ _ hv
    refine ⟨mv, m, e, hm, hx.imp id ?_⟩
    rintro ⟨f, hf, hfb, hfs⟩
    rcases List.mem_append.1 hf with hf | hf
    · exact ⟨f, hf, hfb, hfs⟩
    · obtain rfl : f = c := by simpa using hf
      rw [hb] at hfb; cases hfb
  · rcases h.rt with h1 | ⟨f, hf, hs⟩
    · exact .inl h1
    · rcases List.mem_append.1 hf with hf | hf
      · exact .inr ⟨f, hf, hs⟩
      · obtain rfl : f = c := by simpa using hf
        exact .inl (hd.of_same hs)
/-- All within what is counted behind all within it is done. -/
theorem Cg.kids {V : World} {rv : Value} {root : List STree} {me : List MapEntry} {A : List Ce} {c : Ce} (h : Cg V rv root me (A ++ [c])) (hb : c.b = true) : ∀ i j mv m, KidAt V c.v c.l i j mv m → Done me mv m := (wait_snoc.1 h.wait).2 hb
theorem Cg.close {V : World} {rv : Value} {root : List STree} {me me' : List MapEntry} {A : List Ce} {c : Ce} (hr : SListF V rv root) (h : Cg V rv root me (A ++ [c]))
    (hl : ∀ k', lookK me' k' = @ite _ (keyV c.v c.l = k') (Classical.propDecidable _) (some (Value.int .i64 (cntXS c.l : Int))) (lookK me k')) (hkid : ∀ e, e ∈ A → ∀ i j mv m, KidAt V e.v e.l i j mv m → SListF V mv m) : Cg V rv root me' A := by
  have okc : SListF V c.v c.l := h.ok c (by simp)
  have hdc : Done me' c.v c.l := by unfold Done; rw [hl, if_pos rfl]
  have hmono : ∀ v l, SListF V v l → Done me v l → Done me' v l := fun v l hv hd => by
    unfold Done
    rw [hl]
    by_cases he : keyV c.v c.l = keyV v l
    · rw [if_pos he, (same_of_key okc hv he).2]
    · rw [if_neg he]; exact hd
  refine ⟨(ord_pre h.ord).1, ?_, fun k v hv => ?_, ?_, fun e he => h.ok e (by simp [he])⟩
  · have hw := wait_snoc.1 h.wait
    have := wait_of (V := V) (me := me') (A := A) (B := []) (fun A1 A2 e he ht i j mv m hk => by
      have hmv := hkid e (by rw [he]; simp) i j mv m hk
      rcases hw.1 A1 A2 e he ht i j mv m hk with h1 | ⟨f, hf, hs⟩ | hs
      · exact .inl (hmono _ _ hmv h1)
      · exact .inr ⟨f, by simp [hf], hs⟩
      · exact .inl (hdc.of_same hs)) trivial
    rw [List.append_nil] at this
    exact this
  · rw [hl] at hv
    by_cases he : keyV c.v c.l = k
    · rw [if_pos he] at hv
      exact ⟨c.v, c.l, he.symm, okc, .inl (by simpa using hv.symm)⟩
    · rw [if_neg he] at hv
      obtain ⟨mv, m, e, hm, hx⟩ := h.look _ _ hv
      refine ⟨mv, m, e, hm, hx.imp id ?_⟩
      rintro ⟨f, hf, hfb, hfs⟩
      rcases List.mem_append.1 hf with hf | hf
      · exact ⟨f, hf, hfb, hfs⟩
      · obtain rfl : f = c := by simpa using hf
        exact absurd (hfs.key.trans e.symm) he
  · rcases h.rt with h1 | ⟨f, hf, hs⟩
    · exact .inl (hmono _ _ hr h1)
    · rcases List.mem_append.1 hf with hf | hf
      · exact .inr ⟨f, hf, hs⟩
      · obtain rfl : f = c := by simpa using hf
        exact .inl (hdc.of_same hs)
/-- The lists within the first elements, as they are pushed. -/
def kidsE (V : World) (g o : Nat) (xs : List STree) : Nat → List Ce
  | 0 => []
  | i + 1 => kidsE V g o xs i ++ [⟨(V.cell? ⟨g, o + i * 8 + 6, none⟩).getD (.slice none 0 0), (xs[i]?.map (·.body)).getD [], false⟩, ⟨(V.cell? ⟨g, o + i * 8 + 7, none⟩).getD (.slice none 0 0), (xs[i]?.map (·.els)).getD [], false⟩]
theorem kidsE_succ {V : World} {g o : Nat} {xs : List STree} {i : Nat} (hi : i < xs.length) {bv ev : Value} (h6 : V.cell? ⟨g, o + i * 8 + 6, none⟩ = some bv) (h7 : V.cell? ⟨g, o + i * 8 + 7, none⟩ = some ev) : kidsE V g o xs (i + 1) = kidsE V g o xs i ++ [⟨bv, xs[i].body, false⟩, ⟨ev, xs[i].els, false⟩] := by
  rw [kidsE, h6, h7, List.getElem?_eq_getElem hi]
  rfl
theorem kidsE_len {V : World} {g o : Nat} {xs : List STree} : ∀ i, (kidsE V g o xs i).length = 2 * i
  | 0 => rfl
  | i + 1 => by rw [kidsE, List.length_append, kidsE_len i]; simp; omega
theorem kd_mem : ∀ {xs : List STree} {x : STree}, x ∈ xs → kdX x ≤ kdXL xs
  | a :: r, x, h => by
    rw [kdXL]
    rcases List.mem_cons.1 h with rfl | h
    · omega
    · have := kd_mem h; omega
theorem kdX_eq (x : STree) : kdX x = 2 + kdXL x.body + kdXL x.els := by cases x; rfl
theorem kdXL_take {xs : List STree} {i : Nat} (h : i < xs.length) : kdXL (xs.take (i + 1)) = kdXL (xs.take i) + kdX xs[i] := by
  rw [List.take_succ_eq_append_getElem h]
  generalize xs.take i = a
  induction a with
  | nil => simp [kdXL]
  | cons b r ih => simp only [List.cons_append, kdXL, ih]; omega
/-- Each is of its kind. -/
theorem kidsE_at {V : World} {g o : Nat} {xs : List STree} (hl : SLiesLF V g o xs) : ∀ i, i ≤ xs.length → (∀ f, f ∈ kidsE V g o xs i → f.b = false ∧ SListF V f.v f.l ∧ kdXL f.l < kdXL xs) ∧ cost (kidsE V g o xs i) = 2 * kdXL (xs.take i) ∧ (∀ k n c j mv m, k < i → KidAt V (.slice (some ⟨g, o, none⟩) n c) xs k j mv m → ∃ f, f ∈ kidsE V g o xs i ∧ f.v = mv ∧ f.l = m)
  | 0, _ => ⟨(fun f hf => by cases hf), by simp [kidsE, cost, kdXL], fun k n c j mv m hk => by omega⟩
  | i + 1, hi => by
    have hlt : i < xs.length := by omega
    obtain ⟨h1, h2, h3⟩ := kidsE_at hl i (by omega)
    obtain ⟨ta, tc, ba, bc, ea, ec, c0, c1, c2, c3, c4, c5, c6, c7, lx⟩ := hl.at i hlt
    obtain ⟨_, lb, le⟩ := lx.lists
    have hx := kdX_eq xs[i]
    have hm := kd_mem (List.getElem_mem hlt)
    rw [kidsE_succ hlt c6 c7]
    refine ⟨fun f hf => ?_, ?_, fun k n c j mv m hk hkid => ?_⟩
    · rcases List.mem_append.1 hf with hf | hf
      · exact h1 f hf
      · have hf : f = (⟨.slice ba xs[i].body.length bc, xs[i].body, false⟩ : Ce) ∨ f = (⟨.slice ea xs[i].els.length ec, xs[i].els, false⟩ : Ce) := by simpa using hf
        rcases hf with rfl | rfl
        · exact ⟨rfl, lb, by simp only; omega⟩
        · exact ⟨rfl, le, by simp only; omega⟩
    · rw [cost_append, h2, kdXL_take hlt, hx]
      simp [cost, costE]
      omega
    · by_cases hki : k = i
      · subst hki
        obtain ⟨g', o', n', c', hi', e, hcell, hj⟩ := hkid
        simp at e
        obtain ⟨⟨rfl, rfl⟩, _⟩ := e
        rcases hj with ⟨rfl, rfl⟩ | ⟨rfl, rfl⟩
        · rw [Nat.add_zero, c6] at hcell
          exact ⟨_, List.mem_append.2 (.inr (List.mem_cons_self ..)), by simpa using hcell, rfl⟩
        · rw [show o + k * 8 + (6 + 1) = o + k * 8 + 7 from rfl, c7] at hcell
          exact ⟨_, List.mem_append.2 (.inr (List.mem_cons_of_mem _ (List.mem_cons_self ..))), by simpa using hcell, rfl⟩
      · obtain ⟨f, hf, h⟩ := h3 k n c j mv m (by omega) hkid
        exact ⟨f, List.mem_append.2 (.inl hf), h⟩
theorem kid_ok {V : World} {v : Value} {xs : List STree} (h : SListF V v xs) : ∀ i j mv m, KidAt V v xs i j mv m → SListF V mv m := fun i j mv m hk => by
  obtain ⟨g, o, n, c, hi, rfl, hcell, hj⟩ := hk
  obtain ⟨_, a, cap, e, hf⟩ := h
  simp at e
  obtain ⟨rfl, _, _⟩ := e
  obtain ⟨g', o', e, _, hl⟩ := hf (by omega)
  simp at e
  obtain ⟨rfl, rfl⟩ := e
  obtain ⟨ta, tc, ba, bc, ea, ec, c0, c1, c2, c3, c4, c5, c6, c7, lx⟩ := hl.at i hi
  obtain ⟨_, lb, le⟩ := lx.lists
  rcases hj with ⟨rfl, rfl⟩ | ⟨rfl, rfl⟩
  · rw [Nat.add_zero, c6] at hcell
    obtain rfl := Option.some.inj hcell
    exact lb
  · rw [show o + i * 8 + (6 + 1) = o + i * 8 + 7 from rfl, c7] at hcell
    obtain rfl := Option.some.inj hcell
    exact le
/-- A list is opened: it is to be counted behind all within it. -/
theorem Cg.opened {V : World} {rv : Value} {root : List STree} {me me' : List MapEntry} {A B : List Ce} {v : Value} {l : List STree} {mx : Value} (h : Cg V rv root me (A ++ [⟨v, l, false⟩])) (hn : lookK me (keyV v l) = none)
    (hl : ∀ k', lookK me' k' = @ite _ (keyV v l = k') (Classical.propDecidable _) (some mx) (lookK me k'))
    (hB : ∀ f, f ∈ B → f.b = false ∧ SListF V f.v f.l ∧ kdXL f.l < kdXL l) (hk : ∀ i j mv m, KidAt V v l i j mv m → ∃ f, f ∈ B ∧ Same f.v mv f.l m) : Cg V rv root me' (A ++ [⟨v, l, true⟩] ++ B) := by
  have okc : SListF V v l := h.ok ⟨v, l, false⟩ (by simp)
  have hmono : ∀ u m, Done me u m → Done me' u m := fun u m hd => by
    unfold Done
    rw [hl, if_neg (fun e => by unfold Done at hd; rw [← e, hn] at hd; cases hd)]
    exact hd
  have ho := ord_pre h.ord
  refine ⟨?_, ?_, fun k w hv => ?_, ?_, fun e he => ?_⟩
  · unfold Ord
    rw [List.pairwise_append, List.pairwise_append]
    refine ⟨⟨ho.1, List.pairwise_singleton .., fun e he f hf hb => ?_⟩, ?_, fun e he f hf hb => ?_⟩
    · obtain rfl : f = _ := by simpa using hf
      exact ho.2 e he hb
    · refine List.Pairwise.imp_of_mem (R := fun _ _ => True) (fun ha _ _ ht => by rw [(hB _ ha).1] at ht; cases ht) ?_
      exact List.pairwise_of_forall (fun _ _ => trivial)
    · rcases List.mem_append.1 he with he | he
      · exact Nat.lt_trans (hB f hf).2.2 (ho.2 e he hb)
      · obtain rfl : e = _ := by simpa using he
        exact (hB f hf).2.2
  · rw [List.append_assoc]
    have hw := wait_snoc.1 h.wait
    refine wait_of (fun A1 A2 e he ht i j mv m hkd => ?_) ⟨fun _ i j mv m hkd => .inr (hk i j mv m hkd), wait_false fun f hf => (hB f hf).1⟩
    rcases hw.1 A1 A2 e he ht i j mv m hkd with h1 | ⟨f, hf, hs⟩ | hs
    · exact .inl (hmono _ _ h1)
    · exact .inr ⟨f, by simp [hf], hs⟩
    · exact .inr ⟨⟨v, l, true⟩, by simp, hs⟩
  · rw [hl] at hv
    by_cases he : keyV v l = k
    · exact ⟨v, l, he.symm, okc, .inr ⟨⟨v, l, true⟩, by simp, rfl, rfl, rfl⟩⟩
    · rw [if_neg he] at hv
      obtain ⟨mv, m, e, hm, hx⟩ := h.look _ _ hv
      refine ⟨mv, m, e, hm, hx.imp id ?_⟩
      rintro ⟨f, hf, hfb, hfs⟩
      rcases List.mem_append.1 hf with hf | hf
      · exact ⟨f, by simp [hf], hfb, hfs⟩
      · obtain rfl : f = _ := by simpa using hf
        cases hfb
  · rcases h.rt with h1 | ⟨f, hf, hs⟩
    · exact .inl (hmono _ _ h1)
    · rcases List.mem_append.1 hf with hf | hf
      · exact .inr ⟨f, by simp [hf], hs⟩
      · obtain rfl : f = _ := by simpa using hf
        exact .inr ⟨⟨v, l, true⟩, by simp, hs⟩
  · rcases List.mem_append.1 he with he | he
    · rcases List.mem_append.1 he with he | he
      · exact h.ok e (by simp [he])
      · obtain rfl : e = _ := by simpa using he
        exact okc
    · exact (hB e he).2.1
theorem Cg.yes {V : World} {rv : Value} {root : List STree} {me : List MapEntry} (h : Cg V rv root me []) : Done me rv root := h.rt.resolve_right (by simp)
end Go.Proofs.Ytpbhoomhcdljoaa.Cn
/- The program's counting of a list by what was counted within it, walked. Conditions: the list lies in rows that are not frozen, what is within it was counted; there are at most 2 millions. -/
namespace Go.Proofs.Ytpbhoomhcdljoaa.Cn
open Go.RowKit Own Trm Km SpX
theorem implSum_any (a b : Nat) (h : a + b ≤ 9000000) (w : World) : Calls Try.prog 67 #[.int .i64 (a : Int), .int .i64 (b : Int)] w fun e w' => e = .returned (.int .i64 ((a : Int) + (b : Int))) ∧ w = w' := by
  have h1 : (b : Int) ≤ 9223372036854775807 - (a : Int) := by omega
  have h2 : ¬ (9223372036854775807 - (a : Int) < (b : Int)) := by omega
  have h3 : IntKind.i64.wrap (9223372036854775807 - (a : Int)) = 9223372036854775807 - (a : Int) := IntWalk.i64_in _ (by omega)
  have h4 : IntKind.i64.wrap ((a : Int) + (b : Int)) = (a : Int) + (b : Int) := IntWalk.i64_in _ (by omega)
  go_enter Try.func67, Try.ntmps67
  go_wp2
  go_ret
  exact ⟨rfl, rfl⟩
def inXS : List STree → Nat
  | [] => 0
  | x :: r => cntXS x.body + cntXS x.els + inXS r
theorem cnt_in : ∀ xs : List STree, cntXS xs = xs.length + inXS xs
  | [] => rfl
  | x :: r => by rw [cntXS, inXS, cntX_eq, cnt_in r, List.length_cons]; omega
theorem inXS_drop {xs : List STree} {i : Nat} (h : i < xs.length) : inXS (xs.drop i) = cntXS xs[i].body + cntXS xs[i].els + inXS (xs.drop (i + 1)) := by rw [List.drop_eq_getElem_cons h, inXS]
theorem inXS_end {xs : List STree} {i : Nat} (h : xs.length ≤ i) : inXS (xs.drop i) = 0 := by rw [List.drop_of_length_le h, inXS]
theorem SpOk.keep {V w : World} {k : Value} (hk : KeepF V w) (h : SpOk V k) : SpOk w k := by
  obtain ⟨a, n, e, h⟩ := h
  exact ⟨a, n, e, h.keep hk⟩
theorem spot_ok {V : World} {v : Value} {xs : List STree} (h : SListF V v xs) : SpOk V (keyV v xs) := ⟨_, _, rfl, freeO_of h⟩
theorem KeepF.below {V w w' : World} (hk : KeepF V w) (hb : Below w.heap.size w w') : KeepF V w' := hk.trans (keepF_below hb)
set_option maxHeartbeats 800000 in
theorem implCountBy_any (V w : World) (M : Nat) (xs : List STree) (v : Value) (hk : KeepF V w) (h : SListF V v xs) (hz : cntXS xs ≤ 2000000) (es : Array MapEntry) (clock : Nat) (hm : w.heap[M]? = some (.map es clock)) (hmk : MetK SpOk V es.toList) (hd : ∀ i j mv m, KidAt V v xs i j mv m → Done es.toList mv m) :
    Calls Try.prog 58 #[.map (some M), v] w fun e w' => e = .returned (.int .i64 (cntXS xs : Int)) ∧ Below w.heap.size w w' := by
  have HD := Lib.hid hd
  have HK := Lib.hid hk
  have HM := Lib.hid hm
  have HMK := Lib.hid hmk
  have HZ := Lib.hid hz
  have HC := Lib.hid (cnt_in xs)
  obtain ⟨hlen, aa, cap, rfl, hf⟩ := h
  have HF := Lib.hid hf
  clear hd hk hm hmk hz hf
  go_enter Try.func58, Try.ntmps58
  go_wp2
  go_loopw [5, 12] (fun n i wr => ∃ (j m : Nat), j ≤ xs.length ∧ i = .int .i64 j ∧ n = .int .i64 m ∧ Hid (cntXS xs = m + inXS (xs.drop j)) ∧ Hid (Below w.heap.size w wr))
    (fun _ i _ => xs.length - (intOf i).toNat)
  case atStart => exact ⟨0, xs.length, Nat.zero_le _, rfl, rfl, by show _ = _; rw [HC.out]; simp, Below.refl _ _⟩
  case round =>
    obtain ⟨j, m, hj, rfl, rfl, hsz, hbe⟩ := hrel
    by_cases hlt : j < xs.length
    · obtain ⟨g, o, rfl, f1, l1⟩ := HF.out (by omega)
      obtain ⟨ta, tc, ba, bc, ea, ec, c0, c1, c2, c3, c4, c5, c6, c7, lx⟩ := l1.at j hlt
      have D6 : Hid (lookK es.toList (spV (spotA (.slice ba xs[j].body.length bc)) xs[j].body.length) = some (.int .i64 (cntXS xs[j].body : Int))) := HD.out j 0 _ _ ⟨g, o, _, _, hlt, rfl, by rw [Nat.add_zero]; exact c6, .inl ⟨rfl, rfl⟩⟩
      have D7 : Hid (lookK es.toList (spV (spotA (.slice ea xs[j].els.length ec)) xs[j].els.length) = some (.int .i64 (cntXS xs[j].els : Int))) := HD.out j 1 _ _ ⟨g, o, _, _, hlt, rfl, by exact c7, .inr ⟨rfl, rfl⟩⟩
      have kf := KeepF.below HK.out hbe.out
      rw [← f1.cell kf] at c0 c1 c2 c3 c4 c5 c6 c7
      obtain ⟨_, lb, le⟩ := lx.lists
      have LB := Lib.hid lb
      have LE := Lib.hid le
      have CB := Lib.hid (fun w2 => implSpot_any ba xs[j].body.length bc lb.1 (fun h => by obtain ⟨_, _, _, e, hq⟩ := lb; simp at e; obtain ⟨rfl, _⟩ := e; obtain ⟨g, o, e, _⟩ := hq h; exact ⟨g, o, e⟩) w2)
      have CE := Lib.hid (fun w2 => implSpot_any ea xs[j].els.length ec le.1 (fun h => by obtain ⟨_, _, _, e, hq⟩ := le; simp at e; obtain ⟨rfl, _⟩ := e; obtain ⟨g, o, e, _⟩ := hq h; exact ⟨g, o, e⟩) w2)
      have hdr := inXS_drop hlt
      have hT := hsz.out
      have hZ := HZ.out
      have CS := Lib.hid (fun w2 => implSum_any m (cntXS xs[j].body) (by omega) w2)
      have CS2 := Lib.hid (fun w2 => implSum_any (m + cntXS xs[j].body) (cntXS xs[j].els) (by omega) w2)
      have HS : Hid (cntXS xs = (m + cntXS xs[j].body + cntXS xs[j].els) + inXS (xs.drop (j + 1))) := by show _ = _; omega
      generalize cntXS xs[j].body = na at D6 CS CS2 HS
      generalize cntXS xs[j].els = nb at D7 CS2 HS
      have look : Hid (∀ wx, Below w.heap.size w wx → ∀ mv l, SListF V mv l → ∀ n : Nat, lookK es.toList (spV (spotA mv) l.length) = some (.int .i64 (n : Int)) → (Instr.lookup 79 (.map (some M)) (.agg #[.pointer (spotA mv), .int .i64 (l.length : Int)]) false).run Try.prog wx = .ok (.int .i64 (n : Int)) wx) := fun wx hb mv l hl n hn => by
        have hm : wx.heap[M]? = some (.map es clock) := by rw [hb.block M (heap_lt HM.out)]; exact HM.out
        have := (run_look spot_key Try.underlying79 (z := .int .i64 0) (fun w => by kernel_rfl) hm (fun x hx => SpOk.keep (KeepF.below HK.out hb) (HMK.out x hx)) (SpOk.keep (KeepF.below HK.out hb) (spot_ok hl))).1
        unfold keyV at this
        rw [hn] at this
        exact this
      clear l1 lx lb le hdr hT hZ f1 kf
      go_wp2_with fail
      refine (CB.out _).mono ?_
      rintro e w1 ⟨rfl, hb1⟩
      have B1 := Lib.hid (hbe.out.trans ((below_box1 hb1).mono hbe.out.size))
      have X1 : Hid (w1.cell? ⟨wr.heap.size, 7, none⟩ = some (.slice ea xs[j].els.length ec)) := keeps_below hb1 _ _ (by simp [go_sem])
      have r1 := look.out _ B1.out _ _ LB.out _ D6.out
      have hsz : wr.heap.size = wr.heap.size := rfl
      obtain ⟨D, hD⟩ : ∃ D, D = wr.heap.size := ⟨_, rfl⟩
      rw [← hD] at X1 ⊢
      clear hb1 hD hsz c0 c1 c2 c3 c4 c5 c6 c7
      unfold spV
      go_wp2_with fail
      refine (CS.out _).mono ?_
      rintro e w2 ⟨rfl, rfl⟩
      have x7 := X1.out
      clear r1
      go_wp2_with fail
      refine (CE.out _).mono ?_
      rintro e w3 ⟨rfl, hb3⟩
      have B3 := Lib.hid (B1.out.trans (hb3.mono B1.out.size))
      have r3 := look.out _ B3.out _ _ LE.out _ D7.out
      clear hb3 x7
      unfold spV
      go_wp2_with fail
      refine (CS2.out _).mono ?_
      rintro e w4 ⟨rfl, rfl⟩
      clear r3
      go_wp2
      go_roundw
      case rel => exact ⟨j + 1, m + na + nb, by omega, by go_num, by simp, HS, B3.out⟩
      case measure => simp [intOf]; omega
    · have HS : Hid (m = cntXS xs) := by show _ = _; have := hsz.out; rw [inXS_end (by omega)] at this; omega
      go_wp2
      go_ret
      exact ⟨ret_n HS.out, hbe.out⟩
end Go.Proofs.Ytpbhoomhcdljoaa.Cn
/- Two lists of statements held against each other but for what is within them, walked; the lists within one. Conditions: both lists lie in rows that are not frozen. -/
namespace Go.Proofs.Ytpbhoomhcdljoaa.SpX
open Go.RowKit Own Trm Km
set_option maxHeartbeats 1600000 in
theorem implShal_any (x y : STree) (ta ba ea ua da fa : Option Addr) (tc bc ec uc dc fc : Nat) (w : World) (hz : szT x.term ≤ 1048576) (h1 : LiesF w x.term (.agg #[.int .i64 x.term.kind, .int .i64 x.term.num, .string x.term.name, .slice ta x.term.kids.length tc])) (h2 : LiesF w y.term (.agg #[.int .i64 y.term.kind, .int .i64 y.term.num, .string y.term.name, .slice ua y.term.kids.length uc])) :
    Calls Try.prog 62 #[.agg #[.int .i64 x.kind, .string x.name, .int .i64 x.term.kind, .int .i64 x.term.num, .string x.term.name, .slice ta x.term.kids.length tc, .slice ba x.body.length bc, .slice ea x.els.length ec], .agg #[.int .i64 y.kind, .string y.name, .int .i64 y.term.kind, .int .i64 y.term.num, .string y.term.name, .slice ua y.term.kids.length uc, .slice da y.body.length dc, .slice fa y.els.length fc]] w fun e w' => e = .returned (.bool (shalX x y)) ∧ Below w.heap.size w w' := by
  have HR : Hid (shalX x y = (decide (x.kind = y.kind) && decide (x.name = y.name) && sameT x.term y.term)) := rfl
  have C := Lib.hid (fun w2 hk => implSame_any x.term y.term _ _ w2 hz (h1.keep hk) (h2.keep hk))
  obtain ⟨k, s, t, b, e⟩ := x
  obtain ⟨k', s', t', b', e'⟩ := y
  simp only [STree.kind, STree.name, STree.term, STree.body, STree.els] at HR C ⊢
  clear h1 h2 hz
  by_cases hk : k = k'
  · subst hk
    by_cases hs : s = s'
    · subst hs
      go_enter Try.func62, Try.ntmps62
      go_wp2_with fail
      refine (C.out _ (keepF_below (((Below.refl _ _).alloc (Nat.le_refl _) _).alloc (by simp) _))).mono ?_
      rintro e w1 ⟨rfl, hb⟩
      have HB := Lib.hid ((((Below.refl w.heap.size w).alloc (Nat.le_refl _) _).alloc (by simp) _).trans (hb.mono (by simp <;> omega)))
      clear hb
      go_wp2
      go_ret
      exact ⟨ret_b (by rw [HR.out]; simp), HB.out⟩
    · have hq := bytes_ne hs
      have HS := Lib.hid hs
      clear hs
      go_enter Try.func62, Try.ntmps62
      go_wp2
      go_ret
      exact ⟨ret_b (by rw [HR.out]; simp [HS.out]), ((Below.refl _ _).alloc (Nat.le_refl _) _).alloc (by simp) _⟩
  · have hq : (k == k') = false := by simp [hk]
    have HK := Lib.hid hk
    clear hk
    go_enter Try.func62, Try.ntmps62
    go_wp2
    go_ret
    exact ⟨ret_b (by rw [HR.out]; simp [HK.out]), ((Below.refl _ _).alloc (Nat.le_refl _) _).alloc (by simp) _⟩

/-- The lists within one, as values. -/
def CellsIn (w : World) (g : Nat) (vs : List Value) : Prop := ∀ j (_ : j < vs.length), w.cell? ⟨g, j, none⟩ = some (vs[j])
structure ListsIn (V : World) (x : STree) (vs : List Value) : Prop where
  len : vs.length = 2
  at' : ∀ j (h : j < vs.length) (h2 : j < (KX.wi x).length), SListF V vs[j] (KX.wi x)[j]
theorem CellsIn.keep {w w' : World} {g : Nat} {vs : List Value} (hk : ∀ p u, p.block = g → w.cell? p = some u → w'.cell? p = some u) (h : CellsIn w g vs) : CellsIn w' g vs := fun j hj => hk _ _ rfl (h j hj)
abbrev inVs (x : STree) (ba ea : Option Addr) (bc ec : Nat) : List Value := [.slice ba x.body.length bc, .slice ea x.els.length ec]
theorem lists_in {V : World} (x : STree) {ba ea : Option Addr} {bc ec : Nat} (hb : SListF V (.slice ba x.body.length bc) x.body) (he : SListF V (.slice ea x.els.length ec) x.els) : ListsIn V x (inVs x ba ea bc ec) := by
  refine ⟨rfl, fun j hj h2 => ?_⟩
  have hj : j < 2 := hj
  match j, hj with
  | 0, _ => exact hb
  | 1, _ => exact he
theorem implWithin_any (x : STree) (ta ba ea : Option Addr) (tc bc ec : Nat) (w : World) :
    Calls Try.prog 63 #[.agg #[.int .i64 x.kind, .string x.name, .int .i64 x.term.kind, .int .i64 x.term.num, .string x.term.name, .slice ta x.term.kids.length tc, .slice ba x.body.length bc, .slice ea x.els.length ec]] w fun e w' => ∃ g, e = .returned (.slice (some ⟨g, 0, none⟩) 2 2) ∧ Below w.heap.size w w' ∧ w.heap.size ≤ g ∧ g < w'.heap.size ∧ CellsIn w' g (inVs x ba ea bc ec) := by
  go_enter Try.func63, Try.ntmps63
  go_wp2
  go_ret
  refine ⟨_, rfl, ((Below.refl _ _).alloc (Nat.le_refl _) _).alloc (by simp) _, by simp, by simp, fun j hj => ?_⟩
  have hj : j < 2 := hj
  match j, hj with
  | 0, _ => simp [go_sem]
  | 1, _ => simp [go_sem]
def shB : List STree → List STree → Bool
  | x :: xs, y :: ys => KX.sh x y && shB xs ys
  | _, _ => true
theorem shB_drop {xs ys : List STree} {i : Nat} (h : i < xs.length) (h2 : i < ys.length) : shB (xs.drop i) (ys.drop i) = (KX.sh xs[i] ys[i] && shB (xs.drop (i + 1)) (ys.drop (i + 1))) := by
  rw [List.drop_eq_getElem_cons h, List.drop_eq_getElem_cons h2, shB]
theorem shB_end {xs ys : List STree} {i : Nat} (h : xs.length ≤ i) : shB (xs.drop i) (ys.drop i) = true := by
  rw [List.drop_of_length_le h, shB]; simp
theorem shB_iff : ∀ {xs ys : List STree}, xs.length = ys.length → (shB xs ys = true ↔ ∀ i (h : i < xs.length) (h2 : i < ys.length), KX.sh xs[i] ys[i] = true)
  | [], [], _ => by simp [shB]
  | x :: xs, y :: ys, hl => by
    rw [shB, Bool.and_eq_true, shB_iff (xs := xs) (ys := ys) (by simpa using hl)]
    constructor
    · intro ⟨h1, h2⟩ i hi hi2
      cases i with
      | zero => exact h1
      | succ i => exact h2 i (by simpa using hi) (by simpa using hi2)
    · intro h
      exact ⟨h 0 (by simp) (by simp), fun i hi hi2 => h (i + 1) (by simpa using hi) (by simpa using hi2)⟩
  | [], _ :: _, hl => by simp at hl
  | _ :: _, [], hl => by simp at hl
def shP (p : List STree × List STree) : Bool := decide (p.1.length = p.2.length) && shB p.1 p.2
theorem shP_iff (p : List STree × List STree) : shP p = true ↔ Lg.ShalP KX p := by
  unfold shP Lg.ShalP
  rw [Bool.and_eq_true, decide_eq_true_eq]
  constructor
  · intro ⟨h1, h2⟩; exact ⟨h1, (shB_iff h1).1 h2⟩
  · intro ⟨h1, h2⟩; exact ⟨h1, (shB_iff h1).2 h2⟩
set_option maxHeartbeats 1600000 in
theorem implEqF_any (p : List STree × List STree) (va vb : Value) (w : World) (ha : SListF w va p.1) (hb : SListF w vb p.2) (hz : ∀ x, x ∈ p.1 → szT x.term ≤ 1048576) :
    Calls Try.prog 74 #[va, vb, .func (.func 62) #[] #[]] w fun e w' => e = .returned (.bool (shP p)) ∧ Below w.heap.size w w' := by
  obtain ⟨ts, us⟩ := p
  obtain ⟨ha1, aa, ac, rfl, ha2⟩ := ha
  obtain ⟨hb1, ba, bc, rfl, hb2⟩ := hb
  simp only at ha1 ha2 hb1 hb2 ⊢
  have HA := Lib.hid ha2
  have HB := Lib.hid hb2
  have HZ := Lib.hid hz
  have HR : Hid (shP (ts, us) = (decide (ts.length = us.length) && shB ts us)) := rfl
  clear ha2 hb2 hz
  by_cases hl : ts.length = us.length
  · have HL := Lib.hid hl
    have hq : ((ts.length : Int) != (us.length : Int)) = false := by rw [hl]; simp
    have HR2 : Hid (shP (ts, us) = shB ts us) := by show _ = _; rw [HR.out]; simp [hl]
    clear hl
    go_enter Try.func74, Try.ntmps74
    go_wp2
    go_loopw [17] (fun i wr => ∃ j : Nat, j ≤ ts.length ∧ i = .int .i64 j ∧ Hid (shP (ts, us) = shB (ts.drop j) (us.drop j)) ∧ Hid (Below w.heap.size w wr))
      (fun i _ => ts.length - (intOf i).toNat)
    case atStart => exact ⟨0, Nat.zero_le _, rfl, HR2.out, Below.refl _ _⟩
    case round =>
      obtain ⟨j, hj, rfl, hsz, hbe⟩ := hrel
      by_cases hlt : j < ts.length
      · have hlt2 : j < us.length := by have := HL.out; omega
        obtain ⟨g, o, rfl, f1, l1⟩ := HA.out (by omega)
        obtain ⟨h, q, rfl, f2, l2⟩ := HB.out (by omega)
        have kf := keepF_below hbe.out
        obtain ⟨ta, tc, ba, bc, ea, ec, c0, c1, c2, c3, c4, c5, c6, c7, lx⟩ := (l1.keep kf f1).at j hlt
        obtain ⟨ua, uc, da, dc, fa, fc, d0, d1, d2, d3, d4, d5, d6, d7, ly⟩ := (l2.keep kf f2).at j hlt2
        have C := Lib.hid (fun (w2 : World) (hb : Below wr.heap.size wr w2) => implShal_any ts[j] us[j] ta ba ea ua da fa tc bc ec uc dc fc w2 (HZ.out _ (List.getElem_mem hlt)) (lx.lists.1.keep (keepF_below hb)) (ly.lists.1.keep (keepF_below hb)))
        have hd : shB (ts.drop j) (us.drop j) = (shalX ts[j] us[j] && shB (ts.drop (j + 1)) (us.drop (j + 1))) := shB_drop hlt hlt2
        have ke := keeps_alloc wr (.cells #[.int .i64 ts[j].kind, .string ts[j].name, .int .i64 ts[j].term.kind, .int .i64 ts[j].term.num, .string ts[j].term.name, .slice ta ts[j].term.kids.length tc, .slice ba ts[j].body.length bc, .slice ea ts[j].els.length ec] 74)
        have e0 := ke _ _ d0
        have e1 := ke _ _ d1
        have e2 := ke _ _ d2
        have e3 := ke _ _ d3
        have e4 := ke _ _ d4
        have e5 := ke _ _ d5
        have e6 := ke _ _ d6
        have e7 := ke _ _ d7
        clear l1 l2 f1 f2 kf ke d0 d1 d2 d3 d4 d5 d6 d7 lx ly
        cases hq2 : shalX ts[j] us[j] with
        | false =>
          have HS2 : Hid (shP (ts, us) = false) := by show _ = _; rw [hsz.out, hd, hq2]; rfl
          rw [hq2] at C
          clear hq2 hd
          go_wp2_with fail
          refine (C.out _ (((Below.refl _ _).alloc (Nat.le_refl _) _).alloc (by simp) _)).mono ?_
          rintro e w1 ⟨rfl, hb1⟩
          have HB1 := Lib.hid hb1
          clear hb1
          go_wp2
          go_ret
          exact ⟨ret_b (by rw [HS2.out]), hbe.out.trans ((below_box1 (below_box1 HB1.out)).mono hbe.out.size)⟩
        | true =>
          have HS2 : Hid (shP (ts, us) = shB (ts.drop (j + 1)) (us.drop (j + 1))) := by show shP (ts, us) = _; rw [hsz.out, hd, hq2]; rfl
          rw [hq2] at C
          clear hq2 hd
          go_wp2_with fail
          refine (C.out _ (((Below.refl _ _).alloc (Nat.le_refl _) _).alloc (by simp) _)).mono ?_
          rintro e w1 ⟨rfl, hb1⟩
          have HB1 := Lib.hid (below_box1 (below_box1 hb1))
          clear hb1
          go_wp2
          go_roundw
          case rel => exact ⟨j + 1, by omega, by go_num, HS2, hbe.out.trans (HB1.out.mono hbe.out.size)⟩
          case measure => simp [intOf]; omega
      · have HS2 : Hid (shP (ts, us) = true) := by show _ = _; rw [hsz.out, shB_end (by omega)]
        go_wp2
        go_ret
        exact ⟨ret_b (by rw [HS2.out]), hbe.out⟩
  · have hq : ((ts.length : Int) != (us.length : Int)) = true := by simp; omega
    have HL := Lib.hid hl
    clear hl
    go_enter Try.func74, Try.ntmps74
    go_wp2
    go_ret
    exact ⟨ret_b (by rw [HR.out]; simp [HL.out]), Below.refl _ _⟩
end Go.Proofs.Ytpbhoomhcdljoaa.SpX
/- The heap of pairs of lists and the map of those that were met, while statements are held against each other. Without conditions. -/
namespace Go.Proofs.Ytpbhoomhcdljoaa.SpX
open Go.RowKit Own Trm Km
abbrev PairL := List STree × List STree
theorem infoPair : (Try.prog.info? 127).map (fun i => (i.zero, i.size, i.bytes)) = some (some (.agg #[.slice none 0 0, .slice none 0 0]), 2, 48) := by kernel_rfl
def small (l : List STree) : Prop := szXS l ≤ 1048576
theorem small_kid {l : List STree} {x : STree} {m : List STree} (h : small l) (hx : x ∈ l) (hm : m ∈ KX.wi x) : small m := by
  have h1 := szXS_mem hx
  have h2 := szX_eq x
  have h3 : m = x.body ∨ m = x.els := by simpa [KX] using hm
  unfold small at *
  rcases h3 with rfl | rfl <;> omega
theorem small_term {l : List STree} (h : small l) : ∀ x, x ∈ l → szT x.term ≤ 1048576 := fun x hx => by
  have h1 := szXS_mem hx
  have h2 := szX_eq x
  unfold small at h
  omega
structure Ent where
  va : Value
  vb : Value
  p : PairL
structure Ent.ok (V : World) (e : Ent) : Prop where
  a : SListF V e.va e.p.1
  b : SListF V e.vb e.p.2
  s : small e.p.1
def entV : List Ent → List Value
  | [] => []
  | e :: es => e.va :: e.vb :: entV es
theorem entV_len : ∀ es : List Ent, (entV es).length = es.length * 2
  | [] => rfl
  | e :: es => by simp only [entV, List.length_cons, entV_len es]; omega
theorem entV_snoc : ∀ (es : List Ent) (e : Ent), entV (es ++ [e]) = entV es ++ [e.va, e.vb]
  | [], _ => rfl
  | a :: es, e => by simp only [List.cons_append, entV, entV_snoc es e]
/-- A key of the map is of a pair that was met. -/
def KeyOf (V : World) (ms : List PairL) (k : Value) : Prop := ∃ (va vb : Value) (p : PairL), k = prV (spotA va) (spotA vb) p.1.length p.2.length ∧ SListF V va p.1 ∧ SListF V vb p.2 ∧ p ∈ ms
def MapInv (V : World) (M : Nat) (ms : List PairL) (wr : World) : Prop := ∃ es clock, wr.heap[M]? = some (.map es clock) ∧ MetK PrOk V es.toList ∧ ∀ k v, lookK es.toList k = some v → v = .bool true ∧ KeyOf V ms k
/-- The place: the map's block is none that keeps lists; both are newer than the call's world. -/
structure Ctx (V w : World) (M : Nat) : Prop where
  map : ∃ es clock, V.heap[M]? = some (Obj.map es clock)
  hM : w.heap.size ≤ M
  hV : w.heap.size ≤ V.heap.size
structure WInv (V w : World) (M : Nat) (ms : List PairL) (wr : World) : Prop where
  keep : KeepF V wr
  below : Below w.heap.size w wr
  map : MapInv V M ms wr
  size : V.heap.size ≤ wr.heap.size
theorem Ctx.lt {V w : World} {M : Nat} (c : Ctx V w M) : M < V.heap.size := by obtain ⟨es, k, h⟩ := c.map; exact heap_lt h
theorem WInv.grown {V w : World} {M : Nat} {ms : List PairL} {wr w' : World} {row : Option Nat} (c : Ctx V w M) (h : WInv V w M ms wr) (hg : wr.grownBy w' row) (hr : ∀ b, row = some b → V.heap.size ≤ b) : WInv V w M ms w' where
  keep := fun b cs T z e => by
    have hb := heap_lt e
    rw [hg.block b (Nat.lt_of_lt_of_le hb h.size) (fun e2 => by have := hr b e2.symm; omega)]
    exact h.keep b cs T z e
  below := h.below.grown hg h.below.size (fun b hb => Nat.le_trans c.hV (hr b hb))
  map := by
    obtain ⟨es, k, h1, h2⟩ := h.map
    refine ⟨es, k, ?_, h2⟩
    rw [hg.block M (heap_lt h1) (fun e2 => by have := hr M e2.symm; have := c.lt; omega)]
    exact h1
  size := Nat.le_trans h.size hg.size
theorem WInv.alloc {V w : World} {M : Nat} {ms : List PairL} {wr : World} (c : Ctx V w M) (h : WInv V w M ms wr) (o : Obj) : WInv V w M ms (wr.alloc o) := h.grown c (World.grownBy_alloc wr o none) (fun b hb => by cases hb)
theorem WInv.belowW {V w : World} {M : Nat} {ms : List PairL} {wr w' : World} (c : Ctx V w M) (h : WInv V w M ms wr) (hb : Below wr.heap.size wr w') : WInv V w M ms w' :=
  h.grown (row := none) c ⟨hb.os, hb.tape, hb.output, hb.size, fun k hk _ => hb.block k hk⟩ (fun b hb => by cases hb)
theorem PrOk.keep {V wr : World} {k : Value} (hk : KeepF V wr) (h : PrOk V k) : PrOk wr k := by
  obtain ⟨a, b, n, m, e, h1, h2⟩ := h
  exact ⟨a, b, n, m, e, h1.keep hk, h2.keep hk⟩
theorem key_ok {V : World} {va vb : Value} {p : PairL} (h1 : SListF V va p.1) (h2 : SListF V vb p.2) : PrOk V (prV (spotA va) (spotA vb) p.1.length p.2.length) := ⟨_, _, _, _, rfl, freeO_of h1, freeO_of h2⟩
theorem KeyOf.mono {V : World} {ms : List PairL} {q : PairL} {k : Value} (h : KeyOf V ms k) : KeyOf V (q :: ms) k := by
  obtain ⟨va, vb, p, h1, h2, h3, h4⟩ := h
  exact ⟨va, vb, p, h1, h2, h3, List.mem_cons_of_mem _ h4⟩
/-- A key that was met is of a pair that was met. -/
theorem key_met {V : World} {ms : List PairL} {va vb : Value} {p : PairL} (h : KeyOf V ms (prV (spotA va) (spotA vb) p.1.length p.2.length)) (h1 : SListF V va p.1) (h2 : SListF V vb p.2) : p ∈ ms := by
  obtain ⟨ua, ub, q, e, h3, h4, h5⟩ := h
  rw [prV_iff] at e
  have e1 := spot_det h1 h3 e.1 e.2.1
  have e2 := spot_det h2 h4 e.2.2.1 e.2.2.2
  have : p = q := Prod.ext e1 e2
  rw [this]; exact h5
/-- What is stored of the map. -/
theorem WInv.meet {V w : World} {M : Nat} {ms : List PairL} {wr w' : World} (c : Ctx V w M) (h : WInv V w M ms wr) (hg : wr.grownBy w' (some M)) {es es' : Array MapEntry} {k' : Nat} (hk : MetK PrOk V es.toList) (hl : ∀ k v, lookK es.toList k = some v → v = .bool true ∧ KeyOf V ms k) {va vb : Value} {p : PairL} (h1 : SListF V va p.1) (h2 : SListF V vb p.2)
    (h3 : w'.heap[M]? = some (.map es' k')) (h4 : ∀ k', lookK es'.toList k' = @ite _ (prV (spotA va) (spotA vb) p.1.length p.2.length = k') (Classical.propDecidable _) (some (Value.bool true)) (lookK es.toList k')) (h5 : ∀ x, x ∈ es'.toList → x.key = prV (spotA va) (spotA vb) p.1.length p.2.length ∨ ∃ y, y ∈ es.toList ∧ y.key = x.key) : WInv V w M (p :: ms) w' where
  keep := fun b cs T z e => by
    have hb := heap_lt e
    rw [hg.block b (Nat.lt_of_lt_of_le hb h.size) (fun e2 => by obtain ⟨es0, k0, h0⟩ := c.map; simp at e2; rw [e2, h0] at e; simp at e)]
    exact h.keep b cs T z e
  below := h.below.grown hg h.below.size (fun b hb => by cases hb; exact c.hM)
  map := ⟨es', k', h3, fun x hx => by
    rcases h5 x hx with e | ⟨y, hy, e⟩
    · rw [e]; exact key_ok h1 h2
    · rw [← e]; exact hk y hy, fun k v hv => by
    rw [h4] at hv
    by_cases hc : prV (spotA va) (spotA vb) p.1.length p.2.length = k
    · rw [if_pos hc] at hv
      exact ⟨by simpa using hv.symm, va, vb, p, hc.symm, h1, h2, List.mem_cons_self ..⟩
    · rw [if_neg hc] at hv
      exact ⟨(hl k v hv).1, (hl k v hv).2.mono⟩⟩
  size := Nat.le_trans h.size hg.size
theorem row_prefix {w : World} {base : Nat} {e : TypeId} {size n n' cap : Nat} {a : Option Addr} {xs ys : List Value} (h : w.ownsRow base e size (.slice a (n + n') cap) (n + n') (xs ++ ys)) (hx : xs.length = n * size) (hn : 0 < n') : w.ownsRow base e size (.slice a n cap) n xs := by
  refine ⟨hx, ?_⟩
  rcases h.2 with ⟨e1, e2⟩ | ⟨g, cap', cur, e1, h1, h2, h3, h4, h5, h6⟩
  · omega
  · simp at e1
    obtain ⟨rfl, rfl⟩ := e1
    refine .inr ⟨g, cap, cur, rfl, h1, h2, by omega, h4, h5, ?_⟩
    have := congrArg (List.take (n * size)) h6
    rw [List.take_take, List.take_append_of_le_length (by omega), List.take_of_length_le (l := xs) (by omega)] at this
    rw [← this]
    congr 1
    have : n * size ≤ (n + n') * size := Nat.mul_le_mul_right _ (by omega)
    omega
theorem row_cap {w : World} {base : Nat} {e : TypeId} {size n m cap : Nat} {a : Option Addr} {xs : List Value} (h : w.ownsRow base e size (.slice a m cap) n xs) : n ≤ cap := by
  rcases h.2 with ⟨e1, e2⟩ | ⟨g, cap', cur, e1, h1, h2, h3, _⟩
  · omega
  · simp at e1
    omega
theorem blk_at {W : World} {b : Nat} {o o' : Obj} (hb : b < W.heap.size) (h : W.heap[b]? = some o) : (W.alloc o').heap[b]? = some o := by
  rw [((Below.refl W.heap.size W).alloc (Nat.le_refl _) o').block b hb]; exact h
theorem cell_noMap {w : World} {b M : Nat} {i : Nat} {u : Value} {es : Array MapEntry} {k : Nat} (h : w.cell? ⟨b, i, none⟩ = some u) (hm : w.heap[M]? = some (.map es k)) : b ≠ M := fun e => by
  subst e
  simp [World.cell?, hm] at h
theorem cell_grown {w w' : World} {row : Option Nat} {b i : Nat} {u : Value} (h : w.cell? ⟨b, i, none⟩ = some u) (hg : w.grownBy w' row) (hn : some b ≠ row) : w'.cell? ⟨b, i, none⟩ = some u := by
  rw [World.cell?_of_block (hg.block b (cell_lt h) hn)]; exact h
theorem two_cells (a b : Option Addr) (n m c d : Nat) : ∀ u ∈ [Value.slice a n c, Value.slice b m d], u.oneCell' = true := by
  intro u hu
  simp at hu
  rcases hu with rfl | rfl <;> rfl
theorem last_of {α : Type} : ∀ (l : List α), l ≠ [] → ∃ l' e, l = l' ++ [e]
  | [], h => absurd rfl h
  | [a], _ => ⟨[], a, rfl⟩
  | a :: b :: r, _ => by
    obtain ⟨l', e, h⟩ := last_of (b :: r) (by simp)
    exact ⟨a :: l', e, by rw [h]; rfl⟩
/-- What the loops keep. -/
def RelO (V w : World) (M : Nat) (r : PairL) (n : Nat) (x : Value) (wr : World) : Prop :=
  ∃ (es : List Ent) (ms : List PairL), Lg.Gh KX r ms (es.map Ent.p) ∧ Lg.wt KX (es.map Ent.p) = n ∧ n ≤ 3000000 ∧ (∀ e, e ∈ es → e.ok V) ∧ wr.ownsRow V.heap.size 127 2 x es.length (entV es) ∧ WInv V w M ms wr
structure RelI (V w : World) (M : Nat) (r : PairL) (e : Ent) (n b i j rest : Nat) (x : Value) (wr : World) (es : List Ent) (ms : List PairL) : Prop where
  gi : Lg.Gi KX r ms (es.map Ent.p) e.p i j
  wt : Lg.wt KX (es.map Ent.p) + rest < n
  ok : ∀ e, e ∈ es → e.ok V
  row : wr.ownsRow V.heap.size 127 2 x es.length (entV es)
  inv : WInv V w M ms wr
  c0 : wr.cell? ⟨b, 0, none⟩ = some e.va
  c1 : wr.cell? ⟨b, 1, none⟩ = some e.vb
  nb : x.ownBlock ≠ some b
theorem start (w V : World) (p : PairL) (va vb : Value) (hz : Lg.wt KX [p] ≤ 3000000) (ha : SListF w va p.1) (hb : SListF w vb p.2) (hs : small p.1) (hV : V = w.alloc (.map #[] 0)) :
    Ctx V w w.heap.size ∧ V.heap.size = w.heap.size + 1 ∧ ∃ m, RelO V w w.heap.size p m (.slice (some ⟨w.heap.size + 1, 0, none⟩) 1 1) (V.alloc (.cells #[va, vb] 127)) := by
  have hn : V.heap.size = w.heap.size + 1 := by rw [hV]; simp
  have bV : Below w.heap.size w V := by rw [hV]; exact (Below.refl _ _).alloc (Nat.le_refl _) _
  have m1 : V.heap[w.heap.size]? = some (.map #[] 0) := by rw [hV]; exact heap_alloc_new _ _
  have cx : Ctx V w w.heap.size := ⟨⟨_, _, m1⟩, Nat.le_refl _, by omega⟩
  refine ⟨cx, hn, _, [⟨va, vb, p⟩], [], Lg.Gh.start _, rfl, hz, ?_, ?_, ?_⟩
  · intro e he
    simp at he
    subst he
    exact ⟨ha.keep (keepF_below bV), hb.keep (keepF_below bV), hs⟩
  · obtain ⟨_, aa, ac, e1, _⟩ := ha
    obtain ⟨_, ba, bc, e2, _⟩ := hb
    have := World.ownsRow_lit (base := V.heap.size) (size := 2) (e := 127) V #[va, vb] 1 (Nat.le_refl _) (by decide) rfl
    rw [hn] at this
    rw [hn]
    exact this
  · exact WInv.alloc cx ⟨fun _ _ _ _ h => h, bV, ⟨#[], 0, m1, fun x hx => by simp at hx, fun k v h => by simp [lookK] at h⟩, Nat.le_refl _⟩ _
end Go.Proofs.Ytpbhoomhcdljoaa.SpX
/- The program's CountIn, walked. Conditions: the list lies in rows that are not frozen; there are at most 1100000 statements. -/
namespace Go.Proofs.Ytpbhoomhcdljoaa.Cn
open Go.RowKit Own Trm Km SpX
theorem infoCount : (Try.prog.info? 81).map (fun i => (i.zero, i.size, i.bytes)) = some (some (.agg #[.slice none 0 0, .bool false]), 2, 32) := by kernel_rfl
def ceV : List Ce → List Value
  | [] => []
  | e :: es => e.v :: .bool e.b :: ceV es
theorem ceV_len : ∀ es : List Ce, (ceV es).length = es.length * 2
  | [] => rfl
  | e :: es => by simp only [ceV, List.length_cons, ceV_len es]; omega
theorem ceV_append : ∀ (a b : List Ce), ceV (a ++ b) = ceV a ++ ceV b
  | [], _ => rfl
  | e :: a, b => by simp only [List.cons_append, ceV, ceV_append a b]
structure CInv (V w : World) (M : Nat) (me : List MapEntry) (wr : World) : Prop where
  keep : KeepF V wr
  below : Below w.heap.size w wr
  map : ∃ es clock, wr.heap[M]? = some (.map es clock) ∧ es.toList = me
  keys : MetK SpOk V me
  size : V.heap.size ≤ wr.heap.size
theorem CInv.grown {V w : World} {M : Nat} {me : List MapEntry} {wr w' : World} {row : Option Nat} (c : Ctx V w M) (h : CInv V w M me wr) (hg : wr.grownBy w' row) (hr : ∀ b, row = some b → V.heap.size ≤ b) : CInv V w M me w' where
  keep := fun b cs T z e => by
    have hb := heap_lt e
    rw [hg.block b (Nat.lt_of_lt_of_le hb h.size) (fun e2 => by have := hr b e2.symm; omega)]
    exact h.keep b cs T z e
  below := h.below.grown hg h.below.size (fun b hb => Nat.le_trans c.hV (hr b hb))
  map := by
    obtain ⟨es, k, h1, h2⟩ := h.map
    refine ⟨es, k, ?_, h2⟩
    rw [hg.block M (heap_lt h1) (fun e2 => by have := hr M e2.symm; have := c.lt; omega)]
    exact h1
  keys := h.keys
  size := Nat.le_trans h.size hg.size
theorem CInv.alloc {V w : World} {M : Nat} {me : List MapEntry} {wr : World} (c : Ctx V w M) (h : CInv V w M me wr) (o : Obj) : CInv V w M me (wr.alloc o) := h.grown c (World.grownBy_alloc wr o none) (fun b hb => by cases hb)
theorem CInv.belowW {V w : World} {M : Nat} {me : List MapEntry} {wr w' : World} (c : Ctx V w M) (h : CInv V w M me wr) (hb : Below wr.heap.size wr w') : CInv V w M me w' :=
  h.grown (row := none) c ⟨hb.os, hb.tape, hb.output, hb.size, fun k hk _ => hb.block k hk⟩ (fun b hb => by cases hb)
theorem CInv.put {V w : World} {M : Nat} {me : List MapEntry} {wr w' : World} (c : Ctx V w M) (h : CInv V w M me wr) (hg : wr.grownBy w' (some M)) {es' : Array MapEntry} {k' : Nat} {key : Value} (hk : SpOk V key)
    (h3 : w'.heap[M]? = some (.map es' k')) (h5 : ∀ x, x ∈ es'.toList → x.key = key ∨ ∃ y, y ∈ me ∧ y.key = x.key) : CInv V w M es'.toList w' where
  keep := fun b cs T z e => by
    have hb := heap_lt e
    rw [hg.block b (Nat.lt_of_lt_of_le hb h.size) (fun e2 => by obtain ⟨es0, k0, h0⟩ := c.map; simp at e2; rw [e2, h0] at e; simp at e)]
    exact h.keep b cs T z e
  below := h.below.grown hg h.below.size (fun b hb => by cases hb; exact c.hM)
  map := ⟨es', k', h3, rfl⟩
  keys := fun x hx => by
    rcases h5 x hx with e | ⟨y, hy, e⟩
    · rw [e]; exact hk
    · rw [← e]; exact h.keys y hy
  size := Nat.le_trans h.size hg.size
def RelC (V w : World) (M : Nat) (rv : Value) (root : List STree) (n : Nat) (x : Value) (wr : World) : Prop :=
  ∃ (es : List Ce) (me : List MapEntry), Cg V rv root me es ∧ cost es = n ∧ n ≤ 5000000 ∧ wr.ownsRow V.heap.size 81 2 x es.length (ceV es) ∧ CInv V w M me wr ∧ ∀ e, e ∈ es → cntXS e.l ≤ cntXS root
theorem cnt_mem : ∀ {xs : List STree} {x : STree}, x ∈ xs → cntX x ≤ cntXS xs
  | a :: r, x, h => by
    rw [cntXS]
    rcases List.mem_cons.1 h with rfl | h
    · omega
    · have := cnt_mem h; omega
theorem start (w V : World) (xs : List STree) (v : Value) (hz : cntXS xs ≤ 1100000) (h : SListF w v xs) (hV : V = w.alloc (.map #[] 0)) :
    Ctx V w w.heap.size ∧ V.heap.size = w.heap.size + 1 ∧ SListF V v xs ∧ ∃ m, RelC V w w.heap.size v xs m (.slice (some ⟨w.heap.size + 1, 0, none⟩) 1 1) (V.alloc (.cells #[v, .bool false] 81)) := by
  have hn : V.heap.size = w.heap.size + 1 := by rw [hV]; simp
  have bV : Below w.heap.size w V := by rw [hV]; exact (Below.refl _ _).alloc (Nat.le_refl _) _
  have m1 : V.heap[w.heap.size]? = some (.map #[] 0) := by rw [hV]; exact heap_alloc_new _ _
  have cx : Ctx V w w.heap.size := ⟨⟨_, _, m1⟩, Nat.le_refl _, by omega⟩
  have hV2 : SListF V v xs := h.keep (keepF_below bV)
  refine ⟨cx, hn, hV2, _, [⟨v, xs, false⟩], [], Cg.start hV2, rfl, ?_, ?_, ?_, ?_⟩
  · have := kdXL_le xs
    simp [cost, costE]; omega
  · obtain ⟨_, aa, ac, e1, _⟩ := h
    have := World.ownsRow_lit (base := V.heap.size) (size := 2) (e := 81) V #[v, .bool false] 1 (Nat.le_refl _) (by decide) rfl
    rw [hn] at this
    rw [hn]
    exact this
  · exact CInv.alloc cx ⟨fun _ _ _ _ h => h, bV, ⟨#[], 0, m1, rfl⟩, (fun x hx => by cases hx), Nat.le_refl _⟩ _
  · intro e he
    obtain rfl : e = _ := by simpa using he
    exact Nat.le_refl _
theorem two_new (w : World) (o : Obj) (a b c d : Value) (T : TypeId) : ((w.alloc o).alloc (.cells #[a, b, c, d] T)).heap[w.heap.size + 1]? = some (.cells #[a, b, c, d] T (0, 0)) := by
  have := heap_alloc_new (w.alloc o) (.cells #[a, b, c, d] T)
  simpa using this
theorem mark_cells2 (a b : Option Addr) (n c m d : Nat) (x y : Bool) : ∀ u ∈ [Value.slice a n c, Value.bool x, Value.slice b m d, Value.bool y], u.oneCell' = true := by
  intro u hu
  simp at hu
  rcases hu with rfl | rfl | rfl | rfl <;> rfl
theorem kids_cnt {V : World} {g o : Nat} {xs : List STree} (hl : SLiesLF V g o xs) : ∀ i, i ≤ xs.length → ∀ e, e ∈ kidsE V g o xs i → cntXS e.l ≤ cntXS xs
  | 0, _, e, h => by cases h
  | i + 1, hi, e, h => by
    have hlt : i < xs.length := by omega
    obtain ⟨ta, tc, ba, bc, ea, ec, c0, c1, c2, c3, c4, c5, c6, c7, lx⟩ := hl.at i hlt
    rw [kidsE_succ hlt c6 c7] at h
    have hm := cnt_mem (List.getElem_mem hlt)
    rw [cntX_eq] at hm
    rcases List.mem_append.1 h with h | h
    · exact kids_cnt hl i (by omega) e h
    · have h : e = (⟨.slice ba xs[i].body.length bc, xs[i].body, false⟩ : Ce) ∨ e = (⟨.slice ea xs[i].els.length ec, xs[i].els, false⟩ : Ce) := by simpa using h
      rcases h with rfl | rfl <;> simp only <;> omega
theorem len_kd : ∀ l : List STree, 2 * l.length ≤ kdXL l
  | [] => by simp [kdXL]
  | x :: r => by rw [kdXL, List.length_cons, kdX_eq]; have := len_kd r; omega
theorem mark_cells (a : Option Addr) (n c : Nat) (b : Bool) : ∀ u ∈ [Value.slice a n c, Value.bool b], u.oneCell' = true := by
  intro u hu
  simp at hu
  rcases hu with rfl | rfl <;> rfl
set_option maxRecDepth 20000 in
set_option maxHeartbeats 3200000 in
theorem implCount_any (xs : List STree) (v : Value) (w : World) (hz : cntXS xs ≤ 1100000) (h : SListF w v xs) :
    Calls Try.prog 46 #[v] w fun e w' => e = .returned (.int .i64 (cntXS xs : Int)) ∧ Below w.heap.size w w' := by
  obtain ⟨i0, hi, hz0, hz1, hz2⟩ := info_parts infoCount
  obtain ⟨V, hV⟩ : ∃ V, V = w.alloc (.map #[] 0) := ⟨_, rfl⟩
  obtain ⟨cx, hVs, hl, m0, hst⟩ := start w V xs v hz h hV
  have CX := Lib.hid cx
  have HV := Lib.hid hV
  have HVs := Lib.hid hVs
  have HST := Lib.hid hst
  have HL := Lib.hid hl
  have HCZ := Lib.hid hz
  obtain ⟨_, aa, ac, rfl, _⟩ := h
  have hmm := @run_makeMap Try.prog
  clear hz hV hVs hst cx hl
  go_enter Try.func46, Try.ntmps46
  go_wp2
  go_loopw [4] (fun x wr => ∃ n, RelC V w w.heap.size (.slice aa xs.length ac) xs n x wr) (fun x wr => Lg.leastN fun n => RelC V w w.heap.size (.slice aa xs.length ac) xs n x wr)
  case atStart => rw [← HV.out]; exact ⟨m0, HST.out⟩
  case round =>
    have hR := Lg.leastN_at hrel
    obtain ⟨n0, hn0⟩ : ∃ n0, n0 = Lg.leastN fun n => RelC V w w.heap.size (.slice aa xs.length ac) xs n u4 wr := ⟨_, rfl⟩
    rw [← hn0] at hR
    have HN0 := Lib.hid hn0
    obtain ⟨es, me, hcg, hwt, hnb, hrow, hci, hcl⟩ := hR
    have HNBD := Lib.hid hnb
    have HCI := Lib.hid hci
    have HCL := Lib.hid hcl
    obtain ⟨oa, oc, rfl, hoa⟩ := row_shape hrow
    by_cases hes : es = []
    · subst hes
      have HD : Hid (lookK me (spV (spotA (.slice aa xs.length ac)) xs.length) = some (.int .i64 (cntXS xs : Int))) := hcg.yes
      have HMK : Hid (MetK SpOk V me) := hci.keys
      obtain ⟨mes, mck, hm1, rfl⟩ := hci.map
      have HM1 := Lib.hid hm1
      have C := Lib.hid (fun w2 => implSpot_any aa xs.length ac HL.out.1 (fun h => by obtain ⟨_, _, _, e, hq⟩ := HL.out; simp at e; obtain ⟨rfl, _⟩ := e; obtain ⟨g, o, e, _⟩ := hq h; exact ⟨g, o, e⟩) w2)
      clear hrel hn0 hcg hwt hnb hrow hci hcl hoa hm1
      simp only [List.length_nil]
      go_wp2_with fail
      refine (C.out _).mono ?_
      rintro e w1 ⟨rfl, hb⟩
      have hm : w1.heap[w.heap.size]? = some (.map mes mck) := by rw [hb.block _ (heap_lt HM1.out)]; exact HM1.out
      have kf := KeepF.below HCI.out.keep hb
      have hrun := (run_look spot_key Try.underlying79 (z := .int .i64 0) (fun w => by kernel_rfl) hm (fun x hx => SpOk.keep kf (HMK.out x hx)) (SpOk.keep kf (spot_ok HL.out))).1
      unfold keyV at hrun
      rw [HD.out] at hrun
      simp only [Option.getD_some] at hrun
      have HB := Lib.hid (HCI.out.below.trans (hb.mono HCI.out.below.size))
      clear hb hm kf
      unfold spV at hrun ⊢
      go_wp2
      go_ret
      exact ⟨rfl, HB.out⟩
    · obtain ⟨A, ⟨lv, l, b⟩, rfl⟩ := last_of es hes
      obtain ⟨g, rfl⟩ := hoa (by simp)
      have hK : A.length ≤ 5000000 := by
        have := cost_len (A ++ [(⟨lv, l, b⟩ : Ce)])
        simp at this
        omega
      rw [List.length_append, List.length_singleton, ceV_append] at hrow
      have hcap : A.length ≤ oc := by have := row_cap hrow; omega
      have c0 : wr.cell? ⟨g, A.length * 2, none⟩ = some lv := by
        rw [hrow.cellAt (A.length * 2) (by omega)]; simp [ceV, ceV_len]
      have c1 : wr.cell? ⟨g, A.length * 2 + 1, none⟩ = some (.bool b) := by
        rw [hrow.cellAt (A.length * 2 + 1) (by omega), List.getElem?_append_right (by rw [ceV_len]; omega), ceV_len]; simp [ceV]
      have okE : SListF V lv l := hcg.ok ⟨lv, l, b⟩ (by simp)
      have HOE := Lib.hid okE
      have hcnt : cntXS l ≤ cntXS xs := hcl ⟨lv, l, b⟩ (by simp)
      have HCNT := Lib.hid hcnt
      obtain ⟨ll, la, lc, rfl, laf⟩ := okE
      have HPRE := Lib.hid (row_prefix (n := A.length) (n' := 1) (xs := ceV A) hrow (ceV_len A) (by omega))
      have HCG := Lib.hid hcg
      have HWT : Hid (n0 = cost A + costE ⟨.slice la l.length lc, l, b⟩) := by show _ = _; rw [← hwt, cost_append]; simp [cost]
      have HLF := Lib.hid laf
      have CS := Lib.hid (fun w2 => implSpot_any la l.length lc ll (fun h => by obtain ⟨g, o, e, _⟩ := HLF.out h; exact ⟨g, o, e⟩) w2)
      clear hrel hn0 hcg hwt hnb hrow hci hcl hes laf hcnt
      simp only [List.length_append, List.length_singleton]
      clear hmm
      have HI := Lib.hid hi
      have HZ0 := Lib.hid hz0
      have HZ1 := Lib.hid hz1
      have HZ2 := Lib.hid hz2
      clear hi hz0 hz1 hz2
      obtain ⟨K, hKe⟩ : ∃ K, K = A.length := ⟨_, rfl⟩
      have HK := Lib.hid hKe
      rw [← hKe] at hK c0 c1 hcap ⊢
      clear hKe
      obtain ⟨W1, hW1⟩ : ∃ W1, W1 = wr.alloc (.cells #[.slice la l.length lc, .bool b] 81) := ⟨_, rfl⟩
      have I1 : Hid (CInv V w w.heap.size me W1) := by show CInv _ _ _ _ _; rw [hW1]; exact HCI.out.alloc CX.out _
      have R1 : Hid (W1.ownsRow V.heap.size 81 2 (.slice (some ⟨g, 0, none⟩) K oc) K (ceV A)) := by show World.ownsRow _ _ _ _ _ _ _; rw [hW1, HK.out]; exact HPRE.out.alloc _
      have b0 : W1.cell? ⟨wr.heap.size, 0, none⟩ = some (.slice la l.length lc) := by rw [hW1]; simp [go_sem]
      have b1 : W1.cell? ⟨wr.heap.size, 1, none⟩ = some (.bool b) := by rw [hW1]; simp [go_sem]
      have HW1 := Lib.hid hW1
      obtain ⟨B, hB⟩ : ∃ B, B = wr.heap.size := ⟨_, rfl⟩
      have HB := Lib.hid hB
      rw [← hB] at b0 b1
      have BB := Lib.hid (And.intro b0 b1)
      clear hW1 hB b0 b1
      go_wp2_with fail
      rw [← HW1.out, ← HB.out]
      refine (CS.out _).mono ?_
      rintro e w2 ⟨rfl, hb2⟩
      obtain ⟨W3, hW3⟩ : ∃ W3, W3 = w2.alloc (.cells #[.pointer (spotA (.slice la l.length lc)), .int .i64 (l.length : Int)] 85) := ⟨_, rfl⟩
      have hb3 : Below W1.heap.size W1 W3 := by rw [hW3]; exact hb2.alloc hb2.size _
      have I3 := Lib.hid (I1.out.belowW CX.out hb3)
      have R3 := Lib.hid (row_below R1.out hb3)
      have X3 : Hid (W3.cell? ⟨B, 0, none⟩ = some (.slice la l.length lc) ∧ W3.cell? ⟨B, 1, none⟩ = some (.bool b)) := ⟨keeps_below hb3 _ _ BB.out.1, keeps_below hb3 _ _ BB.out.2⟩
      have s0 : W3.cell? ⟨w2.heap.size, 0, none⟩ = some (.pointer (spotA (.slice la l.length lc))) := by rw [hW3]; simp [go_sem]
      have s1 : W3.cell? ⟨w2.heap.size, 1, none⟩ = some (.int .i64 (l.length : Int)) := by rw [hW3]; simp [go_sem]
      have HW3 := Lib.hid hW3
      obtain ⟨S, hS⟩ : ∃ S, S = w2.heap.size := ⟨_, rfl⟩
      have HS := Lib.hid hS
      rw [← hS] at s0 s1
      have SS := Lib.hid (And.intro s0 s1)
      obtain ⟨x0, x1⟩ := X3.out
      rw [HW3.out] at x0 x1
      unfold spV
      have HKE : Hid (SpOk V (keyV (.slice la l.length lc) l)) := spot_ok HOE.out
      obtain ⟨mes, mck, hm1, hme⟩ := I3.out.map
      have HM1 := Lib.hid hm1
      have HME := Lib.hid hme
      have hkk := SpOk.keep I3.out.keep HKE.out
      have hmk : MetK SpOk W3 mes.toList := fun x hx => SpOk.keep I3.out.keep (I3.out.keys x (by rw [← HME.out]; exact hx))
      have hrun := (run_look spot_key Try.underlying79 (z := .int .i64 0) (fun w => by kernel_rfl) hm1 hmk hkk).2
      clear hW3 hS hb2 hb3 hm1 hme
      cases b with
      | true =>
        clear hrun hkk hmk
        have hkids := HCG.out.kids rfl
        rw [← HME.out] at hkids
        have CB : Hid (∀ wx, Below W3.heap.size W3 wx → Calls Try.prog 58 #[.map (some w.heap.size), .slice la l.length lc] wx fun e w' => e = .returned (.int .i64 (cntXS l : Int)) ∧ Below W3.heap.size W3 w' ∧ ∃ w5 es5 ck5, (Instr.mapUpdate 79 (.map (some w.heap.size)) (.agg #[.pointer (spotA (.slice la l.length lc)), .int .i64 (l.length : Int)]) (.int .i64 (cntXS l : Int))).run Try.prog w' = .ok () w5 ∧ w5.heap[w.heap.size]? = some (.map es5 ck5) ∧ (∀ k', lookK es5.toList k' = @ite _ (keyV (.slice la l.length lc) l = k') (Classical.propDecidable _) (some (Value.int .i64 (cntXS l : Int))) (lookK mes.toList k')) ∧ (∀ x, x ∈ es5.toList → x.key = keyV (.slice la l.length lc) l ∨ ∃ y, y ∈ mes.toList ∧ y.key = x.key) ∧ w'.grownBy w5 (some w.heap.size)) := fun wx hb => by
          have hm : wx.heap[w.heap.size]? = some (.map mes mck) := by rw [hb.block _ (heap_lt HM1.out)]; exact HM1.out
          refine (implCountBy_any V wx w.heap.size l _ (KeepF.below I3.out.keep hb) HOE.out (by have := HCNT.out; have := HCZ.out; omega) mes mck hm (fun x hx => I3.out.keys x (by rw [← HME.out]; exact hx)) hkids).mono ?_
          rintro e w' ⟨rfl, hb'⟩
          have hbb := hb.trans (hb'.mono hb.size)
          have kf := KeepF.below I3.out.keep hbb
          have hm' : w'.heap[w.heap.size]? = some (.map mes mck) := by rw [hbb.block _ (heap_lt HM1.out)]; exact HM1.out
          obtain ⟨w5, es5, ck5, hr, h3, h4, h5, h6⟩ := run_put spot_key Try.underlying79 (.int .i64 (cntXS l : Int)) hm' (fun x hx => SpOk.keep kf (I3.out.keys x (by rw [← HME.out]; exact hx))) (SpOk.keep kf HKE.out)
          exact ⟨rfl, hbb, w5, es5, ck5, hr, h3, h4, h5, h6⟩
        clear hkids
        have hb0 : Below W3.heap.size W3 W3.drew := (Below.refl _ _).drew
        have KS : Hid (∀ wx, Below W3.heap.size W3 wx → wx.cell? ⟨B, 0, none⟩ = some (.slice la l.length lc) ∧ wx.cell? ⟨S, 0, none⟩ = some (.pointer (spotA (.slice la l.length lc))) ∧ wx.cell? ⟨S, 1, none⟩ = some (.int .i64 (l.length : Int))) := fun wx hb => ⟨keeps_below hb _ _ X3.out.1, keeps_below hb _ _ SS.out.1, keeps_below hb _ _ SS.out.2⟩
        have KP : Hid (∀ wx w5, Below W3.heap.size W3 wx → wx.grownBy w5 (some w.heap.size) → w5.cell? ⟨B, 0, none⟩ = some (.slice la l.length lc) ∧ w5.cell? ⟨S, 0, none⟩ = some (.pointer (spotA (.slice la l.length lc))) ∧ w5.cell? ⟨S, 1, none⟩ = some (.int .i64 (l.length : Int))) := fun wx w5 hb hg => by
          have hm : wx.heap[w.heap.size]? = some (.map mes mck) := by rw [hb.block _ (heap_lt HM1.out)]; exact HM1.out
          obtain ⟨k0, k1, k2⟩ := KS.out wx hb
          exact ⟨cell_grown k0 hg (fun e => cell_noMap k0 hm (by cases e; rfl)), cell_grown k1 hg (fun e => cell_noMap k1 hm (by cases e; rfl)), cell_grown k2 hg (fun e => cell_noMap k2 hm (by cases e; rfl))⟩
        clear s0 s1
        go_wp2_with fail
        rw [← HW3.out, ← HS.out]
        go_cut [34] (fun s34 wx => ∃ (w' : World) (es5 : Array MapEntry) (ck5 : Nat), Below W3.heap.size W3 w' ∧ wx.heap[w.heap.size]? = some (.map es5 ck5) ∧ (∀ k', lookK es5.toList k' = @ite _ (keyV (.slice la l.length lc) l = k') (Classical.propDecidable _) (some (Value.int .i64 (cntXS l : Int))) (lookK mes.toList k')) ∧ (∀ x, x ∈ es5.toList → x.key = keyV (.slice la l.length lc) l ∨ ∃ y, y ∈ mes.toList ∧ y.key = x.key) ∧ w'.grownBy wx (some w.heap.size))
        case first =>
          go_region_held3 (fun wx => wx.cell? ⟨B, 0, none⟩ = some (.slice la l.length lc) ∧ wx.cell? ⟨S, 0, none⟩ = some (.pointer (spotA (.slice la l.length lc))) ∧ wx.cell? ⟨S, 1, none⟩ = some (.int .i64 (l.length : Int)))
            (first | exact KS.out _ (by assumption) | exact KP.out _ _ (by assumption) (by assumption))
            (first
            | (go_at_call 58; (with_reducible refine (CB.out _ (by assumption)).mono ?_); rintro e w4 ⟨rfl, hb4, w5, es5, ck5, hrun5, h3, h4, h5, h6⟩))
          all_goals
            go_wp2_with fail
            go_meet
            exact ⟨w4, es5, ck5, hb4, h3, h4, h5, h6⟩
        case rest =>
          obtain ⟨w4, es5, ck5, hb4, h3, h4, h5, h6⟩ := hcut
          have I4 := Lib.hid (I3.out.belowW CX.out hb4)
          have I5 : Hid (CInv V w w.heap.size es5.toList wc) := CInv.put CX.out I4.out h6 HKE.out h3 (fun x hx => by rw [← HME.out]; exact h5 x hx)
          have R5 : Hid (wc.ownsRow V.heap.size 81 2 (.slice (some ⟨g, 0, none⟩) K oc) K (ceV A)) := by
            have R4 := row_below R3.out hb4
            exact row_same R4 fun q hq => h6.block q (R4.lt q hq).2 (fun e => by cases e; have := (R4.lt _ hq).1; have := CX.out.lt; omega)
          have CG5 : Hid (Cg V (.slice aa xs.length ac) xs es5.toList A) := HCG.out.close HL.out (fun k' => by rw [← HME.out]; exact h4 k') (fun e he => kid_ok (HCG.out.ok e (by simp [he])))
          have CL5 : Hid (∀ e, e ∈ A → cntXS e.l ≤ cntXS xs) := fun e he => HCL.out e (by simp [he])
          clear hb4 h3 h4 h5 h6 x0 x1
          go_wp2
          go_roundw
          case rel => exact ⟨_, A, es5.toList, CG5.out, rfl, by have := HWT.out; have := HNBD.out; omega, by have := R5.out; rw [HK.out] at this; rw [HK.out]; exact this, I5.out, CL5.out⟩
          case measure =>
            have h1 := HN0.out
            have h2 := HWT.out
            simp only [costE, if_true] at h2
            simp only [List.length_append, List.length_singleton, ← HK.out] at h1
            refine Nat.lt_of_le_of_lt (Lg.leastN_le ⟨A, es5.toList, CG5.out, rfl, by have := HNBD.out; omega, by have := R5.out; rw [HK.out] at this; rw [HK.out]; exact this, I5.out, CL5.out⟩) (by rw [← h1]; omega)
      | false =>
        obtain ⟨w5, es5, ck5, hrun5, m5, l5, k5, g5⟩ := run_put spot_key Try.underlying79 (.int .i64 9223372036854775807) HM1.out hmk hkk
        have CL5 : Hid (∀ e, e ∈ A → cntXS e.l ≤ cntXS xs) := fun e he => HCL.out e (by simp [he])
        clear hmk hkk
        cases hlk : lookK mes.toList (keyV (.slice la l.length lc) l) with
        | some u =>
          have HD := Lib.hid (HCG.out.met rfl (v := u) (by rw [← HME.out]; exact hlk))
          have CG5 := Lib.hid (HCG.out.skip rfl HD.out)
          rw [hlk] at hrun
          simp only [Option.getD_some, Option.isSome_some] at hrun
          rw [HW3.out] at hrun
          unfold keyV spV at hrun
          clear hlk hrun5 m5 l5 k5 g5 s0 s1
          go_wp2_with fail
          rw [← HW3.out]
          go_wp2
          go_roundw
          case rel => exact ⟨_, A, me, CG5.out, rfl, by have := HWT.out; have := HNBD.out; omega, by have := R3.out; rw [HK.out] at this; rw [HK.out]; exact this, I3.out, CL5.out⟩
          case measure =>
            have h1 := HN0.out
            have h2 := HWT.out
            simp only [costE] at h2
            simp only [List.length_append, List.length_singleton, ← HK.out] at h1
            refine Nat.lt_of_le_of_lt (Lg.leastN_le ⟨A, me, CG5.out, rfl, by have := HNBD.out; omega, by have := R3.out; rw [HK.out] at this; rw [HK.out]; exact this, I3.out, CL5.out⟩) (by rw [← h1]; simp at h2; omega)
        | none =>
          have HPK := Lib.hid (And.intro m5 (And.intro l5 (And.intro k5 g5)))
          have I5 : Hid (CInv V w w.heap.size es5.toList w5) := CInv.put CX.out I3.out g5 HKE.out m5 (fun x hx => by rw [← HME.out]; exact k5 x hx)
          have R5 : Hid (w5.ownsRow V.heap.size 81 2 (.slice (some ⟨g, 0, none⟩) K oc) K (ceV A)) := row_same R3.out fun q hq => g5.block q (R3.out.lt q hq).2 (fun e => by cases e; have := (R3.out.lt _ hq).1; have := CX.out.lt; omega)
          have X5 : Hid (w5.cell? ⟨B, 0, none⟩ = some (.slice la l.length lc)) := cell_grown X3.out.1 g5 (fun e => cell_noMap X3.out.1 HM1.out (by cases e; rfl))
          obtain ⟨go, oo, hgo⟩ : ∃ go oo, (0 < l.length → la = some ⟨go, oo, none⟩ ∧ FreeB V go) ∧ SLiesLF V go oo l := by
            rcases Nat.eq_zero_or_pos l.length with h0 | h0
            · rw [List.length_eq_zero_iff.1 h0]
              exact ⟨0, 0, (fun h => absurd h (by simp)), trivial⟩
            · obtain ⟨go, oo, e, f, hl⟩ := HLF.out h0
              exact ⟨go, oo, fun _ => ⟨e, f⟩, hl⟩
          have HGO := Lib.hid hgo
          have KA := Lib.hid (kidsE_at hgo.2 l.length (Nat.le_refl _))
          have CG5 : Hid (Cg V (.slice aa xs.length ac) xs es5.toList (A ++ [⟨.slice la l.length lc, l, true⟩] ++ kidsE V go oo l l.length)) :=
            HCG.out.opened (by rw [← HME.out]; exact hlk) (fun k' => by rw [← HME.out]; exact l5 k') KA.out.1 (fun i j mv m hk => by
              obtain ⟨g', o', n', c', hi', e, hcell, hj⟩ := hk
              have h1 := (HGO.out.1 (by omega)).1
              simp at e
              rw [h1] at e
              simp at e
              obtain ⟨⟨rfl, rfl⟩, _⟩ := e
              obtain ⟨f, hf, e1, e2⟩ := KA.out.2.2 i n' c' j mv m hi' ⟨_, _, n', c', hi', rfl, hcell, hj⟩
              exact ⟨f, hf, by rw [e1], e2⟩)
          have HLEN : Hid (2 * l.length ≤ kdXL l ∧ kdXL l ≤ 2200000) := ⟨len_kd l, by have := kdXL_le l; have := HCNT.out; have := HCZ.out; omega⟩
          have hK2 : A.length ≤ 5000000 := by have := HK.out; omega
          rw [hlk] at hrun
          simp only [Option.getD_none, Option.isSome_none] at hrun
          rw [HW3.out] at hrun hrun5
          unfold keyV spV at hrun hrun5
          clear hlk m5 l5 k5 g5 s0 s1 hgo
          have x5 := X5.out
          have hVs5 : V.heap.size ≤ w5.heap.size := I5.out.size
          go_wp2_with (at_builtin; refine wpList_append_lies _ rfl (.tmp 49) (.tmp 53) 82 rfl V.heap.size 81 i0 (.agg #[.slice none 0 0, .bool false]) 2 32 Try.underlying82 HI.out HZ0.out HZ1.out HZ2.out rfl (by decide) (.slice (some ⟨g, 0, none⟩) K oc) K _ rfl (R5.out.alloc _) ⟨w5.heap.size, 0, none⟩ 1 1 [.slice la l.length lc, .bool true] rfl rfl (World.news_of_block (heap_alloc_new _ _)) (mark_cells _ _ _ _) (by decide) (by unfold maxLen; omega) (by omega) (by simp; omega) _ rfl ?_)
          intro g6 cap6 w6 hown6 hg6 hat6 hlt6
          have I6 := Lib.hid ((I5.out.alloc CX.out _).grown CX.out hg6 (fun b hb => (R5.out.lt b hb).1))
          have hgB : g ≠ B := fun e => by have := (HPRE.out.lt g rfl).2; have := HB.out; omega
          have x6 : w6.cell? ⟨B, 0, none⟩ = some (.slice la l.length lc) := cell_grown (keeps_alloc _ _ _ _ X5.out) hg6 (fun e => hgB (by simpa [Value.ownBlock] using e.symm))
          have R6 : Hid (w6.ownsRow V.heap.size 81 2 (.slice (some ⟨g6, 0, none⟩) (K + 1) cap6) (A ++ [(⟨.slice la l.length lc, l, true⟩ : Ce)] ++ kidsE V go oo l 0).length (ceV (A ++ [(⟨.slice la l.length lc, l, true⟩ : Ce)] ++ kidsE V go oo l 0))) := by
            show World.ownsRow _ _ _ _ _ _ _
            rw [show kidsE V go oo l 0 = [] from rfl, List.append_nil, List.length_append, ceV_append, ← HK.out]
            exact hown6
          clear hown6 hg6 hat6 hlt6 hrun hrun5 x0 x1 x5
          go_wp2
          go_loopw [4, 58] (fun x i wy => ∃ j : Nat, j ≤ l.length ∧ i = .int .i64 j ∧ Hid (wy.ownsRow V.heap.size 81 2 x (A ++ [(⟨.slice la l.length lc, l, true⟩ : Ce)] ++ kidsE V go oo l j).length (ceV (A ++ [(⟨.slice la l.length lc, l, true⟩ : Ce)] ++ kidsE V go oo l j))) ∧ Hid (CInv V w w.heap.size es5.toList wy))
            (fun _ i _ => l.length - (intOf i).toNat)
          case atStart => exact ⟨0, Nat.zero_le _, rfl, R6.out, I6.out⟩
          case round =>
            obtain ⟨j, hj, rfl, hrj, hij⟩ := hrel
            by_cases hlt : j < l.length
            · obtain ⟨rfl, f1⟩ := HGO.out.1 (by omega)
              obtain ⟨ta, tc, ba, bc, ea, ec, p0, p1, p2, p3, p4, p5, p6, p7, lx⟩ := HGO.out.2.at j hlt
              have HKS := Lib.hid (kidsE_succ hlt p6 p7)
              rw [← f1.cell hij.out.keep] at p0 p1 p2 p3 p4 p5 p6 p7
              have hle : (A ++ [(⟨.slice (some ⟨go, oo, none⟩) l.length lc, l, true⟩ : Ce)] ++ kidsE V go oo l j).length ≤ 8000000 := by
                rw [List.length_append, List.length_append, kidsE_len]
                have := HLEN.out
                simp
                omega
              have HNN : Hid ((A ++ [(⟨.slice (some ⟨go, oo, none⟩) l.length lc, l, true⟩ : Ce)] ++ kidsE V go oo l (j + 1)).length = (A ++ [(⟨.slice (some ⟨go, oo, none⟩) l.length lc, l, true⟩ : Ce)] ++ kidsE V go oo l j).length + 2) := by
                show _ = _
                rw [List.length_append, List.length_append, List.length_append, List.length_append, kidsE_len, kidsE_len]
                omega
              have HVV : Hid (ceV (A ++ [(⟨.slice (some ⟨go, oo, none⟩) l.length lc, l, true⟩ : Ce)] ++ kidsE V go oo l (j + 1)) = ceV (A ++ [(⟨.slice (some ⟨go, oo, none⟩) l.length lc, l, true⟩ : Ce)] ++ kidsE V go oo l j) ++ [.slice ba l[j].body.length bc, .bool false, .slice ea l[j].els.length ec, .bool false]) := by
                show _ = _
                rw [HKS.out, ← List.append_assoc, ceV_append (_ ++ kidsE V go oo l j)]
                rfl
              generalize hN : (A ++ [(⟨.slice (some ⟨go, oo, none⟩) l.length lc, l, true⟩ : Ce)] ++ kidsE V go oo l j).length = N at hrj hle HNN
              generalize hC : ceV (A ++ [(⟨.slice (some ⟨go, oo, none⟩) l.length lc, l, true⟩ : Ce)] ++ kidsE V go oo l j) = cs at hrj HVV
              have hVs7 : V.heap.size ≤ wr.heap.size := hij.out.size
              clear hN hC lx f1 x6
              go_wp2_with (at_builtin; refine wpList_append_lies _ rfl (.tmp 62) (.tmp 69) 82 rfl V.heap.size 81 i0 (.agg #[.slice none 0 0, .bool false]) 2 32 Try.underlying82 HI.out HZ0.out HZ1.out HZ2.out rfl (by decide) u4 N _ rfl ((hrj.out.alloc _).alloc _) ⟨wr.heap.size + 1, 0, none⟩ 2 2 [.slice ba l[j].body.length bc, .bool false, .slice ea l[j].els.length ec, .bool false] rfl rfl (World.news_of_block (two_new _ _ _ _ _ _ _)) (mark_cells2 _ _ _ _ _ _ _ _) (by decide) (by unfold maxLen; omega) (by omega) (by simp; omega) _ rfl ?_)
              intro g7 cap7 w7 hown7 hg7 hat7 hlt7
              have I7 := Lib.hid (((hij.out.alloc CX.out _).alloc CX.out _).grown CX.out hg7 (fun b hb => (hrj.out.lt b hb).1))
              have R7 : Hid (w7.ownsRow V.heap.size 81 2 (.slice (some ⟨g7, 0, none⟩) (N + 2) cap7) (A ++ [(⟨.slice (some ⟨go, oo, none⟩) l.length lc, l, true⟩ : Ce)] ++ kidsE V go oo l (j + 1)).length (ceV (A ++ [(⟨.slice (some ⟨go, oo, none⟩) l.length lc, l, true⟩ : Ce)] ++ kidsE V go oo l (j + 1)))) := by
                show World.ownsRow _ _ _ _ _ _ _
                rw [HNN.out, HVV.out]
                exact hown7
              clear hown7 hg7 hat7 hlt7 p0 p1 p2 p3 p4 p5 p6 p7
              go_wp2
              go_roundw
              case rel => exact ⟨j + 1, by omega, by go_num, R7.out, I7.out⟩
              case measure => simp [intOf]; omega
            · obtain rfl : j = l.length := by omega
              have CL8 : Hid (∀ e, e ∈ A ++ [(⟨.slice la l.length lc, l, true⟩ : Ce)] ++ kidsE V go oo l l.length → cntXS e.l ≤ cntXS xs) := fun e he => by
                rcases List.mem_append.1 he with h | h
                · rcases List.mem_append.1 h with h | h
                  · exact CL5.out e h
                  · obtain rfl : e = _ := by simpa using h
                    exact HCNT.out
                · exact Nat.le_trans (kids_cnt HGO.out.2 l.length (Nat.le_refl _) e h) HCNT.out
              have HCO : Hid (cost (A ++ [(⟨.slice la l.length lc, l, true⟩ : Ce)] ++ kidsE V go oo l l.length) + 1 = n0) := by
                show _ = _
                rw [cost_append, cost_append, KA.out.2.1, List.take_length]
                have := HWT.out
                simp [cost, costE] at this ⊢
                omega
              clear x6
              go_wp2
              go_roundw
              case rel => exact ⟨_, _, es5.toList, CG5.out, rfl, by have := HCO.out; have := HNBD.out; omega, hrj.out, hij.out, CL8.out⟩
              case measure =>
                have h1 := HN0.out
                simp only [List.length_append, List.length_singleton, ← HK.out] at h1
                refine Nat.lt_of_le_of_lt (Lg.leastN_le ⟨_, es5.toList, CG5.out, rfl, by have := HCO.out; have := HNBD.out; omega, hrj.out, hij.out, CL8.out⟩) (by rw [← h1]; have := HCO.out; omega)
end Go.Proofs.Ytpbhoomhcdljoaa.Cn
/- The program's rightness of a statement within others, of any. Conditions: as WithinAll. -/
namespace Go.Proofs.Ytpbhoomhcdljoaa.Trm
open Go.RowKit Own Lexs
theorem within_of (x : STree) (ihb : LOk x.body) (ihe : LOk x.els) : WOk x := fun v w r hr hz hx => by
  by_cases h : 1 ≤ x.kind ∧ x.kind ≤ 8
  · rcases (by omega : x.kind = 1 ∨ x.kind = 2 ∨ x.kind = 3 ∨ (x.kind = 4 ∨ x.kind = 5 ∨ x.kind = 6 ∨ x.kind = 7) ∨ x.kind = 8) with h | h | h | h | h
    · exact within_set x v w r hr hz hx h
    · exact within_if x ihb ihe v w r hr hz hx h
    · exact within_while x ihb v w r hr hz hx h
    · exact within_word x v w r hr hz hx h
    · exact within_skip x v w r hr hz hx h
  · exact within_none x v w r hr hz hx h
theorem within_any : ∀ x : STree, WOk x := streeInd fun _ _ _ b e ihb ihe => within_of _ (right_slist b ihb) (right_slist e ihe)
end Go.Proofs.Ytpbhoomhcdljoaa.Trm
/- Whether a procedure's body is right, of the program, walked. Conditions: the body lies in rows that are not frozen; it has at most 2 to the 20 statements, kids and bytes within it. -/
namespace Go.Proofs.Ytpbhoomhcdljoaa.Trm
open Go.RowKit Own Lexs
theorem implBody_any (xs : List STree) (v : Value) (w : World) (hz : xs.length + szXS xs ≤ 1048576) (h : SBL w xs v) :
    Calls Try.prog 27 #[v] w fun e w' => e = .returned (.bool (okXS xs)) ∧ Below w.heap.size w w' := by
  have hcnt : cntXS xs ≤ 1100000 := by have := cntXS_le xs; omega
  have C1 := Lib.hid (Cn.implCount_any xs v w hcnt h.f)
  have C2 := Lib.hid (fun w2 hb => right_slist xs (fun x _ => within_any x) v w2 6 (Nat.le_refl _) hz (h.below (w' := w2) hb))
  have HE : Hid (okXS xs = (decide (cntXS xs ≤ 60) && rightXS xs 6)) := rfl
  obtain ⟨_, a, c, rfl, _⟩ := h.l
  clear h hz
  generalize okXS xs = rr at HE
  by_cases hc : cntXS xs ≤ 60
  · have HR : Hid (rr = rightXS xs 6) := by show _ = _; rw [HE.out]; simp [hc]
    have hq : ¬ (60 : Int) < (cntXS xs : Int) := by omega
    clear HE
    generalize cntXS xs = n at C1 hq
    clear hc hcnt
    go_enter Try.func27, Try.ntmps27
    go_wp2_with fail
    refine C1.out.mono ?_
    rintro e w1 ⟨rfl, hb1⟩
    have B1 := Lib.hid hb1
    clear hb1
    go_wp2_with fail
    refine (C2.out _ B1.out).mono ?_
    rintro e w2 ⟨hb2, hp⟩
    have B2 := Lib.hid (B1.out.trans (hb2.mono B1.out.size))
    clear hb2
    rcases hp with ⟨hr, u, rfl, _⟩ | ⟨hr, rfl⟩
    · have HF : Hid (rr = true) := by show _ = _; rw [HR.out, hr]
      clear hr
      go_wp2
      go_ret
      exact ⟨ret_b (by rw [HF.out]), B2.out⟩
    · have HF : Hid (rr = false) := by show _ = _; rw [HR.out, hr]
      clear hr
      go_wp2
      go_ret
      exact ⟨ret_b (by rw [HF.out]), B2.out⟩
  · have HF : Hid (rr = false) := by show _ = _; rw [HE.out]; simp [hc]
    have hq : (60 : Int) < (cntXS xs : Int) := by omega
    clear HE
    generalize cntXS xs = n at C1 hq
    clear hc hcnt
    go_enter Try.func27, Try.ntmps27
    go_wp2_with fail
    refine C1.out.mono ?_
    rintro e w1 ⟨rfl, hb1⟩
    have B1 := Lib.hid hb1
    clear hb1
    go_wp2
    go_ret
    exact ⟨ret_b (by rw [HF.out]), B1.out⟩
end Go.Proofs.Ytpbhoomhcdljoaa.Trm
/- The program's ProgOk, walked. Conditions: the program is of the call's own, of at most 2 to the 20. -/
namespace Go.Proofs.Ytpbhoomhcdljoaa.Trm
open Go.RowKit Own Lexs
set_option maxHeartbeats 1600000 in
theorem implProgOk_any (x : PTree) (v : Value) (w : World) (hz : szP x ≤ 1048576) (hl : POwn w x v) :
    Calls Try.prog 10 #[v] w fun e w' => e = .returned (.bool (okP x)) ∧ Below w.heap.size w w' := by
  obtain ⟨ga, gc, la, lc, pa, pc, rfl, h1, h2, h3⟩ := hl
  obtain ⟨hlen, pa', pc', e, hk⟩ := h3
  cases e
  have hz3 : szPrs x.procs ≤ 1048576 := by unfold szP at hz; omega
  have HE : Hid (okP x = ((decide (x.globals.length ≤ 6) && nmsB x.globals) && ((decide (x.locks.length ≤ 6) && nmsB x.locks) && (decide (x.procs.length ≤ 8) && okPrs x.procs)))) := rfl
  have HZ := Lib.hid hz3
  generalize x.procs = ps at hlen hk HE HZ
  have HK := Lib.hid hk
  have C1 := Lib.hid (fun w hk => implNames_any x.globals (.slice ga x.globals.length gc) w (h1.keep hk))
  have C2 := Lib.hid (fun w hk => implNames_any x.locks (.slice la x.locks.length lc) w (h2.keep hk))
  have X0 := Lib.hid (Box3.new w (.slice ga x.globals.length gc) (.slice la x.locks.length lc) (.slice pa ps.length pc) 30)
  have B0 := Lib.hid ((Below.refl w.heap.size w).alloc (Nat.le_refl _) (.cells #[.slice ga x.globals.length gc, .slice la x.locks.length lc, .slice pa ps.length pc] 30))
  clear hk h1 h2 hz hz3
  generalize okP x = rr at HE
  obtain ⟨p0, p1, p2⟩ := X0.out
  by_cases h6 : x.globals.length ≤ 6
  · by_cases h7 : x.locks.length ≤ 6
    · by_cases h8 : ps.length ≤ 8
      · generalize nmsB x.globals = r1 at HE C1
        generalize nmsB x.locks = r2 at HE C2
        have HR : Hid (rr = (r1 && (r2 && okPrs ps))) := by show _ = _; rw [HE.out]; simp [h6, h7, h8]
        have hq : ¬ (8 : Int) < (ps.length : Int) := by omega
        have hq2 : ¬ 8 < ps.length := by omega
        have hq3 : ¬ (6 : Int) < (x.globals.length : Int) := by omega
        have hq4 : ¬ 6 < x.globals.length := by omega
        have hq5 : ¬ (6 : Int) < (x.locks.length : Int) := by omega
        have hq6 : ¬ 6 < x.locks.length := by omega
        clear HE
        go_enter Try.func10, Try.ntmps10
        go_wp2
        clear p0 p1 p2
        go_loopw [24] (fun i wr => ∃ (j : Nat), j ≤ ps.length ∧ i = .int .i64 j ∧ Hid (rr = (r1 && (r2 && okPrs (ps.drop j)))) ∧ Hid (Box3 wr w.heap.size (.slice ga x.globals.length gc) (.slice la x.locks.length lc) (.slice pa ps.length pc)) ∧ Hid (Below w.heap.size w wr))
          (fun i _ => ps.length - (intOf i).toNat)
        case atStart => exact ⟨0, Nat.zero_le _, rfl, HR.out, X0.out, B0.out⟩
        case round =>
          obtain ⟨j, hj, rfl, hsz, hbx, hbe⟩ := hrel
          obtain ⟨p0, p1, p2⟩ := hbx.out
          by_cases hlt : j < ps.length
          · obtain ⟨g, rfl, hl⟩ := HK.out (by omega)
            obtain ⟨ba, bc, _, _, h0, c0, c1, _, ob⟩ := (hl j hlt).below hbe.out
            have hd := okPrs_drop hlt
            have hzj : ps[j].body.length + szXS ps[j].body ≤ 1048576 := by have h := szPrs_mem (List.getElem_mem hlt); have := HZ.out; unfold szPr at h; omega
            have CN := Lib.hid (fun w2 => implIsName_any ps[j].name w2 h0)
            have sb : SBL wr ps[j].body (.slice ba ps[j].body.length bc) := ⟨ob.list, ob.listF⟩
            have CB := Lib.hid (fun w2 hb => implBody_any ps[j].body (.slice ba ps[j].body.length bc) w2 hzj (sb.below (w' := w2) hb))
            clear hl ob sb hzj
            generalize isNm ps[j].name.data.toList = rn at CN hd
            generalize okXS ps[j].body = rb at CB hd
            cases rn with
            | false =>
              have HF : Hid (rr = false) := by show _ = _; rw [hsz.out, hd]; simp
              clear hd
              go_wp2_with fail
              refine (CN.out _).mono ?_
              rintro e w1 ⟨rfl, rfl⟩
              have B1 := Lib.hid (hbe.out.alloc hbe.out.size (.cells #[.string ps[j].name, .slice ba ps[j].body.length bc] 47))
              go_wp2
              go_ret
              exact ⟨ret_b (by rw [HF.out]), B1.out⟩
            | true =>
              cases rb with
              | false =>
                have HF : Hid (rr = false) := by show _ = _; rw [hsz.out, hd]; simp
                clear hd
                go_wp2_with fail
                refine (CN.out _).mono ?_
                rintro e w1 ⟨rfl, rfl⟩
                go_wp2_with fail
                refine (CB.out _ ((Below.refl _ _).alloc (Nat.le_refl _) _)).mono ?_
                rintro e w2 ⟨rfl, hb⟩
                have B2 := Lib.hid (hbe.out.trans ((below_box1 hb).mono hbe.out.size))
                clear hb
                go_wp2
                go_ret
                exact ⟨ret_b (by rw [HF.out]), B2.out⟩
              | true =>
                have HF : Hid (rr = (r1 && (r2 && okPrs (ps.drop (j + 1))))) := by show _ = _; rw [hsz.out, hd]; simp
                clear hd
                go_wp2_with fail
                refine (CN.out _).mono ?_
                rintro e w1 ⟨rfl, rfl⟩
                go_wp2_with fail
                refine (CB.out _ ((Below.refl _ _).alloc (Nat.le_refl _) _)).mono ?_
                rintro e w2 ⟨rfl, hb⟩
                have B2 := Lib.hid (hbe.out.trans ((below_box1 hb).mono hbe.out.size))
                have X2 := Lib.hid (hbx.out.keep (keeps_below (below_box1 hb)))
                clear hb
                go_wp2
                go_roundw
                case rel => exact ⟨j + 1, by omega, by go_num, HF, X2, B2⟩
                case measure => simp [intOf]; omega
          · have HG : Hid (rr = (r1 && r2)) := by show _ = _; rw [hsz.out, okPrs_end (by omega)]; simp
            cases r1 with
            | false =>
              have HF : Hid (rr = false) := HG.out
              go_wp2_with fail
              refine (C1.out _ (keeps_below hbe.out)).mono ?_
              rintro e w1 ⟨rfl, rfl⟩
              go_wp2
              go_ret
              exact ⟨ret_b (by rw [HF.out]), hbe.out⟩
            | true =>
              have HF : Hid (rr = r2) := HG.out
              go_wp2_with fail
              refine (C1.out _ (keeps_below hbe.out)).mono ?_
              rintro e w1 ⟨rfl, rfl⟩
              go_wp2_with fail
              refine (C2.out _ (keeps_below hbe.out)).mono ?_
              rintro e w2 ⟨rfl, rfl⟩
              go_wp2
              go_ret
              exact ⟨ret_b (by rw [HF.out]), hbe.out⟩
      · have HF : Hid (rr = false) := by show _ = _; rw [HE.out]; simp [h8]
        have hq2 : 8 < ps.length := by omega
        have hq4 : ¬ 6 < x.globals.length := by omega
        have hq6 : ¬ 6 < x.locks.length := by omega
        clear HE
        go_enter Try.func10, Try.ntmps10
        go_wp2
        go_ret
        exact ⟨ret_b (by rw [HF.out]), B0.out⟩
    · have HF : Hid (rr = false) := by show _ = _; rw [HE.out]; simp [h7]
      have hq4 : ¬ 6 < x.globals.length := by omega
      have hq6 : 6 < x.locks.length := by omega
      clear HE
      go_enter Try.func10, Try.ntmps10
      go_wp2
      go_ret
      exact ⟨ret_b (by rw [HF.out]), B0.out⟩
  · have HF : Hid (rr = false) := by show _ = _; rw [HE.out]; simp [h6]
    have hq4 : 6 < x.globals.length := by omega
    clear HE
    go_enter Try.func10, Try.ntmps10
    go_wp2
    go_ret
    exact ⟨ret_b (by rw [HF.out]), B0.out⟩
end Go.Proofs.Ytpbhoomhcdljoaa.Trm
/- The laws' count of a statement's names and what is within it, walked. Conditions: the statement lies in memory; the room left is at most 2 to the 20. -/
namespace Go.Proofs.Ytpbhoomhcdljoaa.Trm
open Go.RowKit Own
def SzXOk (x : STree) : Prop := ∀ (v : Value) (w : World) (a : Nat), a ≤ 1048576 → SLies w x v →
    Calls Try.prog 64 #[v, .int .i64 (a : Int)] w fun e w' => e = .returned (.int .i64 (leftR a (szX x))) ∧ Below w.heap.size w w'
theorem szXS_any (xs : List STree) (ih : ∀ x, x ∈ xs → SzXOk x) (v : Value) (w : World) (a : Nat) (ha : a ≤ 1048576) (hl : SListAt w v xs) :
    Calls Try.prog 51 #[v, .int .i64 (a : Int)] w fun e w' => e = .returned (.int .i64 (leftR a (xs.length + szXS xs))) ∧ Below w.heap.size w w' := by
  obtain ⟨hlen, aa, cap, rfl, hk⟩ := hl
  have IH := Lib.hid ih
  have HK := Lib.hid hk
  clear ih hk
  by_cases hb : a < xs.length
  · have HO := Lib.hid (leftR_no (a := a) (n := xs.length + szXS xs) (by omega))
    go_enter Try.func51, Try.ntmps51
    go_wp2
    go_ret
    exact ⟨by rw [HO.out]; rfl, Below.refl _ _⟩
  · go_enter Try.func51, Try.ntmps51
    go_wp2
    go_loopw [1, 5] (fun x i wr => ∃ (k b : Nat), k ≤ xs.length ∧ b ≤ 1048576 ∧ i = .int .i64 k ∧ x = .int .i64 b ∧ Hid (leftR a (xs.length + szXS xs) = leftR b (szXS (xs.drop k))) ∧ Hid (Below w.heap.size w wr))
      (fun _ i _ => xs.length - (intOf i).toNat)
    case atStart => exact ⟨0, a - xs.length, Nat.zero_le _, by omega, rfl, by go_num, leftR_step (by omega), Below.refl _ _⟩
    case round =>
      obtain ⟨k, b, hk, hb2, rfl, rfl, hsz, hbe⟩ := hrel
      by_cases hlt : k < xs.length
      · obtain ⟨g, o, rfl, hl⟩ := HK.out (by omega)
        obtain ⟨ta, tc, ba, bc, ea, ec, c0, c1, c2, c3, c4, c5, c6, c7, hl2⟩ := (hl.keep (keeps_below hbe.out)).at k hlt
        have C := Lib.hid (IH.out xs[k] (List.getElem_mem hlt) _ wr b hb2 hl2)
        have hd := szXS_drop hlt
        by_cases hle : szX xs[k] ≤ b
        · have HS : Hid (leftR a (xs.length + szXS xs) = leftR (b - szX xs[k]) (szXS (xs.drop (k + 1)))) := by
            show leftR a (xs.length + szXS xs) = _
            rw [hsz.out, hd]; exact leftR_step hle
          rw [leftR_yes hle] at C
          clear hl hl2 hd
          go_wp2_with fail
          refine C.out.mono ?_
          rintro e w1 ⟨rfl, hb1⟩
          have HB1 := Lib.hid (hbe.out.trans (hb1.mono hbe.out.size))
          clear hb1
          go_wp2
          go_roundw
          case rel => exact ⟨k + 1, b - szX xs[k], by omega, by omega, by go_num, rfl, HS, HB1⟩
          case measure => simp [intOf]; omega
        · have HS : Hid (leftR a (xs.length + szXS xs) = -1) := by
            show leftR a (xs.length + szXS xs) = _
            rw [hsz.out, hd]; exact leftR_no (by omega)
          rw [leftR_no (by omega)] at C
          clear hl hl2 hd
          go_wp2_with fail
          refine C.out.mono ?_
          rintro e w1 ⟨rfl, hb1⟩
          have HB1 := Lib.hid (hbe.out.trans (hb1.mono hbe.out.size))
          clear hb1
          go_wp2
          go_ret
          exact ⟨by rw [HS.out]; rfl, HB1.out⟩
      · have HS : Hid (leftR a (xs.length + szXS xs) = (b : Int)) := by
          show leftR a (xs.length + szXS xs) = _
          rw [hsz.out, szXS_end (by omega), leftR_yes (by omega)]; rfl
        go_wp2
        go_ret
        exact ⟨by rw [HS.out]; rfl, hbe.out⟩
set_option maxHeartbeats 800000 in
theorem szStmt_any : ∀ x : STree, SzXOk x := streeInd fun k s t b e ihb ihe v w a ha hl => by
  obtain ⟨h1, h2, h3, h4, ta, tc, ba, bc, ea, ec, rfl, h5, h6, h7⟩ := hl
  have CT := Lib.hid (fun w a ha hk => szTerm_any t _ w a ha (h5.keep hk))
  have CB := Lib.hid (fun w a ha hk => szXS_any b ihb (.slice ba b.length bc) w a ha (SListAt.keep ⟨h3, _, _, rfl, h6⟩ hk))
  have CE := Lib.hid (fun w a ha hk => szXS_any e ihe (.slice ea e.length ec) w a ha (SListAt.keep ⟨h4, _, _, rfl, h7⟩ hk))
  have X0 := Lib.hid (Box8.new w (.int .i64 k) (.string s) (.int .i64 t.kind) (.int .i64 t.num) (.string t.name) (.slice ta t.kids.length tc) (.slice ba b.length bc) (.slice ea e.length ec) 101)
  clear ihb ihe h5 h6 h7
  by_cases hb : a < s.size
  · have HS : Hid (leftR a (szX (.node k s t b e)) = -1) := leftR_no (by rw [szX]; omega)
    go_enter Try.func64, Try.ntmps64
    go_wp2
    go_ret
    exact ⟨by rw [HS.out]; rfl, (Below.refl _ _).alloc (Nat.le_refl _) _⟩
  · have hsub : ((a : Int) - (s.size : Int)) = ((a - s.size : Nat) : Int) := by omega
    have HSub := Lib.hid hsub
    have HS : Hid (leftR a (szX (.node k s t b e)) = leftR (a - s.size) (szT t + ((b.length + szXS b) + (e.length + szXS e)))) := by
      show leftR a (szX (.node k s t b e)) = _
      rw [szX]; exact leftR_step (by omega)
    have ha1 : a - s.size ≤ 1048576 := by omega
    clear hsub
    go_enter Try.func64, Try.ntmps64
    go_wp2_with fail
    rw [HSub.out]
    generalize a - s.size = a1 at HS ha1
    refine (CT.out _ a1 ha1 (keeps_alloc _ _)).mono ?_
    rintro e1 w1 ⟨rfl, hb1⟩
    have B1 := Lib.hid (below_box1 hb1)
    have K1 := Lib.hid ((keeps_alloc w _).trans (keeps_below hb1))
    obtain ⟨p0, p1, p2, p3, p4, p5, p6, p7⟩ := X0.out.keep (keeps_below hb1)
    clear hb1
    by_cases hle : szT t ≤ a1
    · have HS1 : Hid (leftR a (szX (.node k s t b e)) = leftR (a1 - szT t) ((b.length + szXS b) + (e.length + szXS e))) := by show leftR a (szX (.node k s t b e)) = _; rw [HS.out]; exact leftR_step hle
      have ha2 : a1 - szT t ≤ 1048576 := by omega
      rw [leftR_yes hle]
      generalize a1 - szT t = a2 at HS1 ha2
      go_wp2_with fail
      refine (CB.out _ a2 ha2 K1.out).mono ?_
      rintro e2 w2 ⟨rfl, hb2⟩
      have B2 := Lib.hid (B1.out.trans (hb2.mono B1.out.size))
      have K2 := Lib.hid (K1.out.trans (keeps_below hb2))
      have X2 := Lib.hid ((Box8.keep ⟨p0, p1, p2, p3, p4, p5, p6, p7⟩ (keeps_below hb2)))
      clear hb2 p0 p1 p2 p3 p4 p5 p6 p7
      obtain ⟨p0, p1, p2, p3, p4, p5, p6, p7⟩ := X2.out
      by_cases hle2 : b.length + szXS b ≤ a2
      · have HS2 : Hid (leftR a (szX (.node k s t b e)) = leftR (a2 - (b.length + szXS b)) (e.length + szXS e)) := by show leftR a (szX (.node k s t b e)) = _; rw [HS1.out]; exact leftR_step hle2
        have ha3 : a2 - (b.length + szXS b) ≤ 1048576 := by omega
        rw [leftR_yes hle2]
        generalize a2 - (b.length + szXS b) = a3 at HS2 ha3
        go_wp2_with fail
        refine (CE.out _ a3 ha3 K2.out).mono ?_
        rintro e3 w3 ⟨rfl, hb3⟩
        have B3 := Lib.hid (B2.out.trans (hb3.mono B2.out.size))
        clear hb3
        by_cases hle3 : e.length + szXS e ≤ a3
        · have HL := Lib.hid (leftR_yes hle3)
          rw [leftR_yes hle3]
          go_wp2
          go_ret
          exact ⟨by rw [HS2.out, HL.out]; rfl, B3.out⟩
        · have HL := Lib.hid (leftR_no (a := a3) (n := e.length + szXS e) (by omega))
          rw [HL.out]
          go_wp2
          go_ret
          exact ⟨by rw [HS2.out, HL.out]; rfl, B3.out⟩
      · have HL := Lib.hid (leftR_no (a := a2) (n := b.length + szXS b) (by omega))
        have HS2 : Hid (leftR a (szX (.node k s t b e)) = -1) := by show leftR a (szX (.node k s t b e)) = _; rw [HS1.out]; exact leftR_no (by omega)
        rw [HL.out]
        go_wp2
        go_ret
        exact ⟨by rw [HS2.out]; rfl, B2.out⟩
    · have HL := Lib.hid (leftR_no (a := a1) (n := szT t) (by omega))
      have HS2 : Hid (leftR a (szX (.node k s t b e)) = -1) := by show leftR a (szX (.node k s t b e)) = _; rw [HS.out]; exact leftR_no (by omega)
      rw [HL.out]
      go_wp2
      go_ret
      exact ⟨by rw [HS2.out]; rfl, B1.out⟩
end Go.Proofs.Ytpbhoomhcdljoaa.Trm
/- The laws' helpers over lists of texts and of numbers, walked: compared. Conditions: the lists lie in memory. -/
namespace Go.Proofs.Ytpbhoomhcdljoaa.Trm
open Go.RowKit Own
theorem infoStrL : (Try.prog.info? 9).map (fun i => (i.zero, i.size, i.bytes)) = some (some (.string ⟨#[]⟩), 1, 16) := by kernel_rfl
theorem infoIntL : (Try.prog.info? 3).map (fun i => (i.zero, i.size, i.bytes)) = some (some (.int .i64 0), 1, 8) := by kernel_rfl
theorem below_noneL {w w' : World} (h : w.grownBy w' none) : Below w.heap.size w w' := ⟨h.os, h.tape, h.output, h.size, fun k hk => h.block k hk (by simp)⟩
theorem set_mid (ys : List Value) (z : Value) (zs : List Value) (u : Value) (j : Nat) (h : ys.length = j) : (ys ++ z :: zs).set j u = (ys ++ [u]) ++ zs := by
  subst h
  rw [List.set_append_right _ _ (Nat.le_refl _), Nat.sub_self, List.set_cons_zero]
  simp
set_option maxHeartbeats 400000 in
theorem eqStrs_at (u v : Value) (ss : List ByteArray) (w : World) (h1 : StrsAt w ss u) (h2 : StrsAt w ss v) :
    Calls Try.prog 20 #[u, v] w fun e w' => e = .returned (.bool true) ∧ Below w.heap.size w w' := by
  obtain ⟨a1, c1, rfl, hm, ha1⟩ := h1
  obtain ⟨a2, c2, rfl, _, ha2⟩ := h2
  have HA1 := Lib.hid ha1
  have HA2 := Lib.hid ha2
  clear ha1 ha2
  go_enter Try.func20, Try.ntmps20
  go_wp2
  go_loopw [5] (fun i wr => ∃ k m : Nat, k ≤ ss.length ∧ i = .int .i64 k ∧ wr = w.drewN m)
    (fun i _ => ss.length - (intOf i).toNat)
  case atStart => exact ⟨0, 0, Nat.zero_le _, rfl, (World.drewN_zero _).symm⟩
  case round =>
    obtain ⟨k, m, hk, rfl, rfl⟩ := hrel
    by_cases hlt : k < ss.length
    · obtain ⟨g1, o1, rfl, q1⟩ := HA1.out (by omega)
      obtain ⟨g2, o2, rfl, q2⟩ := HA2.out (by omega)
      have d1 := q1 k hlt
      have d2 := q2 k hlt
      clear q1 q2
      go_wp2
      go_quiet (fail)
      go_wp2
      go_roundw
      case rel => exact ⟨k + 1, m + nq, by omega, by go_num, rfl⟩
      case measure => simp [intOf]; omega
    · go_wp2
      go_ret
      exact ⟨rfl, below_drewN (Below.refl _ _) _⟩
end Go.Proofs.Ytpbhoomhcdljoaa.Trm
/- The laws' helpers over lists of texts and of numbers, walked: counted, copied, compared. Conditions: the lists lie in memory; they have at most 2 to the 20 elements. -/
namespace Go.Proofs.Ytpbhoomhcdljoaa.Trm
open Go.RowKit Own
set_option maxHeartbeats 400000 in
theorem toStrings_any (ns : List ByteArray) (v : Value) (w : World) (hl : StrsAt w ns v) (hz : ns.length ≤ 1048576) :
    Calls Try.prog 18 #[v] w fun e w' => ∃ v', e = .returned v' ∧ w'.ownsRow w.heap.size 9 1 v' ns.length (strV ns) ∧ Below w.heap.size w w' := by
  obtain ⟨i0, hi, hz0, hz1, hz2⟩ := info_parts infoStrL
  obtain ⟨a, cap, rfl, h1, h2⟩ := hl
  have HK := Lib.hid h2
  clear h2
  go_enter Try.func18, Try.ntmps18
  go_wp2_with (at_make; refine wpList_make_full _ rfl (.tmp 6) (.tmp 6) 22 rfl w.heap.size 9 i0 _ 1 Try.underlying22 hi hz0 hz1 .i64 .i64 _ _ ns.length rfl rfl rfl rfl (by rw [hz2]; omega) (by unfold maxLen; omega) (Nat.le_refl _) ?_)
  intro w1 hown hg
  have HO := Lib.hid hown
  have HG := Lib.hid hg
  clear hown hg
  go_wp2
  go_loopw [4] (fun i wr => ∃ (k : Nat) (zs : List Value), k ≤ ns.length ∧ i = .int .i64 k ∧ Hid (wr.ownsRow w.heap.size 9 1 (.slice (some ⟨w.heap.size, 0, none⟩) ns.length ns.length) ns.length (strV (ns.take k) ++ zs)) ∧ Hid (Below w.heap.size w wr))
    (fun i _ => ns.length - (intOf i).toNat)
  case atStart => exact ⟨0, _, Nat.zero_le _, rfl, HO.out, below_noneL HG.out⟩
  case round =>
    obtain ⟨k, zs, hk, rfl, hrow, hbe⟩ := hrel
    by_cases hlt : k < ns.length
    · obtain ⟨g, o, rfl, hc⟩ := HK.out (by omega)
      have c0 := keeps_below hbe.out _ _ (hc k hlt)
      have hls := hrow.out.1
      simp only [strV, List.length_append, List.length_map, List.length_take] at hls
      obtain ⟨z, zs2, rfl⟩ : ∃ z zs2, zs = z :: zs2 := by
        cases zs with
        | nil => simp at hls; omega
        | cons z r => exact ⟨z, r, rfl⟩
      have f0 := hrow.out.frozenAt k
      obtain ⟨u0, s0⟩ : ∃ u, wr.cell? ⟨w.heap.size, k, none⟩ = some u := ⟨_, (hrow.out.cellAt k (by omega)).trans (List.getElem?_eq_getElem (by rw [hrow.out.1]; omega))⟩
      obtain ⟨hr2, hg2⟩ := hrow.out.stored k (.string ns[k])
      rw [set_mid _ _ _ _ k (by simp [strV]; omega)] at hr2
      have HR2 : Hid ((wr.setCell ⟨w.heap.size, k, none⟩ (.string ns[k])).ownsRow w.heap.size 9 1 (.slice (some ⟨w.heap.size, 0, none⟩) ns.length ns.length) ns.length (strV (ns.take (k + 1)) ++ zs2)) := by
        have e : strV (ns.take (k + 1)) = strV (ns.take k) ++ [Value.string ns[k]] := by rw [List.take_succ_eq_append_getElem hlt]; simp only [strV, List.map_append, List.map_cons, List.map_nil]
        rw [e]
        exact hr2
      have HB2 := Lib.hid (hbe.out.grown hg2 hbe.out.size (fun b hb => by cases hb; exact Nat.le_refl _))
      clear hc hls hr2 hg2
      go_wp2
      go_roundw
      case rel => exact ⟨k + 1, zs2, by omega, by go_num, HR2, HB2⟩
      case measure => simp [intOf]; omega
    · obtain rfl : k = ns.length := by omega
      have h1 := hrow.out
      rw [List.take_length] at h1
      have hz : zs = [] := by have := h1.1; simpa [strV] using this
      rw [hz, List.append_nil] at h1
      have H1 := Lib.hid h1
      clear h1 hz
      go_wp2
      go_ret
      exact ⟨_, rfl, H1.out, hbe.out⟩
def szB (ss : List ByteArray) : Nat := (ss.map (·.size)).sum
theorem szB_drop {ss : List ByteArray} {i : Nat} (h : i < ss.length) : szB (ss.drop i) = ss[i].size + szB (ss.drop (i + 1)) := by unfold szB; rw [List.drop_eq_getElem_cons h, List.map_cons, List.sum_cons]
theorem szB_end {ss : List ByteArray} {i : Nat} (h : ss.length ≤ i) : szB (ss.drop i) = 0 := by rw [List.drop_of_length_le h]; rfl
set_option maxHeartbeats 400000 in
theorem szStrings_any (ss : List ByteArray) (v : Value) (w : World) (a : Nat) (ha : a ≤ 1048576) (h1 : StrsAt w ss v) (hs : ∀ s, s ∈ ss → s.size ≤ 9223372036854775807) :
    Calls Try.prog 16 #[v, .int .i64 (a : Int)] w fun e w' => e = .returned (.int .i64 (leftR a (ss.length + szB ss))) ∧ w = w' := by
  obtain ⟨aa, cap, rfl, hm, ha1⟩ := h1
  have HA := Lib.hid ha1
  have HS0 := Lib.hid hs
  clear ha1 hs
  by_cases hb : a < ss.length
  · have HO := Lib.hid (leftR_no (a := a) (n := ss.length + szB ss) (by omega))
    go_enter Try.func16, Try.ntmps16
    go_wp2
    go_ret
    exact ⟨by rw [HO.out]; rfl, rfl⟩
  · go_enter Try.func16, Try.ntmps16
    go_wp2
    go_loop [1, 5] (fun x i => ∃ (k b : Nat), k ≤ ss.length ∧ b ≤ 1048576 ∧ i = .int .i64 k ∧ x = .int .i64 b ∧ Hid (leftR a (ss.length + szB ss) = leftR b (szB (ss.drop k))))
      (fun _ i => ss.length - (intOf i).toNat)
    case atStart => exact ⟨0, a - ss.length, Nat.zero_le _, by omega, rfl, by go_num, leftR_step (by omega)⟩
    case round =>
      obtain ⟨k, b, hk, hb2, rfl, rfl, hsz⟩ := hrel
      by_cases hlt : k < ss.length
      · obtain ⟨g, o, rfl, q1⟩ := HA.out (by omega)
        have d1 := q1 k hlt
        have hz := HS0.out _ (List.getElem_mem hlt)
        have hd := szB_drop hlt
        clear q1
        by_cases hle : ss[k].size ≤ b
        · have HS : Hid (leftR a (ss.length + szB ss) = leftR (b - ss[k].size) (szB (ss.drop (k + 1)))) := by
            show leftR a (ss.length + szB ss) = _
            rw [hsz.out, hd]; exact leftR_step hle
          clear hd
          go_wp2
          go_round
          case rel => exact ⟨k + 1, b - ss[k].size, by omega, by omega, by go_num, by go_num, HS⟩
          case measure => simp [intOf]; omega
        · have HS : Hid (leftR a (ss.length + szB ss) = -1) := by
            show leftR a (ss.length + szB ss) = _
            rw [hsz.out, hd]; exact leftR_no (by omega)
          clear hd
          go_wp2
          go_ret
          exact ⟨by rw [HS.out]; rfl, rfl⟩
      · have HS : Hid (leftR a (ss.length + szB ss) = (b : Int)) := by
          show leftR a (ss.length + szB ss) = _
          rw [hsz.out, szB_end (by omega), leftR_yes (by omega)]; rfl
        go_wp2
        go_ret
        exact ⟨by rw [HS.out]; rfl, rfl⟩
end Go.Proofs.Ytpbhoomhcdljoaa.Trm
/- The laws' count of a program's names and statements, walked. Conditions: the program lies in memory; the room left is at most 2 to the 20. -/
namespace Go.Proofs.Ytpbhoomhcdljoaa.Trm
open Go.RowKit Own
theorem szProc_any (p : PrT) (v : Value) (w : World) (a : Nat) (ha : a ≤ 1048576) (hl : PrLies w p v) :
    Calls Try.prog 38 #[v, .int .i64 (a : Int)] w fun e w' => e = .returned (.int .i64 (leftR a (szPr p))) ∧ Below w.heap.size w w' := by
  obtain ⟨h1, ba, bc, rfl, h6⟩ := hl
  have CB := Lib.hid (fun w a ha hk => szXS_any p.body (fun x _ => szStmt_any x) (.slice ba p.body.length bc) w a ha (h6.keep hk))
  have X0 := Lib.hid (Box2.new w (.string p.name) (.slice ba p.body.length bc) 60)
  clear h6
  by_cases hb : a < p.name.size
  · have HS : Hid (leftR a (szPr p) = -1) := leftR_no (by rw [szPr]; omega)
    go_enter Try.func38, Try.ntmps38
    go_wp2
    go_ret
    exact ⟨by rw [HS.out]; rfl, (Below.refl _ _).alloc (Nat.le_refl _) _⟩
  · have hsub : ((a : Int) - (p.name.size : Int)) = ((a - p.name.size : Nat) : Int) := by omega
    have HSub := Lib.hid hsub
    have HS : Hid (leftR a (szPr p) = leftR (a - p.name.size) (p.body.length + szXS p.body)) := by
      show leftR a (szPr p) = _
      rw [szPr]; exact leftR_step (by omega)
    have ha1 : a - p.name.size ≤ 1048576 := by omega
    clear hsub
    go_enter Try.func38, Try.ntmps38
    go_wp2_with fail
    rw [HSub.out]
    generalize a - p.name.size = a1 at HS ha1
    refine (CB.out _ a1 ha1 (keeps_alloc _ _)).mono ?_
    rintro e1 w1 ⟨rfl, hb1⟩
    have B1 := Lib.hid (below_box1 hb1)
    clear hb1
    by_cases hle : p.body.length + szXS p.body ≤ a1
    · have HL := Lib.hid (leftR_yes hle)
      rw [leftR_yes hle]
      go_wp2
      go_ret
      exact ⟨by rw [HS.out, HL.out]; rfl, B1.out⟩
    · have HL := Lib.hid (leftR_no (a := a1) (n := p.body.length + szXS p.body) (by omega))
      rw [HL.out]
      go_wp2
      go_ret
      exact ⟨by rw [HS.out, HL.out]; rfl, B1.out⟩
theorem szPrs_any (xs : List PrT) (v : Value) (w : World) (a : Nat) (ha : a ≤ 1048576) (hl : PrsAt w v xs) :
    Calls Try.prog 21 #[v, .int .i64 (a : Int)] w fun e w' => e = .returned (.int .i64 (leftR a (xs.length + szPrs xs))) ∧ Below w.heap.size w w' := by
  obtain ⟨hlen, aa, cap, rfl, hk⟩ := hl
  have HK := Lib.hid hk
  clear hk
  by_cases hb : a < xs.length
  · have HO := Lib.hid (leftR_no (a := a) (n := xs.length + szPrs xs) (by omega))
    go_enter Try.func21, Try.ntmps21
    go_wp2
    go_ret
    exact ⟨by rw [HO.out]; rfl, Below.refl _ _⟩
  · go_enter Try.func21, Try.ntmps21
    go_wp2
    go_loopw [1, 5] (fun x i wr => ∃ (k b : Nat), k ≤ xs.length ∧ b ≤ 1048576 ∧ i = .int .i64 k ∧ x = .int .i64 b ∧ Hid (leftR a (xs.length + szPrs xs) = leftR b (szPrs (xs.drop k))) ∧ Hid (Below w.heap.size w wr))
      (fun _ i _ => xs.length - (intOf i).toNat)
    case atStart => exact ⟨0, a - xs.length, Nat.zero_le _, by omega, rfl, by go_num, leftR_step (by omega), Below.refl _ _⟩
    case round =>
      obtain ⟨k, b, hk, hb2, rfl, rfl, hsz, hbe⟩ := hrel
      by_cases hlt : k < xs.length
      · obtain ⟨g, o, rfl, hl⟩ := HK.out (by omega)
        obtain ⟨h0, ba, bc, c0, c1, hl2⟩ := (hl k hlt).keep (keeps_below hbe.out)
        have C := Lib.hid (szProc_any xs[k] _ wr b hb2 ⟨h0, ba, bc, rfl, hl2⟩)
        have hd := szPrs_drop hlt
        by_cases hle : szPr xs[k] ≤ b
        · have HS : Hid (leftR a (xs.length + szPrs xs) = leftR (b - szPr xs[k]) (szPrs (xs.drop (k + 1)))) := by
            show leftR a (xs.length + szPrs xs) = _
            rw [hsz.out, hd]; exact leftR_step hle
          rw [leftR_yes hle] at C
          clear hl hl2 hd
          go_wp2_with fail
          refine C.out.mono ?_
          rintro e w1 ⟨rfl, hb1⟩
          have HB1 := Lib.hid (hbe.out.trans (hb1.mono hbe.out.size))
          clear hb1
          go_wp2
          go_roundw
          case rel => exact ⟨k + 1, b - szPr xs[k], by omega, by omega, by go_num, rfl, HS, HB1⟩
          case measure => simp [intOf]; omega
        · have HS : Hid (leftR a (xs.length + szPrs xs) = -1) := by
            show leftR a (xs.length + szPrs xs) = _
            rw [hsz.out, hd]; exact leftR_no (by omega)
          rw [leftR_no (by omega)] at C
          clear hl hl2 hd
          go_wp2_with fail
          refine C.out.mono ?_
          rintro e w1 ⟨rfl, hb1⟩
          have HB1 := Lib.hid (hbe.out.trans (hb1.mono hbe.out.size))
          clear hb1
          go_wp2
          go_ret
          exact ⟨by rw [HS.out]; rfl, HB1.out⟩
      · have HS : Hid (leftR a (xs.length + szPrs xs) = (b : Int)) := by
          show leftR a (xs.length + szPrs xs) = _
          rw [hsz.out, szPrs_end (by omega), leftR_yes (by omega)]; rfl
        go_wp2
        go_ret
        exact ⟨by rw [HS.out]; rfl, hbe.out⟩
theorem szNs_eq (ss : List ByteArray) : szNs ss = szB ss := rfl
set_option maxHeartbeats 800000 in
theorem szProg_any (x : PTree) (v : Value) (w : World) (a : Nat) (ha : a ≤ 1048576) (hl : PLies w x v) :
    Calls Try.prog 7 #[v, .int .i64 (a : Int)] w fun e w' => e = .returned (.int .i64 (leftR a (szP x))) ∧ Below w.heap.size w w' := by
  obtain ⟨ga, gc, la, lc, pa, pc, rfl, h1, h2, h3⟩ := hl
  have C1 := Lib.hid (fun w a ha hk => szStrings_any x.globals (.slice ga x.globals.length gc) w a ha (h1.1.keep hk) h1.2)
  have C2 := Lib.hid (fun w a ha hk => szStrings_any x.locks (.slice la x.locks.length lc) w a ha (h2.1.keep hk) h2.2)
  have C3 := Lib.hid (fun w a ha hk => szPrs_any x.procs (.slice pa x.procs.length pc) w a ha (h3.keep hk))
  have X0 := Lib.hid (Box3.new w (.slice ga x.globals.length gc) (.slice la x.locks.length lc) (.slice pa x.procs.length pc) 25)
  clear h1 h2 h3
  have HE : Hid (szP x = (x.globals.length + szB x.globals) + ((x.locks.length + szB x.locks) + (x.procs.length + szPrs x.procs))) := rfl
  generalize szP x = n at HE
  generalize x.globals.length + szB x.globals = n1 at HE C1
  generalize x.locks.length + szB x.locks = n2 at HE C2
  generalize x.procs.length + szPrs x.procs = n3 at HE C3
  obtain rfl := HE.out
  clear HE
  have B0 := Lib.hid ((Below.refl w.heap.size w).alloc (Nat.le_refl _) (.cells #[.slice ga x.globals.length gc, .slice la x.locks.length lc, .slice pa x.procs.length pc] 25))
  go_enter Try.func7, Try.ntmps7
  go_wp2_with fail
  refine (C1.out _ a ha (keeps_alloc _ _)).mono ?_
  rintro e1 w1 ⟨rfl, rfl⟩
  obtain ⟨p0, p1, p2⟩ := X0.out
  by_cases hle : n1 ≤ a
  · have HS1 : Hid (leftR a (n1 + (n2 + n3)) = leftR (a - n1) (n2 + n3)) := leftR_step hle
    have ha2 : a - n1 ≤ 1048576 := by omega
    rw [leftR_yes hle]
    generalize a - n1 = a2 at HS1 ha2
    go_wp2_with fail
    refine (C2.out _ a2 ha2 (keeps_alloc _ _)).mono ?_
    rintro e2 w2 ⟨rfl, rfl⟩
    by_cases hle2 : n2 ≤ a2
    · have HS2 : Hid (leftR a (n1 + (n2 + n3)) = leftR (a2 - n2) n3) := by show _ = _; rw [HS1.out]; exact leftR_step hle2
      have ha3 : a2 - n2 ≤ 1048576 := by omega
      rw [leftR_yes hle2]
      generalize a2 - n2 = a3 at HS2 ha3
      go_wp2_with fail
      refine (C3.out _ a3 ha3 (keeps_alloc _ _)).mono ?_
      rintro e3 w3 ⟨rfl, hb3⟩
      have B3 := Lib.hid (below_box1 hb3)
      clear hb3
      by_cases hle3 : n3 ≤ a3
      · have HL := Lib.hid (leftR_yes hle3)
        rw [leftR_yes hle3]
        go_wp2
        go_ret
        exact ⟨by rw [HS2.out, HL.out]; rfl, B3.out⟩
      · have HL := Lib.hid (leftR_no (a := a3) (n := n3) (by omega))
        rw [HL.out]
        go_wp2
        go_ret
        exact ⟨by rw [HS2.out, HL.out]; rfl, B3.out⟩
    · have HL := Lib.hid (leftR_no (a := a2) (n := n2) (by omega))
      have HS2 : Hid (leftR a (n1 + (n2 + n3)) = -1) := by show _ = _; rw [HS1.out]; exact leftR_no (by omega)
      rw [HL.out]
      go_wp2
      go_ret
      exact ⟨by rw [HS2.out]; rfl, B0.out⟩
  · have HL := Lib.hid (leftR_no (a := a) (n := n1) (by omega))
    have HS2 : Hid (leftR a (n1 + (n2 + n3)) = -1) := leftR_no (by omega)
    rw [HL.out]
    go_wp2
    go_ret
    exact ⟨by rw [HS2.out]; rfl, B0.out⟩
end Go.Proofs.Ytpbhoomhcdljoaa.Trm
/- The laws' copy of a statement, walked. Conditions: the statement lies in memory; it has at most 2 to the 20 names and statements at once. -/
namespace Go.Proofs.Ytpbhoomhcdljoaa.Trm
open Go.RowKit Own
theorem infoStmt : (Try.prog.info? 74).map (fun i => (i.zero, i.size, i.bytes)) = some (some (.agg #[.int .i64 0, .string ⟨#[]⟩, .int .i64 0, .int .i64 0, .string ⟨#[]⟩, .slice none 0 0, .slice none 0 0, .slice none 0 0]), 8, 128) := by kernel_rfl
def ToXOk (x : STree) : Prop := ∀ (v : Value) (w : World), szX x ≤ 1048576 → SLies w x v →
    Calls Try.prog 66 #[v] w fun e w' => ∃ v', e = .returned v' ∧ SOwns w' w.heap.size w'.heap.size x v' ∧ Below w.heap.size w w'
theorem row_some8 {w : World} {lo : Nat} {e : TypeId} {g cap n j : Nat} {xs : List Value} (h : w.ownsRow lo e 8 (.slice (some ⟨g, 0, none⟩) n cap) n xs) (hj : j < n * 8) : ∃ u, w.cell? ⟨g, j, none⟩ = some u := by
  refine ⟨xs[j]'(by rw [h.1]; exact hj), ?_⟩
  rw [h.cellAt j hj]; simp
theorem set8 : ∀ (ys : List Value) (z0 z1 z2 z3 z4 z5 z6 z7 v0 v1 v2 v3 v4 v5 v6 v7 : Value) (r : List Value) (j : Nat), ys.length = j → ((((((((ys ++ z0 :: z1 :: z2 :: z3 :: z4 :: z5 :: z6 :: z7 :: r).set j v0).set (j + 1) v1).set (j + 2) v2).set (j + 3) v3).set (j + 4) v4).set (j + 5) v5).set (j + 6) v6).set (j + 7) v7 = ys ++ [v0, v1, v2, v3, v4, v5, v6, v7] ++ r
  | [], _, _, _, _, _, _, _, _, _, _, _, _, _, _, _, _, _, _, h => by subst h; rfl
  | y :: ys, z0, z1, z2, z3, z4, z5, z6, z7, v0, v1, v2, v3, v4, v5, v6, v7, r, j, h => by
    subst h
    have e := set8 ys z0 z1 z2 z3 z4 z5 z6 z7 v0 v1 v2 v3 v4 v5 v6 v7 r ys.length rfl
    simp only [List.cons_append, List.length_cons, List.set_cons_succ, Nat.add_right_comm _ 1] at e ⊢
    rw [e]
theorem row_put8 {w : World} {lo : Nat} {e : TypeId} {g cap n k : Nat} {ys zs : List Value} (h : w.ownsRow lo e 8 (.slice (some ⟨g, 0, none⟩) n cap) n (ys ++ zs)) (hy : ys.length = k * 8) (hk : k < n) (v0 v1 v2 v3 v4 v5 v6 v7 : Value) :
    ∃ zs2, ((((((((w.setCell ⟨g, k * 8, none⟩ v0).setCell ⟨g, k * 8 + 1, none⟩ v1).setCell ⟨g, k * 8 + 2, none⟩ v2).setCell ⟨g, k * 8 + 3, none⟩ v3).setCell ⟨g, k * 8 + 4, none⟩ v4).setCell ⟨g, k * 8 + 5, none⟩ v5).setCell ⟨g, k * 8 + 6, none⟩ v6).setCell ⟨g, k * 8 + 7, none⟩ v7).ownsRow lo e 8 (.slice (some ⟨g, 0, none⟩) n cap) n (ys ++ [v0, v1, v2, v3, v4, v5, v6, v7] ++ zs2) ∧
      w.grownBy ((((((((w.setCell ⟨g, k * 8, none⟩ v0).setCell ⟨g, k * 8 + 1, none⟩ v1).setCell ⟨g, k * 8 + 2, none⟩ v2).setCell ⟨g, k * 8 + 3, none⟩ v3).setCell ⟨g, k * 8 + 4, none⟩ v4).setCell ⟨g, k * 8 + 5, none⟩ v5).setCell ⟨g, k * 8 + 6, none⟩ v6).setCell ⟨g, k * 8 + 7, none⟩ v7) (some g) := by
  have hl := h.1
  rw [List.length_append, hy] at hl
  obtain ⟨z0, z1, z2, z3, z4, z5, z6, z7, r, rfl⟩ : ∃ z0 z1 z2 z3 z4 z5 z6 z7 r, zs = z0 :: z1 :: z2 :: z3 :: z4 :: z5 :: z6 :: z7 :: r := by
    match zs, hl with
    | z0 :: z1 :: z2 :: z3 :: z4 :: z5 :: z6 :: z7 :: r, _ => exact ⟨z0, z1, z2, z3, z4, z5, z6, z7, r, rfl⟩
    | [], hl => exact absurd hl (by simp; omega)
    | [_], hl => exact absurd hl (by simp; omega)
    | [_, _], hl => exact absurd hl (by simp; omega)
    | [_, _, _], hl => exact absurd hl (by simp; omega)
    | [_, _, _, _], hl => exact absurd hl (by simp; omega)
    | [_, _, _, _, _], hl => exact absurd hl (by simp; omega)
    | [_, _, _, _, _, _], hl => exact absurd hl (by simp; omega)
    | [_, _, _, _, _, _, _], hl => exact absurd hl (by simp; omega)
  have a0 := h.stored (k * 8) v0
  have a1 := a0.1.stored (k * 8 + 1) v1
  have a2 := a1.1.stored (k * 8 + 2) v2
  have a3 := a2.1.stored (k * 8 + 3) v3
  have a4 := a3.1.stored (k * 8 + 4) v4
  have a5 := a4.1.stored (k * 8 + 5) v5
  have a6 := a5.1.stored (k * 8 + 6) v6
  have a7 := a6.1.stored (k * 8 + 7) v7
  refine ⟨r, ?_, a0.2.trans (a1.2.trans (a2.2.trans (a3.2.trans (a4.2.trans (a5.2.trans (a6.2.trans (a7.2)))))))⟩
  have := a7.1
  rw [set8 ys z0 z1 z2 z3 z4 z5 z6 z7 v0 v1 v2 v3 v4 v5 v6 v7 r (k * 8) hy] at this
  exact this
set_option maxHeartbeats 1600000 in
theorem toXS_any (xs : List STree) (ih : ∀ x, x ∈ xs → ToXOk x) (v : Value) (w : World) (hsz : xs.length + szXS xs ≤ 1048576) (hl : SListAt w v xs) :
    Calls Try.prog 55 #[v] w fun e w' => ∃ kv, e = .returned kv ∧ SOwnsK w' w.heap.size w'.heap.size xs kv ∧ Below w.heap.size w w' := by
  obtain ⟨hlen0, aa, cap, rfl, hk⟩ := hl
  obtain ⟨i0, hi, hz0, hz1, hz2⟩ := info_parts infoStmt
  have IH := Lib.hid ih
  have HK := Lib.hid hk
  have HZ := Lib.hid hsz
  have hlen : xs.length ≤ 1048576 := by omega
  clear ih hk hsz hlen0
  go_enter Try.func55, Try.ntmps55
  go_wp2_with (at_make; refine wpList_make_full _ rfl (.tmp 6) (.tmp 6) 45 rfl w.heap.size 74 i0 _ 8 Try.underlying45 hi hz0 hz1 .i64 .i64 _ _ xs.length rfl rfl rfl rfl (by rw [hz2]; omega) (by unfold maxLen; omega) (Nat.le_refl _) ?_)
  intro w1 hown hg
  have HO := Lib.hid hown
  have HG := Lib.hid hg
  clear hown hg
  go_wp2
  go_loopw [4] (fun i wr => ∃ (k : Nat) (ys zs : List Value), k ≤ xs.length ∧ i = .int .i64 k ∧ Hid (ys.length = k * 8) ∧ Hid (wr.ownsRow w.heap.size 74 8 (.slice (some ⟨w.heap.size, 0, none⟩) xs.length xs.length) xs.length (ys ++ zs)) ∧ Hid (SOwnsL wr (w.heap.size + 1) wr.heap.size (xs.take k) ys) ∧ Hid (Below w.heap.size w wr))
    (fun i _ => xs.length - (intOf i).toNat)
  case atStart => exact ⟨0, [], _, Nat.zero_le _, rfl, rfl, HO.out, ⟨rfl, by have := HO.out.lt _ rfl; omega⟩, below_none HG.out⟩
  case round =>
    obtain ⟨k, ys, zs, hk, rfl, hy, hrow, hol, hbe⟩ := hrel
    by_cases hlt : k < xs.length
    · obtain ⟨g, o, rfl, hl⟩ := HK.out (by omega)
      obtain ⟨ta, tc, ba, bc, ea, ec, c0, c1, c2, c3, c4, c5, c6, c7, hl2⟩ := (hl.keep (keeps_below hbe.out)).at k hlt
      have C := Lib.hid (IH.out xs[k] (List.getElem_mem hlt) _ wr (by have := szXS_mem (List.getElem_mem hlt); have := HZ.out; omega) hl2)
      clear hl hl2
      go_wp2_with fail
      refine C.out.mono ?_
      rintro e w2 ⟨v2, rfl, how, hb2⟩
      obtain ⟨va, vc, vb, vd, ve, vf, rfl⟩ := how.lies.shape
      have HOw := Lib.hid how
      have HB2 := Lib.hid hb2
      have R2 := Lib.hid (row_below hrow.out hb2)
      clear how hb2 c0 c1 c2 c3 c4 c5 c6 c7
      have f0 := R2.out.frozenAt (k * 8)
      have f1 := R2.out.frozenAt (k * 8 + 1)
      have f2 := R2.out.frozenAt (k * 8 + 2)
      have f3 := R2.out.frozenAt (k * 8 + 3)
      have f4 := R2.out.frozenAt (k * 8 + 4)
      have f5 := R2.out.frozenAt (k * 8 + 5)
      have f6 := R2.out.frozenAt (k * 8 + 6)
      have f7 := R2.out.frozenAt (k * 8 + 7)
      obtain ⟨u0, s0⟩ := row_some8 R2.out (j := k * 8) (by omega)
      obtain ⟨u1, s1⟩ := row_some8 R2.out (j := k * 8 + 1) (by omega)
      obtain ⟨u2, s2⟩ := row_some8 R2.out (j := k * 8 + 2) (by omega)
      obtain ⟨u3, s3⟩ := row_some8 R2.out (j := k * 8 + 3) (by omega)
      obtain ⟨u4, s4⟩ := row_some8 R2.out (j := k * 8 + 4) (by omega)
      obtain ⟨u5, s5⟩ := row_some8 R2.out (j := k * 8 + 5) (by omega)
      obtain ⟨u6, s6⟩ := row_some8 R2.out (j := k * 8 + 6) (by omega)
      obtain ⟨u7, s7⟩ := row_some8 R2.out (j := k * 8 + 7) (by omega)
      obtain ⟨zs2, hr4, hg4⟩ := row_put8 R2.out hy.out hlt (.int .i64 xs[k].kind) (.string xs[k].name) (.int .i64 xs[k].term.kind) (.int .i64 xs[k].term.num) (.string xs[k].term.name) (.slice va xs[k].term.kids.length vc) (.slice vb xs[k].body.length vd) (.slice ve xs[k].els.length vf)
      have HR4 := Lib.hid hr4
      have HG4 := Lib.hid hg4
      clear hr4 hg4
      go_wp2
      go_roundw
      case rel =>
        refine ⟨k + 1, ys ++ cellsX xs[k] (.slice va xs[k].term.kids.length vc) (.slice vb xs[k].body.length vd) (.slice ve xs[k].els.length vf), zs2, by omega, by go_num, ?_, HR4.out, ?_, ?_⟩
        · show _ = _
          rw [List.length_append, hy.out]; simp [cellsX]; omega
        · have hlt0 : w.heap.size < wr.heap.size := (hrow.out.lt _ rfl).2
          have e1 : List.take (k + 1) xs = List.take k xs ++ [xs[k]] := List.take_succ_eq_append_getElem hlt
          rw [e1]
          refine SOwnsL.snoc (mid := wr.heap.size) (SOwnsL.same (fun b h1 h2 => ?_) hol.out) (SOwns.same (fun b h1 h2 => ?_) (HOw.out.wide (Nat.le_refl _) HG4.out.size))
          · exact (HG4.out.block b (Nat.lt_of_lt_of_le h2 HB2.out.size) (by simp; omega)).trans (HB2.out.block b h2)
          · exact HG4.out.block b (by simpa using h2) (by simp; omega)
        · exact (hbe.out.trans (HB2.out.mono hbe.out.size)).grown HG4.out (Nat.le_trans hbe.out.size HB2.out.size) (fun b hb => by cases hb; exact Nat.le_refl _)
      case measure => simp [intOf]; omega
    · obtain rfl : k = xs.length := by omega
      have hz : zs = [] := List.eq_nil_of_length_eq_zero (by have := hrow.out.1; rw [List.length_append, hy.out] at this; omega)
      have HZS := Lib.hid hz
      clear hz
      go_wp2
      go_ret
      have h1 := hrow.out
      have h2 := hol.out
      rw [HZS.out, List.append_nil] at h1
      rw [List.take_length] at h2
      exact ⟨_, rfl, ⟨ys, w.heap.size + 1, h1, by omega, fun b hb => by cases hb; exact Nat.lt_succ_self _, h2⟩, hbe.out⟩
end Go.Proofs.Ytpbhoomhcdljoaa.Trm
/- The laws' copy of one statement, walked. Conditions: the statement lies in memory; it has at most 2 to the 20 names and statements at once. -/
namespace Go.Proofs.Ytpbhoomhcdljoaa.Trm
open Go.RowKit Own
/-- A statement's block of eight cells, known whole. -/
def Row8 (w : World) (b : Nat) (c0 c1 c2 c3 c4 c5 c6 c7 : Value) : Prop := w.heap[b]? = some (.cells #[c0, c1, c2, c3, c4, c5, c6, c7] 74 (0, 0))
theorem Row8.cells {w : World} {b : Nat} {c0 c1 c2 c3 c4 c5 c6 c7 : Value} (h : Row8 w b c0 c1 c2 c3 c4 c5 c6 c7) : Box8 w b c0 c1 c2 c3 c4 c5 c6 c7 := by
  unfold Row8 at h
  refine ⟨?_, ?_, ?_, ?_, ?_, ?_, ?_, ?_⟩ <;> (rw [cell_of_row w b _ _ _ _ h]; rfl)
theorem Row8.free {w : World} {b : Nat} {c0 c1 c2 c3 c4 c5 c6 c7 : Value} (h : Row8 w b c0 c1 c2 c3 c4 c5 c6 c7) (j : Nat) : w.frozen? ⟨b, j, none⟩ = false := frozen_of_row w b j _ _ h
theorem Row8.below {w w' : World} {b B : Nat} {c0 c1 c2 c3 c4 c5 c6 c7 : Value} (h : Row8 w b c0 c1 c2 c3 c4 c5 c6 c7) (hb : Below B w w') (hlt : b < B) : Row8 w' b c0 c1 c2 c3 c4 c5 c6 c7 := (hb.block b hlt).trans h
theorem Row8.other {w : World} {b q i : Nat} {v c0 c1 c2 c3 c4 c5 c6 c7 : Value} (h : Row8 w b c0 c1 c2 c3 c4 c5 c6 c7) (hn : b ≠ q) : Row8 (w.setCell ⟨q, i, none⟩ v) b c0 c1 c2 c3 c4 c5 c6 c7 := (heap_setCell_other w _ b v hn).trans h
theorem Row8.put {w : World} {b i : Nat} {v c0 c1 c2 c3 c4 c5 c6 c7 : Value} (h : Row8 w b c0 c1 c2 c3 c4 c5 c6 c7) : (w.setCell ⟨b, i, none⟩ v).heap[b]? = some (.cells (#[c0, c1, c2, c3, c4, c5, c6, c7].setIfInBounds i v) 74 (0, 0)) := heap_setCell_same w b i _ _ v h
theorem top_at (w : World) (o : Obj) (k : Nat) (h : k = w.heap.size) : (w.alloc o).heap[k]? = some o := by subst h; exact heap_alloc_new w o
set_option maxRecDepth 20000 in
set_option maxHeartbeats 1600000 in
theorem toStmt_any : ∀ x : STree, ToXOk x := streeInd fun k s t b e ihb ihe v w hz hl => by
  obtain ⟨h1, h2, h3, h4, ta, tc, ba, bc, ea, ec, rfl, h5, h6, h7⟩ := hl
  rw [szX] at hz
  have CT := Lib.hid (fun w hk => toTerm_any t _ w (by omega) (h5.keep hk))
  have CB := Lib.hid (fun w hk => toXS_any b ihb (.slice ba b.length bc) w (by omega) (SListAt.keep ⟨h3, _, _, rfl, h6⟩ hk))
  have CE := Lib.hid (fun w hk => toXS_any e ihe (.slice ea e.length ec) w (by omega) (SListAt.keep ⟨h4, _, _, rfl, h7⟩ hk))
  have H1 := Lib.hid h1
  have H2 := Lib.hid h2
  obtain ⟨W, hW⟩ : ∃ W, W = ((w.alloc (.cells #[.int .i64 k, .string s, .int .i64 t.kind, .int .i64 t.num, .string t.name, .slice ta t.kids.length tc, .slice ba b.length bc, .slice ea e.length ec] 101)).alloc (.cells #[.int .i64 0, .string ⟨#[]⟩, .int .i64 0, .int .i64 0, .string ⟨#[]⟩, .slice none 0 0, .slice none 0 0, .slice none 0 0] 74)).alloc (.cells #[.int .i64 k, .string s, .int .i64 0, .int .i64 0, .string ⟨#[]⟩, .slice none 0 0, .slice none 0 0, .slice none 0 0] 74) := ⟨_, rfl⟩
  have hWs : W.heap.size = w.heap.size + 1 + 1 + 1 := by rw [hW]; simp
  have kW : Keeps w W := by rw [hW]; exact ((keeps_alloc _ _).trans (keeps_alloc _ _)).trans (keeps_alloc _ _)
  have bW : Below w.heap.size w W := by rw [hW]; exact (((Below.refl _ _).alloc (Nat.le_refl _) _).alloc (by simp) _).alloc (by simp; omega) _
  have XW : Box8 W w.heap.size (.int .i64 k) (.string s) (.int .i64 t.kind) (.int .i64 t.num) (.string t.name) (.slice ta t.kids.length tc) (.slice ba b.length bc) (.slice ea e.length ec) := by
    rw [hW]
    exact (Box8.new w _ _ _ _ _ _ _ _ _).keep ((keeps_alloc _ _).trans (keeps_alloc _ _))
  have RW : Row8 W (w.heap.size + 1) (.int .i64 0) (.string ⟨#[]⟩) (.int .i64 0) (.int .i64 0) (.string ⟨#[]⟩) (.slice none 0 0) (.slice none 0 0) (.slice none 0 0) := by
    rw [hW]
    exact (heap_alloc_old _ _ (by simp)).trans (top_at _ _ _ (by simp))
  have OW : Row8 W (w.heap.size + 1 + 1) (.int .i64 k) (.string s) (.int .i64 0) (.int .i64 0) (.string ⟨#[]⟩) (.slice none 0 0) (.slice none 0 0) (.slice none 0 0) := by
    rw [hW]
    exact top_at _ _ _ (by simp)
  have HW := Lib.hid hW
  have HWs := Lib.hid hWs
  have KW := Lib.hid kW
  have BW := Lib.hid bW
  have XW' := Lib.hid XW
  have RW' := Lib.hid RW
  have OW' := Lib.hid OW
  clear ihb ihe h1 h2 h5 h6 h7 hz hW hWs kW bW XW RW OW
  go_enter Try.func66, Try.ntmps66
  go_wp2_with fail
  rw [← HW.out]
  refine (CT.out W KW.out).mono ?_
  rintro e1 w1 ⟨v1, rfl, ho1, hb1⟩
  obtain ⟨va, vc, rfl⟩ := ho1.shape
  have HO1 := Lib.hid ho1
  have HB1 := Lib.hid hb1
  have X1 := Lib.hid (XW'.out.keep (keeps_below hb1))
  have R1 := Lib.hid (RW'.out.below hb1 (by rw [HWs.out]; omega))
  have O1 := Lib.hid (OW'.out.below hb1 (by rw [HWs.out]; omega))
  obtain ⟨x0, x1, x2, x3, x4, x5, x6, x7⟩ := X1.out
  obtain ⟨o0, o1, o2, o3, o4, o5, o6, o7⟩ := O1.out.cells
  have f2 := O1.out.free 2
  have f3 := O1.out.free 3
  have f4 := O1.out.free 4
  have f5 := O1.out.free 5
  clear ho1 hb1
  go_wp2_with fail
  obtain ⟨W2, hW2⟩ : ∃ W2, W2 = (((w1.setCell ⟨w.heap.size + 1 + 1, 2, none⟩ (.int .i64 t.kind)).setCell ⟨w.heap.size + 1 + 1, 3, none⟩ (.int .i64 t.num)).setCell ⟨w.heap.size + 1 + 1, 4, none⟩ (.string t.name)).setCell ⟨w.heap.size + 1 + 1, 5, none⟩ (.slice va t.kids.length vc) := ⟨_, rfl⟩
  rw [← hW2]
  have hs2 : W2.heap.size = w1.heap.size := by rw [hW2]; simp
  have hsw1 : w.heap.size + 1 + 1 + 1 ≤ w1.heap.size := by have := HB1.out.size; rw [HWs.out] at this; exact this
  have B2 : Below w.heap.size w W2 := by
    rw [hW2]
    exact ((((BW.out.trans (HB1.out.mono BW.out.size)).setCell (by simp; omega) _).setCell (by simp; omega) _).setCell (by simp; omega) _).setCell (by simp; omega) _
  have O2 : Row8 W2 (w.heap.size + 1 + 1) (.int .i64 k) (.string s) (.int .i64 t.kind) (.int .i64 t.num) (.string t.name) (.slice va t.kids.length vc) (.slice none 0 0) (.slice none 0 0) := by
    rw [hW2]
    exact Row8.put (i := 5) (Row8.put (i := 4) (Row8.put (i := 3) (Row8.put (i := 2) O1.out)))
  have R2 : Row8 W2 (w.heap.size + 1) (.int .i64 0) (.string ⟨#[]⟩) (.int .i64 0) (.int .i64 0) (.string ⟨#[]⟩) (.slice none 0 0) (.slice none 0 0) (.slice none 0 0) := by
    rw [hW2]
    exact (((R1.out.other (by omega)).other (by omega)).other (by omega)).other (by omega)
  have S2 : ∀ q, w.heap.size + 1 + 1 < q → W2.heap[q]? = w1.heap[q]? := fun q hq => by
    rw [hW2, heap_setCell_other _ _ _ _ (by simp; omega), heap_setCell_other _ _ _ _ (by simp; omega), heap_setCell_other _ _ _ _ (by simp; omega), heap_setCell_other _ _ _ _ (by simp; omega)]
  have X2 : Box8 W2 w.heap.size (.int .i64 k) (.string s) (.int .i64 t.kind) (.int .i64 t.num) (.string t.name) (.slice ta t.kids.length tc) (.slice ba b.length bc) (.slice ea e.length ec) := by
    have h : W2.heap[w.heap.size]? = w1.heap[w.heap.size]? := by
      rw [hW2, heap_setCell_other _ _ _ _ (by simp; omega), heap_setCell_other _ _ _ _ (by simp; omega), heap_setCell_other _ _ _ _ (by simp; omega), heap_setCell_other _ _ _ _ (by simp; omega)]
    have hc : ∀ j, W2.cell? ⟨w.heap.size, j, none⟩ = w1.cell? ⟨w.heap.size, j, none⟩ := fun j => World.cell?_of_block h
    exact ⟨(hc 0).trans x0, (hc 1).trans x1, (hc 2).trans x2, (hc 3).trans x3, (hc 4).trans x4, (hc 5).trans x5, (hc 6).trans x6, (hc 7).trans x7⟩
  have HS2 := Lib.hid hs2
  have HB2 := Lib.hid B2
  have HO2 := Lib.hid O2
  have HR2 := Lib.hid R2
  have HSm2 := Lib.hid S2
  have HX2 := Lib.hid X2
  have K2 := Lib.hid (keeps_below B2)
  clear hs2 B2 O2 R2 S2 X2 hW2 x0 x1 x2 x3 x4 x5 x6 x7 o0 o1 o2 o3 o4 o5 o6 o7 f2 f3 f4 f5
  refine (CB.out W2 K2.out).mono ?_
  rintro e2 w3 ⟨bv, rfl, ho3, hb3⟩
  have hlt3 : w.heap.size + 1 + 1 < W2.heap.size := by rw [HS2.out]; omega
  have O3 := Lib.hid (HO2.out.below hb3 hlt3)
  have R3 := Lib.hid (HR2.out.below hb3 (by omega))
  have X3 := Lib.hid (HX2.out.keep (keeps_below hb3))
  have HO3 := Lib.hid ho3
  have HB3 := Lib.hid hb3
  obtain ⟨_, bva, bvc, rfl, _⟩ := ho3.list
  obtain ⟨x0, x1, x2, x3, x4, x5, x6, x7⟩ := X3.out
  obtain ⟨o0, o1, o2, o3, o4, o5, o6, o7⟩ := O3.out.cells
  have f6 := O3.out.free 6
  clear ho3 hb3
  go_wp2_with fail
  obtain ⟨W4, hW4⟩ : ∃ W4, W4 = w3.setCell ⟨w.heap.size + 1 + 1, 6, none⟩ (.slice bva b.length bvc) := ⟨_, rfl⟩
  rw [← hW4]
  have hs4 : W4.heap.size = w3.heap.size := by rw [hW4]; simp
  have hsw3 : W2.heap.size ≤ w3.heap.size := HB3.out.size
  have B4 : Below w.heap.size w W4 := by
    rw [hW4]
    exact (HB2.out.trans (HB3.out.mono HB2.out.size)).setCell (by simp; omega) _
  have O4 : Row8 W4 (w.heap.size + 1 + 1) (.int .i64 k) (.string s) (.int .i64 t.kind) (.int .i64 t.num) (.string t.name) (.slice va t.kids.length vc) (.slice bva b.length bvc) (.slice none 0 0) := by
    rw [hW4]
    exact Row8.put (i := 6) O3.out
  have R4 : Row8 W4 (w.heap.size + 1) (.int .i64 0) (.string ⟨#[]⟩) (.int .i64 0) (.int .i64 0) (.string ⟨#[]⟩) (.slice none 0 0) (.slice none 0 0) (.slice none 0 0) := by
    rw [hW4]
    exact R3.out.other (by omega)
  have S4 : ∀ q, w.heap.size + 1 + 1 < q → W4.heap[q]? = w3.heap[q]? := fun q hq => by
    rw [hW4, heap_setCell_other _ _ _ _ (by simp; omega)]
  have X4 : Box8 W4 w.heap.size (.int .i64 k) (.string s) (.int .i64 t.kind) (.int .i64 t.num) (.string t.name) (.slice ta t.kids.length tc) (.slice ba b.length bc) (.slice ea e.length ec) := by
    have h : W4.heap[w.heap.size]? = w3.heap[w.heap.size]? := by rw [hW4, heap_setCell_other _ _ _ _ (by simp; omega)]
    have hc : ∀ j, W4.cell? ⟨w.heap.size, j, none⟩ = w3.cell? ⟨w.heap.size, j, none⟩ := fun j => World.cell?_of_block h
    exact ⟨(hc 0).trans x0, (hc 1).trans x1, (hc 2).trans x2, (hc 3).trans x3, (hc 4).trans x4, (hc 5).trans x5, (hc 6).trans x6, (hc 7).trans x7⟩
  have HS4 := Lib.hid hs4
  have HB4 := Lib.hid B4
  have HO4 := Lib.hid O4
  have HR4 := Lib.hid R4
  have HSm4 := Lib.hid S4
  have HX4 := Lib.hid X4
  have K4 := Lib.hid (keeps_below B4)
  clear hs4 B4 O4 R4 S4 X4 hW4 x0 x1 x2 x3 x4 x5 x6 x7 o0 o1 o2 o3 o4 o5 o6 o7 f6
  refine (CE.out W4 K4.out).mono ?_
  rintro e3 w5 ⟨ev, rfl, ho5, hb5⟩
  have hlt5 : w.heap.size + 1 + 1 < W4.heap.size := by rw [HS4.out]; omega
  have O5 := Lib.hid (HO4.out.below hb5 hlt5)
  have R5 := Lib.hid (HR4.out.below hb5 (by omega))
  have HO5 := Lib.hid ho5
  have HB5 := Lib.hid hb5
  obtain ⟨_, eva, evc, rfl, _⟩ := ho5.list
  obtain ⟨o0, o1, o2, o3, o4, o5, o6, o7⟩ := O5.out.cells
  obtain ⟨r0, r1, r2, r3, r4, r5, r6, r7⟩ := R5.out.cells
  have f7 := O5.out.free 7
  have g0 := R5.out.free 0
  have g1 := R5.out.free 1
  have g2 := R5.out.free 2
  have g3 := R5.out.free 3
  have g4 := R5.out.free 4
  have g5 := R5.out.free 5
  have g6 := R5.out.free 6
  have g7 := R5.out.free 7
  have hsw5 : W4.heap.size ≤ w5.heap.size := HB5.out.size
  clear ho5 hb5
  go_wp2
  refine bodyPost_ret (v := .agg #[.int .i64 k, .string s, .int .i64 t.kind, .int .i64 t.num, .string t.name, .slice va t.kids.length vc, .slice bva b.length bvc, .slice eva e.length evc]) (by simp [results, Try.results66, go_sem, r0, r1, r2, r3, r4, r5, r6, r7]) rfl ⟨_, rfl, ?_, ?_⟩
  · have e24 := HS2.out
    have e44 := HS4.out
    refine SOwns.mk (x := .node k s t b e) (m1 := w1.heap.size) (m2 := w3.heap.size) H1.out H2.out ?_ ?_ ?_
    · refine Owns.wide (lo := W.heap.size) (by rw [HWs.out]; omega) (Nat.le_refl _) (Owns.same (fun q h1 h2 => ?_) HO1.out)
      rw [HWs.out] at h1
      rw [heap_setCell_other _ _ _ _ (by simp; omega), heap_setCell_other _ _ _ _ (by simp; omega), heap_setCell_other _ _ _ _ (by simp; omega), heap_setCell_other _ _ _ _ (by simp; omega), heap_setCell_other _ _ _ _ (by simp; omega), heap_setCell_other _ _ _ _ (by simp; omega), heap_setCell_other _ _ _ _ (by simp; omega), heap_setCell_other _ _ _ _ (by simp; omega), heap_setCell_other _ _ _ _ (by simp; omega)]
      rw [HB5.out.block q (by omega), HSm4.out q (by omega), HB3.out.block q (by omega), HSm2.out q (by omega)]
    · refine SOwnsK.wide (lo := W2.heap.size) (by omega) (Nat.le_refl _) (SOwnsK.same (fun q h1 h2 => ?_) HO3.out)
      rw [heap_setCell_other _ _ _ _ (by simp; omega), heap_setCell_other _ _ _ _ (by simp; omega), heap_setCell_other _ _ _ _ (by simp; omega), heap_setCell_other _ _ _ _ (by simp; omega), heap_setCell_other _ _ _ _ (by simp; omega), heap_setCell_other _ _ _ _ (by simp; omega), heap_setCell_other _ _ _ _ (by simp; omega), heap_setCell_other _ _ _ _ (by simp; omega), heap_setCell_other _ _ _ _ (by simp; omega)]
      rw [HB5.out.block q (by omega), HSm4.out q (by omega)]
    · refine SOwnsK.wide (lo := W4.heap.size) (by omega) (by simp) (SOwnsK.same (fun q h1 h2 => ?_) HO5.out)
      rw [heap_setCell_other _ _ _ _ (by simp; omega), heap_setCell_other _ _ _ _ (by simp; omega), heap_setCell_other _ _ _ _ (by simp; omega), heap_setCell_other _ _ _ _ (by simp; omega), heap_setCell_other _ _ _ _ (by simp; omega), heap_setCell_other _ _ _ _ (by simp; omega), heap_setCell_other _ _ _ _ (by simp; omega), heap_setCell_other _ _ _ _ (by simp; omega), heap_setCell_other _ _ _ _ (by simp; omega)]
  · exact (((((((((HB4.out.trans (HB5.out.mono HB4.out.size)).setCell (by simp; omega) _).setCell (by simp) _).setCell (by simp) _).setCell (by simp) _).setCell (by simp) _).setCell (by simp) _).setCell (by simp) _).setCell (by simp) _).setCell (by simp) _
end Go.Proofs.Ytpbhoomhcdljoaa.Trm
/- The laws' copies of procedures and programs, walked. Conditions: they lie in memory, at most 2 to the 20 in all. -/
namespace Go.Proofs.Ytpbhoomhcdljoaa.Trm
open Go.RowKit Own
theorem infoProc : (Try.prog.info? 47).map (fun i => (i.zero, i.size, i.bytes)) = some (some (.agg #[.string ⟨#[]⟩, .slice none 0 0]), 2, 40) := by kernel_rfl
/-- A block of two cells that is not frozen, whatever its type. -/
def Row2 (w : World) (b : Nat) (c0 c1 : Value) : Prop := w.heap[b]? = some (.cells #[c0, c1] 47 (0, 0))
theorem Row2.cells {w : World} {b : Nat} {c0 c1 : Value} (h : Row2 w b c0 c1) : Box2 w b c0 c1 := by
  unfold Row2 at h
  refine ⟨?_, ?_⟩ <;> simp [World.cell?, h]
theorem Row2.free {w : World} {b : Nat} {c0 c1 : Value} (h : Row2 w b c0 c1) (j : Nat) : w.frozen? ⟨b, j, none⟩ = false := frozen_of_row w b j _ _ h
theorem Row2.below {w w' : World} {b B : Nat} {c0 c1 : Value} (h : Row2 w b c0 c1) (hb : Below B w w') (hlt : b < B) : Row2 w' b c0 c1 := (hb.block b hlt).trans h
theorem Row2.other {w : World} {b q i : Nat} {v c0 c1 : Value} (h : Row2 w b c0 c1) (hn : b ≠ q) : Row2 (w.setCell ⟨q, i, none⟩ v) b c0 c1 := (heap_setCell_other w _ b v hn).trans h
theorem toProc_any (p : PrT) (v : Value) (w : World) (hz : szPr p ≤ 1048576) (hl : PrLies w p v) :
    Calls Try.prog 42 #[v] w fun e w' => ∃ u, e = .returned u ∧ PrOwn w' w.heap.size p u ∧ Below w.heap.size w w' := by
  obtain ⟨h1, ba, bc, rfl, h6⟩ := hl
  unfold szPr at hz
  have CB := Lib.hid (fun w hk => toXS_any p.body (fun x _ => toStmt_any x) (.slice ba p.body.length bc) w (by omega) (h6.keep hk))
  have H1 := Lib.hid h1
  obtain ⟨W, hW⟩ : ∃ W, W = ((w.alloc (.cells #[.string p.name, .slice ba p.body.length bc] 60)).alloc (.cells #[.string ⟨#[]⟩, .slice none 0 0] 47)).alloc (.cells #[.string p.name, .slice none 0 0] 47) := ⟨_, rfl⟩
  have hWs : W.heap.size = w.heap.size + 1 + 1 + 1 := by rw [hW]; simp
  have kW : Keeps w W := by rw [hW]; exact ((keeps_alloc _ _).trans (keeps_alloc _ _)).trans (keeps_alloc _ _)
  have bW : Below w.heap.size w W := by rw [hW]; exact (((Below.refl _ _).alloc (Nat.le_refl _) _).alloc (by simp) _).alloc (by simp; omega) _
  have RW : Row2 W (w.heap.size + 1) (.string ⟨#[]⟩) (.slice none 0 0) := by
    rw [hW]
    exact (heap_alloc_old _ _ (by simp)).trans (top_at _ _ _ (by simp))
  have OW : Row2 W (w.heap.size + 1 + 1) (.string p.name) (.slice none 0 0) := by
    rw [hW]
    exact top_at _ _ _ (by simp)
  have HW := Lib.hid hW
  have HWs := Lib.hid hWs
  have KW := Lib.hid kW
  have BW := Lib.hid bW
  have RW' := Lib.hid RW
  have OW' := Lib.hid OW
  clear h1 h6 hz hW hWs kW bW RW OW
  go_enter Try.func42, Try.ntmps42
  go_wp2_with fail
  rw [← HW.out]
  refine (CB.out W KW.out).mono ?_
  rintro e1 w1 ⟨v1, rfl, ho1, hb1⟩
  obtain ⟨_, va, vc, rfl, _⟩ := ho1.list
  have HO1 := Lib.hid ho1
  have HB1 := Lib.hid hb1
  have R1 := Lib.hid (RW'.out.below hb1 (by rw [HWs.out]; omega))
  have O1 := Lib.hid (OW'.out.below hb1 (by rw [HWs.out]; omega))
  obtain ⟨o0, o1⟩ := O1.out.cells
  obtain ⟨r0, r1⟩ := R1.out.cells
  have f1 := O1.out.free 1
  have g0 := R1.out.free 0
  have g1 := R1.out.free 1
  have hsw := HB1.out.size
  rw [HWs.out] at hsw
  clear ho1 hb1
  go_wp2
  refine bodyPost_ret (v := .agg #[.string p.name, .slice va p.body.length vc]) (by simp [results, Try.results42, go_sem, r0, r1]) rfl ⟨_, rfl, ?_, ?_⟩
  · refine ⟨H1.out, va, vc, W.heap.size, w1.heap.size, rfl, by rw [HWs.out]; omega, by simp, SOwnsK.same (fun q q1 q2 => ?_) HO1.out⟩
    rw [HWs.out] at q1
    rw [heap_setCell_other _ _ _ _ (by simp; omega), heap_setCell_other _ _ _ _ (by simp; omega), heap_setCell_other _ _ _ _ (by simp; omega)]
  · exact ((((BW.out.trans (HB1.out.mono BW.out.size)).setCell (by simp; omega) _).setCell (by simp) _).setCell (by simp) _)
theorem row_some2 {w : World} {lo : Nat} {e : TypeId} {g cap n j : Nat} {xs : List Value} (h : w.ownsRow lo e 2 (.slice (some ⟨g, 0, none⟩) n cap) n xs) (hj : j < n * 2) : ∃ u, w.cell? ⟨g, j, none⟩ = some u := by
  refine ⟨xs[j]'(by rw [h.1]; exact hj), ?_⟩
  rw [h.cellAt j hj]; simp
theorem set2 : ∀ (ys : List Value) (z0 z1 v0 v1 : Value) (r : List Value) (j : Nat), ys.length = j → ((ys ++ z0 :: z1 :: r).set j v0).set (j + 1) v1 = ys ++ [v0, v1] ++ r
  | [], _, _, _, _, _, _, h => by subst h; rfl
  | y :: ys, z0, z1, v0, v1, r, j, h => by
    subst h
    have e := set2 ys z0 z1 v0 v1 r ys.length rfl
    simp only [List.cons_append, List.length_cons, List.set_cons_succ] at e ⊢
    rw [e]
theorem row_put2 {w : World} {lo : Nat} {e : TypeId} {g cap n k : Nat} {ys zs : List Value} (h : w.ownsRow lo e 2 (.slice (some ⟨g, 0, none⟩) n cap) n (ys ++ zs)) (hy : ys.length = k * 2) (hk : k < n) (v0 v1 : Value) :
    ∃ zs2, ((w.setCell ⟨g, k * 2, none⟩ v0).setCell ⟨g, k * 2 + 1, none⟩ v1).ownsRow lo e 2 (.slice (some ⟨g, 0, none⟩) n cap) n (ys ++ [v0, v1] ++ zs2) ∧
      w.grownBy ((w.setCell ⟨g, k * 2, none⟩ v0).setCell ⟨g, k * 2 + 1, none⟩ v1) (some g) := by
  have hl := h.1
  rw [List.length_append, hy] at hl
  obtain ⟨z0, z1, r, rfl⟩ : ∃ z0 z1 r, zs = z0 :: z1 :: r := by
    match zs, hl with
    | z0 :: z1 :: r, _ => exact ⟨z0, z1, r, rfl⟩
    | [], hl => exact absurd hl (by simp; omega)
    | [_], hl => exact absurd hl (by simp; omega)
  have a0 := h.stored (k * 2) v0
  have a1 := a0.1.stored (k * 2 + 1) v1
  refine ⟨r, ?_, a0.2.trans a1.2⟩
  have := a1.1
  rw [set2 ys z0 z1 v0 v1 r (k * 2) hy] at this
  exact this
set_option maxHeartbeats 800000 in
theorem toPrs_any (xs : List PrT) (v : Value) (w : World) (hsz : xs.length + szPrs xs ≤ 1048576) (hl : PrsAt w v xs) :
    Calls Try.prog 25 #[v] w fun e w' => ∃ kv, e = .returned kv ∧ PrsOwn w' w.heap.size xs kv ∧ Below w.heap.size w w' := by
  obtain ⟨hlen0, aa, cap, rfl, hk⟩ := hl
  obtain ⟨i0, hi, hz0, hz1, hz2⟩ := info_parts infoProc
  have HK := Lib.hid hk
  have HZ := Lib.hid hsz
  have hlen : xs.length ≤ 1048576 := by omega
  clear hk hsz hlen0
  go_enter Try.func25, Try.ntmps25
  go_wp2_with (at_make; refine wpList_make_full _ rfl (.tmp 6) (.tmp 6) 28 rfl w.heap.size 47 i0 _ 2 Try.underlying28 hi hz0 hz1 .i64 .i64 _ _ xs.length rfl rfl rfl rfl (by rw [hz2]; omega) (by unfold maxLen; omega) (Nat.le_refl _) ?_)
  intro w1 hown hg
  have HO := Lib.hid hown
  have HG := Lib.hid hg
  clear hown hg
  go_wp2
  go_loopw [4] (fun i wr => ∃ (k : Nat) (ys zs : List Value), k ≤ xs.length ∧ i = .int .i64 k ∧ Hid (ys.length = k * 2) ∧ Hid (wr.ownsRow w.heap.size 47 2 (.slice (some ⟨w.heap.size, 0, none⟩) xs.length xs.length) xs.length (ys ++ zs)) ∧ Hid (PrOwnL wr (w.heap.size + 1) (xs.take k) ys) ∧ Hid (Below w.heap.size w wr))
    (fun i _ => xs.length - (intOf i).toNat)
  case atStart => exact ⟨0, [], _, Nat.zero_le _, rfl, rfl, HO.out, rfl, below_noneL HG.out⟩
  case round =>
    obtain ⟨k, ys, zs, hk, rfl, hy, hrow, hol, hbe⟩ := hrel
    by_cases hlt : k < xs.length
    · obtain ⟨g, o, rfl, hl⟩ := HK.out (by omega)
      obtain ⟨h0, ba, bc, c0, c1, hl2⟩ := (hl k hlt).keep (keeps_below hbe.out)
      have C := Lib.hid (toProc_any xs[k] _ wr (by have := szPrs_mem (List.getElem_mem hlt); have := HZ.out; omega) ⟨h0, ba, bc, rfl, hl2⟩)
      clear hl hl2
      go_wp2_with fail
      refine C.out.mono ?_
      rintro e w2 ⟨v2, rfl, how, hb2⟩
      obtain ⟨_, va, vc, _, _, rfl, _⟩ := id how
      have HOw := Lib.hid how
      have HB2 := Lib.hid hb2
      have R2 := Lib.hid (row_below hrow.out hb2)
      clear how hb2 c0 c1
      have f0 := R2.out.frozenAt (k * 2)
      have f1 := R2.out.frozenAt (k * 2 + 1)
      obtain ⟨u0, s0⟩ := row_some2 R2.out (j := k * 2) (by omega)
      obtain ⟨u1, s1⟩ := row_some2 R2.out (j := k * 2 + 1) (by omega)
      obtain ⟨zs2, hr4, hg4⟩ := row_put2 R2.out hy.out hlt (.string xs[k].name) (.slice va xs[k].body.length vc)
      have HR4 := Lib.hid hr4
      have HG4 := Lib.hid hg4
      clear hr4 hg4
      go_wp2
      go_roundw
      case rel =>
        refine ⟨k + 1, ys ++ [Value.string xs[k].name, Value.slice va xs[k].body.length vc], zs2, by omega, by go_num, ?_, HR4.out, ?_, ?_⟩
        · show _ = _
          rw [List.length_append, hy.out]; simp; omega
        · have hlt0 : w.heap.size < wr.heap.size := (hrow.out.lt _ rfl).2
          have e1 : List.take (k + 1) xs = List.take k xs ++ [xs[k]] := List.take_succ_eq_append_getElem hlt
          have hst : Stays (w.heap.size + 1) w2 ((w2.setCell ⟨w.heap.size, k * 2, none⟩ (.string xs[k].name)).setCell ⟨w.heap.size, k * 2 + 1, none⟩ (.slice va xs[k].body.length vc)) := (Stays.set (by omega)).trans (Stays.set (by omega))
          rw [e1]
          exact PrOwnL.snoc ((HOw.out.wide (by omega)).keep hst) ((hol.out.keep (Stays.of HB2.out)).keep hst)
        · exact (hbe.out.trans (HB2.out.mono hbe.out.size)).grown HG4.out (Nat.le_trans hbe.out.size HB2.out.size) (fun b hb => by cases hb; exact Nat.le_refl _)
      case measure => simp [intOf]; omega
    · obtain rfl : k = xs.length := by omega
      have hz : zs = [] := List.eq_nil_of_length_eq_zero (by have := hrow.out.1; rw [List.length_append, hy.out] at this; omega)
      have HZS := Lib.hid hz
      clear hz
      go_wp2
      go_ret
      have h1 := hrow.out
      have h2 := hol.out
      rw [HZS.out, List.append_nil] at h1
      rw [List.take_length] at h2
      exact ⟨_, rfl, ⟨ys, h1, h2.wide (by omega)⟩, hbe.out⟩
/-- A block of three cells. -/
def Row3 (w : World) (b : Nat) (c0 c1 c2 : Value) : Prop := w.heap[b]? = some (.cells #[c0, c1, c2] 30 (0, 0))
theorem Row3.cells {w : World} {b : Nat} {c0 c1 c2 : Value} (h : Row3 w b c0 c1 c2) : Box3 w b c0 c1 c2 := by
  unfold Row3 at h
  refine ⟨?_, ?_, ?_⟩ <;> simp [World.cell?, h]
theorem Row3.free {w : World} {b : Nat} {c0 c1 c2 : Value} (h : Row3 w b c0 c1 c2) (j : Nat) : w.frozen? ⟨b, j, none⟩ = false := frozen_of_row w b j _ _ h
theorem Row3.below {w w' : World} {b B : Nat} {c0 c1 c2 : Value} (h : Row3 w b c0 c1 c2) (hb : Below B w w') (hlt : b < B) : Row3 w' b c0 c1 c2 := (hb.block b hlt).trans h
theorem Row3.other {w : World} {b q i : Nat} {v c0 c1 c2 : Value} (h : Row3 w b c0 c1 c2) (hn : b ≠ q) : Row3 (w.setCell ⟨q, i, none⟩ v) b c0 c1 c2 := (heap_setCell_other w _ b v hn).trans h
theorem Row3.put {w : World} {b i : Nat} {v c0 c1 c2 : Value} (h : Row3 w b c0 c1 c2) : (w.setCell ⟨b, i, none⟩ v).heap[b]? = some (.cells (#[c0, c1, c2].setIfInBounds i v) 30 (0, 0)) := heap_setCell_same w b i _ _ v h
/-- Names in a row of the call's own. -/
def NRow (w : World) (base : Nat) (ss : List ByteArray) (v : Value) : Prop := w.ownsRow base 9 1 v ss.length (strV ss)
theorem NRow.keep {w w' : World} {base : Nat} {ss : List ByteArray} {v : Value} (h : NRow w base ss v) (hs : Stays base w w') : NRow w' base ss v := row_same h (fun b hb => hs.2 b (h.lt b hb).1 (h.lt b hb).2)
theorem NRow.shape {w : World} {base : Nat} {ss : List ByteArray} {v : Value} (h : NRow w base ss v) : ∃ a c, v = .slice a ss.length c := by
  obtain ⟨a, c, e, _⟩ := row_shape h
  exact ⟨a, c, e⟩
set_option maxHeartbeats 1600000 in
theorem toProg_any (x : PTree) (v : Value) (w : World) (hz : szP x ≤ 1048576) (hl : PLies w x v) :
    Calls Try.prog 9 #[v] w fun e w' => ∃ u, e = .returned u ∧ POwn w' x u ∧ Below w.heap.size w w' := by
  obtain ⟨ga, gc, la, lc, pa, pc, rfl, h1, h2, h3⟩ := hl
  unfold szP at hz
  have C1 := Lib.hid (fun w hk => toStrings_any x.globals (.slice ga x.globals.length gc) w (h1.1.keep hk) (by omega))
  have C2 := Lib.hid (fun w hk => toStrings_any x.locks (.slice la x.locks.length lc) w (h2.1.keep hk) (by omega))
  have C3 := Lib.hid (fun w hk => toPrs_any x.procs (.slice pa x.procs.length pc) w (by omega) (h3.keep hk))
  have N1 := Lib.hid h1.2
  have N2 := Lib.hid h2.2
  obtain ⟨W, hW⟩ : ∃ W, W = ((w.alloc (.cells #[.slice ga x.globals.length gc, .slice la x.locks.length lc, .slice pa x.procs.length pc] 25)).alloc (.cells #[.slice none 0 0, .slice none 0 0, .slice none 0 0] 30)).alloc (.cells #[.slice none 0 0, .slice none 0 0, .slice none 0 0] 30) := ⟨_, rfl⟩
  have hWs : W.heap.size = w.heap.size + 1 + 1 + 1 := by rw [hW]; simp
  have kW : Keeps w W := by rw [hW]; exact ((keeps_alloc _ _).trans (keeps_alloc _ _)).trans (keeps_alloc _ _)
  have bW : Below w.heap.size w W := by rw [hW]; exact (((Below.refl _ _).alloc (Nat.le_refl _) _).alloc (by simp) _).alloc (by simp; omega) _
  have XW : Box3 W w.heap.size (.slice ga x.globals.length gc) (.slice la x.locks.length lc) (.slice pa x.procs.length pc) := by
    rw [hW]
    exact (Box3.new w _ _ _ _).keep ((keeps_alloc _ _).trans (keeps_alloc _ _))
  have RW : Row3 W (w.heap.size + 1) (.slice none 0 0) (.slice none 0 0) (.slice none 0 0) := by
    rw [hW]
    exact (heap_alloc_old _ _ (by simp)).trans (top_at _ _ _ (by simp))
  have OW : Row3 W (w.heap.size + 1 + 1) (.slice none 0 0) (.slice none 0 0) (.slice none 0 0) := by
    rw [hW]
    exact top_at _ _ _ (by simp)
  have HW := Lib.hid hW
  have HWs := Lib.hid hWs
  have KW := Lib.hid kW
  have BW := Lib.hid bW
  have XW' := Lib.hid XW
  have RW' := Lib.hid RW
  have OW' := Lib.hid OW
  clear h1 h2 h3 hz hW hWs kW bW XW RW OW
  go_enter Try.func9, Try.ntmps9
  go_wp2_with fail
  rw [← HW.out]
  refine (C1.out W KW.out).mono ?_
  rintro e1 w1 ⟨v1, rfl, ho1, hb1⟩
  have HO1 : Hid (NRow w1 (w.heap.size + 1 + 1 + 1) x.globals v1) := by show NRow _ _ _ _; have := ho1; rw [HWs.out] at this; exact this
  obtain ⟨va, vc, rfl⟩ := HO1.out.shape
  have HB1 := Lib.hid hb1
  have X1 := Lib.hid (XW'.out.keep (keeps_below hb1))
  have R1 := Lib.hid (RW'.out.below hb1 (by rw [HWs.out]; omega))
  have O1 := Lib.hid (OW'.out.below hb1 (by rw [HWs.out]; omega))
  have hsw1 : w.heap.size + 1 + 1 + 1 ≤ w1.heap.size := by have := hb1.size; rw [HWs.out] at this; exact this
  obtain ⟨x0, x1, x2⟩ := X1.out
  obtain ⟨o0, o1, o2⟩ := O1.out.cells
  have f0 := O1.out.free 0
  clear ho1 hb1
  go_wp2_with fail
  obtain ⟨W2, hW2⟩ : ∃ W2, W2 = w1.setCell ⟨w.heap.size + 1 + 1, 0, none⟩ (.slice va x.globals.length vc) := ⟨_, rfl⟩
  rw [← hW2]
  have HS2 : Hid (Stays (w.heap.size + 1 + 1 + 1) w1 W2) := by rw [hW2]; exact Stays.set (by omega)
  have B2 : Hid (Below w.heap.size w W2) := by rw [hW2]; exact (BW.out.trans (HB1.out.mono BW.out.size)).setCell (by simp; omega) _
  have O2 : Hid (Row3 W2 (w.heap.size + 1 + 1) (.slice va x.globals.length vc) (.slice none 0 0) (.slice none 0 0)) := by rw [hW2]; exact Row3.put (i := 0) O1.out
  have R2 : Hid (Row3 W2 (w.heap.size + 1) (.slice none 0 0) (.slice none 0 0) (.slice none 0 0)) := by rw [hW2]; exact R1.out.other (by omega)
  have X2 : Hid (Box3 W2 w.heap.size (.slice ga x.globals.length gc) (.slice la x.locks.length lc) (.slice pa x.procs.length pc)) := by
    have h : W2.heap[w.heap.size]? = w1.heap[w.heap.size]? := by rw [hW2, heap_setCell_other _ _ _ _ (by simp; omega)]
    have hc : ∀ j, W2.cell? ⟨w.heap.size, j, none⟩ = w1.cell? ⟨w.heap.size, j, none⟩ := fun j => World.cell?_of_block h
    exact ⟨(hc 0).trans x0, (hc 1).trans x1, (hc 2).trans x2⟩
  have hs2 : W2.heap.size = w1.heap.size := by rw [hW2]; simp
  have M2 := Lib.hid (HO1.out.keep HS2.out)
  clear hW2 x0 x1 x2 o0 o1 o2 f0
  refine (C2.out W2 (keeps_below B2.out)).mono ?_
  rintro e2 w3 ⟨v3, rfl, ho3, hb3⟩
  have HO3 : Hid (NRow w3 (w.heap.size + 1 + 1 + 1) x.locks v3) := World.ownsRow.mono ho3 (by omega)
  obtain ⟨ua, uc, rfl⟩ := HO3.out.shape
  have M3 := Lib.hid (M2.out.keep (Stays.of hb3))
  have HB3 := Lib.hid hb3
  have X3 := Lib.hid (X2.out.keep (keeps_below hb3))
  have R3 := Lib.hid (R2.out.below hb3 (by omega))
  have O3 := Lib.hid (O2.out.below hb3 (by omega))
  have hsw3 : w.heap.size + 1 + 1 + 1 ≤ w3.heap.size := by have := hb3.size; omega
  obtain ⟨x0, x1, x2⟩ := X3.out
  obtain ⟨o0, o1, o2⟩ := O3.out.cells
  have f1 := O3.out.free 1
  clear ho3 hb3
  go_wp2_with fail
  obtain ⟨W4, hW4⟩ : ∃ W4, W4 = w3.setCell ⟨w.heap.size + 1 + 1, 1, none⟩ (.slice ua x.locks.length uc) := ⟨_, rfl⟩
  rw [← hW4]
  have HS4 : Hid (Stays (w.heap.size + 1 + 1 + 1) w3 W4) := by rw [hW4]; exact Stays.set (by omega)
  have B4 : Hid (Below w.heap.size w W4) := by rw [hW4]; exact (B2.out.trans (HB3.out.mono B2.out.size)).setCell (by simp; omega) _
  have O4 : Hid (Row3 W4 (w.heap.size + 1 + 1) (.slice va x.globals.length vc) (.slice ua x.locks.length uc) (.slice none 0 0)) := by rw [hW4]; exact Row3.put (i := 1) O3.out
  have R4 : Hid (Row3 W4 (w.heap.size + 1) (.slice none 0 0) (.slice none 0 0) (.slice none 0 0)) := by rw [hW4]; exact R3.out.other (by omega)
  have X4 : Hid (Box3 W4 w.heap.size (.slice ga x.globals.length gc) (.slice la x.locks.length lc) (.slice pa x.procs.length pc)) := by
    have h : W4.heap[w.heap.size]? = w3.heap[w.heap.size]? := by rw [hW4, heap_setCell_other _ _ _ _ (by simp; omega)]
    have hc : ∀ j, W4.cell? ⟨w.heap.size, j, none⟩ = w3.cell? ⟨w.heap.size, j, none⟩ := fun j => World.cell?_of_block h
    exact ⟨(hc 0).trans x0, (hc 1).trans x1, (hc 2).trans x2⟩
  have hs4 : W4.heap.size = w3.heap.size := by rw [hW4]; simp
  have M4 := Lib.hid (M3.out.keep HS4.out)
  have L4 := Lib.hid (HO3.out.keep HS4.out)
  clear hW4 x0 x1 x2 o0 o1 o2 f1
  refine (C3.out W4 (keeps_below B4.out)).mono ?_
  rintro e3 w5 ⟨v5, rfl, ho5, hb5⟩
  obtain ⟨_, ta, tc, rfl, _⟩ := ho5.free
  have M5 := Lib.hid (M4.out.keep (Stays.of hb5))
  have L5 := Lib.hid (L4.out.keep (Stays.of hb5))
  have HO5 := Lib.hid ho5
  have HB5 := Lib.hid hb5
  have R5 := Lib.hid (R4.out.below hb5 (by omega))
  have O5 := Lib.hid (O4.out.below hb5 (by omega))
  have hsw5 : w.heap.size + 1 + 1 + 1 ≤ w5.heap.size := by have := hb5.size; omega
  obtain ⟨o0, o1, o2⟩ := O5.out.cells
  obtain ⟨r0, r1, r2⟩ := R5.out.cells
  have f2 := O5.out.free 2
  have g0 := R5.out.free 0
  have g1 := R5.out.free 1
  have g2 := R5.out.free 2
  clear ho5 hb5
  go_wp2
  refine bodyPost_ret (v := .agg #[.slice va x.globals.length vc, .slice ua x.locks.length uc, .slice ta x.procs.length tc]) (by simp [results, Try.results9, go_sem, r0, r1, r2]) rfl ⟨_, rfl, ⟨va, vc, ua, uc, ta, tc, rfl, ⟨strs_of_row (base := w.heap.size + 1 + 1 + 1) (M5.out.keep ?_), N1.out⟩, ⟨strs_of_row (base := w.heap.size + 1 + 1 + 1) (L5.out.keep ?_), N2.out⟩, (HO5.out.keep ?_).free⟩, ?_⟩
  · exact (((Stays.set (by omega)).trans (Stays.set (by omega))).trans (Stays.set (by omega))).trans (Stays.set (by omega))
  · exact (((Stays.set (by omega)).trans (Stays.set (by omega))).trans (Stays.set (by omega))).trans (Stays.set (by omega))
  · exact (((Stays.set (by omega)).trans (Stays.set (by omega))).trans (Stays.set (by omega))).trans (Stays.set (by omega))
  · exact ((((B4.out.trans (HB5.out.mono B4.out.size)).setCell (by simp; omega) _).setCell (by simp) _).setCell (by simp) _).setCell (by simp) _
end Go.Proofs.Ytpbhoomhcdljoaa.Trm
/- The laws' comparison of two terms that are the same, walked. Conditions: both lie in memory. -/
namespace Go.Proofs.Ytpbhoomhcdljoaa.Trm
open Go.RowKit Own
def EqOk (t : Tree) : Prop := ∀ (u v : Value) (w : World), Lies w t u → Lies w t v →
    Calls Try.prog 81 #[u, v] w fun e w' => e = .returned (.bool true) ∧ Below w.heap.size w w'
theorem eqS_any (ks : List Tree) (ih : ∀ t, t ∈ ks → EqOk t) (aa bb : Option Addr) (cap dap : Nat) (w : World) (hlen : ks.length ≤ 9223372036854775807) (hk : 0 < ks.length → ∃ g o, aa = some ⟨g, o, none⟩ ∧ LiesL w g o ks) (hk2 : 0 < ks.length → ∃ g o, bb = some ⟨g, o, none⟩ ∧ LiesL w g o ks) :
    Calls Try.prog 88 #[.slice aa ks.length cap, .slice bb ks.length dap] w fun e w' => e = .returned (.bool true) ∧ Below w.heap.size w w' := by
  have IH := Lib.hid ih
  have HK := Lib.hid hk
  have HK2 := Lib.hid hk2
  clear ih hk hk2
  go_enter Try.func88, Try.ntmps88
  go_wp2
  go_loopw [5] (fun i wr => ∃ (k : Nat), k ≤ ks.length ∧ i = .int .i64 k ∧ Hid (Below w.heap.size w wr))
    (fun i _ => ks.length - (intOf i).toNat)
  case atStart => exact ⟨0, Nat.zero_le _, rfl, Below.refl _ _⟩
  case round =>
    obtain ⟨k, hk, rfl, hbe⟩ := hrel
    by_cases hlt : k < ks.length
    · obtain ⟨g, o, rfl, hl⟩ := HK.out (by omega)
      obtain ⟨h, p, rfl, hm⟩ := HK2.out (by omega)
      obtain ⟨ka, kc, c0, c1, c2, c3, hl2⟩ := (hl.keep (keeps_below hbe.out)).at k hlt
      obtain ⟨la, lc, d0, d1, d2, d3, hm2⟩ := (hm.keep (keeps_below hbe.out)).at k hlt
      have C := Lib.hid (fun w hk => IH.out ks[k] (List.getElem_mem hlt) _ _ w (hl2.keep hk) (hm2.keep hk))
      clear hl hl2 hm hm2
      go_wp2
      go_region_with (go_at_call 81; refine (C.out _ (keeps_drew _)).mono ?_; rintro e w1 ⟨rfl, hb1⟩)
      all_goals
        have HB1 := Lib.hid (hbe.out.trans ((below_of_drew hb1).mono hbe.out.size))
        clear hb1
        go_wp2
        go_roundw
        case rel => exact ⟨k + 1, by omega, by go_num, HB1⟩
        case measure => simp [intOf]; omega
    · go_wp2
      go_ret
      exact ⟨rfl, hbe.out⟩
theorem eqTerm_any : ∀ t : Tree, EqOk t := treeInd fun k n s ks ih u v w hu hv => by
  obtain ⟨h1, h2, h3, h4, aa, cap, rfl, h5⟩ := hu
  obtain ⟨_, _, _, _, bb, dap, rfl, h6⟩ := hv
  have C := Lib.hid (fun w hk hk2 => eqS_any ks ih aa bb cap dap w h4 hk hk2)
  have H5 := Lib.hid h5
  have H6 := Lib.hid h6
  clear ih h5 h6
  go_enter Try.func81, Try.ntmps81
  go_wp2_with fail
  refine (C.out _ (fun h => by obtain ⟨g, o, e, hl⟩ := H5.out h; exact ⟨g, o, e, hl.keep ((keeps_alloc _ _).trans (keeps_alloc _ _))⟩) (fun h => by obtain ⟨g, o, e, hl⟩ := H6.out h; exact ⟨g, o, e, hl.keep ((keeps_alloc _ _).trans (keeps_alloc _ _))⟩)).mono ?_
  rintro e w1 ⟨rfl, hb1⟩
  have HB1 := Lib.hid ((((Below.refl w.heap.size w).alloc (Nat.le_refl _) _).alloc (by simp) _).trans (hb1.mono (by simp; omega)))
  clear hb1
  go_wp2
  go_ret
  exact ⟨rfl, HB1.out⟩
end Go.Proofs.Ytpbhoomhcdljoaa.Trm
/- The laws' comparison of two statements that are the same, walked. Conditions: both lie in memory. -/
namespace Go.Proofs.Ytpbhoomhcdljoaa.Trm
open Go.RowKit Own
def EqXOk (x : STree) : Prop := ∀ (u v : Value) (w : World), SLies w x u → SLies w x v →
    Calls Try.prog 73 #[u, v] w fun e w' => e = .returned (.bool true) ∧ Below w.heap.size w w'
set_option maxHeartbeats 1600000 in
theorem eqXS_any (xs : List STree) (ih : ∀ x, x ∈ xs → EqXOk x) (va vb : Value) (w : World) (h1 : SListAt w va xs) (h2 : SListAt w vb xs) :
    Calls Try.prog 60 #[va, vb] w fun e w' => e = .returned (.bool true) ∧ Below w.heap.size w w' := by
  obtain ⟨hlen, aa, cap, rfl, hk⟩ := h1
  obtain ⟨_, bb, dap, rfl, hk2⟩ := h2
  have IH := Lib.hid ih
  have HK := Lib.hid hk
  have HK2 := Lib.hid hk2
  clear ih hk hk2
  go_enter Try.func60, Try.ntmps60
  go_wp2
  go_loopw [5] (fun i wr => ∃ (k : Nat), k ≤ xs.length ∧ i = .int .i64 k ∧ Hid (Below w.heap.size w wr))
    (fun i _ => xs.length - (intOf i).toNat)
  case atStart => exact ⟨0, Nat.zero_le _, rfl, Below.refl _ _⟩
  case round =>
    obtain ⟨k, hk, rfl, hbe⟩ := hrel
    by_cases hlt : k < xs.length
    · obtain ⟨g, o, rfl, hl⟩ := HK.out (by omega)
      obtain ⟨h, p, rfl, hm⟩ := HK2.out (by omega)
      obtain ⟨ta, tc, ba, bc, ea, ec, c0, c1, c2, c3, c4, c5, c6, c7, hl2⟩ := (hl.keep (keeps_below hbe.out)).at k hlt
      obtain ⟨ua, uc, da, dc, fa, fc, d0, d1, d2, d3, d4, d5, d6, d7, hm2⟩ := (hm.keep (keeps_below hbe.out)).at k hlt
      have C : Hid (∀ wx, Below wr.heap.size wr wx → Calls Try.prog 73 #[.agg #[.int .i64 xs[k].kind, .string xs[k].name, .int .i64 xs[k].term.kind, .int .i64 xs[k].term.num, .string xs[k].term.name, .slice ta xs[k].term.kids.length tc, .slice ba xs[k].body.length bc, .slice ea xs[k].els.length ec], .agg #[.int .i64 xs[k].kind, .string xs[k].name, .int .i64 xs[k].term.kind, .int .i64 xs[k].term.num, .string xs[k].term.name, .slice ua xs[k].term.kids.length uc, .slice da xs[k].body.length dc, .slice fa xs[k].els.length fc]] wx fun e w' => e = .returned (.bool true) ∧ Below wr.heap.size wr w') :=
        fun wx hb => (IH.out xs[k] (List.getElem_mem hlt) _ _ wx (hl2.keep (keeps_below hb)) (hm2.keep (keeps_below hb))).mono fun e w' ⟨he, h⟩ => ⟨he, hb.trans (h.mono hb.size)⟩
      have KS : Hid (∀ wx, Below wr.heap.size wr wx → wx.cell? ⟨g, o + k * 8, none⟩ = some (.int .i64 xs[k].kind) ∧ wx.cell? ⟨g, o + k * 8 + 1, none⟩ = some (.string xs[k].name) ∧ wx.cell? ⟨g, o + k * 8 + 2, none⟩ = some (.int .i64 xs[k].term.kind) ∧ wx.cell? ⟨g, o + k * 8 + 3, none⟩ = some (.int .i64 xs[k].term.num) ∧ wx.cell? ⟨g, o + k * 8 + 4, none⟩ = some (.string xs[k].term.name) ∧ wx.cell? ⟨g, o + k * 8 + 5, none⟩ = some (.slice ta xs[k].term.kids.length tc) ∧ wx.cell? ⟨g, o + k * 8 + 6, none⟩ = some (.slice ba xs[k].body.length bc) ∧ wx.cell? ⟨g, o + k * 8 + 7, none⟩ = some (.slice ea xs[k].els.length ec) ∧ wx.cell? ⟨h, p + k * 8, none⟩ = some (.int .i64 xs[k].kind) ∧ wx.cell? ⟨h, p + k * 8 + 1, none⟩ = some (.string xs[k].name) ∧ wx.cell? ⟨h, p + k * 8 + 2, none⟩ = some (.int .i64 xs[k].term.kind) ∧ wx.cell? ⟨h, p + k * 8 + 3, none⟩ = some (.int .i64 xs[k].term.num) ∧ wx.cell? ⟨h, p + k * 8 + 4, none⟩ = some (.string xs[k].term.name) ∧ wx.cell? ⟨h, p + k * 8 + 5, none⟩ = some (.slice ua xs[k].term.kids.length uc) ∧ wx.cell? ⟨h, p + k * 8 + 6, none⟩ = some (.slice da xs[k].body.length dc) ∧ wx.cell? ⟨h, p + k * 8 + 7, none⟩ = some (.slice fa xs[k].els.length fc) ∧ Below wr.heap.size wr wx) := fun wx hb => by
        have hk := keeps_below hb
        exact ⟨hk _ _ c0, hk _ _ c1, hk _ _ c2, hk _ _ c3, hk _ _ c4, hk _ _ c5, hk _ _ c6, hk _ _ c7, hk _ _ d0, hk _ _ d1, hk _ _ d2, hk _ _ d3, hk _ _ d4, hk _ _ d5, hk _ _ d6, hk _ _ d7, hb⟩
      have b0 : Below wr.heap.size wr wr.drew := (Below.refl _ _).drew
      clear hl hl2 hm hm2 c0 c1 c2 c3 c4 c5 c6 c7 d0 d1 d2 d3 d4 d5 d6 d7
      go_wp2_with fail
      go_region_held3 (fun wx => wx.cell? ⟨g, o + k * 8, none⟩ = some (.int .i64 xs[k].kind) ∧ wx.cell? ⟨g, o + k * 8 + 1, none⟩ = some (.string xs[k].name) ∧ wx.cell? ⟨g, o + k * 8 + 2, none⟩ = some (.int .i64 xs[k].term.kind) ∧ wx.cell? ⟨g, o + k * 8 + 3, none⟩ = some (.int .i64 xs[k].term.num) ∧ wx.cell? ⟨g, o + k * 8 + 4, none⟩ = some (.string xs[k].term.name) ∧ wx.cell? ⟨g, o + k * 8 + 5, none⟩ = some (.slice ta xs[k].term.kids.length tc) ∧ wx.cell? ⟨g, o + k * 8 + 6, none⟩ = some (.slice ba xs[k].body.length bc) ∧ wx.cell? ⟨g, o + k * 8 + 7, none⟩ = some (.slice ea xs[k].els.length ec) ∧ wx.cell? ⟨h, p + k * 8, none⟩ = some (.int .i64 xs[k].kind) ∧ wx.cell? ⟨h, p + k * 8 + 1, none⟩ = some (.string xs[k].name) ∧ wx.cell? ⟨h, p + k * 8 + 2, none⟩ = some (.int .i64 xs[k].term.kind) ∧ wx.cell? ⟨h, p + k * 8 + 3, none⟩ = some (.int .i64 xs[k].term.num) ∧ wx.cell? ⟨h, p + k * 8 + 4, none⟩ = some (.string xs[k].term.name) ∧ wx.cell? ⟨h, p + k * 8 + 5, none⟩ = some (.slice ua xs[k].term.kids.length uc) ∧ wx.cell? ⟨h, p + k * 8 + 6, none⟩ = some (.slice da xs[k].body.length dc) ∧ wx.cell? ⟨h, p + k * 8 + 7, none⟩ = some (.slice fa xs[k].els.length fc) ∧ Below wr.heap.size wr wx)
        (exact KS.out _ (by assumption))
        (first
        | (go_at_call 73; (with_reducible refine (C.out _ (by assumption)).mono ?_); rintro e w1 ⟨rfl, b1⟩))
      all_goals
        have HB1 := Lib.hid (hbe.out.trans (b1.mono hbe.out.size))
        clear b1
        go_wp2
        go_roundw
        case rel => exact ⟨k + 1, by omega, by go_num, HB1⟩
        case measure => simp [intOf]; omega
    · go_wp2
      go_ret
      exact ⟨rfl, hbe.out⟩
set_option maxHeartbeats 800000 in
theorem eqStmt_any : ∀ x : STree, EqXOk x := streeInd fun k s t b e ihb ihe u v w hu hv => by
  obtain ⟨h1, h2, h3, h4, ta, tc, ba, bc, ea, ec, rfl, h5, h6, h7⟩ := hu
  obtain ⟨_, _, _, _, ua, uc, da, dc, fa, fc, rfl, i5, i6, i7⟩ := hv
  have CT := Lib.hid (fun w hk => eqTerm_any t _ _ w (h5.keep hk) (i5.keep hk))
  have CB := Lib.hid (fun w hk => eqXS_any b ihb (.slice ba b.length bc) (.slice da b.length dc) w (SListAt.keep ⟨h3, _, _, rfl, h6⟩ hk) (SListAt.keep ⟨h3, _, _, rfl, i6⟩ hk))
  have CE := Lib.hid (fun w hk => eqXS_any e ihe (.slice ea e.length ec) (.slice fa e.length fc) w (SListAt.keep ⟨h4, _, _, rfl, h7⟩ hk) (SListAt.keep ⟨h4, _, _, rfl, i7⟩ hk))
  have X0 := Lib.hid ((Box8.new w (.int .i64 k) (.string s) (.int .i64 t.kind) (.int .i64 t.num) (.string t.name) (.slice ta t.kids.length tc) (.slice ba b.length bc) (.slice ea e.length ec) 74).keep (keeps_alloc _ (.cells #[.int .i64 k, .string s, .int .i64 t.kind, .int .i64 t.num, .string t.name, .slice ua t.kids.length uc, .slice da b.length dc, .slice fa e.length fc] 74)))
  have Y0 := Lib.hid (Box8.new (w.alloc (.cells #[.int .i64 k, .string s, .int .i64 t.kind, .int .i64 t.num, .string t.name, .slice ta t.kids.length tc, .slice ba b.length bc, .slice ea e.length ec] 74)) (.int .i64 k) (.string s) (.int .i64 t.kind) (.int .i64 t.num) (.string t.name) (.slice ua t.kids.length uc) (.slice da b.length dc) (.slice fa e.length fc) 74)
  have hsz0 : (w.alloc (.cells #[.int .i64 k, .string s, .int .i64 t.kind, .int .i64 t.num, .string t.name, .slice ta t.kids.length tc, .slice ba b.length bc, .slice ea e.length ec] 74)).heap.size = w.heap.size + 1 := by simp
  rw [hsz0] at Y0
  clear ihb ihe h1 h2 h5 h6 h7 i5 i6 i7 hsz0
  go_enter Try.func73, Try.ntmps73
  go_wp2_with fail
  refine (CT.out _ ((keeps_alloc _ _).trans (keeps_alloc _ _))).mono ?_
  rintro e1 w1 ⟨rfl, hb1⟩
  have K1 := Lib.hid (((keeps_alloc w _).trans (keeps_alloc _ _)).trans (keeps_below hb1))
  have B1 := Lib.hid (below_box1 (below_box1 hb1))
  have X1 := Lib.hid (X0.out.keep (keeps_below hb1))
  have Y1 := Lib.hid (Y0.out.keep (keeps_below hb1))
  obtain ⟨p0, p1, p2, p3, p4, p5, p6, p7⟩ := X1.out
  obtain ⟨q0, q1, q2, q3, q4, q5, q6, q7⟩ := Y1.out
  clear hb1
  go_wp2_with fail
  refine (CB.out _ K1.out).mono ?_
  rintro e2 w2 ⟨rfl, hb2⟩
  have K2 := Lib.hid (K1.out.trans (keeps_below hb2))
  have B2 := Lib.hid (B1.out.trans (hb2.mono B1.out.size))
  have X2 := Lib.hid (X1.out.keep (keeps_below hb2))
  have Y2 := Lib.hid (Y1.out.keep (keeps_below hb2))
  clear hb2 p0 p1 p2 p3 p4 p5 p6 p7 q0 q1 q2 q3 q4 q5 q6 q7
  obtain ⟨p0, p1, p2, p3, p4, p5, p6, p7⟩ := X2.out
  obtain ⟨q0, q1, q2, q3, q4, q5, q6, q7⟩ := Y2.out
  go_wp2_with fail
  refine (CE.out _ K2.out).mono ?_
  rintro e3 w3 ⟨rfl, hb3⟩
  have B3 := Lib.hid (B2.out.trans (hb3.mono B2.out.size))
  clear hb3
  go_wp2
  go_ret
  exact ⟨rfl, B3.out⟩
end Go.Proofs.Ytpbhoomhcdljoaa.Trm
/- The laws' comparison of two programs that are the same, walked. Conditions: both lie in memory. -/
namespace Go.Proofs.Ytpbhoomhcdljoaa.Trm
open Go.RowKit Own
theorem eqProc_any (p : PrT) (u v : Value) (w : World) (hu : PrLies w p u) (hv : PrLies w p v) :
    Calls Try.prog 48 #[u, v] w fun e w' => e = .returned (.bool true) ∧ Below w.heap.size w w' := by
  obtain ⟨h1, ba, bc, rfl, h6⟩ := hu
  obtain ⟨_, da, dc, rfl, i6⟩ := hv
  have CB := Lib.hid (fun w hk => eqXS_any p.body (fun x _ => eqStmt_any x) (.slice ba p.body.length bc) (.slice da p.body.length dc) w (h6.keep hk) (i6.keep hk))
  have X0 := Lib.hid ((Box2.new w (.string p.name) (.slice ba p.body.length bc) 47).keep (keeps_alloc _ (.cells #[.string p.name, .slice da p.body.length dc] 47)))
  have Y0 := Lib.hid (Box2.new (w.alloc (.cells #[.string p.name, .slice ba p.body.length bc] 47)) (.string p.name) (.slice da p.body.length dc) 47)
  have hsz0 : (w.alloc (.cells #[.string p.name, .slice ba p.body.length bc] 47)).heap.size = w.heap.size + 1 := by simp
  rw [hsz0] at Y0
  clear h1 h6 i6 hsz0
  go_enter Try.func48, Try.ntmps48
  go_wp2_with fail
  refine (CB.out _ ((keeps_alloc _ _).trans (keeps_alloc _ _))).mono ?_
  rintro e1 w1 ⟨rfl, hb1⟩
  have B1 := Lib.hid (below_box1 (below_box1 hb1))
  clear hb1
  go_wp2
  go_ret
  exact ⟨rfl, B1.out⟩
set_option maxHeartbeats 1600000 in
theorem eqPrs_any (xs : List PrT) (va vb : Value) (w : World) (h1 : PrsAt w va xs) (h2 : PrsAt w vb xs) :
    Calls Try.prog 29 #[va, vb] w fun e w' => e = .returned (.bool true) ∧ Below w.heap.size w w' := by
  obtain ⟨hlen, aa, cap, rfl, hk⟩ := h1
  obtain ⟨_, bb, dap, rfl, hk2⟩ := h2
  have HK := Lib.hid hk
  have HK2 := Lib.hid hk2
  clear hk hk2
  go_enter Try.func29, Try.ntmps29
  go_wp2
  go_loopw [5] (fun i wr => ∃ (k : Nat), k ≤ xs.length ∧ i = .int .i64 k ∧ Hid (Below w.heap.size w wr))
    (fun i _ => xs.length - (intOf i).toNat)
  case atStart => exact ⟨0, Nat.zero_le _, rfl, Below.refl _ _⟩
  case round =>
    obtain ⟨k, hk, rfl, hbe⟩ := hrel
    by_cases hlt : k < xs.length
    · obtain ⟨g, o, rfl, hl⟩ := HK.out (by omega)
      obtain ⟨h, p, rfl, hm⟩ := HK2.out (by omega)
      obtain ⟨h0, ba, bc, c0, c1, hl2⟩ := (hl k hlt).keep (keeps_below hbe.out)
      obtain ⟨_, da, dc, d0, d1, hm2⟩ := (hm k hlt).keep (keeps_below hbe.out)
      have C : Hid (∀ wx, Below wr.heap.size wr wx → Calls Try.prog 48 #[.agg #[.string xs[k].name, .slice ba xs[k].body.length bc], .agg #[.string xs[k].name, .slice da xs[k].body.length dc]] wx fun e w' => e = .returned (.bool true) ∧ Below wr.heap.size wr w') :=
        fun wx hb => (eqProc_any xs[k] _ _ wx ⟨h0, ba, bc, rfl, hl2.keep (keeps_below hb)⟩ ⟨h0, da, dc, rfl, hm2.keep (keeps_below hb)⟩).mono fun e w' ⟨he, h⟩ => ⟨he, hb.trans (h.mono hb.size)⟩
      have KS : Hid (∀ wx, Below wr.heap.size wr wx → wx.cell? ⟨g, o + k * 2, none⟩ = some (.string xs[k].name) ∧ wx.cell? ⟨g, o + k * 2 + 1, none⟩ = some (.slice ba xs[k].body.length bc) ∧ wx.cell? ⟨h, p + k * 2, none⟩ = some (.string xs[k].name) ∧ wx.cell? ⟨h, p + k * 2 + 1, none⟩ = some (.slice da xs[k].body.length dc) ∧ Below wr.heap.size wr wx) := fun wx hb => by
        have hk := keeps_below hb
        exact ⟨hk _ _ c0, hk _ _ c1, hk _ _ d0, hk _ _ d1, hb⟩
      have b0 : Below wr.heap.size wr wr.drew := (Below.refl _ _).drew
      clear hl hl2 hm hm2 c0 c1 d0 d1
      go_wp2_with fail
      go_region_held3 (fun wx => wx.cell? ⟨g, o + k * 2, none⟩ = some (.string xs[k].name) ∧ wx.cell? ⟨g, o + k * 2 + 1, none⟩ = some (.slice ba xs[k].body.length bc) ∧ wx.cell? ⟨h, p + k * 2, none⟩ = some (.string xs[k].name) ∧ wx.cell? ⟨h, p + k * 2 + 1, none⟩ = some (.slice da xs[k].body.length dc) ∧ Below wr.heap.size wr wx)
        (exact KS.out _ (by assumption))
        (first
        | (go_at_call 48; (with_reducible refine (C.out _ (by assumption)).mono ?_); rintro e w1 ⟨rfl, b1⟩))
      all_goals
        have HB1 := Lib.hid (hbe.out.trans (b1.mono hbe.out.size))
        clear b1
        go_wp2
        go_roundw
        case rel => exact ⟨k + 1, by omega, by go_num, HB1⟩
        case measure => simp [intOf]; omega
    · go_wp2
      go_ret
      exact ⟨rfl, hbe.out⟩
set_option maxHeartbeats 800000 in
theorem eqProg_any (x : PTree) (u v : Value) (w : World) (hu : PLies w x u) (hv : PLies w x v) :
    Calls Try.prog 11 #[u, v] w fun e w' => e = .returned (.bool true) ∧ Below w.heap.size w w' := by
  obtain ⟨ga, gc, la, lc, pa, pc, rfl, h1, h2, h3⟩ := hu
  obtain ⟨gb, gd, lb, ld, pb, pd, rfl, i1, i2, i3⟩ := hv
  have C1 := Lib.hid (fun w hk => eqStrs_at (.slice ga x.globals.length gc) (.slice gb x.globals.length gd) x.globals w (h1.1.keep hk) (i1.1.keep hk))
  have C2 := Lib.hid (fun w hk => eqStrs_at (.slice la x.locks.length lc) (.slice lb x.locks.length ld) x.locks w (h2.1.keep hk) (i2.1.keep hk))
  have C3 := Lib.hid (fun w hk => eqPrs_any x.procs (.slice pa x.procs.length pc) (.slice pb x.procs.length pd) w (h3.keep hk) (i3.keep hk))
  have X0 := Lib.hid ((Box3.new w (.slice ga x.globals.length gc) (.slice la x.locks.length lc) (.slice pa x.procs.length pc) 30).keep (keeps_alloc _ (.cells #[.slice gb x.globals.length gd, .slice lb x.locks.length ld, .slice pb x.procs.length pd] 30)))
  have Y0 := Lib.hid (Box3.new (w.alloc (.cells #[.slice ga x.globals.length gc, .slice la x.locks.length lc, .slice pa x.procs.length pc] 30)) (.slice gb x.globals.length gd) (.slice lb x.locks.length ld) (.slice pb x.procs.length pd) 30)
  have hsz0 : (w.alloc (.cells #[.slice ga x.globals.length gc, .slice la x.locks.length lc, .slice pa x.procs.length pc] 30)).heap.size = w.heap.size + 1 := by simp
  rw [hsz0] at Y0
  clear h1 h2 h3 i1 i2 i3 hsz0
  go_enter Try.func11, Try.ntmps11
  go_wp2_with fail
  refine (C1.out _ ((keeps_alloc _ _).trans (keeps_alloc _ _))).mono ?_
  rintro e1 w1 ⟨rfl, hb1⟩
  have K1 := Lib.hid (((keeps_alloc w _).trans (keeps_alloc _ _)).trans (keeps_below hb1))
  have B1 := Lib.hid (below_box1 (below_box1 hb1))
  have X1 := Lib.hid (X0.out.keep (keeps_below hb1))
  have Y1 := Lib.hid (Y0.out.keep (keeps_below hb1))
  obtain ⟨p0, p1, p2⟩ := X1.out
  obtain ⟨q0, q1, q2⟩ := Y1.out
  clear hb1
  go_wp2_with fail
  refine (C2.out _ K1.out).mono ?_
  rintro e2 w2 ⟨rfl, hb2⟩
  have K2 := Lib.hid (K1.out.trans (keeps_below hb2))
  have B2 := Lib.hid (B1.out.trans (hb2.mono B1.out.size))
  have X2 := Lib.hid (X1.out.keep (keeps_below hb2))
  have Y2 := Lib.hid (Y1.out.keep (keeps_below hb2))
  clear hb2 p0 p1 p2 q0 q1 q2
  obtain ⟨p0, p1, p2⟩ := X2.out
  obtain ⟨q0, q1, q2⟩ := Y2.out
  go_wp2_with fail
  refine (C3.out _ K2.out).mono ?_
  rintro e3 w3 ⟨rfl, hb3⟩
  have B3 := Lib.hid (B2.out.trans (hb3.mono B2.out.size))
  clear hb3
  go_wp2
  go_ret
  exact ⟨rfl, B3.out⟩
end Go.Proofs.Ytpbhoomhcdljoaa.Trm
/- The law of ProgOk out of two contracts, walked. Conditions: the argument reads; both sides answer the same. -/
namespace Go.Proofs.Ytpbhoomhcdljoaa.FnExactProgOkW
open Go.RowKit Own Trm
set_option maxHeartbeats 800000 in
theorem core (x : PTree) (v : Value) (w : World) (b : Bool) (hl : PLies w x v) (hz : szP x ≤ 1048576)
    (c1 : ∀ v w, POwn w x v → Calls Try.prog 8 #[v] w fun e w' => e = .returned (.bool b) ∧ Below w.heap.size w w')
    (c2 : ∀ v w, POwn w x v → Calls Try.prog 10 #[v] w fun e w' => e = .returned (.bool b) ∧ Below w.heap.size w w') :
    Calls Try.prog 3 #[v] w fun e w' => e = .returned (.bool true) ∧ Below w.heap.size w w' := by
  have C1 := Lib.hid c1
  have C2 := Lib.hid c2
  have CS := Lib.hid (fun y hk => szProg_any x v y 1048576 (by omega) (hl.keep hk))
  have CT := Lib.hid (fun y hk => toProg_any x v y hz (hl.keep hk))
  have CE := Lib.hid (eqProg_any x)
  have HZ := Lib.hid (leftR_yes hz)
  have hz2 : 0 ≤ ((1048576 - szP x : Nat) : Int) := by omega
  obtain ⟨ga, gc, la, lc, pa, pc, rfl⟩ := hl.shape
  have X0 := Lib.hid (Box3.new w (.slice ga x.globals.length gc) (.slice la x.locks.length lc) (.slice pa x.procs.length pc) 25)
  clear c1 c2 hz hl
  go_enter Try.func3, Try.ntmps3
  go_wp2_with fail
  refine (CS.out _ (keeps_alloc _ _)).mono ?_
  rintro e w1 ⟨rfl, hb⟩
  rw [HZ.out]
  have B1 := Lib.hid (below_box1 hb)
  have X1 := Lib.hid (X0.out.keep (keeps_below hb))
  clear hb X0
  obtain ⟨p0, p1, p2⟩ := X1.out
  go_wp2_with fail
  refine (CT.out _ (keeps_below B1.out)).mono ?_
  rintro e w2 ⟨v2, rfl, ho, hb⟩
  have O2 := Lib.hid ho
  obtain ⟨_, _, _, _, _, _, rfl⟩ := ho.lies.shape
  have B2 := Lib.hid (B1.out.trans (hb.mono B1.out.size))
  have X2 := Lib.hid (X1.out.keep (keeps_below hb))
  clear ho hb p0 p1 p2
  go_wp2_with fail
  refine (C1.out _ _ O2.out).mono ?_
  rintro e w3 ⟨rfl, hb⟩
  have B3 := Lib.hid (B2.out.trans (hb.mono B2.out.size))
  have X3 := Lib.hid (X2.out.keep (keeps_below hb))
  clear hb
  obtain ⟨p0, p1, p2⟩ := X3.out
  go_wp2_with fail
  refine (CT.out _ (keeps_below B3.out)).mono ?_
  rintro e w4 ⟨v4, rfl, ho, hb⟩
  obtain ⟨ua, uc, da, dc, fa, fc, rfl⟩ := ho.lies.shape
  have HO4 := Lib.hid ho
  have B4 := Lib.hid (B3.out.trans (hb.mono B3.out.size))
  have X4 := Lib.hid (X3.out.keep (keeps_below hb))
  clear ho hb p0 p1 p2
  have Y4 := Lib.hid (Box3.new w4 (.slice ua x.globals.length uc) (.slice da x.locks.length dc) (.slice fa x.procs.length fc) 30)
  have A4 := Lib.hid (HO4.out.below ((Below.refl w4.heap.size w4).alloc (Nat.le_refl _) (.cells #[.slice ua x.globals.length uc, .slice da x.locks.length dc, .slice fa x.procs.length fc] 30)))
  go_wp2_with fail
  refine (C2.out _ _ A4.out).mono ?_
  rintro e w5 ⟨rfl, hb⟩
  have B5 := Lib.hid ((B4.out.alloc B4.out.size _).trans (hb.mono (Nat.le_trans B4.out.size (by simp))))
  have X5 := Lib.hid (X4.out.keep ((keeps_alloc _ _).trans (keeps_below hb)))
  have Y5 := Lib.hid (Y4.out.keep (keeps_below hb))
  have L5 := Lib.hid (A4.out.lies.keep (keeps_below hb))
  clear hb
  obtain ⟨p0, p1, p2⟩ := X5.out
  obtain ⟨q0, q1, q2⟩ := Y5.out
  cases b
  all_goals
    go_wp2
    go_region_with (first
      | (go_at_call 9; refine (CT.out _ ((keeps_below B5.out).trans (keeps_drew _))).mono ?_; rintro e w7 ⟨v7, rfl, ho, hb⟩; have HO7 := Lib.hid ho.lies; have HB7 := Lib.hid hb; have Y7 := Y5.out.keep ((keeps_drew _).trans (keeps_below hb)); clear ho hb; obtain ⟨r0, r1, r2⟩ := Y7)
      | (go_at_call 11; refine (CE.out _ _ _ (L5.out.keep ((keeps_drew _).trans (keeps_below HB7.out))) HO7.out).mono ?_; rintro e w8 ⟨rfl, hb⟩; have HB8 := Lib.hid hb; clear hb))
    all_goals
      go_wp2
      go_ret
      have B7 := B5.out.trans ((below_of_drew HB7.out).mono B5.out.size)
      exact ⟨rfl, B7.trans (HB8.out.mono B7.size)⟩
theorem big (x : PTree) (v : Value) (w : World) (hl : PLies w x v) (hz : 1048576 < szP x) :
    Calls Try.prog 3 #[v] w fun e w' => e = .returned (.bool true) ∧ Below w.heap.size w w' := by
  have CS := Lib.hid (fun y hk => szProg_any x v y 1048576 (by omega) (hl.keep hk))
  have HZ := Lib.hid (leftR_no (a := 1048576) (n := szP x) (by omega))
  obtain ⟨ga, gc, la, lc, pa, pc, rfl⟩ := hl.shape
  clear hl hz
  go_enter Try.func3, Try.ntmps3
  go_wp2_with fail
  refine (CS.out _ (keeps_alloc _ _)).mono ?_
  rintro e w1 ⟨rfl, hb⟩
  rw [HZ.out]
  have B1 := Lib.hid (below_box1 hb)
  clear hb
  go_wp2
  go_ret
  exact ⟨rfl, B1.out⟩
end Go.Proofs.Ytpbhoomhcdljoaa.FnExactProgOkW
/- The law of ProgOk, walked. Conditions: the argument reads. -/
namespace Go.Proofs.Ytpbhoomhcdljoaa.FnExactProgOkW
open Go.RowKit Own Trm
set_option maxRecDepth 100000 in
theorem walk {H : Type} {enc : TypeId × Value → H} {base b0 : Nat} {spare : Nat → Bool} {held : Bool} {r : Reach} {d : DataW H} {p : List MemPlace} (v : Value) (w : World) (ok : Value.okWide Try.prog w r b0 25 v) (k : DataW.Trod enc Try.prog w base spare held 25 v d p) :
    Calls Try.prog 3 #[v] w fun e w' => e = .returned (.bool true) ∧ Below w.heap.size w w' := by
  obtain ⟨x, hl⟩ := plies_of_Trod ok k
  by_cases hz : szP x ≤ 1048576
  · exact core x v w (okP x) hl hz (fun v w h => specProgOk_any x v w h.lies) (fun v w h => implProgOk_any x v w hz h)
  · exact big x v w hl (by omega)
end Go.Proofs.Ytpbhoomhcdljoaa.FnExactProgOkW
