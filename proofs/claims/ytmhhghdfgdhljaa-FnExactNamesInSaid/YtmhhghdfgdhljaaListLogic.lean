/- When two lists are the same part by part, told by a heap of pairs of lists that are looked at one by one, each once. Without conditions: no Go text is spoken of here. -/
import Derived.Lib.Hide
namespace Go.Proofs.Ytmhhghdfgdhljaa.Lg
/-- What stands in lists, and the lists within it. -/
structure Kd (α : Type) where
  sh : α → α → Bool
  wi : α → List (List α)
  dp : α → α → Bool
  nd : α → Nat
  many : Nat
variable {α : Type} (K : Kd α)
def DeepP (p : List α × List α) : Prop := p.1.length = p.2.length ∧ ∀ i (h : i < p.1.length) (h2 : i < p.2.length), K.dp p.1[i] p.2[i] = true
def ShalP (p : List α × List α) : Prop := p.1.length = p.2.length ∧ ∀ i (h : i < p.1.length) (h2 : i < p.2.length), K.sh p.1[i] p.2[i] = true
def ndL : List α → Nat
  | [] => 0
  | x :: xs => K.nd x + ndL xs
def wtS : List (List α) → Nat
  | [] => 0
  | l :: r => 1 + ndL K l + wtS r
structure Kd.Ok : Prop where
  len : ∀ x, (K.wi x).length = K.many
  nd : ∀ x, K.nd x = wtS K (K.wi x)
  dp : ∀ x y, K.dp x y = true ↔ (K.sh x y = true ∧ ∀ j (h : j < (K.wi x).length) (h2 : j < (K.wi y).length), DeepP K ((K.wi x)[j], (K.wi y)[j]))
  ind : ∀ P : α → Prop, (∀ x, (∀ l, l ∈ K.wi x → ∀ y, y ∈ l → P y) → P x) → ∀ x, P x
variable {K}
theorem deep_shal (ok : K.Ok) {p : List α × List α} (h : DeepP K p) : ShalP K p := ⟨h.1, fun i h1 h2 => ((ok.dp _ _).1 (h.2 i h1 h2)).1⟩
/-- A pair of lists within the elements at i. -/
def kid (K : Kd α) (p : List α × List α) (i j : Nat) : List α × List α :=
  ((p.1[i]?.bind fun x => (K.wi x)[j]?).getD [], (p.2[i]?.bind fun x => (K.wi x)[j]?).getD [])
theorem kid_eq {p : List α × List α} {i j : Nat} (h1 : i < p.1.length) (h2 : i < p.2.length) (h3 : j < (K.wi p.1[i]).length) (h4 : j < (K.wi p.2[i]).length) : kid K p i j = ((K.wi p.1[i])[j], (K.wi p.2[i])[j]) := by
  unfold kid
  rw [List.getElem?_eq_getElem h1, List.getElem?_eq_getElem h2]
  simp only [Option.bind_some]
  rw [List.getElem?_eq_getElem h3, List.getElem?_eq_getElem h4]
  rfl
theorem deep_kid (ok : K.Ok) {p : List α × List α} (h : DeepP K p) {i j : Nat} (h1 : i < p.1.length) (hj : j < K.many) : DeepP K (kid K p i j) := by
  have h2 : i < p.2.length := by rw [← h.1]; exact h1
  have h3 : j < (K.wi p.1[i]).length := by rw [ok.len]; exact hj
  have h4 : j < (K.wi p.2[i]).length := by rw [ok.len]; exact hj
  rw [kid_eq h1 h2 h3 h4]
  exact ((ok.dp _ _).1 (h.2 i h1 h2)).2 j h3 h4
/-- Looked at, and all within it is met or to be looked at. -/
def Shut (K : Kd α) (ms es : List (List α × List α)) (p : List α × List α) : Prop := ShalP K p ∧ ∀ i j, i < p.1.length → j < K.many → kid K p i j ∈ ms ∨ kid K p i j ∈ es
theorem Shut.imp {ms es ms' es' : List (List α × List α)} {p : List α × List α} (h : Shut K ms es p) (hi : ∀ q, q ∈ ms ∨ q ∈ es → q ∈ ms' ∨ q ∈ es') : Shut K ms' es' p := ⟨h.1, fun i j h1 h2 => hi _ (h.2 i j h1 h2)⟩
theorem shut_deep (ok : K.Ok) {ms : List (List α × List α)} (hs : ∀ p, p ∈ ms → Shut K ms [] p) (p : List α × List α) (h : p ∈ ms) : DeepP K p := by
  have key : ∀ x : α, ∀ p, p ∈ ms → ∀ i (h1 : i < p.1.length) (h2 : i < p.2.length), p.1[i] = x → K.dp p.1[i] p.2[i] = true := by
    refine ok.ind _ fun x ih p hp i h1 h2 hx => ?_
    have sp := hs p hp
    refine (ok.dp _ _).2 ⟨sp.1.2 i h1 h2, fun j h3 h4 => ?_⟩
    have hm := (sp.2 i j h1 (by rw [← ok.len]; exact h3)).resolve_right (by simp)
    rw [kid_eq h1 h2 h3 h4] at hm
    have sk := hs _ hm
    refine ⟨sk.1.1, fun i' h5 h6 => ?_⟩
    exact ih ((K.wi p.1[i])[j]) (by rw [← hx]; exact List.getElem_mem h3) _ (List.getElem_mem h5) _ hm i' h5 h6 rfl
  exact ⟨(hs p h).1.1, fun i h1 h2 => key _ p h i h1 h2 rfl⟩
structure Gh (K : Kd α) (root : List α × List α) (ms es : List (List α × List α)) : Prop where
  rt : root ∈ ms ∨ root ∈ es
  sound : DeepP K root → ∀ p, p ∈ es → DeepP K p
  shut : ∀ p, p ∈ ms → Shut K ms es p
structure Gi (K : Kd α) (root : List α × List α) (ms es : List (List α × List α)) (c : List α × List α) (i j : Nat) : Prop where
  rt : root ∈ ms ∨ root ∈ es
  sound : DeepP K root → (∀ p, p ∈ es → DeepP K p) ∧ DeepP K c
  shut : ∀ p, p ∈ ms → p = c ∨ Shut K ms es p
  shal : ShalP K c
  kids : ∀ i' j', i' < c.1.length → j' < K.many → (i' < i ∨ (i' = i ∧ j' < j)) → kid K c i' j' ∈ ms ∨ kid K c i' j' ∈ es
theorem Gh.start (r : List α × List α) : Gh K r [] [r] := ⟨.inr (by simp), fun h p hp => by simp at hp; rw [hp]; exact h, fun p hp => by cases hp⟩
theorem mem_snoc {es : List (List α × List α)} {c q : List α × List α} : q ∈ es ++ [c] ↔ q ∈ es ∨ q = c := by simp
theorem Gh.skip {r c : List α × List α} {ms es : List (List α × List α)} (h : Gh K r ms (es ++ [c])) (hc : c ∈ ms) : Gh K r ms es := by
  have hi : ∀ q, q ∈ ms ∨ q ∈ es ++ [c] → q ∈ ms ∨ q ∈ es := fun q hq => by
    rcases hq with hq | hq
    · exact .inl hq
    · rcases mem_snoc.1 hq with hq | rfl
      · exact .inr hq
      · exact .inl hc
  exact ⟨hi _ h.rt, fun hr p hp => h.sound hr p (mem_snoc.2 (.inl hp)), fun p hp => (h.shut p hp).imp hi⟩
theorem Gh.no (ok : K.Ok) {r c : List α × List α} {ms es : List (List α × List α)} (h : Gh K r ms (es ++ [c])) (hc : ¬ ShalP K c) : ¬ DeepP K r := fun hr => hc (deep_shal ok (h.sound hr c (mem_snoc.2 (.inr rfl))))
theorem Gh.begin {r c : List α × List α} {ms es : List (List α × List α)} (h : Gh K r ms (es ++ [c])) (hc : ShalP K c) : Gi K r (c :: ms) es c 0 0 := by
  have hi : ∀ q, q ∈ ms ∨ q ∈ es ++ [c] → q ∈ c :: ms ∨ q ∈ es := fun q hq => by
    rcases hq with hq | hq
    · exact .inl (List.mem_cons_of_mem _ hq)
    · rcases mem_snoc.1 hq with hq | rfl
      · exact .inr hq
      · exact .inl (List.mem_cons_self ..)
  refine ⟨hi _ h.rt, fun hr => ⟨fun p hp => h.sound hr p (mem_snoc.2 (.inl hp)), h.sound hr c (mem_snoc.2 (.inr rfl))⟩, fun p hp => ?_, hc, fun i' j' _ _ hlt => by omega⟩
  rcases List.mem_cons.1 hp with rfl | hp
  · exact .inl rfl
  · exact .inr ((h.shut p hp).imp hi)
theorem Gi.push (ok : K.Ok) {r c : List α × List α} {ms es : List (List α × List α)} {i j : Nat} (h : Gi K r ms es c i j) (h1 : i < c.1.length) (hj : j < K.many) : Gi K r ms (es ++ [kid K c i j]) c i (j + 1) := by
  have hi : ∀ q, q ∈ ms ∨ q ∈ es → q ∈ ms ∨ q ∈ es ++ [kid K c i j] := fun q hq => hq.imp id (fun hq => mem_snoc.2 (.inl hq))
  refine ⟨hi _ h.rt, fun hr => ⟨fun p hp => ?_, (h.sound hr).2⟩, fun p hp => (h.shut p hp).imp id (fun hs => hs.imp hi), h.shal, fun i' j' a b hlt => ?_⟩
  · rcases mem_snoc.1 hp with hp | rfl
    · exact (h.sound hr).1 p hp
    · exact deep_kid ok (h.sound hr).2 h1 hj
  · by_cases he : i' = i ∧ j' = j
    · obtain ⟨rfl, rfl⟩ := he
      exact .inr (mem_snoc.2 (.inr rfl))
    · exact hi _ (h.kids i' j' a b (by omega))
theorem Gi.next {r c : List α × List α} {ms es : List (List α × List α)} {i j : Nat} (h : Gi K r ms es c i j) (hj : K.many ≤ j) : Gi K r ms es c (i + 1) 0 :=
  ⟨h.rt, h.sound, h.shut, h.shal, fun i' j' a b hlt => h.kids i' j' a b (by omega)⟩
theorem Gi.done {r c : List α × List α} {ms es : List (List α × List α)} {i : Nat} (h : Gi K r ms es c i 0) (hi : c.1.length ≤ i) : Gh K r ms es :=
  ⟨h.rt, fun hr => (h.sound hr).1, fun p hp => by
    rcases h.shut p hp with rfl | hs
    · exact ⟨h.shal, fun i' j' a b => h.kids i' j' a b (by omega)⟩
    · exact hs⟩
theorem Gh.yes (ok : K.Ok) {r : List α × List α} {ms : List (List α × List α)} (h : Gh K r ms []) : DeepP K r :=
  shut_deep ok h.shut r (h.rt.resolve_right (by simp))
/-- How much is to be done. -/
def wt (K : Kd α) : List (List α × List α) → Nat
  | [] => 0
  | p :: r => 1 + ndL K p.1 + wt K r
theorem wt_snoc : ∀ (es : List (List α × List α)) (c : List α × List α), wt K (es ++ [c]) = wt K es + (1 + ndL K c.1)
  | [], c => by simp [wt]
  | p :: r, c => by simp only [List.cons_append, wt, wt_snoc r c]; omega
theorem wt_len : ∀ es : List (List α × List α), es.length ≤ wt K es
  | [] => by simp [wt]
  | p :: r => by have := wt_len r; simp only [List.length_cons, wt]; omega
theorem ndL_drop {l : List α} {i : Nat} (h : i < l.length) : ndL K (l.drop i) = K.nd l[i] + ndL K (l.drop (i + 1)) := by rw [List.drop_eq_getElem_cons h, ndL]
theorem ndL_end {l : List α} {i : Nat} (h : l.length ≤ i) : ndL K (l.drop i) = 0 := by rw [List.drop_of_length_le h, ndL]
theorem wtS_drop {l : List (List α)} {i : Nat} (h : i < l.length) : wtS K (l.drop i) = 1 + ndL K l[i] + wtS K (l.drop (i + 1)) := by rw [List.drop_eq_getElem_cons h, wtS]
theorem wtS_end {l : List (List α)} {i : Nat} (h : l.length ≤ i) : wtS K (l.drop i) = 0 := by rw [List.drop_of_length_le h, wtS]
theorem least_is {p : Nat → Prop} : ∀ n, p n → ∃ m, p m ∧ ∀ k, p k → m ≤ k := by
  intro n
  induction n using Nat.strongRecOn with
  | ind n ih =>
    intro h
    by_cases hc : ∃ k, k < n ∧ p k
    · obtain ⟨k, hk, hp⟩ := hc
      exact ih k hk hp
    · exact ⟨n, h, fun k hk => Nat.le_of_not_lt fun hl => hc ⟨k, hl, hk⟩⟩
open Classical in
/-- The least number of a kind. -/
noncomputable def leastN (p : Nat → Prop) : Nat := if h : ∃ m, p m ∧ ∀ k, p k → m ≤ k then Classical.choose h else 0
theorem leastN_le {p : Nat → Prop} {m : Nat} (h : p m) : leastN p ≤ m := by
  have hx := least_is m h
  unfold leastN
  rw [dif_pos hx]
  exact (Classical.choose_spec hx).2 m h
theorem leastN_at {p : Nat → Prop} (h : ∃ n, p n) : p (leastN p) := by
  obtain ⟨n, hn⟩ := h
  have hx := least_is n hn
  unfold leastN
  rw [dif_pos hx]
  exact (Classical.choose_spec hx).1
end Go.Proofs.Ytmhhghdfgdhljaa.Lg
