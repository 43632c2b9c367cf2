/- When two lists of terms are the same part by part, told by a heap of pairs of lists that are looked at one by one. Without conditions: no Go text is spoken of here. -/
import Derived.Test.YtokmghhnifdcpaaTermSame
import Derived.Test.YtokmghhnifdcpaaTermSize
namespace Go.Proofs.Ytokmghhnifdcpaa.Trm
open Go.RowKit Own
/-- The same, but for what their kids are; there are as many of them. -/
def shal (t u : Tree) : Bool := decide (t.kind = u.kind) && decide (t.num = u.num) && decide (t.name = u.name) && decide (t.kids.length = u.kids.length)
def shalL : List Tree → List Tree → Bool
  | t :: ts, u :: us => shal t u && shalL ts us
  | _, _ => true
def shalP (p : List Tree × List Tree) : Bool := decide (p.1.length = p.2.length) && shalL p.1 p.2
def deepP (p : List Tree × List Tree) : Bool := decide (p.1.length = p.2.length) && sameL p.1 p.2
theorem sameT_parts (t u : Tree) : sameT t u = (shal t u && sameL t.kids u.kids) := by
  cases t with
  | node k n s ks => rw [sameT]; rfl
theorem shalL_drop {ks us : List Tree} {i : Nat} (h : i < ks.length) (h2 : i < us.length) : shalL (ks.drop i) (us.drop i) = (shal ks[i] us[i] && shalL (ks.drop (i + 1)) (us.drop (i + 1))) := by
  rw [List.drop_eq_getElem_cons h, List.drop_eq_getElem_cons h2, shalL]
theorem shalL_end {ks us : List Tree} {i : Nat} (h : ks.length ≤ i) : shalL (ks.drop i) (us.drop i) = true := by
  rw [List.drop_of_length_le h, shalL]; simp
theorem shalL_at : ∀ {ks us : List Tree}, shalL ks us = true → ∀ i (h : i < ks.length) (h2 : i < us.length), shal ks[i] us[i] = true
  | t :: ts, u :: us, h, 0, _, _ => by rw [shalL, Bool.and_eq_true] at h; exact h.1
  | t :: ts, u :: us, h, i + 1, h1, h2 => by rw [shalL, Bool.and_eq_true] at h; exact shalL_at h.2 i (by simpa using h1) (by simpa using h2)
  | [], _, _, i, h1, _ => absurd h1 (by simp)
  | _ :: _, [], _, i, _, h2 => absurd h2 (by simp)
theorem sameL_at : ∀ {ks us : List Tree}, sameL ks us = true → ∀ i (h : i < ks.length) (h2 : i < us.length), sameT ks[i] us[i] = true
  | t :: ts, u :: us, h, 0, _, _ => by rw [sameL, Bool.and_eq_true] at h; exact h.1
  | t :: ts, u :: us, h, i + 1, h1, h2 => by rw [sameL, Bool.and_eq_true] at h; exact sameL_at h.2 i (by simpa using h1) (by simpa using h2)
  | [], _, _, i, h1, _ => absurd h1 (by simp)
  | _ :: _, [], _, i, _, h2 => absurd h2 (by simp)
theorem sameL_all : ∀ {ks us : List Tree}, (∀ i (h : i < ks.length) (h2 : i < us.length), sameT ks[i] us[i] = true) → sameL ks us = true
  | t :: ts, u :: us, h => by
    rw [sameL, Bool.and_eq_true]
    exact ⟨h 0 (by simp) (by simp), sameL_all fun i h1 h2 => h (i + 1) (by simpa using h1) (by simpa using h2)⟩
  | [], _, _ => by simp [sameL]
  | _ :: _, [], _ => by simp [sameL]
theorem shalL_of_same : ∀ {ks us : List Tree}, sameL ks us = true → shalL ks us = true
  | t :: ts, u :: us, h => by
    rw [sameL, Bool.and_eq_true, sameT_parts, Bool.and_eq_true] at h
    rw [shalL, Bool.and_eq_true]
    exact ⟨h.1.1, shalL_of_same h.2⟩
  | [], _, _ => by simp [shalL]
  | _ :: _, [], _ => by simp [shalL]
theorem deep_shal {p : List Tree × List Tree} (h : deepP p = true) : shalP p = true := by
  unfold deepP at h
  unfold shalP
  rw [Bool.and_eq_true] at h ⊢
  exact ⟨h.1, shalL_of_same h.2⟩
abbrev kidP (p : List Tree × List Tree) (i : Nat) (h : i < p.1.length) (h2 : i < p.2.length) : List Tree × List Tree := (p.1[i].kids, p.2[i].kids)
theorem deep_kid {p : List Tree × List Tree} (h : deepP p = true) (i : Nat) (h1 : i < p.1.length) (h2 : i < p.2.length) : deepP (kidP p i h1 h2) = true := by
  unfold deepP at h
  rw [Bool.and_eq_true] at h
  have hs := sameL_at h.2 i h1 h2
  rw [sameT_parts, Bool.and_eq_true] at hs
  unfold shal at hs
  unfold deepP
  rw [Bool.and_eq_true]
  refine ⟨?_, hs.2⟩
  simp only [Bool.and_eq_true] at hs
  exact hs.1.2
/-- Looked at, and all that is within it is met. -/
def Shut1 (ms : List (List Tree × List Tree)) (p : List Tree × List Tree) : Prop := shalP p = true ∧ ∀ i (h : i < p.1.length) (h2 : i < p.2.length), p.1[i].kids = [] ∨ kidP p i h h2 ∈ ms
theorem Shut1.mono {ms : List (List Tree × List Tree)} {p q : List Tree × List Tree} (h : Shut1 ms p) : Shut1 (q :: ms) p := ⟨h.1, fun i h1 h2 => (h.2 i h1 h2).imp id (fun h => List.mem_cons_of_mem _ h)⟩
theorem shut_all {ms : List (List Tree × List Tree)} (hs : ∀ p, p ∈ ms → Shut1 ms p) : ∀ (t u : Tree), shal t u = true → (t.kids = [] ∨ (t.kids, u.kids) ∈ ms) → sameT t u = true :=
  treeInd fun k n s ks ih u h1 h2 => by
    rw [sameT_parts, h1, Bool.true_and]
    rcases h2 with h2 | h2
    · rw [h2, sameL]; simp
    · have hp := hs _ h2
      unfold Shut1 shalP at hp
      obtain ⟨ha, hb⟩ := hp
      rw [Bool.and_eq_true] at ha
      exact sameL_all fun i hi hi2 => ih _ (List.getElem_mem hi) _ (shalL_at ha.2 i hi hi2) (hb i hi hi2)
theorem shut_deep {ms : List (List Tree × List Tree)} (hs : ∀ p, p ∈ ms → Shut1 ms p) (p : List Tree × List Tree) (h : p ∈ ms) : deepP p = true := by
  obtain ⟨h1, h2⟩ := hs p h
  unfold shalP at h1
  rw [Bool.and_eq_true] at h1
  unfold deepP
  rw [Bool.and_eq_true]
  exact ⟨h1.1, sameL_all fun i hi hi2 => shut_all hs _ _ (shalL_at h1.2 i hi hi2) (h2 i hi hi2)⟩
/-- What is met, and what of it is still to be looked at. -/
structure Gh (root : List Tree × List Tree) (ms es : List (List Tree × List Tree)) : Prop where
  rt : root ∈ ms
  sound : deepP root = true → ∀ p, p ∈ ms → deepP p = true
  shut : ∀ p, p ∈ ms → p ∈ es ∨ Shut1 ms p
  sub : ∀ p, p ∈ es → p ∈ ms
structure Gi (root : List Tree × List Tree) (ms es : List (List Tree × List Tree)) (c : List Tree × List Tree) (i : Nat) : Prop where
  rt : root ∈ ms
  sound : deepP root = true → ∀ p, p ∈ ms → deepP p = true
  shut : ∀ p, p ∈ ms → p ∈ es ∨ Shut1 ms p ∨ p = c
  sub : ∀ p, p ∈ es → p ∈ ms
  cur : c ∈ ms
  shal : shalP c = true
  kids : ∀ j (h : j < c.1.length) (h2 : j < c.2.length), j < i → c.1[j].kids = [] ∨ kidP c j h h2 ∈ ms
theorem Gh.start (r : List Tree × List Tree) : Gh r [r] [r] := ⟨by simp, fun h p hp => by simp at hp; rw [hp]; exact h, fun p hp => .inl hp, fun p hp => hp⟩
theorem Gh.no {r c : List Tree × List Tree} {ms es : List (List Tree × List Tree)} (h : Gh r ms (es ++ [c])) (hc : shalP c = false) : deepP r = false := by
  cases hr : deepP r with
  | false => rfl
  | true =>
    have := deep_shal (h.sound hr c (h.sub c (by simp)))
    rw [hc] at this; cases this
theorem Gh.begin {r c : List Tree × List Tree} {ms es : List (List Tree × List Tree)} (h : Gh r ms (es ++ [c])) (hc : shalP c = true) : Gi r ms es c 0 :=
  ⟨h.rt, h.sound, fun p hp => by
    rcases h.shut p hp with h1 | h1
    · rcases List.mem_append.1 h1 with h2 | h2
      · exact .inl h2
      · exact .inr (.inr (by simpa using h2))
    · exact .inr (.inl h1), fun p hp => h.sub p (by simp [hp]), h.sub c (by simp), hc, fun j _ _ h => by omega⟩
theorem Gi.skip {r c : List Tree × List Tree} {ms es : List (List Tree × List Tree)} {i : Nat} (h : Gi r ms es c i) (hk : ∀ (h1 : i < c.1.length) (h2 : i < c.2.length), c.1[i].kids = [] ∨ kidP c i h1 h2 ∈ ms) : Gi r ms es c (i + 1) :=
  ⟨h.rt, h.sound, h.shut, h.sub, h.cur, h.shal, fun j h1 h2 hj => by
    rcases Nat.lt_or_ge j i with h3 | h3
    · exact h.kids j h1 h2 h3
    · obtain rfl : j = i := by omega
      exact hk h1 h2⟩
theorem Gi.push {r c : List Tree × List Tree} {ms es : List (List Tree × List Tree)} {i : Nat} (h : Gi r ms es c i) (h1 : i < c.1.length) (h2 : i < c.2.length) : Gi r (kidP c i h1 h2 :: ms) (es ++ [kidP c i h1 h2]) c (i + 1) :=
  ⟨by simp [h.rt], fun hr p hp => by
    rcases List.mem_cons.1 hp with rfl | hp
    · exact deep_kid (h.sound hr c h.cur) i h1 h2
    · exact h.sound hr p hp, fun p hp => by
    rcases List.mem_cons.1 hp with rfl | hp
    · exact .inl (by simp)
    · rcases h.shut p hp with h3 | h3 | h3
      · exact .inl (by simp [h3])
      · exact .inr (.inl h3.mono)
      · exact .inr (.inr h3), fun p hp => by
    rcases List.mem_append.1 hp with h3 | h3
    · exact List.mem_cons_of_mem _ (h.sub p h3)
    · simp at h3; rw [h3]; simp, List.mem_cons_of_mem _ h.cur, h.shal, fun j h3 h4 hj => by
    rcases Nat.lt_or_ge j i with h5 | h5
    · exact (h.kids j h3 h4 h5).imp id (fun h => List.mem_cons_of_mem _ h)
    · obtain rfl : j = i := by omega
      exact .inr (by simp)⟩
theorem Gi.done {r c : List Tree × List Tree} {ms es : List (List Tree × List Tree)} {i : Nat} (h : Gi r ms es c i) (hi : c.1.length ≤ i) : Gh r ms es :=
  ⟨h.rt, h.sound, fun p hp => by
    rcases h.shut p hp with h3 | h3 | h3
    · exact .inl h3
    · exact .inr h3
    · rw [h3]; exact .inr ⟨h.shal, fun j h1 h2 => h.kids j h1 h2 (by omega)⟩, h.sub⟩
theorem Gh.yes {r : List Tree × List Tree} {ms : List (List Tree × List Tree)} (h : Gh r ms []) : deepP r = true :=
  shut_deep (fun p hp => (h.shut p hp).resolve_left (by simp)) r h.rt
mutual
/-- How many terms there are. -/
def ndT : Tree → Nat | .node _ _ _ ks => 1 + ndL ks
def ndL : List Tree → Nat | [] => 0 | t :: ts => ndT t + ndL ts
end
theorem ndL_drop {ks : List Tree} {i : Nat} (h : i < ks.length) : ndL (ks.drop i) = 1 + ndL ks[i].kids + ndL (ks.drop (i + 1)) := by
  rw [List.drop_eq_getElem_cons h, ndL]
  cases ks[i] with
  | node k n s k2 => rw [ndT]; rfl
mutual
theorem ndT_le : ∀ t : Tree, ndT t ≤ 1 + szT t
  | .node k n s ks => by rw [ndT, szT]; have := ndL_le ks; omega
theorem ndL_le : ∀ ks : List Tree, ndL ks ≤ ks.length + szS ks
  | [] => by simp [ndL]
  | t :: ts => by rw [ndL, szS]; have := ndT_le t; have := ndL_le ts; simp; omega
end
def wtL : List (List Tree × List Tree) → Nat
  | [] => 0
  | p :: r => ndL p.1 + 1 + wtL r
theorem wtL_append : ∀ (a b : List (List Tree × List Tree)), wtL (a ++ b) = wtL a + wtL b
  | [], b => by simp [wtL]
  | p :: r, b => by simp only [List.cons_append, wtL, wtL_append r b]; omega
theorem wtL_len : ∀ a : List (List Tree × List Tree), a.length ≤ wtL a
  | [] => by simp
  | p :: r => by have := wtL_len r; simp only [List.length_cons, wtL]; omega
theorem least_is {p : Nat → Prop} : ∀ n, p n → ∃ m, p m ∧ ∀ k, p k → m ≤ k := by
  intro n
  induction n using Nat.strongRecOn with
  | ind n ih =>
    intro h
    by_cases hc : ∃ k, k < n ∧ p k
    · obtain ⟨k, hk, hp⟩ := hc
      exact ih k hk hp
    · exact ⟨n, h, fun k hk => Nat.le_of_not_lt fun hl => hc ⟨k, hl, hk⟩⟩
open Classical in
/-- The least number of a kind. -/
noncomputable def leastN (p : Nat → Prop) : Nat := if h : ∃ m, p m ∧ ∀ k, p k → m ≤ k then Classical.choose h else 0
theorem leastN_le {p : Nat → Prop} {m : Nat} (h : p m) : leastN p ≤ m := by
  have hx := least_is m h
  unfold leastN
  rw [dif_pos hx]
  exact (Classical.choose_spec hx).2 m h
theorem leastN_at {p : Nat → Prop} (h : ∃ n, p n) : p (leastN p) := by
  obtain ⟨n, hn⟩ := h
  have hx := least_is n hn
  unfold leastN
  rw [dif_pos hx]
  exact (Classical.choose_spec hx).1
end Go.Proofs.Ytokmghhnifdcpaa.Trm
