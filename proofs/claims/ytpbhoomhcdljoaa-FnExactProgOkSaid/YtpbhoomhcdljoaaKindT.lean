/- Terms as things that stand in lists: what makes two of them the same. Without conditions. -/
import Derived.Test.YtpbhoomhcdljoaaListLogic
import Derived.Test.YtpbhoomhcdljoaaTermSame
import Derived.Test.YtpbhoomhcdljoaaTermSize
namespace Go.Proofs.Ytpbhoomhcdljoaa.Trm
open Go.RowKit Own
/-- The same, but for what their kids are. -/
def shal (t u : Tree) : Bool := decide (t.kind = u.kind) && decide (t.num = u.num) && decide (t.name = u.name)
mutual
def kdT : Tree → Nat | .node _ _ _ ks => 1 + kdL ks
def kdL : List Tree → Nat | [] => 0 | t :: ts => kdT t + kdL ts
end
def KT : Lg.Kd Tree where
  sh := shal
  wi t := [t.kids]
  dp := sameT
  nd := kdT
  many := 1
theorem sameT_parts (t u : Tree) : sameT t u = (shal t u && decide (t.kids.length = u.kids.length) && sameL t.kids u.kids) := by
  cases t with
  | node k n s ks => rw [sameT]; rfl
theorem sameL_iff : ∀ {ks us : List Tree}, ks.length = us.length → (sameL ks us = true ↔ ∀ i (h : i < ks.length) (h2 : i < us.length), sameT ks[i] us[i] = true)
  | [], [], _ => by simp [sameL]
  | t :: ts, u :: us, h => by
    rw [sameL, Bool.and_eq_true, sameL_iff (ks := ts) (us := us) (by simpa using h)]
    constructor
    · intro ⟨h1, h2⟩ i hi hi2
      cases i with
      | zero => exact h1
      | succ i => exact h2 i (by simpa using hi) (by simpa using hi2)
    · intro h
      exact ⟨h 0 (by simp) (by simp), fun i hi hi2 => h (i + 1) (by simpa using hi) (by simpa using hi2)⟩
  | [], _ :: _, h => by simp at h
  | _ :: _, [], h => by simp at h
theorem ndL_kt : ∀ l : List Tree, Lg.ndL KT l = kdL l
  | [] => rfl
  | t :: ts => by rw [Lg.ndL, kdL, ndL_kt ts]; rfl
theorem KT_ok : KT.Ok where
  len _ := rfl
  nd t := by
    show kdT t = Lg.wtS KT [t.kids]
    rw [Lg.wtS, Lg.wtS, ndL_kt]
    cases t with
    | node k n s ks => rw [kdT]; rfl
  dp t u := by
    show sameT t u = true ↔ shal t u = true ∧ _
    rw [sameT_parts, Bool.and_eq_true, Bool.and_eq_true]
    constructor
    · intro ⟨⟨h1, h2⟩, h3⟩
      refine ⟨h1, fun j hj hj2 => ?_⟩
      obtain rfl : j = 0 := by have : j < 1 := hj; omega
      exact ⟨of_decide_eq_true h2, (sameL_iff (of_decide_eq_true h2)).1 h3⟩
    · intro ⟨h1, h2⟩
      have h := h2 0 (Nat.zero_lt_one) (Nat.zero_lt_one)
      exact ⟨⟨h1, decide_eq_true h.1⟩, (sameL_iff h.1).2 h.2⟩
  ind P h := treeInd fun k n s ks ih => h _ fun l hl y hy => by
    obtain rfl : l = ks := by simpa [KT, Tree.kids] using hl
    exact ih y hy
mutual
theorem kdT_le : ∀ t : Tree, kdT t ≤ 1 + szT t
  | .node k n s ks => by rw [kdT, szT]; have := kdL_le ks; omega
theorem kdL_le : ∀ ks : List Tree, kdL ks ≤ ks.length + szS ks
  | [] => by simp [kdL]
  | t :: ts => by rw [kdL, szS]; have := kdT_le t; have := kdL_le ts; simp; omega
end
/-- The pair of one-element lists. -/
theorem deep_one {t u : Tree} : Lg.DeepP KT ([t], [u]) ↔ sameT t u = true := by
  constructor
  · intro h; exact h.2 0 (by simp) (by simp)
  · intro h
    refine ⟨rfl, fun i h1 h2 => ?_⟩
    obtain rfl : i = 0 := by simpa using h1
    exact h
end Go.Proofs.Ytpbhoomhcdljoaa.Trm
