/- The program's isNoTerm, walked. Conditions: the term lies in memory. -/
import Derived.Test.YtmhhghdfgdhljaaChecked
import Derived.Test.YtmhhghdfgdhljaaTermSame
import Derived.Test.YtmhhghdfgdhljaaZeroT
import Derived.WalkSmall
import Derived.Outline
namespace Go.Proofs.Ytmhhghdfgdhljaa.Trm
open Go.RowKit Own
def aloneZ (t : Tree) : Bool := decide (t.kind = 0) && (decide (t.num = 0) && decide (t.name.size = 0))
theorem sameT_zT (t : Tree) : sameT t zT = (aloneZ t && decide (t.kids.length = 0)) := by
  cases t with
  | node k n s ks =>
    rw [sameT]
    show (decide (k = 0) && decide (n = 0) && decide (s = ⟨#[]⟩) && decide (ks.length = 0) && sameL ks []) = _
    have e : sameL ks [] = true := by cases ks <;> rfl
    rw [e]
    have hs : s = ⟨#[]⟩ ↔ s.size = 0 := ⟨fun h => by rw [h]; rfl, fun h => ByteArray.ext (Array.eq_empty_of_size_eq_zero h)⟩
    by_cases h1 : s.size = 0 <;> by_cases h2 : ks = [] <;> by_cases h3 : k = 0 <;> by_cases h4 : n = 0 <;> simp [aloneZ, Tree.kind, Tree.num, Tree.name, Tree.kids, hs, h1, h2, h3, h4]
theorem implAloneZ_any (t : Tree) (a : Option Addr) (c : Nat) (w : World) :
    Calls Try.prog 143 #[.agg #[.int .i64 t.kind, .int .i64 t.num, .string t.name, .slice a t.kids.length c], .agg #[.int .i64 0, .int .i64 0, .string ⟨#[]⟩, .slice none 0 0]] w fun e w' => e = .returned (.bool (aloneZ t)) ∧ Below w.heap.size w w' := by
  obtain ⟨k, n, s, ks⟩ := t
  have HR : Hid (aloneZ (.node k n s ks) = (decide (k = 0) && (decide (n = 0) && decide (s.size = 0)))) := rfl
  simp only [Tree.kind, Tree.num, Tree.name, Tree.kids]
  generalize aloneZ (.node k n s ks) = rr at HR ⊢
  by_cases hk : k = 0
  · subst hk
    by_cases hn : n = 0
    · subst hn
      by_cases hs : s.size = 0
      · have hq := empty_true hs
        have HS := Lib.hid hs
        clear hs
        go_enter Try.func143, Try.ntmps143
        go_wp2
        go_ret
        exact ⟨ret_b (by rw [HR.out, decide_eq_true HS.out]; rfl), ((Below.refl _ _).alloc (Nat.le_refl _) _).alloc (by simp) _⟩
      · have hq := empty_false hs
        have HS := Lib.hid hs
        clear hs
        go_enter Try.func143, Try.ntmps143
        go_wp2
        go_ret
        exact ⟨ret_b (by rw [HR.out, decide_eq_false HS.out]; rfl), ((Below.refl _ _).alloc (Nat.le_refl _) _).alloc (by simp) _⟩
    · have hq : (n == 0) = false := by simp [hn]
      have HN := Lib.hid hn
      clear hn
      go_enter Try.func143, Try.ntmps143
      go_wp2
      go_ret
      exact ⟨ret_b (by rw [HR.out]; simp [HN.out]), ((Below.refl _ _).alloc (Nat.le_refl _) _).alloc (by simp) _⟩
  · have hq : (k == 0) = false := by simp [hk]
    have HK := Lib.hid hk
    clear hk
    go_enter Try.func143, Try.ntmps143
    go_wp2
    go_ret
    exact ⟨ret_b (by rw [HR.out]; simp [HK.out]), ((Below.refl _ _).alloc (Nat.le_refl _) _).alloc (by simp) _⟩
theorem implNoTerm_any (t : Tree) (a : Option Addr) (c : Nat) (w : World) (hl : Lies w t (.agg #[.int .i64 t.kind, .int .i64 t.num, .string t.name, .slice a t.kids.length c])) :
    Calls Try.prog 129 #[.agg #[.int .i64 t.kind, .int .i64 t.num, .string t.name, .slice a t.kids.length c]] w fun e w' => e = .returned (.bool (sameT t zT)) ∧ Below w.heap.size w w' := by
  have CA := Lib.hid (fun w => implAloneZ_any t a c w)
  have hlen := hl.parts.2.2.2.1
  have HR := Lib.hid (sameT_zT t)
  have X0 := Lib.hid (Box4.new w (.int .i64 t.kind) (.int .i64 t.num) (.string t.name) (.slice a t.kids.length c) 47)
  clear hl
  generalize sameT t zT = rr at HR
  generalize aloneZ t = ra at CA HR
  go_enter Try.func129, Try.ntmps129
  go_wp2_with fail
  refine (CA.out _).mono ?_
  rintro e w1 ⟨rfl, hb⟩
  have HB := Lib.hid (below_box1 hb)
  obtain ⟨p0, p1, p2, p3⟩ := X0.out.keep (keeps_below hb)
  clear hb
  cases ra with
  | false =>
    have HF : Hid (rr = false) := by show _ = _; rw [HR.out]; rfl
    go_wp2
    go_ret
    exact ⟨ret_b (by rw [HF.out]), HB.out⟩
  | true =>
    by_cases h0 : t.kids.length = 0
    · have HF : Hid (rr = true) := by show _ = _; rw [HR.out]; simp [h0]
      have h1 : ((t.kids.length : Int) == 0) = true := by simp [h0]
      clear h0
      go_wp2
      go_ret
      exact ⟨ret_b (by rw [HF.out]), HB.out⟩
    · have HF : Hid (rr = false) := by show _ = _; rw [HR.out]; simp [h0]
      have h1 : ((t.kids.length : Int) == 0) = false := by rw [beq_eq_false_iff_ne]; omega
      clear h0
      go_wp2
      go_ret
      exact ⟨ret_b (by rw [HF.out]), HB.out⟩
end Go.Proofs.Ytmhhghdfgdhljaa.Trm
