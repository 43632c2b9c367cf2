/- The model's names that are not there, walked: whether a name is among others. Conditions: the lists lie in memory. -/
import Derived.Test.YtofmccihehalcaaUnkMath
import Derived.Test.YtofmccihehalcaaTermSame
import Derived.Deep.AppendLies
namespace Go.Proofs.Ytofmccihehalcaa.Trm
open Go.RowKit Own
theorem strsAt_take {w : World} {ns : List ByteArray} {a : Option Addr} {n c j : Nat} (h : StrsAt w ns (.slice a n c)) (hj : j ≤ ns.length) : StrsAt w (ns.take j) (.slice a j c) := by
  obtain ⟨a2, c2, e, h1, h2⟩ := h
  simp at e
  obtain ⟨rfl, rfl, rfl⟩ := e
  have hl : (ns.take j).length = j := by rw [List.length_take]; omega
  refine ⟨a, c, by rw [hl], by omega, fun hp => ?_⟩
  obtain ⟨g, o, rfl, h3⟩ := h2 (by omega)
  exact ⟨g, o, rfl, fun i hi => by rw [List.getElem_take]; exact h3 i (by omega)⟩
theorem strsAt_row {w : World} {base : Nat} {ov : Value} {ss : List ByteArray} {n : Nat} (hn : n = ss.length) (h : w.ownsRow base 9 1 ov n (strV ss)) : StrsAt w ss ov := by
  subst hn
  have hm := row_small h
  unfold maxLen at hm
  obtain ⟨a, c, rfl, ha⟩ := row_shape h
  refine ⟨a, c, rfl, by omega, fun hp => ?_⟩
  obtain ⟨g, rfl⟩ := ha hp
  exact ⟨g, 0, rfl, fun i hi => by rw [Nat.zero_add]; exact row_cell h i hi⟩
/-- Whether a name is among those that lie there. -/
theorem specHasL_any (ns : List ByteArray) (nv : Value) (s : ByteArray) (w : World) (h : StrsAt w ns nv) (r : Bool) (hr : r = true ↔ s ∈ ns) :
    Calls Try.prog 53 #[nv, .string s] w fun e w' => e = .returned (.bool r) ∧ w = w' := by
  obtain ⟨a, c, rfl, h1, h2⟩ := h
  have HN := Lib.hid h2
  have HR := Lib.hid hr
  have HL := Lib.hid h1
  clear h1 h2 hr
  go_enter Try.func53, Try.ntmps53
  go_wp2
  go_loopw [5] (fun i wr => ∃ j : Nat, j ≤ ns.length ∧ i = .int .i64 j ∧ Hid (∀ k (hk : k < ns.length), k < j → ns[k] ≠ s) ∧ w = wr)
    (fun i _ => ns.length - (intOf i).toNat)
  case atStart => exact ⟨0, Nat.zero_le _, rfl, fun _ _ h => by omega, rfl⟩
  case round =>
    obtain ⟨j, hj, rfl, hno, rfl⟩ := hrel
    have hL := HL.out
    by_cases hlt : j < ns.length
    · obtain ⟨g, o, rfl, h3⟩ := HN.out (by omega)
      have c0 := h3 j hlt
      clear h3
      by_cases he : ns[j] = s
      · have hq : (ns[j].toList == s.toList) = true := by rw [he]; simp
        have HT : Hid (r = true) := HR.out.2 (by rw [← he]; exact List.getElem_mem hlt)
        clear he
        go_wp2
        go_ret
        exact ⟨by rw [HT.out]; rfl, rfl⟩
      · have hq := bytes_ne he
        have HNO : Hid (∀ k (hk : k < ns.length), k < j + 1 → ns[k] ≠ s) := fun k hk h => by
          rcases Nat.lt_or_ge k j with h' | h'
          · exact hno.out k hk h'
          · have : k = j := by omega
            subst this; exact he
        clear he
        go_wp2
        go_roundw
        case rel => exact ⟨j + 1, by omega, by go_num, HNO.out, trivial⟩
        case measure => simp [intOf]; omega
    · have HF : Hid (r = false) := by
        show _ = _
        rw [Bool.eq_false_iff]
        intro h
        obtain ⟨k, hk, e⟩ := List.getElem_of_mem (HR.out.1 h)
        exact hno.out k hk (by omega) e
      go_wp2
      go_ret
      exact ⟨by rw [HF.out]; rfl, rfl⟩
open Classical in
noncomputable def hasB (ns : List ByteArray) (s : ByteArray) : Bool := decide (s ∈ ns)
theorem hasB_iff (ns : List ByteArray) (s : ByteArray) : hasB ns s = true ↔ s ∈ ns := by unfold hasB; simp
theorem addU_yes {known acc : List ByteArray} {s : ByteArray} (h : s ∈ known ∨ s ∈ acc) : addU known acc s = acc := by unfold addU; rw [if_pos h]
theorem addU_no {known acc : List ByteArray} {s : ByteArray} (h : ¬ (s ∈ known ∨ s ∈ acc)) : addU known acc s = acc ++ [s] := by unfold addU; rw [if_neg h]
theorem addU_le (known acc : List ByteArray) (s : ByteArray) : (addU known acc s).length ≤ acc.length + 1 := by unfold addU; split <;> simp
/-- A list whose room is what Go asks. -/
def CapOk (v : Value) (n : Nat) : Prop := ∃ a c, v = .slice a n c ∧ n ≤ c
theorem cap_row {w : World} {base : Nat} {e : TypeId} {size n : Nat} {v : Value} {xs : List Value} (h : w.ownsRow base e size v n xs) : CapOk v n := by
  rcases h.2 with ⟨rfl, rfl⟩ | ⟨g, cap, cur, rfl, _, _, hc, _⟩
  · exact ⟨none, 0, rfl, Nat.le_refl _⟩
  · exact ⟨_, cap, rfl, hc⟩
end Go.Proofs.Ytofmccihehalcaa.Trm
