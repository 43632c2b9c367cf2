/- Lists of texts and of numbers that lie in memory, as arguments and as what a call made. Without conditions. -/
import Derived.Test.YtabpbmifegfmgaaTrees
import Derived.Test.YtabpbmifegfmgaaStrCells
import Derived.Deep.Slices
import Derived.OpenShut
import Derived.OwnWalk
namespace Go.Proofs.Ytabpbmifegfmgaa.Trm
open Go.RowKit Own
/-- A list of texts, of numbers, that lies in memory. -/
def StrsAt (w : World) (ns : List ByteArray) (v : Value) : Prop := ∃ a cap, v = .slice a ns.length cap ∧ ns.length ≤ 9223372036854775807 ∧ (0 < ns.length → ∃ g o, a = some ⟨g, o, none⟩ ∧ ∀ i (h : i < ns.length), w.cell? ⟨g, o + i, none⟩ = some (.string ns[i]))
def IntsAt (w : World) (ns : List Int) (v : Value) : Prop := ∃ a cap, v = .slice a ns.length cap ∧ ns.length ≤ 9223372036854775807 ∧ (∀ x, x ∈ ns → InI x) ∧ (0 < ns.length → ∃ g o, a = some ⟨g, o, none⟩ ∧ ∀ i (h : i < ns.length), w.cell? ⟨g, o + i, none⟩ = some (.int .i64 ns[i]))
theorem StrsAt.keep {w w' : World} {ns : List ByteArray} {v : Value} (h : StrsAt w ns v) (hk : Keeps w w') : StrsAt w' ns v := by
  obtain ⟨a, cap, rfl, h1, h2⟩ := h
  refine ⟨a, cap, rfl, h1, fun hp => ?_⟩
  obtain ⟨g, o, rfl, h3⟩ := h2 hp
  exact ⟨g, o, rfl, fun i hi => hk _ _ (h3 i hi)⟩
theorem IntsAt.keep {w w' : World} {ns : List Int} {v : Value} (h : IntsAt w ns v) (hk : Keeps w w') : IntsAt w' ns v := by
  obtain ⟨a, cap, rfl, h1, h0, h2⟩ := h
  refine ⟨a, cap, rfl, h1, h0, fun hp => ?_⟩
  obtain ⟨g, o, rfl, h3⟩ := h2 hp
  exact ⟨g, o, rfl, fun i hi => hk _ _ (h3 i hi)⟩
theorem strs_of_row {w : World} {base : Nat} {e : TypeId} {v : Value} {n : Nat} {ss : List ByteArray} (h : w.ownsRow base e 1 v n (strV ss)) : StrsAt w ss v := by
  have hl := row_len h
  have hm := row_small h
  unfold maxLen at hm
  obtain ⟨a, c, rfl, ha⟩ := row_shape h
  subst hl
  refine ⟨a, c, rfl, hm, fun hp => ?_⟩
  obtain ⟨g, rfl⟩ := ha hp
  exact ⟨g, 0, rfl, fun i hi => by rw [Nat.zero_add]; exact row_cell h i hi⟩
def intV (xs : List Int) : List Value := xs.map (Value.int .i64)
theorem ints_of_row {w : World} {base : Nat} {e : TypeId} {v : Value} {n : Nat} {ss : List Int} (h : w.ownsRow base e 1 v n (intV ss)) (hi : ∀ x, x ∈ ss → InI x) : IntsAt w ss v := by
  have hl : ss.length = n := by have := h.1; simpa [intV] using this
  have hm := row_small h
  unfold maxLen at hm
  obtain ⟨a, c, rfl, ha⟩ := row_shape h
  subst hl
  refine ⟨a, c, rfl, hm, hi, fun hp => ?_⟩
  obtain ⟨g, rfl⟩ := ha hp
  refine ⟨g, 0, rfl, fun i hi => ?_⟩
  rw [Nat.zero_add, h.cellAt i (by omega)]
  simp [intV, hi]
end Go.Proofs.Ytabpbmifegfmgaa.Trm
