/- Rows of texts that a call owns: how they look, their cells. Without conditions. -/
import Derived.Test.YtabpbmifegfmgaaOwnStr
namespace Go.Proofs.Ytabpbmifegfmgaa.Own
open Go.RowKit
def strV (ss : List ByteArray) : List Value := ss.map Value.string
/-- What a row that is owned looks like. -/
theorem row_shape {w : World} {base : Nat} {e : TypeId} {size : Nat} {v : Value} {n : Nat} {xs : List Value} (h : w.ownsRow base e size v n xs) :
    ∃ a c, v = .slice a n c ∧ (0 < n → ∃ g, a = some ⟨g, 0, none⟩) := by
  rcases h.2 with ⟨rfl, rfl⟩ | ⟨g, cap, cur, rfl, _⟩
  · exact ⟨none, 0, rfl, fun h => by omega⟩
  · exact ⟨_, cap, rfl, fun _ => ⟨g, rfl⟩⟩
theorem row_len {w : World} {base : Nat} {e : TypeId} {v : Value} {n : Nat} {ss : List ByteArray} (h : w.ownsRow base e 1 v n (strV ss)) : ss.length = n := by have := h.1; simpa [strV] using this
theorem row_small {w : World} {base : Nat} {e : TypeId} {size : Nat} {v : Value} {n : Nat} {xs : List Value} (h : w.ownsRow base e size v n xs) : n ≤ maxLen := by
  rcases h.2 with ⟨_, rfl⟩ | ⟨g, cap, cur, _, _, _, h1, h2, _⟩
  · exact Nat.zero_le _
  · omega
theorem row_cell {w : World} {base : Nat} {e : TypeId} {g n c : Nat} {ss : List ByteArray} (h : w.ownsRow base e 1 (.slice (some ⟨g, 0, none⟩) n c) n (strV ss)) (k : Nat) (hk : k < ss.length) : w.cell? ⟨g, k, none⟩ = some (.string ss[k]) := by
  have hl := row_len h
  rw [h.cellAt k (by omega)]
  simp [strV, hk]

end Go.Proofs.Ytabpbmifegfmgaa.Own
