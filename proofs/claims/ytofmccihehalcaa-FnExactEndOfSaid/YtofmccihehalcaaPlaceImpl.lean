/- PlaceOf of both sides, walked. Conditions: the row lies in memory. -/
import Derived.Test.YtofmccihehalcaaPlaceI
namespace Go.Proofs.Ytofmccihehalcaa.Trm
open Go.RowKit Own
theorem specPlace_any (ns : List ByteArray) (s : ByteArray) (nv : Value) (w : World) (hn : StrsAt w ns nv) :
    Calls Try.prog 36 #[nv, .string s] w fun e w' => ∃ x, e = .returned (.int .i64 x) ∧ IdxI ns s x ∧ w = w' := by
  obtain ⟨na, nc, rfl, hn1, hn2⟩ := hn
  have HN := Lib.hid hn2
  clear hn2
  go_enter Try.func36, Try.ntmps36
  go_wp2
  go_loopw [5] (fun i wr => ∃ (j : Nat), j ≤ ns.length ∧ i = .int .i64 j ∧ Hid (∀ i (h : i < ns.length), i < j → ns[i] ≠ s) ∧ wr = w)
    (fun i _ => ns.length - (intOf i).toNat)
  case atStart => exact ⟨0, Nat.zero_le _, rfl, fun i _ h => by omega, rfl⟩
  case round =>
    obtain ⟨j, hj, rfl, hne, rfl⟩ := hrel
    by_cases hlt : j < ns.length
    · obtain ⟨g, o, rfl, hcell⟩ := HN.out (by omega)
      have c0 := hcell j hlt
      clear hcell
      by_cases he : ns[j] = s
      · have HX : Hid (IdxI ns s j) := .inl ⟨j, hlt, rfl, he, hne.out⟩
        rw [he] at c0
        clear he
        go_wp2
        go_ret
        exact ⟨_, rfl, HX.out, rfl⟩
      · have hq := bytes_ne he
        have HS : Hid (∀ i (h : i < ns.length), i < j + 1 → ns[i] ≠ s) := fun i h hi => by
          rcases Nat.lt_or_ge i j with h1 | h1
          · exact hne.out i h h1
          · obtain rfl : i = j := by omega
            exact he
        clear he
        go_wp2
        go_roundw
        case rel => exact ⟨j + 1, by omega, by go_num, HS, by first | rfl | trivial⟩
        case measure => simp [intOf]; omega
    · have HX : Hid (IdxI ns s (-1)) := .inr ⟨rfl, fun j h => hne.out j h (by omega)⟩
      go_wp2
      go_ret
      exact ⟨_, rfl, HX.out, rfl⟩
end Go.Proofs.Ytofmccihehalcaa.Trm
