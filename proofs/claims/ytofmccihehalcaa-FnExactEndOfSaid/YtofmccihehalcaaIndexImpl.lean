/- The library's search for a text in a row of texts, walked. Conditions: the row lies in memory. -/
import Derived.Test.YtofmccihehalcaaChecked
import Derived.Test.YtofmccihehalcaaLists
import Derived.Test.YtofmccihehalcaaTermSame
import Derived.OwnWalk
import Derived.WalkSmall
import Derived.Outline
namespace Go.Proofs.Ytofmccihehalcaa.Trm
open Go.RowKit Own
/-- Where a text stands first. -/
def IdxI (ns : List ByteArray) (s : ByteArray) (x : Int) : Prop := (∃ (i : Nat) (h : i < ns.length), x = i ∧ ns[i] = s ∧ ∀ j (hj : j < ns.length), j < i → ns[j] ≠ s) ∨ (x = -1 ∧ ∀ j (hj : j < ns.length), ns[j] ≠ s)
theorem implIndex_any (ns : List ByteArray) (s : ByteArray) (nv : Value) (w : World) (hn : StrsAt w ns nv) :
    Calls Try.prog 43 #[nv, .string s] w fun e w' => ∃ x, e = .returned (.int .i64 x) ∧ IdxI ns s x ∧ w = w' := by
  obtain ⟨na, nc, rfl, hn1, hn2⟩ := hn
  have HN := Lib.hid hn2
  clear hn2
  go_enter Try.func43, Try.ntmps43
  go_wp2
  go_loopw [8] (fun i wr => ∃ (j : Nat), j ≤ ns.length ∧ i = .int .i64 j ∧ Hid (∀ i (h : i < ns.length), i < j → ns[i] ≠ s) ∧ wr = w)
    (fun i _ => ns.length - (intOf i).toNat)
  case atStart => exact ⟨0, Nat.zero_le _, rfl, fun i _ h => by omega, rfl⟩
  case round =>
    obtain ⟨j, hj, rfl, hne, rfl⟩ := hrel
    by_cases hlt : j < ns.length
    · obtain ⟨g, o, rfl, hcell⟩ := HN.out (by omega)
      have c0 := hcell j hlt
      clear hcell
      by_cases he : ns[j] = s
      · have HX : Hid (IdxI ns s j) := .inl ⟨j, hlt, rfl, he, hne.out⟩
        rw [he] at c0
        clear he
        go_wp2
        go_ret
        exact ⟨_, rfl, HX.out, rfl⟩
      · have hq := bytes_ne (fun e => he e.symm)
        have HS : Hid (∀ i (h : i < ns.length), i < j + 1 → ns[i] ≠ s) := fun i h hi => by
          rcases Nat.lt_or_ge i j with h1 | h1
          · exact hne.out i h h1
          · obtain rfl : i = j := by omega
            exact he
        clear he
        go_wp2
        go_roundw
        case rel => exact ⟨j + 1, by omega, by go_num, HS, by first | rfl | trivial⟩
        case measure => simp [intOf]; omega
    · have HX : Hid (IdxI ns s (-1)) := .inr ⟨rfl, fun j h => hne.out j h (by omega)⟩
      go_wp2
      go_ret
      exact ⟨_, rfl, HX.out, rfl⟩
end Go.Proofs.Ytofmccihehalcaa.Trm
