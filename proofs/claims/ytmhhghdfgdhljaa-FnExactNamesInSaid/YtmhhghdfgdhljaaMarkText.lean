/- The text that the laws mark an element by, walked. Conditions: the number is at least 1 and fits an int. -/
import Derived.Test.YtmhhghdfgdhljaaChecked
import Derived.Test.YtmhhghdfgdhljaaDigits
import Derived.Test.YtmhhghdfgdhljaaOwnStr
import Derived.Laws.IdiomStrings
import Derived.Laws.Concat
import Derived.Outline
namespace Go.Proofs.Ytmhhghdfgdhljaa.Own
open Go.RowKit
set_option maxHeartbeats 400000 in
theorem markText_any (m : Nat) (w : World) (h1 : 1 ≤ m) (h2 : m ≤ 9223372036854775807) :
    Calls Try.prog 72 #[.int .i64 (m : Int)] w fun e w' => e = .returned (.string (markB m)) ∧ w.grownBy w' none := by
  go_enter Try.func72, Try.ntmps72
  go_wp2
  go_loopw [0, 3] (fun x o wr => ∃ (n : Nat) (acc : List UInt8), n ≤ 9223372036854775807 ∧ x = .int .i64 (n : Int) ∧ Hid (Wrote m n acc) ∧ o = .string ⟨acc.toArray⟩ ∧ w.grownBy wr none)
    (fun x _ _ => (intOf x).toNat)
  case atStart => exact ⟨m, [], h2, rfl, Wrote.start m, rfl, World.grownBy.refl _ _⟩
  case round =>
    obtain ⟨n, acc, hn, rfl, hr, rfl, hg⟩ := hrel
    have hl := hr.out.length (by omega)
    by_cases hp : 0 < n
    · have hc := run_string_one (P := Try.prog) wr 146 9 5 (digB n) (48 + (n : Int) % 10) (digB_toNat n).symm Try.underlying146 Try.underlying5 Try.underlying9
      go_wp2
      go_roundw
      case rel => exact ⟨n / 10, digB n :: acc, by omega, by go_num, hr.out.step hp, congrArg Value.string (mk_cons _ _), grown_alloc hg _⟩
      case measure => simp [intOf]; omega
    · obtain rfl : n = 0 := by omega
      have hd : acc = digs m := hr.out.done
      subst hd
      go_wp2
      go_ret
      exact ⟨congrArg (fun x => Ending.returned (Value.string x)) (mk_cons _ _), hg⟩
end Go.Proofs.Ytmhhghdfgdhljaa.Own
