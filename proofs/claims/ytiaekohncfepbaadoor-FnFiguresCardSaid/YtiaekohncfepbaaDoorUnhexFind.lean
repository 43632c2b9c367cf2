/- Where a figure stands among the figures, by the library's search, walked. Without conditions. -/
import Derived.Test.YtiaekohncfepbaaDoorChecked
import Derived.Test.YtiaekohncfepbaaDoorUnhexMath
import Derived.Test.YtiaekohncfepbaaDoorFind
import Derived.WalkSmall
import Derived.Outline
namespace Go.Proofs.YtiaekohncfepbaaDoor.Unhexes
open Go.RowKit Own
theorem find_any (b : UInt8) (w : World) :
    Calls Tryd.prog 15 #[.string ⟨#[48, 49, 50, 51, 52, 53, 54, 55, 56, 57, 97, 98, 99, 100, 101, 102]⟩, .int .u8 (b.toNat : Int)] w fun e w' => e = .returned (.int .i64 (valI b)) ∧ w = w' := by
  go_enter Tryd.func15, Tryd.ntmps15
  go_wp2_with fail
  refine (Tryd.stringslite_IndexByte figures (b.toNat : Int) w).mono ?_
  rintro e w' ⟨rfl, rfl⟩
  rw [index_figures]
  go_wp2
  go_ret
  trivial
end Go.Proofs.YtiaekohncfepbaaDoor.Unhexes
