/- The program's SameStmts, walked. Conditions: both lists lie in rows that are not frozen; the first has at most 2 to the 20 statements, kids and bytes. -/
import Derived.Test.YtpbhoomhcdljoaaSameListsX
namespace Go.Proofs.Ytpbhoomhcdljoaa.Trm
open Go.RowKit Own
theorem implSameStmts_any (xs ys : List STree) (v u : Value) (w : World) (hz : xs.length + szXS xs ≤ 1048576) (h1 : SListF w v xs) (h2 : SListF w u ys) :
    Calls Try.prog 50 #[v, u] w fun e w' => e = .returned (.bool (sameXL xs ys)) ∧ Below w.heap.size w w' := by
  have hwt : Lg.wt KX [(xs, ys)] ≤ 3000000 := by
    have := kdXL_le xs
    have := cntXS_le xs
    have h2 := ndL_kx xs
    simp only [Lg.wt]
    rw [h2]
    omega
  have C := Lib.hid (SpX.implLists_any (xs, ys) v u w hwt h1 h2 (show szXS xs ≤ 1048576 by omega))
  have hdp := Lib.hid (deepX (xs, ys))
  obtain ⟨_, aa, ac, rfl, _⟩ := h1
  obtain ⟨_, ba, bc, rfl, _⟩ := h2
  clear hwt hz
  go_enter Try.func50, Try.ntmps50
  go_wp2_with fail
  refine C.out.mono ?_
  rintro e w1 ⟨⟨c, rfl, hc⟩, hb⟩
  have HE : Hid (c = sameXL xs ys) := by
    show _ = _
    have h := hc.trans hdp.out
    cases c <;> cases hs : sameXL xs ys <;> simp [hs] at h ⊢
  have HB1 := Lib.hid hb
  clear hc hb
  go_wp2
  go_ret
  exact ⟨ret_b HE.out, HB1.out⟩
end Go.Proofs.Ytpbhoomhcdljoaa.Trm
