/- The model's l07Twice, walked. Conditions: the list lies in memory. -/
import Derived.Test.YtofmccihehalcaaUnkHas
import Derived.Deep.RegionWith
namespace Go.Proofs.Ytofmccihehalcaa.Trm
open Go.RowKit Own
theorem specTwice_any (ns : List ByteArray) (nv : Value) (w : World) (h : StrsAt w ns nv) (hcap : CapOk nv ns.length) :
    Calls Try.prog 35 #[nv] w fun e w' => e = .returned (.bool (twiceB ns)) ∧ Below w.heap.size w w' := by
  obtain ⟨a, c, rfl, hc⟩ := hcap
  obtain ⟨a2, c2, e2, h1, h2⟩ := id h
  simp at e2
  obtain ⟨rfl, rfl⟩ := e2
  have HH := Lib.hid h
  have HN := Lib.hid h2
  have HL := Lib.hid h1
  have HTY : Hid (∀ i (hi : i < ns.length), ns[i] ∈ ns.take i → twiceB ns = true) := fun i hi h => twiceB_yes h
  have HTN : Hid ((∀ i (hi : i < ns.length), ¬ ns[i] ∈ ns.take i) → twiceB ns = false) := twiceB_no
  generalize twiceB ns = tb at HTY HTN ⊢
  clear h1 h2 h
  go_enter Try.func35, Try.ntmps35
  go_wp2
  go_loopw [3] (fun i wr => ∃ j : Nat, j ≤ ns.length ∧ i = .int .i64 j ∧ Hid (∀ k (hk : k < ns.length), k < j → ¬ ns[k] ∈ ns.take k) ∧ Hid (Below w.heap.size w wr))
    (fun i _ => ns.length - (intOf i).toNat)
  case atStart => exact ⟨0, Nat.zero_le _, rfl, fun _ _ h => by omega, Below.refl _ _⟩
  case round =>
    obtain ⟨j, hj, rfl, hno, hbe⟩ := hrel
    have hL := HL.out
    by_cases hlt : j < ns.length
    · obtain ⟨g, o, rfl, h3⟩ := HN.out (by omega)
      have c0 := keeps_below hbe.out _ _ (h3 j hlt)
      have c0d : wr.drew.cell? ⟨g, o + j, none⟩ = some (.string ns[j]) := c0
      have hjc : (j : Int) ≤ (c : Int) := by omega
      have hj0 : (0 : Int) ≤ (j : Int) := by omega
      clear h3
      by_cases he : ns[j] ∈ ns.take j
      · have C := Lib.hid (fun wx (hb : Below wr.heap.size wr wx) => specHasL_any (ns.take j) (.slice (some ⟨g, o, none⟩) j c) ns[j] wx ((strsAt_take HH.out hj).keep (keeps_below (hbe.out.trans (hb.mono hbe.out.size)))) true ⟨fun _ => he, fun _ => rfl⟩)
        have HT : Hid (tb = true) := HTY.out j hlt he
        have hb0 : Below wr.heap.size wr wr.drew := (Below.refl _ _).drew
        clear he
        go_wp2_with fail
        go_region_with (first
          | (go_at_call 53; refine (C.out _ (by assumption)).mono ?_; rintro e w2 ⟨rfl, rfl⟩))
        all_goals
          go_wp2_with fail
          go_ret
          exact ⟨by rw [HT.out]; rfl, hbe.out.drew⟩
      · have C := Lib.hid (fun wx (hb : Below wr.heap.size wr wx) => specHasL_any (ns.take j) (.slice (some ⟨g, o, none⟩) j c) ns[j] wx ((strsAt_take HH.out hj).keep (keeps_below (hbe.out.trans (hb.mono hbe.out.size)))) false ⟨fun h => (Bool.noConfusion h), fun h => absurd h he⟩)
        have HNO : Hid (∀ k (hk : k < ns.length), k < j + 1 → ¬ ns[k] ∈ ns.take k) := fun k hk h => by
          rcases Nat.lt_or_ge k j with h' | h'
          · exact hno.out k hk h'
          · have : k = j := by omega
            subst this; exact he
        have hb0 : Below wr.heap.size wr wr.drew := (Below.refl _ _).drew
        clear he
        go_wp2_with fail
        go_region_with (first
          | (go_at_call 53; refine (C.out _ (by assumption)).mono ?_; rintro e w2 ⟨rfl, rfl⟩))
        all_goals
          go_wp2_with fail
          go_roundw
          case rel => exact ⟨j + 1, by omega, by go_num, HNO.out, hbe.out.drew⟩
          case measure => simp [intOf]; omega
    · have HF : Hid (tb = false) := HTN.out (fun k hk => hno.out k hk (by omega))
      go_wp2
      go_ret
      exact ⟨by rw [HF.out]; rfl, hbe.out⟩
end Go.Proofs.Ytofmccihehalcaa.Trm
