/- The laws' small helpers over lists of texts and over a code, walked. Conditions: the lists lie in memory. -/
import Derived.Test.YtegcebjfcmcgmaaChecked
import Derived.Test.YtegcebjfcmcgmaaLists
import Derived.Test.YtegcebjfcmcgmaaListArg
import Derived.Test.YtegcebjfcmcgmaaTermSame
import Derived.Test.YtegcebjfcmcgmaaCursor
import Derived.BigQuiet
import Derived.WalkSmall
import Derived.Outline
namespace Go.Proofs.Ytegcebjfcmcgmaa.Trm
open Go.RowKit Own Cur Go.ChangeShapes Go.WideShapes Go.Deep
set_option maxRecDepth 100000
open Classical in
noncomputable def hasB (ss : List ByteArray) (s : ByteArray) : Bool := if s ∈ ss then true else false
theorem hasB_yes {ss : List ByteArray} {s : ByteArray} (h : s ∈ ss) : hasB ss s = true := by unfold hasB; rw [if_pos h]
theorem hasB_no {ss : List ByteArray} {s : ByteArray} (h : ¬ s ∈ ss) : hasB ss s = false := by unfold hasB; rw [if_neg h]
theorem hasText_any (ss : List ByteArray) (s : ByteArray) (v : Value) (w : World) (hl : StrsAt w ss v) :
    Calls Try.prog 14 #[v, .string s] w fun e w' => e = .returned (.bool (hasB ss s)) ∧ w = w' := by
  obtain ⟨a, cap, rfl, h1, h2⟩ := hl
  have HK := Lib.hid h2
  clear h2
  go_enter Try.func14, Try.ntmps14
  go_wp2
  go_loop [5] (fun i => ∃ j : Nat, j ≤ ss.length ∧ i = .int .i64 j ∧ Hid (∀ k (h : k < ss.length), k < j → ss[k] ≠ s))
    (fun i => ss.length - (intOf i).toNat)
  case atStart => exact ⟨0, Nat.zero_le _, rfl, fun k _ h => by omega⟩
  case round =>
    obtain ⟨j, hj, rfl, hne⟩ := hrel
    by_cases hlt : j < ss.length
    · obtain ⟨g, o, rfl, hc⟩ := HK.out (by omega)
      have c0 := hc j hlt
      clear hc
      by_cases he : ss[j] = s
      · have HS : Hid (hasB ss s = true) := hasB_yes (he ▸ List.getElem_mem hlt)
        rw [he] at c0
        clear he
        go_wp2
        go_ret
        exact ⟨ret_b HS.out.symm, rfl⟩
      · have hq := bytes_ne he
        have HS : Hid (∀ k (h : k < ss.length), k < j + 1 → ss[k] ≠ s) := fun k h hk => by
          rcases Nat.lt_or_ge k j with h1 | h1
          · exact hne.out k h h1
          · obtain rfl : k = j := by omega
            exact he
        clear he
        go_wp2
        go_round
        case rel => exact ⟨j + 1, by omega, by go_num, HS⟩
        case measure => simp [intOf]; omega
    · have HS : Hid (hasB ss s = false) := by
        refine hasB_no fun hm => ?_
        obtain ⟨k, hk, e⟩ := List.mem_iff_getElem.1 hm
        exact hne.out k hk (by omega) e
      go_wp2
      go_ret
      exact ⟨ret_b HS.out.symm, rfl⟩
set_option maxHeartbeats 400000 in
theorem sameTexts_at (u v : Value) (ss : List ByteArray) (w : World) (h1 : StrsAt w ss u) (h2 : StrsAt w ss v) :
    Calls Try.prog 17 #[u, v] w fun e w' => e = .returned (.bool true) ∧ Below w.heap.size w w' := by
  obtain ⟨a1, c1, rfl, hm, ha1⟩ := h1
  obtain ⟨a2, c2, rfl, _, ha2⟩ := h2
  have HA1 := Lib.hid ha1
  have HA2 := Lib.hid ha2
  clear ha1 ha2
  go_enter Try.func17, Try.ntmps17
  go_wp2
  go_loopw [5] (fun i wr => ∃ k m : Nat, k ≤ ss.length ∧ i = .int .i64 k ∧ wr = w.drewN m)
    (fun i _ => ss.length - (intOf i).toNat)
  case atStart => exact ⟨0, 0, Nat.zero_le _, rfl, (World.drewN_zero _).symm⟩
  case round =>
    obtain ⟨k, m, hk, rfl, rfl⟩ := hrel
    by_cases hlt : k < ss.length
    · obtain ⟨g1, o1, rfl, q1⟩ := HA1.out (by omega)
      obtain ⟨g2, o2, rfl, q2⟩ := HA2.out (by omega)
      have d1 := q1 k hlt
      have d2 := q2 k hlt
      clear q1 q2
      go_wp2
      go_quiet (fail)
      go_wp2
      go_roundw
      case rel => exact ⟨k + 1, m + nq, by omega, by go_num, rfl⟩
      case measure => simp [intOf]; omega
    · go_wp2
      go_ret
      exact ⟨rfl, below_drewN (Below.refl _ _) _⟩
theorem big_no (bs : List UInt8) (v : Value) (w : World) (hb : BytesAt w bs v) (hl : bs.length ≤ 1048576) :
    Calls Try.prog 9 #[v] w fun e w' => e = .returned (.bool false) ∧ w = w' := by
  obtain ⟨a, cap, rfl, h1, _⟩ := hb
  go_enter Try.func9, Try.ntmps9
  go_wp2
  go_ret
  exact ⟨ret_b (decide_eq_false (by omega)), rfl⟩
theorem big_yes (bs : List UInt8) (v : Value) (w : World) (hb : BytesAt w bs v) (hl : 1048576 < bs.length) :
    Calls Try.prog 9 #[v] w fun e w' => e = .returned (.bool true) ∧ w = w' := by
  obtain ⟨a, cap, rfl, h1, _⟩ := hb
  go_enter Try.func9, Try.ntmps9
  go_wp2
  go_ret
  exact ⟨ret_b (decide_eq_true (by omega)), rfl⟩
section
variable {H : Type} {enc : TypeId × Value → H} {w : World} {base : Nat} {spare : Nat → Bool} {held : Bool}
/-- A code that came in. -/
theorem bytes_of_Trod {r : Reach} {b0 : Nat} {v : Value} {d : DataW H} {p : List MemPlace} (hv : Value.okWide Try.prog w r b0 22 v) (h : DataW.Trod enc Try.prog w base spare held 22 v d p) : ∃ bs : List UInt8, BytesAt w bs v := by
  obtain ⟨a0, l0, c0, rfl⟩ := okWide_slice Try.underlying22 hv
  obtain ⟨fuel, hf⟩ := h
  obtain ⟨a, len, cap, e, hm, hc⟩ := cells_of_slice Try.underlying22 (by kernel_rfl) hf
  have e2 : Value.slice a0 l0 c0 = .slice a len cap := by
    have : [Value.slice a0 l0 c0] = [Value.slice a len cap] := e
    injection this
  rw [e2]
  obtain ⟨ss, hl, hp⟩ := pick_list (fun i (b : UInt8) => ∀ g o, a = some ⟨g, o, none⟩ → w.cell? ⟨g, o + i, none⟩ = some (.int .u8 (b.toNat : Int))) len (fun i hi => by
    obtain ⟨g, o, rfl, hcell⟩ := hc (by omega)
    obtain ⟨u, n, y, hu, hy⟩ := hcell i hi
    obtain ⟨x, es, _, hs⟩ := DataW.trod_int Try.underlying5 hy
    injection es with es _
    subst es
    have hb := bounds_u8 hs
    refine ⟨UInt8.ofNat x.toNat, fun g' o' e' => ?_⟩
    cases e'
    rw [hu]
    congr 2
    have : x.toNat < 256 := by omega
    simp [UInt8.toNat_ofNat']
    omega)
  refine ⟨ss, a, cap, by rw [hl], by rw [hl]; exact hm, fun hpos => ?_⟩
  obtain ⟨g, o, e3, _⟩ := hc (by omega)
  exact ⟨g, o, e3, fun i hi => hp i hi g o e3⟩
end
end Go.Proofs.Ytegcebjfcmcgmaa.Trm
