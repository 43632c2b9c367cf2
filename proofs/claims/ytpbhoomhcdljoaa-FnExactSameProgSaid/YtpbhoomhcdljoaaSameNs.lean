/- Whether two rows of texts are the same, of both sides, walked. Conditions: they lie in memory. -/
import Derived.Test.YtpbhoomhcdljoaaChecked
import Derived.Test.YtpbhoomhcdljoaaLists
import Derived.Test.YtpbhoomhcdljoaaTermSame
import Derived.Test.YtpbhoomhcdljoaaListEq
import Derived.BigQuiet
import Derived.OwnWalk
import Derived.WalkSmall
import Derived.Outline
namespace Go.Proofs.Ytpbhoomhcdljoaa.Trm
open Go.RowKit Own
def sameNs (ns ms : List ByteArray) : Bool := decide (ns = ms)
theorem sameNs_len {ns ms : List ByteArray} (h : ns.length ≠ ms.length) : sameNs ns ms = false := decide_eq_false fun e => h (by rw [e])
theorem sameNs_at {ns ms : List ByteArray} {i : Nat} (h : i < ns.length) (h2 : i < ms.length) (hn : ns[i] ≠ ms[i]) : sameNs ns ms = false := decide_eq_false fun e => hn (by subst e; rfl)
theorem sameNs_step {ns ms : List ByteArray} {i : Nat} (h : i < ns.length) (h2 : i < ms.length) (e : ns[i] = ms[i]) (ht : ns.take i = ms.take i) : ns.take (i + 1) = ms.take (i + 1) := by
  rw [List.take_succ_eq_append_getElem h, List.take_succ_eq_append_getElem h2, ht, e]
theorem sameNs_end {ns ms : List ByteArray} {i : Nat} (h : ns.length ≤ i) (h2 : ms.length ≤ i) (ht : ns.take i = ms.take i) : sameNs ns ms = true := by
  rw [List.take_of_length_le h, List.take_of_length_le h2] at ht
  exact decide_eq_true ht
set_option maxHeartbeats 400000 in
theorem specSameNs_any (ns ms : List ByteArray) (u v : Value) (w : World) (h1 : StrsAt w ns u) (h2 : StrsAt w ms v) :
    Calls Try.prog 30 #[u, v] w fun e w' => e = .returned (.bool (sameNs ns ms)) ∧ Below w.heap.size w w' := by
  obtain ⟨a1, c1, rfl, hm, ha1⟩ := h1
  obtain ⟨a2, c2, rfl, hm2, ha2⟩ := h2
  have HA1 := Lib.hid ha1
  have HA2 := Lib.hid ha2
  clear ha1 ha2
  by_cases hl : ns.length = ms.length
  · have HL := Lib.hid hl
    have hq : ((ns.length : Int) != (ms.length : Int)) = false := by rw [hl]; simp
    clear hl
    go_enter Try.func30, Try.ntmps30
    go_wp2
    go_loopw [5] (fun i wr => ∃ k m : Nat, k ≤ ns.length ∧ i = .int .i64 k ∧ Hid (ns.take k = ms.take k) ∧ wr = w.drewN m)
      (fun i _ => ns.length - (intOf i).toNat)
    case atStart => exact ⟨0, 0, Nat.zero_le _, rfl, rfl, (World.drewN_zero _).symm⟩
    case round =>
      obtain ⟨k, m, hk, rfl, ht, rfl⟩ := hrel
      by_cases hlt : k < ns.length
      · have hlt2 : k < ms.length := by have := HL.out; omega
        obtain ⟨g1, o1, rfl, q1⟩ := HA1.out (by omega)
        obtain ⟨g2, o2, rfl, q2⟩ := HA2.out (by omega)
        have d1 := q1 k hlt
        have d2 := q2 k hlt2
        clear q1 q2
        by_cases he : ns[k] = ms[k]
        · have HT : Hid (ns.take (k + 1) = ms.take (k + 1)) := sameNs_step hlt hlt2 he ht.out
          rw [← he] at d2
          clear he
          go_wp2
          go_quiet (fail)
          go_wp2
          go_roundw
          case rel => exact ⟨k + 1, m + nq, by omega, by go_num, HT, rfl⟩
          case measure => simp [intOf]; omega
        · have HF : Hid (sameNs ns ms = false) := sameNs_at hlt hlt2 he
          have hq2 := bytes_ne he
          clear he
          go_wp2
          go_quiet (fail)
          go_wp2
          go_ret
          exact ⟨ret_b (by rw [HF.out]), below_drewN (below_drewN (Below.refl _ _) _) _⟩
      · have HF : Hid (sameNs ns ms = true) := sameNs_end (by omega) (by have := HL.out; omega) ht.out
        go_wp2
        go_ret
        exact ⟨ret_b (by rw [HF.out]), below_drewN (Below.refl _ _) _⟩
  · have hq : ((ns.length : Int) != (ms.length : Int)) = true := by simp; omega
    have HF : Hid (sameNs ns ms = false) := sameNs_len hl
    clear hl
    go_enter Try.func30, Try.ntmps30
    go_wp2
    go_ret
    exact ⟨ret_b (by rw [HF.out]), Below.refl _ _⟩
set_option maxHeartbeats 400000 in
theorem implEqual_any (ns ms : List ByteArray) (u v : Value) (w : World) (h1 : StrsAt w ns u) (h2 : StrsAt w ms v) :
    Calls Try.prog 32 #[u, v] w fun e w' => e = .returned (.bool (sameNs ns ms)) ∧ Below w.heap.size w w' := by
  obtain ⟨a1, c1, rfl, hm, ha1⟩ := h1
  obtain ⟨a2, c2, rfl, hm2, ha2⟩ := h2
  have HA1 := Lib.hid ha1
  have HA2 := Lib.hid ha2
  clear ha1 ha2
  by_cases hl : ns.length = ms.length
  · have HL := Lib.hid hl
    have hq : ((ns.length : Int) != (ms.length : Int)) = false := by rw [hl]; simp
    clear hl
    go_enter Try.func32, Try.ntmps32
    go_wp2
    go_loopw [13] (fun i wr => ∃ k m : Nat, k ≤ ns.length ∧ i = .int .i64 k ∧ Hid (ns.take k = ms.take k) ∧ wr = w.drewN m)
      (fun i _ => ns.length - (intOf i).toNat)
    case atStart => exact ⟨0, 0, Nat.zero_le _, rfl, rfl, (World.drewN_zero _).symm⟩
    case round =>
      obtain ⟨k, m, hk, rfl, ht, rfl⟩ := hrel
      by_cases hlt : k < ns.length
      · have hlt2 : k < ms.length := by have := HL.out; omega
        obtain ⟨g1, o1, rfl, q1⟩ := HA1.out (by omega)
        obtain ⟨g2, o2, rfl, q2⟩ := HA2.out (by omega)
        have d1 := q1 k hlt
        have d2 := q2 k hlt2
        clear q1 q2
        by_cases he : ns[k] = ms[k]
        · have HT : Hid (ns.take (k + 1) = ms.take (k + 1)) := sameNs_step hlt hlt2 he ht.out
          rw [← he] at d2
          clear he
          go_wp2
          go_quiet (fail)
          go_wp2
          go_roundw
          case rel => exact ⟨k + 1, m + nq, by omega, by go_num, HT, rfl⟩
          case measure => simp [intOf]; omega
        · have HF : Hid (sameNs ns ms = false) := sameNs_at hlt hlt2 he
          have hq2 := bytes_ne he
          clear he
          go_wp2
          go_quiet (fail)
          go_wp2
          go_ret
          exact ⟨ret_b (by rw [HF.out]), below_drewN (below_drewN (Below.refl _ _) _) _⟩
      · have HF : Hid (sameNs ns ms = true) := sameNs_end (by omega) (by have := HL.out; omega) ht.out
        go_wp2
        go_ret
        exact ⟨ret_b (by rw [HF.out]), below_drewN (Below.refl _ _) _⟩
  · have hq : ((ns.length : Int) != (ms.length : Int)) = true := by simp; omega
    have HF : Hid (sameNs ns ms = false) := sameNs_len hl
    clear hl
    go_enter Try.func32, Try.ntmps32
    go_wp2
    go_ret
    exact ⟨ret_b (by rw [HF.out]), Below.refl _ _⟩
end Go.Proofs.Ytpbhoomhcdljoaa.Trm
