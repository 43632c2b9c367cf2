/- Whether all of a row of texts are names, of both sides, walked. Conditions: the row lies in memory. -/
import Derived.Test.YtofmccihehalcaaPTrees
import Derived.Test.YtofmccihehalcaaNameSpec
import Derived.Test.YtofmccihehalcaaNameImpl
import Derived.Test.YtofmccihehalcaaTermSame
import Derived.OwnWalk
import Derived.WalkSmall
import Derived.Outline
namespace Go.Proofs.Ytofmccihehalcaa.Trm
open Go.RowKit Own Lexs
def nmsB (ns : List ByteArray) : Bool := ns.all (fun s => isNm s.data.toList)
theorem nmsB_drop {ns : List ByteArray} {i : Nat} (h : i < ns.length) : nmsB (ns.drop i) = (isNm ns[i].data.toList && nmsB (ns.drop (i + 1))) := by
  unfold nmsB; rw [List.drop_eq_getElem_cons h, List.all_cons]
theorem nmsB_end {ns : List ByteArray} {i : Nat} (h : ns.length ≤ i) : nmsB (ns.drop i) = true := by
  unfold nmsB; rw [List.drop_of_length_le h]; rfl
def okNs (ns : List ByteArray) (most : Nat) : Bool := decide (ns.length ≤ most) && nmsB ns
theorem specNames_any (ns : List ByteArray) (most : Nat) (v : Value) (w : World) (hm : most ≤ 100) (h : NamesAt w ns v) :
    Calls Try.prog 34 #[v, .int .i64 (most : Int)] w fun e w' => e = .returned (.bool (okNs ns most)) ∧ w = w' := by
  obtain ⟨⟨a, c, rfl, h1, h2⟩, hs⟩ := h
  have HN := Lib.hid h2
  have HS0 := Lib.hid hs
  have HE : Hid (okNs ns most = (decide (ns.length ≤ most) && nmsB ns)) := rfl
  clear h2 hs
  generalize okNs ns most = rr at HE
  by_cases hl : ns.length ≤ most
  · have HR : Hid (rr = nmsB ns) := by show _ = _; rw [HE.out]; simp [hl]
    have hq : ¬ most < ns.length := by omega
    clear HE
    go_enter Try.func34, Try.ntmps34
    go_wp2
    go_loopw [5] (fun i wr => ∃ j : Nat, j ≤ ns.length ∧ i = .int .i64 j ∧ Hid (rr = nmsB (ns.drop j)) ∧ w = wr)
      (fun i _ => ns.length - (intOf i).toNat)
    case atStart => exact ⟨0, Nat.zero_le _, rfl, HR.out, rfl⟩
    case round =>
      obtain ⟨j, hj, rfl, hp, rfl⟩ := hrel
      by_cases hlt : j < ns.length
      · obtain ⟨g, o, rfl, hcell⟩ := HN.out (by omega)
        have c0 := hcell j hlt
        have hd := nmsB_drop hlt
        have C := Lib.hid (specIsName_any ns[j] w (HS0.out _ (List.getElem_mem hlt)))
        clear hcell
        cases hn : isNm ns[j].data.toList with
        | false =>
          have HF : Hid (rr = false) := by show _ = _; rw [hp.out, hd, hn]; rfl
          rw [hn] at C
          clear hd hn
          go_wp2_with fail
          refine C.out.mono ?_
          rintro e w1 ⟨rfl, rfl⟩
          go_wp2
          go_ret
          exact ⟨ret_b (by rw [HF.out]), rfl⟩
        | true =>
          have HF : Hid (rr = nmsB (ns.drop (j + 1))) := by show _ = _; rw [hp.out, hd, hn]; rfl
          rw [hn] at C
          clear hd hn
          go_wp2_with fail
          refine C.out.mono ?_
          rintro e w1 ⟨rfl, rfl⟩
          go_wp2
          go_roundw
          case rel => exact ⟨j + 1, by omega, by go_num, HF, by first | rfl | trivial⟩
          case measure => simp [intOf]; omega
      · have HF : Hid (rr = true) := by show _ = _; rw [hp.out, nmsB_end (by omega)]
        go_wp2
        go_ret
        exact ⟨ret_b (by rw [HF.out]), rfl⟩
  · have HF : Hid (rr = false) := by show _ = _; rw [HE.out]; simp [hl]
    clear HE
    go_enter Try.func34, Try.ntmps34
    go_wp2
    go_ret
    exact ⟨ret_b (by rw [HF.out]), rfl⟩
theorem implNames_any (ns : List ByteArray) (v : Value) (w : World) (h : NamesAt w ns v) :
    Calls Try.prog 27 #[v] w fun e w' => e = .returned (.bool (nmsB ns)) ∧ w = w' := by
  obtain ⟨⟨a, c, rfl, h1, h2⟩, hs⟩ := h
  have HN := Lib.hid h2
  have HS0 := Lib.hid hs
  have HR : Hid (nmsB ns = nmsB (ns.drop 0)) := rfl
  generalize nmsB ns = rr at HR
  clear h2 hs
  go_enter Try.func27, Try.ntmps27
  go_wp2
  go_loopw [7] (fun i wr => ∃ j : Nat, j ≤ ns.length ∧ i = .int .i64 j ∧ Hid (rr = nmsB (ns.drop j)) ∧ w = wr)
    (fun i _ => ns.length - (intOf i).toNat)
  case atStart => exact ⟨0, Nat.zero_le _, rfl, HR.out, rfl⟩
  case round =>
    obtain ⟨j, hj, rfl, hp, rfl⟩ := hrel
    by_cases hlt : j < ns.length
    · obtain ⟨g, o, rfl, hcell⟩ := HN.out (by omega)
      have c0 := hcell j hlt
      have hd := nmsB_drop hlt
      have C := Lib.hid (implIsName_any ns[j] w (HS0.out _ (List.getElem_mem hlt)))
      clear hcell
      cases hn : isNm ns[j].data.toList with
      | false =>
        have HF : Hid (rr = false) := by show _ = _; rw [hp.out, hd, hn]; rfl
        rw [hn] at C
        clear hd hn
        go_wp2_with fail
        refine C.out.mono ?_
        rintro e w1 ⟨rfl, rfl⟩
        go_wp2
        go_ret
        exact ⟨ret_b (by rw [HF.out]), rfl⟩
      | true =>
        have HF : Hid (rr = nmsB (ns.drop (j + 1))) := by show _ = _; rw [hp.out, hd, hn]; rfl
        rw [hn] at C
        clear hd hn
        go_wp2_with fail
        refine C.out.mono ?_
        rintro e w1 ⟨rfl, rfl⟩
        go_wp2
        go_roundw
        case rel => exact ⟨j + 1, by omega, by go_num, HF, by first | rfl | trivial⟩
        case measure => simp [intOf]; omega
    · have HF : Hid (rr = true) := by show _ = _; rw [hp.out, nmsB_end (by omega)]
      go_wp2
      go_ret
      exact ⟨ret_b (by rw [HF.out]), rfl⟩
end Go.Proofs.Ytofmccihehalcaa.Trm
