/- The program's counting of a list by what was counted within it, walked. Conditions: the list lies in rows that are not frozen, what is within it was counted; there are at most 2 millions. -/
import Derived.Test.YtmhhghdfgdhljaaCountLogic
import Derived.WalkSmall
import Derived.Outline
namespace Go.Proofs.Ytmhhghdfgdhljaa.Cn
open Go.RowKit Own Trm Km SpX
theorem implSum_any (a b : Nat) (h : a + b ≤ 9000000) (w : World) : Calls Try.prog 138 #[.int .i64 (a : Int), .int .i64 (b : Int)] w fun e w' => e = .returned (.int .i64 ((a : Int) + (b : Int))) ∧ w = w' := by
  have h1 : (b : Int) ≤ 9223372036854775807 - (a : Int) := by omega
  have h2 : ¬ (9223372036854775807 - (a : Int) < (b : Int)) := by omega
  have h3 : IntKind.i64.wrap (9223372036854775807 - (a : Int)) = 9223372036854775807 - (a : Int) := IntWalk.i64_in _ (by omega)
  have h4 : IntKind.i64.wrap ((a : Int) + (b : Int)) = (a : Int) + (b : Int) := IntWalk.i64_in _ (by omega)
  go_enter Try.func138, Try.ntmps138
  go_wp2
  go_ret
  exact ⟨rfl, rfl⟩
def inXS : List STree → Nat
  | [] => 0
  | x :: r => cntXS x.body + cntXS x.els + inXS r
theorem cnt_in : ∀ xs : List STree, cntXS xs = xs.length + inXS xs
  | [] => rfl
  | x :: r => by rw [cntXS, inXS, cntX_eq, cnt_in r, List.length_cons]; omega
theorem inXS_drop {xs : List STree} {i : Nat} (h : i < xs.length) : inXS (xs.drop i) = cntXS xs[i].body + cntXS xs[i].els + inXS (xs.drop (i + 1)) := by rw [List.drop_eq_getElem_cons h, inXS]
theorem inXS_end {xs : List STree} {i : Nat} (h : xs.length ≤ i) : inXS (xs.drop i) = 0 := by rw [List.drop_of_length_le h, inXS]
theorem SpOk.keep {V w : World} {k : Value} (hk : KeepF V w) (h : SpOk V k) : SpOk w k := by
  obtain ⟨a, n, e, h⟩ := h
  exact ⟨a, n, e, h.keep hk⟩
theorem spot_ok {V : World} {v : Value} {xs : List STree} (h : SListF V v xs) : SpOk V (keyV v xs) := ⟨_, _, rfl, freeO_of h⟩
theorem KeepF.below {V w w' : World} (hk : KeepF V w) (hb : Below w.heap.size w w') : KeepF V w' := hk.trans (keepF_below hb)
set_option maxHeartbeats 800000 in
theorem implCountBy_any (V w : World) (M : Nat) (xs : List STree) (v : Value) (hk : KeepF V w) (h : SListF V v xs) (hz : cntXS xs ≤ 2000000) (es : Array MapEntry) (clock : Nat) (hm : w.heap[M]? = some (.map es clock)) (hmk : MetK SpOk V es.toList) (hd : ∀ i j mv m, KidAt V v xs i j mv m → Done es.toList mv m) :
    Calls Try.prog 110 #[.map (some M), v] w fun e w' => e = .returned (.int .i64 (cntXS xs : Int)) ∧ Below w.heap.size w w' := by
  have HD := Lib.hid hd
  have HK := Lib.hid hk
  have HM := Lib.hid hm
  have HMK := Lib.hid hmk
  have HZ := Lib.hid hz
  have HC := Lib.hid (cnt_in xs)
  obtain ⟨hlen, aa, cap, rfl, hf⟩ := h
  have HF := Lib.hid hf
  clear hd hk hm hmk hz hf
  go_enter Try.func110, Try.ntmps110
  go_wp2
  go_loopw [5, 12] (fun n i wr => ∃ (j m : Nat), j ≤ xs.length ∧ i = .int .i64 j ∧ n = .int .i64 m ∧ Hid (cntXS xs = m + inXS (xs.drop j)) ∧ Hid (Below w.heap.size w wr))
    (fun _ i _ => xs.length - (intOf i).toNat)
  case atStart => exact ⟨0, xs.length, Nat.zero_le _, rfl, rfl, by show _ = _; rw [HC.out]; simp, Below.refl _ _⟩
  case round =>
    obtain ⟨j, m, hj, rfl, rfl, hsz, hbe⟩ := hrel
    by_cases hlt : j < xs.length
    · obtain ⟨g, o, rfl, f1, l1⟩ := HF.out (by omega)
      obtain ⟨ta, tc, ba, bc, ea, ec, c0, c1, c2, c3, c4, c5, c6, c7, lx⟩ := l1.at j hlt
      have D6 : Hid (lookK es.toList (spV (spotA (.slice ba xs[j].body.length bc)) xs[j].body.length) = some (.int .i64 (cntXS xs[j].body : Int))) := HD.out j 0 _ _ ⟨g, o, _, _, hlt, rfl, by rw [Nat.add_zero]; exact c6, .inl ⟨rfl, rfl⟩⟩
      have D7 : Hid (lookK es.toList (spV (spotA (.slice ea xs[j].els.length ec)) xs[j].els.length) = some (.int .i64 (cntXS xs[j].els : Int))) := HD.out j 1 _ _ ⟨g, o, _, _, hlt, rfl, by exact c7, .inr ⟨rfl, rfl⟩⟩
      have kf := KeepF.below HK.out hbe.out
      rw [← f1.cell kf] at c0 c1 c2 c3 c4 c5 c6 c7
      obtain ⟨_, lb, le⟩ := lx.lists
      have LB := Lib.hid lb
      have LE := Lib.hid le
      have CB := Lib.hid (fun w2 => implSpot_any ba xs[j].body.length bc lb.1 (fun h => by obtain ⟨_, _, _, e, hq⟩ := lb; simp at e; obtain ⟨rfl, _⟩ := e; obtain ⟨g, o, e, _⟩ := hq h; exact ⟨g, o, e⟩) w2)
      have CE := Lib.hid (fun w2 => implSpot_any ea xs[j].els.length ec le.1 (fun h => by obtain ⟨_, _, _, e, hq⟩ := le; simp at e; obtain ⟨rfl, _⟩ := e; obtain ⟨g, o, e, _⟩ := hq h; exact ⟨g, o, e⟩) w2)
      have hdr := inXS_drop hlt
      have hT := hsz.out
      have hZ := HZ.out
      have CS := Lib.hid (fun w2 => implSum_any m (cntXS xs[j].body) (by omega) w2)
      have CS2 := Lib.hid (fun w2 => implSum_any (m + cntXS xs[j].body) (cntXS xs[j].els) (by omega) w2)
      have HS : Hid (cntXS xs = (m + cntXS xs[j].body + cntXS xs[j].els) + inXS (xs.drop (j + 1))) := by show _ = _; omega
      generalize cntXS xs[j].body = na at D6 CS CS2 HS
      generalize cntXS xs[j].els = nb at D7 CS2 HS
      have look : Hid (∀ wx, Below w.heap.size w wx → ∀ mv l, SListF V mv l → ∀ n : Nat, lookK es.toList (spV (spotA mv) l.length) = some (.int .i64 (n : Int)) → (Instr.lookup 136 (.map (some M)) (.agg #[.pointer (spotA mv), .int .i64 (l.length : Int)]) false).run Try.prog wx = .ok (.int .i64 (n : Int)) wx) := fun wx hb mv l hl n hn => by
        have hm : wx.heap[M]? = some (.map es clock) := by rw [hb.block M (heap_lt HM.out)]; exact HM.out
        have := (run_look spot_key Try.underlying136 (z := .int .i64 0) (fun w => by kernel_rfl) hm (fun x hx => SpOk.keep (KeepF.below HK.out hb) (HMK.out x hx)) (SpOk.keep (KeepF.below HK.out hb) (spot_ok hl))).1
        unfold keyV at this
        rw [hn] at this
        exact this
      clear l1 lx lb le hdr hT hZ f1 kf
      go_wp2_with fail
      refine (CB.out _).mono ?_
      rintro e w1 ⟨rfl, hb1⟩
      have B1 := Lib.hid (hbe.out.trans ((below_box1 hb1).mono hbe.out.size))
      have X1 : Hid (w1.cell? ⟨wr.heap.size, 7, none⟩ = some (.slice ea xs[j].els.length ec)) := keeps_below hb1 _ _ (by simp [go_sem])
      have r1 := look.out _ B1.out _ _ LB.out _ D6.out
      have hsz : wr.heap.size = wr.heap.size := rfl
      obtain ⟨D, hD⟩ : ∃ D, D = wr.heap.size := ⟨_, rfl⟩
      rw [← hD] at X1 ⊢
      clear hb1 hD hsz c0 c1 c2 c3 c4 c5 c6 c7
      unfold spV
      go_wp2_with fail
      refine (CS.out _).mono ?_
      rintro e w2 ⟨rfl, rfl⟩
      have x7 := X1.out
      clear r1
      go_wp2_with fail
      refine (CE.out _).mono ?_
      rintro e w3 ⟨rfl, hb3⟩
      have B3 := Lib.hid (B1.out.trans (hb3.mono B1.out.size))
      have r3 := look.out _ B3.out _ _ LE.out _ D7.out
      clear hb3 x7
      unfold spV
      go_wp2_with fail
      refine (CS2.out _).mono ?_
      rintro e w4 ⟨rfl, rfl⟩
      clear r3
      go_wp2
      go_roundw
      case rel => exact ⟨j + 1, m + na + nb, by omega, by go_num, by simp, HS, B3.out⟩
      case measure => simp [intOf]; omega
    · have HS : Hid (m = cntXS xs) := by show _ = _; have := hsz.out; rw [inXS_end (by omega)] at this; omega
      go_wp2
      go_ret
      exact ⟨ret_n HS.out, hbe.out⟩
end Go.Proofs.Ytmhhghdfgdhljaa.Cn
