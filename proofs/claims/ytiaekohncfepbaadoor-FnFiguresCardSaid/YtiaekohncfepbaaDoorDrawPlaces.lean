/- The model's drawn places, walked: twelve numbers of 0 to 9999. Conditions: the code lies in memory; it has at most 2 to the 20 bytes. -/
import Derived.Test.YtiaekohncfepbaaDoorChecked
import Derived.Test.YtiaekohncfepbaaDoorCursor
import Derived.Test.YtiaekohncfepbaaDoorLists
import Derived.Deep.AppendLies
import Derived.OwnWalk
import Derived.WalkSmall
import Derived.Outline
namespace Go.Proofs.YtiaekohncfepbaaDoor.Cur
open Go.RowKit Own Trm
theorem infoIntP : (Tryd.prog.info? 3).map (fun i => (i.zero, i.size, i.bytes)) = some (some (.int .i64 0), 1, 8) := by kernel_rfl
theorem one_intP (x : Int) : ∀ u ∈ [Value.int .i64 x], u.oneCell' = true := by
  intro u hu
  simp at hu
  subst hu
  rfl
/-- A row of numbers is not the cursor. -/
theorem row_not_cur {W0 w : World} {c : Nat} {bs : List UInt8} {bv : Value} {s : St} {base n : Nat} {v : Value} {xs : List Value} (h : At W0 w c bs bv s) (hr : w.ownsRow base 3 1 v n xs) : v.ownBlock ≠ some c := by
  intro e
  rcases hr.2 with ⟨rfl, _⟩ | ⟨g, cap, cur, rfl, _, hg, _⟩
  · cases e
  · cases e
    rw [h.block] at hg
    injection hg with hg
    injection hg with _ h2
    exact absurd h2 (by decide)
theorem At.row {W0 w w' : World} {c : Nat} {bs : List UInt8} {bv : Value} {s : St} {row : Option Nat} (h : At W0 w c bs bv s) (hg : w.grownBy w' row) (hr : row ≠ some c) (hb : ∀ k, row = some k → W0.heap.size ≤ k) : At W0 w' c bs bv s :=
  ⟨h.bytes, h.old.grown hg h.old.size hb, h.new, (hg.block c h.lt (fun e => hr e.symm)).trans h.block, h.le, h.hI⟩
def Places (w : World) (e : Ending) (w' : World) : Prop := ∃ (ov : Value) (ps : List Int), ps.length = 12 ∧ (∀ x, x ∈ ps → 0 ≤ x ∧ x ≤ 9999) ∧ e = .returned ov ∧ w'.ownsRow w.heap.size 3 1 ov ps.length (intV ps) ∧ Below w.heap.size w w'
set_option maxRecDepth 100000 in
set_option maxHeartbeats 1600000 in
theorem drawPlaces_any (bs : List UInt8) (bv : Value) (w : World) (hb : BytesAt w bs bv) (hl : bs.length ≤ 1048576) :
    Calls Tryd.prog 5 #[bv] w (Places w) := by
  obtain ⟨i0, hi, hz0, hz1, hz2⟩ := info_parts infoIntP
  have C := Lib.hid (new_any bs bv w hb hl)
  have CB := Lib.hid (fun W0 w c s h => byte_any W0 w c bs bv s h)
  have CL := Lib.hid (fun W0 w c s h => below_any W0 w c bs bv s 10000 h (by unfold InI; omega))
  obtain ⟨ba, bc, rfl, hbl, _⟩ := id hb
  clear hb
  generalize newS bs = s0 at C
  go_enter Tryd.func5, Tryd.ntmps5
  go_wp2_with fail
  refine C.out.mono ?_
  rintro e w1 ⟨rfl, hat, hg⟩
  have HA := Lib.hid hat
  clear hat hg
  go_wp2_with fail
  refine (CB.out w w1 _ _ HA.out).mono ?_
  rintro e w2 ⟨rfl, hx⟩
  have HX := Lib.hid hx.1
  generalize byteS bs s0 = s1 at HX
  generalize byteF bs s0 = y1
  clear hx
  go_wp2
  go_loopw [4, 5] (fun v i wr => ∃ (j : Nat) (ps : List Int) (s : St), j ≤ 12 ∧ i = .int .i64 j ∧ Hid (ps.length = j) ∧ Hid (∀ x, x ∈ ps → 0 ≤ x ∧ x ≤ 9999) ∧ Hid (At w wr w.heap.size bs (.slice ba bs.length bc) s) ∧ Hid (wr.ownsRow w.heap.size 3 1 v ps.length (intV ps)))
    (fun _ i _ => 12 - (intOf i).toNat)
  case atStart => exact ⟨0, [], s1, by omega, rfl, rfl, Lib.hid (fun x (h : x ∈ ([] : List Int)) => by cases h), HX.out.grown (World.grownBy_alloc _ _ _), World.ownsRow_made (size := 1) w2 #[] 0 HX.out.old.size (by decide) rfl⟩
  case round =>
    obtain ⟨j, ps, s, hj, rfl, hlen, hps, hat, hrow⟩ := hrel
    by_cases hlt : j < 12
    · have D := Lib.hid (CL.out w wr _ s hat.out)
      have hr := belowF_range bs 10000 s (by decide)
      generalize belowF bs 10000 s = x at D hr
      generalize belowS bs 10000 s = s2 at D
      obtain ⟨r1, r2⟩ := hr
      have hl2 : ps.length ≤ 12 := by rw [hlen.out]; exact hj
      go_wp2_with fail
      refine D.out.mono ?_
      rintro e w3 ⟨rfl, hx⟩
      have HX3 := Lib.hid hx.1
      have R3 : Hid (w3.ownsRow w.heap.size 3 1 u4 ps.length (intV ps)) := hrow.out.kept hx.2 (by
        cases e : u4.ownBlock with
        | none => exact .inl rfl
        | some k => exact .inr (fun e2 => row_not_cur hat.out hrow.out (e.trans e2)))
      clear hx
      go_wp2_with (at_builtin; refine wpList_append_own _ rfl (.tmp 15) (.tmp 18) 24 rfl w.heap.size 3 i0 (.int .i64 0) 1 8 Tryd.underlying24 hi hz0 hz1 hz2 rfl (by decide) u4 ps.length _ rfl (R3.out.alloc _) ⟨w3.heap.size, 0, none⟩ 1 1 [.int .i64 x] rfl rfl (World.news_of_block (heap_alloc_new _ _)) (one_intP _) (by unfold maxLen; omega) (by omega) (by have := HX3.out.old.size; simp; omega) ?_)
      intro v4 w4 hown4 hg4 _
      have HA4 := Lib.hid ((HX3.out.grown (World.grownBy_alloc _ _ _)).row hg4 (row_not_cur (HX3.out) R3.out) (fun k hk => (R3.out.lt k hk).1))
      have HR4 : Hid (w4.ownsRow w.heap.size 3 1 v4 (ps ++ [x]).length (intV (ps ++ [x]))) := by
        show World.ownsRow _ _ _ _ _ _ _
        have := hown4
        simpa [intV] using this
      clear hown4 hg4
      go_wp2
      go_roundw
      case rel => exact ⟨j + 1, ps ++ [x], s2, by omega, by go_num, by show List.length _ = _; rw [List.length_append, hlen.out]; rfl, fun y hy => by
        rcases List.mem_append.1 hy with h | h
        · exact hps.out y h
        · rw [List.mem_singleton.1 h]; omega, HA4.out, HR4.out⟩
      case measure => simp [intOf]; omega
    · have hj12 : j = 12 := by omega
      have HJ := Lib.hid hj12
      clear hj12
      go_wp2
      go_ret
      exact ⟨_, ps, hlen.out.trans HJ.out, hps.out, rfl, hrow.out, hat.out.old⟩
end Go.Proofs.YtiaekohncfepbaaDoor.Cur
