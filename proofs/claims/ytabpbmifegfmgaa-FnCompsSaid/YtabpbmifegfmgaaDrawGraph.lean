/- The drawn graph, walked: of the same code the same. Conditions: the code lies in memory; it has at most 2 to the 20 bytes. -/
import Derived.Test.YtabpbmifegfmgaaCode
import Derived.Test.YtabpbmifegfmgaaGraph
import Derived.Deep.AppendLies
import Derived.Deep.Onto
namespace Go.Proofs.Ytabpbmifegfmgaa.Trm
open Go.RowKit Own Cur
def gArcs (bs : List UInt8) (n : Int) : Nat → Nat → St → List (Int × Int)
  | 0, _, _ => []
  | f + 1, i, s => if (i : Int) < belowF bs 12 s then (belowF bs n (belowS bs 12 s), belowF bs n (belowS bs n (belowS bs 12 s))) :: gArcs bs n f (i + 1) (belowS bs n (belowS bs n (belowS bs 12 s))) else []
def drawGN (bs : List UInt8) : Int := 1 + belowF bs 7 (newS bs)
def drawGE (bs : List UInt8) : List (Int × Int) := gArcs bs (drawGN bs) 12 0 (belowS bs 7 (newS bs))
theorem drawGN_range (bs : List UInt8) : 1 ≤ drawGN bs ∧ drawGN bs ≤ 7 := by
  have := belowF_range bs 7 (newS bs) (by omega)
  unfold drawGN
  omega
theorem gArcs_ok (bs : List UInt8) (n : Int) (hn : 0 < n) : ∀ f i s, (∀ e, e ∈ gArcs bs n f i s → ArcOk n e) ∧ (gArcs bs n f i s).length ≤ f
  | 0, i, s => ⟨fun e he => by simp [gArcs] at he, by simp [gArcs]⟩
  | f + 1, i, s => by
    have ih := gArcs_ok bs n hn f (i + 1) (belowS bs n (belowS bs n (belowS bs 12 s)))
    rw [gArcs]
    split
    · refine ⟨fun e he => ?_, by rw [List.length_cons]; have := ih.2; omega⟩
      rcases List.mem_cons.1 he with rfl | he
      · exact ⟨belowF_range bs n _ hn, belowF_range bs n _ hn⟩
      · exact ih.1 e he
    · exact ⟨fun e he => by simp at he, by simp⟩
theorem draw_gok (bs : List UInt8) : GOk (drawGN bs) (drawGE bs) := by
  have hn := drawGN_range bs
  have h := gArcs_ok bs (drawGN bs) (by omega) 12 0 (belowS bs 7 (newS bs))
  exact ⟨by omega, by omega, by have := h.2; unfold drawGE; omega, fun i hi => h.1 _ (List.getElem_mem hi)⟩
theorem at_other {W0 w w' : World} {c : Nat} {bs : List UInt8} {bv : Value} {s : St} {row : Option Nat} (h : At W0 w c bs bv s) (hg : w.grownBy w' row) (hr : ∀ b, row = some b → c < b) : At W0 w' c bs bv s := by
  have hc : c < w.heap.size := h.lt
  exact ⟨h.bytes, h.old.grown hg h.old.size (fun b e => by have := hr b e; have := h.new; omega), h.new, (hg.block c hc (fun e => by have := hr c e.symm; omega)).trans h.block, h.le, h.hI⟩
theorem litA0 (w : World) : (w.alloc (.cells #[] 51)).ownsRow w.heap.size 51 2 (.slice (some ⟨w.heap.size, 0, none⟩) 0 0) 0 (arcV []) := by
  refine ⟨rfl, .inr ⟨w.heap.size, 0, _, rfl, Nat.le_refl _, heap_alloc_new w _, Nat.le_refl _, by unfold maxLen; omega, ?_, ?_⟩⟩ <;> simp [arcV]
set_option maxRecDepth 20000 in
set_option maxHeartbeats 3200000 in
theorem drawGraph_any (bs : List UInt8) (bv : Value) (w : World) (hb : BytesAt w bs bv) (hl : bs.length ≤ 1048576) :
    Calls Try.prog 10 #[bv] w fun e w' => ∃ v, e = .returned (.tuple #[.int .i64 (drawGN bs), v]) ∧ ArcsAt w' (drawGE bs) v ∧ Below w.heap.size w w' := by
  obtain ⟨i0, hi0, hz0, hz1, hz2⟩ := info_parts infoArc
  have CN := Lib.hid (new_any bs bv w hb hl)
  have CB := Lib.hid (fun w1 s n h hn => below_any w w1 w.heap.size bs bv s n h hn)
  have hnr := drawGN_range bs
  have HNE : Hid (drawGN bs = 1 + belowF bs 7 (newS bs)) := rfl
  have HEE : Hid (([] : List (Int × Int)) ++ gArcs bs (drawGN bs) 12 0 (belowS bs 7 (newS bs)) = drawGE bs) := rfl
  have HOK := Lib.hid (draw_gok bs)
  obtain ⟨n, hn⟩ : ∃ n, n = drawGN bs := ⟨_, rfl⟩
  obtain ⟨E, hE⟩ : ∃ E, E = drawGE bs := ⟨_, rfl⟩
  rw [← hn] at hnr HNE HEE HOK ⊢
  rw [← hE] at HEE HOK ⊢
  obtain ⟨ba, bc, rfl, hbl, _⟩ := hb
  obtain ⟨hn1, hn7⟩ := hnr
  clear hn hE
  go_enter Try.func10, Try.ntmps10
  go_wp2_with fail
  refine CN.out.mono ?_
  rintro e w1 ⟨rfl, ha1, hg1⟩
  have A1 := Lib.hid ha1
  clear ha1 hg1
  go_wp2_with fail
  refine (CB.out w1 _ 7 A1.out (by unfold InI; omega)).mono ?_
  rintro e w2 ⟨rfl, hx⟩
  have A2 := Lib.hid hx.1
  have e7 : (1 + belowF bs 7 (newS bs) : Int) = n := HNE.out.symm
  have hr7 := belowF_range bs 7 (newS bs) (by omega)
  obtain ⟨q7, hq7⟩ : ∃ q, q = belowF bs 7 (newS bs) := ⟨_, rfl⟩
  rw [← hq7] at e7 hr7 ⊢
  obtain ⟨r71, r72⟩ := hr7
  obtain ⟨s2, hs2⟩ : ∃ s, s = belowS bs 7 (newS bs) := ⟨_, rfl⟩
  rw [← hs2] at A2 HEE
  obtain rfl : q7 = n - 1 := by omega
  have hc2 := A2.out.lt
  have e8 : (1 + (n - 1) : Int) = n := by omega
  have E8 := Lib.hid e8
  have R2 := Lib.hid (litA0 w2)
  have A3 := Lib.hid (at_other A2.out (World.grownBy_alloc w2 (.cells #[] 51) none) (fun _ h => by cases h))
  clear hx e7 hq7 hs2 e8
  go_wp2_with fail
  rw [E8.out]
  go_loopw [6, 7] (fun av iv wr => ∃ (i : Nat) (s : St) (es : List (Int × Int)), i ≤ 12 ∧ Hid (es.length = i) ∧ iv = .int .i64 i ∧ Hid (At w wr w.heap.size bs (.slice ba bs.length bc) s) ∧ Hid (es ++ gArcs bs n (12 - i) i s = E) ∧ Hid (wr.ownsRow w2.heap.size 51 2 av es.length (arcV es)) ∧ w2.heap.size ≤ wr.heap.size)
    (fun _ iv _ => 13 - (intOf iv).toNat)
  case atStart => exact ⟨0, s2, [], by omega, rfl, rfl, A3.out, HEE.out, R2.out, by simp⟩
  case round =>
    obtain ⟨i, s, es, hi, hel, rfl, hat, hdr, hrow, hsz0⟩ := hrel
    obtain ⟨oa, oc, rfl, _⟩ := row_shape hrow.out
    have hel12 : es.length ≤ 12 := by have := hel.out; omega
    have hr12 := belowF_range bs 12 s (by omega)
    go_wp2_with fail
    refine (CB.out wr s 12 hat.out (by unfold InI; omega)).mono ?_
    rintro e w3 ⟨rfl, hx3⟩
    have A4 := Lib.hid hx3.1
    have R4 := Lib.hid (row_same hrow.out (w' := w3) (fun b hb => hx3.2.block b (hrow.out.lt b hb).2 (fun e => by injection e with e; have := (hrow.out.lt b hb).1; omega)))
    obtain ⟨t, ht⟩ : ∃ t, t = belowF bs 12 s := ⟨_, rfl⟩
    have HT := Lib.hid ht
    rw [← ht] at hr12 ⊢
    obtain ⟨t1, t2⟩ := hr12
    have hsz3 : wr.heap.size ≤ w3.heap.size := hx3.2.size
    clear hx3 ht
    by_cases hlt : (i : Int) < t
    · have HDR : Hid ((es ++ [(belowF bs n (belowS bs 12 s), belowF bs n (belowS bs n (belowS bs 12 s)))]) ++ gArcs bs n (12 - (i + 1)) (i + 1) (belowS bs n (belowS bs n (belowS bs 12 s))) = E) := by
        show _ = _
        rw [← hdr.out, List.append_assoc]
        congr 1
        rw [show 12 - i = (12 - (i + 1)) + 1 from by omega, gArcs, if_pos (by rw [← HT.out]; exact hlt)]
        rfl
      obtain ⟨s4, hs4⟩ : ∃ z, z = belowS bs 12 s := ⟨_, rfl⟩
      rw [← hs4] at A4 HDR
      have hx1 := belowF_range bs n s4 (by omega)
      have hx2 := belowF_range bs n (belowS bs n s4) (by omega)
      obtain ⟨x, hx⟩ : ∃ z, z = belowF bs n s4 := ⟨_, rfl⟩
      obtain ⟨s5, hs5⟩ : ∃ z, z = belowS bs n s4 := ⟨_, rfl⟩
      rw [← hs5] at hx2 HDR
      obtain ⟨y, hy⟩ : ∃ z, z = belowF bs n s5 := ⟨_, rfl⟩
      obtain ⟨s6, hs6⟩ : ∃ z, z = belowS bs n s5 := ⟨_, rfl⟩
      rw [← hx] at hx1 HDR
      rw [← hy] at hx2 HDR
      rw [← hs6] at HDR
      have HX := Lib.hid hx
      have HY := Lib.hid hy
      have HS5 := Lib.hid hs5
      have HS6 := Lib.hid hs6
      clear hs4 hx hs5 hy hs6
      go_wp2_with fail
      refine (CB.out w3 s4 n A4.out (by unfold InI; omega)).mono ?_
      rintro e w4 ⟨rfl, hx4⟩
      rw [← HX.out]
      have A5 := Lib.hid hx4.1
      rw [← HS5.out] at A5
      have R5 := Lib.hid (row_same R4.out (w' := w4) (fun b hb => hx4.2.block b (R4.out.lt b hb).2 (fun e => by injection e with e; have := (R4.out.lt b hb).1; omega)))
      have hsz4 : w3.heap.size ≤ w4.heap.size := hx4.2.size
      clear hx4
      go_wp2_with fail
      refine (CB.out w4 s5 n A5.out (by unfold InI; omega)).mono ?_
      rintro e w5 ⟨rfl, hx5⟩
      rw [← HY.out]
      have A6 := Lib.hid hx5.1
      rw [← HS6.out] at A6
      have R6 := Lib.hid (row_same R5.out (w' := w5) (fun b hb => hx5.2.block b (R5.out.lt b hb).2 (fun e => by injection e with e; have := (R5.out.lt b hb).1; omega)))
      have hsz5 : w4.heap.size ≤ w5.heap.size := hx5.2.size
      clear hx5
      go_wp2_with (at_builtin; refine wpList_append_lies _ rfl (.tmp 20) (.tmp 28) 24 rfl w2.heap.size 51 i0 (.agg #[.int .i64 0, .int .i64 0]) 2 16 Try.underlying24 hi0 hz0 hz1 hz2 rfl (by decide) (.slice oa es.length oc) es.length _ rfl (R6.out.alloc _) ⟨w5.heap.size, 0, none⟩ 1 1 [.int .i64 x, .int .i64 y] rfl rfl (World.news_of_block (heap_alloc_new _ _)) (one_intV [x, y]) (by decide) (by unfold maxLen; omega) (by omega) (by simp; omega) _ rfl ?_)
      intro g1 cap1 w7 hown1 hg1 hat1 hlt1
      have A7 := Lib.hid (at_other (at_other A6.out (World.grownBy_alloc w5 (.cells #[.int .i64 x, .int .i64 y] 51) none) (fun _ h => by cases h)) hg1 (fun b hb => by have := (R6.out.lt b hb).1; omega))
      have R7 : Hid (w7.ownsRow w2.heap.size 51 2 (.slice (some ⟨g1, 0, none⟩) (es.length + 1) cap1) (es ++ [(x, y)]).length (arcV (es ++ [(x, y)]))) := by
        show World.ownsRow _ _ _ _ _ _ _
        rw [arcV_append, List.length_append]
        exact hown1
      have hel2 : (es ++ [(x, y)]).length = i + 1 := by rw [List.length_append, hel.out]; rfl
      have HEL := Lib.hid hel2
      have hsz7 : w2.heap.size ≤ w7.heap.size := by have := hg1.size; simp at this; omega
      clear hown1 hg1 hat1 hlt1 hel2
      go_wp2_with fail
      go_roundw
      case rel => exact ⟨i + 1, s6, es ++ [(x, y)], by omega, HEL.out, by go_num, A7.out, HDR.out, R7.out, hsz7⟩
      case measure => simp [intOf]; omega
    · have HE : Hid (es = E) := by
        have h1 := hdr.out
        have h2 : gArcs bs n (12 - i) i s = [] := by
          cases h3 : 12 - i with
          | zero => rfl
          | succ f => rw [gArcs, if_neg (by rw [← HT.out]; exact hlt)]
        rw [h2, List.append_nil] at h1
        exact h1
      have HIN : Hid (∀ e, e ∈ es → InI e.1 ∧ InI e.2) := fun e he => by
        rw [HE.out] at he
        obtain ⟨j, hj, rfl⟩ := List.mem_iff_getElem.1 he
        have := HOK.out.2.2.2 j hj
        unfold ArcOk at this
        unfold InI
        omega
      go_wp2_with fail
      go_ret2
      exact ⟨_, rfl, by rw [← HE.out]; exact arcs_of_row R4.out HIN.out, A4.out.old⟩
end Go.Proofs.Ytabpbmifegfmgaa.Trm
