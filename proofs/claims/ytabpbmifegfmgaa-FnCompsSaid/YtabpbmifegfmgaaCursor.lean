/- The cursor over the bytes of a draw, walked. Conditions: the bytes lie in memory that is older than the cursor. -/
import Derived.Test.YtabpbmifegfmgaaChecked
import Derived.Test.YtabpbmifegfmgaaTrees
import Derived.Test.YtabpbmifegfmgaaMasks
import Derived.BigQuiet
import Derived.WalkKit
import Derived.OpenShut
import Derived.WalkSmall
import Derived.Outline
namespace Go.Proofs.Ytabpbmifegfmgaa.Cur
open Go.RowKit Own Trm
/-- A list of bytes that lies in memory. -/
def BytesAt (w : World) (bs : List UInt8) (v : Value) : Prop := ∃ a cap, v = .slice a bs.length cap ∧ bs.length ≤ 9223372036854775807 ∧ (0 < bs.length → ∃ g o, a = some ⟨g, o, none⟩ ∧ ∀ i (h : i < bs.length), w.cell? ⟨g, o + i, none⟩ = some (.int .u8 (bs[i].toNat : Int)))
structure St where
  i : Nat
  h : Int
/-- The cursor in a block of its own, the bytes older than it. -/
structure At (W0 w : World) (c : Nat) (bs : List UInt8) (bv : Value) (s : St) : Prop where
  bytes : BytesAt W0 bs bv
  old : Below W0.heap.size W0 w
  new : W0.heap.size ≤ c
  block : w.heap[c]? = some (.cells #[bv, .int .i64 (s.i : Int), .int .i64 s.h] 79 (0, 0))
  le : s.i ≤ bs.length
  hI : InI s.h
theorem At.cells {W0 w : World} {c : Nat} {bs : List UInt8} {bv : Value} {s : St} (h : At W0 w c bs bv s) : w.cell? ⟨c, 0, none⟩ = some bv ∧ w.cell? ⟨c, 1, none⟩ = some (.int .i64 (s.i : Int)) ∧ w.cell? ⟨c, 2, none⟩ = some (.int .i64 s.h) ∧ (∀ j, w.frozen? ⟨c, j, none⟩ = false) := by
  have := h.block
  refine ⟨?_, ?_, ?_, fun j => ?_⟩
  · rw [cell_of_row w c 0 _ _ _ this]; rfl
  · rw [cell_of_row w c 1 _ _ _ this]; rfl
  · rw [cell_of_row w c 2 _ _ _ this]; rfl
  · exact frozen_of_row w c j _ _ this
/-- The number that follows. -/
def nextH (h : Int) : Int := wrap64 (wrap64 (h * 6364136223846793005) + 1442695040888963407)
theorem nextH_in (h : Int) : InI (nextH h) := bounds_i64 (wrap64_wf _)
theorem At.stored {W0 w : World} {c : Nat} {bs : List UInt8} {bv : Value} {s : St} (h : At W0 w c bs bv s) (x : Int) (hx : InI x) : At W0 (w.setCell ⟨c, 2, none⟩ (.int .i64 x)) c bs bv ⟨s.i, x⟩ :=
  ⟨h.bytes, h.old.setCell h.new _, h.new, heap_setCell_same w c 2 _ _ _ h.block, h.le, hx⟩
theorem At.moved {W0 w : World} {c : Nat} {bs : List UInt8} {bv : Value} {s : St} (h : At W0 w c bs bv s) (hx : s.i + 1 ≤ bs.length) : At W0 (w.setCell ⟨c, 1, none⟩ (.int .i64 ((s.i + 1 : Nat) : Int))) c bs bv ⟨s.i + 1, s.h⟩ :=
  ⟨h.bytes, h.old.setCell h.new _, h.new, heap_setCell_same w c 1 _ _ _ h.block, hx, h.hI⟩
theorem At.drewN {W0 w : World} {c : Nat} {bs : List UInt8} {bv : Value} {s : St} (h : At W0 w c bs bv s) (m : Nat) : At W0 (w.drewN m) c bs bv s := ⟨h.bytes, below_drewN h.old m, h.new, h.block, h.le, h.hI⟩
def xorX (x : Int) : Int := bits .and .i64 (bits .xor .i64 (x / 8589934592) (x / 35184372088832)) 255
theorem xorX_range (x : Int) : 0 ≤ xorX x ∧ xorX x ≤ 255 := and_range _ 255 (by decide)
/-- One byte of the draw, and the cursor behind it. -/
def byteF (bs : List UInt8) (s : St) : Int := if s.i < bs.length then bits .and .i64 (xorX (nextH s.h) + ((bs.getD s.i 0).toNat : Int)) 255 else xorX (nextH s.h)
def byteS (bs : List UInt8) (s : St) : St := if s.i < bs.length then ⟨s.i + 1, nextH s.h⟩ else ⟨s.i, nextH s.h⟩
theorem byteF_range (bs : List UInt8) (s : St) : 0 ≤ byteF bs s ∧ byteF bs s ≤ 255 := by
  unfold byteF
  split
  · exact and_range _ 255 (by decide)
  · exact xorX_range _
/-- The cursor goes on: it alone has turned, and it lies where it lay. -/
def Next (W0 w : World) (c : Nat) (bs : List UInt8) (bv : Value) (s : St) (w' : World) : Prop := At W0 w' c bs bv s ∧ w.grownBy w' (some c)
theorem grown_drewN {w w' : World} {r : Option Nat} (h : w.grownBy w' r) (m : Nat) : w.grownBy (w'.drewN m) r := ⟨h.os, h.tape, h.output, h.size, h.block⟩
theorem grown_set1 (w : World) (c : Nat) (u : Value) (m : Nat) : w.grownBy ((w.setCell ⟨c, 2, none⟩ u).drewN m) (some c) :=
  ⟨rfl, rfl, rfl, by simp, fun k _ hk => heap_setCell_other w ⟨c, 2, none⟩ k u (fun e => hk (by simp [e]))⟩
theorem grown_set2 (w : World) (c : Nat) (u v : Value) (m : Nat) : w.grownBy (((w.setCell ⟨c, 2, none⟩ u).drewN m).setCell ⟨c, 1, none⟩ v) (some c) := by
  refine ⟨rfl, rfl, rfl, by simp, fun k _ hk => ?_⟩
  rw [heap_setCell_other _ ⟨c, 1, none⟩ k v (fun e => hk (by simp [e]))]
  exact heap_setCell_other w ⟨c, 2, none⟩ k u (fun e => hk (by simp [e]))
set_option maxHeartbeats 1600000 in
theorem byte_any (W0 w : World) (c : Nat) (bs : List UInt8) (bv : Value) (s : St) (h : At W0 w c bs bv s) :
    Calls Try.prog 55 #[.pointer (some ⟨c, 0, none⟩)] w fun e w' => e = .returned (.int .i64 (byteF bs s)) ∧ Next W0 w c bs bv (byteS bs s) w' := by
  obtain ⟨c0, c1, c2, cf⟩ := h.cells
  have f1 := cf 1
  have f2 := cf 2
  have H := Lib.hid h
  obtain ⟨ba, bc, rfl, hbl, hbb⟩ := h.bytes
  have HBB := Lib.hid hbb
  have hle := h.le
  have HF : Hid (byteF bs s = if s.i < bs.length then bits .and .i64 (xorX (nextH s.h) + ((bs.getD s.i 0).toNat : Int)) 255 else xorX (nextH s.h)) := rfl
  have HS : Hid (byteS bs s = if s.i < bs.length then ⟨s.i + 1, nextH s.h⟩ else ⟨s.i, nextH s.h⟩) := rfl
  clear cf h hbb
  go_enter Try.func55, Try.ntmps55
  go_wp2_with fail
  rw [show wrap64 (wrap64 (s.h * 6364136223846793005) + 1442695040888963407) = nextH s.h from rfl]
  generalize wrap64 (s.h * 6364136223846793005) = z9
  have H1 := Lib.hid (H.out.stored (nextH s.h) (nextH_in s.h))
  have hx := nextH_in s.h
  generalize nextH s.h = x at H1 hx HF HS ⊢
  obtain ⟨x1, x2⟩ := hx
  obtain ⟨d0, d1, d2, df⟩ := H1.out.cells
  have g1 := df 1
  have g2 := df 2
  clear df c0 c1 c2 f1 f2
  go_quiet (fail)
  go_wp2_with fail
  rw [show bits BinOp.and IntKind.i64 (bits BinOp.xor IntKind.i64 (x / 8589934592) (x / 35184372088832)) 255 = xorX x from rfl]
  generalize x / 8589934592 = z1
  generalize x / 35184372088832 = z2
  generalize bits BinOp.xor IntKind.i64 z1 z2 = z3
  have hxr := xorX_range x
  generalize xorX x = y at hxr HF HS ⊢
  obtain ⟨y1, y2⟩ := hxr
  by_cases hlt : s.i < bs.length
  · obtain ⟨g, o, rfl, hcell⟩ := HBB.out (by omega)
    have hce := H1.out.old.cell (p := ⟨g, o + s.i, none⟩) (cell_lt (hcell s.i hlt))
    rw [hcell s.i hlt] at hce
    have hgd : bs.getD s.i 0 = bs[s.i] := by simp [hlt]
    rw [if_pos hlt, hgd] at HF
    rw [if_pos hlt] at HS
    have hbt : bs[s.i].toNat < 256 := bs[s.i].toNat_lt
    generalize bs[s.i].toNat = b at hce HF hbt
    have e1 : IntKind.i64.wrap (b : Int) = b := IntWalk.i64_in _ (by omega)
    have e2 : IntKind.i64.wrap (y + (b : Int)) = y + b := IntWalk.i64_in _ (by omega)
    clear hcell hgd
    go_quiet (fail)
    go_wp2_with fail
    go_quiet (fail)
    clear e1 e2
    go_wp2_with fail
    go_ret
    refine ⟨by rw [HF.out]; rfl, ?_⟩
    rw [HS.out]
    rw [show ((s.i : Int) + 1) = ((s.i + 1 : Nat) : Int) from by omega]
    exact ⟨(H1.out.drewN _).moved (show s.i + 1 ≤ bs.length by omega), grown_set2 _ _ _ _ _⟩
  · rw [if_neg hlt] at HF HS
    go_quiet (fail)
    go_wp2_with fail
    go_ret
    refine ⟨by rw [HF.out]; rfl, ?_⟩
    rw [HS.out]
    exact ⟨(H1.out.drewN _).drewN _, grown_drewN (grown_set1 _ _ _ _) _⟩
theorem Next.trans {W0 w w1 w2 : World} {c : Nat} {bs : List UInt8} {bv : Value} {s s2 : St} (h : Next W0 w c bs bv s w1) (k : Next W0 w1 c bs bv s2 w2) : Next W0 w c bs bv s2 w2 := ⟨k.1, h.2.trans k.2⟩
theorem Next.refl {W0 w : World} {c : Nat} {bs : List UInt8} {bv : Value} {s : St} (h : At W0 w c bs bv s) : Next W0 w c bs bv s w := ⟨h, World.grownBy.refl _ _⟩
/-- A number below n. -/
def belowF (bs : List UInt8) (n : Int) (s : St) : Int :=
  if n ≤ 0 then 0 else if n ≤ 256 then byteF bs s % n
  else (byteF bs s * 16777216 + byteF bs (byteS bs s) * 65536 + byteF bs (byteS bs (byteS bs s)) * 256 + byteF bs (byteS bs (byteS bs (byteS bs s)))) % n
def belowS (bs : List UInt8) (n : Int) (s : St) : St :=
  if n ≤ 0 then s else if n ≤ 256 then byteS bs s else byteS bs (byteS bs (byteS bs (byteS bs s)))
theorem belowF_range (bs : List UInt8) (n : Int) (s : St) (h : 0 < n) : 0 ≤ belowF bs n s ∧ belowF bs n s < n := by
  unfold belowF
  rw [if_neg (by omega)]
  split
  · exact ⟨Int.emod_nonneg _ (by omega), Int.emod_lt_of_pos _ h⟩
  · exact ⟨Int.emod_nonneg _ (by omega), Int.emod_lt_of_pos _ h⟩
theorem ret_n {a b : Int} (h : a = b) : Ending.returned (.int .i64 a) = .returned (.int .i64 b) := by rw [h]
set_option maxHeartbeats 800000 in
theorem below_any (W0 w : World) (c : Nat) (bs : List UInt8) (bv : Value) (s : St) (n : Int) (h : At W0 w c bs bv s) (hn : InI n) :
    Calls Try.prog 34 #[.pointer (some ⟨c, 0, none⟩), .int .i64 n] w fun e w' => e = .returned (.int .i64 (belowF bs n s)) ∧ Next W0 w c bs bv (belowS bs n s) w' := by
  obtain ⟨n1, n2⟩ := hn
  rcases (by omega : n ≤ 0 ∨ (0 < n ∧ n ≤ 256) ∨ 256 < n) with h0 | ⟨h0, h1⟩ | h0
  · have HF : Hid (belowF bs n s = 0) := by show _ = _; unfold belowF; rw [if_pos h0]
    have HS : Hid (belowS bs n s = s) := by show _ = _; unfold belowS; rw [if_pos h0]
    have H := Lib.hid h
    clear h
    go_enter Try.func34, Try.ntmps34
    go_wp2
    go_ret
    exact ⟨ret_n HF.out.symm, by rw [HS.out]; exact Next.refl H.out⟩
  · have HF : Hid (belowF bs n s = byteF bs s % n) := by show _ = _; unfold belowF; rw [if_neg (by omega), if_pos h1]
    have HS : Hid (belowS bs n s = byteS bs s) := by show _ = _; unfold belowS; rw [if_neg (by omega), if_pos h1]
    have C := Lib.hid (byte_any W0 w c bs bv s h)
    have hr := byteF_range bs s
    generalize byteF bs s = x at C hr HF
    obtain ⟨r1, r2⟩ := hr
    have hm := Int.emod_lt_of_pos x h0
    clear h
    go_enter Try.func34, Try.ntmps34
    go_wp2_with fail
    refine C.out.mono ?_
    rintro e w1 ⟨rfl, hx⟩
    have HX := Lib.hid hx
    clear hx
    go_wp2
    go_ret
    exact ⟨ret_n HF.out.symm, by rw [HS.out]; exact HX.out⟩
  · have HF : Hid (belowF bs n s = (byteF bs s * 16777216 + byteF bs (byteS bs s) * 65536 + byteF bs (byteS bs (byteS bs s)) * 256 + byteF bs (byteS bs (byteS bs (byteS bs s)))) % n) := by show _ = _; unfold belowF; rw [if_neg (by omega), if_neg (by omega)]
    have HS : Hid (belowS bs n s = byteS bs (byteS bs (byteS bs (byteS bs s)))) := by show _ = _; unfold belowS; rw [if_neg (by omega), if_neg (by omega)]
    have C := Lib.hid (fun w s h => byte_any W0 w c bs bv s h)
    have H := Lib.hid h
    have ha := byteF_range bs s
    have hb := byteF_range bs (byteS bs s)
    have hc := byteF_range bs (byteS bs (byteS bs s))
    have hd := byteF_range bs (byteS bs (byteS bs (byteS bs s)))
    obtain ⟨xa, ea⟩ : ∃ x, x = byteF bs s := ⟨_, rfl⟩
    obtain ⟨xb, eb⟩ : ∃ x, x = byteF bs (byteS bs s) := ⟨_, rfl⟩
    obtain ⟨xc, ec⟩ : ∃ x, x = byteF bs (byteS bs (byteS bs s)) := ⟨_, rfl⟩
    obtain ⟨xd, ed⟩ : ∃ x, x = byteF bs (byteS bs (byteS bs (byteS bs s))) := ⟨_, rfl⟩
    rw [← ea, ← eb, ← ec, ← ed] at HF
    rw [← ea] at ha
    rw [← eb] at hb
    rw [← ec] at hc
    rw [← ed] at hd
    have EA := Lib.hid ea
    have EB := Lib.hid eb
    have EC := Lib.hid ec
    have ED := Lib.hid ed
    obtain ⟨a1, a2⟩ := ha
    obtain ⟨b1, b2⟩ := hb
    obtain ⟨c1, c2⟩ := hc
    obtain ⟨d1, d2⟩ := hd
    have hm := Int.emod_lt_of_pos (xa * 16777216 + xb * 65536 + xc * 256 + xd) (show 0 < n by omega)
    clear h ea eb ec ed
    go_enter Try.func34, Try.ntmps34
    go_wp2_with fail
    refine (C.out _ _ H.out).mono ?_
    rintro e w1 ⟨rfl, hx⟩
    rw [← EA.out]
    have X1 := Lib.hid hx
    clear hx
    go_wp2_with fail
    refine (C.out _ _ X1.out.1).mono ?_
    rintro e w2 ⟨rfl, hx⟩
    rw [← EB.out]
    have X2 := Lib.hid (X1.out.trans hx)
    clear hx
    go_wp2_with fail
    refine (C.out _ _ X2.out.1).mono ?_
    rintro e w3 ⟨rfl, hx⟩
    rw [← EC.out]
    have X3 := Lib.hid (X2.out.trans hx)
    clear hx
    go_wp2_with fail
    refine (C.out _ _ X3.out.1).mono ?_
    rintro e w4 ⟨rfl, hx⟩
    rw [← ED.out]
    have X4 := Lib.hid (X3.out.trans hx)
    clear hx
    go_wp2
    go_ret
    exact ⟨ret_n HF.out.symm, by rw [HS.out]; exact X4.out⟩
/-- One of a list's elements. -/
def pickN (bs : List UInt8) (n : Nat) (s : St) : Nat := (belowF bs (n : Int) s).toNat
theorem pickN_lt (bs : List UInt8) (n : Nat) (s : St) (h : 0 < n) : pickN bs n s < n := by
  have := belowF_range bs (n : Int) s (by omega)
  unfold pickN; omega
theorem pickN_eq (bs : List UInt8) (n : Nat) (s : St) (h : 0 < n) : belowF bs (n : Int) s = (pickN bs n s : Int) := by
  have := belowF_range bs (n : Int) s (by omega)
  unfold pickN; omega
theorem row_cell_at {w : World} {g : Nat} {xs : List Value} {T : TypeId} {z : Nat × Nat} (h : w.heap[g]? = some (.cells xs.toArray T z)) (i : Nat) (hi : i < xs.length) : w.cell? ⟨g, i, none⟩ = some xs[i] := by
  rw [cell_of_row w g i _ _ _ h]; simp [hi]
/-- The number that a draw begins with. -/
def mixF (h : Int) (b : UInt8) : Int := bits .and .i64 (h * 131 + (b.toNat : Int) + 7) 1073741823
theorem mixF_range (h : Int) (b : UInt8) : 0 ≤ mixF h b ∧ mixF h b ≤ 1073741823 := and_range _ 1073741823 (by decide)
def seedL (l : List UInt8) (h : Int) : Int := l.foldl mixF h
def newS (bs : List UInt8) : St := ⟨0, seedL (bs.take 4000) (94701 + (bs.length : Int))⟩
theorem seedL_drop {bs : List UInt8} {i : Nat} {h : Int} (hi : i < bs.length) (h4 : i < 4000) : seedL ((bs.take 4000).drop i) h = seedL ((bs.take 4000).drop (i + 1)) (mixF h bs[i]) := by
  have hl : i < (bs.take 4000).length := by simp; omega
  rw [List.drop_eq_getElem_cons hl]
  unfold seedL
  rw [List.foldl_cons]
  simp
theorem seedL_end {bs : List UInt8} {i : Nat} {h : Int} (hi : bs.length ≤ i ∨ 4000 ≤ i) : seedL ((bs.take 4000).drop i) h = h := by
  rw [List.drop_of_length_le (by simp; omega)]; rfl
theorem new_at {w : World} {bs : List UInt8} {bv : Value} {h : Int} (hb : BytesAt w bs bv) (hs : (newS bs).h = h) (hi : InI h) : At w (w.alloc (.cells #[bv, .int .i64 0, .int .i64 h] 79)) w.heap.size bs bv (newS bs) := by
  refine ⟨hb, (Below.refl _ _).alloc (Nat.le_refl _) _, Nat.le_refl _, ?_, Nat.zero_le _, by rw [hs]; exact hi⟩
  rw [hs, heap_alloc_new]
  rfl
set_option maxRecDepth 100000 in
set_option maxHeartbeats 800000 in
theorem new_any (bs : List UInt8) (bv : Value) (w : World) (hb : BytesAt w bs bv) (hl : bs.length ≤ 1048576) :
    Calls Try.prog 33 #[bv] w fun e w' => e = .returned (.pointer (some ⟨w.heap.size, 0, none⟩)) ∧ At w w' w.heap.size bs bv (newS bs) ∧ w.grownBy w' none := by
  have HB := Lib.hid hb
  obtain ⟨ba, bc, rfl, hbl, hbb⟩ := hb
  have HBB := Lib.hid hbb
  have HN : Hid ((newS bs).h = seedL ((bs.take 4000).drop 0) (94701 + (bs.length : Int))) := rfl
  clear hbb
  go_enter Try.func33, Try.ntmps33
  go_wp2
  go_loop [3, 4] (fun x i => ∃ (k : Nat) (h : Int), k ≤ bs.length ∧ k ≤ 4000 ∧ 0 ≤ h ∧ h ≤ 1073741823 ∧ i = .int .i64 k ∧ x = .int .i64 h ∧ Hid ((newS bs).h = seedL ((bs.take 4000).drop k) h))
    (fun _ i => 4000 - (intOf i).toNat)
  case atStart => exact ⟨0, _, Nat.zero_le _, Nat.zero_le _, by omega, by omega, rfl, rfl, HN.out⟩
  case round =>
    obtain ⟨k, h, hk, hk4, h1, h2, rfl, rfl, hs⟩ := hrel
    by_cases hlt : k < bs.length
    · by_cases hlt4 : k < 4000
      · obtain ⟨g, o, rfl, hcell⟩ := HBB.out (by omega)
        have hce := hcell k hlt
        have hm := mixF_range h bs[k]
        have HS : Hid ((newS bs).h = seedL ((bs.take 4000).drop (k + 1)) (mixF h bs[k])) := by show (newS bs).h = _; rw [hs.out, seedL_drop hlt hlt4]
        have HM : Hid (mixF h bs[k] = bits .and .i64 (h * 131 + (bs[k].toNat : Int) + 7) 1073741823) := rfl
        have hbt : bs[k].toNat < 256 := bs[k].toNat_lt
        clear hcell
        generalize mixF h bs[k] = y at hm HS HM
        generalize bs[k].toNat = b at hce HM hbt
        obtain ⟨y1, y2⟩ := hm
        go_wp2
        rw [← HM.out]
        go_round
        case rel => exact ⟨k + 1, y, by omega, by omega, y1, y2, by go_num, rfl, HS⟩
        case measure => simp [intOf]; omega
      · have HS : Hid ((newS bs).h = h) := by show _ = _; rw [hs.out, seedL_end (by omega)]
        go_wp2
        go_ret
        exact ⟨rfl, new_at HB.out HS.out ⟨by omega, by omega⟩, World.grownBy_alloc _ _ _⟩
    · have HS : Hid ((newS bs).h = h) := by show _ = _; rw [hs.out, seedL_end (by omega)]
      go_wp2
      go_ret
      exact ⟨rfl, new_at HB.out HS.out ⟨by omega, by omega⟩, World.grownBy_alloc _ _ _⟩
theorem At.grown {W0 w w' : World} {c : Nat} {bs : List UInt8} {bv : Value} {s : St} (h : At W0 w c bs bv s) (hg : w.grownBy w' none) : At W0 w' c bs bv s := by
  have hc : c < w.heap.size := cell_lt (h.cells.1)
  exact ⟨h.bytes, h.old.grown hg h.old.size (fun _ e => by cases e), h.new, (hg.block c hc (by simp)).trans h.block, h.le, h.hI⟩
theorem At.lt {W0 w : World} {c : Nat} {bs : List UInt8} {bv : Value} {s : St} (h : At W0 w c bs bv s) : c < w.heap.size := cell_lt (h.cells.1)
end Go.Proofs.Ytabpbmifegfmgaa.Cur
