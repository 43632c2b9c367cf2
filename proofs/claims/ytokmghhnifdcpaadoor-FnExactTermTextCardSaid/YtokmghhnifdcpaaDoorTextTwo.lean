/- The model's text of a term of two kids, walked. Conditions: the term lies in memory; its text is short. -/
import Derived.Test.YtokmghhnifdcpaaDoorTextSpec
namespace Go.Proofs.YtokmghhnifdcpaaDoor.Trm
open Go.RowKit Own Decimals
theorem cells4 {w : World} {b : Nat} {c0 c1 c2 c3 : Value} {T : TypeId} {z : Nat × Nat} (h : w.heap[b]? = some (.cells #[c0, c1, c2, c3] T z)) : Box4 w b c0 c1 c2 c3 := by
  refine ⟨?_, ?_, ?_, ?_⟩ <;> simp [World.cell?, h]
theorem moves_lies {w w' : World} {v : Value} {g n cap H : Nat} (o : Obj) (hg : (w.alloc o).grownBy w' v.ownBlock) (hat : v.ownBlock = some g ∨ g = H) (hH : (w.alloc o).heap.size = H) : Moves w v w' (.slice (some ⟨g, 0, none⟩) n cap) := by
  refine (Moves.alloc w o v).trans ⟨hg, ?_⟩
  rcases hat with h | h
  · exact .inl h.symm
  · exact .inr fun k hk => by cases hk; show _ ≤ g; omega
set_option maxRecDepth 20000 in
set_option maxHeartbeats 1600000 in
theorem say_pair (k m : Int) (s : ByteArray) (a b : Tree) (hk1 : k ≠ 1) (hk2 : k ≠ 2) (hk8 : k ≠ 8) (hk3 : 3 ≤ k) (hk9 : k ≤ 9) (iha : SayOk a) (ihb : SayOk b) (v ov : Value) (w0 w : World) (n : Nat) (xs : List Value) (r : Nat) (hra : rightB a r = true) (hrb : rightB b r = true) (hn : n + 61 + 20 * szT a + 20 * szT b ≤ 30000000) (hl : Lies w0 (.node k m s [a, b]) v) (hbe : Below w0.heap.size w0 w) (hown : w.ownsRow w0.heap.size 5 1 ov n xs) :
    Calls Tryd.prog 11 #[ov, v] w fun e w' => ∃ ov', e = .returned ov' ∧ w'.ownsRow w0.heap.size 5 1 ov' (n + (txB (.node k m s [a, b])).size) (xs ++ Lib.strCells (txB (.node k m s [a, b]))) ∧ Moves w ov w' ov' := by
  obtain ⟨i0, hi, hz0, hz1, hz2⟩ := info_parts infoU8
  have HR : Hid (txB (.node k m s [a, b]) = ⟨#[40]⟩ ++ txB a ++ ⟨#[32]⟩ ++ pairSg k ++ ⟨#[32]⟩ ++ txB b ++ ⟨#[41]⟩) := txB_pair hk1 hk2 hk8
  have hsa := txB_size a r hra
  have hsb := txB_size b r hrb
  have hsk := pairSg_size k
  obtain ⟨_, _, _, _, aa, cap, rfl, h5⟩ := hl
  obtain ⟨g, o, rfl, hL⟩ := h5 (by simp)
  obtain ⟨⟨ka, kc, c0, c1, c2, c3, la⟩, ⟨⟨kb, kd, d0, d1, d2, d3, lb⟩, _⟩⟩ := hL
  change Calls Tryd.prog 11 #[ov, .agg #[.int .i64 k, .int .i64 m, .string s, .slice (some ⟨g, o, none⟩) 2 cap]] w _
  obtain ⟨W, hW⟩ : ∃ W, W = w.alloc (.cells #[.int .i64 k, .int .i64 m, .string s, .slice (some ⟨g, o, none⟩) 2 cap] 29) := ⟨_, rfl⟩
  have hblk : W.heap[w.heap.size]? = some (.cells #[.int .i64 k, .int .i64 m, .string s, .slice (some ⟨g, o, none⟩) 2 cap] 29 (0, 0)) := by rw [hW]; exact heap_alloc_new _ _
  have hrW : W.ownsRow w0.heap.size 5 1 ov n xs := by rw [hW]; exact hown.alloc _
  have hbW : Below w0.heap.size w0 W := by rw [hW]; exact hbe.alloc hbe.size _
  have hnb := row_not hown
  have KS : Hid (∀ wx x, Moves W ov wx x → Below w0.heap.size w0 wx ∧ x.ownBlock ≠ some w.heap.size ∧ Box4 wx w.heap.size (.int .i64 k) (.int .i64 m) (.string s) (.slice (some ⟨g, o, none⟩) 2 cap) ∧
      (wx.cell? ⟨g, o, none⟩ = some (.int .i64 a.kind) ∧ wx.cell? ⟨g, o + 1, none⟩ = some (.int .i64 a.num) ∧ wx.cell? ⟨g, o + 2, none⟩ = some (.string a.name) ∧ wx.cell? ⟨g, o + 3, none⟩ = some (.slice ka a.kids.length kc)) ∧
      (wx.cell? ⟨g, o + 4, none⟩ = some (.int .i64 b.kind) ∧ wx.cell? ⟨g, o + 4 + 1, none⟩ = some (.int .i64 b.num) ∧ wx.cell? ⟨g, o + 4 + 2, none⟩ = some (.string b.name) ∧ wx.cell? ⟨g, o + 4 + 3, none⟩ = some (.slice kb b.kids.length kd))) := by
    intro wx x hm
    have hb := hm.below hbW hrW
    have hk := keeps_below hb
    obtain ⟨h1, h2⟩ := hm.blk hblk hnb
    exact ⟨hb, h2, cells4 h1, ⟨hk _ _ c0, hk _ _ c1, hk _ _ c2, hk _ _ c3⟩, ⟨hk _ _ d0, hk _ _ d1, hk _ _ d2, hk _ _ d3⟩⟩
  have K8 : Hid (∀ wx x, Moves W ov wx x → wx.cell? ⟨w.heap.size, 3, none⟩ = some (.slice (some ⟨g, o, none⟩) 2 cap) ∧ wx.cell? ⟨g, o, none⟩ = some (.int .i64 a.kind) ∧ wx.cell? ⟨g, o + 1, none⟩ = some (.int .i64 a.num) ∧ wx.cell? ⟨g, o + 2, none⟩ = some (.string a.name) ∧ wx.cell? ⟨g, o + 3, none⟩ = some (.slice ka a.kids.length kc)) := by
    intro wx x hm
    obtain ⟨_, _, h3, h4, _⟩ := KS.out wx x hm
    exact ⟨h3.2.2.2, h4⟩
  have CA : Hid (∀ (x : Value) (w1 : World) (n1 : Nat) (xs1 : List Value), n1 + 21 + 20 * szT a ≤ 30000000 → Below w0.heap.size w0 w1 → w1.ownsRow w0.heap.size 5 1 x n1 xs1 → Calls Tryd.prog 11 #[x, .agg #[.int .i64 a.kind, .int .i64 a.num, .string a.name, .slice ka a.kids.length kc]] w1 fun e w' => ∃ ov', e = .returned ov' ∧ w'.ownsRow w0.heap.size 5 1 ov' (n1 + (txB a).size) (xs1 ++ Lib.strCells (txB a)) ∧ Moves w1 x w' ov') :=
    fun x w1 n1 xs1 h1 h2 h3 => iha _ x w0 w1 n1 xs1 r hra h1 la h2 h3
  have CB : Hid (∀ (x : Value) (w1 : World) (n1 : Nat) (xs1 : List Value), n1 + 21 + 20 * szT b ≤ 30000000 → Below w0.heap.size w0 w1 → w1.ownsRow w0.heap.size 5 1 x n1 xs1 → Calls Tryd.prog 11 #[x, .agg #[.int .i64 b.kind, .int .i64 b.num, .string b.name, .slice kb b.kids.length kd]] w1 fun e w' => ∃ ov', e = .returned ov' ∧ w'.ownsRow w0.heap.size 5 1 ov' (n1 + (txB b).size) (xs1 ++ Lib.strCells (txB b)) ∧ Moves w1 x w' ov') :=
    fun x w1 n1 xs1 h1 h2 h3 => ihb _ x w0 w1 n1 xs1 r hrb h1 lb h2 h3
  have CG := Lib.hid (fun w => specSign_any k w hk3 hk9 hk8)
  have HRW := Lib.hid hrW
  have HNB := Lib.hid hnb
  have HW := Lib.hid hW
  have hws : w0.heap.size ≤ W.heap.size := hbW.size
  have e1 := ne_true hk1
  have e2 := ne_true hk2
  have e8 := ne_true hk8
  generalize txB a = xa at HR CA hsa
  generalize txB b = xb at HR CB hsb
  generalize pairSg k = xk at HR CG hsk
  generalize szT a = sa at CA hsa hn
  generalize szT b = sb at CB hsb hn
  have z2 : ByteArray.size ⟨#[32]⟩ = 1 := rfl
  obtain ⟨xm, hxm⟩ : ∃ xm : ByteArray, xm = ⟨#[32]⟩ ++ xk ++ ⟨#[32]⟩ := ⟨_, rfl⟩
  have hsm : xm.size ≤ 5 := by rw [hxm]; simp only [ByteArray.size_append]; omega
  have HXM := Lib.hid hxm
  have ad1 : ∀ w, (Op.stringOp .add ⟨#[32]⟩ xk).run Tryd.prog w = .ok (.string (⟨#[32]⟩ ++ xk)) w := fun w => run_string_add_sum w _ _ (by omega)
  have ad2 : ∀ w, (Op.stringOp .add (⟨#[32]⟩ ++ xk) ⟨#[32]⟩).run Tryd.prog w = .ok (.string xm) w := fun w => by rw [hxm]; exact run_string_add_sum w _ _ (by simp only [ByteArray.size_append]; omega)
  have m0 : Moves W ov W.drew ov := (Moves.refl _ _).drew
  have m0b : Moves W ov (W.alloc (.cells #[.int .u8 40] 5)).drew ov := (Moves.alloc _ _ _).drew
  have HI := Lib.hid hi
  have HZ0 := Lib.hid hz0
  have HZ1 := Lib.hid hz1
  have HZ2 := Lib.hid hz2
  clear h5 c0 c1 c2 c3 d0 d1 d2 d3 la lb iha ihb hbe hown hblk hrW hbW hnb hW hra hrb hk1 hk2 hk3 hk9 hk8 hi hz0 hz1 hz2 z2 hxm
  go_enter Tryd.func11, Tryd.ntmps11
  go_wp2_with fail
  rw [← HW.out]
  obtain ⟨q3, a0, a1, a2, a3⟩ := K8.out _ _ m0
  go_region_held3 (fun wx => wx.cell? ⟨w.heap.size, 3, none⟩ = some (.slice (some ⟨g, o, none⟩) 2 cap) ∧ wx.cell? ⟨g, o, none⟩ = some (.int .i64 a.kind) ∧ wx.cell? ⟨g, o + 1, none⟩ = some (.int .i64 a.num) ∧ wx.cell? ⟨g, o + 2, none⟩ = some (.string a.name) ∧ wx.cell? ⟨g, o + 3, none⟩ = some (.slice ka a.kids.length kc))
    (first | exact K8.out _ _ (by assumption) | go_keep)
    (first
    | (refine step_append_lies _ rfl (.tmp 31) (.tmp 32) 35 rfl w0.heap.size 5 i0 (.int .u8 0) 1 1 Tryd.underlying35 HI.out HZ0.out HZ1.out HZ2.out rfl (by decide) ov n xs rfl (HRW.out.alloc _).drew ⟨W.heap.size, 0, none⟩ 1 1 [.int .u8 40] rfl rfl (World.news_of_block (heap_alloc_new W _)) (one_byte _) (by decide) (by unfold maxLen; omega) (by omega) (by simp; omega) (W.heap.size + 1) (by simp) ?_; intro g1 cap1 w1 hr1 hg1 hat1 hlt1; have m1 : Moves W ov w1 (.slice (some ⟨g1, 0, none⟩) (n + 1) cap1) := moves_lies (.cells #[.int .u8 40] 5) ⟨hg1.os, hg1.tape, hg1.output, hg1.size, hg1.block⟩ hat1 (by simp))
    | (go_at_call 11; refine (CA.out _ _ (n + 1) (xs ++ [.int .u8 40]) (by omega) (KS.out _ _ m1).1 hr1).mono ?_; rintro e w2 ⟨x2, rfl, hr2, hm2⟩; have m2 := m1.trans hm2))
  have R2 := Lib.hid hr2
  have M2 := Lib.hid m2
  obtain ⟨_, _, ⟨p0, p1, p2, p3⟩, _, _⟩ := KS.out _ _ m2
  clear hr1 hg1 hat1 hlt1 m1 hr2 hm2 m2 m0 m0b q3 a0 a1 a2 a3
  go_wp2_with fail
  refine (CG.out _).mono ?_
  rintro e w3 ⟨rfl, hb3⟩
  have M3 := Lib.hid (M2.out.trans (moves_below hb3 x2))
  have R3 := Lib.hid (row_below R2.out hb3)
  have hs3 := M3.out.1.size
  clear hb3 p0 p1 p2 p3
  go_wp2_with (at_builtin; refine wpList_append_str rfl (.tmp 39) (.tmp 44) 35 9 rfl w0.heap.size 5 i0 Tryd.underlying35 Tryd.underlying9 HI.out HZ0.out HZ1.out HZ2.out x2 (n + 1 + xa.size) _ rfl R3.out xm rfl (by unfold maxLen; omega) (by omega) (by omega) ?_; intro x4 w4 hr4 hm4; have M4 := Lib.hid (M3.out.trans hm4); obtain ⟨_, _, ⟨p0, p1, p2, p3⟩, _, ⟨b0, b1, b2, b3⟩⟩ := KS.out _ _ (M3.out.trans hm4))
  have R4 := Lib.hid hr4
  clear hr4 hm4
  refine (CB.out x4 w4 (n + 1 + xa.size + xm.size) _ (by omega) (KS.out _ _ M4.out).1 R4.out).mono ?_
  rintro e w5 ⟨x5, rfl, hr5, hm5⟩
  have R5 := Lib.hid hr5
  have M5 := Lib.hid (M4.out.trans hm5)
  have hs5 := M5.out.1.size
  clear hr5 hm5 p0 p1 p2 p3 b0 b1 b2 b3
  go_wp2_with (at_builtin; refine wpList_append_lies _ rfl (.tmp 51) (.tmp 52) 35 rfl w0.heap.size 5 i0 (.int .u8 0) 1 1 Tryd.underlying35 HI.out HZ0.out HZ1.out HZ2.out rfl (by decide) x5 (n + 1 + xa.size + xm.size + xb.size) _ rfl (R5.out.alloc _) ⟨w5.heap.size, 0, none⟩ 1 1 [.int .u8 41] rfl rfl (World.news_of_block (heap_alloc_new _ _)) (one_byte _) (by decide) (by unfold maxLen; omega) (by omega) (by simp; omega) (w5.heap.size + 1) (by simp) ?_; intro g6 cap6 w6 hr6 hg6 hat6 hlt6)
  have M6 : Hid (Moves W ov w6 (.slice (some ⟨g6, 0, none⟩) (n + 1 + xa.size + xm.size + xb.size + 1) cap6)) := M5.out.trans (moves_lies (.cells #[.int .u8 41] 5) hg6 hat6 (by simp))
  have R6 := Lib.hid hr6
  clear hr6 hg6 hat6 hlt6
  go_wp2
  go_ret
  refine ⟨_, rfl, ?_, ?_⟩
  · rw [HR.out]
    have hs : (⟨#[40]⟩ ++ xa ++ ⟨#[32]⟩ ++ xk ++ ⟨#[32]⟩ ++ xb ++ ⟨#[41]⟩ : ByteArray).size = 1 + xa.size + xm.size + xb.size + 1 := by
      rw [HXM.out]
      simp only [ByteArray.size_append]
      have e1 : ByteArray.size ⟨#[40]⟩ = 1 := rfl
      have e2 : ByteArray.size ⟨#[41]⟩ = 1 := rfl
      omega
    have e : xs ++ Lib.strCells (⟨#[40]⟩ ++ xa ++ ⟨#[32]⟩ ++ xk ++ ⟨#[32]⟩ ++ xb ++ ⟨#[41]⟩) = xs ++ [.int .u8 40] ++ Lib.strCells xa ++ Lib.strCells xm ++ Lib.strCells xb ++ [.int .u8 41] := by
      have e1 : Lib.strCells ⟨#[40]⟩ = [.int .u8 40] := rfl
      have e2 : Lib.strCells ⟨#[41]⟩ = [.int .u8 41] := rfl
      rw [HXM.out]
      simp only [strCells_append, e1, e2, List.append_assoc]
    rw [hs, e]
    have := R6.out
    rw [show n + (1 + xa.size + xm.size + xb.size + 1) = n + 1 + xa.size + xm.size + xb.size + 1 from by omega]
    exact this
  · have := M6.out
    rw [HW.out] at this
    exact (Moves.alloc _ _ _).trans this
end Go.Proofs.YtokmghhnifdcpaaDoor.Trm
