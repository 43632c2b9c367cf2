/- The model's text of a term of one kid, and its TermText, walked. Conditions: the term lies in memory; its text is short. -/
import Derived.Test.YtokmghhnifdcpaaDoorTextTwo
namespace Go.Proofs.YtokmghhnifdcpaaDoor.Trm
open Go.RowKit Own Decimals
theorem moves_at {w w' : World} {v : Value} {g n cap H : Nat} (hg : w.grownBy w' v.ownBlock) (hat : v.ownBlock = some g ∨ g = H) (hH : w.heap.size = H) : Moves w v w' (.slice (some ⟨g, 0, none⟩) n cap) := by
  refine ⟨hg, ?_⟩
  rcases hat with h | h
  · exact .inl h.symm
  · exact .inr fun k hk => by cases hk; show _ ≤ g; omega
set_option maxRecDepth 20000 in
set_option maxHeartbeats 1600000 in
theorem say_not (m : Int) (s : ByteArray) (a : Tree) (iha : SayOk a) (v ov : Value) (w0 w : World) (n : Nat) (xs : List Value) (r : Nat) (hra : rightB a r = true) (hn : n + 41 + 20 * szT a ≤ 30000000) (hl : Lies w0 (.node 8 m s [a]) v) (hbe : Below w0.heap.size w0 w) (hown : w.ownsRow w0.heap.size 5 1 ov n xs) :
    Calls Tryd.prog 11 #[ov, v] w fun e w' => ∃ ov', e = .returned ov' ∧ w'.ownsRow w0.heap.size 5 1 ov' (n + (txB (.node 8 m s [a])).size) (xs ++ Lib.strCells (txB (.node 8 m s [a]))) ∧ Moves w ov w' ov' := by
  obtain ⟨i0, hi, hz0, hz1, hz2⟩ := info_parts infoU8
  have HR : Hid (txB (.node 8 m s [a]) = ⟨#[40, 110, 111, 116, 32]⟩ ++ txB a ++ ⟨#[41]⟩) := txB_not _ _ _
  have hsa := txB_size a r hra
  obtain ⟨_, _, _, _, aa, cap, rfl, h5⟩ := hl
  obtain ⟨g, o, rfl, hL⟩ := h5 (by simp)
  obtain ⟨⟨ka, kc, c0, c1, c2, c3, la⟩, _⟩ := hL
  change Calls Tryd.prog 11 #[ov, .agg #[.int .i64 8, .int .i64 m, .string s, .slice (some ⟨g, o, none⟩) 1 cap]] w _
  obtain ⟨W, hW⟩ : ∃ W, W = w.alloc (.cells #[.int .i64 8, .int .i64 m, .string s, .slice (some ⟨g, o, none⟩) 1 cap] 29) := ⟨_, rfl⟩
  have hblk : W.heap[w.heap.size]? = some (.cells #[.int .i64 8, .int .i64 m, .string s, .slice (some ⟨g, o, none⟩) 1 cap] 29 (0, 0)) := by rw [hW]; exact heap_alloc_new _ _
  have hrW : W.ownsRow w0.heap.size 5 1 ov n xs := by rw [hW]; exact hown.alloc _
  have hbW : Below w0.heap.size w0 W := by rw [hW]; exact hbe.alloc hbe.size _
  have hnb := row_not hown
  have KS : Hid (∀ wx x, Moves W ov wx x → Below w0.heap.size w0 wx) := fun wx x hm => hm.below hbW hrW
  have K8 : Hid (∀ wx x, Moves W ov wx x → wx.cell? ⟨w.heap.size, 3, none⟩ = some (.slice (some ⟨g, o, none⟩) 1 cap) ∧ wx.cell? ⟨g, o, none⟩ = some (.int .i64 a.kind) ∧ wx.cell? ⟨g, o + 1, none⟩ = some (.int .i64 a.num) ∧ wx.cell? ⟨g, o + 2, none⟩ = some (.string a.name) ∧ wx.cell? ⟨g, o + 3, none⟩ = some (.slice ka a.kids.length kc)) := by
    intro wx x hm
    have hk := keeps_below (hm.below hbW hrW)
    obtain ⟨h1, _⟩ := hm.blk hblk hnb
    exact ⟨(cells4 h1).2.2.2, hk _ _ c0, hk _ _ c1, hk _ _ c2, hk _ _ c3⟩
  have CA : Hid (∀ (x : Value) (w1 : World) (n1 : Nat) (xs1 : List Value), n1 + 21 + 20 * szT a ≤ 30000000 → Below w0.heap.size w0 w1 → w1.ownsRow w0.heap.size 5 1 x n1 xs1 → Calls Tryd.prog 11 #[x, .agg #[.int .i64 a.kind, .int .i64 a.num, .string a.name, .slice ka a.kids.length kc]] w1 fun e w' => ∃ ov', e = .returned ov' ∧ w'.ownsRow w0.heap.size 5 1 ov' (n1 + (txB a).size) (xs1 ++ Lib.strCells (txB a)) ∧ Moves w1 x w' ov') :=
    fun x w1 n1 xs1 h1 h2 h3 => iha _ x w0 w1 n1 xs1 r hra h1 la h2 h3
  have HRW := Lib.hid hrW
  have HW := Lib.hid hW
  have hws : w0.heap.size ≤ W.heap.size := hbW.size
  generalize txB a = xa at HR CA hsa
  generalize szT a = sa at CA hsa hn
  have m0 : Moves W ov W.drew ov := (Moves.refl _ _).drew
  have m0b : Moves W ov (W.alloc (.cells #[.int .u8 41] 5)).drew ov := (Moves.alloc _ _ _).drew
  have HI := Lib.hid hi
  have HZ0 := Lib.hid hz0
  have HZ1 := Lib.hid hz1
  have HZ2 := Lib.hid hz2
  clear h5 c0 c1 c2 c3 la iha hbe hown hblk hrW hbW hnb hW hra hi hz0 hz1 hz2
  go_enter Tryd.func11, Tryd.ntmps11
  go_wp2_with fail
  rw [← HW.out]
  obtain ⟨q3, a0, a1, a2, a3⟩ := K8.out _ _ m0
  go_region_held3 (fun wx => wx.cell? ⟨w.heap.size, 3, none⟩ = some (.slice (some ⟨g, o, none⟩) 1 cap) ∧ wx.cell? ⟨g, o, none⟩ = some (.int .i64 a.kind) ∧ wx.cell? ⟨g, o + 1, none⟩ = some (.int .i64 a.num) ∧ wx.cell? ⟨g, o + 2, none⟩ = some (.string a.name) ∧ wx.cell? ⟨g, o + 3, none⟩ = some (.slice ka a.kids.length kc))
    (first | exact K8.out _ _ (by assumption) | go_keep)
    (first
    | (refine step_append_str rfl (.tmp 22) (.const (.string ⟨#[40, 110, 111, 116, 32]⟩)) 35 9 rfl w0.heap.size 5 i0 Tryd.underlying35 Tryd.underlying9 HI.out HZ0.out HZ1.out HZ2.out ov n xs rfl HRW.out.drew ⟨#[40, 110, 111, 116, 32]⟩ rfl (by show n + 5 ≤ _; unfold maxLen; omega) (by show n + 5 ≤ _; omega) (by show _ ≤ W.heap.size; omega) ?_; intro x1 w1 hr1 hm1; have m1 : Moves W ov w1 x1 := m0.trans hm1)
    | (refine step_append_str rfl (.tmp 22) (.const (.string ⟨#[40, 110, 111, 116, 32]⟩)) 35 9 rfl w0.heap.size 5 i0 Tryd.underlying35 Tryd.underlying9 HI.out HZ0.out HZ1.out HZ2.out ov n xs rfl (HRW.out.alloc (.cells #[.int .u8 41] 5)).drew ⟨#[40, 110, 111, 116, 32]⟩ rfl (by show n + 5 ≤ _; unfold maxLen; omega) (by show n + 5 ≤ _; omega) (by simp; omega) ?_; intro x1 w1 hr1 hm1; have m1 : Moves W ov w1 x1 := m0b.trans hm1; have kb1 := hm1.blk (heap_alloc_new W (.cells #[.int .u8 41] 5)) (row_not HRW.out))
    | (go_at_call 11; refine (CA.out x1 w1 (n + 5) _ (by omega) (KS.out _ _ m1) hr1).mono ?_; rintro e w2 ⟨x2, rfl, hr2, hm2⟩; have m2 := m1.trans hm2; first | have kb2 := hm2.blk kb1.1 kb1.2 | skip)
    | (go_at_call 11; refine (CA.out x1 (w1.alloc (.cells #[.int .u8 41] 5)) (n + 5) _ (by omega) (KS.out _ _ (m1.trans (Moves.alloc _ _ _))) (hr1.alloc _)).mono ?_; rintro e w2 ⟨x2, rfl, hr2, hm2⟩; have m2 := (m1.trans (Moves.alloc _ _ _)).trans hm2; have kb2 := hm2.blk (heap_alloc_new w1 (.cells #[.int .u8 41] 5)) (row_not hr1))
    | (refine step_append_lies _ rfl (.tmp 28) (.tmp 29) 35 rfl w0.heap.size 5 i0 (.int .u8 0) 1 1 Tryd.underlying35 HI.out HZ0.out HZ1.out HZ2.out rfl (by decide) x2 (n + 5 + xa.size) _ rfl hr2 ⟨_, 0, none⟩ 1 1 [.int .u8 41] rfl rfl (World.news_of_block kb2.1) (one_byte _) (by decide) (by unfold maxLen; omega) (by omega) (by have := m2.1.size; omega) _ rfl ?_; intro g6 cap6 w6 hr6 hg6 hat6 hlt6; have m6 : Moves W ov w6 (.slice (some ⟨g6, 0, none⟩) (n + 5 + xa.size + 1) cap6) := m2.trans (moves_at hg6 hat6 rfl))
    | (refine step_append_lies _ rfl (.tmp 28) (.tmp 29) 35 rfl w0.heap.size 5 i0 (.int .u8 0) 1 1 Tryd.underlying35 HI.out HZ0.out HZ1.out HZ2.out rfl (by decide) x2 (n + 5 + xa.size) _ rfl (hr2.alloc (.cells #[.int .u8 41] 5)) ⟨_, 0, none⟩ 1 1 [.int .u8 41] rfl rfl (World.news_of_block (heap_alloc_new w2 _)) (one_byte _) (by decide) (by unfold maxLen; omega) (by omega) (by have := m2.1.size; simp; omega) (w2.heap.size + 1) (by simp) ?_; intro g6 cap6 w6 hr6 hg6 hat6 hlt6; have m6 : Moves W ov w6 (.slice (some ⟨g6, 0, none⟩) (n + 5 + xa.size + 1) cap6) := m2.trans (moves_lies (.cells #[.int .u8 41] 5) hg6 hat6 (by simp))))
  all_goals
    have R6 := Lib.hid hr6
    have M6 := Lib.hid m6
    go_wp2_with fail
    go_ret
    refine ⟨_, rfl, ?_, ?_⟩
    · rw [HR.out]
      have hs : (⟨#[40, 110, 111, 116, 32]⟩ ++ xa ++ ⟨#[41]⟩ : ByteArray).size = 5 + xa.size + 1 := by
        simp only [ByteArray.size_append]
        have e1 : ByteArray.size ⟨#[40, 110, 111, 116, 32]⟩ = 5 := rfl
        have e2 : ByteArray.size ⟨#[41]⟩ = 1 := rfl
        omega
      have e : xs ++ Lib.strCells (⟨#[40, 110, 111, 116, 32]⟩ ++ xa ++ ⟨#[41]⟩) = xs ++ Lib.strCells ⟨#[40, 110, 111, 116, 32]⟩ ++ Lib.strCells xa ++ [.int .u8 41] := by
        have e2 : Lib.strCells ⟨#[41]⟩ = [.int .u8 41] := rfl
        simp only [strCells_append, e2, List.append_assoc]
      rw [hs, e, show n + (5 + xa.size + 1) = n + 5 + xa.size + 1 from by omega]
      exact R6.out
    · have := M6.out
      rw [HW.out] at this
      exact (Moves.alloc _ _ _).trans this
theorem specSay_any : ∀ t : Tree, SayOk t := treeInd fun k m s ks ih v ov w0 w n xs r hr hn hl hbe hown => by
  rcases right_cases hr with ⟨rfl, h0, h1⟩ | rfl | ⟨rfl, a, rfl, ha⟩ | ⟨h1, h2, h8, h3, h9, a, b, rfl, ha, hb⟩
  · exact say_num m s ks v ov w0 w n xs h0 h1 (by omega) hl hbe hown
  · rw [szT] at hn
    exact say_var m s ks v ov w0 w n xs (by omega) hl hbe hown
  · rw [szT, szS, szS] at hn
    simp only [List.length_cons, List.length_nil] at hn
    exact say_not m s a (ih a (by simp)) v ov w0 w n xs _ ha (by omega) hl hbe hown
  · rw [szT, szS, szS, szS] at hn
    simp only [List.length_cons, List.length_nil] at hn
    exact say_pair k m s a b h1 h2 h8 h3 h9 (ih a (by simp)) (ih b (by simp)) v ov w0 w n xs _ ha hb (by omega) hl hbe hown
end Go.Proofs.YtokmghhnifdcpaaDoor.Trm
