/- Rows of numbers put together and held against each other by the library, walked. Conditions: the rows lie in memory; each has at most 2 to the 20 numbers. With what it stands on, in one text. -/
import Derived.Test.YtmhhghdfgdhljaaGreatDoorTextMath
import Derived.Test.YtmhhghdfgdhljaaGreatDoorMovesD
import Derived.Test.YtmhhghdfgdhljaaGreatDoorTermTo
import Derived.Deep.RegionHeld3
import Derived.Deep.AppendLies
import Derived.Test.YtmhhghdfgdhljaaGreatDoorTextImpl
import Derived.Test.YtmhhghdfgdhljaaGreatDoorKLineM
import Derived.Test.YtmhhghdfgdhljaaGreatDoorLinePackA
import Derived.Test.YtmhhghdfgdhljaaGreatDoorDecimalSpec
import Derived.Test.YtmhhghdfgdhljaaGreatDoorChecked
import Derived.Test.YtmhhghdfgdhljaaGreatDoorTermSame
import Derived.Test.YtmhhghdfgdhljaaGreatDoorZeroT
import Derived.WalkSmall
import Derived.Outline
import Derived.Test.YtmhhghdfgdhljaaGreatDoorRightAny
import Derived.Test.YtmhhghdfgdhljaaGreatDoorIndexImpl
import Derived.Test.YtmhhghdfgdhljaaGreatDoorRightSwitch
import Derived.Test.YtmhhghdfgdhljaaGreatDoorTermReads
import Derived.Test.YtmhhghdfgdhljaaGreatDoorKIn
import Derived.Test.YtmhhghdfgdhljaaGreatDoorKProc
import Derived.Test.YtmhhghdfgdhljaaGreatDoorPlaceI
import Derived.Maps.AppendAt
import Derived.Laws.AppendOwnNone
import Derived.Test.YtmhhghdfgdhljaaGreatDoorLists
import Derived.Test.YtmhhghdfgdhljaaGreatDoorTermSize
import Derived.BigQuiet
import Derived.OwnWalk
import Derived.Test.YtmhhghdfgdhljaaGreatDoorTermRight
import Derived.Lib.AppendZeros
/- The model's TermText, walked. Conditions: the term lies in memory; it has at most 2 to the 20 kids and bytes. -/
namespace Go.Proofs.YtmhhghdfgdhljaaGreatDoor.Trm
open Go.RowKit Own Decimals
theorem ret_t {a b : ByteArray} (h : a = b) : Ending.returned (.string a) = .returned (.string b) := by rw [h]
set_option maxHeartbeats 400000 in
theorem specSign_any (k : Int) (w : World) (hk3 : 3 ≤ k) (hk9 : k ≤ 9) (hk8 : k ≠ 8) : Calls Tryz.prog 152 #[.int .i64 k] w fun e w' => e = .returned (.string (pairSg k)) ∧ Below w.heap.size w w' := by
  rcases (by omega : k = 3 ∨ k = 4 ∨ k = 5 ∨ k = 6 ∨ k = 7 ∨ k = 9) with rfl | rfl | rfl | rfl | rfl | rfl
  all_goals
    clear hk3 hk9 hk8
    go_enter Tryz.func152, Tryz.ntmps152
    go_wp2
    go_ret
    exact ⟨rfl, (Below.refl _ _).alloc (Nat.le_refl _) _⟩
theorem infoU8 : (Tryz.prog.info? 5).map (fun i => (i.zero, i.size, i.bytes)) = some (some (.int .u8 0), 1, 1) := by kernel_rfl
theorem strCells_append (a b : ByteArray) : Lib.strCells (a ++ b) = Lib.strCells a ++ Lib.strCells b := by simp [Lib.strCells]
theorem one_byte (x : Int) : ∀ u ∈ [Value.int .u8 x], u.oneCell' = true := by
  intro u hu
  simp at hu
  subst hu
  rfl
def SayOk (t : Tree) : Prop := ∀ (v ov : Value) (w0 w : World) (n : Nat) (xs : List Value) (r : Nat), rightB t r = true → n + 21 + 20 * szT t ≤ 30000000 → Lies w0 t v → Below w0.heap.size w0 w → w.ownsRow w0.heap.size 5 1 ov n xs →
    Calls Tryz.prog 106 #[ov, v] w fun e w' => ∃ ov', e = .returned ov' ∧ w'.ownsRow w0.heap.size 5 1 ov' (n + (txB t).size) (xs ++ Lib.strCells (txB t)) ∧ Moves w ov w' ov'
theorem moves_none {w w' : World} (h : w.grownBy w' none) (v : Value) : Moves w v w' v := ⟨grown_but h _, .inl rfl⟩
theorem moves_below {w w' : World} (h : Below w.heap.size w w') (v : Value) : Moves w v w' v := ⟨⟨h.os, h.tape, h.output, h.size, fun i hi _ => h.block i hi⟩, .inl rfl⟩
set_option maxHeartbeats 400000 in
theorem say_num (m : Int) (s : ByteArray) (ks : List Tree) (v ov : Value) (w0 w : World) (n : Nat) (xs : List Value) (h0 : 0 ≤ m) (h1 : m ≤ 1000000000) (hn : n + 21 ≤ 30000000) (hl : Lies w0 (.node 1 m s ks) v) (hbe : Below w0.heap.size w0 w) (hown : w.ownsRow w0.heap.size 5 1 ov n xs) :
    Calls Tryz.prog 106 #[ov, v] w fun e w' => ∃ ov', e = .returned ov' ∧ w'.ownsRow w0.heap.size 5 1 ov' (n + (txB (.node 1 m s ks)).size) (xs ++ Lib.strCells (txB (.node 1 m s ks))) ∧ Moves w ov w' ov' := by
  obtain ⟨i0, hi, hz0, hz1, hz2⟩ := info_parts infoU8
  have HR : Hid (txB (.node 1 m s ks) = ⟨(Lib.itoa m).toArray⟩) := txB_num _ _ _
  have hsz : ByteArray.size ⟨(Lib.itoa m).toArray⟩ ≤ 21 := by have := itoa_small h0 h1; simpa [ByteArray.size] using this
  have C := Lib.hid (fun w => specDecimal_any m w (by omega) (by omega))
  generalize ByteArray.mk (Lib.itoa m).toArray = xt at HR hsz C
  obtain ⟨_, _, _, _, aa, cap, rfl, _⟩ := hl
  have HO := Lib.hid hown
  have hbs : w0.heap.size ≤ w.heap.size := hbe.size
  clear hown hbe h0 h1
  go_enter Tryz.func106, Tryz.ntmps106
  go_wp2_with fail
  refine (C.out _).mono ?_
  rintro e w1 ⟨rfl, hg⟩
  have M1 := Lib.hid ((Moves.alloc w _ ov).trans (moves_none hg ov))
  have R1 := Lib.hid (row_below (HO.out.alloc _) (below_none hg))
  have hs1 := M1.out.1.size
  clear hg
  go_wp2_with (at_builtin; refine wpList_append_str rfl (.tmp 9) (.tmp 12) 22 9 rfl w0.heap.size 5 i0 Tryz.underlying22 Tryz.underlying9 hi hz0 hz1 hz2 ov n xs rfl R1.out xt rfl (by unfold maxLen; omega) (by omega) (by omega) ?_)
  intro x2 w2 hr2 hm2
  have R2 := Lib.hid hr2
  have M2 := Lib.hid (M1.out.trans hm2)
  clear hr2 hm2
  go_wp2
  go_ret
  exact ⟨_, rfl, by rw [HR.out]; exact R2.out, M2.out⟩
set_option maxHeartbeats 400000 in
theorem say_var (m : Int) (s : ByteArray) (ks : List Tree) (v ov : Value) (w0 w : World) (n : Nat) (xs : List Value) (hn : n + s.size ≤ 30000000) (hl : Lies w0 (.node 2 m s ks) v) (hbe : Below w0.heap.size w0 w) (hown : w.ownsRow w0.heap.size 5 1 ov n xs) :
    Calls Tryz.prog 106 #[ov, v] w fun e w' => ∃ ov', e = .returned ov' ∧ w'.ownsRow w0.heap.size 5 1 ov' (n + (txB (.node 2 m s ks)).size) (xs ++ Lib.strCells (txB (.node 2 m s ks))) ∧ Moves w ov w' ov' := by
  obtain ⟨i0, hi, hz0, hz1, hz2⟩ := info_parts infoU8
  have HR : Hid (txB (.node 2 m s ks) = s) := txB_var _ _ _
  obtain ⟨_, _, _, _, aa, cap, rfl, _⟩ := hl
  have HO := Lib.hid hown
  have hbs : w0.heap.size ≤ w.heap.size := hbe.size
  clear hown hbe
  go_enter Tryz.func106, Tryz.ntmps106
  go_wp2_with (at_builtin; refine wpList_append_str rfl (.tmp 16) (.tmp 18) 22 9 rfl w0.heap.size 5 i0 Tryz.underlying22 Tryz.underlying9 hi hz0 hz1 hz2 ov n xs rfl (HO.out.alloc _) s rfl (by unfold maxLen; omega) (by omega) (by simp; omega) ?_)
  intro x2 w2 hr2 hm2
  have R2 := Lib.hid hr2
  have M2 := Lib.hid ((Moves.alloc _ _ _).trans hm2)
  clear hr2 hm2
  go_wp2
  go_ret
  exact ⟨_, rfl, by rw [HR.out]; exact R2.out, M2.out⟩
end Go.Proofs.YtmhhghdfgdhljaaGreatDoor.Trm
/- The model's text of a term of two kids, walked. Conditions: the term lies in memory; its text is short. -/
namespace Go.Proofs.YtmhhghdfgdhljaaGreatDoor.Trm
open Go.RowKit Own Decimals
theorem cells4 {w : World} {b : Nat} {c0 c1 c2 c3 : Value} {T : TypeId} {z : Nat × Nat} (h : w.heap[b]? = some (.cells #[c0, c1, c2, c3] T z)) : Box4 w b c0 c1 c2 c3 := by
  refine ⟨?_, ?_, ?_, ?_⟩ <;> simp [World.cell?, h]
theorem moves_lies {w w' : World} {v : Value} {g n cap H : Nat} (o : Obj) (hg : (w.alloc o).grownBy w' v.ownBlock) (hat : v.ownBlock = some g ∨ g = H) (hH : (w.alloc o).heap.size = H) : Moves w v w' (.slice (some ⟨g, 0, none⟩) n cap) := by
  refine (Moves.alloc w o v).trans ⟨hg, ?_⟩
  rcases hat with h | h
  · exact .inl h.symm
  · exact .inr fun k hk => by cases hk; show _ ≤ g; omega
set_option maxRecDepth 20000 in
set_option maxHeartbeats 1600000 in
theorem say_pair (k m : Int) (s : ByteArray) (a b : Tree) (hk1 : k ≠ 1) (hk2 : k ≠ 2) (hk8 : k ≠ 8) (hk3 : 3 ≤ k) (hk9 : k ≤ 9) (iha : SayOk a) (ihb : SayOk b) (v ov : Value) (w0 w : World) (n : Nat) (xs : List Value) (r : Nat) (hra : rightB a r = true) (hrb : rightB b r = true) (hn : n + 61 + 20 * szT a + 20 * szT b ≤ 30000000) (hl : Lies w0 (.node k m s [a, b]) v) (hbe : Below w0.heap.size w0 w) (hown : w.ownsRow w0.heap.size 5 1 ov n xs) :
    Calls Tryz.prog 106 #[ov, v] w fun e w' => ∃ ov', e = .returned ov' ∧ w'.ownsRow w0.heap.size 5 1 ov' (n + (txB (.node k m s [a, b])).size) (xs ++ Lib.strCells (txB (.node k m s [a, b]))) ∧ Moves w ov w' ov' := by
  obtain ⟨i0, hi, hz0, hz1, hz2⟩ := info_parts infoU8
  have HR : Hid (txB (.node k m s [a, b]) = ⟨#[40]⟩ ++ txB a ++ ⟨#[32]⟩ ++ pairSg k ++ ⟨#[32]⟩ ++ txB b ++ ⟨#[41]⟩) := txB_pair hk1 hk2 hk8
  have hsa := txB_size a r hra
  have hsb := txB_size b r hrb
  have hsk := pairSg_size k
  obtain ⟨_, _, _, _, aa, cap, rfl, h5⟩ := hl
  obtain ⟨g, o, rfl, hL⟩ := h5 (by simp)
  obtain ⟨⟨ka, kc, c0, c1, c2, c3, la⟩, ⟨⟨kb, kd, d0, d1, d2, d3, lb⟩, _⟩⟩ := hL
  change Calls Tryz.prog 106 #[ov, .agg #[.int .i64 k, .int .i64 m, .string s, .slice (some ⟨g, o, none⟩) 2 cap]] w _
  obtain ⟨W, hW⟩ : ∃ W, W = w.alloc (.cells #[.int .i64 k, .int .i64 m, .string s, .slice (some ⟨g, o, none⟩) 2 cap] 43) := ⟨_, rfl⟩
  have hblk : W.heap[w.heap.size]? = some (.cells #[.int .i64 k, .int .i64 m, .string s, .slice (some ⟨g, o, none⟩) 2 cap] 43 (0, 0)) := by rw [hW]; exact heap_alloc_new _ _
  have hrW : W.ownsRow w0.heap.size 5 1 ov n xs := by rw [hW]; exact hown.alloc _
  have hbW : Below w0.heap.size w0 W := by rw [hW]; exact hbe.alloc hbe.size _
  have hnb := row_not hown
  have KS : Hid (∀ wx x, Moves W ov wx x → Below w0.heap.size w0 wx ∧ x.ownBlock ≠ some w.heap.size ∧ Box4 wx w.heap.size (.int .i64 k) (.int .i64 m) (.string s) (.slice (some ⟨g, o, none⟩) 2 cap) ∧
      (wx.cell? ⟨g, o, none⟩ = some (.int .i64 a.kind) ∧ wx.cell? ⟨g, o + 1, none⟩ = some (.int .i64 a.num) ∧ wx.cell? ⟨g, o + 2, none⟩ = some (.string a.name) ∧ wx.cell? ⟨g, o + 3, none⟩ = some (.slice ka a.kids.length kc)) ∧
      (wx.cell? ⟨g, o + 4, none⟩ = some (.int .i64 b.kind) ∧ wx.cell? ⟨g, o + 4 + 1, none⟩ = some (.int .i64 b.num) ∧ wx.cell? ⟨g, o + 4 + 2, none⟩ = some (.string b.name) ∧ wx.cell? ⟨g, o + 4 + 3, none⟩ = some (.slice kb b.kids.length kd))) := by
    intro wx x hm
    have hb := hm.below hbW hrW
    have hk := keeps_below hb
    obtain ⟨h1, h2⟩ := hm.blk hblk hnb
    exact ⟨hb, h2, cells4 h1, ⟨hk _ _ c0, hk _ _ c1, hk _ _ c2, hk _ _ c3⟩, ⟨hk _ _ d0, hk _ _ d1, hk _ _ d2, hk _ _ d3⟩⟩
  have K8 : Hid (∀ wx x, Moves W ov wx x → wx.cell? ⟨w.heap.size, 3, none⟩ = some (.slice (some ⟨g, o, none⟩) 2 cap) ∧ wx.cell? ⟨g, o, none⟩ = some (.int .i64 a.kind) ∧ wx.cell? ⟨g, o + 1, none⟩ = some (.int .i64 a.num) ∧ wx.cell? ⟨g, o + 2, none⟩ = some (.string a.name) ∧ wx.cell? ⟨g, o + 3, none⟩ = some (.slice ka a.kids.length kc)) := by
    intro wx x hm
    obtain ⟨_, _, h3, h4, _⟩ := KS.out wx x hm
    exact ⟨h3.2.2.2, h4⟩
  have CA : Hid (∀ (x : Value) (w1 : World) (n1 : Nat) (xs1 : List Value), n1 + 21 + 20 * szT a ≤ 30000000 → Below w0.heap.size w0 w1 → w1.ownsRow w0.heap.size 5 1 x n1 xs1 → Calls Tryz.prog 106 #[x, .agg #[.int .i64 a.kind, .int .i64 a.num, .string a.name, .slice ka a.kids.length kc]] w1 fun e w' => ∃ ov', e = .returned ov' ∧ w'.ownsRow w0.heap.size 5 1 ov' (n1 + (txB a).size) (xs1 ++ Lib.strCells (txB a)) ∧ Moves w1 x w' ov') :=
    fun x w1 n1 xs1 h1 h2 h3 => iha _ x w0 w1 n1 xs1 r hra h1 la h2 h3
  have CB : Hid (∀ (x : Value) (w1 : World) (n1 : Nat) (xs1 : List Value), n1 + 21 + 20 * szT b ≤ 30000000 → Below w0.heap.size w0 w1 → w1.ownsRow w0.heap.size 5 1 x n1 xs1 → Calls Tryz.prog 106 #[x, .agg #[.int .i64 b.kind, .int .i64 b.num, .string b.name, .slice kb b.kids.length kd]] w1 fun e w' => ∃ ov', e = .returned ov' ∧ w'.ownsRow w0.heap.size 5 1 ov' (n1 + (txB b).size) (xs1 ++ Lib.strCells (txB b)) ∧ Moves w1 x w' ov') :=
    fun x w1 n1 xs1 h1 h2 h3 => ihb _ x w0 w1 n1 xs1 r hrb h1 lb h2 h3
  have CG := Lib.hid (fun w => specSign_any k w hk3 hk9 hk8)
  have HRW := Lib.hid hrW
  have HNB := Lib.hid hnb
  have HW := Lib.hid hW
  have hws : w0.heap.size ≤ W.heap.size := hbW.size
  have e1 := ne_true hk1
  have e2 := ne_true hk2
  have e8 := ne_true hk8
  generalize txB a = xa at HR CA hsa
  generalize txB b = xb at HR CB hsb
  generalize pairSg k = xk at HR CG hsk
  generalize szT a = sa at CA hsa hn
  generalize szT b = sb at CB hsb hn
  have z2 : ByteArray.size ⟨#[32]⟩ = 1 := rfl
  obtain ⟨xm, hxm⟩ : ∃ xm : ByteArray, xm = ⟨#[32]⟩ ++ xk ++ ⟨#[32]⟩ := ⟨_, rfl⟩
  have hsm : xm.size ≤ 5 := by rw [hxm]; simp only [ByteArray.size_append]; omega
  have HXM := Lib.hid hxm
  have ad1 : ∀ w, (Op.stringOp .add ⟨#[32]⟩ xk).run Tryz.prog w = .ok (.string (⟨#[32]⟩ ++ xk)) w := fun w => run_string_add_sum w _ _ (by omega)
  have ad2 : ∀ w, (Op.stringOp .add (⟨#[32]⟩ ++ xk) ⟨#[32]⟩).run Tryz.prog w = .ok (.string xm) w := fun w => by rw [hxm]; exact run_string_add_sum w _ _ (by simp only [ByteArray.size_append]; omega)
  have m0 : Moves W ov W.drew ov := (Moves.refl _ _).drew
  have m0b : Moves W ov (W.alloc (.cells #[.int .u8 40] 5)).drew ov := (Moves.alloc _ _ _).drew
  have HI := Lib.hid hi
  have HZ0 := Lib.hid hz0
  have HZ1 := Lib.hid hz1
  have HZ2 := Lib.hid hz2
  clear h5 c0 c1 c2 c3 d0 d1 d2 d3 la lb iha ihb hbe hown hblk hrW hbW hnb hW hra hrb hk1 hk2 hk3 hk9 hk8 hi hz0 hz1 hz2 z2 hxm
  go_enter Tryz.func106, Tryz.ntmps106
  go_wp2_with fail
  rw [← HW.out]
  obtain ⟨q3, a0, a1, a2, a3⟩ := K8.out _ _ m0
  go_region_held3 (fun wx => wx.cell? ⟨w.heap.size, 3, none⟩ = some (.slice (some ⟨g, o, none⟩) 2 cap) ∧ wx.cell? ⟨g, o, none⟩ = some (.int .i64 a.kind) ∧ wx.cell? ⟨g, o + 1, none⟩ = some (.int .i64 a.num) ∧ wx.cell? ⟨g, o + 2, none⟩ = some (.string a.name) ∧ wx.cell? ⟨g, o + 3, none⟩ = some (.slice ka a.kids.length kc))
    (first | exact K8.out _ _ (by assumption) | go_keep)
    (first
    | (refine step_append_lies _ rfl (.tmp 31) (.tmp 32) 22 rfl w0.heap.size 5 i0 (.int .u8 0) 1 1 Tryz.underlying22 HI.out HZ0.out HZ1.out HZ2.out rfl (by decide) ov n xs rfl (HRW.out.alloc _).drew ⟨W.heap.size, 0, none⟩ 1 1 [.int .u8 40] rfl rfl (World.news_of_block (heap_alloc_new W _)) (one_byte _) (by decide) (by unfold maxLen; omega) (by omega) (by simp; omega) (W.heap.size + 1) (by simp) ?_; intro g1 cap1 w1 hr1 hg1 hat1 hlt1; have m1 : Moves W ov w1 (.slice (some ⟨g1, 0, none⟩) (n + 1) cap1) := moves_lies (.cells #[.int .u8 40] 5) ⟨hg1.os, hg1.tape, hg1.output, hg1.size, hg1.block⟩ hat1 (by simp))
    | (go_at_call 106; refine (CA.out _ _ (n + 1) (xs ++ [.int .u8 40]) (by omega) (KS.out _ _ m1).1 hr1).mono ?_; rintro e w2 ⟨x2, rfl, hr2, hm2⟩; have m2 := m1.trans hm2))
  have R2 := Lib.hid hr2
  have M2 := Lib.hid m2
  obtain ⟨_, _, ⟨p0, p1, p2, p3⟩, _, _⟩ := KS.out _ _ m2
  clear hr1 hg1 hat1 hlt1 m1 hr2 hm2 m2 m0 m0b q3 a0 a1 a2 a3
  go_wp2_with fail
  refine (CG.out _).mono ?_
  rintro e w3 ⟨rfl, hb3⟩
  have M3 := Lib.hid (M2.out.trans (moves_below hb3 x2))
  have R3 := Lib.hid (row_below R2.out hb3)
  have hs3 := M3.out.1.size
  clear hb3 p0 p1 p2 p3
  go_wp2_with (at_builtin; refine wpList_append_str rfl (.tmp 39) (.tmp 44) 22 9 rfl w0.heap.size 5 i0 Tryz.underlying22 Tryz.underlying9 HI.out HZ0.out HZ1.out HZ2.out x2 (n + 1 + xa.size) _ rfl R3.out xm rfl (by unfold maxLen; omega) (by omega) (by omega) ?_; intro x4 w4 hr4 hm4; have M4 := Lib.hid (M3.out.trans hm4); obtain ⟨_, _, ⟨p0, p1, p2, p3⟩, _, ⟨b0, b1, b2, b3⟩⟩ := KS.out _ _ (M3.out.trans hm4))
  have R4 := Lib.hid hr4
  clear hr4 hm4
  refine (CB.out x4 w4 (n + 1 + xa.size + xm.size) _ (by omega) (KS.out _ _ M4.out).1 R4.out).mono ?_
  rintro e w5 ⟨x5, rfl, hr5, hm5⟩
  have R5 := Lib.hid hr5
  have M5 := Lib.hid (M4.out.trans hm5)
  have hs5 := M5.out.1.size
  clear hr5 hm5 p0 p1 p2 p3 b0 b1 b2 b3
  go_wp2_with (at_builtin; refine wpList_append_lies _ rfl (.tmp 51) (.tmp 52) 22 rfl w0.heap.size 5 i0 (.int .u8 0) 1 1 Tryz.underlying22 HI.out HZ0.out HZ1.out HZ2.out rfl (by decide) x5 (n + 1 + xa.size + xm.size + xb.size) _ rfl (R5.out.alloc _) ⟨w5.heap.size, 0, none⟩ 1 1 [.int .u8 41] rfl rfl (World.news_of_block (heap_alloc_new _ _)) (one_byte _) (by decide) (by unfold maxLen; omega) (by omega) (by simp; omega) (w5.heap.size + 1) (by simp) ?_; intro g6 cap6 w6 hr6 hg6 hat6 hlt6)
  have M6 : Hid (Moves W ov w6 (.slice (some ⟨g6, 0, none⟩) (n + 1 + xa.size + xm.size + xb.size + 1) cap6)) := M5.out.trans (moves_lies (.cells #[.int .u8 41] 5) hg6 hat6 (by simp))
  have R6 := Lib.hid hr6
  clear hr6 hg6 hat6 hlt6
  go_wp2
  go_ret
  refine ⟨_, rfl, ?_, ?_⟩
  · rw [HR.out]
    have hs : (⟨#[40]⟩ ++ xa ++ ⟨#[32]⟩ ++ xk ++ ⟨#[32]⟩ ++ xb ++ ⟨#[41]⟩ : ByteArray).size = 1 + xa.size + xm.size + xb.size + 1 := by
      rw [HXM.out]
      simp only [ByteArray.size_append]
      have e1 : ByteArray.size ⟨#[40]⟩ = 1 := rfl
      have e2 : ByteArray.size ⟨#[41]⟩ = 1 := rfl
      omega
    have e : xs ++ Lib.strCells (⟨#[40]⟩ ++ xa ++ ⟨#[32]⟩ ++ xk ++ ⟨#[32]⟩ ++ xb ++ ⟨#[41]⟩) = xs ++ [.int .u8 40] ++ Lib.strCells xa ++ Lib.strCells xm ++ Lib.strCells xb ++ [.int .u8 41] := by
      have e1 : Lib.strCells ⟨#[40]⟩ = [.int .u8 40] := rfl
      have e2 : Lib.strCells ⟨#[41]⟩ = [.int .u8 41] := rfl
      rw [HXM.out]
      simp only [strCells_append, e1, e2, List.append_assoc]
    rw [hs, e]
    have := R6.out
    rw [show n + (1 + xa.size + xm.size + xb.size + 1) = n + 1 + xa.size + xm.size + xb.size + 1 from by omega]
    exact this
  · have := M6.out
    rw [HW.out] at this
    exact (Moves.alloc _ _ _).trans this
end Go.Proofs.YtmhhghdfgdhljaaGreatDoor.Trm
/- The model's text of a term of one kid, and its TermText, walked. Conditions: the term lies in memory; its text is short. -/
namespace Go.Proofs.YtmhhghdfgdhljaaGreatDoor.Trm
open Go.RowKit Own Decimals
theorem moves_at {w w' : World} {v : Value} {g n cap H : Nat} (hg : w.grownBy w' v.ownBlock) (hat : v.ownBlock = some g ∨ g = H) (hH : w.heap.size = H) : Moves w v w' (.slice (some ⟨g, 0, none⟩) n cap) := by
  refine ⟨hg, ?_⟩
  rcases hat with h | h
  · exact .inl h.symm
  · exact .inr fun k hk => by cases hk; show _ ≤ g; omega
set_option maxRecDepth 20000 in
set_option maxHeartbeats 1600000 in
theorem say_not (m : Int) (s : ByteArray) (a : Tree) (iha : SayOk a) (v ov : Value) (w0 w : World) (n : Nat) (xs : List Value) (r : Nat) (hra : rightB a r = true) (hn : n + 41 + 20 * szT a ≤ 30000000) (hl : Lies w0 (.node 8 m s [a]) v) (hbe : Below w0.heap.size w0 w) (hown : w.ownsRow w0.heap.size 5 1 ov n xs) :
    Calls Tryz.prog 106 #[ov, v] w fun e w' => ∃ ov', e = .returned ov' ∧ w'.ownsRow w0.heap.size 5 1 ov' (n + (txB (.node 8 m s [a])).size) (xs ++ Lib.strCells (txB (.node 8 m s [a]))) ∧ Moves w ov w' ov' := by
  obtain ⟨i0, hi, hz0, hz1, hz2⟩ := info_parts infoU8
  have HR : Hid (txB (.node 8 m s [a]) = ⟨#[40, 110, 111, 116, 32]⟩ ++ txB a ++ ⟨#[41]⟩) := txB_not _ _ _
  have hsa := txB_size a r hra
  obtain ⟨_, _, _, _, aa, cap, rfl, h5⟩ := hl
  obtain ⟨g, o, rfl, hL⟩ := h5 (by simp)
  obtain ⟨⟨ka, kc, c0, c1, c2, c3, la⟩, _⟩ := hL
  change Calls Tryz.prog 106 #[ov, .agg #[.int .i64 8, .int .i64 m, .string s, .slice (some ⟨g, o, none⟩) 1 cap]] w _
  obtain ⟨W, hW⟩ : ∃ W, W = w.alloc (.cells #[.int .i64 8, .int .i64 m, .string s, .slice (some ⟨g, o, none⟩) 1 cap] 43) := ⟨_, rfl⟩
  have hblk : W.heap[w.heap.size]? = some (.cells #[.int .i64 8, .int .i64 m, .string s, .slice (some ⟨g, o, none⟩) 1 cap] 43 (0, 0)) := by rw [hW]; exact heap_alloc_new _ _
  have hrW : W.ownsRow w0.heap.size 5 1 ov n xs := by rw [hW]; exact hown.alloc _
  have hbW : Below w0.heap.size w0 W := by rw [hW]; exact hbe.alloc hbe.size _
  have hnb := row_not hown
  have KS : Hid (∀ wx x, Moves W ov wx x → Below w0.heap.size w0 wx) := fun wx x hm => hm.below hbW hrW
  have K8 : Hid (∀ wx x, Moves W ov wx x → wx.cell? ⟨w.heap.size, 3, none⟩ = some (.slice (some ⟨g, o, none⟩) 1 cap) ∧ wx.cell? ⟨g, o, none⟩ = some (.int .i64 a.kind) ∧ wx.cell? ⟨g, o + 1, none⟩ = some (.int .i64 a.num) ∧ wx.cell? ⟨g, o + 2, none⟩ = some (.string a.name) ∧ wx.cell? ⟨g, o + 3, none⟩ = some (.slice ka a.kids.length kc)) := by
    intro wx x hm
    have hk := keeps_below (hm.below hbW hrW)
    obtain ⟨h1, _⟩ := hm.blk hblk hnb
    exact ⟨(cells4 h1).2.2.2, hk _ _ c0, hk _ _ c1, hk _ _ c2, hk _ _ c3⟩
  have CA : Hid (∀ (x : Value) (w1 : World) (n1 : Nat) (xs1 : List Value), n1 + 21 + 20 * szT a ≤ 30000000 → Below w0.heap.size w0 w1 → w1.ownsRow w0.heap.size 5 1 x n1 xs1 → Calls Tryz.prog 106 #[x, .agg #[.int .i64 a.kind, .int .i64 a.num, .string a.name, .slice ka a.kids.length kc]] w1 fun e w' => ∃ ov', e = .returned ov' ∧ w'.ownsRow w0.heap.size 5 1 ov' (n1 + (txB a).size) (xs1 ++ Lib.strCells (txB a)) ∧ Moves w1 x w' ov') :=
    fun x w1 n1 xs1 h1 h2 h3 => iha _ x w0 w1 n1 xs1 r hra h1 la h2 h3
  have HRW := Lib.hid hrW
  have HW := Lib.hid hW
  have hws : w0.heap.size ≤ W.heap.size := hbW.size
  generalize txB a = xa at HR CA hsa
  generalize szT a = sa at CA hsa hn
  have m0 : Moves W ov W.drew ov := (Moves.refl _ _).drew
  have m0b : Moves W ov (W.alloc (.cells #[.int .u8 41] 5)).drew ov := (Moves.alloc _ _ _).drew
  have HI := Lib.hid hi
  have HZ0 := Lib.hid hz0
  have HZ1 := Lib.hid hz1
  have HZ2 := Lib.hid hz2
  clear h5 c0 c1 c2 c3 la iha hbe hown hblk hrW hbW hnb hW hra hi hz0 hz1 hz2
  go_enter Tryz.func106, Tryz.ntmps106
  go_wp2_with fail
  rw [← HW.out]
  obtain ⟨q3, a0, a1, a2, a3⟩ := K8.out _ _ m0
  go_region_held3 (fun wx => wx.cell? ⟨w.heap.size, 3, none⟩ = some (.slice (some ⟨g, o, none⟩) 1 cap) ∧ wx.cell? ⟨g, o, none⟩ = some (.int .i64 a.kind) ∧ wx.cell? ⟨g, o + 1, none⟩ = some (.int .i64 a.num) ∧ wx.cell? ⟨g, o + 2, none⟩ = some (.string a.name) ∧ wx.cell? ⟨g, o + 3, none⟩ = some (.slice ka a.kids.length kc))
    (first | exact K8.out _ _ (by assumption) | go_keep)
    (first
    | (refine step_append_str rfl (.tmp 22) (.const (.string ⟨#[40, 110, 111, 116, 32]⟩)) 22 9 rfl w0.heap.size 5 i0 Tryz.underlying22 Tryz.underlying9 HI.out HZ0.out HZ1.out HZ2.out ov n xs rfl HRW.out.drew ⟨#[40, 110, 111, 116, 32]⟩ rfl (by show n + 5 ≤ _; unfold maxLen; omega) (by show n + 5 ≤ _; omega) (by show _ ≤ W.heap.size; omega) ?_; intro x1 w1 hr1 hm1; have m1 : Moves W ov w1 x1 := m0.trans hm1)
    | (refine step_append_str rfl (.tmp 22) (.const (.string ⟨#[40, 110, 111, 116, 32]⟩)) 22 9 rfl w0.heap.size 5 i0 Tryz.underlying22 Tryz.underlying9 HI.out HZ0.out HZ1.out HZ2.out ov n xs rfl (HRW.out.alloc (.cells #[.int .u8 41] 5)).drew ⟨#[40, 110, 111, 116, 32]⟩ rfl (by show n + 5 ≤ _; unfold maxLen; omega) (by show n + 5 ≤ _; omega) (by simp; omega) ?_; intro x1 w1 hr1 hm1; have m1 : Moves W ov w1 x1 := m0b.trans hm1; have kb1 := hm1.blk (heap_alloc_new W (.cells #[.int .u8 41] 5)) (row_not HRW.out))
    | (go_at_call 106; refine (CA.out x1 w1 (n + 5) _ (by omega) (KS.out _ _ m1) hr1).mono ?_; rintro e w2 ⟨x2, rfl, hr2, hm2⟩; have m2 := m1.trans hm2; first | have kb2 := hm2.blk kb1.1 kb1.2 | skip)
    | (go_at_call 106; refine (CA.out x1 (w1.alloc (.cells #[.int .u8 41] 5)) (n + 5) _ (by omega) (KS.out _ _ (m1.trans (Moves.alloc _ _ _))) (hr1.alloc _)).mono ?_; rintro e w2 ⟨x2, rfl, hr2, hm2⟩; have m2 := (m1.trans (Moves.alloc _ _ _)).trans hm2; have kb2 := hm2.blk (heap_alloc_new w1 (.cells #[.int .u8 41] 5)) (row_not hr1))
    | (refine step_append_lies _ rfl (.tmp 28) (.tmp 29) 22 rfl w0.heap.size 5 i0 (.int .u8 0) 1 1 Tryz.underlying22 HI.out HZ0.out HZ1.out HZ2.out rfl (by decide) x2 (n + 5 + xa.size) _ rfl hr2 ⟨_, 0, none⟩ 1 1 [.int .u8 41] rfl rfl (World.news_of_block kb2.1) (one_byte _) (by decide) (by unfold maxLen; omega) (by omega) (by have := m2.1.size; omega) _ rfl ?_; intro g6 cap6 w6 hr6 hg6 hat6 hlt6; have m6 : Moves W ov w6 (.slice (some ⟨g6, 0, none⟩) (n + 5 + xa.size + 1) cap6) := m2.trans (moves_at hg6 hat6 rfl))
    | (refine step_append_lies _ rfl (.tmp 28) (.tmp 29) 22 rfl w0.heap.size 5 i0 (.int .u8 0) 1 1 Tryz.underlying22 HI.out HZ0.out HZ1.out HZ2.out rfl (by decide) x2 (n + 5 + xa.size) _ rfl (hr2.alloc (.cells #[.int .u8 41] 5)) ⟨_, 0, none⟩ 1 1 [.int .u8 41] rfl rfl (World.news_of_block (heap_alloc_new w2 _)) (one_byte _) (by decide) (by unfold maxLen; omega) (by omega) (by have := m2.1.size; simp; omega) (w2.heap.size + 1) (by simp) ?_; intro g6 cap6 w6 hr6 hg6 hat6 hlt6; have m6 : Moves W ov w6 (.slice (some ⟨g6, 0, none⟩) (n + 5 + xa.size + 1) cap6) := m2.trans (moves_lies (.cells #[.int .u8 41] 5) hg6 hat6 (by simp))))
  all_goals
    have R6 := Lib.hid hr6
    have M6 := Lib.hid m6
    go_wp2_with fail
    go_ret
    refine ⟨_, rfl, ?_, ?_⟩
    · rw [HR.out]
      have hs : (⟨#[40, 110, 111, 116, 32]⟩ ++ xa ++ ⟨#[41]⟩ : ByteArray).size = 5 + xa.size + 1 := by
        simp only [ByteArray.size_append]
        have e1 : ByteArray.size ⟨#[40, 110, 111, 116, 32]⟩ = 5 := rfl
        have e2 : ByteArray.size ⟨#[41]⟩ = 1 := rfl
        omega
      have e : xs ++ Lib.strCells (⟨#[40, 110, 111, 116, 32]⟩ ++ xa ++ ⟨#[41]⟩) = xs ++ Lib.strCells ⟨#[40, 110, 111, 116, 32]⟩ ++ Lib.strCells xa ++ [.int .u8 41] := by
        have e2 : Lib.strCells ⟨#[41]⟩ = [.int .u8 41] := rfl
        simp only [strCells_append, e2, List.append_assoc]
      rw [hs, e, show n + (5 + xa.size + 1) = n + 5 + xa.size + 1 from by omega]
      exact R6.out
    · have := M6.out
      rw [HW.out] at this
      exact (Moves.alloc _ _ _).trans this
theorem specSay_any : ∀ t : Tree, SayOk t := treeInd fun k m s ks ih v ov w0 w n xs r hr hn hl hbe hown => by
  rcases right_cases hr with ⟨rfl, h0, h1⟩ | rfl | ⟨rfl, a, rfl, ha⟩ | ⟨h1, h2, h8, h3, h9, a, b, rfl, ha, hb⟩
  · exact say_num m s ks v ov w0 w n xs h0 h1 (by omega) hl hbe hown
  · rw [szT] at hn
    exact say_var m s ks v ov w0 w n xs (by omega) hl hbe hown
  · rw [szT, szS, szS] at hn
    simp only [List.length_cons, List.length_nil] at hn
    exact say_not m s a (ih a (by simp)) v ov w0 w n xs _ ha (by omega) hl hbe hown
  · rw [szT, szS, szS, szS] at hn
    simp only [List.length_cons, List.length_nil] at hn
    exact say_pair k m s a b h1 h2 h8 h3 h9 (ih a (by simp)) (ih b (by simp)) v ov w0 w n xs _ ha hb (by omega) hl hbe hown
end Go.Proofs.YtmhhghdfgdhljaaGreatDoor.Trm
/- The model's TermText, walked. Conditions: the term lies in memory; it has at most 2 to the 20 kids and bytes. -/
namespace Go.Proofs.YtmhhghdfgdhljaaGreatDoor.Trm
open Go.RowKit Own Decimals
theorem bytes_back (s : ByteArray) : ByteArray.mk s.data.toList.toArray = s := by
  apply ByteArray.ext
  simp
set_option maxHeartbeats 800000 in
theorem specTermText_any (t : Tree) (v : Value) (w : World) (hl : Lies w t v) (hz : szT t ≤ 1048576) :
    Calls Tryz.prog 51 #[v] w fun e w' => e = .returned (.string (textT t)) ∧ Below w.heap.size w w' := by
  have C := Lib.hid (fun w hk => specTermOk_any t v w (hl.keep hk))
  have D := Lib.hid (fun ov w1 n xs hr h1 hb ho => specSay_any t v ov w w1 n xs 6 hr h1 hl hb ho)
  obtain ⟨aa, cap, rfl⟩ := hl.shape
  have X0 := Lib.hid (Box4.new w (.int .i64 t.kind) (.int .i64 t.num) (.string t.name) (.slice aa t.kids.length cap) 43)
  clear hl
  cases hb : okB t with
  | false =>
    have HR : Hid (textT t = ⟨#[]⟩) := by show _ = _; unfold textT; rw [hb]; rfl
    rw [hb] at C
    clear hb
    go_enter Tryz.func51, Tryz.ntmps51
    go_wp2_with fail
    refine (C.out _ (keeps_alloc _ _)).mono ?_
    rintro e w1 ⟨rfl, hb1⟩
    have B1 := Lib.hid (below_box1 hb1)
    clear hb1
    go_wp2
    go_ret
    exact ⟨ret_s HR.out.symm, B1.out⟩
  | true =>
    have HR : Hid (textT t = txB t) := by show _ = _; unfold textT; rw [hb]; rfl
    have hr : rightB t 6 = true := hb
    have hsz := txB_size t 6 hr
    have D2 := Lib.hid (fun ov w1 n xs => D.out ov w1 n xs hr)
    rw [hb] at C
    clear hb hr D
    generalize txB t = xt at HR D2 hsz
    go_enter Tryz.func51, Tryz.ntmps51
    go_wp2_with fail
    refine (C.out _ (keeps_alloc _ _)).mono ?_
    rintro e w1 ⟨rfl, hb1⟩
    obtain ⟨p0, p1, p2, p3⟩ := (X0.out.keep (keeps_below hb1)).keep (keeps_alloc w1 (.cells #[] 5))
    have B1 := Lib.hid (below_box1 hb1)
    clear hb1
    go_wp2_with fail
    refine (D2.out _ _ 0 [] (by omega) (B1.out.alloc B1.out.size _) (World.ownsRow_made w1 #[] 0 B1.out.size (by decide) rfl)).mono ?_
    rintro e w2 ⟨ov, rfl, hrow, hmv⟩
    rw [Nat.zero_add, List.nil_append] at hrow
    have HB2 := Lib.hid (hmv.below (B1.out.alloc B1.out.size _) (World.ownsRow_made (size := 1) w1 #[] 0 B1.out.size (by decide) rfl))
    have hconv := run_string_of_own (P := Tryz.prog) w2 22 9 5 w.heap.size ov xt.size xt.data.toList Tryz.underlying22 Tryz.underlying5 Tryz.underlying9 hrow
    rw [bytes_back] at hconv
    obtain ⟨oa, oc, rfl, _⟩ := row_shape hrow
    clear hrow hmv p0 p1 p2 p3
    go_wp2
    go_ret
    exact ⟨ret_s HR.out.symm, HB2.out⟩
end Go.Proofs.YtmhhghdfgdhljaaGreatDoor.Trm
/- The model's InsLine, walked, by the kind of the instruction. Conditions: the code lies in memory, it is right, the place is there. -/
namespace Go.Proofs.YtmhhghdfgdhljaaGreatDoor.Trm
open Go.RowKit Own Decimals
set_option maxRecDepth 20000 in
set_option maxHeartbeats 6400000 in
theorem specLine_set (x : KTree) (i : Nat) (a u : Int) (t : Tree) (ga la pa ea ta : Option Addr) (gi oi gc lc pc ec ic n tc : Nat) (w : World) (hi : i < n) (hn : n ≤ 9223372036854775807) (hck : ∀ wx, Below w.heap.size w wx → Calls Tryz.prog 48 #[.agg #[.slice ga x.globals.length gc, .slice la x.locks.length lc, .slice pa x.procs.length pc, .slice ea x.entry.length ec, .slice (some ⟨gi, oi, none⟩) n ic]] wx fun e w' => e = .returned (.bool true) ∧ Below wx.heap.size wx w') (hr : RightK x ⟨1, a, t, u⟩) (hg : NamesAt w x.globals (.slice ga x.globals.length gc) ∧ nmsB x.globals = true) (_ : NamesAt w x.locks (.slice la x.locks.length lc) ∧ nmsB x.locks = true) (_ : NamesAt w x.procs (.slice pa x.procs.length pc) ∧ nmsB x.procs = true) (_ : InI u) (ht : Lies w t (.agg #[.int .i64 t.kind, .int .i64 t.num, .string t.name, .slice ta t.kids.length tc])) (hz : szT t ≤ 1048576) (hts : (textT t).size ≤ 21000000) (c0 : w.cell? ⟨gi, oi + i * 7, none⟩ = some (.int .i64 1)) (c1 : w.cell? ⟨gi, oi + i * 7 + 1, none⟩ = some (.int .i64 a)) (c2 : w.cell? ⟨gi, oi + i * 7 + 2, none⟩ = some (.int .i64 t.kind)) (c3 : w.cell? ⟨gi, oi + i * 7 + 3, none⟩ = some (.int .i64 t.num)) (c4 : w.cell? ⟨gi, oi + i * 7 + 4, none⟩ = some (.string t.name)) (c5 : w.cell? ⟨gi, oi + i * 7 + 5, none⟩ = some (.slice ta t.kids.length tc)) (c6 : w.cell? ⟨gi, oi + i * 7 + 6, none⟩ = some (.int .i64 u)) :
    Calls Tryz.prog 16 #[.agg #[.slice ga x.globals.length gc, .slice la x.locks.length lc, .slice pa x.procs.length pc, .slice ea x.entry.length ec, .slice (some ⟨gi, oi, none⟩) n ic], .int .i64 (i : Int)] w fun e w' => e = .returned (.string (insLine x i ⟨1, a, t, u⟩)) ∧ Below w.heap.size w w' := by
  have HCK := Lib.hid hck
  have hin := hi
  have CI : Hid (∀ wx, Calls Tryz.prog 50 #[.int .i64 (i : Int)] wx fun e w' => e = .returned (.string (decB (i : Int))) ∧ wx.grownBy w' none) := fun wx => specDecimal_any (i : Int) wx (by omega) (by omega)
  have his := decB_size (n := (i : Int)) (by omega)
  have Y0 := Lib.hid (Box5.new w (.slice ga x.globals.length gc) (.slice la x.locks.length lc) (.slice pa x.procs.length pc) (.slice ea x.entry.length ec) (.slice (some ⟨gi, oi, none⟩) n ic) 32)
  have B0 := Lib.hid ((Below.refl w.heap.size w).alloc (Nat.le_refl _) (.cells #[.slice ga x.globals.length gc, .slice la x.locks.length lc, .slice pa x.procs.length pc, .slice ea x.entry.length ec, .slice (some ⟨gi, oi, none⟩) n ic] 32))
  have CT := Lib.hid (fun wx (hb : Below w.heap.size w wx) => specTermText_any t _ wx (ht.keep (keeps_below hb)) hz)
  obtain ⟨m, rfl⟩ : ∃ m : Nat, a = (m : Int) := ⟨a.toNat, by have := hr.arg.1; show a = _; have h2 : (⟨1, a, t, u⟩ : InsT).arg = a := rfl; rw [h2] at this; omega⟩
  have hm : m < x.globals.length := by have h := hr.arg.2; have h2 : mostI x (⟨1, (m : Int), t, u⟩ : InsT).op = (x.globals.length : Int) - 1 := rfl; rw [h2] at h; have h3 : (⟨1, (m : Int), t, u⟩ : InsT).arg = (m : Int) := rfl; rw [h3] at h; omega
  have hns := nmsB_size hg.2 hm
  obtain ⟨⟨a2, cc2, e2, hln, hc⟩, _⟩ := hg.1
  simp at e2
  obtain ⟨rfl, rfl⟩ := e2
  obtain ⟨g, o, rfl, hc2⟩ := hc (by omega)
  have d0 := hc2 m hm
  have HL : Hid (insLine x i ⟨1, ((m : Nat) : Int), t, u⟩ = decB (i : Int) ++ ⟨#[32]⟩ ++ (⟨#[115, 101, 116, 32]⟩ ++ nmAt x.globals (m : Int) ++ ⟨#[32, 61, 32]⟩ ++ textT t)) := rfl
  obtain ⟨rr, hrr⟩ : ∃ z, insLine x i ⟨1, ((m : Nat) : Int), t, u⟩ = z := ⟨_, rfl⟩
  rw [hrr] at HL
  rw [hrr]
  clear hrr
  rw [nmAt_eq hm] at HL
  obtain ⟨nm, hnm⟩ : ∃ z, x.globals[m] = z := ⟨_, rfl⟩
  rw [hnm] at HL d0 hns
  clear hnm
  obtain ⟨ix, hix⟩ : ∃ z, decB (i : Int) = z := ⟨_, rfl⟩
  rw [hix] at HL CI his
  clear hix
  obtain ⟨tx, htx⟩ : ∃ z, textT t = z := ⟨_, rfl⟩
  rw [htx] at HL CT hts
  clear htx
  have z0 : ByteArray.size ⟨#[32]⟩ = 1 := rfl
  have z1 : ByteArray.size ⟨#[32, 61, 32]⟩ = 3 := rfl
  have z2 : ByteArray.size ⟨#[32, 101, 108, 115, 101, 32]⟩ = 6 := rfl
  have z3 : ByteArray.size ⟨#[115, 101, 116, 32]⟩ = 4 := rfl
  have ad0 : ∀ w, (Op.stringOp .add (ix) (⟨#[32]⟩)).run Tryz.prog w = .ok (.string ((ix) ++ (⟨#[32]⟩))) w := fun w => run_string_add_sum w _ _ (by (try simp only [ByteArray.size_append]); omega)
  have ad1 : ∀ w, (Op.stringOp .add (ix ++ ⟨#[32]⟩) (⟨#[115, 101, 116, 32]⟩)).run Tryz.prog w = .ok (.string ((ix ++ ⟨#[32]⟩) ++ (⟨#[115, 101, 116, 32]⟩))) w := fun w => run_string_add_sum w _ _ (by (try simp only [ByteArray.size_append]); omega)
  have ad2 : ∀ w, (Op.stringOp .add (ix ++ ⟨#[32]⟩ ++ ⟨#[115, 101, 116, 32]⟩) (nm)).run Tryz.prog w = .ok (.string ((ix ++ ⟨#[32]⟩ ++ ⟨#[115, 101, 116, 32]⟩) ++ (nm))) w := fun w => run_string_add_sum w _ _ (by (try simp only [ByteArray.size_append]); omega)
  have ad3 : ∀ w, (Op.stringOp .add (ix ++ ⟨#[32]⟩ ++ ⟨#[115, 101, 116, 32]⟩ ++ nm) (⟨#[32, 61, 32]⟩)).run Tryz.prog w = .ok (.string ((ix ++ ⟨#[32]⟩ ++ ⟨#[115, 101, 116, 32]⟩ ++ nm) ++ (⟨#[32, 61, 32]⟩))) w := fun w => run_string_add_sum w _ _ (by (try simp only [ByteArray.size_append]); omega)
  have ad4 : ∀ w, (Op.stringOp .add (ix ++ ⟨#[32]⟩ ++ ⟨#[115, 101, 116, 32]⟩ ++ nm ++ ⟨#[32, 61, 32]⟩) (tx)).run Tryz.prog w = .ok (.string ((ix ++ ⟨#[32]⟩ ++ ⟨#[115, 101, 116, 32]⟩ ++ nm ++ ⟨#[32, 61, 32]⟩) ++ (tx))) w := fun w => run_string_add_sum w _ _ (by (try simp only [ByteArray.size_append]); omega)
  clear hck hr hc hc2 hg ht hz 
  obtain ⟨p0, p1, p2, p3, p4⟩ := Y0.out
  obtain ⟨W0, hW0⟩ : ∃ W, W = w.alloc (.cells #[.slice (some ⟨g, o, none⟩) x.globals.length gc, .slice la x.locks.length lc, .slice pa x.procs.length pc, .slice ea x.entry.length ec, .slice (some ⟨gi, oi, none⟩) n ic] 32) := ⟨_, rfl⟩
  rw [← hW0] at Y0 B0
  have HW0 := Lib.hid hW0
  clear hW0
  have C0 := Lib.hid c0
  have C1 := Lib.hid c1
  have C2 := Lib.hid c2
  have C3 := Lib.hid c3
  have C4 := Lib.hid c4
  have C5 := Lib.hid c5
  have C6 := Lib.hid c6
  clear c0 c1 c2 c3 c4 c5 c6
  go_enter Tryz.func16, Tryz.ntmps16
  go_wp2_with fail
  rw [← HW0.out] at p0 p1 p2 p3 p4 ⊢
  refine (HCK.out _ B0.out).mono ?_
  rintro e w1 ⟨rfl, hb⟩
  have B1 := Lib.hid (B0.out.trans (hb.mono B0.out.size))
  have Y1 := Lib.hid (Y0.out.keep (keeps_below hb))
  clear hb p0 p1 p2 p3 p4
  obtain ⟨p0, p1, p2, p3, p4⟩ := Y1.out
  have K1 := keeps_below B1.out
  have c0 := K1 _ _ C0.out
  have c1 := K1 _ _ C1.out
  have c2 := K1 _ _ C2.out
  have c3 := K1 _ _ C3.out
  have c4 := K1 _ _ C4.out
  have c5 := K1 _ _ C5.out
  have c6 := K1 _ _ C6.out
  clear K1
  go_wp2_with fail
  refine (in_yes _ _ _ _ (by omega) (by omega)).mono ?_
  rintro e w2 ⟨rfl, rfl⟩
  obtain ⟨W2, hW2⟩ : ∃ W, W = w1.alloc (.cells #[.int .i64 1, .int .i64 (m : Int), .int .i64 t.kind, .int .i64 t.num, .string t.name, .slice ta t.kids.length tc, .int .i64 u] 45) := ⟨_, rfl⟩
  have b2 : Below w1.heap.size w1 W2 := by rw [hW2]; exact (Below.refl _ _).alloc (Nat.le_refl _) _
  have X2 : Hid (Box7 W2 w1.heap.size (.int .i64 1) (.int .i64 (m : Int)) (.int .i64 t.kind) (.int .i64 t.num) (.string t.name) (.slice ta t.kids.length tc) (.int .i64 u)) := by rw [hW2]; exact Box7.new w1 _ _ _ _ _ _ _ _
  have Y2 := Lib.hid (Y1.out.keep (keeps_below b2))
  have B2 := Lib.hid (B1.out.trans (b2.mono B1.out.size))
  have HW2 := Lib.hid hW2
  clear b2 hW2
  go_wp2_with fail
  rw [← HW2.out]
  refine (CI.out _).mono ?_
  rintro e w3 ⟨rfl, hg3⟩
  have b3 := below_none hg3
  have B3 := Lib.hid (B2.out.trans (b3.mono B2.out.size))
  have X3 := Lib.hid (X2.out.keep (keeps_below b3))
  have Y3 := Lib.hid (Y2.out.keep (keeps_below b3))
  have D3 := Lib.hid (keeps_below B3.out _ _ d0)
  clear d0
  obtain ⟨D, hD⟩ : ∃ D, w1.heap.size = D := ⟨_, rfl⟩
  rw [hD] at X3 ⊢
  clear b3 hg3 p0 p1 p2 p3 p4 c0 c1 c2 c3 c4 c5 c6 X2 hD
  obtain ⟨p0, p1, p2, p3, p4⟩ := Y3.out
  obtain ⟨q0, q1, q2, q3, q4, q5, q6⟩ := X3.out
  have d3 := D3.out
  have KS : Hid (∀ wx, Below w3.heap.size w3 wx → wx.cell? ⟨w.heap.size, 0, none⟩ = some (.slice (some ⟨g, o, none⟩) x.globals.length gc) ∧ wx.cell? ⟨D, 1, none⟩ = some (.int .i64 (m : Int)) ∧ wx.cell? ⟨D, 2, none⟩ = some (.int .i64 t.kind) ∧ wx.cell? ⟨D, 3, none⟩ = some (.int .i64 t.num) ∧ wx.cell? ⟨D, 4, none⟩ = some (.string t.name) ∧ wx.cell? ⟨D, 5, none⟩ = some (.slice ta t.kids.length tc) ∧ wx.cell? ⟨g, o + m, none⟩ = some (.string nm) ∧ Below w3.heap.size w3 wx) := fun wx hb => by
    obtain ⟨r0, _⟩ := Y3.out.keep (keeps_below hb)
    obtain ⟨_, s1, s2, s3, s4, s5, _⟩ := X3.out.keep (keeps_below hb)
    exact ⟨r0, s1, s2, s3, s4, s5, keeps_below hb _ _ D3.out, hb⟩
  have CT2 : Hid (∀ wx, Below w3.heap.size w3 wx → Calls Tryz.prog 51 #[.agg #[.int .i64 t.kind, .int .i64 t.num, .string t.name, .slice ta t.kids.length tc]] wx fun e w' => e = .returned (.string tx) ∧ Below w3.heap.size w3 w') := fun wx hb => (CT.out wx (B3.out.trans (hb.mono B3.out.size))).mono fun e w' ⟨he, h⟩ => ⟨he, hb.trans (h.mono hb.size)⟩
  have b0 : Below w3.heap.size w3 w3.drew := (Below.refl _ _).drew
  go_wp2_with fail
  clear q0 q1 q2 q3 q4 q5 q6 p0 p1 p2 p3 p4 d3
  go_region_held3 (fun wx => wx.cell? ⟨w.heap.size, 0, none⟩ = some (.slice (some ⟨g, o, none⟩) x.globals.length gc) ∧ wx.cell? ⟨D, 1, none⟩ = some (.int .i64 (m : Int)) ∧ wx.cell? ⟨D, 2, none⟩ = some (.int .i64 t.kind) ∧ wx.cell? ⟨D, 3, none⟩ = some (.int .i64 t.num) ∧ wx.cell? ⟨D, 4, none⟩ = some (.string t.name) ∧ wx.cell? ⟨D, 5, none⟩ = some (.slice ta t.kids.length tc) ∧ wx.cell? ⟨g, o + m, none⟩ = some (.string nm) ∧ Below w3.heap.size w3 wx)
    (exact KS.out _ (by assumption))
    (first
    | (go_at_call 51; (with_reducible refine (CT2.out _ (by assumption)).mono ?_); rintro e w4 ⟨rfl, b4⟩))
  all_goals
    have B4 := Lib.hid (B3.out.trans (b4.mono B3.out.size))
    go_wp2_with fail
    go_ret
    exact ⟨ret_s (by rw [HL.out]; try simp only [← ByteArray.append_assoc]), by first | exact B4.out⟩
set_option maxRecDepth 20000 in
set_option maxHeartbeats 6400000 in
theorem specLine_test (x : KTree) (i : Nat) (a u : Int) (t : Tree) (ga la pa ea ta : Option Addr) (gi oi gc lc pc ec ic n tc : Nat) (w : World) (hi : i < n) (hn : n ≤ 9223372036854775807) (hck : ∀ wx, Below w.heap.size w wx → Calls Tryz.prog 48 #[.agg #[.slice ga x.globals.length gc, .slice la x.locks.length lc, .slice pa x.procs.length pc, .slice ea x.entry.length ec, .slice (some ⟨gi, oi, none⟩) n ic]] wx fun e w' => e = .returned (.bool true) ∧ Below wx.heap.size wx w') (_ : RightK x ⟨2, a, t, u⟩) (_ : NamesAt w x.globals (.slice ga x.globals.length gc) ∧ nmsB x.globals = true) (_ : NamesAt w x.locks (.slice la x.locks.length lc) ∧ nmsB x.locks = true) (_ : NamesAt w x.procs (.slice pa x.procs.length pc) ∧ nmsB x.procs = true) (hu : InI u) (ht : Lies w t (.agg #[.int .i64 t.kind, .int .i64 t.num, .string t.name, .slice ta t.kids.length tc])) (hz : szT t ≤ 1048576) (hts : (textT t).size ≤ 21000000) (c0 : w.cell? ⟨gi, oi + i * 7, none⟩ = some (.int .i64 2)) (c1 : w.cell? ⟨gi, oi + i * 7 + 1, none⟩ = some (.int .i64 a)) (c2 : w.cell? ⟨gi, oi + i * 7 + 2, none⟩ = some (.int .i64 t.kind)) (c3 : w.cell? ⟨gi, oi + i * 7 + 3, none⟩ = some (.int .i64 t.num)) (c4 : w.cell? ⟨gi, oi + i * 7 + 4, none⟩ = some (.string t.name)) (c5 : w.cell? ⟨gi, oi + i * 7 + 5, none⟩ = some (.slice ta t.kids.length tc)) (c6 : w.cell? ⟨gi, oi + i * 7 + 6, none⟩ = some (.int .i64 u)) :
    Calls Tryz.prog 16 #[.agg #[.slice ga x.globals.length gc, .slice la x.locks.length lc, .slice pa x.procs.length pc, .slice ea x.entry.length ec, .slice (some ⟨gi, oi, none⟩) n ic], .int .i64 (i : Int)] w fun e w' => e = .returned (.string (insLine x i ⟨2, a, t, u⟩)) ∧ Below w.heap.size w w' := by
  have HCK := Lib.hid hck
  have hin := hi
  have CI : Hid (∀ wx, Calls Tryz.prog 50 #[.int .i64 (i : Int)] wx fun e w' => e = .returned (.string (decB (i : Int))) ∧ wx.grownBy w' none) := fun wx => specDecimal_any (i : Int) wx (by omega) (by omega)
  have his := decB_size (n := (i : Int)) (by omega)
  have Y0 := Lib.hid (Box5.new w (.slice ga x.globals.length gc) (.slice la x.locks.length lc) (.slice pa x.procs.length pc) (.slice ea x.entry.length ec) (.slice (some ⟨gi, oi, none⟩) n ic) 32)
  have B0 := Lib.hid ((Below.refl w.heap.size w).alloc (Nat.le_refl _) (.cells #[.slice ga x.globals.length gc, .slice la x.locks.length lc, .slice pa x.procs.length pc, .slice ea x.entry.length ec, .slice (some ⟨gi, oi, none⟩) n ic] 32))
  have CT := Lib.hid (fun wx (hb : Below w.heap.size w wx) => specTermText_any t _ wx (ht.keep (keeps_below hb)) hz)
  have CD : Hid (∀ wx, Calls Tryz.prog 50 #[.int .i64 u] wx fun e w' => e = .returned (.string (decB u)) ∧ wx.grownBy w' none) := fun wx => specDecimal_any u wx hu.1 hu.2
  have hds := decB_size hu
  have HL : Hid (insLine x i ⟨2, a, t, u⟩ = decB (i : Int) ++ ⟨#[32]⟩ ++ (⟨#[116, 101, 115, 116, 32]⟩ ++ textT t ++ ⟨#[32, 101, 108, 115, 101, 32]⟩ ++ decB u)) := rfl
  obtain ⟨rr, hrr⟩ : ∃ z, insLine x i ⟨2, a, t, u⟩ = z := ⟨_, rfl⟩
  rw [hrr] at HL
  rw [hrr]
  clear hrr
  obtain ⟨ix, hix⟩ : ∃ z, decB (i : Int) = z := ⟨_, rfl⟩
  rw [hix] at HL CI his
  clear hix
  obtain ⟨tx, htx⟩ : ∃ z, textT t = z := ⟨_, rfl⟩
  rw [htx] at HL CT hts
  clear htx
  obtain ⟨dx, hdx⟩ : ∃ z, decB u = z := ⟨_, rfl⟩
  rw [hdx] at HL CD hds
  clear hdx
  have z0 : ByteArray.size ⟨#[32]⟩ = 1 := rfl
  have z1 : ByteArray.size ⟨#[32, 61, 32]⟩ = 3 := rfl
  have z2 : ByteArray.size ⟨#[32, 101, 108, 115, 101, 32]⟩ = 6 := rfl
  have z3 : ByteArray.size ⟨#[116, 101, 115, 116, 32]⟩ = 5 := rfl
  have ad0 : ∀ w, (Op.stringOp .add (ix) (⟨#[32]⟩)).run Tryz.prog w = .ok (.string ((ix) ++ (⟨#[32]⟩))) w := fun w => run_string_add_sum w _ _ (by (try simp only [ByteArray.size_append]); omega)
  have ad1 : ∀ w, (Op.stringOp .add (ix ++ ⟨#[32]⟩) (⟨#[116, 101, 115, 116, 32]⟩)).run Tryz.prog w = .ok (.string ((ix ++ ⟨#[32]⟩) ++ (⟨#[116, 101, 115, 116, 32]⟩))) w := fun w => run_string_add_sum w _ _ (by (try simp only [ByteArray.size_append]); omega)
  have ad2 : ∀ w, (Op.stringOp .add (ix ++ ⟨#[32]⟩ ++ ⟨#[116, 101, 115, 116, 32]⟩) (tx)).run Tryz.prog w = .ok (.string ((ix ++ ⟨#[32]⟩ ++ ⟨#[116, 101, 115, 116, 32]⟩) ++ (tx))) w := fun w => run_string_add_sum w _ _ (by (try simp only [ByteArray.size_append]); omega)
  have ad3 : ∀ w, (Op.stringOp .add (ix ++ ⟨#[32]⟩ ++ ⟨#[116, 101, 115, 116, 32]⟩ ++ tx) (⟨#[32, 101, 108, 115, 101, 32]⟩)).run Tryz.prog w = .ok (.string ((ix ++ ⟨#[32]⟩ ++ ⟨#[116, 101, 115, 116, 32]⟩ ++ tx) ++ (⟨#[32, 101, 108, 115, 101, 32]⟩))) w := fun w => run_string_add_sum w _ _ (by (try simp only [ByteArray.size_append]); omega)
  have ad4 : ∀ w, (Op.stringOp .add (ix ++ ⟨#[32]⟩ ++ ⟨#[116, 101, 115, 116, 32]⟩ ++ tx ++ ⟨#[32, 101, 108, 115, 101, 32]⟩) (dx)).run Tryz.prog w = .ok (.string ((ix ++ ⟨#[32]⟩ ++ ⟨#[116, 101, 115, 116, 32]⟩ ++ tx ++ ⟨#[32, 101, 108, 115, 101, 32]⟩) ++ (dx))) w := fun w => run_string_add_sum w _ _ (by (try simp only [ByteArray.size_append]); omega)
  clear hck ht hz 
  obtain ⟨p0, p1, p2, p3, p4⟩ := Y0.out
  obtain ⟨W0, hW0⟩ : ∃ W, W = w.alloc (.cells #[.slice ga x.globals.length gc, .slice la x.locks.length lc, .slice pa x.procs.length pc, .slice ea x.entry.length ec, .slice (some ⟨gi, oi, none⟩) n ic] 32) := ⟨_, rfl⟩
  rw [← hW0] at Y0 B0
  have HW0 := Lib.hid hW0
  clear hW0
  have C0 := Lib.hid c0
  have C1 := Lib.hid c1
  have C2 := Lib.hid c2
  have C3 := Lib.hid c3
  have C4 := Lib.hid c4
  have C5 := Lib.hid c5
  have C6 := Lib.hid c6
  clear c0 c1 c2 c3 c4 c5 c6
  go_enter Tryz.func16, Tryz.ntmps16
  go_wp2_with fail
  rw [← HW0.out] at p0 p1 p2 p3 p4 ⊢
  refine (HCK.out _ B0.out).mono ?_
  rintro e w1 ⟨rfl, hb⟩
  have B1 := Lib.hid (B0.out.trans (hb.mono B0.out.size))
  have Y1 := Lib.hid (Y0.out.keep (keeps_below hb))
  clear hb p0 p1 p2 p3 p4
  obtain ⟨p0, p1, p2, p3, p4⟩ := Y1.out
  have K1 := keeps_below B1.out
  have c0 := K1 _ _ C0.out
  have c1 := K1 _ _ C1.out
  have c2 := K1 _ _ C2.out
  have c3 := K1 _ _ C3.out
  have c4 := K1 _ _ C4.out
  have c5 := K1 _ _ C5.out
  have c6 := K1 _ _ C6.out
  clear K1
  go_wp2_with fail
  refine (in_yes _ _ _ _ (by omega) (by omega)).mono ?_
  rintro e w2 ⟨rfl, rfl⟩
  obtain ⟨W2, hW2⟩ : ∃ W, W = w1.alloc (.cells #[.int .i64 2, .int .i64 a, .int .i64 t.kind, .int .i64 t.num, .string t.name, .slice ta t.kids.length tc, .int .i64 u] 45) := ⟨_, rfl⟩
  have b2 : Below w1.heap.size w1 W2 := by rw [hW2]; exact (Below.refl _ _).alloc (Nat.le_refl _) _
  have X2 : Hid (Box7 W2 w1.heap.size (.int .i64 2) (.int .i64 a) (.int .i64 t.kind) (.int .i64 t.num) (.string t.name) (.slice ta t.kids.length tc) (.int .i64 u)) := by rw [hW2]; exact Box7.new w1 _ _ _ _ _ _ _ _
  have Y2 := Lib.hid (Y1.out.keep (keeps_below b2))
  have B2 := Lib.hid (B1.out.trans (b2.mono B1.out.size))
  have HW2 := Lib.hid hW2
  clear b2 hW2
  go_wp2_with fail
  rw [← HW2.out]
  refine (CI.out _).mono ?_
  rintro e w3 ⟨rfl, hg3⟩
  have b3 := below_none hg3
  have B3 := Lib.hid (B2.out.trans (b3.mono B2.out.size))
  have X3 := Lib.hid (X2.out.keep (keeps_below b3))
  have Y3 := Lib.hid (Y2.out.keep (keeps_below b3))
  obtain ⟨D, hD⟩ : ∃ D, w1.heap.size = D := ⟨_, rfl⟩
  rw [hD] at X3 ⊢
  clear b3 hg3 p0 p1 p2 p3 p4 c0 c1 c2 c3 c4 c5 c6 X2 hD
  obtain ⟨p0, p1, p2, p3, p4⟩ := Y3.out
  obtain ⟨q0, q1, q2, q3, q4, q5, q6⟩ := X3.out
  have KS : Hid (∀ wx, Below w3.heap.size w3 wx → wx.cell? ⟨D, 2, none⟩ = some (.int .i64 t.kind) ∧ wx.cell? ⟨D, 3, none⟩ = some (.int .i64 t.num) ∧ wx.cell? ⟨D, 4, none⟩ = some (.string t.name) ∧ wx.cell? ⟨D, 5, none⟩ = some (.slice ta t.kids.length tc) ∧ wx.cell? ⟨D, 6, none⟩ = some (.int .i64 u) ∧ Below w3.heap.size w3 wx) := fun wx hb => by
    obtain ⟨_, _, s2, s3, s4, s5, s6⟩ := X3.out.keep (keeps_below hb)
    exact ⟨s2, s3, s4, s5, s6, hb⟩
  have CT2 : Hid (∀ wx, Below w3.heap.size w3 wx → Calls Tryz.prog 51 #[.agg #[.int .i64 t.kind, .int .i64 t.num, .string t.name, .slice ta t.kids.length tc]] wx fun e w' => e = .returned (.string tx) ∧ Below w3.heap.size w3 w') := fun wx hb => (CT.out wx (B3.out.trans (hb.mono B3.out.size))).mono fun e w' ⟨he, h⟩ => ⟨he, hb.trans (h.mono hb.size)⟩
  have CD2 : Hid (∀ wx, Below w3.heap.size w3 wx → Calls Tryz.prog 50 #[.int .i64 u] wx fun e w' => e = .returned (.string dx) ∧ Below w3.heap.size w3 w') := fun wx hb => (CD.out wx).mono fun e w' ⟨he, h⟩ => ⟨he, hb.trans ((below_none h).mono hb.size)⟩
  have b0 : Below w3.heap.size w3 w3.drew := (Below.refl _ _).drew
  go_wp2_with fail
  clear q0 q1 q2 q3 q4 q5 q6 p0 p1 p2 p3 p4
  go_region_held3 (fun wx => wx.cell? ⟨D, 2, none⟩ = some (.int .i64 t.kind) ∧ wx.cell? ⟨D, 3, none⟩ = some (.int .i64 t.num) ∧ wx.cell? ⟨D, 4, none⟩ = some (.string t.name) ∧ wx.cell? ⟨D, 5, none⟩ = some (.slice ta t.kids.length tc) ∧ wx.cell? ⟨D, 6, none⟩ = some (.int .i64 u) ∧ Below w3.heap.size w3 wx)
    (exact KS.out _ (by assumption))
    (first
    | (go_at_call 51; (with_reducible refine (CT2.out _ (by assumption)).mono ?_); rintro e w4 ⟨rfl, b4⟩)
    | (go_at_call 50; (with_reducible refine (CD2.out _ (by assumption)).mono ?_); rintro e w5 ⟨rfl, b5⟩))
  all_goals
    have B4 := Lib.hid (B3.out.trans (b4.mono B3.out.size))
    have B5 := Lib.hid (B3.out.trans (b5.mono B3.out.size))
    go_wp2_with fail
    go_ret
    exact ⟨ret_s (by rw [HL.out]; try simp only [← ByteArray.append_assoc]), by first | exact B5.out | exact B4.out⟩
set_option maxRecDepth 20000 in
set_option maxHeartbeats 6400000 in
theorem specLine_jump (x : KTree) (i : Nat) (a u : Int) (t : Tree) (ga la pa ea ta : Option Addr) (gi oi gc lc pc ec ic n tc : Nat) (w : World) (hi : i < n) (hn : n ≤ 9223372036854775807) (hck : ∀ wx, Below w.heap.size w wx → Calls Tryz.prog 48 #[.agg #[.slice ga x.globals.length gc, .slice la x.locks.length lc, .slice pa x.procs.length pc, .slice ea x.entry.length ec, .slice (some ⟨gi, oi, none⟩) n ic]] wx fun e w' => e = .returned (.bool true) ∧ Below wx.heap.size wx w') (_ : RightK x ⟨3, a, t, u⟩) (_ : NamesAt w x.globals (.slice ga x.globals.length gc) ∧ nmsB x.globals = true) (_ : NamesAt w x.locks (.slice la x.locks.length lc) ∧ nmsB x.locks = true) (_ : NamesAt w x.procs (.slice pa x.procs.length pc) ∧ nmsB x.procs = true) (hu : InI u) (_ : Lies w t (.agg #[.int .i64 t.kind, .int .i64 t.num, .string t.name, .slice ta t.kids.length tc])) (_ : szT t ≤ 1048576) (_ : (textT t).size ≤ 21000000) (c0 : w.cell? ⟨gi, oi + i * 7, none⟩ = some (.int .i64 3)) (c1 : w.cell? ⟨gi, oi + i * 7 + 1, none⟩ = some (.int .i64 a)) (c2 : w.cell? ⟨gi, oi + i * 7 + 2, none⟩ = some (.int .i64 t.kind)) (c3 : w.cell? ⟨gi, oi + i * 7 + 3, none⟩ = some (.int .i64 t.num)) (c4 : w.cell? ⟨gi, oi + i * 7 + 4, none⟩ = some (.string t.name)) (c5 : w.cell? ⟨gi, oi + i * 7 + 5, none⟩ = some (.slice ta t.kids.length tc)) (c6 : w.cell? ⟨gi, oi + i * 7 + 6, none⟩ = some (.int .i64 u)) :
    Calls Tryz.prog 16 #[.agg #[.slice ga x.globals.length gc, .slice la x.locks.length lc, .slice pa x.procs.length pc, .slice ea x.entry.length ec, .slice (some ⟨gi, oi, none⟩) n ic], .int .i64 (i : Int)] w fun e w' => e = .returned (.string (insLine x i ⟨3, a, t, u⟩)) ∧ Below w.heap.size w w' := by
  have HCK := Lib.hid hck
  have hin := hi
  have CI : Hid (∀ wx, Calls Tryz.prog 50 #[.int .i64 (i : Int)] wx fun e w' => e = .returned (.string (decB (i : Int))) ∧ wx.grownBy w' none) := fun wx => specDecimal_any (i : Int) wx (by omega) (by omega)
  have his := decB_size (n := (i : Int)) (by omega)
  have Y0 := Lib.hid (Box5.new w (.slice ga x.globals.length gc) (.slice la x.locks.length lc) (.slice pa x.procs.length pc) (.slice ea x.entry.length ec) (.slice (some ⟨gi, oi, none⟩) n ic) 32)
  have B0 := Lib.hid ((Below.refl w.heap.size w).alloc (Nat.le_refl _) (.cells #[.slice ga x.globals.length gc, .slice la x.locks.length lc, .slice pa x.procs.length pc, .slice ea x.entry.length ec, .slice (some ⟨gi, oi, none⟩) n ic] 32))
  have CD : Hid (∀ wx, Calls Tryz.prog 50 #[.int .i64 u] wx fun e w' => e = .returned (.string (decB u)) ∧ wx.grownBy w' none) := fun wx => specDecimal_any u wx hu.1 hu.2
  have hds := decB_size hu
  have HL : Hid (insLine x i ⟨3, a, t, u⟩ = decB (i : Int) ++ ⟨#[32]⟩ ++ (⟨#[106, 117, 109, 112, 32]⟩ ++ decB u)) := rfl
  obtain ⟨rr, hrr⟩ : ∃ z, insLine x i ⟨3, a, t, u⟩ = z := ⟨_, rfl⟩
  rw [hrr] at HL
  rw [hrr]
  clear hrr
  obtain ⟨ix, hix⟩ : ∃ z, decB (i : Int) = z := ⟨_, rfl⟩
  rw [hix] at HL CI his
  clear hix
  obtain ⟨dx, hdx⟩ : ∃ z, decB u = z := ⟨_, rfl⟩
  rw [hdx] at HL CD hds
  clear hdx
  have z0 : ByteArray.size ⟨#[32]⟩ = 1 := rfl
  have z1 : ByteArray.size ⟨#[32, 61, 32]⟩ = 3 := rfl
  have z2 : ByteArray.size ⟨#[32, 101, 108, 115, 101, 32]⟩ = 6 := rfl
  have z3 : ByteArray.size ⟨#[106, 117, 109, 112, 32]⟩ = 5 := rfl
  have ad0 : ∀ w, (Op.stringOp .add (ix) (⟨#[32]⟩)).run Tryz.prog w = .ok (.string ((ix) ++ (⟨#[32]⟩))) w := fun w => run_string_add_sum w _ _ (by (try simp only [ByteArray.size_append]); omega)
  have ad1 : ∀ w, (Op.stringOp .add (ix ++ ⟨#[32]⟩) (⟨#[106, 117, 109, 112, 32]⟩)).run Tryz.prog w = .ok (.string ((ix ++ ⟨#[32]⟩) ++ (⟨#[106, 117, 109, 112, 32]⟩))) w := fun w => run_string_add_sum w _ _ (by (try simp only [ByteArray.size_append]); omega)
  have ad2 : ∀ w, (Op.stringOp .add (ix ++ ⟨#[32]⟩ ++ ⟨#[106, 117, 109, 112, 32]⟩) (dx)).run Tryz.prog w = .ok (.string ((ix ++ ⟨#[32]⟩ ++ ⟨#[106, 117, 109, 112, 32]⟩) ++ (dx))) w := fun w => run_string_add_sum w _ _ (by (try simp only [ByteArray.size_append]); omega)
  clear hck 
  obtain ⟨p0, p1, p2, p3, p4⟩ := Y0.out
  obtain ⟨W0, hW0⟩ : ∃ W, W = w.alloc (.cells #[.slice ga x.globals.length gc, .slice la x.locks.length lc, .slice pa x.procs.length pc, .slice ea x.entry.length ec, .slice (some ⟨gi, oi, none⟩) n ic] 32) := ⟨_, rfl⟩
  rw [← hW0] at Y0 B0
  have HW0 := Lib.hid hW0
  clear hW0
  have C0 := Lib.hid c0
  have C1 := Lib.hid c1
  have C2 := Lib.hid c2
  have C3 := Lib.hid c3
  have C4 := Lib.hid c4
  have C5 := Lib.hid c5
  have C6 := Lib.hid c6
  clear c0 c1 c2 c3 c4 c5 c6
  go_enter Tryz.func16, Tryz.ntmps16
  go_wp2_with fail
  rw [← HW0.out] at p0 p1 p2 p3 p4 ⊢
  refine (HCK.out _ B0.out).mono ?_
  rintro e w1 ⟨rfl, hb⟩
  have B1 := Lib.hid (B0.out.trans (hb.mono B0.out.size))
  have Y1 := Lib.hid (Y0.out.keep (keeps_below hb))
  clear hb p0 p1 p2 p3 p4
  obtain ⟨p0, p1, p2, p3, p4⟩ := Y1.out
  have K1 := keeps_below B1.out
  have c0 := K1 _ _ C0.out
  have c1 := K1 _ _ C1.out
  have c2 := K1 _ _ C2.out
  have c3 := K1 _ _ C3.out
  have c4 := K1 _ _ C4.out
  have c5 := K1 _ _ C5.out
  have c6 := K1 _ _ C6.out
  clear K1
  go_wp2_with fail
  refine (in_yes _ _ _ _ (by omega) (by omega)).mono ?_
  rintro e w2 ⟨rfl, rfl⟩
  obtain ⟨W2, hW2⟩ : ∃ W, W = w1.alloc (.cells #[.int .i64 3, .int .i64 a, .int .i64 t.kind, .int .i64 t.num, .string t.name, .slice ta t.kids.length tc, .int .i64 u] 45) := ⟨_, rfl⟩
  have b2 : Below w1.heap.size w1 W2 := by rw [hW2]; exact (Below.refl _ _).alloc (Nat.le_refl _) _
  have X2 : Hid (Box7 W2 w1.heap.size (.int .i64 3) (.int .i64 a) (.int .i64 t.kind) (.int .i64 t.num) (.string t.name) (.slice ta t.kids.length tc) (.int .i64 u)) := by rw [hW2]; exact Box7.new w1 _ _ _ _ _ _ _ _
  have Y2 := Lib.hid (Y1.out.keep (keeps_below b2))
  have B2 := Lib.hid (B1.out.trans (b2.mono B1.out.size))
  have HW2 := Lib.hid hW2
  clear b2 hW2
  go_wp2_with fail
  rw [← HW2.out]
  refine (CI.out _).mono ?_
  rintro e w3 ⟨rfl, hg3⟩
  have b3 := below_none hg3
  have B3 := Lib.hid (B2.out.trans (b3.mono B2.out.size))
  have X3 := Lib.hid (X2.out.keep (keeps_below b3))
  have Y3 := Lib.hid (Y2.out.keep (keeps_below b3))
  obtain ⟨D, hD⟩ : ∃ D, w1.heap.size = D := ⟨_, rfl⟩
  rw [hD] at X3 ⊢
  clear b3 hg3 p0 p1 p2 p3 p4 c0 c1 c2 c3 c4 c5 c6 X2 hD
  obtain ⟨p0, p1, p2, p3, p4⟩ := Y3.out
  obtain ⟨q0, q1, q2, q3, q4, q5, q6⟩ := X3.out
  go_wp2_with fail
  refine (CD.out _).mono ?_
  rintro e w4 ⟨rfl, hg4⟩
  have B4 := Lib.hid (B3.out.trans ((below_none hg4).mono B3.out.size))
  clear hg4
  go_wp2_with fail
  go_ret
  exact ⟨ret_s (by rw [HL.out]; try simp only [← ByteArray.append_assoc]), B4.out⟩
set_option maxRecDepth 20000 in
set_option maxHeartbeats 6400000 in
theorem specLine_call (x : KTree) (i : Nat) (a u : Int) (t : Tree) (ga la pa ea ta : Option Addr) (gi oi gc lc pc ec ic n tc : Nat) (w : World) (hi : i < n) (hn : n ≤ 9223372036854775807) (hck : ∀ wx, Below w.heap.size w wx → Calls Tryz.prog 48 #[.agg #[.slice ga x.globals.length gc, .slice la x.locks.length lc, .slice pa x.procs.length pc, .slice ea x.entry.length ec, .slice (some ⟨gi, oi, none⟩) n ic]] wx fun e w' => e = .returned (.bool true) ∧ Below wx.heap.size wx w') (hr : RightK x ⟨4, a, t, u⟩) (_ : NamesAt w x.globals (.slice ga x.globals.length gc) ∧ nmsB x.globals = true) (_ : NamesAt w x.locks (.slice la x.locks.length lc) ∧ nmsB x.locks = true) (hp : NamesAt w x.procs (.slice pa x.procs.length pc) ∧ nmsB x.procs = true) (_ : InI u) (_ : Lies w t (.agg #[.int .i64 t.kind, .int .i64 t.num, .string t.name, .slice ta t.kids.length tc])) (_ : szT t ≤ 1048576) (_ : (textT t).size ≤ 21000000) (c0 : w.cell? ⟨gi, oi + i * 7, none⟩ = some (.int .i64 4)) (c1 : w.cell? ⟨gi, oi + i * 7 + 1, none⟩ = some (.int .i64 a)) (c2 : w.cell? ⟨gi, oi + i * 7 + 2, none⟩ = some (.int .i64 t.kind)) (c3 : w.cell? ⟨gi, oi + i * 7 + 3, none⟩ = some (.int .i64 t.num)) (c4 : w.cell? ⟨gi, oi + i * 7 + 4, none⟩ = some (.string t.name)) (c5 : w.cell? ⟨gi, oi + i * 7 + 5, none⟩ = some (.slice ta t.kids.length tc)) (c6 : w.cell? ⟨gi, oi + i * 7 + 6, none⟩ = some (.int .i64 u)) :
    Calls Tryz.prog 16 #[.agg #[.slice ga x.globals.length gc, .slice la x.locks.length lc, .slice pa x.procs.length pc, .slice ea x.entry.length ec, .slice (some ⟨gi, oi, none⟩) n ic], .int .i64 (i : Int)] w fun e w' => e = .returned (.string (insLine x i ⟨4, a, t, u⟩)) ∧ Below w.heap.size w w' := by
  have HCK := Lib.hid hck
  have hin := hi
  have CI : Hid (∀ wx, Calls Tryz.prog 50 #[.int .i64 (i : Int)] wx fun e w' => e = .returned (.string (decB (i : Int))) ∧ wx.grownBy w' none) := fun wx => specDecimal_any (i : Int) wx (by omega) (by omega)
  have his := decB_size (n := (i : Int)) (by omega)
  have Y0 := Lib.hid (Box5.new w (.slice ga x.globals.length gc) (.slice la x.locks.length lc) (.slice pa x.procs.length pc) (.slice ea x.entry.length ec) (.slice (some ⟨gi, oi, none⟩) n ic) 32)
  have B0 := Lib.hid ((Below.refl w.heap.size w).alloc (Nat.le_refl _) (.cells #[.slice ga x.globals.length gc, .slice la x.locks.length lc, .slice pa x.procs.length pc, .slice ea x.entry.length ec, .slice (some ⟨gi, oi, none⟩) n ic] 32))
  obtain ⟨m, rfl⟩ : ∃ m : Nat, a = (m : Int) := ⟨a.toNat, by have := hr.arg.1; show a = _; have h2 : (⟨4, a, t, u⟩ : InsT).arg = a := rfl; rw [h2] at this; omega⟩
  have hm : m < x.procs.length := by have h := hr.arg.2; have h2 : mostI x (⟨4, (m : Int), t, u⟩ : InsT).op = (x.procs.length : Int) - 1 := rfl; rw [h2] at h; have h3 : (⟨4, (m : Int), t, u⟩ : InsT).arg = (m : Int) := rfl; rw [h3] at h; omega
  have hns := nmsB_size hp.2 hm
  obtain ⟨⟨a2, cc2, e2, hln, hc⟩, _⟩ := hp.1
  simp at e2
  obtain ⟨rfl, rfl⟩ := e2
  obtain ⟨g, o, rfl, hc2⟩ := hc (by omega)
  have d0 := hc2 m hm
  have HL : Hid (insLine x i ⟨4, ((m : Nat) : Int), t, u⟩ = decB (i : Int) ++ ⟨#[32]⟩ ++ (⟨#[99, 97, 108, 108, 32]⟩ ++ nmAt x.procs (m : Int))) := rfl
  obtain ⟨rr, hrr⟩ : ∃ z, insLine x i ⟨4, ((m : Nat) : Int), t, u⟩ = z := ⟨_, rfl⟩
  rw [hrr] at HL
  rw [hrr]
  clear hrr
  rw [nmAt_eq hm] at HL
  obtain ⟨nm, hnm⟩ : ∃ z, x.procs[m] = z := ⟨_, rfl⟩
  rw [hnm] at HL d0 hns
  clear hnm
  obtain ⟨ix, hix⟩ : ∃ z, decB (i : Int) = z := ⟨_, rfl⟩
  rw [hix] at HL CI his
  clear hix
  have z0 : ByteArray.size ⟨#[32]⟩ = 1 := rfl
  have z1 : ByteArray.size ⟨#[32, 61, 32]⟩ = 3 := rfl
  have z2 : ByteArray.size ⟨#[32, 101, 108, 115, 101, 32]⟩ = 6 := rfl
  have z3 : ByteArray.size ⟨#[99, 97, 108, 108, 32]⟩ = 5 := rfl
  have ad0 : ∀ w, (Op.stringOp .add (ix) (⟨#[32]⟩)).run Tryz.prog w = .ok (.string ((ix) ++ (⟨#[32]⟩))) w := fun w => run_string_add_sum w _ _ (by (try simp only [ByteArray.size_append]); omega)
  have ad1 : ∀ w, (Op.stringOp .add (ix ++ ⟨#[32]⟩) (⟨#[99, 97, 108, 108, 32]⟩)).run Tryz.prog w = .ok (.string ((ix ++ ⟨#[32]⟩) ++ (⟨#[99, 97, 108, 108, 32]⟩))) w := fun w => run_string_add_sum w _ _ (by (try simp only [ByteArray.size_append]); omega)
  have ad2 : ∀ w, (Op.stringOp .add (ix ++ ⟨#[32]⟩ ++ ⟨#[99, 97, 108, 108, 32]⟩) (nm)).run Tryz.prog w = .ok (.string ((ix ++ ⟨#[32]⟩ ++ ⟨#[99, 97, 108, 108, 32]⟩) ++ (nm))) w := fun w => run_string_add_sum w _ _ (by (try simp only [ByteArray.size_append]); omega)
  clear hck hr hc hc2 hp 
  obtain ⟨p0, p1, p2, p3, p4⟩ := Y0.out
  obtain ⟨W0, hW0⟩ : ∃ W, W = w.alloc (.cells #[.slice ga x.globals.length gc, .slice la x.locks.length lc, .slice (some ⟨g, o, none⟩) x.procs.length pc, .slice ea x.entry.length ec, .slice (some ⟨gi, oi, none⟩) n ic] 32) := ⟨_, rfl⟩
  rw [← hW0] at Y0 B0
  have HW0 := Lib.hid hW0
  clear hW0
  have C0 := Lib.hid c0
  have C1 := Lib.hid c1
  have C2 := Lib.hid c2
  have C3 := Lib.hid c3
  have C4 := Lib.hid c4
  have C5 := Lib.hid c5
  have C6 := Lib.hid c6
  clear c0 c1 c2 c3 c4 c5 c6
  go_enter Tryz.func16, Tryz.ntmps16
  go_wp2_with fail
  rw [← HW0.out] at p0 p1 p2 p3 p4 ⊢
  refine (HCK.out _ B0.out).mono ?_
  rintro e w1 ⟨rfl, hb⟩
  have B1 := Lib.hid (B0.out.trans (hb.mono B0.out.size))
  have Y1 := Lib.hid (Y0.out.keep (keeps_below hb))
  clear hb p0 p1 p2 p3 p4
  obtain ⟨p0, p1, p2, p3, p4⟩ := Y1.out
  have K1 := keeps_below B1.out
  have c0 := K1 _ _ C0.out
  have c1 := K1 _ _ C1.out
  have c2 := K1 _ _ C2.out
  have c3 := K1 _ _ C3.out
  have c4 := K1 _ _ C4.out
  have c5 := K1 _ _ C5.out
  have c6 := K1 _ _ C6.out
  clear K1
  go_wp2_with fail
  refine (in_yes _ _ _ _ (by omega) (by omega)).mono ?_
  rintro e w2 ⟨rfl, rfl⟩
  obtain ⟨W2, hW2⟩ : ∃ W, W = w1.alloc (.cells #[.int .i64 4, .int .i64 (m : Int), .int .i64 t.kind, .int .i64 t.num, .string t.name, .slice ta t.kids.length tc, .int .i64 u] 45) := ⟨_, rfl⟩
  have b2 : Below w1.heap.size w1 W2 := by rw [hW2]; exact (Below.refl _ _).alloc (Nat.le_refl _) _
  have X2 : Hid (Box7 W2 w1.heap.size (.int .i64 4) (.int .i64 (m : Int)) (.int .i64 t.kind) (.int .i64 t.num) (.string t.name) (.slice ta t.kids.length tc) (.int .i64 u)) := by rw [hW2]; exact Box7.new w1 _ _ _ _ _ _ _ _
  have Y2 := Lib.hid (Y1.out.keep (keeps_below b2))
  have B2 := Lib.hid (B1.out.trans (b2.mono B1.out.size))
  have HW2 := Lib.hid hW2
  clear b2 hW2
  go_wp2_with fail
  rw [← HW2.out]
  refine (CI.out _).mono ?_
  rintro e w3 ⟨rfl, hg3⟩
  have b3 := below_none hg3
  have B3 := Lib.hid (B2.out.trans (b3.mono B2.out.size))
  have X3 := Lib.hid (X2.out.keep (keeps_below b3))
  have Y3 := Lib.hid (Y2.out.keep (keeps_below b3))
  have D3 := Lib.hid (keeps_below B3.out _ _ d0)
  clear d0
  obtain ⟨D, hD⟩ : ∃ D, w1.heap.size = D := ⟨_, rfl⟩
  rw [hD] at X3 ⊢
  clear b3 hg3 p0 p1 p2 p3 p4 c0 c1 c2 c3 c4 c5 c6 X2 hD
  obtain ⟨p0, p1, p2, p3, p4⟩ := Y3.out
  obtain ⟨q0, q1, q2, q3, q4, q5, q6⟩ := X3.out
  have d3 := D3.out
  go_wp2_with fail
  go_ret
  exact ⟨ret_s (by rw [HL.out]; try simp only [← ByteArray.append_assoc]), B3.out⟩
set_option maxRecDepth 20000 in
set_option maxHeartbeats 6400000 in
theorem specLine_spawn (x : KTree) (i : Nat) (a u : Int) (t : Tree) (ga la pa ea ta : Option Addr) (gi oi gc lc pc ec ic n tc : Nat) (w : World) (hi : i < n) (hn : n ≤ 9223372036854775807) (hck : ∀ wx, Below w.heap.size w wx → Calls Tryz.prog 48 #[.agg #[.slice ga x.globals.length gc, .slice la x.locks.length lc, .slice pa x.procs.length pc, .slice ea x.entry.length ec, .slice (some ⟨gi, oi, none⟩) n ic]] wx fun e w' => e = .returned (.bool true) ∧ Below wx.heap.size wx w') (hr : RightK x ⟨5, a, t, u⟩) (_ : NamesAt w x.globals (.slice ga x.globals.length gc) ∧ nmsB x.globals = true) (_ : NamesAt w x.locks (.slice la x.locks.length lc) ∧ nmsB x.locks = true) (hp : NamesAt w x.procs (.slice pa x.procs.length pc) ∧ nmsB x.procs = true) (_ : InI u) (_ : Lies w t (.agg #[.int .i64 t.kind, .int .i64 t.num, .string t.name, .slice ta t.kids.length tc])) (_ : szT t ≤ 1048576) (_ : (textT t).size ≤ 21000000) (c0 : w.cell? ⟨gi, oi + i * 7, none⟩ = some (.int .i64 5)) (c1 : w.cell? ⟨gi, oi + i * 7 + 1, none⟩ = some (.int .i64 a)) (c2 : w.cell? ⟨gi, oi + i * 7 + 2, none⟩ = some (.int .i64 t.kind)) (c3 : w.cell? ⟨gi, oi + i * 7 + 3, none⟩ = some (.int .i64 t.num)) (c4 : w.cell? ⟨gi, oi + i * 7 + 4, none⟩ = some (.string t.name)) (c5 : w.cell? ⟨gi, oi + i * 7 + 5, none⟩ = some (.slice ta t.kids.length tc)) (c6 : w.cell? ⟨gi, oi + i * 7 + 6, none⟩ = some (.int .i64 u)) :
    Calls Tryz.prog 16 #[.agg #[.slice ga x.globals.length gc, .slice la x.locks.length lc, .slice pa x.procs.length pc, .slice ea x.entry.length ec, .slice (some ⟨gi, oi, none⟩) n ic], .int .i64 (i : Int)] w fun e w' => e = .returned (.string (insLine x i ⟨5, a, t, u⟩)) ∧ Below w.heap.size w w' := by
  have HCK := Lib.hid hck
  have hin := hi
  have CI : Hid (∀ wx, Calls Tryz.prog 50 #[.int .i64 (i : Int)] wx fun e w' => e = .returned (.string (decB (i : Int))) ∧ wx.grownBy w' none) := fun wx => specDecimal_any (i : Int) wx (by omega) (by omega)
  have his := decB_size (n := (i : Int)) (by omega)
  have Y0 := Lib.hid (Box5.new w (.slice ga x.globals.length gc) (.slice la x.locks.length lc) (.slice pa x.procs.length pc) (.slice ea x.entry.length ec) (.slice (some ⟨gi, oi, none⟩) n ic) 32)
  have B0 := Lib.hid ((Below.refl w.heap.size w).alloc (Nat.le_refl _) (.cells #[.slice ga x.globals.length gc, .slice la x.locks.length lc, .slice pa x.procs.length pc, .slice ea x.entry.length ec, .slice (some ⟨gi, oi, none⟩) n ic] 32))
  obtain ⟨m, rfl⟩ : ∃ m : Nat, a = (m : Int) := ⟨a.toNat, by have := hr.arg.1; show a = _; have h2 : (⟨5, a, t, u⟩ : InsT).arg = a := rfl; rw [h2] at this; omega⟩
  have hm : m < x.procs.length := by have h := hr.arg.2; have h2 : mostI x (⟨5, (m : Int), t, u⟩ : InsT).op = (x.procs.length : Int) - 1 := rfl; rw [h2] at h; have h3 : (⟨5, (m : Int), t, u⟩ : InsT).arg = (m : Int) := rfl; rw [h3] at h; omega
  have hns := nmsB_size hp.2 hm
  obtain ⟨⟨a2, cc2, e2, hln, hc⟩, _⟩ := hp.1
  simp at e2
  obtain ⟨rfl, rfl⟩ := e2
  obtain ⟨g, o, rfl, hc2⟩ := hc (by omega)
  have d0 := hc2 m hm
  have HL : Hid (insLine x i ⟨5, ((m : Nat) : Int), t, u⟩ = decB (i : Int) ++ ⟨#[32]⟩ ++ (⟨#[115, 112, 97, 119, 110, 32]⟩ ++ nmAt x.procs (m : Int))) := rfl
  obtain ⟨rr, hrr⟩ : ∃ z, insLine x i ⟨5, ((m : Nat) : Int), t, u⟩ = z := ⟨_, rfl⟩
  rw [hrr] at HL
  rw [hrr]
  clear hrr
  rw [nmAt_eq hm] at HL
  obtain ⟨nm, hnm⟩ : ∃ z, x.procs[m] = z := ⟨_, rfl⟩
  rw [hnm] at HL d0 hns
  clear hnm
  obtain ⟨ix, hix⟩ : ∃ z, decB (i : Int) = z := ⟨_, rfl⟩
  rw [hix] at HL CI his
  clear hix
  have z0 : ByteArray.size ⟨#[32]⟩ = 1 := rfl
  have z1 : ByteArray.size ⟨#[32, 61, 32]⟩ = 3 := rfl
  have z2 : ByteArray.size ⟨#[32, 101, 108, 115, 101, 32]⟩ = 6 := rfl
  have z3 : ByteArray.size ⟨#[115, 112, 97, 119, 110, 32]⟩ = 6 := rfl
  have ad0 : ∀ w, (Op.stringOp .add (ix) (⟨#[32]⟩)).run Tryz.prog w = .ok (.string ((ix) ++ (⟨#[32]⟩))) w := fun w => run_string_add_sum w _ _ (by (try simp only [ByteArray.size_append]); omega)
  have ad1 : ∀ w, (Op.stringOp .add (ix ++ ⟨#[32]⟩) (⟨#[115, 112, 97, 119, 110, 32]⟩)).run Tryz.prog w = .ok (.string ((ix ++ ⟨#[32]⟩) ++ (⟨#[115, 112, 97, 119, 110, 32]⟩))) w := fun w => run_string_add_sum w _ _ (by (try simp only [ByteArray.size_append]); omega)
  have ad2 : ∀ w, (Op.stringOp .add (ix ++ ⟨#[32]⟩ ++ ⟨#[115, 112, 97, 119, 110, 32]⟩) (nm)).run Tryz.prog w = .ok (.string ((ix ++ ⟨#[32]⟩ ++ ⟨#[115, 112, 97, 119, 110, 32]⟩) ++ (nm))) w := fun w => run_string_add_sum w _ _ (by (try simp only [ByteArray.size_append]); omega)
  clear hck hr hc hc2 hp 
  obtain ⟨p0, p1, p2, p3, p4⟩ := Y0.out
  obtain ⟨W0, hW0⟩ : ∃ W, W = w.alloc (.cells #[.slice ga x.globals.length gc, .slice la x.locks.length lc, .slice (some ⟨g, o, none⟩) x.procs.length pc, .slice ea x.entry.length ec, .slice (some ⟨gi, oi, none⟩) n ic] 32) := ⟨_, rfl⟩
  rw [← hW0] at Y0 B0
  have HW0 := Lib.hid hW0
  clear hW0
  have C0 := Lib.hid c0
  have C1 := Lib.hid c1
  have C2 := Lib.hid c2
  have C3 := Lib.hid c3
  have C4 := Lib.hid c4
  have C5 := Lib.hid c5
  have C6 := Lib.hid c6
  clear c0 c1 c2 c3 c4 c5 c6
  go_enter Tryz.func16, Tryz.ntmps16
  go_wp2_with fail
  rw [← HW0.out] at p0 p1 p2 p3 p4 ⊢
  refine (HCK.out _ B0.out).mono ?_
  rintro e w1 ⟨rfl, hb⟩
  have B1 := Lib.hid (B0.out.trans (hb.mono B0.out.size))
  have Y1 := Lib.hid (Y0.out.keep (keeps_below hb))
  clear hb p0 p1 p2 p3 p4
  obtain ⟨p0, p1, p2, p3, p4⟩ := Y1.out
  have K1 := keeps_below B1.out
  have c0 := K1 _ _ C0.out
  have c1 := K1 _ _ C1.out
  have c2 := K1 _ _ C2.out
  have c3 := K1 _ _ C3.out
  have c4 := K1 _ _ C4.out
  have c5 := K1 _ _ C5.out
  have c6 := K1 _ _ C6.out
  clear K1
  go_wp2_with fail
  refine (in_yes _ _ _ _ (by omega) (by omega)).mono ?_
  rintro e w2 ⟨rfl, rfl⟩
  obtain ⟨W2, hW2⟩ : ∃ W, W = w1.alloc (.cells #[.int .i64 5, .int .i64 (m : Int), .int .i64 t.kind, .int .i64 t.num, .string t.name, .slice ta t.kids.length tc, .int .i64 u] 45) := ⟨_, rfl⟩
  have b2 : Below w1.heap.size w1 W2 := by rw [hW2]; exact (Below.refl _ _).alloc (Nat.le_refl _) _
  have X2 : Hid (Box7 W2 w1.heap.size (.int .i64 5) (.int .i64 (m : Int)) (.int .i64 t.kind) (.int .i64 t.num) (.string t.name) (.slice ta t.kids.length tc) (.int .i64 u)) := by rw [hW2]; exact Box7.new w1 _ _ _ _ _ _ _ _
  have Y2 := Lib.hid (Y1.out.keep (keeps_below b2))
  have B2 := Lib.hid (B1.out.trans (b2.mono B1.out.size))
  have HW2 := Lib.hid hW2
  clear b2 hW2
  go_wp2_with fail
  rw [← HW2.out]
  refine (CI.out _).mono ?_
  rintro e w3 ⟨rfl, hg3⟩
  have b3 := below_none hg3
  have B3 := Lib.hid (B2.out.trans (b3.mono B2.out.size))
  have X3 := Lib.hid (X2.out.keep (keeps_below b3))
  have Y3 := Lib.hid (Y2.out.keep (keeps_below b3))
  have D3 := Lib.hid (keeps_below B3.out _ _ d0)
  clear d0
  obtain ⟨D, hD⟩ : ∃ D, w1.heap.size = D := ⟨_, rfl⟩
  rw [hD] at X3 ⊢
  clear b3 hg3 p0 p1 p2 p3 p4 c0 c1 c2 c3 c4 c5 c6 X2 hD
  obtain ⟨p0, p1, p2, p3, p4⟩ := Y3.out
  obtain ⟨q0, q1, q2, q3, q4, q5, q6⟩ := X3.out
  have d3 := D3.out
  go_wp2_with fail
  go_ret
  exact ⟨ret_s (by rw [HL.out]; try simp only [← ByteArray.append_assoc]), B3.out⟩
set_option maxRecDepth 20000 in
set_option maxHeartbeats 6400000 in
theorem specLine_lock (x : KTree) (i : Nat) (a u : Int) (t : Tree) (ga la pa ea ta : Option Addr) (gi oi gc lc pc ec ic n tc : Nat) (w : World) (hi : i < n) (hn : n ≤ 9223372036854775807) (hck : ∀ wx, Below w.heap.size w wx → Calls Tryz.prog 48 #[.agg #[.slice ga x.globals.length gc, .slice la x.locks.length lc, .slice pa x.procs.length pc, .slice ea x.entry.length ec, .slice (some ⟨gi, oi, none⟩) n ic]] wx fun e w' => e = .returned (.bool true) ∧ Below wx.heap.size wx w') (hr : RightK x ⟨6, a, t, u⟩) (_ : NamesAt w x.globals (.slice ga x.globals.length gc) ∧ nmsB x.globals = true) (hl : NamesAt w x.locks (.slice la x.locks.length lc) ∧ nmsB x.locks = true) (_ : NamesAt w x.procs (.slice pa x.procs.length pc) ∧ nmsB x.procs = true) (_ : InI u) (_ : Lies w t (.agg #[.int .i64 t.kind, .int .i64 t.num, .string t.name, .slice ta t.kids.length tc])) (_ : szT t ≤ 1048576) (_ : (textT t).size ≤ 21000000) (c0 : w.cell? ⟨gi, oi + i * 7, none⟩ = some (.int .i64 6)) (c1 : w.cell? ⟨gi, oi + i * 7 + 1, none⟩ = some (.int .i64 a)) (c2 : w.cell? ⟨gi, oi + i * 7 + 2, none⟩ = some (.int .i64 t.kind)) (c3 : w.cell? ⟨gi, oi + i * 7 + 3, none⟩ = some (.int .i64 t.num)) (c4 : w.cell? ⟨gi, oi + i * 7 + 4, none⟩ = some (.string t.name)) (c5 : w.cell? ⟨gi, oi + i * 7 + 5, none⟩ = some (.slice ta t.kids.length tc)) (c6 : w.cell? ⟨gi, oi + i * 7 + 6, none⟩ = some (.int .i64 u)) :
    Calls Tryz.prog 16 #[.agg #[.slice ga x.globals.length gc, .slice la x.locks.length lc, .slice pa x.procs.length pc, .slice ea x.entry.length ec, .slice (some ⟨gi, oi, none⟩) n ic], .int .i64 (i : Int)] w fun e w' => e = .returned (.string (insLine x i ⟨6, a, t, u⟩)) ∧ Below w.heap.size w w' := by
  have HCK := Lib.hid hck
  have hin := hi
  have CI : Hid (∀ wx, Calls Tryz.prog 50 #[.int .i64 (i : Int)] wx fun e w' => e = .returned (.string (decB (i : Int))) ∧ wx.grownBy w' none) := fun wx => specDecimal_any (i : Int) wx (by omega) (by omega)
  have his := decB_size (n := (i : Int)) (by omega)
  have Y0 := Lib.hid (Box5.new w (.slice ga x.globals.length gc) (.slice la x.locks.length lc) (.slice pa x.procs.length pc) (.slice ea x.entry.length ec) (.slice (some ⟨gi, oi, none⟩) n ic) 32)
  have B0 := Lib.hid ((Below.refl w.heap.size w).alloc (Nat.le_refl _) (.cells #[.slice ga x.globals.length gc, .slice la x.locks.length lc, .slice pa x.procs.length pc, .slice ea x.entry.length ec, .slice (some ⟨gi, oi, none⟩) n ic] 32))
  obtain ⟨m, rfl⟩ : ∃ m : Nat, a = (m : Int) := ⟨a.toNat, by have := hr.arg.1; show a = _; have h2 : (⟨6, a, t, u⟩ : InsT).arg = a := rfl; rw [h2] at this; omega⟩
  have hm : m < x.locks.length := by have h := hr.arg.2; have h2 : mostI x (⟨6, (m : Int), t, u⟩ : InsT).op = (x.locks.length : Int) - 1 := rfl; rw [h2] at h; have h3 : (⟨6, (m : Int), t, u⟩ : InsT).arg = (m : Int) := rfl; rw [h3] at h; omega
  have hns := nmsB_size hl.2 hm
  obtain ⟨⟨a2, cc2, e2, hln, hc⟩, _⟩ := hl.1
  simp at e2
  obtain ⟨rfl, rfl⟩ := e2
  obtain ⟨g, o, rfl, hc2⟩ := hc (by omega)
  have d0 := hc2 m hm
  have HL : Hid (insLine x i ⟨6, ((m : Nat) : Int), t, u⟩ = decB (i : Int) ++ ⟨#[32]⟩ ++ (⟨#[108, 111, 99, 107, 32]⟩ ++ nmAt x.locks (m : Int))) := rfl
  obtain ⟨rr, hrr⟩ : ∃ z, insLine x i ⟨6, ((m : Nat) : Int), t, u⟩ = z := ⟨_, rfl⟩
  rw [hrr] at HL
  rw [hrr]
  clear hrr
  rw [nmAt_eq hm] at HL
  obtain ⟨nm, hnm⟩ : ∃ z, x.locks[m] = z := ⟨_, rfl⟩
  rw [hnm] at HL d0 hns
  clear hnm
  obtain ⟨ix, hix⟩ : ∃ z, decB (i : Int) = z := ⟨_, rfl⟩
  rw [hix] at HL CI his
  clear hix
  have z0 : ByteArray.size ⟨#[32]⟩ = 1 := rfl
  have z1 : ByteArray.size ⟨#[32, 61, 32]⟩ = 3 := rfl
  have z2 : ByteArray.size ⟨#[32, 101, 108, 115, 101, 32]⟩ = 6 := rfl
  have z3 : ByteArray.size ⟨#[108, 111, 99, 107, 32]⟩ = 5 := rfl
  have ad0 : ∀ w, (Op.stringOp .add (ix) (⟨#[32]⟩)).run Tryz.prog w = .ok (.string ((ix) ++ (⟨#[32]⟩))) w := fun w => run_string_add_sum w _ _ (by (try simp only [ByteArray.size_append]); omega)
  have ad1 : ∀ w, (Op.stringOp .add (ix ++ ⟨#[32]⟩) (⟨#[108, 111, 99, 107, 32]⟩)).run Tryz.prog w = .ok (.string ((ix ++ ⟨#[32]⟩) ++ (⟨#[108, 111, 99, 107, 32]⟩))) w := fun w => run_string_add_sum w _ _ (by (try simp only [ByteArray.size_append]); omega)
  have ad2 : ∀ w, (Op.stringOp .add (ix ++ ⟨#[32]⟩ ++ ⟨#[108, 111, 99, 107, 32]⟩) (nm)).run Tryz.prog w = .ok (.string ((ix ++ ⟨#[32]⟩ ++ ⟨#[108, 111, 99, 107, 32]⟩) ++ (nm))) w := fun w => run_string_add_sum w _ _ (by (try simp only [ByteArray.size_append]); omega)
  clear hck hr hc hc2 hl 
  obtain ⟨p0, p1, p2, p3, p4⟩ := Y0.out
  obtain ⟨W0, hW0⟩ : ∃ W, W = w.alloc (.cells #[.slice ga x.globals.length gc, .slice (some ⟨g, o, none⟩) x.locks.length lc, .slice pa x.procs.length pc, .slice ea x.entry.length ec, .slice (some ⟨gi, oi, none⟩) n ic] 32) := ⟨_, rfl⟩
  rw [← hW0] at Y0 B0
  have HW0 := Lib.hid hW0
  clear hW0
  have C0 := Lib.hid c0
  have C1 := Lib.hid c1
  have C2 := Lib.hid c2
  have C3 := Lib.hid c3
  have C4 := Lib.hid c4
  have C5 := Lib.hid c5
  have C6 := Lib.hid c6
  clear c0 c1 c2 c3 c4 c5 c6
  go_enter Tryz.func16, Tryz.ntmps16
  go_wp2_with fail
  rw [← HW0.out] at p0 p1 p2 p3 p4 ⊢
  refine (HCK.out _ B0.out).mono ?_
  rintro e w1 ⟨rfl, hb⟩
  have B1 := Lib.hid (B0.out.trans (hb.mono B0.out.size))
  have Y1 := Lib.hid (Y0.out.keep (keeps_below hb))
  clear hb p0 p1 p2 p3 p4
  obtain ⟨p0, p1, p2, p3, p4⟩ := Y1.out
  have K1 := keeps_below B1.out
  have c0 := K1 _ _ C0.out
  have c1 := K1 _ _ C1.out
  have c2 := K1 _ _ C2.out
  have c3 := K1 _ _ C3.out
  have c4 := K1 _ _ C4.out
  have c5 := K1 _ _ C5.out
  have c6 := K1 _ _ C6.out
  clear K1
  go_wp2_with fail
  refine (in_yes _ _ _ _ (by omega) (by omega)).mono ?_
  rintro e w2 ⟨rfl, rfl⟩
  obtain ⟨W2, hW2⟩ : ∃ W, W = w1.alloc (.cells #[.int .i64 6, .int .i64 (m : Int), .int .i64 t.kind, .int .i64 t.num, .string t.name, .slice ta t.kids.length tc, .int .i64 u] 45) := ⟨_, rfl⟩
  have b2 : Below w1.heap.size w1 W2 := by rw [hW2]; exact (Below.refl _ _).alloc (Nat.le_refl _) _
  have X2 : Hid (Box7 W2 w1.heap.size (.int .i64 6) (.int .i64 (m : Int)) (.int .i64 t.kind) (.int .i64 t.num) (.string t.name) (.slice ta t.kids.length tc) (.int .i64 u)) := by rw [hW2]; exact Box7.new w1 _ _ _ _ _ _ _ _
  have Y2 := Lib.hid (Y1.out.keep (keeps_below b2))
  have B2 := Lib.hid (B1.out.trans (b2.mono B1.out.size))
  have HW2 := Lib.hid hW2
  clear b2 hW2
  go_wp2_with fail
  rw [← HW2.out]
  refine (CI.out _).mono ?_
  rintro e w3 ⟨rfl, hg3⟩
  have b3 := below_none hg3
  have B3 := Lib.hid (B2.out.trans (b3.mono B2.out.size))
  have X3 := Lib.hid (X2.out.keep (keeps_below b3))
  have Y3 := Lib.hid (Y2.out.keep (keeps_below b3))
  have D3 := Lib.hid (keeps_below B3.out _ _ d0)
  clear d0
  obtain ⟨D, hD⟩ : ∃ D, w1.heap.size = D := ⟨_, rfl⟩
  rw [hD] at X3 ⊢
  clear b3 hg3 p0 p1 p2 p3 p4 c0 c1 c2 c3 c4 c5 c6 X2 hD
  obtain ⟨p0, p1, p2, p3, p4⟩ := Y3.out
  obtain ⟨q0, q1, q2, q3, q4, q5, q6⟩ := X3.out
  have d3 := D3.out
  go_wp2_with fail
  go_ret
  exact ⟨ret_s (by rw [HL.out]; try simp only [← ByteArray.append_assoc]), B3.out⟩
set_option maxRecDepth 20000 in
set_option maxHeartbeats 6400000 in
theorem specLine_unlock (x : KTree) (i : Nat) (a u : Int) (t : Tree) (ga la pa ea ta : Option Addr) (gi oi gc lc pc ec ic n tc : Nat) (w : World) (hi : i < n) (hn : n ≤ 9223372036854775807) (hck : ∀ wx, Below w.heap.size w wx → Calls Tryz.prog 48 #[.agg #[.slice ga x.globals.length gc, .slice la x.locks.length lc, .slice pa x.procs.length pc, .slice ea x.entry.length ec, .slice (some ⟨gi, oi, none⟩) n ic]] wx fun e w' => e = .returned (.bool true) ∧ Below wx.heap.size wx w') (hr : RightK x ⟨7, a, t, u⟩) (_ : NamesAt w x.globals (.slice ga x.globals.length gc) ∧ nmsB x.globals = true) (hl : NamesAt w x.locks (.slice la x.locks.length lc) ∧ nmsB x.locks = true) (_ : NamesAt w x.procs (.slice pa x.procs.length pc) ∧ nmsB x.procs = true) (_ : InI u) (_ : Lies w t (.agg #[.int .i64 t.kind, .int .i64 t.num, .string t.name, .slice ta t.kids.length tc])) (_ : szT t ≤ 1048576) (_ : (textT t).size ≤ 21000000) (c0 : w.cell? ⟨gi, oi + i * 7, none⟩ = some (.int .i64 7)) (c1 : w.cell? ⟨gi, oi + i * 7 + 1, none⟩ = some (.int .i64 a)) (c2 : w.cell? ⟨gi, oi + i * 7 + 2, none⟩ = some (.int .i64 t.kind)) (c3 : w.cell? ⟨gi, oi + i * 7 + 3, none⟩ = some (.int .i64 t.num)) (c4 : w.cell? ⟨gi, oi + i * 7 + 4, none⟩ = some (.string t.name)) (c5 : w.cell? ⟨gi, oi + i * 7 + 5, none⟩ = some (.slice ta t.kids.length tc)) (c6 : w.cell? ⟨gi, oi + i * 7 + 6, none⟩ = some (.int .i64 u)) :
    Calls Tryz.prog 16 #[.agg #[.slice ga x.globals.length gc, .slice la x.locks.length lc, .slice pa x.procs.length pc, .slice ea x.entry.length ec, .slice (some ⟨gi, oi, none⟩) n ic], .int .i64 (i : Int)] w fun e w' => e = .returned (.string (insLine x i ⟨7, a, t, u⟩)) ∧ Below w.heap.size w w' := by
  have HCK := Lib.hid hck
  have hin := hi
  have CI : Hid (∀ wx, Calls Tryz.prog 50 #[.int .i64 (i : Int)] wx fun e w' => e = .returned (.string (decB (i : Int))) ∧ wx.grownBy w' none) := fun wx => specDecimal_any (i : Int) wx (by omega) (by omega)
  have his := decB_size (n := (i : Int)) (by omega)
  have Y0 := Lib.hid (Box5.new w (.slice ga x.globals.length gc) (.slice la x.locks.length lc) (.slice pa x.procs.length pc) (.slice ea x.entry.length ec) (.slice (some ⟨gi, oi, none⟩) n ic) 32)
  have B0 := Lib.hid ((Below.refl w.heap.size w).alloc (Nat.le_refl _) (.cells #[.slice ga x.globals.length gc, .slice la x.locks.length lc, .slice pa x.procs.length pc, .slice ea x.entry.length ec, .slice (some ⟨gi, oi, none⟩) n ic] 32))
  obtain ⟨m, rfl⟩ : ∃ m : Nat, a = (m : Int) := ⟨a.toNat, by have := hr.arg.1; show a = _; have h2 : (⟨7, a, t, u⟩ : InsT).arg = a := rfl; rw [h2] at this; omega⟩
  have hm : m < x.locks.length := by have h := hr.arg.2; have h2 : mostI x (⟨7, (m : Int), t, u⟩ : InsT).op = (x.locks.length : Int) - 1 := rfl; rw [h2] at h; have h3 : (⟨7, (m : Int), t, u⟩ : InsT).arg = (m : Int) := rfl; rw [h3] at h; omega
  have hns := nmsB_size hl.2 hm
  obtain ⟨⟨a2, cc2, e2, hln, hc⟩, _⟩ := hl.1
  simp at e2
  obtain ⟨rfl, rfl⟩ := e2
  obtain ⟨g, o, rfl, hc2⟩ := hc (by omega)
  have d0 := hc2 m hm
  have HL : Hid (insLine x i ⟨7, ((m : Nat) : Int), t, u⟩ = decB (i : Int) ++ ⟨#[32]⟩ ++ (⟨#[117, 110, 108, 111, 99, 107, 32]⟩ ++ nmAt x.locks (m : Int))) := rfl
  obtain ⟨rr, hrr⟩ : ∃ z, insLine x i ⟨7, ((m : Nat) : Int), t, u⟩ = z := ⟨_, rfl⟩
  rw [hrr] at HL
  rw [hrr]
  clear hrr
  rw [nmAt_eq hm] at HL
  obtain ⟨nm, hnm⟩ : ∃ z, x.locks[m] = z := ⟨_, rfl⟩
  rw [hnm] at HL d0 hns
  clear hnm
  obtain ⟨ix, hix⟩ : ∃ z, decB (i : Int) = z := ⟨_, rfl⟩
  rw [hix] at HL CI his
  clear hix
  have z0 : ByteArray.size ⟨#[32]⟩ = 1 := rfl
  have z1 : ByteArray.size ⟨#[32, 61, 32]⟩ = 3 := rfl
  have z2 : ByteArray.size ⟨#[32, 101, 108, 115, 101, 32]⟩ = 6 := rfl
  have z3 : ByteArray.size ⟨#[117, 110, 108, 111, 99, 107, 32]⟩ = 7 := rfl
  have ad0 : ∀ w, (Op.stringOp .add (ix) (⟨#[32]⟩)).run Tryz.prog w = .ok (.string ((ix) ++ (⟨#[32]⟩))) w := fun w => run_string_add_sum w _ _ (by (try simp only [ByteArray.size_append]); omega)
  have ad1 : ∀ w, (Op.stringOp .add (ix ++ ⟨#[32]⟩) (⟨#[117, 110, 108, 111, 99, 107, 32]⟩)).run Tryz.prog w = .ok (.string ((ix ++ ⟨#[32]⟩) ++ (⟨#[117, 110, 108, 111, 99, 107, 32]⟩))) w := fun w => run_string_add_sum w _ _ (by (try simp only [ByteArray.size_append]); omega)
  have ad2 : ∀ w, (Op.stringOp .add (ix ++ ⟨#[32]⟩ ++ ⟨#[117, 110, 108, 111, 99, 107, 32]⟩) (nm)).run Tryz.prog w = .ok (.string ((ix ++ ⟨#[32]⟩ ++ ⟨#[117, 110, 108, 111, 99, 107, 32]⟩) ++ (nm))) w := fun w => run_string_add_sum w _ _ (by (try simp only [ByteArray.size_append]); omega)
  clear hck hr hc hc2 hl 
  obtain ⟨p0, p1, p2, p3, p4⟩ := Y0.out
  obtain ⟨W0, hW0⟩ : ∃ W, W = w.alloc (.cells #[.slice ga x.globals.length gc, .slice (some ⟨g, o, none⟩) x.locks.length lc, .slice pa x.procs.length pc, .slice ea x.entry.length ec, .slice (some ⟨gi, oi, none⟩) n ic] 32) := ⟨_, rfl⟩
  rw [← hW0] at Y0 B0
  have HW0 := Lib.hid hW0
  clear hW0
  have C0 := Lib.hid c0
  have C1 := Lib.hid c1
  have C2 := Lib.hid c2
  have C3 := Lib.hid c3
  have C4 := Lib.hid c4
  have C5 := Lib.hid c5
  have C6 := Lib.hid c6
  clear c0 c1 c2 c3 c4 c5 c6
  go_enter Tryz.func16, Tryz.ntmps16
  go_wp2_with fail
  rw [← HW0.out] at p0 p1 p2 p3 p4 ⊢
  refine (HCK.out _ B0.out).mono ?_
  rintro e w1 ⟨rfl, hb⟩
  have B1 := Lib.hid (B0.out.trans (hb.mono B0.out.size))
  have Y1 := Lib.hid (Y0.out.keep (keeps_below hb))
  clear hb p0 p1 p2 p3 p4
  obtain ⟨p0, p1, p2, p3, p4⟩ := Y1.out
  have K1 := keeps_below B1.out
  have c0 := K1 _ _ C0.out
  have c1 := K1 _ _ C1.out
  have c2 := K1 _ _ C2.out
  have c3 := K1 _ _ C3.out
  have c4 := K1 _ _ C4.out
  have c5 := K1 _ _ C5.out
  have c6 := K1 _ _ C6.out
  clear K1
  go_wp2_with fail
  refine (in_yes _ _ _ _ (by omega) (by omega)).mono ?_
  rintro e w2 ⟨rfl, rfl⟩
  obtain ⟨W2, hW2⟩ : ∃ W, W = w1.alloc (.cells #[.int .i64 7, .int .i64 (m : Int), .int .i64 t.kind, .int .i64 t.num, .string t.name, .slice ta t.kids.length tc, .int .i64 u] 45) := ⟨_, rfl⟩
  have b2 : Below w1.heap.size w1 W2 := by rw [hW2]; exact (Below.refl _ _).alloc (Nat.le_refl _) _
  have X2 : Hid (Box7 W2 w1.heap.size (.int .i64 7) (.int .i64 (m : Int)) (.int .i64 t.kind) (.int .i64 t.num) (.string t.name) (.slice ta t.kids.length tc) (.int .i64 u)) := by rw [hW2]; exact Box7.new w1 _ _ _ _ _ _ _ _
  have Y2 := Lib.hid (Y1.out.keep (keeps_below b2))
  have B2 := Lib.hid (B1.out.trans (b2.mono B1.out.size))
  have HW2 := Lib.hid hW2
  clear b2 hW2
  go_wp2_with fail
  rw [← HW2.out]
  refine (CI.out _).mono ?_
  rintro e w3 ⟨rfl, hg3⟩
  have b3 := below_none hg3
  have B3 := Lib.hid (B2.out.trans (b3.mono B2.out.size))
  have X3 := Lib.hid (X2.out.keep (keeps_below b3))
  have Y3 := Lib.hid (Y2.out.keep (keeps_below b3))
  have D3 := Lib.hid (keeps_below B3.out _ _ d0)
  clear d0
  obtain ⟨D, hD⟩ : ∃ D, w1.heap.size = D := ⟨_, rfl⟩
  rw [hD] at X3 ⊢
  clear b3 hg3 p0 p1 p2 p3 p4 c0 c1 c2 c3 c4 c5 c6 X2 hD
  obtain ⟨p0, p1, p2, p3, p4⟩ := Y3.out
  obtain ⟨q0, q1, q2, q3, q4, q5, q6⟩ := X3.out
  have d3 := D3.out
  go_wp2_with fail
  go_ret
  exact ⟨ret_s (by rw [HL.out]; try simp only [← ByteArray.append_assoc]), B3.out⟩
set_option maxRecDepth 20000 in
set_option maxHeartbeats 6400000 in
theorem specLine_skip (x : KTree) (i : Nat) (a u : Int) (t : Tree) (ga la pa ea ta : Option Addr) (gi oi gc lc pc ec ic n tc : Nat) (w : World) (hi : i < n) (hn : n ≤ 9223372036854775807) (hck : ∀ wx, Below w.heap.size w wx → Calls Tryz.prog 48 #[.agg #[.slice ga x.globals.length gc, .slice la x.locks.length lc, .slice pa x.procs.length pc, .slice ea x.entry.length ec, .slice (some ⟨gi, oi, none⟩) n ic]] wx fun e w' => e = .returned (.bool true) ∧ Below wx.heap.size wx w') (_ : RightK x ⟨8, a, t, u⟩) (_ : NamesAt w x.globals (.slice ga x.globals.length gc) ∧ nmsB x.globals = true) (_ : NamesAt w x.locks (.slice la x.locks.length lc) ∧ nmsB x.locks = true) (_ : NamesAt w x.procs (.slice pa x.procs.length pc) ∧ nmsB x.procs = true) (_ : InI u) (_ : Lies w t (.agg #[.int .i64 t.kind, .int .i64 t.num, .string t.name, .slice ta t.kids.length tc])) (_ : szT t ≤ 1048576) (_ : (textT t).size ≤ 21000000) (c0 : w.cell? ⟨gi, oi + i * 7, none⟩ = some (.int .i64 8)) (c1 : w.cell? ⟨gi, oi + i * 7 + 1, none⟩ = some (.int .i64 a)) (c2 : w.cell? ⟨gi, oi + i * 7 + 2, none⟩ = some (.int .i64 t.kind)) (c3 : w.cell? ⟨gi, oi + i * 7 + 3, none⟩ = some (.int .i64 t.num)) (c4 : w.cell? ⟨gi, oi + i * 7 + 4, none⟩ = some (.string t.name)) (c5 : w.cell? ⟨gi, oi + i * 7 + 5, none⟩ = some (.slice ta t.kids.length tc)) (c6 : w.cell? ⟨gi, oi + i * 7 + 6, none⟩ = some (.int .i64 u)) :
    Calls Tryz.prog 16 #[.agg #[.slice ga x.globals.length gc, .slice la x.locks.length lc, .slice pa x.procs.length pc, .slice ea x.entry.length ec, .slice (some ⟨gi, oi, none⟩) n ic], .int .i64 (i : Int)] w fun e w' => e = .returned (.string (insLine x i ⟨8, a, t, u⟩)) ∧ Below w.heap.size w w' := by
  have HCK := Lib.hid hck
  have hin := hi
  have CI : Hid (∀ wx, Calls Tryz.prog 50 #[.int .i64 (i : Int)] wx fun e w' => e = .returned (.string (decB (i : Int))) ∧ wx.grownBy w' none) := fun wx => specDecimal_any (i : Int) wx (by omega) (by omega)
  have his := decB_size (n := (i : Int)) (by omega)
  have Y0 := Lib.hid (Box5.new w (.slice ga x.globals.length gc) (.slice la x.locks.length lc) (.slice pa x.procs.length pc) (.slice ea x.entry.length ec) (.slice (some ⟨gi, oi, none⟩) n ic) 32)
  have B0 := Lib.hid ((Below.refl w.heap.size w).alloc (Nat.le_refl _) (.cells #[.slice ga x.globals.length gc, .slice la x.locks.length lc, .slice pa x.procs.length pc, .slice ea x.entry.length ec, .slice (some ⟨gi, oi, none⟩) n ic] 32))
  have HL : Hid (insLine x i ⟨8, a, t, u⟩ = decB (i : Int) ++ ⟨#[32]⟩ ++ (⟨#[115, 107, 105, 112]⟩)) := rfl
  obtain ⟨rr, hrr⟩ : ∃ z, insLine x i ⟨8, a, t, u⟩ = z := ⟨_, rfl⟩
  rw [hrr] at HL
  rw [hrr]
  clear hrr
  obtain ⟨ix, hix⟩ : ∃ z, decB (i : Int) = z := ⟨_, rfl⟩
  rw [hix] at HL CI his
  clear hix
  have z0 : ByteArray.size ⟨#[32]⟩ = 1 := rfl
  have z1 : ByteArray.size ⟨#[32, 61, 32]⟩ = 3 := rfl
  have z2 : ByteArray.size ⟨#[32, 101, 108, 115, 101, 32]⟩ = 6 := rfl
  have z3 : ByteArray.size ⟨#[115, 107, 105, 112]⟩ = 4 := rfl
  have ad0 : ∀ w, (Op.stringOp .add (ix) (⟨#[32]⟩)).run Tryz.prog w = .ok (.string ((ix) ++ (⟨#[32]⟩))) w := fun w => run_string_add_sum w _ _ (by (try simp only [ByteArray.size_append]); omega)
  have ad1 : ∀ w, (Op.stringOp .add (ix ++ ⟨#[32]⟩) (⟨#[115, 107, 105, 112]⟩)).run Tryz.prog w = .ok (.string ((ix ++ ⟨#[32]⟩) ++ (⟨#[115, 107, 105, 112]⟩))) w := fun w => run_string_add_sum w _ _ (by (try simp only [ByteArray.size_append]); omega)
  clear hck 
  obtain ⟨p0, p1, p2, p3, p4⟩ := Y0.out
  obtain ⟨W0, hW0⟩ : ∃ W, W = w.alloc (.cells #[.slice ga x.globals.length gc, .slice la x.locks.length lc, .slice pa x.procs.length pc, .slice ea x.entry.length ec, .slice (some ⟨gi, oi, none⟩) n ic] 32) := ⟨_, rfl⟩
  rw [← hW0] at Y0 B0
  have HW0 := Lib.hid hW0
  clear hW0
  have C0 := Lib.hid c0
  have C1 := Lib.hid c1
  have C2 := Lib.hid c2
  have C3 := Lib.hid c3
  have C4 := Lib.hid c4
  have C5 := Lib.hid c5
  have C6 := Lib.hid c6
  clear c0 c1 c2 c3 c4 c5 c6
  go_enter Tryz.func16, Tryz.ntmps16
  go_wp2_with fail
  rw [← HW0.out] at p0 p1 p2 p3 p4 ⊢
  refine (HCK.out _ B0.out).mono ?_
  rintro e w1 ⟨rfl, hb⟩
  have B1 := Lib.hid (B0.out.trans (hb.mono B0.out.size))
  have Y1 := Lib.hid (Y0.out.keep (keeps_below hb))
  clear hb p0 p1 p2 p3 p4
  obtain ⟨p0, p1, p2, p3, p4⟩ := Y1.out
  have K1 := keeps_below B1.out
  have c0 := K1 _ _ C0.out
  have c1 := K1 _ _ C1.out
  have c2 := K1 _ _ C2.out
  have c3 := K1 _ _ C3.out
  have c4 := K1 _ _ C4.out
  have c5 := K1 _ _ C5.out
  have c6 := K1 _ _ C6.out
  clear K1
  go_wp2_with fail
  refine (in_yes _ _ _ _ (by omega) (by omega)).mono ?_
  rintro e w2 ⟨rfl, rfl⟩
  obtain ⟨W2, hW2⟩ : ∃ W, W = w1.alloc (.cells #[.int .i64 8, .int .i64 a, .int .i64 t.kind, .int .i64 t.num, .string t.name, .slice ta t.kids.length tc, .int .i64 u] 45) := ⟨_, rfl⟩
  have b2 : Below w1.heap.size w1 W2 := by rw [hW2]; exact (Below.refl _ _).alloc (Nat.le_refl _) _
  have X2 : Hid (Box7 W2 w1.heap.size (.int .i64 8) (.int .i64 a) (.int .i64 t.kind) (.int .i64 t.num) (.string t.name) (.slice ta t.kids.length tc) (.int .i64 u)) := by rw [hW2]; exact Box7.new w1 _ _ _ _ _ _ _ _
  have Y2 := Lib.hid (Y1.out.keep (keeps_below b2))
  have B2 := Lib.hid (B1.out.trans (b2.mono B1.out.size))
  have HW2 := Lib.hid hW2
  clear b2 hW2
  go_wp2_with fail
  rw [← HW2.out]
  refine (CI.out _).mono ?_
  rintro e w3 ⟨rfl, hg3⟩
  have b3 := below_none hg3
  have B3 := Lib.hid (B2.out.trans (b3.mono B2.out.size))
  have X3 := Lib.hid (X2.out.keep (keeps_below b3))
  have Y3 := Lib.hid (Y2.out.keep (keeps_below b3))
  obtain ⟨D, hD⟩ : ∃ D, w1.heap.size = D := ⟨_, rfl⟩
  rw [hD] at X3 ⊢
  clear b3 hg3 p0 p1 p2 p3 p4 c0 c1 c2 c3 c4 c5 c6 X2 hD
  obtain ⟨p0, p1, p2, p3, p4⟩ := Y3.out
  obtain ⟨q0, q1, q2, q3, q4, q5, q6⟩ := X3.out
  go_wp2_with fail
  go_ret
  exact ⟨ret_s (by rw [HL.out]; try simp only [← ByteArray.append_assoc]), B3.out⟩
set_option maxRecDepth 20000 in
set_option maxHeartbeats 6400000 in
theorem specLine_end (x : KTree) (i : Nat) (a u : Int) (t : Tree) (ga la pa ea ta : Option Addr) (gi oi gc lc pc ec ic n tc : Nat) (w : World) (hi : i < n) (hn : n ≤ 9223372036854775807) (hck : ∀ wx, Below w.heap.size w wx → Calls Tryz.prog 48 #[.agg #[.slice ga x.globals.length gc, .slice la x.locks.length lc, .slice pa x.procs.length pc, .slice ea x.entry.length ec, .slice (some ⟨gi, oi, none⟩) n ic]] wx fun e w' => e = .returned (.bool true) ∧ Below wx.heap.size wx w') (_ : RightK x ⟨9, a, t, u⟩) (_ : NamesAt w x.globals (.slice ga x.globals.length gc) ∧ nmsB x.globals = true) (_ : NamesAt w x.locks (.slice la x.locks.length lc) ∧ nmsB x.locks = true) (_ : NamesAt w x.procs (.slice pa x.procs.length pc) ∧ nmsB x.procs = true) (_ : InI u) (_ : Lies w t (.agg #[.int .i64 t.kind, .int .i64 t.num, .string t.name, .slice ta t.kids.length tc])) (_ : szT t ≤ 1048576) (_ : (textT t).size ≤ 21000000) (c0 : w.cell? ⟨gi, oi + i * 7, none⟩ = some (.int .i64 9)) (c1 : w.cell? ⟨gi, oi + i * 7 + 1, none⟩ = some (.int .i64 a)) (c2 : w.cell? ⟨gi, oi + i * 7 + 2, none⟩ = some (.int .i64 t.kind)) (c3 : w.cell? ⟨gi, oi + i * 7 + 3, none⟩ = some (.int .i64 t.num)) (c4 : w.cell? ⟨gi, oi + i * 7 + 4, none⟩ = some (.string t.name)) (c5 : w.cell? ⟨gi, oi + i * 7 + 5, none⟩ = some (.slice ta t.kids.length tc)) (c6 : w.cell? ⟨gi, oi + i * 7 + 6, none⟩ = some (.int .i64 u)) :
    Calls Tryz.prog 16 #[.agg #[.slice ga x.globals.length gc, .slice la x.locks.length lc, .slice pa x.procs.length pc, .slice ea x.entry.length ec, .slice (some ⟨gi, oi, none⟩) n ic], .int .i64 (i : Int)] w fun e w' => e = .returned (.string (insLine x i ⟨9, a, t, u⟩)) ∧ Below w.heap.size w w' := by
  have HCK := Lib.hid hck
  have hin := hi
  have CI : Hid (∀ wx, Calls Tryz.prog 50 #[.int .i64 (i : Int)] wx fun e w' => e = .returned (.string (decB (i : Int))) ∧ wx.grownBy w' none) := fun wx => specDecimal_any (i : Int) wx (by omega) (by omega)
  have his := decB_size (n := (i : Int)) (by omega)
  have Y0 := Lib.hid (Box5.new w (.slice ga x.globals.length gc) (.slice la x.locks.length lc) (.slice pa x.procs.length pc) (.slice ea x.entry.length ec) (.slice (some ⟨gi, oi, none⟩) n ic) 32)
  have B0 := Lib.hid ((Below.refl w.heap.size w).alloc (Nat.le_refl _) (.cells #[.slice ga x.globals.length gc, .slice la x.locks.length lc, .slice pa x.procs.length pc, .slice ea x.entry.length ec, .slice (some ⟨gi, oi, none⟩) n ic] 32))
  have HL : Hid (insLine x i ⟨9, a, t, u⟩ = decB (i : Int) ++ ⟨#[32]⟩ ++ (⟨#[101, 110, 100]⟩)) := rfl
  obtain ⟨rr, hrr⟩ : ∃ z, insLine x i ⟨9, a, t, u⟩ = z := ⟨_, rfl⟩
  rw [hrr] at HL
  rw [hrr]
  clear hrr
  obtain ⟨ix, hix⟩ : ∃ z, decB (i : Int) = z := ⟨_, rfl⟩
  rw [hix] at HL CI his
  clear hix
  have z0 : ByteArray.size ⟨#[32]⟩ = 1 := rfl
  have z1 : ByteArray.size ⟨#[32, 61, 32]⟩ = 3 := rfl
  have z2 : ByteArray.size ⟨#[32, 101, 108, 115, 101, 32]⟩ = 6 := rfl
  have z3 : ByteArray.size ⟨#[101, 110, 100]⟩ = 3 := rfl
  have ad0 : ∀ w, (Op.stringOp .add (ix) (⟨#[32]⟩)).run Tryz.prog w = .ok (.string ((ix) ++ (⟨#[32]⟩))) w := fun w => run_string_add_sum w _ _ (by (try simp only [ByteArray.size_append]); omega)
  have ad1 : ∀ w, (Op.stringOp .add (ix ++ ⟨#[32]⟩) (⟨#[101, 110, 100]⟩)).run Tryz.prog w = .ok (.string ((ix ++ ⟨#[32]⟩) ++ (⟨#[101, 110, 100]⟩))) w := fun w => run_string_add_sum w _ _ (by (try simp only [ByteArray.size_append]); omega)
  clear hck 
  obtain ⟨p0, p1, p2, p3, p4⟩ := Y0.out
  obtain ⟨W0, hW0⟩ : ∃ W, W = w.alloc (.cells #[.slice ga x.globals.length gc, .slice la x.locks.length lc, .slice pa x.procs.length pc, .slice ea x.entry.length ec, .slice (some ⟨gi, oi, none⟩) n ic] 32) := ⟨_, rfl⟩
  rw [← hW0] at Y0 B0
  have HW0 := Lib.hid hW0
  clear hW0
  have C0 := Lib.hid c0
  have C1 := Lib.hid c1
  have C2 := Lib.hid c2
  have C3 := Lib.hid c3
  have C4 := Lib.hid c4
  have C5 := Lib.hid c5
  have C6 := Lib.hid c6
  clear c0 c1 c2 c3 c4 c5 c6
  go_enter Tryz.func16, Tryz.ntmps16
  go_wp2_with fail
  rw [← HW0.out] at p0 p1 p2 p3 p4 ⊢
  refine (HCK.out _ B0.out).mono ?_
  rintro e w1 ⟨rfl, hb⟩
  have B1 := Lib.hid (B0.out.trans (hb.mono B0.out.size))
  have Y1 := Lib.hid (Y0.out.keep (keeps_below hb))
  clear hb p0 p1 p2 p3 p4
  obtain ⟨p0, p1, p2, p3, p4⟩ := Y1.out
  have K1 := keeps_below B1.out
  have c0 := K1 _ _ C0.out
  have c1 := K1 _ _ C1.out
  have c2 := K1 _ _ C2.out
  have c3 := K1 _ _ C3.out
  have c4 := K1 _ _ C4.out
  have c5 := K1 _ _ C5.out
  have c6 := K1 _ _ C6.out
  clear K1
  go_wp2_with fail
  refine (in_yes _ _ _ _ (by omega) (by omega)).mono ?_
  rintro e w2 ⟨rfl, rfl⟩
  obtain ⟨W2, hW2⟩ : ∃ W, W = w1.alloc (.cells #[.int .i64 9, .int .i64 a, .int .i64 t.kind, .int .i64 t.num, .string t.name, .slice ta t.kids.length tc, .int .i64 u] 45) := ⟨_, rfl⟩
  have b2 : Below w1.heap.size w1 W2 := by rw [hW2]; exact (Below.refl _ _).alloc (Nat.le_refl _) _
  have X2 : Hid (Box7 W2 w1.heap.size (.int .i64 9) (.int .i64 a) (.int .i64 t.kind) (.int .i64 t.num) (.string t.name) (.slice ta t.kids.length tc) (.int .i64 u)) := by rw [hW2]; exact Box7.new w1 _ _ _ _ _ _ _ _
  have Y2 := Lib.hid (Y1.out.keep (keeps_below b2))
  have B2 := Lib.hid (B1.out.trans (b2.mono B1.out.size))
  have HW2 := Lib.hid hW2
  clear b2 hW2
  go_wp2_with fail
  rw [← HW2.out]
  refine (CI.out _).mono ?_
  rintro e w3 ⟨rfl, hg3⟩
  have b3 := below_none hg3
  have B3 := Lib.hid (B2.out.trans (b3.mono B2.out.size))
  have X3 := Lib.hid (X2.out.keep (keeps_below b3))
  have Y3 := Lib.hid (Y2.out.keep (keeps_below b3))
  obtain ⟨D, hD⟩ : ∃ D, w1.heap.size = D := ⟨_, rfl⟩
  rw [hD] at X3 ⊢
  clear b3 hg3 p0 p1 p2 p3 p4 c0 c1 c2 c3 c4 c5 c6 X2 hD
  obtain ⟨p0, p1, p2, p3, p4⟩ := Y3.out
  obtain ⟨q0, q1, q2, q3, q4, q5, q6⟩ := X3.out
  go_wp2_with fail
  go_ret
  exact ⟨ret_s (by rw [HL.out]; try simp only [← ByteArray.append_assoc]), B3.out⟩
end Go.Proofs.YtmhhghdfgdhljaaGreatDoor.Trm
/- The program's isNoTerm, walked. Conditions: the term lies in memory. -/
namespace Go.Proofs.YtmhhghdfgdhljaaGreatDoor.Trm
open Go.RowKit Own
def aloneZ (t : Tree) : Bool := decide (t.kind = 0) && (decide (t.num = 0) && decide (t.name.size = 0))
theorem sameT_zT (t : Tree) : sameT t zT = (aloneZ t && decide (t.kids.length = 0)) := by
  cases t with
  | node k n s ks =>
    rw [sameT]
    show (decide (k = 0) && decide (n = 0) && decide (s = ⟨#[]⟩) && decide (ks.length = 0) && sameL ks []) = _
    have e : sameL ks [] = true := by cases ks <;> rfl
    rw [e]
    have hs : s = ⟨#[]⟩ ↔ s.size = 0 := ⟨fun h => by rw [h]; rfl, fun h => ByteArray.ext (Array.eq_empty_of_size_eq_zero h)⟩
    by_cases h1 : s.size = 0 <;> by_cases h2 : ks = [] <;> by_cases h3 : k = 0 <;> by_cases h4 : n = 0 <;> simp [aloneZ, Tree.kind, Tree.num, Tree.name, Tree.kids, hs, h1, h2, h3, h4]
theorem implAloneZ_any (t : Tree) (a : Option Addr) (c : Nat) (w : World) :
    Calls Tryz.prog 170 #[.agg #[.int .i64 t.kind, .int .i64 t.num, .string t.name, .slice a t.kids.length c], .agg #[.int .i64 0, .int .i64 0, .string ⟨#[]⟩, .slice none 0 0]] w fun e w' => e = .returned (.bool (aloneZ t)) ∧ Below w.heap.size w w' := by
  obtain ⟨k, n, s, ks⟩ := t
  have HR : Hid (aloneZ (.node k n s ks) = (decide (k = 0) && (decide (n = 0) && decide (s.size = 0)))) := rfl
  simp only [Tree.kind, Tree.num, Tree.name, Tree.kids]
  generalize aloneZ (.node k n s ks) = rr at HR ⊢
  by_cases hk : k = 0
  · subst hk
    by_cases hn : n = 0
    · subst hn
      by_cases hs : s.size = 0
      · have hq := empty_true hs
        have HS := Lib.hid hs
        clear hs
        go_enter Tryz.func170, Tryz.ntmps170
        go_wp2
        go_ret
        exact ⟨ret_b (by rw [HR.out, decide_eq_true HS.out]; rfl), ((Below.refl _ _).alloc (Nat.le_refl _) _).alloc (by simp) _⟩
      · have hq := empty_false hs
        have HS := Lib.hid hs
        clear hs
        go_enter Tryz.func170, Tryz.ntmps170
        go_wp2
        go_ret
        exact ⟨ret_b (by rw [HR.out, decide_eq_false HS.out]; rfl), ((Below.refl _ _).alloc (Nat.le_refl _) _).alloc (by simp) _⟩
    · have hq : (n == 0) = false := by simp [hn]
      have HN := Lib.hid hn
      clear hn
      go_enter Tryz.func170, Tryz.ntmps170
      go_wp2
      go_ret
      exact ⟨ret_b (by rw [HR.out]; simp [HN.out]), ((Below.refl _ _).alloc (Nat.le_refl _) _).alloc (by simp) _⟩
  · have hq : (k == 0) = false := by simp [hk]
    have HK := Lib.hid hk
    clear hk
    go_enter Tryz.func170, Tryz.ntmps170
    go_wp2
    go_ret
    exact ⟨ret_b (by rw [HR.out]; simp [HK.out]), ((Below.refl _ _).alloc (Nat.le_refl _) _).alloc (by simp) _⟩
theorem implNoTerm_any (t : Tree) (a : Option Addr) (c : Nat) (w : World) (hl : Lies w t (.agg #[.int .i64 t.kind, .int .i64 t.num, .string t.name, .slice a t.kids.length c])) :
    Calls Tryz.prog 139 #[.agg #[.int .i64 t.kind, .int .i64 t.num, .string t.name, .slice a t.kids.length c]] w fun e w' => e = .returned (.bool (sameT t zT)) ∧ Below w.heap.size w w' := by
  have CA := Lib.hid (fun w => implAloneZ_any t a c w)
  have hlen := hl.parts.2.2.2.1
  have HR := Lib.hid (sameT_zT t)
  have X0 := Lib.hid (Box4.new w (.int .i64 t.kind) (.int .i64 t.num) (.string t.name) (.slice a t.kids.length c) 43)
  clear hl
  generalize sameT t zT = rr at HR
  generalize aloneZ t = ra at CA HR
  go_enter Tryz.func139, Tryz.ntmps139
  go_wp2_with fail
  refine (CA.out _).mono ?_
  rintro e w1 ⟨rfl, hb⟩
  have HB := Lib.hid (below_box1 hb)
  obtain ⟨p0, p1, p2, p3⟩ := X0.out.keep (keeps_below hb)
  clear hb
  cases ra with
  | false =>
    have HF : Hid (rr = false) := by show _ = _; rw [HR.out]; rfl
    go_wp2
    go_ret
    exact ⟨ret_b (by rw [HF.out]), HB.out⟩
  | true =>
    by_cases h0 : t.kids.length = 0
    · have HF : Hid (rr = true) := by show _ = _; rw [HR.out]; simp [h0]
      have h1 : ((t.kids.length : Int) == 0) = true := by simp [h0]
      clear h0
      go_wp2
      go_ret
      exact ⟨ret_b (by rw [HF.out]), HB.out⟩
    · have HF : Hid (rr = false) := by show _ = _; rw [HR.out]; simp [h0]
      have h1 : ((t.kids.length : Int) == 0) = false := by rw [beq_eq_false_iff_ne]; omega
      clear h0
      go_wp2
      go_ret
      exact ⟨ret_b (by rw [HF.out]), HB.out⟩
end Go.Proofs.YtmhhghdfgdhljaaGreatDoor.Trm
/- The program's TermOk, walked. Conditions: the term lies in memory. -/
namespace Go.Proofs.YtmhhghdfgdhljaaGreatDoor.Trm
open Go.RowKit Own Lexs
theorem implTermOk_any (t : Tree) (v : Value) (w : World) (hl : Lies w t v) :
    Calls Tryz.prog 141 #[v] w fun e w' => e = .returned (.bool (okB t)) ∧ Below w.heap.size w w' := by
  have C := Lib.hid (implRight_any t v (w.alloc (.cells v.cells 43)) 6 (by omega) (hl.keep (keeps_alloc _ _)))
  obtain ⟨aa, cap, rfl⟩ := hl.shape
  have X0 := Lib.hid (Box4.new w (.int .i64 t.kind) (.int .i64 t.num) (.string t.name) (.slice aa t.kids.length cap) 43)
  obtain ⟨p0, p1, p2, p3⟩ := X0.out
  clear hl
  go_enter Tryz.func141, Tryz.ntmps141
  go_wp2_with fail
  refine C.out.mono ?_
  rintro e w1 ⟨x, rfl, _, hb⟩
  have B1 := Lib.hid (below_box1 hb)
  clear hb
  go_wp2
  go_ret
  exact ⟨rfl, B1.out⟩
end Go.Proofs.YtmhhghdfgdhljaaGreatDoor.Trm
/- The library's question whether a text is in a row of texts, walked. Conditions: the row lies in memory. -/
namespace Go.Proofs.YtmhhghdfgdhljaaGreatDoor.Trm
open Go.RowKit Own
theorem implHas_yes (ns : List ByteArray) (s : ByteArray) (nv : Value) (w : World) (hn : StrsAt w ns nv) (h : s ∈ ns) :
    Calls Tryz.prog 164 #[nv, .string s] w fun e w' => e = .returned (.bool true) ∧ Hid (w' = w) := by
  have C := Lib.hid (implIndex_any ns s nv w hn)
  obtain ⟨na, nc, rfl, hn1, hn2⟩ := hn
  have HM := Lib.hid h
  clear hn2 h
  go_enter Tryz.func164, Tryz.ntmps164
  go_wp2_with fail
  refine C.out.mono ?_
  rintro e w1 ⟨x, rfl, hx, rfl⟩
  rcases hx with ⟨i, hi, rfl, he, hf⟩ | ⟨rfl, hf⟩
  · clear he hf
    go_wp2
    go_ret
    exact ⟨rfl, rfl⟩
  · obtain ⟨j, hj, e⟩ := List.mem_iff_getElem.1 HM.out
    exact absurd e (hf j hj)
theorem implHas_no (ns : List ByteArray) (s : ByteArray) (nv : Value) (w : World) (hn : StrsAt w ns nv) (h : ¬ s ∈ ns) :
    Calls Tryz.prog 164 #[nv, .string s] w fun e w' => e = .returned (.bool false) ∧ Hid (w' = w) := by
  have C := Lib.hid (implIndex_any ns s nv w hn)
  obtain ⟨na, nc, rfl, hn1, hn2⟩ := hn
  have HM := Lib.hid h
  clear hn2 h
  go_enter Tryz.func164, Tryz.ntmps164
  go_wp2_with fail
  refine C.out.mono ?_
  rintro e w1 ⟨x, rfl, hx, rfl⟩
  rcases hx with ⟨i, hi, rfl, he, hf⟩ | ⟨rfl, hf⟩
  · exact absurd (he ▸ List.getElem_mem hi) HM.out
  · clear hf
    go_wp2
    go_ret
    exact ⟨rfl, rfl⟩
end Go.Proofs.YtmhhghdfgdhljaaGreatDoor.Trm
/- The program's ReadsOf, walked. Conditions: the term lies in memory that is older than the list; it has at most 2 to the 20 kids and bytes. -/
namespace Go.Proofs.YtmhhghdfgdhljaaGreatDoor.Trm
open Go.RowKit Own Lexs
/-! ### The terms within a right one -/
/-- What the method kids of a right term leaves. -/
def KidsOf (ks : List Tree) (w : World) (e : Ending) (w' : World) : Prop :=
  ∃ a, e = .returned (.slice a ks.length ks.length) ∧ Below w.heap.size w w' ∧ (0 < ks.length → ∃ g, a = some ⟨g, 0, none⟩ ∧ w.heap.size ≤ g ∧ ∀ i (h : i < ks.length), w'.cell? ⟨g, i, none⟩ = some (rtV ks[i]))
theorem kids_num (n : Int) (w : World) : Calls Tryz.prog 236 #[.agg #[.int .i64 n]] w (KidsOf [] w) := by
  go_enter Tryz.func236, Tryz.ntmps236
  go_wp2
  go_ret
  exact ⟨none, rfl, (Below.refl _ _).alloc (Nat.le_refl _) _, fun h => by simp at h⟩
theorem kids_var (s : ByteArray) (w : World) : Calls Tryz.prog 237 #[.agg #[.string s]] w (KidsOf [] w) := by
  go_enter Tryz.func237, Tryz.ntmps237
  go_wp2
  go_ret
  exact ⟨none, rfl, (Below.refl _ _).alloc (Nat.le_refl _) _, fun h => by simp at h⟩
theorem kids_not (a : Tree) (w : World) : Calls Tryz.prog 238 #[.agg #[rtV a]] w (KidsOf [a] w) := by
  obtain ⟨ty, pv, hi⟩ := rtV_iface a
  have HI := Lib.hid hi
  rw [hi]
  clear hi
  go_enter Tryz.func238, Tryz.ntmps238
  go_wp2
  go_ret
  refine ⟨some ⟨w.heap.size + 1, 0, none⟩, rfl, ((Below.refl _ _).alloc (Nat.le_refl _) _).alloc (by simp) _, fun _ => ⟨_, rfl, by omega, fun i h => ?_⟩⟩
  obtain rfl : i = 0 := by simpa using h
  simp [go_sem, HI.out]
theorem kids_pair (k : Int) (a b : Tree) (w : World) : Calls Tryz.prog 239 #[.agg #[.int .i64 k, rtV a, rtV b]] w (KidsOf [a, b] w) := by
  obtain ⟨ty, pv, hi⟩ := rtV_iface a
  obtain ⟨ty2, pv2, hi2⟩ := rtV_iface b
  have HI := Lib.hid hi
  have HI2 := Lib.hid hi2
  rw [hi, hi2]
  clear hi hi2
  go_enter Tryz.func239, Tryz.ntmps239
  go_wp2
  go_ret
  refine ⟨some ⟨w.heap.size + 1, 0, none⟩, rfl, ((Below.refl _ _).alloc (Nat.le_refl _) _).alloc (by simp) _, fun _ => ⟨_, rfl, by omega, fun i h => ?_⟩⟩
  have h2 : i < 2 := h
  match i, h2 with
  | 0, _ => simp [go_sem, HI.out]
  | 1, _ => simp [go_sem, HI2.out]
theorem mth_num (W : World) (v : Value) : (method 413 203 v "loop.example/g00966/impl.kids").run Tryz.prog W = .ok (236, v) W := by kernel_rfl
theorem mth_var (W : World) (v : Value) : (method 413 205 v "loop.example/g00966/impl.kids").run Tryz.prog W = .ok (237, v) W := by kernel_rfl
theorem mth_not (W : World) (v : Value) : (method 413 210 v "loop.example/g00966/impl.kids").run Tryz.prog W = .ok (238, v) W := by kernel_rfl
theorem mth_pair (W : World) (v : Value) : (method 413 212 v "loop.example/g00966/impl.kids").run Tryz.prog W = .ok (239, v) W := by kernel_rfl
/-! ### The names -/
/-- Cells of another block stay. -/
theorem Moves.cell {w w' : World} {v v' : Value} {g : Nat} (h : Moves w v w' v') (hg : g < w.heap.size) (hn : v.ownBlock ≠ some g) : (∀ i, w'.cell? ⟨g, i, none⟩ = w.cell? ⟨g, i, none⟩) ∧ v'.ownBlock ≠ some g := by
  have hb : w'.heap[g]? = w.heap[g]? := h.1.block g hg (fun e => hn e.symm)
  refine ⟨fun j => World.cell?_of_block hb, fun e => ?_⟩
  rcases h.2 with h2 | h2
  · exact hn (h2 ▸ e)
  · have := h2 g e; omega
theorem Moves.ofBelow {w w' : World} (h : Below w.heap.size w w') (v : Value) : Moves w v w' v := ⟨⟨h.os, h.tape, h.output, h.size, fun i hi _ => h.block i hi⟩, .inl rfl⟩
def ReadsI (t : Tree) : Prop := ∀ (ov : Value) (w0 w : World) (acc : List ByteArray) (r : Nat), rightB t r = true → acc.length + 1 + szT t ≤ 2000000 → Below w0.heap.size w0 w → w.ownsRow w0.heap.size 9 1 ov acc.length (strV acc) →
    Calls Tryz.prog 171 #[ov, rtV t] w fun e w' => ∃ ov', e = .returned ov' ∧ w'.ownsRow w0.heap.size 9 1 ov' (readsT t acc).length (strV (readsT t acc)) ∧ Moves w ov w' ov'
set_option maxHeartbeats 800000 in
/-- A right term that is no name: what is asked of its dynamic type stands among the hypotheses. -/
theorem readsI_more (ks : List Tree) (ih : ∀ t, t ∈ ks → ReadsI t) (ty : TypeId) (pv : Value) (kf : FuncId) (has : ∀ W, (Instr.typeAssert (.iface ty pv) 166 205 true).run Tryz.prog W = .ok (.tuple #[.agg #[.string ⟨#[]⟩], .bool false]) W)
    (hm : ∀ W, (method 413 ty pv "loop.example/g00966/impl.kids").run Tryz.prog W = .ok (kf, pv) W) (hcf : ∀ W, (callFunc kf #[pv]).run Tryz.prog W = .ok (.enter kf #[pv]) W) (hc : ∀ w, Calls Tryz.prog kf #[pv] w (KidsOf ks w)) (r : Nat) (hr : ∀ t, t ∈ ks → rightB t r = true)
    (ov : Value) (w0 w : World) (acc : List ByteArray) (ha : acc.length + ks.length + szS ks ≤ 2000000) (hbe : Below w0.heap.size w0 w) (hown : w.ownsRow w0.heap.size 9 1 ov acc.length (strV acc)) :
    Calls Tryz.prog 171 #[ov, .iface ty pv] w fun e w' => ∃ ov', e = .returned ov' ∧ w'.ownsRow w0.heap.size 9 1 ov' (readsL ks acc).length (strV (readsL ks acc)) ∧ Moves w ov w' ov' := by
  have HO := Lib.hid hown
  have HB := Lib.hid hbe
  have IH := Lib.hid ih
  have HC := Lib.hid hc
  have HRK := Lib.hid hr
  have HA := Lib.hid ha
  have hkl : ks.length ≤ 2000000 := by omega
  have hbs : w0.heap.size ≤ w.heap.size := hbe.size
  clear hown hbe ih hc hr ha
  go_enter Tryz.func171, Tryz.ntmps171
  go_wp2_with fail
  refine (HC.out _).mono ?_
  rintro e w1 ⟨ka, rfl, hb1, hk⟩
  have M1 := Lib.hid ((Moves.alloc w _ ov).trans (Moves.ofBelow hb1 ov))
  have R1 := Lib.hid (row_below (HO.out.alloc _) hb1)
  have HK : Hid (0 < ks.length → ∃ g, ka = some ⟨g, 0, none⟩ ∧ g < w1.heap.size ∧ ov.ownBlock ≠ some g ∧ ∀ i (h : i < ks.length), w1.cell? ⟨g, i, none⟩ = some (rtV ks[i])) := fun hp => by
    obtain ⟨g, rfl, hg, hcell⟩ := hk hp
    exact ⟨g, rfl, cell_lt (hcell 0 hp), fun e => by have := (HO.out.lt g e).2; simp at hg; omega, hcell⟩
  clear hb1 hk
  go_wp2
  go_loopw [0, 30] (fun x i wr => ∃ (j : Nat) (ac : List ByteArray), j ≤ ks.length ∧ i = .int .i64 j ∧ Hid (readsL ks acc = readsL (ks.drop j) ac) ∧ Hid (ac.length + (ks.length - j) + szS (ks.drop j) ≤ 2000000) ∧ Hid (wr.ownsRow w0.heap.size 9 1 x ac.length (strV ac)) ∧ Hid (Moves w ov wr x) ∧ Hid (0 < ks.length → ∃ g, ka = some ⟨g, 0, none⟩ ∧ g < wr.heap.size ∧ x.ownBlock ≠ some g ∧ ∀ i (h : i < ks.length), wr.cell? ⟨g, i, none⟩ = some (rtV ks[i])))
    (fun _ i _ => ks.length - (intOf i).toNat)
  case atStart => exact ⟨0, acc, Nat.zero_le _, rfl, rfl, HA.out, R1.out, M1.out, HK.out⟩
  case round =>
    obtain ⟨j, ac, hj, rfl, hsz, hz, hrow, hmv, hkk⟩ := hrel
    by_cases hlt : j < ks.length
    · obtain ⟨g, rfl, hg, hn, hcell⟩ := hkk.out (by omega)
      have hbr := hmv.out.below HB.out HO.out
      have hd := szS_drop hlt
      have C := Lib.hid (IH.out ks[j] (List.getElem_mem hlt) u0 w0 wr ac r (HRK.out _ (List.getElem_mem hlt)) (by have := hz.out; omega) hbr hrow.out)
      have c0 := hcell j hlt
      obtain ⟨ty1, pv1, hi⟩ := rtV_iface ks[j]
      rw [hi] at c0 C
      have HN := Lib.hid hn
      have HC2 := Lib.hid hcell
      have HS : Hid (readsL ks acc = readsL (ks.drop (j + 1)) (readsT ks[j] ac)) := by show readsL ks acc = _; rw [hsz.out, List.drop_eq_getElem_cons hlt, readsL]
      have HZ2 : Hid ((readsT ks[j] ac).length + (ks.length - (j + 1)) + szS (ks.drop (j + 1)) ≤ 2000000) := by show _ ≤ _; have := hz.out; have := readsT_le ks[j] ac; omega
      clear hd hbr hi hn hcell
      go_wp2_with fail
      refine C.out.mono ?_
      rintro e w2 ⟨ov1, rfl, hrow1, hmv1⟩
      have HR1 := Lib.hid hrow1
      have HK1 : Hid (0 < ks.length → ∃ g', some (⟨g, 0, none⟩ : Addr) = some ⟨g', 0, none⟩ ∧ g' < w2.heap.size ∧ ov1.ownBlock ≠ some g' ∧ ∀ i (h : i < ks.length), w2.cell? ⟨g', i, none⟩ = some (rtV ks[i])) := fun _ => by
        obtain ⟨h1, h2⟩ := hmv1.cell hg HN.out
        exact ⟨g, rfl, Nat.lt_of_lt_of_le hg hmv1.1.size, h2, fun i h => (h1 i).trans (HC2.out i h)⟩
      have HM1 := Lib.hid (hmv.out.trans hmv1)
      clear hrow1 hmv1
      go_wp2
      go_roundw
      case rel => exact ⟨j + 1, readsT ks[j] ac, by omega, by go_num, HS, HZ2, HR1.out, HM1.out, HK1.out⟩
      case measure => simp [intOf]; omega
    · have HS : Hid (readsL ks acc = ac) := by show _ = _; rw [hsz.out, List.drop_of_length_le (by omega), readsL]
      go_wp2
      go_ret
      exact ⟨_, rfl, by rw [HS.out]; exact hrow.out, hmv.out⟩
theorem cf_num (v : Value) (W : World) : (callFunc 236 #[v]).run Tryz.prog W = .ok (.enter 236 #[v]) W := by kernel_rfl
theorem cf_not (v : Value) (W : World) : (callFunc 238 #[v]).run Tryz.prog W = .ok (.enter 238 #[v]) W := by kernel_rfl
theorem cf_pair (v : Value) (W : World) : (callFunc 239 #[v]).run Tryz.prog W = .ok (.enter 239 #[v]) W := by kernel_rfl
set_option maxHeartbeats 800000 in
theorem readsI_var (s : ByteArray) (ov : Value) (w0 w : World) (acc : List ByteArray) (ha : acc.length + 1 ≤ 2000000) (hbe : Below w0.heap.size w0 w) (hown : w.ownsRow w0.heap.size 9 1 ov acc.length (strV acc)) :
    Calls Tryz.prog 171 #[ov, .iface 205 (.agg #[.string s])] w fun e w' => ∃ ov', e = .returned ov' ∧ w'.ownsRow w0.heap.size 9 1 ov' (addN acc s).length (strV (addN acc s)) ∧ Moves w ov w' ov' := by
  obtain ⟨i0, hi, hz0, hz1, hz2⟩ := info_parts infoStrR
  obtain ⟨oa, oc, rfl, hoa⟩ := row_shape hown
  have HO := Lib.hid hown
  have hbs : w0.heap.size ≤ w.heap.size := hbe.size
  have as1 := as_var_var
  have m1 := mth_var
  clear hown hoa hbe
  by_cases hm : s ∈ acc
  · have HR : Hid (addN acc s = acc) := addN_in hm
    have C := Lib.hid (implHas_yes acc s (.slice oa acc.length oc) (w.alloc (.cells #[.string s] 205)) (strs_of_row (HO.out.alloc _)) hm)
    clear hm
    go_enter Tryz.func171, Tryz.ntmps171
    go_wp2_with fail
    refine C.out.mono ?_
    rintro e w1 ⟨rfl, hw1⟩
    have R1 : Hid (w1.ownsRow w0.heap.size 9 1 (.slice oa acc.length oc) acc.length (strV acc)) := by show World.ownsRow _ _ _ _ _ _ _; rw [hw1.out]; exact HO.out.alloc _
    have M1 : Hid (Moves w (.slice oa acc.length oc) w1 (.slice oa acc.length oc)) := by show Moves _ _ _ _; rw [hw1.out]; exact Moves.alloc _ _ _
    clear hw1
    go_wp2_with fail
    refine (kids_var s _).mono ?_
    rintro e w2 ⟨ka, rfl, hb2, _⟩
    have R2 := Lib.hid (row_below R1.out hb2)
    have M2 := Lib.hid (M1.out.trans (Moves.ofBelow hb2 _))
    clear hb2
    go_wp2
    go_loopw [0, 30] (fun x i wr => x = .slice oa acc.length oc ∧ i = .int .i64 0 ∧ wr = w2) (fun _ _ _ => 0)
    case atStart => exact ⟨rfl, rfl, rfl⟩
    case round =>
      obtain ⟨rfl, rfl, rfl⟩ := hrel
      go_wp2
      go_ret
      exact ⟨_, rfl, by rw [HR.out]; exact R2.out, M2.out⟩
  · have HR : Hid (addN acc s = acc ++ [s]) := addN_out hm
    have C := Lib.hid (implHas_no acc s (.slice oa acc.length oc) (w.alloc (.cells #[.string s] 205)) (strs_of_row (HO.out.alloc _)) hm)
    clear hm
    go_enter Tryz.func171, Tryz.ntmps171
    go_wp2_with fail
    refine C.out.mono ?_
    rintro e w1 ⟨rfl, hw1⟩
    have R1 : Hid (w1.ownsRow w0.heap.size 9 1 (.slice oa acc.length oc) acc.length (strV acc)) := by show World.ownsRow _ _ _ _ _ _ _; rw [hw1.out]; exact HO.out.alloc _
    have M1 : Hid (Moves w (.slice oa acc.length oc) w1 (.slice oa acc.length oc)) := by show Moves _ _ _ _; rw [hw1.out]; exact Moves.alloc _ _ _
    have p0 : w1.cell? ⟨w.heap.size, 0, none⟩ = some (.string s) := by rw [hw1.out]; simp [go_sem]
    clear hw1
    go_wp2_with (at_builtin; refine wpList_append_lies _ rfl (.tmp 22) (.tmp 25) 24 rfl w0.heap.size 9 i0 (.string ⟨#[]⟩) 1 16 Tryz.underlying24 hi hz0 hz1 hz2 rfl (by decide) (.slice oa acc.length oc) acc.length _ rfl (R1.out.alloc _) ⟨w1.heap.size, 0, none⟩ 1 1 [.string s] rfl rfl (World.news_of_block (heap_alloc_new _ _)) (one_textR _) (by decide) (by unfold maxLen; omega) (by omega) (by have := M1.out.1.size; simp; omega) _ rfl ?_)
    intro g1 cap1 w2 hown1 hg1 hat1 hlt1
    have R2 : Hid (w2.ownsRow w0.heap.size 9 1 (.slice (some ⟨g1, 0, none⟩) (acc.length + 1) cap1) (acc.length + 1) (strV (acc ++ [s]))) := by
      show World.ownsRow _ _ _ _ _ _ _
      simpa [strV] using hown1
    have M2 : Hid (Moves w (.slice oa acc.length oc) w2 (.slice (some ⟨g1, 0, none⟩) (acc.length + 1) cap1)) := by
      refine M1.out.trans ((Moves.alloc _ _ _).trans ⟨hg1, ?_⟩)
      rcases hat1 with h | h
      · exact .inl h.symm
      · exact .inr fun k hk => by cases hk; simp; omega
    clear hown1 hg1 hat1 hlt1 p0
    go_wp2_with fail
    refine (kids_var s _).mono ?_
    rintro e w3 ⟨ka, rfl, hb3, _⟩
    have R3 := Lib.hid (row_below R2.out hb3)
    have M3 := Lib.hid (M2.out.trans (Moves.ofBelow hb3 _))
    clear hb3
    go_wp2
    go_loopw [0, 30] (fun x i wr => x = .slice (some ⟨g1, 0, none⟩) (acc.length + 1) cap1 ∧ i = .int .i64 0 ∧ wr = w3) (fun _ _ _ => 0)
    case atStart => exact ⟨rfl, rfl, rfl⟩
    case round =>
      obtain ⟨rfl, rfl, rfl⟩ := hrel
      go_wp2
      go_ret
      exact ⟨_, rfl, by rw [HR.out]; simpa using R3.out, M3.out⟩
theorem rightS_memR : ∀ {ks : List Tree} {r : Nat}, rightS ks r = true → ∀ t, t ∈ ks → rightB t r = true
  | [], _, _, t, ht => by cases ht
  | a :: ks, r, h, t, ht => by
    rw [rightS, Bool.and_eq_true] at h
    rcases List.mem_cons.1 ht with e | e
    · rw [e]; exact h.1
    · exact rightS_memR h.2 t e
theorem right_partsR {k n : Int} {s : ByteArray} {ks : List Tree} {r : Nat} (h : rightB (.node k n s ks) r = true) (h1 : k ≠ 1) (h2 : k ≠ 2) : 3 ≤ k ∧ k ≤ 9 ∧ n = 0 ∧ s.size = 0 ∧ (ks.length : Int) = manyK k ∧ r ≠ 0 ∧ ∀ t, t ∈ ks → rightB t (r - 1) = true := by
  rw [rightB, if_neg h1, if_neg h2] at h
  simp only [Bool.and_eq_true, decide_eq_true_eq] at h
  obtain ⟨⟨⟨⟨⟨⟨a, b⟩, c⟩, d⟩, e⟩, f⟩, g⟩ := h
  exact ⟨a, b, c, d, e, f, rightS_memR g⟩
theorem right_noKids {k n : Int} {s : ByteArray} {ks : List Tree} {r : Nat} (h : rightB (.node k n s ks) r = true) (hk : k = 1 ∨ k = 2) : ks = [] := by
  rcases hk with rfl | rfl
  · rw [rightB, if_pos rfl] at h
    simp only [Bool.and_eq_true, decide_eq_true_eq] at h
    exact List.length_eq_zero_iff.1 h.2
  · rw [rightB, if_neg (by decide), if_pos rfl] at h
    simp only [Bool.and_eq_true, decide_eq_true_eq] at h
    exact List.length_eq_zero_iff.1 h.2
theorem implReads_any : ∀ t : Tree, ReadsI t := treeInd fun k n s ks ih ov w0 w acc r hr ha hbe hown => by
  by_cases h2 : k = 2
  · subst h2
    rw [rtV_var, readsT, if_pos rfl]
    exact readsI_var s ov w0 w acc (by omega) hbe hown
  · rw [readsT, if_neg h2]
    rw [szT] at ha
    by_cases h1 : k = 1
    · subst h1
      obtain rfl := right_noKids hr (.inl rfl)
      rw [rtV_num]
      exact readsI_more [] ih _ _ _ (fun W => as_num_var W _) (fun W => mth_num W _) (fun W => cf_num _ W) (fun w => kids_num n w) (r - 1) (fun t ht => by cases ht) ov w0 w acc (by omega) hbe hown
    · obtain ⟨hk3, hk9, hn0, hs0, hlen, _, hrk⟩ := right_partsR hr h1 h2
      by_cases h8 : k = 8
      · subst h8
        have e1 : ks.length = 1 := by have : manyK 8 = 1 := rfl; omega
        rw [rtV_not (by omega)]
        match ks, e1 with
        | [a], _ => exact readsI_more [a] ih _ _ _ (fun W => as_not_var W _) (fun W => mth_not W _) (fun W => cf_not _ W) (fun w => kids_not a w) (r - 1) hrk ov w0 w acc (by omega) hbe hown
      · rw [many_other h8] at hlen
        have e2 : ks.length = 2 := by omega
        rw [rtV_pair h1 h2 h8 (by omega)]
        match ks, e2 with
        | [a, b], _ => exact readsI_more [a, b] ih _ _ _ (fun W => as_pair_var W _) (fun W => mth_pair W _) (fun W => cf_pair _ W) (fun w => kids_pair k a b w) (r - 1) hrk ov w0 w acc (by omega) hbe hown
set_option maxHeartbeats 400000 in
theorem implReadsOf_any (t : Tree) (v : Value) (w : World) (hl : Lies w t v) (hz : szT t ≤ 1048576) :
    Calls Tryz.prog 140 #[v] w fun e w' => ∃ ov, e = .returned ov ∧ w'.ownsRow w.heap.size 9 1 ov (readsOfT t).length (strV (readsOfT t)) ∧ Below w.heap.size w w' := by
  have C := Lib.hid (implRight_any t v (w.alloc (.cells v.cells 43)) 6 (by omega) (hl.keep (keeps_alloc _ _)))
  obtain ⟨aa, cap, rfl⟩ := hl.shape
  have X0 := Lib.hid (Box4.new w (.int .i64 t.kind) (.int .i64 t.num) (.string t.name) (.slice aa t.kids.length cap) 43)
  obtain ⟨p0, p1, p2, p3⟩ := X0.out
  obtain ⟨ty, pv, hi⟩ := rtV_iface t
  have HI := Lib.hid hi
  clear hl hi
  cases hb : rightB t 6 with
  | false =>
    have HR : Hid (readsOfT t = []) := by show _ = _; unfold readsOfT okB; rw [hb]; rfl
    unfold RightPost at C
    rw [hb] at C
    clear hb
    go_enter Tryz.func140, Tryz.ntmps140
    go_wp2_with fail
    refine C.out.mono ?_
    rintro e w1 ⟨x, rfl, _, hb1⟩
    have B1 := Lib.hid (below_box1 hb1)
    clear hb1
    go_wp2
    go_ret
    exact ⟨_, rfl, by rw [HR.out]; exact World.ownsRow_nil _ _ _ _, B1.out⟩
  | true =>
    have HR : Hid (readsOfT t = readsT t []) := by show _ = _; unfold readsOfT okB; rw [hb]; rfl
    have D := Lib.hid (fun w1 hbe => implReads_any t (.slice none 0 0) w w1 [] 6 hb (by simp; omega) hbe (World.ownsRow_nil _ _ _ _))
    rw [HI.out] at D
    unfold RightPost at C
    rw [hb, HI.out] at C
    clear hb
    go_enter Tryz.func140, Tryz.ntmps140
    go_wp2_with fail
    refine C.out.mono ?_
    rintro e w1 ⟨x, rfl, hx, hb1⟩
    obtain rfl : x = .iface ty pv := hx.1 trivial
    have B1 := Lib.hid (below_box1 hb1)
    clear hb1 hx
    go_wp2_with fail
    refine (D.out _ B1.out).mono ?_
    rintro e w2 ⟨ov, rfl, hrow, hmv⟩
    have HRow := Lib.hid hrow
    have HB2 := Lib.hid (hmv.below B1.out (World.ownsRow_nil (size := 1) w1 w.heap.size 9))
    clear hrow hmv
    go_wp2
    go_ret
    exact ⟨_, rfl, by rw [HR.out]; exact HRow.out, HB2.out⟩
end Go.Proofs.YtmhhghdfgdhljaaGreatDoor.Trm
/- What the program asks of an instruction's fields, walked. Conditions: the code lies in memory. -/
namespace Go.Proofs.YtmhhghdfgdhljaaGreatDoor.Trm
open Go.RowKit Own
def argB (x : KTree) (y : InsT) : Bool := decide (0 ≤ y.arg ∧ y.arg ≤ mostI x y.op)
theorem argB_no {x : KTree} {y : InsT} (h : ¬ (y.op = 1 ∨ y.op = 6 ∨ y.op = 7 ∨ y.op = 4 ∨ y.op = 5)) : argB x y = decide (y.arg = 0) := by
  unfold argB mostI
  rw [if_neg (by omega), if_neg (by omega), if_neg (by omega)]
  by_cases h0 : y.arg = 0
  · simp [h0]
  · simp [h0]; omega
theorem argB_yes {x : KTree} {y : InsT} {m : Nat} {k : Int} (hk : y.op = k) (hm : mostI x k = (m : Int) - 1) : argB x y = (decide (0 ≤ y.arg) && decide (y.arg < (m : Int))) := by
  unfold argB
  rw [hk, hm]
  by_cases h0 : 0 ≤ y.arg
  · by_cases h1 : y.arg < (m : Int)
    · simp [h0, h1]; omega
    · simp [h1]; omega
  · simp [h0]
set_option maxHeartbeats 800000 in
theorem implArg_any (x : KTree) (y : InsT) (ga la pa ea ia ta : Option Addr) (gc lc pc ec ic n tc : Nat) (w : World) :
    Calls Tryz.prog 95 #[.agg #[.slice ga x.globals.length gc, .slice la x.locks.length lc, .slice pa x.procs.length pc, .slice ea x.entry.length ec, .slice ia n ic], .agg #[.int .i64 y.op, .int .i64 y.arg, .int .i64 y.term.kind, .int .i64 y.term.num, .string y.term.name, .slice ta y.term.kids.length tc, .int .i64 y.to]] w fun e w' => e = .returned (.bool (argB x y)) ∧ Below w.heap.size w w' := by
  have X0 := Lib.hid ((Box7.new (w.alloc (.cells #[.slice ga x.globals.length gc, .slice la x.locks.length lc, .slice pa x.procs.length pc, .slice ea x.entry.length ec, .slice ia n ic] 32)) (.int .i64 y.op) (.int .i64 y.arg) (.int .i64 y.term.kind) (.int .i64 y.term.num) (.string y.term.name) (.slice ta y.term.kids.length tc) (.int .i64 y.to) 45))
  obtain ⟨W1, hW1⟩ : ∃ W, W = (w.alloc (.cells #[.slice ga x.globals.length gc, .slice la x.locks.length lc, .slice pa x.procs.length pc, .slice ea x.entry.length ec, .slice ia n ic] 32)).alloc (.cells #[.int .i64 y.op, .int .i64 y.arg, .int .i64 y.term.kind, .int .i64 y.term.num, .string y.term.name, .slice ta y.term.kids.length tc, .int .i64 y.to] 45) := ⟨_, rfl⟩
  have hs1 : (w.alloc (.cells #[.slice ga x.globals.length gc, .slice la x.locks.length lc, .slice pa x.procs.length pc, .slice ea x.entry.length ec, .slice ia n ic] 32)).heap.size = w.heap.size + 1 := by simp
  have B1 : Hid (Below w.heap.size w W1) := by rw [hW1]; exact ((Below.refl w.heap.size w).alloc (Nat.le_refl _) _).alloc (by simp) _
  rw [← hW1, hs1] at X0
  have HW1 := Lib.hid hW1
  have CN := Lib.hid (fun w => implNamed_any y.op ga la pa x.globals.length gc x.locks.length lc x.procs.length pc (.slice ea x.entry.length ec) (.slice ia n ic) w)
  clear hW1 hs1
  by_cases hk : y.op = 1 ∨ y.op = 6 ∨ y.op = 7 ∨ y.op = 4 ∨ y.op = 5
  · obtain ⟨m, c, a, HV, HB⟩ : ∃ (m c : Nat) (a : Option Addr), Hid (namedV (.slice ga x.globals.length gc) (.slice la x.locks.length lc) (.slice pa x.procs.length pc) y.op = .slice a m c) ∧ Hid (argB x y = (decide (0 ≤ y.arg) && decide (y.arg < (m : Int)))) := by
      rcases hk with h | h | h | h | h
      · exact ⟨_, _, _, by rw [h]; rfl, argB_yes h rfl⟩
      · exact ⟨_, _, _, by rw [h]; rfl, argB_yes h rfl⟩
      · exact ⟨_, _, _, by rw [h]; rfl, argB_yes h rfl⟩
      · exact ⟨_, _, _, by rw [h]; rfl, argB_yes h rfl⟩
      · exact ⟨_, _, _, by rw [h]; rfl, argB_yes h rfl⟩
    have HH : Hid (hasArg y.op = true) := decide_eq_true hk
    rw [HV.out, HH.out] at CN
    generalize argB x y = rr at HB
    clear hk
    go_enter Tryz.func95, Tryz.ntmps95
    go_wp2_with fail
    rw [← HW1.out]
    refine (CN.out _).mono ?_
    rintro e w2 ⟨rfl, hb⟩
    have B2 := Lib.hid (B1.out.trans (hb.mono B1.out.size))
    obtain ⟨p0, p1, p2, p3, p4, p5, p6⟩ := X0.out.keep (keeps_below hb)
    clear hb
    by_cases h0 : 0 ≤ y.arg
    · by_cases h1 : y.arg < (m : Int)
      · have HF : Hid (rr = true) := by show _ = _; rw [HB.out]; simp [h0, h1]
        go_wp2
        go_ret
        exact ⟨ret_b (by rw [HF.out]), B2.out⟩
      · have HF : Hid (rr = false) := by show _ = _; rw [HB.out]; simp [h1]
        go_wp2
        go_ret
        exact ⟨ret_b (by rw [HF.out]; exact decide_eq_false (by omega)), B2.out⟩
    · have HF : Hid (rr = false) := by show _ = _; rw [HB.out]; simp [h0]
      go_wp2
      go_ret
      exact ⟨ret_b (by rw [HF.out]), B2.out⟩
  · have HB := Lib.hid (argB_no (x := x) hk)
    have HH : Hid (hasArg y.op = false) := decide_eq_false hk
    rw [HH.out] at CN
    generalize argB x y = rr at HB
    generalize namedV (.slice ga x.globals.length gc) (.slice la x.locks.length lc) (.slice pa x.procs.length pc) y.op = nv at CN
    clear hk
    go_enter Tryz.func95, Tryz.ntmps95
    go_wp2_with fail
    rw [← HW1.out]
    refine (CN.out _).mono ?_
    rintro e w2 ⟨rfl, hb⟩
    have B2 := Lib.hid (B1.out.trans (hb.mono B1.out.size))
    obtain ⟨p0, p1, p2, p3, p4, p5, p6⟩ := X0.out.keep (keeps_below hb)
    clear hb
    by_cases h0 : y.arg = 0
    · have HF : Hid (rr = true) := by show _ = _; rw [HB.out]; simp [h0]
      go_wp2
      go_ret
      exact ⟨ret_b (by rw [HF.out]), B2.out⟩
    · have HF : Hid (rr = false) := by show _ = _; rw [HB.out]; simp [h0]
      have h1 := ne_true h0
      clear h0
      go_wp2
      go_ret
      exact ⟨ret_b (by rw [HF.out]), B2.out⟩
theorem readsIn_drop {gs ss : List ByteArray} {i : Nat} (h : i < ss.length) : readsIn gs (ss.drop i) = (@decide (ss[i] ∈ gs) (Classical.propDecidable _) && readsIn gs (ss.drop (i + 1))) := by
  unfold readsIn
  rw [List.drop_eq_getElem_cons h, List.all_cons]
theorem readsIn_end {gs ss : List ByteArray} {i : Nat} (h : ss.length ≤ i) : readsIn gs (ss.drop i) = true := by
  unfold readsIn; rw [List.drop_of_length_le h]; rfl
theorem termB_no {x : KTree} {y : InsT} (h : ¬ (y.op = 1 ∨ y.op = 2)) : termB x y = sameT y.term zT := by unfold termB; rw [if_neg h]
theorem termB_yes {x : KTree} {y : InsT} (h : y.op = 1 ∨ y.op = 2) : termB x y = (okB y.term && readsIn x.globals (readsOfT y.term)) := by unfold termB; rw [if_pos h]
set_option maxHeartbeats 1600000 in
theorem implTermK_any (x : KTree) (y : InsT) (ga la pa ea ia ta : Option Addr) (gc lc pc ec ic n tc : Nat) (w : World) (hg : NamesAt w x.globals (.slice ga x.globals.length gc)) (hy : Lies w y.term (.agg #[.int .i64 y.term.kind, .int .i64 y.term.num, .string y.term.name, .slice ta y.term.kids.length tc])) (hz : szT y.term ≤ 1048576) :
    Calls Tryz.prog 96 #[.agg #[.slice ga x.globals.length gc, .slice la x.locks.length lc, .slice pa x.procs.length pc, .slice ea x.entry.length ec, .slice ia n ic], .agg #[.int .i64 y.op, .int .i64 y.arg, .int .i64 y.term.kind, .int .i64 y.term.num, .string y.term.name, .slice ta y.term.kids.length tc, .int .i64 y.to]] w fun e w' => e = .returned (.bool (termB x y)) ∧ Below w.heap.size w w' := by
  have X0 := Lib.hid ((Box7.new (w.alloc (.cells #[.slice ga x.globals.length gc, .slice la x.locks.length lc, .slice pa x.procs.length pc, .slice ea x.entry.length ec, .slice ia n ic] 32)) (.int .i64 y.op) (.int .i64 y.arg) (.int .i64 y.term.kind) (.int .i64 y.term.num) (.string y.term.name) (.slice ta y.term.kids.length tc) (.int .i64 y.to) 45))
  have Y0 := Lib.hid ((Box5.new w (.slice ga x.globals.length gc) (.slice la x.locks.length lc) (.slice pa x.procs.length pc) (.slice ea x.entry.length ec) (.slice ia n ic) 32).keep (keeps_alloc _ (.cells #[.int .i64 y.op, .int .i64 y.arg, .int .i64 y.term.kind, .int .i64 y.term.num, .string y.term.name, .slice ta y.term.kids.length tc, .int .i64 y.to] 45)))
  obtain ⟨W1, hW1⟩ : ∃ W, W = (w.alloc (.cells #[.slice ga x.globals.length gc, .slice la x.locks.length lc, .slice pa x.procs.length pc, .slice ea x.entry.length ec, .slice ia n ic] 32)).alloc (.cells #[.int .i64 y.op, .int .i64 y.arg, .int .i64 y.term.kind, .int .i64 y.term.num, .string y.term.name, .slice ta y.term.kids.length tc, .int .i64 y.to] 45) := ⟨_, rfl⟩
  have hs1 : (w.alloc (.cells #[.slice ga x.globals.length gc, .slice la x.locks.length lc, .slice pa x.procs.length pc, .slice ea x.entry.length ec, .slice ia n ic] 32)).heap.size = w.heap.size + 1 := by simp
  have B1 : Hid (Below w.heap.size w W1) := by rw [hW1]; exact ((Below.refl w.heap.size w).alloc (Nat.le_refl _) _).alloc (by simp) _
  rw [← hW1, hs1] at X0
  rw [← hW1] at Y0
  have HW1 := Lib.hid hW1
  have CT := Lib.hid (fun w => implHasTerm_any y.op w)
  have CZ := Lib.hid (fun wx hb => implNoTerm_any y.term ta tc wx (hy.keep (keeps_below (w' := wx) hb)))
  have CR := Lib.hid (fun wx hb => implReadsOf_any y.term _ wx (hy.keep (keeps_below (w' := wx) hb)) hz)
  have CO := Lib.hid (fun wx hb => implTermOk_any y.term _ wx (hy.keep (keeps_below (w' := wx) hb)))
  have CP := Lib.hid (fun s wx hb => implPlace_any x.globals s _ wx (hg.1.keep (keeps_below (w' := wx) hb)))
  obtain ⟨q0, q1, q2, q3, q4, q5, q6⟩ := X0.out
  clear hW1 hs1 hg hy hz
  by_cases hk : y.op = 1 ∨ y.op = 2
  · have HB := Lib.hid (termB_yes (x := x) hk)
    have HH : Hid (isTermK y.op = true) := decide_eq_true hk
    rw [HH.out] at CT
    generalize termB x y = rr at HB
    clear hk
    go_enter Tryz.func96, Tryz.ntmps96
    go_wp2_with fail
    rw [← HW1.out]
    refine (CT.out _).mono ?_
    rintro e w2 ⟨rfl, rfl⟩
    go_wp2_with fail
    refine (CR.out _ B1.out).mono ?_
    rintro e w3 ⟨ov, rfl, hrow, hb⟩
    obtain ⟨oa, oc, rfl, hoa⟩ := row_shape hrow
    have HA := Lib.hid hoa
    have HROW := Lib.hid hrow
    have B3 := Lib.hid (B1.out.trans (hb.mono B1.out.size))
    have X3 := Lib.hid (X0.out.keep (keeps_below hb))
    have Y3 := Lib.hid (Y0.out.keep (keeps_below hb))
    have hsm := row_small hrow
    unfold maxLen at hsm
    clear hb hrow hoa q0 q1 q2 q3 q4 q5 q6
    generalize readsOfT y.term = rs at HB HA HROW hsm
    go_wp2_with fail
    go_loopw [18] (fun i wr => ∃ (j : Nat), j ≤ rs.length ∧ i = .int .i64 j ∧ Hid (rr = (okB y.term && readsIn x.globals (rs.drop j))) ∧ wr = w3)
      (fun i _ => rs.length - (intOf i).toNat)
    case atStart => exact ⟨0, Nat.zero_le _, rfl, HB.out, rfl⟩
    case round =>
      obtain ⟨j, hj, rfl, hrr, rfl⟩ := hrel
      obtain ⟨p0, p1, p2, p3, p4⟩ := Y3.out
      by_cases hlt : j < rs.length
      · obtain ⟨g, rfl⟩ := HA.out (by omega)
        have c0 := row_cell HROW.out j hlt
        have hd := readsIn_drop (gs := x.globals) hlt
        obtain ⟨s, hs⟩ : ∃ s, s = rs[j] := ⟨_, rfl⟩
        rw [← hs] at c0 hd
        by_cases hm : s ∈ x.globals
        · have HS : Hid (rr = (okB y.term && readsIn x.globals (rs.drop (j + 1)))) := by show _ = _; rw [hrr.out, hd]; simp [hm]
          have HX : Hid (∀ z, IdxI x.globals s z → ¬ z < 0) := fun z hz h => (idxI_neg hz).1 h hm
          clear hd hs hm
          go_wp2_with fail
          refine (CP.out _ _ B3.out).mono ?_
          rintro e w4 ⟨z, rfl, hz, rfl⟩
          have hz0 := HX.out z hz
          clear hz
          go_wp2_with fail
          go_roundw
          case rel => exact ⟨j + 1, by omega, by go_num, HS, by first | rfl | trivial⟩
          case measure => simp [intOf]; omega
        · have HF : Hid (rr = false) := by show _ = _; rw [hrr.out, hd]; simp [hm]
          have HX : Hid (∀ z, IdxI x.globals s z → z < 0) := fun z hz => (idxI_neg hz).2 hm
          clear hd hs hm
          go_wp2_with fail
          refine (CP.out _ _ B3.out).mono ?_
          rintro e w4 ⟨z, rfl, hz, rfl⟩
          have hz0 := HX.out z hz
          clear hz
          go_wp2_with fail
          go_ret
          exact ⟨ret_b (by rw [HF.out]), B3.out⟩
      · have HF : Hid (rr = okB y.term) := by show _ = _; rw [hrr.out, readsIn_end (by omega)]; simp
        obtain ⟨q0, q1, q2, q3, q4, q5, q6⟩ := X3.out
        go_wp2_with fail
        refine (CO.out _ B3.out).mono ?_
        rintro e w4 ⟨rfl, hb⟩
        have B4 := Lib.hid (B3.out.trans (hb.mono B3.out.size))
        clear hb
        go_wp2_with fail
        go_ret
        exact ⟨ret_b (by rw [HF.out]), B4.out⟩
  · have HB := Lib.hid (termB_no (x := x) hk)
    have HH : Hid (isTermK y.op = false) := decide_eq_false hk
    rw [HH.out] at CT
    generalize termB x y = rr at HB
    clear hk
    go_enter Tryz.func96, Tryz.ntmps96
    go_wp2_with fail
    rw [← HW1.out]
    refine (CT.out _).mono ?_
    rintro e w2 ⟨rfl, rfl⟩
    go_wp2_with fail
    refine (CZ.out _ B1.out).mono ?_
    rintro e w3 ⟨rfl, hb⟩
    have B3 := Lib.hid (B1.out.trans (hb.mono B1.out.size))
    clear hb
    go_wp2_with fail
    go_ret
    exact ⟨ret_b (by rw [HB.out]), B3.out⟩
theorem toB_iff {es : List Int} {n i : Nat} {to z1 z2 : Int} (hr : Ris es n) (hi : i < n) (h1 : ProcI es n to z1) (h2 : ProcI es n (i : Int) z2) : z1 = z2 ↔ toB es n i to = true := by
  have h2 : ∃ p : Nat, z2 = (p : Int) ∧ IsP es i p := by
    rcases h2 with ⟨_, _, h⟩ | ⟨h, _⟩
    · exact h
    · exact absurd ⟨by omega, by omega⟩ h
  obtain ⟨p, rfl, hp⟩ := h2
  have hd : toB es n i to = true ↔ (to < (n : Int) ∧ ∃ p, IsP es (i : Int) p ∧ IsP es to p) := by unfold toB; simp only [decide_eq_true_eq]
  rw [hd]
  constructor
  · rintro rfl
    rcases h1 with ⟨_, h4, q, e, hq⟩ | ⟨_, e⟩
    · obtain rfl : p = q := by omega
      exact ⟨h4, p, hp, hq⟩
    · omega
  · rintro ⟨h4, q, hq, hq2⟩
    obtain rfl := hq.uni hr hp
    obtain ⟨hl, hle, _⟩ := id hq2
    have := hr.nonneg hl
    rcases h1 with ⟨_, _, q, rfl, hq⟩ | ⟨h5, _⟩
    · rw [hq.uni hr hq2]
    · exact absurd ⟨by omega, h4⟩ h5
noncomputable def toBB (x : KTree) (n i : Nat) (y : InsT) : Bool := if y.op = 2 ∨ y.op = 3 then toB x.entry n i y.to else decide (y.to = 0)
set_option maxHeartbeats 1600000 in
theorem implTo_any (x : KTree) (i : Nat) (ga la pa ea ia : Option Addr) (gc lc pc ec ic n : Nat) (w : World) (hi : i < x.ins.length) (he : IntsAt w x.entry (.slice ea x.entry.length ec)) (hI : IsAt w (.slice ia n ic) x.ins) (hr : Ris x.entry n) :
    Calls Tryz.prog 97 #[.agg #[.slice ga x.globals.length gc, .slice la x.locks.length lc, .slice pa x.procs.length pc, .slice ea x.entry.length ec, .slice ia n ic], .int .i64 (i : Int)] w fun e w' => e = .returned (.bool (toBB x n i x.ins[i])) ∧ Below w.heap.size w w' := by
  obtain ⟨_, a2, c2, e2, hk5⟩ := hI
  simp at e2
  obtain ⟨rfl, hn, rfl⟩ := e2
  have HNL := Lib.hid hn
  obtain ⟨g, o, rfl, hc⟩ := hk5 (by omega)
  obtain ⟨_, _, _, ta, tc, c0, c1, c2, c3, c4, c5, c6, _⟩ := hc i hi
  have hin : i < n := by omega
  obtain ⟨y, hy⟩ : ∃ y, y = x.ins[i] := ⟨_, rfl⟩
  rw [← hy] at c0 c1 c2 c3 c4 c5 c6 ⊢
  have CT := Lib.hid (fun w => implHasTo_any y.op w)
  obtain ⟨W1, hW1⟩ : ∃ W, W = (w.alloc (.cells #[.slice ga x.globals.length gc, .slice la x.locks.length lc, .slice pa x.procs.length pc, .slice ea x.entry.length ec, .slice (some ⟨g, o, none⟩) n ic] 32)).alloc (.cells #[.int .i64 y.op, .int .i64 y.arg, .int .i64 y.term.kind, .int .i64 y.term.num, .string y.term.name, .slice ta y.term.kids.length tc, .int .i64 y.to] 45) := ⟨_, rfl⟩
  have hs1 : (w.alloc (.cells #[.slice ga x.globals.length gc, .slice la x.locks.length lc, .slice pa x.procs.length pc, .slice ea x.entry.length ec, .slice (some ⟨g, o, none⟩) n ic] 32)).heap.size = w.heap.size + 1 := by simp
  have B1 : Hid (Below w.heap.size w W1) := by rw [hW1]; exact ((Below.refl w.heap.size w).alloc (Nat.le_refl _) _).alloc (by simp) _
  have X0 := Lib.hid ((Box7.new (w.alloc (.cells #[.slice ga x.globals.length gc, .slice la x.locks.length lc, .slice pa x.procs.length pc, .slice ea x.entry.length ec, .slice (some ⟨g, o, none⟩) n ic] 32)) (.int .i64 y.op) (.int .i64 y.arg) (.int .i64 y.term.kind) (.int .i64 y.term.num) (.string y.term.name) (.slice ta y.term.kids.length tc) (.int .i64 y.to) 45))
  have Y0 := Lib.hid ((Box5.new w (.slice ga x.globals.length gc) (.slice la x.locks.length lc) (.slice pa x.procs.length pc) (.slice ea x.entry.length ec) (.slice (some ⟨g, o, none⟩) n ic) 32).keep (keeps_alloc _ (.cells #[.int .i64 y.op, .int .i64 y.arg, .int .i64 y.term.kind, .int .i64 y.term.num, .string y.term.name, .slice ta y.term.kids.length tc, .int .i64 y.to] 45)))
  rw [← hW1, hs1] at X0
  rw [← hW1] at Y0
  have HW1 := Lib.hid hW1
  have k0 := keeps_alloc w (.cells #[.slice ga x.globals.length gc, .slice la x.locks.length lc, .slice pa x.procs.length pc, .slice ea x.entry.length ec, .slice (some ⟨g, o, none⟩) n ic] 32)
  replace c0 := k0 _ _ c0
  replace c1 := k0 _ _ c1
  replace c2 := k0 _ _ c2
  replace c3 := k0 _ _ c3
  replace c4 := k0 _ _ c4
  replace c5 := k0 _ _ c5
  replace c6 := k0 _ _ c6
  have CP : Hid (∀ (a : Int) wx, Below W1.heap.size W1 wx → Calls Tryz.prog 45 #[.agg #[.slice ga x.globals.length gc, .slice la x.locks.length lc, .slice pa x.procs.length pc, .slice ea x.entry.length ec, .slice (some ⟨g, o, none⟩) n ic], .int .i64 a] wx fun e w' => ∃ z : Int, e = .returned (.int .i64 z) ∧ ProcI x.entry n a z ∧ Below W1.heap.size W1 w') := fun a wx hb =>
    (implKProc_any x.entry _ _ _ ea _ ec n ic a wx (he.keep (keeps_below (B1.out.trans (hb.mono B1.out.size)))) hr).mono fun e w' ⟨z, he, hz, h⟩ => ⟨z, he, hz, hb.trans (h.mono hb.size)⟩
  clear hc hk5 hn hW1 hs1 k0 hy
  by_cases hk : y.op = 2 ∨ y.op = 3
  · have HB : Hid (toBB x n i y = toB x.entry n i y.to) := by show _ = _; unfold toBB; rw [if_pos hk]
    have HI := Lib.hid (fun z1 z2 h1 h2 => toB_iff (to := y.to) (z1 := z1) (z2 := z2) hr hin h1 h2)
    have HH : Hid (isToK y.op = true) := decide_eq_true hk
    rw [HH.out] at CT
    generalize toBB x n i y = rr at HB
    generalize toB x.entry n i y.to = tb at HB HI
    have KS : Hid (∀ wx, Below W1.heap.size W1 wx → wx.cell? ⟨w.heap.size, 0, none⟩ = some (.slice ga x.globals.length gc) ∧ wx.cell? ⟨w.heap.size, 1, none⟩ = some (.slice la x.locks.length lc) ∧ wx.cell? ⟨w.heap.size, 2, none⟩ = some (.slice pa x.procs.length pc) ∧ wx.cell? ⟨w.heap.size, 3, none⟩ = some (.slice ea x.entry.length ec) ∧ wx.cell? ⟨w.heap.size, 4, none⟩ = some (.slice (some ⟨g, o, none⟩) n ic) ∧ wx.cell? ⟨w.heap.size + 1, 6, none⟩ = some (.int .i64 y.to) ∧ Below W1.heap.size W1 wx) := fun wx hb => by
      obtain ⟨p0, p1, p2, p3, p4⟩ := Y0.out.keep (keeps_below hb)
      obtain ⟨_, _, _, _, _, _, q6⟩ := X0.out.keep (keeps_below hb)
      exact ⟨p0, p1, p2, p3, p4, q6, hb⟩
    have b0 : Below W1.heap.size W1 W1.drew := (Below.refl _ _).drew
    clear hk
    go_enter Tryz.func97, Tryz.ntmps97
    go_wp2_with fail
    rw [← HW1.out]
    refine (CT.out _).mono ?_
    rintro e w2 ⟨rfl, rfl⟩
    clear c0 c1 c2 c3 c4 c5 c6
    go_wp2_with fail
    go_region_held3 (fun wx => wx.cell? ⟨w.heap.size, 0, none⟩ = some (.slice ga x.globals.length gc) ∧ wx.cell? ⟨w.heap.size, 1, none⟩ = some (.slice la x.locks.length lc) ∧ wx.cell? ⟨w.heap.size, 2, none⟩ = some (.slice pa x.procs.length pc) ∧ wx.cell? ⟨w.heap.size, 3, none⟩ = some (.slice ea x.entry.length ec) ∧ wx.cell? ⟨w.heap.size, 4, none⟩ = some (.slice (some ⟨g, o, none⟩) n ic) ∧ wx.cell? ⟨w.heap.size + 1, 6, none⟩ = some (.int .i64 y.to) ∧ Below W1.heap.size W1 wx)
      (exact KS.out _ (by assumption))
      (first
      | (go_at_call 45; (with_reducible refine (CP.out y.to _ (by assumption)).mono ?_); rintro e w3 ⟨z1, rfl, hz1, b1⟩; have HZ1 := Lib.hid hz1; clear hz1)
      | (go_at_call 45; (with_reducible refine (CP.out (i : Int) _ (by assumption)).mono ?_); rintro e w4 ⟨z2, rfl, hz2, b2⟩; have HZ2 := Lib.hid hz2; clear hz2))
    all_goals
      have hq := HI.out z1 z2 HZ1.out HZ2.out
      have B4 := Lib.hid (B1.out.trans (b2.mono B1.out.size))
      have B3 := Lib.hid (B1.out.trans (b1.mono B1.out.size))
      clear b1 b2 HZ1 HZ2
      by_cases hz : z1 = z2
      · have HF : Hid (rr = true) := by show _ = _; rw [HB.out]; exact hq.1 hz
        clear hq
        subst hz
        go_wp2_with fail
        go_ret
        exact ⟨ret_b (by rw [HF.out]; exact beq_self_eq_true _), by first | exact B4.out | exact B3.out⟩
      · have HF : Hid (rr = false) := by show _ = _; rw [HB.out]; exact Bool.eq_false_iff.2 (fun h => hz (hq.2 h))
        clear hq
        have h1 := ne_true hz
        clear hz
        go_wp2_with fail
        go_ret
        exact ⟨ret_b (by rw [HF.out]; exact h1), by first | exact B4.out | exact B3.out⟩
  · have HB : Hid (toBB x n i y = decide (y.to = 0)) := by show _ = _; unfold toBB; rw [if_neg hk]
    have HH : Hid (isToK y.op = false) := decide_eq_false hk
    rw [HH.out] at CT
    generalize toBB x n i y = rr at HB
    clear hk
    go_enter Tryz.func97, Tryz.ntmps97
    go_wp2_with fail
    rw [← HW1.out]
    refine (CT.out _).mono ?_
    rintro e w2 ⟨rfl, rfl⟩
    obtain ⟨p0, p1, p2, p3, p4, p5, p6⟩ := X0.out
    clear c0 c1 c2 c3 c4 c5 c6
    by_cases h0 : y.to = 0
    · have HF : Hid (rr = true) := by show _ = _; rw [HB.out]; simp [h0]
      go_wp2
      go_ret
      exact ⟨ret_b (by rw [HF.out]), B1.out⟩
    · have HF : Hid (rr = false) := by show _ = _; rw [HB.out]; simp [h0]
      have h1 := ne_true h0
      clear h0
      go_wp2
      go_ret
      exact ⟨ret_b (by rw [HF.out]), B1.out⟩
end Go.Proofs.YtmhhghdfgdhljaaGreatDoor.Trm
/- The program's hasRightIns, walked. Conditions: the code lies in memory, its entries and ends as they should be; at most 2 to the 20 names and terms. -/
namespace Go.Proofs.YtmhhghdfgdhljaaGreatDoor.Trm
open Go.RowKit Own
theorem opWord_some {k : Int} (h : 1 ≤ k ∧ k ≤ 9) : (opWord k).toList.isEmpty = false := by
  have h2 : k = 1 ∨ k = 2 ∨ k = 3 ∨ k = 4 ∨ k = 5 ∨ k = 6 ∨ k = 7 ∨ k = 8 ∨ k = 9 := by omega
  rcases h2 with rfl | rfl | rfl | rfl | rfl | rfl | rfl | rfl | rfl <;> exact empty_false (by decide)
theorem okIn_eq (x : KTree) (n i : Nat) (y : InsT) (hn : n = x.ins.length) : okIn x i y = (decide (1 ≤ y.op ∧ y.op ≤ 9) && (argB x y && (termB x y && toBB x n i y))) := by
  subst hn; rfl
set_option maxRecDepth 20000 in
set_option maxHeartbeats 6400000 in
theorem implInsOk_any (x : KTree) (ga la pa ea ia : Option Addr) (gc lc pc ec ic n : Nat) (w : World) (hg : NamesAt w x.globals (.slice ga x.globals.length gc)) (he : IntsAt w x.entry (.slice ea x.entry.length ec)) (hI : IsAt w (.slice ia n ic) x.ins) (hr : Ris x.entry n) (hz : szIs x.ins ≤ 1048576) :
    Calls Tryz.prog 41 #[.agg #[.slice ga x.globals.length gc, .slice la x.locks.length lc, .slice pa x.procs.length pc, .slice ea x.entry.length ec, .slice ia n ic]] w fun e w' => e = .returned (.bool (okIns x 0 x.ins)) ∧ Below w.heap.size w w' := by
  have HII := Lib.hid hI
  obtain ⟨hlm, a2, c2, e2, hk5⟩ := hI
  simp at e2
  obtain ⟨rfl, hn, rfl⟩ := e2
  have hnm : n ≤ 9223372036854775807 := by omega
  have HNL := Lib.hid hn
  have HI5 : Hid (0 < n → ∃ g o, ia = some ⟨g, o, none⟩ ∧ ∀ i (h : i < x.ins.length), IElem w g (o + i * 7) x.ins[i]) := fun h => hk5 (by omega)
  have HG := Lib.hid hg
  have HE := Lib.hid he
  have HR := Lib.hid hr
  have HZ := Lib.hid hz
  have HB0 : Hid (okIns x 0 x.ins = okIns x 0 (x.ins.drop 0)) := rfl
  generalize okIns x 0 x.ins = rr at HB0
  have X0 := Lib.hid (Box5.new w (.slice ga x.globals.length gc) (.slice la x.locks.length lc) (.slice pa x.procs.length pc) (.slice ea x.entry.length ec) (.slice ia n ic) 32)
  have B0 := Lib.hid ((Below.refl w.heap.size w).alloc (Nat.le_refl _) (.cells #[.slice ga x.globals.length gc, .slice la x.locks.length lc, .slice pa x.procs.length pc, .slice ea x.entry.length ec, .slice ia n ic] 32))
  clear hg he hr hz hk5 hn hlm
  obtain ⟨p0, p1, p2, p3, p4⟩ := X0.out
  go_enter Tryz.func41, Tryz.ntmps41
  go_wp2_with fail
  clear p0 p1 p2 p3 p4
  go_loopw [8] (fun i wr => ∃ (j : Nat), j ≤ n ∧ i = .int .i64 j ∧ Hid (rr = okIns x j (x.ins.drop j)) ∧ Hid (Box5 wr w.heap.size (.slice ga x.globals.length gc) (.slice la x.locks.length lc) (.slice pa x.procs.length pc) (.slice ea x.entry.length ec) (.slice ia n ic)) ∧ Hid (Below w.heap.size w wr))
    (fun i _ => n - (intOf i).toNat)
  case atStart => exact ⟨0, Nat.zero_le _, rfl, HB0.out, X0.out, B0.out⟩
  case round =>
    obtain ⟨j, hj, rfl, hrr, hbx, hbe⟩ := hrel
    have hsw : w.heap.size ≤ wr.heap.size := hbe.out.size
    by_cases hlt : j < n
    · have HII2 := Lib.hid (HII.out.keep (keeps_below hbe.out))
      obtain ⟨g, o, rfl, hc⟩ := HI5.out (by omega)
      have hlt2 : j < x.ins.length := by have := HNL.out; omega
      obtain ⟨_, _, _, ta, tc, c0, c1, c2, c3, c4, c5, c6, hlt3⟩ := (hc j hlt2).keep (keeps_below hbe.out)
      have hd := okIns_drop (x := x) hlt2
      have hzt : szT x.ins[j].term ≤ 1048576 := by have := szIs_mem (List.getElem_mem hlt2); have := HZ.out; unfold szI at *; omega
      rw [okIn_eq x n j x.ins[j] HNL.out] at hd
      have CO := Lib.hid (fun wx (hb : Below w.heap.size w wx) => implTo_any x j ga la pa ea (some ⟨g, o, none⟩) gc lc pc ec ic n wx hlt2 (HE.out.keep (keeps_below hb)) (HII.out.keep (keeps_below hb)) HR.out)
      obtain ⟨y, hy⟩ : ∃ y, y = x.ins[j] := ⟨_, rfl⟩
      rw [← hy] at c0 c1 c2 c3 c4 c5 c6 hd hlt3 hzt CO
      have HD : Hid (rr = ((decide (1 ≤ y.op ∧ y.op ≤ 9) && (argB x y && (termB x y && toBB x n j y))) && okIns x (j + 1) (x.ins.drop (j + 1)))) := by show _ = _; rw [hrr.out, hd]
      have CW := Lib.hid (fun w => implWordK_any y.op w)
      have CA := Lib.hid (fun w => implArg_any x y ga la pa ea (some ⟨g, o, none⟩) ta gc lc pc ec ic n tc w)
      have CT := Lib.hid (fun wx (hb : Below wr.heap.size wr wx) => implTermK_any x y ga la pa ea (some ⟨g, o, none⟩) ta gc lc pc ec ic n tc wx (HG.out.keep (keeps_below (hbe.out.trans (hb.mono hsw)))) (hlt3.keep (keeps_below hb)) hzt)
      obtain ⟨W2, hW2⟩ : ∃ W, W = wr.alloc (.cells #[.int .i64 y.op, .int .i64 y.arg, .int .i64 y.term.kind, .int .i64 y.term.num, .string y.term.name, .slice ta y.term.kids.length tc, .int .i64 y.to] 45) := ⟨_, rfl⟩
      have b2 : Below wr.heap.size wr W2 := by rw [hW2]; exact (Below.refl _ _).alloc (Nat.le_refl _) _
      have X2 : Hid (Box7 W2 wr.heap.size (.int .i64 y.op) (.int .i64 y.arg) (.int .i64 y.term.kind) (.int .i64 y.term.num) (.string y.term.name) (.slice ta y.term.kids.length tc) (.int .i64 y.to)) := by rw [hW2]; exact Box7.new wr _ _ _ _ _ _ _ _
      have Y2 : Hid (Box5 W2 w.heap.size (.slice ga x.globals.length gc) (.slice la x.locks.length lc) (.slice pa x.procs.length pc) (.slice ea x.entry.length ec) (.slice (some ⟨g, o, none⟩) n ic)) := hbx.out.keep (keeps_below b2)
      have B2 := Lib.hid b2
      have HW2 := Lib.hid hW2
      obtain ⟨p0, p1, p2, p3, p4⟩ := hbx.out
      clear hc hy hd hlt3 hzt hW2 b2
      generalize argB x y = rA at HD CA
      generalize termB x y = rT at HD CT
      generalize toBB x n j y = rO at HD CO
      by_cases h9 : 1 ≤ y.op ∧ y.op ≤ 9
      · have hwe := opWord_some h9
        have HD2 : Hid (rr = ((rA && (rT && rO)) && okIns x (j + 1) (x.ins.drop (j + 1)))) := by show _ = _; rw [HD.out]; simp [h9]
        generalize opWord y.op = wd at CW hwe
        clear HD h9
        go_wp2_with fail
        rw [← HW2.out]
        refine (CW.out _).mono ?_
        rintro e w3 ⟨rfl, rfl⟩
        clear c0 c1 c2 c3 c4 c5 c6 p0 p1 p2 p3 p4
        obtain ⟨p0, p1, p2, p3, p4⟩ := Y2.out
        obtain ⟨q0, q1, q2, q3, q4, q5, q6⟩ := X2.out
        go_wp2_with fail
        refine (CA.out _).mono ?_
        rintro e w4 ⟨rfl, hb4⟩
        have B4 := Lib.hid (B2.out.trans (hb4.mono B2.out.size))
        have X4 := Lib.hid (X2.out.keep (keeps_below hb4))
        have Y4 := Lib.hid (Y2.out.keep (keeps_below hb4))
        have T4 := Lib.hid (hbe.out.trans (B4.out.mono hsw))
        clear hb4 p0 p1 p2 p3 p4 q0 q1 q2 q3 q4 q5 q6 X2 Y2
        obtain ⟨p0, p1, p2, p3, p4⟩ := Y4.out
        obtain ⟨q0, q1, q2, q3, q4, q5, q6⟩ := X4.out
        cases rA with
        | false =>
          have HF : Hid (rr = false) := by show _ = _; rw [HD2.out]; rfl
          go_wp2_with fail
          go_ret
          exact ⟨ret_b (by rw [HF.out]), T4.out⟩
        | true =>
          go_wp2_with fail
          refine (CT.out _ B4.out).mono ?_
          rintro e w5 ⟨rfl, hb5⟩
          have B5 := Lib.hid (B4.out.trans (hb5.mono B4.out.size))
          have X5 := Lib.hid (X4.out.keep (keeps_below hb5))
          have Y5 := Lib.hid (Y4.out.keep (keeps_below hb5))
          have T5 := Lib.hid (hbe.out.trans (B5.out.mono hsw))
          clear hb5 p0 p1 p2 p3 p4 q0 q1 q2 q3 q4 q5 q6 X4 Y4
          obtain ⟨p0, p1, p2, p3, p4⟩ := Y5.out
          obtain ⟨q0, q1, q2, q3, q4, q5, q6⟩ := X5.out
          cases rT with
          | false =>
            have HF : Hid (rr = false) := by show _ = _; rw [HD2.out]; rfl
            go_wp2_with fail
            go_ret
            exact ⟨ret_b (by rw [HF.out]), T5.out⟩
          | true =>
            go_wp2_with fail
            refine (CO.out _ T5.out).mono ?_
            rintro e w6 ⟨rfl, hb6⟩
            have T6 := Lib.hid (T5.out.trans (hb6.mono T5.out.size))
            have Y6 := Lib.hid (Y5.out.keep (keeps_below hb6))
            clear hb6 p0 p1 p2 p3 p4 q0 q1 q2 q3 q4 q5 q6 X5 Y5
            cases rO with
            | false =>
              have HF : Hid (rr = false) := by show _ = _; rw [HD2.out]; rfl
              go_wp2_with fail
              go_ret
              exact ⟨ret_b (by rw [HF.out]), T6.out⟩
            | true =>
              have HF : Hid (rr = okIns x (j + 1) (x.ins.drop (j + 1))) := by show _ = _; rw [HD2.out]; rfl
              go_wp2_with fail
              go_roundw
              case rel => exact ⟨j + 1, by omega, by go_num, HF.out, Y6.out, T6.out⟩
              case measure => simp [intOf]; omega
      · have hwe : (opWord y.op).toList.isEmpty = true := by rw [opWord_none h9]; exact empty_true rfl
        have HF : Hid (rr = false) := by show _ = _; rw [HD.out]; simp [h9]
        have HT2 := Lib.hid (hbe.out.trans (B2.out.mono hsw))
        generalize opWord y.op = wd at CW hwe
        clear HD h9
        go_wp2_with fail
        rw [← HW2.out]
        refine (CW.out _).mono ?_
        rintro e w3 ⟨rfl, rfl⟩
        clear c0 c1 c2 c3 c4 c5 c6 p0 p1 p2 p3 p4
        go_wp2_with fail
        go_ret
        exact ⟨ret_b (by rw [HF.out]), HT2.out⟩
    · have HF : Hid (rr = true) := by show _ = _; rw [hrr.out, okIns_end (by have := HNL.out; omega)]
      go_wp2_with fail
      go_ret
      exact ⟨ret_b (by rw [HF.out]), hbe.out⟩
end Go.Proofs.YtmhhghdfgdhljaaGreatDoor.Trm
/- What an append reads, and the append's law over it. Without conditions beyond those of the law that it rests on. -/
namespace Go.Proofs.YtmhhghdfgdhljaaGreatDoor.Trm
open Go.RowKit Own
/-- What an append reads: nothing, or cells one behind the other. -/
def Src (w : World) (sa : Option Addr) (m sc : Nat) (ys : List Value) : Prop := (sa = none ∧ m = 0 ∧ sc = 0 ∧ ys = []) ∨ ∃ ad, sa = some ad ∧ ys.length = m ∧ ∀ j u, ys[j]? = some u → w.cell? (ad.add j) = some u
theorem Src.keep {w w' : World} {sa : Option Addr} {m sc : Nat} {ys : List Value} (h : Src w sa m sc ys) (hk : Keeps w w') : Src w' sa m sc ys := by
  rcases h with h | ⟨ad, h1, h2, h3⟩
  · exact .inl h
  · exact .inr ⟨ad, h1, h2, fun j u e => hk _ _ (h3 j u e)⟩
theorem moves_append {w w' : World} {v v' : Value} (hg : w.grownBy w' v.ownBlock) (h : v'.ownBlock = v.ownBlock ∨ v'.ownBlock = some w.heap.size) : Moves w v w' v' := by
  refine ⟨hg, ?_⟩
  rcases h with h | h
  · exact .inl h
  · exact .inr fun k hk => by rw [h] at hk; cases hk; exact Nat.le_refl _
theorem wpList_append_src {P : Program} {w : World} {ops : Array Oper} {rest : List Oper} {o : Oper} {a : Act} {Q : Exit → Act → World → Prop} (hgd : o.guard = none) (s x : Operand) (t : TypeId)
    (ho : o.op = .call { callee := .builtin .append, args := #[s, x], argTypes := #[t, t] })
    (base : Nat) (e : TypeId) (i : TypeInfo) (z : Value) (bytes : Nat) (ht : P.underlying t = some (.slice e)) (hi : P.info? e = some i) (hz : i.zero = some z)
    (hsize : i.size = 1) (hby : i.bytes = bytes) (hzs : z.cells.size = 1)
    (v : Value) (n : Nat) (xs : List Value) (hs : a.eval s = v) (hown : w.ownsRow base e 1 v n xs)
    (sa : Option Addr) (m sc : Nat) (ys : List Value) (hx : a.eval x = .slice sa m sc) (hsrc : Src w sa m sc ys) (h1 : ∀ u ∈ ys, u.oneCell' = true)
    (h63 : n + m ≤ maxLen) (hbytes : (n + m) * bytes ≤ 140737488355328) (hbase : base ≤ w.heap.size)
    (h : ∀ v' w', w'.ownsRow base e 1 v' (n + m) (xs ++ ys) → Moves w v w' v' → wpList P ops Q rest (a.put o.dst v') w') : wpList P ops Q (o :: rest) a w := by
  rcases hsrc with ⟨rfl, rfl, rfl, rfl⟩ | ⟨ad, rfl, hl, hc⟩
  · exact wpList_append_own_none hgd s x t ho base e i 1 ht hi v n xs hs hown hx (h v w (by simpa using hown) (Moves.refl _ _))
  · exact wpList_append_own_at w hgd s x t ho base e i z 1 bytes ht hi hz hsize hby hzs (by decide) v n xs hs hown ad m sc ys hx (by simpa using hl) hc h1 h63 hbytes hbase fun v' w' a1 a2 _ a4 => h v' w' a1 (moves_append a2 a4)
end Go.Proofs.YtmhhghdfgdhljaaGreatDoor.Trm
/- The laws' helpers over lists of texts and of numbers, walked: compared. Conditions: the lists lie in memory. -/
namespace Go.Proofs.YtmhhghdfgdhljaaGreatDoor.Trm
open Go.RowKit Own
theorem infoStrL : (Tryz.prog.info? 9).map (fun i => (i.zero, i.size, i.bytes)) = some (some (.string ⟨#[]⟩), 1, 16) := by kernel_rfl
theorem infoIntL : (Tryz.prog.info? 3).map (fun i => (i.zero, i.size, i.bytes)) = some (some (.int .i64 0), 1, 8) := by kernel_rfl
theorem below_noneL {w w' : World} (h : w.grownBy w' none) : Below w.heap.size w w' := ⟨h.os, h.tape, h.output, h.size, fun k hk => h.block k hk (by simp)⟩
theorem set_mid (ys : List Value) (z : Value) (zs : List Value) (u : Value) (j : Nat) (h : ys.length = j) : (ys ++ z :: zs).set j u = (ys ++ [u]) ++ zs := by
  subst h
  rw [List.set_append_right _ _ (Nat.le_refl _), Nat.sub_self, List.set_cons_zero]
  simp
set_option maxHeartbeats 400000 in
theorem eqStrs_at (u v : Value) (ss : List ByteArray) (w : World) (h1 : StrsAt w ss u) (h2 : StrsAt w ss v) :
    Calls Tryz.prog 56 #[u, v] w fun e w' => e = .returned (.bool true) ∧ Below w.heap.size w w' := by
  obtain ⟨a1, c1, rfl, hm, ha1⟩ := h1
  obtain ⟨a2, c2, rfl, _, ha2⟩ := h2
  have HA1 := Lib.hid ha1
  have HA2 := Lib.hid ha2
  clear ha1 ha2
  go_enter Tryz.func56, Tryz.ntmps56
  go_wp2
  go_loopw [5] (fun i wr => ∃ k m : Nat, k ≤ ss.length ∧ i = .int .i64 k ∧ wr = w.drewN m)
    (fun i _ => ss.length - (intOf i).toNat)
  case atStart => exact ⟨0, 0, Nat.zero_le _, rfl, (World.drewN_zero _).symm⟩
  case round =>
    obtain ⟨k, m, hk, rfl, rfl⟩ := hrel
    by_cases hlt : k < ss.length
    · obtain ⟨g1, o1, rfl, q1⟩ := HA1.out (by omega)
      obtain ⟨g2, o2, rfl, q2⟩ := HA2.out (by omega)
      have d1 := q1 k hlt
      have d2 := q2 k hlt
      clear q1 q2
      go_wp2
      go_quiet (fail)
      go_wp2
      go_roundw
      case rel => exact ⟨k + 1, m + nq, by omega, by go_num, rfl⟩
      case measure => simp [intOf]; omega
    · go_wp2
      go_ret
      exact ⟨rfl, below_drewN (Below.refl _ _) _⟩
end Go.Proofs.YtmhhghdfgdhljaaGreatDoor.Trm
/- The laws' helpers over lists of texts and of numbers, walked: counted, copied, compared. Conditions: the lists lie in memory; they have at most 2 to the 20 elements. -/
namespace Go.Proofs.YtmhhghdfgdhljaaGreatDoor.Trm
open Go.RowKit Own
set_option maxHeartbeats 400000 in
theorem toStrings_any (ns : List ByteArray) (v : Value) (w : World) (hl : StrsAt w ns v) (hz : ns.length ≤ 1048576) :
    Calls Tryz.prog 54 #[v] w fun e w' => ∃ v', e = .returned v' ∧ w'.ownsRow w.heap.size 9 1 v' ns.length (strV ns) ∧ Below w.heap.size w w' := by
  obtain ⟨i0, hi, hz0, hz1, hz2⟩ := info_parts infoStrL
  obtain ⟨a, cap, rfl, h1, h2⟩ := hl
  have HK := Lib.hid h2
  clear h2
  go_enter Tryz.func54, Tryz.ntmps54
  go_wp2_with (at_make; refine wpList_make_full _ rfl (.tmp 6) (.tmp 6) 24 rfl w.heap.size 9 i0 _ 1 Tryz.underlying24 hi hz0 hz1 .i64 .i64 _ _ ns.length rfl rfl rfl rfl (by rw [hz2]; omega) (by unfold maxLen; omega) (Nat.le_refl _) ?_)
  intro w1 hown hg
  have HO := Lib.hid hown
  have HG := Lib.hid hg
  clear hown hg
  go_wp2
  go_loopw [4] (fun i wr => ∃ (k : Nat) (zs : List Value), k ≤ ns.length ∧ i = .int .i64 k ∧ Hid (wr.ownsRow w.heap.size 9 1 (.slice (some ⟨w.heap.size, 0, none⟩) ns.length ns.length) ns.length (strV (ns.take k) ++ zs)) ∧ Hid (Below w.heap.size w wr))
    (fun i _ => ns.length - (intOf i).toNat)
  case atStart => exact ⟨0, _, Nat.zero_le _, rfl, HO.out, below_noneL HG.out⟩
  case round =>
    obtain ⟨k, zs, hk, rfl, hrow, hbe⟩ := hrel
    by_cases hlt : k < ns.length
    · obtain ⟨g, o, rfl, hc⟩ := HK.out (by omega)
      have c0 := keeps_below hbe.out _ _ (hc k hlt)
      have hls := hrow.out.1
      simp only [strV, List.length_append, List.length_map, List.length_take] at hls
      obtain ⟨z, zs2, rfl⟩ : ∃ z zs2, zs = z :: zs2 := by
        cases zs with
        | nil => simp at hls; omega
        | cons z r => exact ⟨z, r, rfl⟩
      have f0 := hrow.out.frozenAt k
      obtain ⟨u0, s0⟩ : ∃ u, wr.cell? ⟨w.heap.size, k, none⟩ = some u := ⟨_, (hrow.out.cellAt k (by omega)).trans (List.getElem?_eq_getElem (by rw [hrow.out.1]; omega))⟩
      obtain ⟨hr2, hg2⟩ := hrow.out.stored k (.string ns[k])
      rw [set_mid _ _ _ _ k (by simp [strV]; omega)] at hr2
      have HR2 : Hid ((wr.setCell ⟨w.heap.size, k, none⟩ (.string ns[k])).ownsRow w.heap.size 9 1 (.slice (some ⟨w.heap.size, 0, none⟩) ns.length ns.length) ns.length (strV (ns.take (k + 1)) ++ zs2)) := by
        have e : strV (ns.take (k + 1)) = strV (ns.take k) ++ [Value.string ns[k]] := by rw [List.take_succ_eq_append_getElem hlt]; simp only [strV, List.map_append, List.map_cons, List.map_nil]
        rw [e]
        exact hr2
      have HB2 := Lib.hid (hbe.out.grown hg2 hbe.out.size (fun b hb => by cases hb; exact Nat.le_refl _))
      clear hc hls hr2 hg2
      go_wp2
      go_roundw
      case rel => exact ⟨k + 1, zs2, by omega, by go_num, HR2, HB2⟩
      case measure => simp [intOf]; omega
    · obtain rfl : k = ns.length := by omega
      have h1 := hrow.out
      rw [List.take_length] at h1
      have hz : zs = [] := by have := h1.1; simpa [strV] using this
      rw [hz, List.append_nil] at h1
      have H1 := Lib.hid h1
      clear h1 hz
      go_wp2
      go_ret
      exact ⟨_, rfl, H1.out, hbe.out⟩
def szB (ss : List ByteArray) : Nat := (ss.map (·.size)).sum
theorem szB_drop {ss : List ByteArray} {i : Nat} (h : i < ss.length) : szB (ss.drop i) = ss[i].size + szB (ss.drop (i + 1)) := by unfold szB; rw [List.drop_eq_getElem_cons h, List.map_cons, List.sum_cons]
theorem szB_end {ss : List ByteArray} {i : Nat} (h : ss.length ≤ i) : szB (ss.drop i) = 0 := by rw [List.drop_of_length_le h]; rfl
set_option maxHeartbeats 400000 in
theorem szStrings_any (ss : List ByteArray) (v : Value) (w : World) (a : Nat) (ha : a ≤ 1048576) (h1 : StrsAt w ss v) (hs : ∀ s, s ∈ ss → s.size ≤ 9223372036854775807) :
    Calls Tryz.prog 52 #[v, .int .i64 (a : Int)] w fun e w' => e = .returned (.int .i64 (leftR a (ss.length + szB ss))) ∧ w = w' := by
  obtain ⟨aa, cap, rfl, hm, ha1⟩ := h1
  have HA := Lib.hid ha1
  have HS0 := Lib.hid hs
  clear ha1 hs
  by_cases hb : a < ss.length
  · have HO := Lib.hid (leftR_no (a := a) (n := ss.length + szB ss) (by omega))
    go_enter Tryz.func52, Tryz.ntmps52
    go_wp2
    go_ret
    exact ⟨by rw [HO.out]; rfl, rfl⟩
  · go_enter Tryz.func52, Tryz.ntmps52
    go_wp2
    go_loop [1, 5] (fun x i => ∃ (k b : Nat), k ≤ ss.length ∧ b ≤ 1048576 ∧ i = .int .i64 k ∧ x = .int .i64 b ∧ Hid (leftR a (ss.length + szB ss) = leftR b (szB (ss.drop k))))
      (fun _ i => ss.length - (intOf i).toNat)
    case atStart => exact ⟨0, a - ss.length, Nat.zero_le _, by omega, rfl, by go_num, leftR_step (by omega)⟩
    case round =>
      obtain ⟨k, b, hk, hb2, rfl, rfl, hsz⟩ := hrel
      by_cases hlt : k < ss.length
      · obtain ⟨g, o, rfl, q1⟩ := HA.out (by omega)
        have d1 := q1 k hlt
        have hz := HS0.out _ (List.getElem_mem hlt)
        have hd := szB_drop hlt
        clear q1
        by_cases hle : ss[k].size ≤ b
        · have HS : Hid (leftR a (ss.length + szB ss) = leftR (b - ss[k].size) (szB (ss.drop (k + 1)))) := by
            show leftR a (ss.length + szB ss) = _
            rw [hsz.out, hd]; exact leftR_step hle
          clear hd
          go_wp2
          go_round
          case rel => exact ⟨k + 1, b - ss[k].size, by omega, by omega, by go_num, by go_num, HS⟩
          case measure => simp [intOf]; omega
        · have HS : Hid (leftR a (ss.length + szB ss) = -1) := by
            show leftR a (ss.length + szB ss) = _
            rw [hsz.out, hd]; exact leftR_no (by omega)
          clear hd
          go_wp2
          go_ret
          exact ⟨by rw [HS.out]; rfl, rfl⟩
      · have HS : Hid (leftR a (ss.length + szB ss) = (b : Int)) := by
          show leftR a (ss.length + szB ss) = _
          rw [hsz.out, szB_end (by omega), leftR_yes (by omega)]; rfl
        go_wp2
        go_ret
        exact ⟨by rw [HS.out]; rfl, rfl⟩
end Go.Proofs.YtmhhghdfgdhljaaGreatDoor.Trm
/- Rows of numbers copied and compared by the laws, walked. Conditions: they lie in memory. -/
namespace Go.Proofs.YtmhhghdfgdhljaaGreatDoor.Trm
open Go.RowKit Own
set_option maxHeartbeats 400000 in
theorem toInts_any (ns : List Int) (v : Value) (w : World) (hl : IntsAt w ns v) (hz : ns.length ≤ 1048576) :
    Calls Tryz.prog 69 #[v] w fun e w' => ∃ v', e = .returned v' ∧ w'.ownsRow w.heap.size 3 1 v' ns.length (intV ns) ∧ Below w.heap.size w w' := by
  obtain ⟨i0, hi, hz0, hz1, hz2⟩ := info_parts infoIntL
  obtain ⟨a, cap, rfl, h1, _, h2⟩ := hl
  have HK := Lib.hid h2
  clear h2
  go_enter Tryz.func69, Tryz.ntmps69
  go_wp2_with (at_make; refine wpList_make_full _ rfl (.tmp 6) (.tmp 6) 29 rfl w.heap.size 3 i0 _ 1 Tryz.underlying29 hi hz0 hz1 .i64 .i64 _ _ ns.length rfl rfl rfl rfl (by rw [hz2]; omega) (by unfold maxLen; omega) (Nat.le_refl _) ?_)
  intro w1 hown hg
  have HO := Lib.hid hown
  have HG := Lib.hid hg
  clear hown hg
  go_wp2
  go_loopw [4] (fun i wr => ∃ (k : Nat) (zs : List Value), k ≤ ns.length ∧ i = .int .i64 k ∧ Hid (wr.ownsRow w.heap.size 3 1 (.slice (some ⟨w.heap.size, 0, none⟩) ns.length ns.length) ns.length (intV (ns.take k) ++ zs)) ∧ Hid (Below w.heap.size w wr))
    (fun i _ => ns.length - (intOf i).toNat)
  case atStart => exact ⟨0, _, Nat.zero_le _, rfl, HO.out, below_noneL HG.out⟩
  case round =>
    obtain ⟨k, zs, hk, rfl, hrow, hbe⟩ := hrel
    by_cases hlt : k < ns.length
    · obtain ⟨g, o, rfl, hc⟩ := HK.out (by omega)
      have c0 := keeps_below hbe.out _ _ (hc k hlt)
      have hls := hrow.out.1
      simp only [intV, List.length_append, List.length_map, List.length_take] at hls
      obtain ⟨z, zs2, rfl⟩ : ∃ z zs2, zs = z :: zs2 := by
        cases zs with
        | nil => simp at hls; omega
        | cons z r => exact ⟨z, r, rfl⟩
      have f0 := hrow.out.frozenAt k
      obtain ⟨u0, s0⟩ : ∃ u, wr.cell? ⟨w.heap.size, k, none⟩ = some u := ⟨_, (hrow.out.cellAt k (by omega)).trans (List.getElem?_eq_getElem (by rw [hrow.out.1]; omega))⟩
      obtain ⟨hr2, hg2⟩ := hrow.out.stored k (.int .i64 ns[k])
      rw [set_mid _ _ _ _ k (by simp [intV]; omega)] at hr2
      have HR2 : Hid ((wr.setCell ⟨w.heap.size, k, none⟩ (.int .i64 ns[k])).ownsRow w.heap.size 3 1 (.slice (some ⟨w.heap.size, 0, none⟩) ns.length ns.length) ns.length (intV (ns.take (k + 1)) ++ zs2)) := by
        have e : intV (ns.take (k + 1)) = intV (ns.take k) ++ [Value.int .i64 ns[k]] := by rw [List.take_succ_eq_append_getElem hlt]; simp only [intV, List.map_append, List.map_cons, List.map_nil]
        rw [e]
        exact hr2
      have HB2 := Lib.hid (hbe.out.grown hg2 hbe.out.size (fun b hb => by cases hb; exact Nat.le_refl _))
      clear hc hls hr2 hg2
      go_wp2
      go_roundw
      case rel => exact ⟨k + 1, zs2, by omega, by go_num, HR2, HB2⟩
      case measure => simp [intOf]; omega
    · obtain rfl : k = ns.length := by omega
      have h1 := hrow.out
      rw [List.take_length] at h1
      have hz : zs = [] := by have := h1.1; simpa [intV] using this
      rw [hz, List.append_nil] at h1
      have H1 := Lib.hid h1
      clear h1 hz
      go_wp2
      go_ret
      exact ⟨_, rfl, H1.out, hbe.out⟩
set_option maxHeartbeats 400000 in
theorem eqInts_at (u v : Value) (ss : List Int) (w : World) (h1 : IntsAt w ss u) (h2 : IntsAt w ss v) :
    Calls Tryz.prog 57 #[u, v] w fun e w' => e = .returned (.bool true) ∧ Below w.heap.size w w' := by
  obtain ⟨a1, c1, rfl, hm, _, ha1⟩ := h1
  obtain ⟨a2, c2, rfl, _, _, ha2⟩ := h2
  have HA1 := Lib.hid ha1
  have HA2 := Lib.hid ha2
  clear ha1 ha2
  go_enter Tryz.func57, Tryz.ntmps57
  go_wp2
  go_loopw [5] (fun i wr => ∃ k m : Nat, k ≤ ss.length ∧ i = .int .i64 k ∧ wr = w.drewN m)
    (fun i _ => ss.length - (intOf i).toNat)
  case atStart => exact ⟨0, 0, Nat.zero_le _, rfl, (World.drewN_zero _).symm⟩
  case round =>
    obtain ⟨k, m, hk, rfl, rfl⟩ := hrel
    by_cases hlt : k < ss.length
    · obtain ⟨g1, o1, rfl, q1⟩ := HA1.out (by omega)
      obtain ⟨g2, o2, rfl, q2⟩ := HA2.out (by omega)
      have d1 := q1 k hlt
      have d2 := q2 k hlt
      clear q1 q2
      go_wp2
      go_quiet (fail)
      go_wp2
      go_roundw
      case rel => exact ⟨k + 1, m + nq, by omega, by go_num, rfl⟩
      case measure => simp [intOf]; omega
    · go_wp2
      go_ret
      exact ⟨rfl, below_drewN (Below.refl _ _) _⟩
end Go.Proofs.YtmhhghdfgdhljaaGreatDoor.Trm
/- Rows of numbers put together and held against each other by the library, walked. Conditions: the rows lie in memory; each has at most 2 to the 20 numbers. -/
namespace Go.Proofs.YtmhhghdfgdhljaaGreatDoor.Trm
open Go.RowKit Own
theorem one_intV (ss : List Int) : ∀ u ∈ intV ss, u.oneCell' = true := by
  intro u hu
  obtain ⟨s, _, rfl⟩ := List.mem_map.1 hu
  rfl
theorem intV_append (a b : List Int) : intV (a ++ b) = intV a ++ intV b := by simp [intV]
theorem src_ints {w : World} {ns : List Int} {g o c : Nat} (h : IntsAt w ns (.slice (some ⟨g, o, none⟩) ns.length c)) (hp : 0 < ns.length) : Src w (some ⟨g, o, none⟩) ns.length c (intV ns) := by
  obtain ⟨a2, c2, e, _, _, h2⟩ := h
  simp at e
  obtain ⟨rfl, rfl⟩ := e
  obtain ⟨g2, o2, e2, h3⟩ := h2 hp
  cases e2
  refine .inr ⟨_, rfl, by simp [intV], fun j u hj => ?_⟩
  have hjl : j < ns.length := by
    have := (List.getElem?_eq_some_iff.1 hj).1
    simpa [intV] using this
  have e3 : u = .int .i64 ns[j] := by
    have := hj
    rw [List.getElem?_eq_getElem (by simpa [intV] using hjl)] at this
    simpa [intV] using this.symm
  subst e3
  have e4 : (⟨g, o, none⟩ : Addr).add j = ⟨g, o + j, none⟩ := by
    unfold Addr.add
    by_cases h0 : j = 0
    · rw [if_pos h0, h0, Nat.add_zero]
    · rw [if_neg h0]
  rw [e4]
  exact h3 j hjl
set_option maxRecDepth 20000 in
set_option maxHeartbeats 800000 in
theorem implGrowI_nil (n : Nat) (w : World) (hn : n ≤ 8000000) :
    Calls Tryz.prog 137 #[.slice none 0 0, .int .i64 (n : Int)] w fun e w' => ∃ ov, e = .returned ov ∧ w'.ownsRow w.heap.size 3 1 ov 0 [] ∧ w.grownBy w' none := by
  obtain ⟨i0, hi, hz0, hz1, hz2⟩ := info_parts infoIntL
  rcases Nat.eq_zero_or_pos n with h0 | h0
  · subst h0
    go_enter Tryz.func137, Tryz.ntmps137
    go_wp2
    go_ret
    exact ⟨_, rfl, ⟨rfl, .inl ⟨rfl, rfl⟩⟩, World.grownBy.refl _ _⟩
  · have hr := Lib.run_append_nil_zeros (P := Tryz.prog) w 29 3 29 3 i0 (.int .i64 0) .i64 .i64 Tryz.underlying29 (by kernel_rfl) hi hz0 n h0 (by omega) (by omega) (by rw [hz2]; omega)
    have hge := grownCap_ge w n 0 3
    have hle := grownCap_le_maxLen w n 0 3 (by unfold maxLen; omega)
    have HOW : Hid ((w.drew.alloc (.cells (Builtin.zeroCells (Value.int .i64 0).cells n ++ Builtin.zeroCells (Value.int .i64 0).cells (grownCap w n 0 3 - n)) 3)).ownsRow w.heap.size 3 1 (.slice (some ⟨w.heap.size, 0, none⟩) 0 (grownCap w n 0 3)) 0 []) := by
      refine ⟨rfl, .inr ⟨w.heap.size, _, _, rfl, Nat.le_refl _, heap_alloc_new w.drew _, Nat.zero_le _, hle, ?_, by simp⟩⟩
      simp only [Array.size_append, size_zeroCells]
      show n * 1 + (grownCap w n 0 3 - n) * 1 = grownCap w n 0 3 * 1
      omega
    have HG : Hid (w.grownBy (w.drew.alloc (.cells (Builtin.zeroCells (Value.int .i64 0).cells n ++ Builtin.zeroCells (Value.int .i64 0).cells (grownCap w n 0 3 - n)) 3)) none) := ⟨rfl, rfl, rfl, by simp, fun k hk _ => Below.heap_alloc w.drew _ k hk⟩
    have HR := Lib.hid hr
    have hp : (0 : Int) < (n : Int) := by omega
    generalize (w.drew.alloc (.cells (Builtin.zeroCells (Value.int .i64 0).cells n ++ Builtin.zeroCells (Value.int .i64 0).cells (grownCap w n 0 3 - n)) 3)) = w2 at HR HOW HG
    generalize grownCap w n 0 3 = cp at *
    clear hr hi hz0 hz1 hz2
    go_enter Tryz.func137, Tryz.ntmps137
    go_wp2_with (at_builtin; refine Lib.wpList_append_run _ rfl (.tmp 20) (.tmp 21) 29 3 rfl _ _ rfl rfl _ _ HR.out ?_)
    go_wp2
    go_ret
    exact ⟨_, rfl, HOW.out, HG.out⟩
def catI (xs ys : List Int) (j : Nat) : List Int := if j = 0 then [] else if j = 1 then xs else xs ++ ys
set_option maxRecDepth 20000 in
set_option maxHeartbeats 1600000 in
theorem implConcatI_any (xs ys : List Int) (a b : Option Addr) (ac bc g : Nat) (w : World) (ha : xs.length ≤ 1048576) (hb : ys.length ≤ 1048576)
    (c0 : w.cell? ⟨g, 0, none⟩ = some (.slice a xs.length ac)) (c1 : w.cell? ⟨g, 1, none⟩ = some (.slice b ys.length bc)) (sa : Src w a xs.length ac (intV xs)) (sb : Src w b ys.length bc (intV ys)) :
    Calls Tryz.prog 93 #[.slice (some ⟨g, 0, none⟩) 2 2] w fun e w' => ∃ ov, e = .returned ov ∧ w'.ownsRow w.heap.size 3 1 ov (xs ++ ys).length (intV (xs ++ ys)) ∧ Below w.heap.size w w' := by
  obtain ⟨i0, hi, hz0, hz1, hz2⟩ := info_parts infoIntL
  have CG := Lib.hid (implGrowI_nil (xs.length + ys.length) w (by omega))
  have HSA := Lib.hid (fun wx (hk : Below w.heap.size w wx) => sa.keep (keeps_below hk))
  have HSB := Lib.hid (fun wx (hk : Below w.heap.size w wx) => sb.keep (keeps_below hk))
  have HC := Lib.hid (fun wx (hk : Below w.heap.size w wx) => (⟨keeps_below hk _ _ c0, keeps_below hk _ _ c1⟩ : wx.cell? ⟨g, 0, none⟩ = some (.slice a xs.length ac) ∧ wx.cell? ⟨g, 1, none⟩ = some (.slice b ys.length bc)))
  have HA := Lib.hid ha
  have HB := Lib.hid hb
  clear sa sb
  go_enter Tryz.func93, Tryz.ntmps93
  go_wp2
  go_loopw [3, 11] (fun z i wr => ∃ j : Nat, j ≤ 2 ∧ i = .int .i64 j ∧ z = .int .i64 ((if j = 0 then 0 else if j = 1 then xs.length else xs.length + ys.length : Nat) : Int) ∧ wr = w)
    (fun _ i _ => 2 - (intOf i).toNat)
  case atStart => exact ⟨0, Nat.zero_le _, rfl, rfl, rfl⟩
  case round =>
    obtain ⟨j, hj, rfl, rfl, rfl⟩ := hrel
    rcases (by omega : j = 0 ∨ j = 1 ∨ j = 2) with rfl | rfl | rfl
    · go_wp2
      go_roundw
      case rel => exact ⟨1, by omega, by go_num, by go_num, by first | rfl | trivial⟩
      case measure => simp [intOf]
    · have hq : ¬ ((xs.length : Int) + (ys.length : Int) < 0) := by omega
      go_wp2
      go_roundw
      case rel => exact ⟨2, by omega, by go_num, by go_num, by first | rfl | trivial⟩
      case measure => simp [intOf]
    · obtain ⟨w1, hw1⟩ : ∃ w0, w0 = wr := ⟨_, rfl⟩
      subst hw1
      have e : ((xs.length + ys.length : Nat) : Int) = (xs.length : Int) + (ys.length : Int) := by omega
      rw [e] at CG
      clear e
      go_wp2_with fail
      refine CG.out.mono ?_
      rintro en w2 ⟨ov, rfl, hr2, hg2⟩
      have HR2 := Lib.hid hr2
      have HB2 : Hid (Below w1.heap.size w1 w2) := below_none hg2
      obtain ⟨va, vc, rfl, _⟩ := row_shape hr2
      clear hr2 hg2 c0 c1
      go_wp2_with fail
      go_loopw [6, 27] (fun o i wr => ∃ (j : Nat) (ls : List Int), j ≤ 2 ∧ i = .int .i64 j ∧ Hid (ls = catI xs ys j) ∧ Hid (wr.ownsRow w1.heap.size 3 1 o ls.length (intV ls)) ∧ Hid (Below w1.heap.size w1 wr))
        (fun _ i _ => 2 - (intOf i).toNat)
      case atStart => exact ⟨0, [], Nat.zero_le _, rfl, rfl, HR2, HB2⟩
      case round =>
        obtain ⟨j, ls, hj, rfl, hls, hrow, hbe⟩ := hrel
        obtain ⟨oa, oc, rfl, _⟩ := row_shape hrow.out
        obtain ⟨d0, d1⟩ := HC.out _ hbe.out
        have hws : w1.heap.size ≤ wr.heap.size := hbe.out.size
        rcases (by omega : j = 0 ∨ j = 1 ∨ j = 2) with rfl | rfl | rfl
        · obtain rfl : ls = [] := hls.out
          go_wp2_with (at_builtin; refine wpList_append_src rfl (.tmp 31) (.tmp 32) 29 rfl w1.heap.size 3 i0 (.int .i64 0) 8 Tryz.underlying29 hi hz0 hz1 hz2 rfl (.slice oa 0 oc) 0 _ rfl hrow.out a xs.length ac (intV xs) rfl (HSA.out _ hbe.out) (one_intV _) (by unfold maxLen; omega) (by omega) hws ?_)
          intro o3 w3 hr3 hm3
          have HR3 : Hid (w3.ownsRow w1.heap.size 3 1 o3 xs.length (intV xs)) := by
            show World.ownsRow _ _ _ _ _ _ _
            simpa [intV] using hr3
          have HB3 := Lib.hid (hm3.below hbe.out hrow.out)
          clear hr3 hm3
          go_wp2_with fail
          go_roundw
          case rel => exact ⟨1, xs, by omega, by go_num, rfl, HR3, HB3⟩
          case measure => simp [intOf]
        · obtain rfl : ls = xs := hls.out
          go_wp2_with (at_builtin; refine wpList_append_src rfl (.tmp 31) (.tmp 32) 29 rfl w1.heap.size 3 i0 (.int .i64 0) 8 Tryz.underlying29 hi hz0 hz1 hz2 rfl (.slice oa ls.length oc) ls.length _ rfl hrow.out b ys.length bc (intV ys) rfl (HSB.out _ hbe.out) (one_intV _) (by unfold maxLen; omega) (by omega) hws ?_)
          intro o3 w3 hr3 hm3
          have HR3 : Hid (w3.ownsRow w1.heap.size 3 1 o3 (ls ++ ys).length (intV (ls ++ ys))) := by
            show World.ownsRow _ _ _ _ _ _ _
            rw [List.length_append, intV_append]
            exact hr3
          have HB3 := Lib.hid (hm3.below hbe.out hrow.out)
          clear hr3 hm3
          go_wp2_with fail
          go_roundw
          case rel => exact ⟨2, ls ++ ys, by omega, by go_num, rfl, HR3, HB3⟩
          case measure => simp [intOf]
        · obtain rfl : ls = xs ++ ys := hls.out
          obtain ⟨l, hl⟩ : ∃ l, l = xs ++ ys := ⟨_, rfl⟩
          rw [← hl] at hrow
          rw [← hl]
          have HL := Lib.hid hl
          have HR3 := hrow
          clear hl hls
          go_wp2_with fail
          go_ret
          exact ⟨_, rfl, by rw [← HL.out]; exact HR3.out, hbe.out⟩
set_option maxHeartbeats 400000 in
theorem implEqualI_any (xs ys : List Int) (u v : Value) (w : World) (h1 : IntsAt w xs u) (h2 : IntsAt w ys v) :
    Calls Tryz.prog 92 #[u, v] w fun e w' => e = .returned (.bool (decide (xs = ys))) ∧ Below w.heap.size w w' := by
  obtain ⟨a1, c1, rfl, hm, _, ha1⟩ := h1
  obtain ⟨a2, c2, rfl, hm2, _, ha2⟩ := h2
  have HT : Hid (xs = ys → decide (xs = ys) = true) := fun h => decide_eq_true h
  have HF : Hid (xs ≠ ys → decide (xs = ys) = false) := fun h => decide_eq_false h
  generalize decide (xs = ys) = rr at HT HF
  by_cases hl : xs.length = ys.length
  · have HL := Lib.hid hl
    obtain ⟨n, hn⟩ : ∃ n, n = ys.length := ⟨_, rfl⟩
    have HN := Lib.hid hn
    have HA1 : Hid (0 < n → ∃ g o, a1 = some ⟨g, o, none⟩ ∧ ∀ i (h : i < xs.length), w.cell? ⟨g, o + i, none⟩ = some (.int .i64 xs[i])) := fun h => ha1 (by omega)
    have HA2 : Hid (0 < n → ∃ g o, a2 = some ⟨g, o, none⟩ ∧ ∀ i (h : i < ys.length), w.cell? ⟨g, o + i, none⟩ = some (.int .i64 ys[i])) := fun h => ha2 (by omega)
    have hm3 : n ≤ 9223372036854775807 := by omega
    rw [hl, ← hn]
    clear hl hn ha1 ha2 hm hm2
    go_enter Tryz.func92, Tryz.ntmps92
    go_wp2
    go_loopw [13] (fun i wr => ∃ k m : Nat, k ≤ n ∧ i = .int .i64 k ∧ Hid (∀ q (h : q < xs.length) (h2 : q < ys.length), q < k → xs[q] = ys[q]) ∧ wr = w.drewN m)
      (fun i _ => n - (intOf i).toNat)
    case atStart => exact ⟨0, 0, Nat.zero_le _, rfl, fun q _ _ h => by omega, (World.drewN_zero _).symm⟩
    case round =>
      obtain ⟨k, m, hk, rfl, hsame, rfl⟩ := hrel
      by_cases hlt : k < n
      · obtain ⟨g1, o1, rfl, q1⟩ := HA1.out (by omega)
        obtain ⟨g2, o2, rfl, q2⟩ := HA2.out (by omega)
        have hk1 : k < xs.length := by have := HL.out; have := HN.out; omega
        have hk2 : k < ys.length := by have := HN.out; omega
        have d1 := q1 k hk1
        have d2 := q2 k hk2
        clear q1 q2
        by_cases he : xs[k] = ys[k]
        · have HS : Hid (∀ q (h : q < xs.length) (h2 : q < ys.length), q < k + 1 → xs[q] = ys[q]) := fun q h h2 h3 => by
            rcases Nat.lt_or_ge q k with h4 | h4
            · exact hsame.out q h h2 h4
            · obtain rfl : q = k := by omega
              exact he
          rw [he] at d1
          clear he
          go_wp2
          go_quiet (fail)
          go_wp2
          go_roundw
          case rel => exact ⟨k + 1, m + nq, by omega, by go_num, HS, rfl⟩
          case measure => simp [intOf]; omega
        · have HR : Hid (rr = false) := HF.out (fun h => he (by subst h; rfl))
          have hq := ne_true he
          clear he
          go_wp2
          go_quiet (fail)
          go_wp2
          go_ret
          exact ⟨by rw [HR.out]; rfl, below_drewN (below_drewN (Below.refl _ _) _) _⟩
      · have HR : Hid (rr = true) := HT.out (List.ext_getElem HL.out (fun q h h2 => hsame.out q h h2 (by have := HN.out; omega)))
        go_wp2
        go_ret
        exact ⟨by rw [HR.out]; rfl, below_drewN (Below.refl _ _) _⟩
  · have HR : Hid (rr = false) := HF.out (fun h => hl (by rw [h]))
    have hq : ((xs.length : Int) == (ys.length : Int)) = false := by rw [beq_eq_false_iff_ne]; omega
    have hq2 : ¬ (xs.length : Int) = (ys.length : Int) := by omega
    clear hl ha1 ha2
    go_enter Tryz.func92, Tryz.ntmps92
    go_wp2
    go_ret
    exact ⟨by rw [HR.out]; rfl, Below.refl _ _⟩
end Go.Proofs.YtmhhghdfgdhljaaGreatDoor.Trm
