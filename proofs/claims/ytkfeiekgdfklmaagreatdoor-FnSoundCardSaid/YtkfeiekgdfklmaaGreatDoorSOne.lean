/- The model's l04One, walked: one statement, those within it aside. Conditions: it lies in memory; it has at most 2 millions within it. -/
import Derived.Test.YtkfeiekgdfklmaaGreatDoorChecked
import Derived.Test.YtkfeiekgdfklmaaGreatDoorSTrees
import Derived.Test.YtkfeiekgdfklmaaGreatDoorZeroT
import Derived.Test.YtkfeiekgdfklmaaGreatDoorTermSame
import Derived.Test.YtkfeiekgdfklmaaGreatDoorTermRight
import Derived.WalkSmall
import Derived.Outline
namespace Go.Proofs.YtkfeiekgdfklmaaGreatDoor.Trm
open Go.RowKit Own Lexs
def oneV (k : Int) (se r1 r2 r3 : Bool) (n m : Nat) : Bool :=
  if k = 1 then r1 && r2 && decide (n + m = 0) else if k = 2 then se && r2 else if k = 3 then se && r2 && decide (m = 0)
  else if k = 4 ∨ k = 5 ∨ k = 6 ∨ k = 7 then r1 && r3 && decide (n + m = 0) else if k = 8 then se && r3 && decide (n + m = 0) else false
def oneB : STree → Bool | .node k s t b e => oneV k (decide (s = ⟨#[]⟩)) (isNm s.data.toList) (okB t) (sameT t zT) b.length e.length
set_option maxHeartbeats 3200000 in
theorem specOne_any (x : STree) (v : Value) (w : World) (hz : x.body.length + x.els.length ≤ 2000000) (hu : SLies w x v) :
    Calls Tryz.prog 170 #[v] w fun en w' => en = .returned (.bool (oneB x)) ∧ Below w.heap.size w w' := by
  obtain ⟨k, s, t, b, e⟩ := x
  obtain ⟨h1, h2, h3, h4, ta, tc, ba, bc, ea, ec, rfl, h5, _, _⟩ := hu
  simp only [STree.body, STree.els] at hz
  have CN := Lib.hid (fun w => specIsName_any s w h2)
  have CO := Lib.hid (fun w hk => specTermOk_any t _ w (h5.keep hk))
  have CZ := Lib.hid (fun w hk => specSame_any t zT _ _ w (h5.keep hk) (zT_lies w))
  have X0 := Lib.hid (Box8.new w (.int .i64 k) (.string s) (.int .i64 t.kind) (.int .i64 t.num) (.string t.name) (.slice ta t.kids.length tc) (.slice ba b.length bc) (.slice ea e.length ec) 36)
  obtain ⟨r1, hr1⟩ : ∃ r, isNm s.data.toList = r := ⟨_, rfl⟩
  obtain ⟨r2, hr2⟩ : ∃ r, okB t = r := ⟨_, rfl⟩
  obtain ⟨r3, hr3⟩ : ∃ r, sameT t zT = r := ⟨_, rfl⟩
  have HV : Hid (oneB (.node k s t b e) = oneV k (decide (s = ⟨#[]⟩)) r1 r2 r3 b.length e.length) := by show _ = _; rw [oneB, hr1, hr2, hr3]
  rw [hr1] at CN
  rw [hr2] at CO
  rw [hr3] at CZ
  have hsum : IntKind.i64.wrap ((b.length : Int) + (e.length : Int)) = ((b.length + e.length : Nat) : Int) := by rw [IntWalk.i64_in _ (by omega)]; omega
  clear h1 h2 h5 hr1 hr2 hr3
  go_enter Tryz.func170, Tryz.ntmps170
  go_wp2_with fail
  refine (CZ.out _ (keeps_alloc _ _)).mono ?_
  rintro e1 w1 ⟨rfl, hb1⟩
  have K1 := Lib.hid ((keeps_alloc w _).trans (keeps_below hb1))
  have B1 := Lib.hid (below_box1 hb1)
  have X1 := Lib.hid (X0.out.keep (keeps_below hb1))
  obtain ⟨p0, p1, p2, p3, p4, p5, p6, p7⟩ := X1.out
  clear hb1
  by_cases hk1 : k = 1
  · subst hk1
    cases r1 with
    | false =>
      go_wp2_with fail
      refine (CN.out _).mono ?_
      rintro e2 w2 ⟨rfl, rfl⟩
      have HF : Hid (oneV 1 (decide (s = ⟨#[]⟩)) false r2 r3 b.length e.length = false) := by show _ = _; simp [oneV, *]
      go_wp2
      go_ret
      exact ⟨ret_b (by rw [HV.out, HF.out]), B1.out⟩
    | true =>
      go_wp2_with fail
      refine (CN.out _).mono ?_
      rintro e2 w2 ⟨rfl, rfl⟩
      go_wp2_with fail
      refine (CO.out _ K1.out).mono ?_
      rintro e3 w3 ⟨rfl, hb3⟩
      have B3 := Lib.hid (B1.out.trans (hb3.mono B1.out.size))
      have X3 := Lib.hid (X1.out.keep (keeps_below hb3))
      clear hb3 p0 p1 p2 p3 p4 p5 p6 p7
      obtain ⟨p0, p1, p2, p3, p4, p5, p6, p7⟩ := X3.out
      cases r2 with
      | false =>
        have HF : Hid (oneV 1 (decide (s = ⟨#[]⟩)) true false r3 b.length e.length = false) := by show _ = _; simp [oneV, *]
        go_wp2
        go_ret
        exact ⟨ret_b (by rw [HV.out, HF.out]), B3.out⟩
      | true =>
        by_cases hn : b.length + e.length = 0
        · have hd : decide (b.length + e.length = 0) = true := by simp only [hn]; rfl
          have hn0 : (((b.length : Int) + (e.length : Int)) == 0) = true := by simp only [beq_iff_eq]; omega
          clear hn
          have HF : Hid (oneV 1 (decide (s = ⟨#[]⟩)) true true r3 b.length e.length = true) := by show _ = _; simp only [oneV, hd]; simp
          go_wp2
          go_ret
          exact ⟨ret_b (by rw [HV.out, HF.out]), B3.out⟩
        · have hd : decide (b.length + e.length = 0) = false := decide_eq_false hn
          have hn0 : (((b.length : Int) + (e.length : Int)) == 0) = false := by rw [beq_eq_false_iff_ne]; omega
          clear hn
          have HF : Hid (oneV 1 (decide (s = ⟨#[]⟩)) true true r3 b.length e.length = false) := by show _ = _; simp only [oneV, hd]; simp
          go_wp2
          go_ret
          exact ⟨ret_b (by rw [HV.out, HF.out]), B3.out⟩
  by_cases hk2 : k = 2
  · subst hk2
    by_cases hs : s = ⟨#[]⟩
    · subst hs
      go_wp2_with fail
      refine (CO.out _ K1.out).mono ?_
      rintro e3 w3 ⟨rfl, hb3⟩
      have B3 := Lib.hid (B1.out.trans (hb3.mono B1.out.size))
      have X3 := Lib.hid (X1.out.keep (keeps_below hb3))
      clear hb3 p0 p1 p2 p3 p4 p5 p6 p7
      obtain ⟨p0, p1, p2, p3, p4, p5, p6, p7⟩ := X3.out
      cases r2 with
      | false =>
        have HF : Hid (oneV 2 (decide ((⟨#[]⟩ : ByteArray) = ⟨#[]⟩)) r1 false r3 b.length e.length = false) := by show _ = _; simp [oneV, *]
        go_wp2
        go_ret
        exact ⟨ret_b (by rw [HV.out, HF.out]), B3.out⟩
      | true =>
        have HF : Hid (oneV 2 (decide ((⟨#[]⟩ : ByteArray) = ⟨#[]⟩)) r1 true r3 b.length e.length = true) := by show _ = _; simp [oneV, *]
        go_wp2
        go_ret
        exact ⟨ret_b (by rw [HV.out, HF.out]), B3.out⟩
    · have hq := bytes_ne hs
      have hq1 : (s.toList == []) = false := by have hq2 := hq; rw [show (⟨#[]⟩ : ByteArray).toList = [] from by rw [ByteArray.toList, ByteArray.toList.loop]; rfl] at hq2; exact hq2
      have HF : Hid (oneV 2 (decide (s = ⟨#[]⟩)) r1 r2 r3 b.length e.length = false) := by show _ = _; simp [oneV, *]
      go_wp2
      go_ret
      exact ⟨ret_b (by rw [HV.out, HF.out]), B1.out⟩
  by_cases hk3 : k = 3
  · subst hk3
    by_cases hs : s = ⟨#[]⟩
    · subst hs
      go_wp2_with fail
      refine (CO.out _ K1.out).mono ?_
      rintro e3 w3 ⟨rfl, hb3⟩
      have B3 := Lib.hid (B1.out.trans (hb3.mono B1.out.size))
      have X3 := Lib.hid (X1.out.keep (keeps_below hb3))
      clear hb3 p0 p1 p2 p3 p4 p5 p6 p7
      obtain ⟨p0, p1, p2, p3, p4, p5, p6, p7⟩ := X3.out
      cases r2 with
      | false =>
        have HF : Hid (oneV 3 (decide ((⟨#[]⟩ : ByteArray) = ⟨#[]⟩)) r1 false r3 b.length e.length = false) := by show _ = _; simp [oneV, *]
        go_wp2
        go_ret
        exact ⟨ret_b (by rw [HV.out, HF.out]), B3.out⟩
      | true =>
        by_cases hn : e.length = 0
        · have hn0 : ((e.length : Nat) : Int) = 0 := by omega
          have HF : Hid (oneV 3 (decide ((⟨#[]⟩ : ByteArray) = ⟨#[]⟩)) r1 true r3 b.length e.length = true) := by show _ = _; simp [oneV, *]
          go_wp2
          go_ret
          exact ⟨ret_b (by rw [HV.out, HF.out]), B3.out⟩
        · have hn0 : ((e.length : Int) == 0) = false := by rw [beq_eq_false_iff_ne]; omega
          have HF : Hid (oneV 3 (decide ((⟨#[]⟩ : ByteArray) = ⟨#[]⟩)) r1 true r3 b.length e.length = false) := by show _ = _; simp [oneV, *]
          go_wp2
          go_ret
          exact ⟨ret_b (by rw [HV.out, HF.out]), B3.out⟩
    · have hq := bytes_ne hs
      have hq1 : (s.toList == []) = false := by have hq2 := hq; rw [show (⟨#[]⟩ : ByteArray).toList = [] from by rw [ByteArray.toList, ByteArray.toList.loop]; rfl] at hq2; exact hq2
      have HF : Hid (oneV 3 (decide (s = ⟨#[]⟩)) r1 r2 r3 b.length e.length = false) := by show _ = _; simp [oneV, *]
      go_wp2
      go_ret
      exact ⟨ret_b (by rw [HV.out, HF.out]), B1.out⟩
  by_cases hk4 : k = 4
  · subst hk4
    cases r1 with
    | false =>
      go_wp2_with fail
      refine (CN.out _).mono ?_
      rintro e2 w2 ⟨rfl, rfl⟩
      have HF : Hid (oneV 4 (decide (s = ⟨#[]⟩)) false r2 r3 b.length e.length = false) := by show _ = _; simp [oneV, *]
      go_wp2
      go_ret
      exact ⟨ret_b (by rw [HV.out, HF.out]), B1.out⟩
    | true =>
      go_wp2_with fail
      refine (CN.out _).mono ?_
      rintro e2 w2 ⟨rfl, rfl⟩
      cases r3 with
      | false =>
        have HF : Hid (oneV 4 (decide (s = ⟨#[]⟩)) true r2 false b.length e.length = false) := by show _ = _; simp [oneV, *]
        go_wp2
        go_ret
        exact ⟨ret_b (by rw [HV.out, HF.out]), B1.out⟩
      | true =>
        by_cases hn : b.length + e.length = 0
        · have hd : decide (b.length + e.length = 0) = true := by simp only [hn]; rfl
          have hn0 : (((b.length : Int) + (e.length : Int)) == 0) = true := by simp only [beq_iff_eq]; omega
          clear hn
          have HF : Hid (oneV 4 (decide (s = ⟨#[]⟩)) true r2 true b.length e.length = true) := by show _ = _; simp only [oneV, hd]; simp
          go_wp2
          go_ret
          exact ⟨ret_b (by rw [HV.out, HF.out]), B1.out⟩
        · have hd : decide (b.length + e.length = 0) = false := decide_eq_false hn
          have hn0 : (((b.length : Int) + (e.length : Int)) == 0) = false := by rw [beq_eq_false_iff_ne]; omega
          clear hn
          have HF : Hid (oneV 4 (decide (s = ⟨#[]⟩)) true r2 true b.length e.length = false) := by show _ = _; simp only [oneV, hd]; simp
          go_wp2
          go_ret
          exact ⟨ret_b (by rw [HV.out, HF.out]), B1.out⟩
  by_cases hk5 : k = 5
  · subst hk5
    cases r1 with
    | false =>
      go_wp2_with fail
      refine (CN.out _).mono ?_
      rintro e2 w2 ⟨rfl, rfl⟩
      have HF : Hid (oneV 5 (decide (s = ⟨#[]⟩)) false r2 r3 b.length e.length = false) := by show _ = _; simp [oneV, *]
      go_wp2
      go_ret
      exact ⟨ret_b (by rw [HV.out, HF.out]), B1.out⟩
    | true =>
      go_wp2_with fail
      refine (CN.out _).mono ?_
      rintro e2 w2 ⟨rfl, rfl⟩
      cases r3 with
      | false =>
        have HF : Hid (oneV 5 (decide (s = ⟨#[]⟩)) true r2 false b.length e.length = false) := by show _ = _; simp [oneV, *]
        go_wp2
        go_ret
        exact ⟨ret_b (by rw [HV.out, HF.out]), B1.out⟩
      | true =>
        by_cases hn : b.length + e.length = 0
        · have hd : decide (b.length + e.length = 0) = true := by simp only [hn]; rfl
          have hn0 : (((b.length : Int) + (e.length : Int)) == 0) = true := by simp only [beq_iff_eq]; omega
          clear hn
          have HF : Hid (oneV 5 (decide (s = ⟨#[]⟩)) true r2 true b.length e.length = true) := by show _ = _; simp only [oneV, hd]; simp
          go_wp2
          go_ret
          exact ⟨ret_b (by rw [HV.out, HF.out]), B1.out⟩
        · have hd : decide (b.length + e.length = 0) = false := decide_eq_false hn
          have hn0 : (((b.length : Int) + (e.length : Int)) == 0) = false := by rw [beq_eq_false_iff_ne]; omega
          clear hn
          have HF : Hid (oneV 5 (decide (s = ⟨#[]⟩)) true r2 true b.length e.length = false) := by show _ = _; simp only [oneV, hd]; simp
          go_wp2
          go_ret
          exact ⟨ret_b (by rw [HV.out, HF.out]), B1.out⟩
  by_cases hk6 : k = 6
  · subst hk6
    cases r1 with
    | false =>
      go_wp2_with fail
      refine (CN.out _).mono ?_
      rintro e2 w2 ⟨rfl, rfl⟩
      have HF : Hid (oneV 6 (decide (s = ⟨#[]⟩)) false r2 r3 b.length e.length = false) := by show _ = _; simp [oneV, *]
      go_wp2
      go_ret
      exact ⟨ret_b (by rw [HV.out, HF.out]), B1.out⟩
    | true =>
      go_wp2_with fail
      refine (CN.out _).mono ?_
      rintro e2 w2 ⟨rfl, rfl⟩
      cases r3 with
      | false =>
        have HF : Hid (oneV 6 (decide (s = ⟨#[]⟩)) true r2 false b.length e.length = false) := by show _ = _; simp [oneV, *]
        go_wp2
        go_ret
        exact ⟨ret_b (by rw [HV.out, HF.out]), B1.out⟩
      | true =>
        by_cases hn : b.length + e.length = 0
        · have hd : decide (b.length + e.length = 0) = true := by simp only [hn]; rfl
          have hn0 : (((b.length : Int) + (e.length : Int)) == 0) = true := by simp only [beq_iff_eq]; omega
          clear hn
          have HF : Hid (oneV 6 (decide (s = ⟨#[]⟩)) true r2 true b.length e.length = true) := by show _ = _; simp only [oneV, hd]; simp
          go_wp2
          go_ret
          exact ⟨ret_b (by rw [HV.out, HF.out]), B1.out⟩
        · have hd : decide (b.length + e.length = 0) = false := decide_eq_false hn
          have hn0 : (((b.length : Int) + (e.length : Int)) == 0) = false := by rw [beq_eq_false_iff_ne]; omega
          clear hn
          have HF : Hid (oneV 6 (decide (s = ⟨#[]⟩)) true r2 true b.length e.length = false) := by show _ = _; simp only [oneV, hd]; simp
          go_wp2
          go_ret
          exact ⟨ret_b (by rw [HV.out, HF.out]), B1.out⟩
  by_cases hk7 : k = 7
  · subst hk7
    cases r1 with
    | false =>
      go_wp2_with fail
      refine (CN.out _).mono ?_
      rintro e2 w2 ⟨rfl, rfl⟩
      have HF : Hid (oneV 7 (decide (s = ⟨#[]⟩)) false r2 r3 b.length e.length = false) := by show _ = _; simp [oneV, *]
      go_wp2
      go_ret
      exact ⟨ret_b (by rw [HV.out, HF.out]), B1.out⟩
    | true =>
      go_wp2_with fail
      refine (CN.out _).mono ?_
      rintro e2 w2 ⟨rfl, rfl⟩
      cases r3 with
      | false =>
        have HF : Hid (oneV 7 (decide (s = ⟨#[]⟩)) true r2 false b.length e.length = false) := by show _ = _; simp [oneV, *]
        go_wp2
        go_ret
        exact ⟨ret_b (by rw [HV.out, HF.out]), B1.out⟩
      | true =>
        by_cases hn : b.length + e.length = 0
        · have hd : decide (b.length + e.length = 0) = true := by simp only [hn]; rfl
          have hn0 : (((b.length : Int) + (e.length : Int)) == 0) = true := by simp only [beq_iff_eq]; omega
          clear hn
          have HF : Hid (oneV 7 (decide (s = ⟨#[]⟩)) true r2 true b.length e.length = true) := by show _ = _; simp only [oneV, hd]; simp
          go_wp2
          go_ret
          exact ⟨ret_b (by rw [HV.out, HF.out]), B1.out⟩
        · have hd : decide (b.length + e.length = 0) = false := decide_eq_false hn
          have hn0 : (((b.length : Int) + (e.length : Int)) == 0) = false := by rw [beq_eq_false_iff_ne]; omega
          clear hn
          have HF : Hid (oneV 7 (decide (s = ⟨#[]⟩)) true r2 true b.length e.length = false) := by show _ = _; simp only [oneV, hd]; simp
          go_wp2
          go_ret
          exact ⟨ret_b (by rw [HV.out, HF.out]), B1.out⟩
  by_cases hk8 : k = 8
  · subst hk8
    by_cases hs : s = ⟨#[]⟩
    · subst hs
      cases r3 with
      | false =>
        have HF : Hid (oneV 8 (decide ((⟨#[]⟩ : ByteArray) = ⟨#[]⟩)) r1 r2 false b.length e.length = false) := by show _ = _; simp [oneV, *]
        go_wp2
        go_ret
        exact ⟨ret_b (by rw [HV.out, HF.out]), B1.out⟩
      | true =>
        by_cases hn : b.length + e.length = 0
        · have hd : decide (b.length + e.length = 0) = true := by simp only [hn]; rfl
          have hn0 : (((b.length : Int) + (e.length : Int)) == 0) = true := by simp only [beq_iff_eq]; omega
          clear hn
          have HF : Hid (oneV 8 (decide ((⟨#[]⟩ : ByteArray) = ⟨#[]⟩)) r1 r2 true b.length e.length = true) := by show _ = _; simp only [oneV, hd]; simp
          go_wp2
          go_ret
          exact ⟨ret_b (by rw [HV.out, HF.out]), B1.out⟩
        · have hd : decide (b.length + e.length = 0) = false := decide_eq_false hn
          have hn0 : (((b.length : Int) + (e.length : Int)) == 0) = false := by rw [beq_eq_false_iff_ne]; omega
          clear hn
          have HF : Hid (oneV 8 (decide ((⟨#[]⟩ : ByteArray) = ⟨#[]⟩)) r1 r2 true b.length e.length = false) := by show _ = _; simp only [oneV, hd]; simp
          go_wp2
          go_ret
          exact ⟨ret_b (by rw [HV.out, HF.out]), B1.out⟩
    · have hq := bytes_ne hs
      have hq1 : (s.toList == []) = false := by have hq2 := hq; rw [show (⟨#[]⟩ : ByteArray).toList = [] from by rw [ByteArray.toList, ByteArray.toList.loop]; rfl] at hq2; exact hq2
      have HF : Hid (oneV 8 (decide (s = ⟨#[]⟩)) r1 r2 r3 b.length e.length = false) := by show _ = _; simp [oneV, *]
      go_wp2
      go_ret
      exact ⟨ret_b (by rw [HV.out, HF.out]), B1.out⟩
  have g1 : (k == 1) = false := by simp [hk1]
  have g2 : (k == 2) = false := by simp [hk2]
  have g3 : (k == 3) = false := by simp [hk3]
  have g4 : (k == 4) = false := by simp [hk4]
  have g5 : (k == 5) = false := by simp [hk5]
  have g6 : (k == 6) = false := by simp [hk6]
  have g7 : (k == 7) = false := by simp [hk7]
  have g8 : (k == 8) = false := by simp [hk8]
  have HF : Hid (oneV k (decide (s = ⟨#[]⟩)) r1 r2 r3 b.length e.length = false) := by show _ = _; simp [oneV, *]
  go_wp2
  go_ret
  exact ⟨ret_b (by rw [HV.out, HF.out]), B1.out⟩
end Go.Proofs.YtkfeiekgdfklmaaGreatDoor.Trm
