/- The program's ReadDecimal, walked. Conditions: the text is of at most 2 to the 20 bytes; the library's listed variables hold what the text lays in them. -/
import Derived.Test.YtiaekohncfepbaaDoorDecimalImpl
import Derived.Test.YtiaekohncfepbaaDoorReadMath
import Derived.Test.YtiaekohncfepbaaDoorAtoi
import Derived.Lib.Hide
import Derived.Lib.SmallJoins
import Derived.Outline
namespace Go.Proofs.YtiaekohncfepbaaDoor.Reads
open Go.RowKit Own Decimals
/-- The two errors of the library's are interface values that are not nil. -/
def Errs (w : World) : Prop := (∃ tp p, w.var? Tryd.prog "strconv.ErrSyntax" = some #[.iface tp p]) ∧ ∃ tp p, w.var? Tryd.prog "strconv.ErrRange" = some #[.iface tp p]
theorem gSyn : Tryd.prog.globalNamed "strconv.ErrSyntax" = some 1 := by kernel_rfl
theorem gRan : Tryd.prog.globalNamed "strconv.ErrRange" = some 2 := by kernel_rfl
theorem var_size {w : World} {n : String} {g : Nat} {cs : Array Value} (hg : Tryd.prog.globalNamed n = some g) (h : w.var? Tryd.prog n = some cs) : g < w.heap.size := by
  unfold World.var? at h
  rw [hg] at h
  simp only [Option.bind_some] at h
  rcases Nat.lt_or_ge g w.heap.size with h' | h'
  · exact h'
  · rw [Array.getElem?_eq_none h'] at h; simp at h
theorem Errs.below {w w' : World} (h : Errs w) (hb : Below w.heap.size w w') : Errs w' := by
  obtain ⟨⟨t1, p1, h1⟩, ⟨t2, p2, h2⟩⟩ := h
  exact ⟨⟨t1, p1, var?_below hb gSyn (var_size gSyn h1) h1⟩, ⟨t2, p2, var?_below hb gRan (var_size gRan h2) h2⟩⟩
/-- strconv.Atoi: the number, or some error. -/
theorem atoi_any (s : ByteArray) (w : World) (hm : s.size ≤ 1048576) (he : Errs w) :
    Calls Tryd.prog 16 #[.string s] w fun e w' => Below w.heap.size w w' ∧
      ((∃ v, Lib.atoiAll s.data.toList = .ok v ∧ e = .returned (.tuple #[.int .i64 v, .nilIface])) ∨ ((∀ v, Lib.atoiAll s.data.toList ≠ .ok v) ∧ ∃ v t p, e = .returned (.tuple #[.int .i64 v, .iface t p]))) := by
  obtain ⟨⟨t1, p1, h1⟩, ⟨t2, p2, h2⟩⟩ := he
  rcases hA : Lib.atoiAll s.data.toList with v | _ | _
  · refine (Tryd.strconv_Atoi_ok s (by omega) v hA w).mono ?_
    rintro e w' ⟨rfl, h⟩
    refine ⟨?_, .inl ⟨v, rfl, rfl⟩⟩
    rcases h with rfl | ⟨t, rfl⟩
    · exact Below.refl _ _
    · exact Joins.below_bytesWorld _ w _ t (Nat.le_refl _)
  · refine (Any.strconv_Atoi_syntax_var Tryd.laysC172 s (by omega) hA t1 p1 w h1).mono ?_
    rintro e w' ⟨N, rfl, _, _, hb⟩
    exact ⟨hb, .inr ⟨(fun v h => by cases h), _, _, _, rfl⟩⟩
  · refine (Any.strconv_Atoi_range_var Tryd.laysC172 s (by omega) hA t2 p2 w h2).mono ?_
    rintro e w' ⟨N, rfl, _, _, hb⟩
    exact ⟨hb, .inr ⟨(fun v h => by cases h), _, _, _, rfl⟩⟩
set_option maxHeartbeats 400000 in
theorem implRead_any (s : ByteArray) (w : World) (hs : s.size ≤ 1048576) (he : Errs w) (ht : Pows w) :
    Calls Tryd.prog 9 #[.string s] w fun e w' => e = outR (readN s.data.toList) ∧ Below w.heap.size w w' := by
  have HE := Lib.hid he
  have HT := Lib.hid ht
  clear he ht
  go_enter Tryd.func9, Tryd.ntmps9
  go_wp2_with fail
  refine (atoi_any s w hs HE.out).mono ?_
  rintro e w1 ⟨hb, ⟨v, hA, rfl⟩ | ⟨hN, v, t, p, rfl⟩⟩
  · have HB := Lib.hid hb
    have hbd := Lib.atoiAll_bounds hA
    have HR : Hid (∀ m, readN s.data.toList = some m → v = (m : Int)) := fun m h => by
      have := atoiAll_of_readN h
      rw [hA] at this
      injection this
    have HT1 := Lib.hid (HT.out.below hb)
    clear hb hA
    by_cases h0 : v < 0
    · have HN : Hid (readN s.data.toList = none) := by
        cases h : readN s.data.toList with
        | none => rfl
        | some m => have := HR.out m h; omega
      go_wp2
      go_ret2
      exact ⟨by rw [HN.out]; rfl, HB.out⟩
    · by_cases h1 : 1000000000 < v
      · have HN : Hid (readN s.data.toList = none) := by
          cases h : readN s.data.toList with
          | none => rfl
          | some m => have := HR.out m h; have := (readN_some h).2.1; omega
        go_wp2
        go_ret2
        exact ⟨by rw [HN.out]; rfl, HB.out⟩
      · obtain ⟨n, rfl⟩ : ∃ n : Nat, v = n := ⟨v.toNat, by omega⟩
        by_cases heq : Lib.itoa (n : Int) = s.data.toList
        · have HN : Hid (readN s.data.toList = some n) := by rw [← heq]; exact readN_of (by omega)
          have hq : (Lib.itoa (n : Int) == s.toList) = true := by rw [ByteArray.toList_eq]; simp [heq]
          clear heq
          go_wp2_with (go_at_call 6; refine (implDecimal_any _ _ (by omega) (by omega) HT1.out).mono ?_; rintro e w2 ⟨rfl, hb2⟩)
          go_ret2
          exact ⟨by rw [HN.out]; rfl, HB.out.trans (hb2.mono HB.out.size)⟩
        · have HN : Hid (readN s.data.toList = none) := by
            cases h : readN s.data.toList with
            | none => rfl
            | some m =>
              have e1 := HR.out m h
              have e2 := (readN_some h).2.2
              rw [← e1] at e2
              exact absurd e2 heq
          have hq : (Lib.itoa (n : Int) == s.toList) = false := by rw [ByteArray.toList_eq]; simp [heq]
          clear heq
          go_wp2_with (go_at_call 6; refine (implDecimal_any _ _ (by omega) (by omega) HT1.out).mono ?_; rintro e w2 ⟨rfl, hb2⟩)
          go_ret2
          exact ⟨by rw [HN.out]; rfl, HB.out.trans (hb2.mono HB.out.size)⟩
  · have HB := Lib.hid hb
    have HN : Hid (readN s.data.toList = none) := by
      cases h : readN s.data.toList with
      | none => rfl
      | some m => exact absurd (atoiAll_of_readN h) (hN _)
    clear hb hN
    go_wp2
    go_ret2
    exact ⟨by rw [HN.out]; rfl, HB.out⟩
end Go.Proofs.YtiaekohncfepbaaDoor.Reads
