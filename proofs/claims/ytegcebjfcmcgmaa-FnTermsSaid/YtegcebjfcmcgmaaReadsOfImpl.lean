/- The program's ReadsOf, walked. Conditions: the term lies in memory that is older than the list; it has at most 2 to the 20 kids and bytes. -/
import Derived.Test.YtegcebjfcmcgmaaWorkedImpl
import Derived.Test.YtegcebjfcmcgmaaRightSwitch
import Derived.Test.YtegcebjfcmcgmaaTermReads
namespace Go.Proofs.Ytegcebjfcmcgmaa.Trm
open Go.RowKit Own Lexs
/-! ### The terms within a right one -/
/-- What the method kids of a right term leaves. -/
def KidsOf (ks : List Tree) (w : World) (e : Ending) (w' : World) : Prop :=
  ∃ a, e = .returned (.slice a ks.length ks.length) ∧ Below w.heap.size w w' ∧ (0 < ks.length → ∃ g, a = some ⟨g, 0, none⟩ ∧ w.heap.size ≤ g ∧ ∀ i (h : i < ks.length), w'.cell? ⟨g, i, none⟩ = some (rtV ks[i]))
theorem kids_num (n : Int) (w : World) : Calls Try.prog 121 #[.agg #[.int .i64 n]] w (KidsOf [] w) := by
  go_enter Try.func121, Try.ntmps121
  go_wp2
  go_ret
  exact ⟨none, rfl, (Below.refl _ _).alloc (Nat.le_refl _) _, fun h => by simp at h⟩
theorem kids_var (s : ByteArray) (w : World) : Calls Try.prog 122 #[.agg #[.string s]] w (KidsOf [] w) := by
  go_enter Try.func122, Try.ntmps122
  go_wp2
  go_ret
  exact ⟨none, rfl, (Below.refl _ _).alloc (Nat.le_refl _) _, fun h => by simp at h⟩
theorem kids_not (a : Tree) (w : World) : Calls Try.prog 123 #[.agg #[rtV a]] w (KidsOf [a] w) := by
  obtain ⟨ty, pv, hi⟩ := rtV_iface a
  have HI := Lib.hid hi
  rw [hi]
  clear hi
  go_enter Try.func123, Try.ntmps123
  go_wp2
  go_ret
  refine ⟨some ⟨w.heap.size + 1, 0, none⟩, rfl, ((Below.refl _ _).alloc (Nat.le_refl _) _).alloc (by simp) _, fun _ => ⟨_, rfl, by omega, fun i h => ?_⟩⟩
  obtain rfl : i = 0 := by simpa using h
  simp [go_sem, HI.out]
theorem kids_pair (k : Int) (a b : Tree) (w : World) : Calls Try.prog 124 #[.agg #[.int .i64 k, rtV a, rtV b]] w (KidsOf [a, b] w) := by
  obtain ⟨ty, pv, hi⟩ := rtV_iface a
  obtain ⟨ty2, pv2, hi2⟩ := rtV_iface b
  have HI := Lib.hid hi
  have HI2 := Lib.hid hi2
  rw [hi, hi2]
  clear hi hi2
  go_enter Try.func124, Try.ntmps124
  go_wp2
  go_ret
  refine ⟨some ⟨w.heap.size + 1, 0, none⟩, rfl, ((Below.refl _ _).alloc (Nat.le_refl _) _).alloc (by simp) _, fun _ => ⟨_, rfl, by omega, fun i h => ?_⟩⟩
  have h2 : i < 2 := h
  match i, h2 with
  | 0, _ => simp [go_sem, HI.out]
  | 1, _ => simp [go_sem, HI2.out]
theorem mth_num (W : World) (v : Value) : (method 285 108 v "loop.example/g00966/impl.kids").run Try.prog W = .ok (121, v) W := by kernel_rfl
theorem mth_var (W : World) (v : Value) : (method 285 110 v "loop.example/g00966/impl.kids").run Try.prog W = .ok (122, v) W := by kernel_rfl
theorem mth_not (W : World) (v : Value) : (method 285 116 v "loop.example/g00966/impl.kids").run Try.prog W = .ok (123, v) W := by kernel_rfl
theorem mth_pair (W : World) (v : Value) : (method 285 118 v "loop.example/g00966/impl.kids").run Try.prog W = .ok (124, v) W := by kernel_rfl
/-! ### The names -/
theorem implHas_yes (ns : List ByteArray) (s : ByteArray) (nv : Value) (w : World) (hn : StrsAt w ns nv) (h : s ∈ ns) :
    Calls Try.prog 79 #[nv, .string s] w fun e w' => e = .returned (.bool true) ∧ Hid (w' = w) := by
  have C := Lib.hid (implIndex_any ns s nv w hn)
  obtain ⟨na, nc, rfl, hn1, hn2⟩ := hn
  have HM := Lib.hid h
  clear hn2 h
  go_enter Try.func79, Try.ntmps79
  go_wp2_with fail
  refine C.out.mono ?_
  rintro e w1 ⟨x, rfl, hx, rfl⟩
  rcases hx with ⟨i, hi, rfl, he, hf⟩ | ⟨rfl, hf⟩
  · clear he hf
    go_wp2
    go_ret
    exact ⟨rfl, rfl⟩
  · obtain ⟨j, hj, e⟩ := List.mem_iff_getElem.1 HM.out
    exact absurd e (hf j hj)
theorem implHas_no (ns : List ByteArray) (s : ByteArray) (nv : Value) (w : World) (hn : StrsAt w ns nv) (h : ¬ s ∈ ns) :
    Calls Try.prog 79 #[nv, .string s] w fun e w' => e = .returned (.bool false) ∧ Hid (w' = w) := by
  have C := Lib.hid (implIndex_any ns s nv w hn)
  obtain ⟨na, nc, rfl, hn1, hn2⟩ := hn
  have HM := Lib.hid h
  clear hn2 h
  go_enter Try.func79, Try.ntmps79
  go_wp2_with fail
  refine C.out.mono ?_
  rintro e w1 ⟨x, rfl, hx, rfl⟩
  rcases hx with ⟨i, hi, rfl, he, hf⟩ | ⟨rfl, hf⟩
  · exact absurd (he ▸ List.getElem_mem hi) HM.out
  · clear hf
    go_wp2
    go_ret
    exact ⟨rfl, rfl⟩
/-- Cells of another block stay. -/
theorem Moves.cell {w w' : World} {v v' : Value} {g : Nat} (h : Moves w v w' v') (hg : g < w.heap.size) (hn : v.ownBlock ≠ some g) : (∀ i, w'.cell? ⟨g, i, none⟩ = w.cell? ⟨g, i, none⟩) ∧ v'.ownBlock ≠ some g := by
  have hb : w'.heap[g]? = w.heap[g]? := h.1.block g hg (fun e => hn e.symm)
  refine ⟨fun j => World.cell?_of_block hb, fun e => ?_⟩
  rcases h.2 with h2 | h2
  · exact hn (h2 ▸ e)
  · have := h2 g e; omega
theorem Moves.ofBelow {w w' : World} (h : Below w.heap.size w w') (v : Value) : Moves w v w' v := ⟨⟨h.os, h.tape, h.output, h.size, fun i hi _ => h.block i hi⟩, .inl rfl⟩
def ReadsI (t : Tree) : Prop := ∀ (ov : Value) (w0 w : World) (acc : List ByteArray) (r : Nat), rightB t r = true → acc.length + 1 + szT t ≤ 2000000 → Below w0.heap.size w0 w → w.ownsRow w0.heap.size 9 1 ov acc.length (strV acc) →
    Calls Try.prog 48 #[ov, rtV t] w fun e w' => ∃ ov', e = .returned ov' ∧ w'.ownsRow w0.heap.size 9 1 ov' (readsT t acc).length (strV (readsT t acc)) ∧ Moves w ov w' ov'
set_option maxHeartbeats 800000 in
/-- A right term that is no name: what is asked of its dynamic type stands among the hypotheses. -/
theorem readsI_more (ks : List Tree) (ih : ∀ t, t ∈ ks → ReadsI t) (ty : TypeId) (pv : Value) (kf : FuncId) (has : ∀ W, (Instr.typeAssert (.iface ty pv) 70 110 true).run Try.prog W = .ok (.tuple #[.agg #[.string ⟨#[]⟩], .bool false]) W)
    (hm : ∀ W, (method 285 ty pv "loop.example/g00966/impl.kids").run Try.prog W = .ok (kf, pv) W) (hcf : ∀ W, (callFunc kf #[pv]).run Try.prog W = .ok (.enter kf #[pv]) W) (hc : ∀ w, Calls Try.prog kf #[pv] w (KidsOf ks w)) (r : Nat) (hr : ∀ t, t ∈ ks → rightB t r = true)
    (ov : Value) (w0 w : World) (acc : List ByteArray) (ha : acc.length + ks.length + szS ks ≤ 2000000) (hbe : Below w0.heap.size w0 w) (hown : w.ownsRow w0.heap.size 9 1 ov acc.length (strV acc)) :
    Calls Try.prog 48 #[ov, .iface ty pv] w fun e w' => ∃ ov', e = .returned ov' ∧ w'.ownsRow w0.heap.size 9 1 ov' (readsL ks acc).length (strV (readsL ks acc)) ∧ Moves w ov w' ov' := by
  have HO := Lib.hid hown
  have HB := Lib.hid hbe
  have IH := Lib.hid ih
  have HC := Lib.hid hc
  have HRK := Lib.hid hr
  have HA := Lib.hid ha
  have hkl : ks.length ≤ 2000000 := by omega
  have hbs : w0.heap.size ≤ w.heap.size := hbe.size
  clear hown hbe ih hc hr ha
  go_enter Try.func48, Try.ntmps48
  go_wp2_with fail
  refine (HC.out _).mono ?_
  rintro e w1 ⟨ka, rfl, hb1, hk⟩
  have M1 := Lib.hid ((Moves.alloc w _ ov).trans (Moves.ofBelow hb1 ov))
  have R1 := Lib.hid (row_below (HO.out.alloc _) hb1)
  have HK : Hid (0 < ks.length → ∃ g, ka = some ⟨g, 0, none⟩ ∧ g < w1.heap.size ∧ ov.ownBlock ≠ some g ∧ ∀ i (h : i < ks.length), w1.cell? ⟨g, i, none⟩ = some (rtV ks[i])) := fun hp => by
    obtain ⟨g, rfl, hg, hcell⟩ := hk hp
    exact ⟨g, rfl, cell_lt (hcell 0 hp), fun e => by have := (HO.out.lt g e).2; simp at hg; omega, hcell⟩
  clear hb1 hk
  go_wp2
  go_loopw [0, 30] (fun x i wr => ∃ (j : Nat) (ac : List ByteArray), j ≤ ks.length ∧ i = .int .i64 j ∧ Hid (readsL ks acc = readsL (ks.drop j) ac) ∧ Hid (ac.length + (ks.length - j) + szS (ks.drop j) ≤ 2000000) ∧ Hid (wr.ownsRow w0.heap.size 9 1 x ac.length (strV ac)) ∧ Hid (Moves w ov wr x) ∧ Hid (0 < ks.length → ∃ g, ka = some ⟨g, 0, none⟩ ∧ g < wr.heap.size ∧ x.ownBlock ≠ some g ∧ ∀ i (h : i < ks.length), wr.cell? ⟨g, i, none⟩ = some (rtV ks[i])))
    (fun _ i _ => ks.length - (intOf i).toNat)
  case atStart => exact ⟨0, acc, Nat.zero_le _, rfl, rfl, HA.out, R1.out, M1.out, HK.out⟩
  case round =>
    obtain ⟨j, ac, hj, rfl, hsz, hz, hrow, hmv, hkk⟩ := hrel
    by_cases hlt : j < ks.length
    · obtain ⟨g, rfl, hg, hn, hcell⟩ := hkk.out (by omega)
      have hbr := hmv.out.below HB.out HO.out
      have hd := szS_drop hlt
      have C := Lib.hid (IH.out ks[j] (List.getElem_mem hlt) u0 w0 wr ac r (HRK.out _ (List.getElem_mem hlt)) (by have := hz.out; omega) hbr hrow.out)
      have c0 := hcell j hlt
      obtain ⟨ty1, pv1, hi⟩ := rtV_iface ks[j]
      rw [hi] at c0 C
      have HN := Lib.hid hn
      have HC2 := Lib.hid hcell
      have HS : Hid (readsL ks acc = readsL (ks.drop (j + 1)) (readsT ks[j] ac)) := by show readsL ks acc = _; rw [hsz.out, List.drop_eq_getElem_cons hlt, readsL]
      have HZ2 : Hid ((readsT ks[j] ac).length + (ks.length - (j + 1)) + szS (ks.drop (j + 1)) ≤ 2000000) := by show _ ≤ _; have := hz.out; have := readsT_le ks[j] ac; omega
      clear hd hbr hi hn hcell
      go_wp2_with fail
      refine C.out.mono ?_
      rintro e w2 ⟨ov1, rfl, hrow1, hmv1⟩
      have HR1 := Lib.hid hrow1
      have HK1 : Hid (0 < ks.length → ∃ g', some (⟨g, 0, none⟩ : Addr) = some ⟨g', 0, none⟩ ∧ g' < w2.heap.size ∧ ov1.ownBlock ≠ some g' ∧ ∀ i (h : i < ks.length), w2.cell? ⟨g', i, none⟩ = some (rtV ks[i])) := fun _ => by
        obtain ⟨h1, h2⟩ := hmv1.cell hg HN.out
        exact ⟨g, rfl, Nat.lt_of_lt_of_le hg hmv1.1.size, h2, fun i h => (h1 i).trans (HC2.out i h)⟩
      have HM1 := Lib.hid (hmv.out.trans hmv1)
      clear hrow1 hmv1
      go_wp2
      go_roundw
      case rel => exact ⟨j + 1, readsT ks[j] ac, by omega, by go_num, HS, HZ2, HR1.out, HM1.out, HK1.out⟩
      case measure => simp [intOf]; omega
    · have HS : Hid (readsL ks acc = ac) := by show _ = _; rw [hsz.out, List.drop_of_length_le (by omega), readsL]
      go_wp2
      go_ret
      exact ⟨_, rfl, by rw [HS.out]; exact hrow.out, hmv.out⟩
theorem cf_num (v : Value) (W : World) : (callFunc 121 #[v]).run Try.prog W = .ok (.enter 121 #[v]) W := by kernel_rfl
theorem cf_not (v : Value) (W : World) : (callFunc 123 #[v]).run Try.prog W = .ok (.enter 123 #[v]) W := by kernel_rfl
theorem cf_pair (v : Value) (W : World) : (callFunc 124 #[v]).run Try.prog W = .ok (.enter 124 #[v]) W := by kernel_rfl
set_option maxHeartbeats 800000 in
theorem readsI_var (s : ByteArray) (ov : Value) (w0 w : World) (acc : List ByteArray) (ha : acc.length + 1 ≤ 2000000) (hbe : Below w0.heap.size w0 w) (hown : w.ownsRow w0.heap.size 9 1 ov acc.length (strV acc)) :
    Calls Try.prog 48 #[ov, .iface 110 (.agg #[.string s])] w fun e w' => ∃ ov', e = .returned ov' ∧ w'.ownsRow w0.heap.size 9 1 ov' (addN acc s).length (strV (addN acc s)) ∧ Moves w ov w' ov' := by
  obtain ⟨i0, hi, hz0, hz1, hz2⟩ := info_parts infoStrR
  obtain ⟨oa, oc, rfl, hoa⟩ := row_shape hown
  have HO := Lib.hid hown
  have hbs : w0.heap.size ≤ w.heap.size := hbe.size
  have as1 := as_var_var
  have m1 := mth_var
  clear hown hoa hbe
  by_cases hm : s ∈ acc
  · have HR : Hid (addN acc s = acc) := addN_in hm
    have C := Lib.hid (implHas_yes acc s (.slice oa acc.length oc) (w.alloc (.cells #[.string s] 110)) (strs_of_row (HO.out.alloc _)) hm)
    clear hm
    go_enter Try.func48, Try.ntmps48
    go_wp2_with fail
    refine C.out.mono ?_
    rintro e w1 ⟨rfl, hw1⟩
    have R1 : Hid (w1.ownsRow w0.heap.size 9 1 (.slice oa acc.length oc) acc.length (strV acc)) := by show World.ownsRow _ _ _ _ _ _ _; rw [hw1.out]; exact HO.out.alloc _
    have M1 : Hid (Moves w (.slice oa acc.length oc) w1 (.slice oa acc.length oc)) := by show Moves _ _ _ _; rw [hw1.out]; exact Moves.alloc _ _ _
    clear hw1
    go_wp2_with fail
    refine (kids_var s _).mono ?_
    rintro e w2 ⟨ka, rfl, hb2, _⟩
    have R2 := Lib.hid (row_below R1.out hb2)
    have M2 := Lib.hid (M1.out.trans (Moves.ofBelow hb2 _))
    clear hb2
    go_wp2
    go_loopw [0, 30] (fun x i wr => x = .slice oa acc.length oc ∧ i = .int .i64 0 ∧ wr = w2) (fun _ _ _ => 0)
    case atStart => exact ⟨rfl, rfl, rfl⟩
    case round =>
      obtain ⟨rfl, rfl, rfl⟩ := hrel
      go_wp2
      go_ret
      exact ⟨_, rfl, by rw [HR.out]; exact R2.out, M2.out⟩
  · have HR : Hid (addN acc s = acc ++ [s]) := addN_out hm
    have C := Lib.hid (implHas_no acc s (.slice oa acc.length oc) (w.alloc (.cells #[.string s] 110)) (strs_of_row (HO.out.alloc _)) hm)
    clear hm
    go_enter Try.func48, Try.ntmps48
    go_wp2_with fail
    refine C.out.mono ?_
    rintro e w1 ⟨rfl, hw1⟩
    have R1 : Hid (w1.ownsRow w0.heap.size 9 1 (.slice oa acc.length oc) acc.length (strV acc)) := by show World.ownsRow _ _ _ _ _ _ _; rw [hw1.out]; exact HO.out.alloc _
    have M1 : Hid (Moves w (.slice oa acc.length oc) w1 (.slice oa acc.length oc)) := by show Moves _ _ _ _; rw [hw1.out]; exact Moves.alloc _ _ _
    have p0 : w1.cell? ⟨w.heap.size, 0, none⟩ = some (.string s) := by rw [hw1.out]; simp [go_sem]
    clear hw1
    go_wp2_with (at_builtin; refine wpList_append_lies _ rfl (.tmp 22) (.tmp 25) 30 rfl w0.heap.size 9 i0 (.string ⟨#[]⟩) 1 16 Try.underlying30 hi hz0 hz1 hz2 rfl (by decide) (.slice oa acc.length oc) acc.length _ rfl (R1.out.alloc _) ⟨w1.heap.size, 0, none⟩ 1 1 [.string s] rfl rfl (World.news_of_block (heap_alloc_new _ _)) (one_textR _) (by decide) (by unfold maxLen; omega) (by omega) (by have := M1.out.1.size; simp; omega) _ rfl ?_)
    intro g1 cap1 w2 hown1 hg1 hat1 hlt1
    have R2 : Hid (w2.ownsRow w0.heap.size 9 1 (.slice (some ⟨g1, 0, none⟩) (acc.length + 1) cap1) (acc.length + 1) (strV (acc ++ [s]))) := by
      show World.ownsRow _ _ _ _ _ _ _
      simpa [strV] using hown1
    have M2 : Hid (Moves w (.slice oa acc.length oc) w2 (.slice (some ⟨g1, 0, none⟩) (acc.length + 1) cap1)) := by
      refine M1.out.trans ((Moves.alloc _ _ _).trans ⟨hg1, ?_⟩)
      rcases hat1 with h | h
      · exact .inl h.symm
      · exact .inr fun k hk => by cases hk; simp; omega
    clear hown1 hg1 hat1 hlt1 p0
    go_wp2_with fail
    refine (kids_var s _).mono ?_
    rintro e w3 ⟨ka, rfl, hb3, _⟩
    have R3 := Lib.hid (row_below R2.out hb3)
    have M3 := Lib.hid (M2.out.trans (Moves.ofBelow hb3 _))
    clear hb3
    go_wp2
    go_loopw [0, 30] (fun x i wr => x = .slice (some ⟨g1, 0, none⟩) (acc.length + 1) cap1 ∧ i = .int .i64 0 ∧ wr = w3) (fun _ _ _ => 0)
    case atStart => exact ⟨rfl, rfl, rfl⟩
    case round =>
      obtain ⟨rfl, rfl, rfl⟩ := hrel
      go_wp2
      go_ret
      exact ⟨_, rfl, by rw [HR.out]; simpa using R3.out, M3.out⟩
theorem right_noKids {k n : Int} {s : ByteArray} {ks : List Tree} {r : Nat} (h : rightB (.node k n s ks) r = true) (hk : k = 1 ∨ k = 2) : ks = [] := by
  rcases hk with rfl | rfl
  · rw [rightB, if_pos rfl] at h
    simp only [Bool.and_eq_true, decide_eq_true_eq] at h
    exact List.length_eq_zero_iff.1 h.2
  · rw [rightB, if_neg (by decide), if_pos rfl] at h
    simp only [Bool.and_eq_true, decide_eq_true_eq] at h
    exact List.length_eq_zero_iff.1 h.2
theorem implReads_any : ∀ t : Tree, ReadsI t := treeInd fun k n s ks ih ov w0 w acc r hr ha hbe hown => by
  by_cases h2 : k = 2
  · subst h2
    rw [rtV_var, readsT, if_pos rfl]
    exact readsI_var s ov w0 w acc (by omega) hbe hown
  · rw [readsT, if_neg h2]
    rw [szT] at ha
    by_cases h1 : k = 1
    · subst h1
      obtain rfl := right_noKids hr (.inl rfl)
      rw [rtV_num]
      exact readsI_more [] ih _ _ _ (fun W => as_num_var W _) (fun W => mth_num W _) (fun W => cf_num _ W) (fun w => kids_num n w) (r - 1) (fun t ht => by cases ht) ov w0 w acc (by omega) hbe hown
    · obtain ⟨hk3, hk9, hn0, hs0, hlen, _, hrk⟩ := right_parts hr h1 h2
      by_cases h8 : k = 8
      · subst h8
        have e1 : ks.length = 1 := by have : manyK 8 = 1 := rfl; omega
        rw [rtV_not (by omega)]
        match ks, e1 with
        | [a], _ => exact readsI_more [a] ih _ _ _ (fun W => as_not_var W _) (fun W => mth_not W _) (fun W => cf_not _ W) (fun w => kids_not a w) (r - 1) hrk ov w0 w acc (by omega) hbe hown
      · rw [many_other h8] at hlen
        have e2 : ks.length = 2 := by omega
        rw [rtV_pair h1 h2 h8 (by omega)]
        match ks, e2 with
        | [a, b], _ => exact readsI_more [a, b] ih _ _ _ (fun W => as_pair_var W _) (fun W => mth_pair W _) (fun W => cf_pair _ W) (fun w => kids_pair k a b w) (r - 1) hrk ov w0 w acc (by omega) hbe hown
set_option maxHeartbeats 400000 in
theorem implReadsOf_any (t : Tree) (v : Value) (w : World) (hl : Lies w t v) (hz : szT t ≤ 1048576) :
    Calls Try.prog 13 #[v] w fun e w' => ∃ ov, e = .returned ov ∧ w'.ownsRow w.heap.size 9 1 ov (readsOfT t).length (strV (readsOfT t)) ∧ Below w.heap.size w w' := by
  have C := Lib.hid (implRight_any t v (w.alloc (.cells v.cells 26)) 6 (by omega) (hl.keep (keeps_alloc _ _)))
  obtain ⟨aa, cap, rfl⟩ := hl.shape
  have X0 := Lib.hid (Box4.new w (.int .i64 t.kind) (.int .i64 t.num) (.string t.name) (.slice aa t.kids.length cap) 26)
  obtain ⟨p0, p1, p2, p3⟩ := X0.out
  obtain ⟨ty, pv, hi⟩ := rtV_iface t
  have HI := Lib.hid hi
  clear hl hi
  cases hb : rightB t 6 with
  | false =>
    have HR : Hid (readsOfT t = []) := by show _ = _; unfold readsOfT okB; rw [hb]; rfl
    unfold RightPost at C
    rw [hb] at C
    clear hb
    go_enter Try.func13, Try.ntmps13
    go_wp2_with fail
    refine C.out.mono ?_
    rintro e w1 ⟨x, rfl, _, hb1⟩
    have B1 := Lib.hid (below_box1 hb1)
    clear hb1
    go_wp2
    go_ret
    exact ⟨_, rfl, by rw [HR.out]; exact World.ownsRow_nil _ _ _ _, B1.out⟩
  | true =>
    have HR : Hid (readsOfT t = readsT t []) := by show _ = _; unfold readsOfT okB; rw [hb]; rfl
    have D := Lib.hid (fun w1 hbe => implReads_any t (.slice none 0 0) w w1 [] 6 hb (by simp; omega) hbe (World.ownsRow_nil _ _ _ _))
    rw [HI.out] at D
    unfold RightPost at C
    rw [hb, HI.out] at C
    clear hb
    go_enter Try.func13, Try.ntmps13
    go_wp2_with fail
    refine C.out.mono ?_
    rintro e w1 ⟨x, rfl, hx, hb1⟩
    obtain rfl : x = .iface ty pv := hx trivial
    have B1 := Lib.hid (below_box1 hb1)
    clear hb1 hx
    go_wp2_with fail
    refine (D.out _ B1.out).mono ?_
    rintro e w2 ⟨ov, rfl, hrow, hmv⟩
    have HRow := Lib.hid hrow
    have HB2 := Lib.hid (hmv.below B1.out (World.ownsRow_nil (size := 1) w1 w.heap.size 9))
    clear hrow hmv
    go_wp2
    go_ret
    exact ⟨_, rfl, by rw [HR.out]; exact HRow.out, HB2.out⟩
end Go.Proofs.Ytegcebjfcmcgmaa.Trm
