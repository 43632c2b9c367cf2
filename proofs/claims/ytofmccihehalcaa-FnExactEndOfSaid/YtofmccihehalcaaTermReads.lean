/- The model's ReadsOf, walked. Conditions: the term lies in memory that is older than the list; it has at most 2 to the 20 kids and bytes. -/
import Derived.Test.YtofmccihehalcaaChecked
import Derived.Test.YtofmccihehalcaaTermRight
import Derived.Test.YtofmccihehalcaaTermSize
import Derived.Test.YtofmccihehalcaaTermSame
import Derived.Test.YtofmccihehalcaaStrCells
import Derived.Test.YtofmccihehalcaaNamed
import Derived.Deep.AppendLies
import Derived.Deep.RegionWith
import Derived.BigQuiet
import Derived.OwnWalk
import Derived.WalkSmall
import Derived.Outline
namespace Go.Proofs.Ytofmccihehalcaa.Trm
open Go.RowKit Own
mutual
noncomputable def readsT : Tree → List ByteArray → List ByteArray
  | .node k _ s ks, acc => if k = 2 then addN acc s else readsL ks acc
noncomputable def readsL : List Tree → List ByteArray → List ByteArray
  | [], acc => acc
  | t :: ts, acc => readsL ts (readsT t acc)
end
mutual
theorem readsT_le : ∀ (t : Tree) (acc : List ByteArray), (readsT t acc).length ≤ acc.length + 1 + szT t
  | .node k n s ks, acc => by
    rw [readsT, szT]
    split
    · have := addN_le acc s; omega
    · have := readsL_le ks acc; omega
theorem readsL_le : ∀ (ks : List Tree) (acc : List ByteArray), (readsL ks acc).length ≤ acc.length + ks.length + szS ks
  | [], acc => by simp [readsL, szS]
  | t :: ts, acc => by
    rw [readsL, szS]
    have h1 := readsT_le t acc
    have h2 := readsL_le ts (readsT t acc)
    simp only [List.length_cons]
    omega
end
theorem Moves.box {w w' : World} {v v' : Value} {b : Nat} {c0 c1 c2 c3 : Value} (h : Moves w v w' v') (hx : Box4 w b c0 c1 c2 c3) (hn : v.ownBlock ≠ some b) : Box4 w' b c0 c1 c2 c3 ∧ v'.ownBlock ≠ some b := by
  have hlt : b < w.heap.size := cell_lt hx.1
  have hb : w'.heap[b]? = w.heap[b]? := h.1.block b hlt (fun e => hn e.symm)
  have hc : ∀ j, w'.cell? ⟨b, j, none⟩ = w.cell? ⟨b, j, none⟩ := fun j => World.cell?_of_block hb
  refine ⟨⟨(hc 0).trans hx.1, (hc 1).trans hx.2.1, (hc 2).trans hx.2.2.1, (hc 3).trans hx.2.2.2⟩, fun e => ?_⟩
  rcases h.2 with h2 | h2
  · exact hn (h2 ▸ e)
  · have := h2 b e; omega
def ReadsOk (t : Tree) : Prop := ∀ (v ov : Value) (w0 w : World) (acc : List ByteArray), acc.length + 1 + szT t ≤ 2000000 → Lies w0 t v → Below w0.heap.size w0 w → w.ownsRow w0.heap.size 9 1 ov acc.length (strV acc) →
    Calls Try.prog 55 #[v, ov] w fun e w' => ∃ ov', e = .returned ov' ∧ w'.ownsRow w0.heap.size 9 1 ov' (readsT t acc).length (strV (readsT t acc)) ∧ Moves w ov w' ov'
set_option maxHeartbeats 800000 in
theorem reads_var (n : Int) (s : ByteArray) (ks : List Tree) (v ov : Value) (w0 w : World) (acc : List ByteArray) (ha : acc.length + 1 + szT (.node 2 n s ks) ≤ 2000000) (hl : Lies w0 (.node 2 n s ks) v) (hbe : Below w0.heap.size w0 w) (hown : w.ownsRow w0.heap.size 9 1 ov acc.length (strV acc)) :
    Calls Try.prog 55 #[v, ov] w fun e w' => ∃ ov', e = .returned ov' ∧ w'.ownsRow w0.heap.size 9 1 ov' (readsT (.node 2 n s ks) acc).length (strV (readsT (.node 2 n s ks) acc)) ∧ Moves w ov w' ov' := by
  obtain ⟨i0, hi, hz0, hz1, hz2⟩ := info_parts infoStrR
  obtain ⟨h1, h2, h3, h4, aa, cap, rfl, h5⟩ := hl
  have HR : Hid (readsT (.node 2 n s ks) acc = addN acc s) := by show _ = _; rw [readsT, if_pos rfl]
  obtain ⟨oa, oc, rfl, hoa⟩ := row_shape hown
  have hlen : acc.length ≤ 2000000 := by omega
  have HO := Lib.hid hown
  have HA := Lib.hid hoa
  have X0 := Lib.hid (Box4.new w (.int .i64 2) (.int .i64 n) (.string s) (.slice aa ks.length cap) 55)
  have hbs : w0.heap.size ≤ w.heap.size := hbe.size
  clear h5 h1 h2 hown hoa ha hbe
  go_enter Try.func55, Try.ntmps55
  go_wp2
  go_loopw [5] (fun i wr => ∃ j : Nat, j ≤ acc.length ∧ i = .int .i64 j ∧ Hid (∀ i (h : i < acc.length), i < j → acc[i] ≠ s) ∧ Hid (wr.ownsRow w0.heap.size 9 1 (.slice oa acc.length oc) acc.length (strV acc)) ∧ Hid (Box4 wr w.heap.size (.int .i64 2) (.int .i64 n) (.string s) (.slice aa ks.length cap)) ∧ Hid (Moves w (.slice oa acc.length oc) wr (.slice oa acc.length oc)))
    (fun i _ => acc.length - (intOf i).toNat)
  case atStart => exact ⟨0, Nat.zero_le _, rfl, fun i _ h => by omega, HO.out.alloc _, X0.out, Moves.alloc _ _ _⟩
  case round =>
    obtain ⟨j, hj, rfl, hne, hrow, hx, hmv⟩ := hrel
    obtain ⟨p0, p1, p2, p3⟩ := hx.out
    by_cases hlt : j < acc.length
    · obtain ⟨g, rfl⟩ := HA.out (by omega)
      have c0 := row_cell hrow.out j hlt
      by_cases he : acc[j] = s
      · have HS : Hid (readsT (.node 2 n s ks) acc = acc) := by show _ = _; rw [HR.out, addN_in (he ▸ List.getElem_mem hlt)]
        rw [he] at c0
        clear he
        go_wp2
        go_quiet (fail)
        go_wp2
        go_ret
        exact ⟨_, rfl, by rw [HS.out]; exact hrow.out, hmv.out.drewN _⟩
      · have hq := bytes_ne he
        have HS : Hid (∀ i (h : i < acc.length), i < j + 1 → acc[i] ≠ s) := fun i h hi => by
          rcases Nat.lt_or_ge i j with h1 | h1
          · exact hne.out i h h1
          · obtain rfl : i = j := by omega
            exact he
        clear he
        go_wp2
        go_quiet (fail)
        go_wp2
        go_roundw
        case rel => exact ⟨j + 1, by omega, by go_num, HS, hrow.out, hx.out, hmv.out.drewN _⟩
        case measure => simp [intOf]; omega
    · have HS : Hid (readsT (.node 2 n s ks) acc = acc ++ [s]) := by
        show _ = _
        rw [HR.out, addN_out]
        intro hm
        obtain ⟨i, hi, e⟩ := List.mem_iff_getElem.1 hm
        exact hne.out i hi (by omega) e
      go_wp2_with (at_builtin; refine wpList_append_lies _ rfl (.tmp 24) (.tmp 27) 22 rfl w0.heap.size 9 i0 (.string ⟨#[]⟩) 1 16 Try.underlying22 hi hz0 hz1 hz2 rfl (by decide) (.slice oa acc.length oc) acc.length _ rfl (hrow.out.alloc _) ⟨wr.heap.size, 0, none⟩ 1 1 [.string s] rfl rfl (World.news_of_block (heap_alloc_new _ _)) (one_textR _) (by decide) (by unfold maxLen; omega) (by omega) (by have := hmv.out.1.size; simp; omega) _ rfl ?_)
      intro g1 cap1 w1 hown1 hg1 hat1 hlt1
      have HO1 := Lib.hid hown1
      have HM : Hid (Moves w (.slice oa acc.length oc) w1 (.slice (some ⟨g1, 0, none⟩) (acc.length + 1) cap1)) := by
        refine hmv.out.trans ((Moves.alloc _ _ _).trans ⟨hg1, ?_⟩)
        rcases hat1 with h | h
        · exact .inl h.symm
        · exact .inr fun k hk => by cases hk; simp; omega
      clear hown1 hg1 hat1 hlt1
      go_wp2
      go_ret
      refine ⟨_, rfl, ?_, HM.out⟩
      rw [HS.out]
      have := HO1.out
      simpa [strV] using this
set_option maxHeartbeats 800000 in
theorem reads_more (k n : Int) (s : ByteArray) (ks : List Tree) (ih : ∀ t, t ∈ ks → ReadsOk t) (hk2 : k ≠ 2) (v ov : Value) (w0 w : World) (acc : List ByteArray) (ha : acc.length + 1 + szT (.node k n s ks) ≤ 2000000) (hl : Lies w0 (.node k n s ks) v) (hbe : Below w0.heap.size w0 w) (hown : w.ownsRow w0.heap.size 9 1 ov acc.length (strV acc)) :
    Calls Try.prog 55 #[v, ov] w fun e w' => ∃ ov', e = .returned ov' ∧ w'.ownsRow w0.heap.size 9 1 ov' (readsT (.node k n s ks) acc).length (strV (readsT (.node k n s ks) acc)) ∧ Moves w ov w' ov' := by
  obtain ⟨h1, h2, h3, h4, aa, cap, rfl, h5⟩ := hl
  have HR : Hid (readsT (.node k n s ks) acc = readsL (ks.drop 0) acc) := by show _ = _; rw [readsT, if_neg hk2]; rfl
  have e2 := ne_true hk2
  have HZ : Hid (acc.length + (ks.length - 0) + szS (ks.drop 0) ≤ 2000000) := by show _ ≤ _; rw [szT] at ha; simp; omega
  have HO := Lib.hid hown
  have HB := Lib.hid hbe
  have H5 := Lib.hid h5
  have IH := Lib.hid ih
  have X0 := Lib.hid (Box4.new w (.int .i64 k) (.int .i64 n) (.string s) (.slice aa ks.length cap) 55)
  have hbs : w0.heap.size ≤ w.heap.size := hbe.size
  clear h5 h1 h2 hown ha hbe ih hk2
  go_enter Try.func55, Try.ntmps55
  go_wp2
  go_loopw [1, 6] (fun x i wr => ∃ (j : Nat) (ac : List ByteArray), j ≤ ks.length ∧ i = .int .i64 j ∧ Hid (readsT (.node k n s ks) acc = readsL (ks.drop j) ac) ∧ Hid (ac.length + (ks.length - j) + szS (ks.drop j) ≤ 2000000) ∧ Hid (wr.ownsRow w0.heap.size 9 1 x ac.length (strV ac)) ∧ Hid (Box4 wr w.heap.size (.int .i64 k) (.int .i64 n) (.string s) (.slice aa ks.length cap)) ∧ Hid (x.ownBlock ≠ some w.heap.size) ∧ Hid (Moves w ov wr x))
    (fun _ i _ => ks.length - (intOf i).toNat)
  case atStart => exact ⟨0, acc, Nat.zero_le _, rfl, HR.out, HZ.out, HO.out.alloc _, X0.out, row_not HO.out, Moves.alloc _ _ _⟩
  case round =>
    obtain ⟨j, ac, hj, rfl, hsz, hz, hrow, hx, hnb, hmv⟩ := hrel
    obtain ⟨p0, p1, p2, p3⟩ := hx.out
    by_cases hlt : j < ks.length
    · obtain ⟨g, o, rfl, hl⟩ := H5.out (by omega)
      have hbr := hmv.out.below HB.out HO.out
      obtain ⟨ka, kc, c0, c1, c2, c3, hl2⟩ := hl.at j hlt
      have hd := szS_drop hlt
      have C := Lib.hid (IH.out ks[j] (List.getElem_mem hlt) _ u1 w0 wr ac (by have := hz.out; omega) hl2 hbr hrow.out)
      have hke := keeps_below hbr
      have d0 := hke _ _ c0
      have d1 := hke _ _ c1
      have d2 := hke _ _ c2
      have d3 := hke _ _ c3
      have HS : Hid (readsT (.node k n s ks) acc = readsL (ks.drop (j + 1)) (readsT ks[j] ac)) := by show readsT (.node k n s ks) acc = _; rw [hsz.out, List.drop_eq_getElem_cons hlt, readsL]
      have HZ2 : Hid ((readsT ks[j] ac).length + (ks.length - (j + 1)) + szS (ks.drop (j + 1)) ≤ 2000000) := by show _ ≤ _; have := hz.out; have := readsT_le ks[j] ac; omega
      clear hl hl2 hd hbr hke c0 c1 c2 c3
      go_wp2_with fail
      refine C.out.mono ?_
      rintro e w1 ⟨ov1, rfl, hrow1, hmv1⟩
      have HR1 := Lib.hid hrow1
      have HX1 := Lib.hid (hmv1.box hx.out hnb.out)
      have HM1 := Lib.hid (hmv.out.trans hmv1)
      clear hrow1 hmv1
      go_wp2
      go_roundw
      case rel => exact ⟨j + 1, readsT ks[j] ac, by omega, by go_num, HS, HZ2, HR1.out, HX1.out.1, HX1.out.2, HM1.out⟩
      case measure => simp [intOf]; omega
    · have HS : Hid (readsT (.node k n s ks) acc = ac) := by show _ = _; rw [hsz.out, List.drop_of_length_le (by omega), readsL]
      go_wp2
      go_ret
      exact ⟨_, rfl, by rw [HS.out]; exact hrow.out, hmv.out⟩
theorem specReads_any : ∀ t : Tree, ReadsOk t := treeInd fun k n s ks ih v ov w0 w acc ha hl hbe hown => by
  by_cases h2 : k = 2
  · subst h2; exact reads_var n s ks v ov w0 w acc ha hl hbe hown
  · exact reads_more k n s ks ih h2 v ov w0 w acc ha hl hbe hown
/-- What ReadsOf answers. -/
noncomputable def readsOfT (t : Tree) : List ByteArray := if okB t = true then readsT t [] else []
theorem readsOfT_le (t : Tree) : (readsOfT t).length ≤ 1 + szT t := by
  unfold readsOfT
  split
  · have := readsT_le t []; simp at this; omega
  · simp
theorem specReadsOf_any (t : Tree) (v : Value) (w : World) (hl : Lies w t v) (hz : szT t ≤ 1048576) :
    Calls Try.prog 39 #[v] w fun e w' => ∃ ov, e = .returned ov ∧ w'.ownsRow w.heap.size 9 1 ov (readsOfT t).length (strV (readsOfT t)) ∧ Below w.heap.size w w' := by
  have C := Lib.hid (fun w hk => specTermOk_any t v w (hl.keep hk))
  have D := Lib.hid (fun ov w1 hb hr => specReads_any t v ov w w1 [] (by simp; omega) hl hb hr)
  obtain ⟨_, _, _, _, aa, cap, rfl, _⟩ := hl.parts
  have X0 := Lib.hid (Box4.new w (.int .i64 t.kind) (.int .i64 t.num) (.string t.name) (.slice aa t.kids.length cap) 55)
  clear hl hz
  cases hb : okB t with
  | false =>
    have HR : Hid (readsOfT t = []) := by show _ = _; unfold readsOfT; rw [hb]; rfl
    rw [hb] at C
    clear hb
    go_enter Try.func39, Try.ntmps39
    go_wp2_with fail
    refine (C.out _ (keeps_alloc _ _)).mono ?_
    rintro e w1 ⟨rfl, hb1⟩
    have B1 := Lib.hid (below_box1 hb1)
    clear hb1
    go_wp2
    go_ret
    exact ⟨_, rfl, by rw [HR.out]; exact World.ownsRow_made w1 #[] 0 B1.out.size (by decide) rfl, B1.out.alloc B1.out.size _⟩
  | true =>
    have HR : Hid (readsOfT t = readsT t []) := by show _ = _; unfold readsOfT; rw [hb]; rfl
    rw [hb] at C
    clear hb
    go_enter Try.func39, Try.ntmps39
    go_wp2_with fail
    refine (C.out _ (keeps_alloc _ _)).mono ?_
    rintro e w1 ⟨rfl, hb1⟩
    obtain ⟨p0, p1, p2, p3⟩ := X0.out.keep (keeps_below hb1)
    have B1 := Lib.hid (below_box1 hb1)
    clear hb1
    go_wp2_with fail
    refine (D.out _ _ (B1.out.alloc B1.out.size _) (World.ownsRow_made w1 #[] 0 B1.out.size (by decide) rfl)).mono ?_
    rintro e w2 ⟨ov, rfl, hrow, hmv⟩
    have HRow := Lib.hid hrow
    have HB2 := Lib.hid (hmv.below (B1.out.alloc B1.out.size _) (World.ownsRow_made (size := 1) w1 #[] 0 B1.out.size (by decide) rfl))
    clear hrow hmv
    go_wp2
    go_ret
    exact ⟨_, rfl, by rw [HR.out]; exact HRow.out, HB2.out⟩
end Go.Proofs.Ytofmccihehalcaa.Trm
