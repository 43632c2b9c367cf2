/- The model's names that are not there, walked: what one name adds, the procedures' names, a name told twice. Conditions: the lists lie in memory. -/
import Derived.Test.YtmhhghdfgdhljaaGreatDoorUnkMath
import Derived.Test.YtmhhghdfgdhljaaGreatDoorTermSame
import Derived.Test.YtmhhghdfgdhljaaGreatDoorPOwn
import Derived.Deep.AppendLies
namespace Go.Proofs.YtmhhghdfgdhljaaGreatDoor.Trm
open Go.RowKit Own
theorem strsAt_take {w : World} {ns : List ByteArray} {a : Option Addr} {n c j : Nat} (h : StrsAt w ns (.slice a n c)) (hj : j ≤ ns.length) : StrsAt w (ns.take j) (.slice a j c) := by
  obtain ⟨a2, c2, e, h1, h2⟩ := h
  simp at e
  obtain ⟨rfl, rfl, rfl⟩ := e
  have hl : (ns.take j).length = j := by rw [List.length_take]; omega
  refine ⟨a, c, by rw [hl], by omega, fun hp => ?_⟩
  obtain ⟨g, o, rfl, h3⟩ := h2 (by omega)
  exact ⟨g, o, rfl, fun i hi => by rw [List.getElem_take]; exact h3 i (by omega)⟩
theorem strsAt_row {w : World} {base : Nat} {ov : Value} {ss : List ByteArray} {n : Nat} (hn : n = ss.length) (h : w.ownsRow base 9 1 ov n (strV ss)) : StrsAt w ss ov := by
  subst hn
  have hm := row_small h
  unfold maxLen at hm
  obtain ⟨a, c, rfl, ha⟩ := row_shape h
  refine ⟨a, c, rfl, by omega, fun hp => ?_⟩
  obtain ⟨g, rfl⟩ := ha hp
  exact ⟨g, 0, rfl, fun i hi => by rw [Nat.zero_add]; exact row_cell h i hi⟩
/-- Whether a name is among those that lie there. -/
theorem specHasL_any (ns : List ByteArray) (nv : Value) (s : ByteArray) (w : World) (h : StrsAt w ns nv) (r : Bool) (hr : r = true ↔ s ∈ ns) :
    Calls Tryz.prog 120 #[nv, .string s] w fun e w' => e = .returned (.bool r) ∧ w = w' := by
  obtain ⟨a, c, rfl, h1, h2⟩ := h
  have HN := Lib.hid h2
  have HR := Lib.hid hr
  have HL := Lib.hid h1
  clear h1 h2 hr
  go_enter Tryz.func120, Tryz.ntmps120
  go_wp2
  go_loopw [5] (fun i wr => ∃ j : Nat, j ≤ ns.length ∧ i = .int .i64 j ∧ Hid (∀ k (hk : k < ns.length), k < j → ns[k] ≠ s) ∧ w = wr)
    (fun i _ => ns.length - (intOf i).toNat)
  case atStart => exact ⟨0, Nat.zero_le _, rfl, fun _ _ h => by omega, rfl⟩
  case round =>
    obtain ⟨j, hj, rfl, hno, rfl⟩ := hrel
    have hL := HL.out
    by_cases hlt : j < ns.length
    · obtain ⟨g, o, rfl, h3⟩ := HN.out (by omega)
      have c0 := h3 j hlt
      clear h3
      by_cases he : ns[j] = s
      · have hq : (ns[j].toList == s.toList) = true := by rw [he]; simp
        have HT : Hid (r = true) := HR.out.2 (by rw [← he]; exact List.getElem_mem hlt)
        clear he
        go_wp2
        go_ret
        exact ⟨by rw [HT.out]; rfl, rfl⟩
      · have hq := bytes_ne he
        have HNO : Hid (∀ k (hk : k < ns.length), k < j + 1 → ns[k] ≠ s) := fun k hk h => by
          rcases Nat.lt_or_ge k j with h' | h'
          · exact hno.out k hk h'
          · have : k = j := by omega
            subst this; exact he
        clear he
        go_wp2
        go_roundw
        case rel => exact ⟨j + 1, by omega, by go_num, HNO.out, trivial⟩
        case measure => simp [intOf]; omega
    · have HF : Hid (r = false) := by
        show _ = _
        rw [Bool.eq_false_iff]
        intro h
        obtain ⟨k, hk, e⟩ := List.getElem_of_mem (HR.out.1 h)
        exact hno.out k hk (by omega) e
      go_wp2
      go_ret
      exact ⟨by rw [HF.out]; rfl, rfl⟩
open Classical in
noncomputable def hasB (ns : List ByteArray) (s : ByteArray) : Bool := decide (s ∈ ns)
theorem hasB_iff (ns : List ByteArray) (s : ByteArray) : hasB ns s = true ↔ s ∈ ns := by unfold hasB; simp
theorem addU_yes {known acc : List ByteArray} {s : ByteArray} (h : s ∈ known ∨ s ∈ acc) : addU known acc s = acc := by unfold addU; rw [if_pos h]
theorem addU_no {known acc : List ByteArray} {s : ByteArray} (h : ¬ (s ∈ known ∨ s ∈ acc)) : addU known acc s = acc ++ [s] := by unfold addU; rw [if_neg h]
theorem addU_le (known acc : List ByteArray) (s : ByteArray) : (addU known acc s).length ≤ acc.length + 1 := by unfold addU; split <;> simp
/-- A name, added where it is neither known nor told. -/
theorem specAdd_any (known acc : List ByteArray) (kv ov : Value) (s : ByteArray) (w0 w : World) (ha : acc.length ≤ 8000000) (hk : StrsAt w known kv) (hbe : Below w0.heap.size w0 w) (hown : w.ownsRow w0.heap.size 9 1 ov acc.length (strV acc)) :
    Calls Tryz.prog 161 #[ov, kv, .string s] w fun e w' => ∃ ov', e = .returned ov' ∧ w'.ownsRow w0.heap.size 9 1 ov' (addU known acc s).length (strV (addU known acc s)) ∧ Moves w ov w' ov' := by
  obtain ⟨ka, kc, rfl, _, _⟩ := id hk
  obtain ⟨oa, oc, rfl, _⟩ := row_shape hown
  have hbs : w0.heap.size ≤ w.heap.size := hbe.size
  have C2 := Lib.hid (specHasL_any acc _ s w (strsAt_row rfl hown) _ (hasB_iff acc s))
  have HROW := Lib.hid hown
  obtain ⟨i0, hi, hz0, hz1, hz2⟩ := info_parts infoStrR
  by_cases h1 : s ∈ known
  · have C1 := Lib.hid (specHasL_any known _ s w hk true ⟨fun _ => h1, fun _ => rfl⟩)
    have HE : Hid (addU known acc s = acc) := addU_yes (.inl h1)
    clear hk hown hbe h1
    go_enter Tryz.func161, Tryz.ntmps161
    go_wp2_with fail
    refine C1.out.mono ?_
    rintro e w1 ⟨rfl, rfl⟩
    go_wp2
    go_ret
    refine ⟨_, rfl, ?_, Moves.refl _ _⟩
    rw [HE.out]; exact HROW.out
  · have C1 := Lib.hid (specHasL_any known _ s w hk false ⟨fun h => (Bool.noConfusion h), fun h => absurd h h1⟩)
    by_cases h2 : s ∈ acc
    · have HE : Hid (addU known acc s = acc) := addU_yes (.inr h2)
      have C3 := Lib.hid (specHasL_any acc _ s w (strsAt_row rfl hown) true ⟨fun _ => h2, fun _ => rfl⟩)
      clear hk hown hbe h1 h2 C2
      go_enter Tryz.func161, Tryz.ntmps161
      go_wp2_with fail
      refine C1.out.mono ?_
      rintro e w1 ⟨rfl, rfl⟩
      go_wp2_with fail
      refine C3.out.mono ?_
      rintro e w1 ⟨rfl, rfl⟩
      go_wp2
      go_ret
      refine ⟨_, rfl, ?_, Moves.refl _ _⟩
      rw [HE.out]; exact HROW.out
    · have HE : Hid (addU known acc s = acc ++ [s]) := addU_no (fun h => h.elim h1 h2)
      have C3 := Lib.hid (specHasL_any acc _ s w (strsAt_row rfl hown) false ⟨fun h => (Bool.noConfusion h), fun h => absurd h h2⟩)
      clear hk hown hbe h1 h2 C2
      go_enter Tryz.func161, Tryz.ntmps161
      go_wp2_with fail
      refine C1.out.mono ?_
      rintro e w1 ⟨rfl, rfl⟩
      go_wp2_with fail
      refine C3.out.mono ?_
      rintro e w1 ⟨rfl, rfl⟩
      go_wp2_with (at_builtin; refine wpList_append_lies _ rfl (.tmp 16) (.tmp 18) 24 rfl w0.heap.size 9 i0 (.string ⟨#[]⟩) 1 16 Tryz.underlying24 hi hz0 hz1 hz2 rfl (by decide) (.slice oa acc.length oc) acc.length _ rfl (HROW.out.alloc _) ⟨w.heap.size, 0, none⟩ 1 1 [.string s] rfl rfl (World.news_of_block (heap_alloc_new _ _)) (one_textR _) (by decide) (by unfold maxLen; omega) (by omega) (by simp; omega) _ rfl ?_)
      intro g1 cap1 w1 hown1 hg1 hat1 hlt1
      have HRW : Hid (w1.ownsRow w0.heap.size 9 1 (.slice (some ⟨g1, 0, none⟩) (acc.length + 1) cap1) (addU known acc s).length (strV (addU known acc s))) := by
        show World.ownsRow _ _ _ _ _ _ _
        rw [HE.out]
        simpa [strV] using hown1
      have HMA : Hid (Moves w (.slice oa acc.length oc) w1 (.slice (some ⟨g1, 0, none⟩) (acc.length + 1) cap1)) := by
        refine (Moves.alloc _ _ _).trans ⟨hg1, ?_⟩
        rcases hat1 with h | h
        · exact .inl h.symm
        · exact .inr fun k hk => by cases hk; simp; omega
      clear hown1 hg1 hat1 hlt1
      go_wp2
      go_ret
      exact ⟨_, rfl, HRW.out, HMA.out⟩
/-- A list whose room is what Go asks. -/
def CapOk (v : Value) (n : Nat) : Prop := ∃ a c, v = .slice a n c ∧ n ≤ c
theorem cap_row {w : World} {base : Nat} {e : TypeId} {size n : Nat} {v : Value} {xs : List Value} (h : w.ownsRow base e size v n xs) : CapOk v n := by
  rcases h.2 with ⟨rfl, rfl⟩ | ⟨g, cap, cur, rfl, _, _, hc, _⟩
  · exact ⟨none, 0, rfl, Nat.le_refl _⟩
  · exact ⟨_, cap, rfl, hc⟩
/-- The procedures' names, in a new list. -/
theorem specProcs_any (x : PTree) (v : Value) (w : World) (hx : x.procs.length ≤ 8000000) (h : PLies w x v) :
    Calls Tryz.prog 73 #[v] w fun e w' => ∃ ov, e = .returned ov ∧ StrsAt w' (procNs x.procs) ov ∧ CapOk ov (procNs x.procs).length ∧ Below w.heap.size w w' := by
  obtain ⟨ga, gc, la, lc, pa, pc, rfl, _, _, h3⟩ := h
  obtain ⟨hlen, a, cap, e, hk⟩ := h3
  simp at e
  obtain ⟨rfl, rfl⟩ := e
  obtain ⟨i0, hi, hz0, hz1, hz2⟩ := info_parts infoStrR
  have HK := Lib.hid hk
  have X0 := Lib.hid (Box3.new w (.slice ga x.globals.length gc) (.slice la x.locks.length lc) (.slice pa x.procs.length pc) 27)
  clear hk
  generalize x.procs = ps at hlen HK X0 hx ⊢
  have B0 : Hid (Below w.heap.size w ((w.alloc (.cells #[.slice ga x.globals.length gc, .slice la x.locks.length lc, .slice pa ps.length pc] 27)).alloc (.cells #[] 9))) := ((Below.refl w.heap.size w).alloc (Nat.le_refl _) _).alloc (by simp) _
  have R0 : Hid (((w.alloc (.cells #[.slice ga x.globals.length gc, .slice la x.locks.length lc, .slice pa ps.length pc] 27)).alloc (.cells #[] 9)).ownsRow (w.heap.size + 1) 9 1 (.slice (some ⟨w.heap.size + 1, 0, none⟩) 0 0) 0 []) := ⟨rfl, .inr ⟨w.heap.size + 1, 0, #[], rfl, Nat.le_refl _, by have := heap_alloc_new (w.alloc (.cells #[.slice ga x.globals.length gc, .slice la x.locks.length lc, .slice pa ps.length pc] 27)) (.cells #[] 9); simpa using this, Nat.le_refl _, by decide, rfl, rfl⟩⟩
  have X1 : Hid (Box3 ((w.alloc (.cells #[.slice ga x.globals.length gc, .slice la x.locks.length lc, .slice pa ps.length pc] 27)).alloc (.cells #[] 9)) w.heap.size (.slice ga x.globals.length gc) (.slice la x.locks.length lc) (.slice pa ps.length pc)) := X0.out.keep (keeps_alloc _ _)
  clear X0
  go_enter Tryz.func73, Tryz.ntmps73
  go_wp2
  go_loopw [3, 4] (fun o i wr => ∃ (j : Nat), j ≤ ps.length ∧ i = .int .i64 j ∧ wr.ownsRow (w.heap.size + 1) 9 1 o j (strV ((procNs ps).take j)) ∧ Hid (Below w.heap.size w wr) ∧ Hid (Box3 wr w.heap.size (.slice ga x.globals.length gc) (.slice la x.locks.length lc) (.slice pa ps.length pc)) ∧ w.heap.size + 1 ≤ wr.heap.size)
    (fun _ i _ => ps.length - (intOf i).toNat)
  case atStart => exact ⟨0, Nat.zero_le _, rfl, R0.out, B0.out, X1.out, by simp⟩
  case round =>
    obtain ⟨j, hj, rfl, hrow, hbe, hbx, hws⟩ := hrel
    obtain ⟨oa, oc, rfl, _⟩ := row_shape hrow
    have HROW := Lib.hid hrow
    obtain ⟨p0, p1, p2⟩ := hbx.out
    have hmx := row_small hrow
    clear hrow
    by_cases hlt : j < ps.length
    · obtain ⟨g, o, rfl, hl⟩ := HK.out (by omega)
      obtain ⟨h0, ba, bc, c0, c1, _⟩ := hl j hlt
      have d0 := keeps_below hbe.out _ _ c0
      have HT : Hid (strV ((procNs ps).take (j + 1)) = strV ((procNs ps).take j) ++ [.string ps[j].name]) := by
        show _ = _
        have hpl : j < (procNs ps).length := by unfold procNs; simpa using hlt
        rw [List.take_add_one, List.getElem?_eq_getElem hpl]
        simp [strV, procNs]
      clear hl c0 c1
      go_wp2_with (at_builtin; refine wpList_append_lies _ rfl (.tmp 13) (.tmp 20) 24 rfl (w.heap.size + 1) 9 i0 (.string ⟨#[]⟩) 1 16 Tryz.underlying24 hi hz0 hz1 hz2 rfl (by decide) (.slice oa j oc) j _ rfl (HROW.out.alloc _) ⟨wr.heap.size, 0, none⟩ 1 1 [.string ps[j].name] rfl rfl (World.news_of_block (heap_alloc_new _ _)) (one_textR _) (by decide) (by unfold maxLen; omega) (by omega) (by simp; omega) _ rfl ?_)
      intro g1 cap1 w1 hown1 hg1 hat1 hlt1
      rw [← HT.out] at hown1
      have hnb : ∀ k, (Value.slice oa j oc).ownBlock = some k → w.heap.size + 1 ≤ k := fun k hk => (HROW.out.lt k hk).1
      have HB1 : Hid (Below w.heap.size w w1) := (hbe.out.alloc hbe.out.size _).grown hg1 (by have := hbe.out.size; simp; omega) (fun k hk => by have := hnb k hk; omega)
      have HX1 : Hid (Box3 w1 w.heap.size (.slice ga x.globals.length gc) (.slice la x.locks.length lc) (.slice (some ⟨g, o, none⟩) ps.length pc)) := by
        have hx := hbx.out.keep (w' := wr.alloc (.cells #[.string ps[j].name] 9)) (keeps_alloc _ _)
        have hblk : w1.heap[w.heap.size]? = (wr.alloc (.cells #[.string ps[j].name] 9)).heap[w.heap.size]? := hg1.block _ (by simp; omega) (fun e => by have := hnb _ e.symm; omega)
        exact ⟨(World.cell?_of_block hblk).trans hx.1, (World.cell?_of_block hblk).trans hx.2.1, (World.cell?_of_block hblk).trans hx.2.2⟩
      have hw1 : w.heap.size + 1 ≤ w1.heap.size := by have := hg1.size; simp at this; omega
      have HR1 := Lib.hid hown1
      clear hown1 hg1 hat1 hlt1 hnb
      go_wp2
      go_roundw
      case rel => exact ⟨j + 1, by omega, by go_num, HR1.out, HB1.out, HX1.out, hw1⟩
      case measure => simp [intOf]; omega
    · have hje : j = ps.length := by omega
      have HS : Hid (StrsAt wr (procNs ps) (.slice oa j oc)) := by
        have h := strsAt_row (ss := (procNs ps).take j) (by simp [procNs]; omega) HROW.out
        rw [List.take_of_length_le (by simp [procNs]; omega)] at h
        exact h
      have HCP : Hid (CapOk (.slice oa j oc) (procNs ps).length) := by
        have e : (procNs ps).length = j := by simp [procNs]; omega
        show CapOk _ _
        rw [e]; exact cap_row HROW.out
      go_wp2
      go_ret
      exact ⟨_, rfl, HS.out, HCP.out, hbe.out⟩
end Go.Proofs.YtmhhghdfgdhljaaGreatDoor.Trm
