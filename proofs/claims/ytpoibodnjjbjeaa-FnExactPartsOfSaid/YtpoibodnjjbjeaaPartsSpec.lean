/- The model's PartsOf, walked. Conditions: the line's length fits an int. -/
import Derived.Test.YtpoibodnjjbjeaaChecked
import Derived.Test.YtpoibodnjjbjeaaPartsMath
import Derived.Test.YtpoibodnjjbjeaaStrRows
import Derived.Outline
namespace Go.Proofs.Ytpoibodnjjbjeaa.Parts
open Go.RowKit Own
theorem infoStrS : (Try.prog.info? 9).map (fun i => (i.zero, i.size, i.bytes)) = some (some (.string ⟨#[]⟩), 1, 16) := by kernel_rfl
theorem one_textS (p : ByteArray) : ∀ u ∈ [Value.string p], u.oneCell' = true := by
  intro u hu
  simp at hu
  subst hu
  rfl
/-- What is known when place k has been reached. -/
def At (s : ByteArray) (k b : Nat) (ps : List ByteArray) : Prop := (k ≤ s.size ∧ scan s k = (b, ps) ∨ s.size < k ∧ parts s = ps) ∧ ∀ i, i < k → i < s.size → 32 ≤ byteAt s i ∧ byteAt s i ≤ 126
theorem At.start (s : ByteArray) : At s 0 0 [] := ⟨.inl ⟨Nat.zero_le _, rfl⟩, fun i h => by omega⟩
theorem At.fine {s : ByteArray} {k b : Nat} {ps : List ByteArray} (h : At s k b ps) (hk : k < s.size) (h1 : 32 ≤ byteAt s k) (h2 : byteAt s k ≤ 126) : ∀ i, i < k + 1 → i < s.size → 32 ≤ byteAt s i ∧ byteAt s i ≤ 126 := fun i hi hs => by
  rcases Nat.lt_or_ge i k with h1 | h1
  · exact h.2 i h1 hs
  · obtain rfl : i = k := by omega
    omega
theorem At.scan {s : ByteArray} {k b : Nat} {ps : List ByteArray} (h : At s k b ps) (hk : k ≤ s.size) : Parts.scan s k = (b, ps) := by
  rcases h.1 with ⟨_, h⟩ | ⟨h, _⟩
  · exact h
  · omega
theorem At.blank {s : ByteArray} {k b : Nat} {ps : List ByteArray} (h : At s k b ps) (hk : k < s.size) (hb : byteAt s k = 32) : At s (k + 1) (k + 1) (addP ps (s.extract b k)) := by
  refine ⟨.inl ⟨by omega, ?_⟩, h.fine hk (by omega) (by omega)⟩
  rw [scan_blank hb, h.scan (by omega)]
theorem At.other {s : ByteArray} {k b : Nat} {ps : List ByteArray} (h : At s k b ps) (hk : k < s.size) (h1 : 32 < byteAt s k) (h2 : byteAt s k ≤ 126) : At s (k + 1) b ps := by
  refine ⟨.inl ⟨by omega, ?_⟩, h.fine hk (by omega) (by omega)⟩
  rw [scan_other (by omega), h.scan (by omega)]
theorem At.last {s : ByteArray} {b : Nat} {ps : List ByteArray} (h : At s s.size b ps) : At s (s.size + 1) (s.size + 1) (addP ps (s.extract b s.size)) := by
  refine ⟨.inr ⟨by omega, ?_⟩, fun i _ hs => h.2 i hs hs⟩
  unfold parts
  rw [h.scan (Nat.le_refl _)]
theorem At.le {s : ByteArray} {k b : Nat} {ps : List ByteArray} (h : At s k b ps) (hk : k ≤ s.size) : b ≤ k := by
  have := scan_le s k
  rw [h.scan hk] at this
  exact this.1
theorem At.done {s : ByteArray} {k b : Nat} {ps : List ByteArray} (h : At s k b ps) (hk : s.size < k) : parts s = ps ∧ Fine s := by
  rcases h.1 with ⟨h, _⟩ | ⟨_, h'⟩
  · omega
  · exact ⟨h', fun i hi => h.2 i (by omega) hi⟩

theorem specParts_long (s : ByteArray) (w : World) (hs : 600 < s.size) (hm : s.size ≤ 9223372036854775807) :
    Calls Try.prog 11 #[.string s] w fun e w' => ∃ v n, e = .returned (.tuple #[v, .bool (out s).2]) ∧ w'.ownsRow w.heap.size 9 1 v n (strV (out s).1) ∧ w.grownBy w' none := by
  have HO : Hid (out s = ([], false)) := out_long hs
  go_enter Try.func11, Try.ntmps11
  go_wp2
  go_ret2
  exact ⟨.slice (some ⟨w.heap.size, 0, none⟩) 0 0, 0, by rw [HO.out]; rfl, by rw [HO.out]; exact World.ownsRow_made w #[] 0 (Nat.le_refl _) (by decide) rfl, World.grownBy_alloc _ _ _⟩

set_option maxHeartbeats 1600000 in
theorem specParts_short (s : ByteArray) (w : World) (hs : s.size ≤ 600) :
    Calls Try.prog 11 #[.string s] w fun e w' => ∃ v n, e = .returned (.tuple #[v, .bool (out s).2]) ∧ w'.ownsRow w.heap.size 9 1 v n (strV (out s).1) ∧ w.grownBy w' none := by
  obtain ⟨i0, hi, hz0, hz1, hz2⟩ := info_parts infoStrS
  go_enter Try.func11, Try.ntmps11
  go_wp2
  go_loopw [4, 5, 6] (fun v x i wr => ∃ (k b : Nat) (ps : List ByteArray), k ≤ s.size + 1 ∧ b ≤ k ∧ ps.length ≤ k ∧ i = .int .i64 k ∧ x = .int .i64 b ∧ Hid (At s k b ps) ∧ Hid (wr.ownsRow w.heap.size 9 1 v ps.length (strV ps)) ∧ Hid (w.grownBy wr none))
    (fun _ _ i _ => s.size + 1 - (intOf i).toNat)
  case atStart => exact ⟨0, 0, [], Nat.zero_le _, Nat.le_refl _, Nat.le_refl _, rfl, rfl, At.start s, World.ownsRow_made w #[] 0 (Nat.le_refl _) (by decide) rfl, World.grownBy_alloc _ _ _⟩
  case round =>
    obtain ⟨k, b, ps, hk, hb, hp, rfl, rfl, hsc, hown, hg⟩ := hrel
    rcases (by omega : k < s.size ∨ k = s.size ∨ s.size < k) with hlt | hlt | hlt
    · have hx := byteAt_eq s k hlt
      rcases (by omega : (s[k].toNat : Int) < 32 ∨ 126 < (s[k].toNat : Int) ∨ (s[k].toNat : Int) = 32 ∨ (32 < (s[k].toNat : Int) ∧ (s[k].toNat : Int) ≤ 126)) with h | h | h | ⟨h, h'⟩
      · have HO : Hid (out s = ([], false)) := out_bad hlt (by omega)
        clear hx
        go_wp2
        go_ret2
        exact ⟨.slice (some ⟨wr.heap.size, 0, none⟩) 0 0, 0, by rw [HO.out]; rfl, by rw [HO.out]; exact World.ownsRow_made wr #[] 0 hg.out.size (by decide) rfl, grown_alloc hg.out _⟩
      · have HO : Hid (out s = ([], false)) := out_bad hlt (by omega)
        clear hx
        go_wp2
        go_ret2
        exact ⟨.slice (some ⟨wr.heap.size, 0, none⟩) 0 0, 0, by rw [HO.out]; rfl, by rw [HO.out]; exact World.ownsRow_made wr #[] 0 hg.out.size (by decide) rfl, grown_alloc hg.out _⟩
      · have hh : ((s[k].toNat : Int) == 32) = true := by simp; omega
        have hlo : ¬ (s[k].toNat : Int) < 32 := by omega
        have hhi : ¬ 126 < (s[k].toNat : Int) := by omega
        have hne : ((s[k].toNat : Int) != 32) = false := by simp; omega
        have HS : Hid (At s (k + 1) (k + 1) (addP ps (s.extract b k))) := hsc.out.blank hlt (by omega)
        have HL := addP_length ps (s.extract b k)
        clear hx h
        by_cases hbk : b < k
        · have HA : Hid (addP ps (s.extract b k) = ps ++ [s.extract b k]) := addP_some (by rw [extract_size _ _ _ (by omega)]; omega)
          go_wp2_with (at_builtin; refine wpList_append_own _ rfl (.tmp 48) (.tmp 53) 25 rfl w.heap.size 9 i0 (.string ⟨#[]⟩) 1 16 Try.underlying25 hi hz0 hz1 hz2 rfl (by decide) u4 ps.length _ rfl (hown.out.alloc _) ⟨wr.heap.size, 0, none⟩ 1 1 [.string (s.extract b k)] rfl rfl (World.news_of_block (heap_alloc_new _ _)) (one_textS _) (by unfold maxLen; omega) (by omega) (by have := hg.out.size; simp; omega) ?_)
          intro v1 w1 hown1 hgrow1 _
          have HW1 : Hid (w1.ownsRow w.heap.size 9 1 v1 (addP ps (s.extract b k)).length (strV (addP ps (s.extract b k)))) := by
            rw [HA.out]
            show w1.ownsRow _ _ _ _ _ _
            simpa [strV] using hown1
          have HG1 := Lib.hid hgrow1
          clear hown1 hgrow1
          go_wp2
          go_roundw
          case rel => exact ⟨k + 1, k + 1, addP ps (s.extract b k), by omega, Nat.le_refl _, by omega, by go_num, by go_num, HS, HW1, grown_trans (grown_alloc hg.out _) HG1.out (fun k hk => (hown.out.lt k hk).1)⟩
          case measure => simp [intOf]; omega
        · have HA : Hid (addP ps (s.extract b k) = ps) := addP_none (by rw [extract_size _ _ _ (by omega)]; omega)
          go_wp2
          go_roundw
          case rel => exact ⟨k + 1, k + 1, addP ps (s.extract b k), by omega, Nat.le_refl _, by omega, by go_num, by go_num, HS, by rw [HA.out]; exact hown, hg⟩
          case measure => simp [intOf]; omega
      · have hne : ((s[k].toNat : Int) != 32) = true := by simp; omega
        have HS : Hid (At s (k + 1) b ps) := hsc.out.other hlt (by omega) (by omega)
        clear hx
        go_wp2
        go_roundw
        case rel => exact ⟨k + 1, b, ps, by omega, by omega, by omega, by go_num, rfl, HS, hown, hg⟩
        case measure => simp [intOf]; omega
    · subst hlt
      have HS : Hid (At s (s.size + 1) (s.size + 1) (addP ps (s.extract b s.size))) := hsc.out.last
      have HL := addP_length ps (s.extract b s.size)
      by_cases hbk : b < s.size
      · have HA : Hid (addP ps (s.extract b s.size) = ps ++ [s.extract b s.size]) := addP_some (by rw [extract_size _ _ _ (by omega)]; omega)
        go_wp2_with (at_builtin; refine wpList_append_own _ rfl (.tmp 48) (.tmp 53) 25 rfl w.heap.size 9 i0 (.string ⟨#[]⟩) 1 16 Try.underlying25 hi hz0 hz1 hz2 rfl (by decide) u4 ps.length _ rfl (hown.out.alloc _) ⟨wr.heap.size, 0, none⟩ 1 1 [.string (s.extract b s.size)] rfl rfl (World.news_of_block (heap_alloc_new _ _)) (one_textS _) (by unfold maxLen; omega) (by omega) (by have := hg.out.size; simp; omega) ?_)
        intro v1 w1 hown1 hgrow1 _
        have HW1 : Hid (w1.ownsRow w.heap.size 9 1 v1 (addP ps (s.extract b s.size)).length (strV (addP ps (s.extract b s.size)))) := by
          rw [HA.out]
          show w1.ownsRow _ _ _ _ _ _
          simpa [strV] using hown1
        have HG1 := Lib.hid hgrow1
        clear hown1 hgrow1
        go_wp2
        go_roundw
        case rel => exact ⟨s.size + 1, s.size + 1, addP ps (s.extract b s.size), by omega, Nat.le_refl _, by omega, by go_num, by go_num, HS, HW1, grown_trans (grown_alloc hg.out _) HG1.out (fun k hk => (hown.out.lt k hk).1)⟩
        case measure => simp [intOf]
      · have HA : Hid (addP ps (s.extract b s.size) = ps) := addP_none (by rw [extract_size _ _ _ (by omega)]; omega)
        go_wp2
        go_roundw
        case rel => exact ⟨s.size + 1, s.size + 1, addP ps (s.extract b s.size), by omega, Nat.le_refl _, by omega, by go_num, by go_num, HS, by rw [HA.out]; exact hown, hg⟩
        case measure => simp [intOf]
    · obtain ⟨hpp, hff⟩ := hsc.out.done hlt
      obtain ⟨a1, c1, hv, _⟩ := row_shape hown.out
      subst hv
      by_cases hm : ps.length ≤ 12
      · have HO : Hid (out s = (ps, true)) := by rw [← hpp]; exact out_yes hs hff (by rw [hpp]; exact hm)
        clear hpp hff
        go_wp2
        go_ret2
        exact ⟨_, ps.length, by rw [HO.out]; rfl, by rw [HO.out]; exact hown.out, hg.out⟩
      · have HO : Hid (out s = ([], false)) := out_many (by rw [hpp]; omega)
        clear hpp hff
        go_wp2
        go_ret2
        exact ⟨.slice (some ⟨wr.heap.size, 0, none⟩) 0 0, 0, by rw [HO.out]; rfl, by rw [HO.out]; exact World.ownsRow_made wr #[] 0 hg.out.size (by decide) rfl, grown_alloc hg.out _⟩
end Go.Proofs.Ytpoibodnjjbjeaa.Parts
