/- What the parts of a graph are to each other, as the law asks it. Without conditions: no Go text is walked here. -/
import Derived.Test.YtabpbmifegfmgaaCompsI
import Derived.Test.YtabpbmifegfmgaaCompAtM
import Derived.Test.YtabpbmifegfmgaaCyclic
namespace Go.Proofs.Ytabpbmifegfmgaa.Trm
open Go.RowKit Own
theorem mem_upI {p : List Nat} {a : Nat} : (a : Int) ∈ upI p ↔ a ∈ p := by
  unfold upI
  rw [List.mem_map]
  constructor
  · rintro ⟨b, hb, e⟩
    have : b = a := by omega
    rw [← this]; exact hb
  · intro h
    exact ⟨a, h, rfl⟩
theorem hit_up {cs : List (List Nat)} {a i : Nat} : hitL (cs.map upI) (a : Int) i ↔ ∃ h : i < cs.length, a ∈ cs[i] := by
  unfold hitL
  constructor
  · rintro ⟨h, hm⟩
    have h2 : i < cs.length := by simpa using h
    rw [List.getElem_map] at hm
    exact ⟨h2, mem_upI.1 hm⟩
  · rintro ⟨h, hm⟩
    refine ⟨by simpa using h, ?_⟩
    rw [List.getElem_map]
    exact mem_upI.2 hm
theorem comp_place {W : Mat} {n a : Nat} (hw : Ways n W) (ha : a < n) : ∃ x, ∃ h : x < (compsN W n).length, a ∈ (compsN W n)[x] ∧ ∀ z, IdxG ((compsN W n).map upI).length (hitL ((compsN W n).map upI) (a : Int)) z → z = (x : Int) := by
  obtain ⟨_, g2, g3, _⟩ := told_all hw
  obtain ⟨p, hp, hap⟩ := g2 a ha rfl
  obtain ⟨x, hx, rfl⟩ := List.mem_iff_getElem.1 hp
  refine ⟨x, hx, hap, fun z hz => ?_⟩
  rcases hz with ⟨i, hi, rfl, hh, _⟩ | ⟨rfl, hh⟩
  · obtain ⟨h, hm⟩ := hit_up.1 hh
    rw [g3 i x h hx a a hm hap (.inl rfl)]
  · exact absurd (hit_up.2 ⟨hx, hap⟩) (hh x (by simpa using hx))
theorem comp_pair {W : Mat} {n a b x y : Nat} (hw : Ways n W) (hx : x < (compsN W n).length) (hy : y < (compsN W n).length) (ha : a ∈ (compsN W n)[x]) (hb : b ∈ (compsN W n)[y]) :
    (a = b → x = y) ∧ (a ≠ b → (x = y ↔ W a b = true ∧ W b a = true)) ∧ (W a b = true → W b a = false → y < x) := by
  obtain ⟨g1, _, g3, g4⟩ := told_all hw
  refine ⟨fun e => g3 x y hx hy a b ha hb (.inl e), fun hne => ⟨fun e => ?_, fun h => g3 x y hx hy a b ha hb (.inr h)⟩, fun h1 h2 => ?_⟩
  · subst e
    obtain ⟨i, hi, _, hp⟩ := g1 _ (List.getElem_mem hx)
    rw [hp] at ha hb
    obtain ⟨_, ha⟩ := mem_partL.1 ha
    obtain ⟨_, hb⟩ := mem_partL.1 hb
    rcases ha with rfl | ⟨h1, h2⟩
    · rcases hb with rfl | ⟨h3, h4⟩
      · exact absurd rfl hne
      · exact ⟨h3, h4⟩
    · rcases hb with rfl | ⟨h3, h4⟩
      · exact ⟨h2, h1⟩
      · exact ⟨hw.2 _ _ _ h2 h3, hw.2 _ _ _ h4 h1⟩
  · rcases g4 x hx a b ha h1 h2 with h3 | ⟨y2, hy2, h3, h4⟩
    · cases h3
    · rw [g3 y y2 hy hy2 b b hb h4 (.inl rfl)]
      exact h3
theorem comp_head {W : Mat} {n : Nat} {p : List Nat} (hw : Ways n W) (hp : p ∈ compsN W n) : ∃ h r, p = h :: r ∧ ∀ x, x ∈ p → x < n ∧ W x x = W h h := by
  obtain ⟨g1, _, _, _⟩ := told_all hw
  obtain ⟨k, hk, _, rfl⟩ := g1 p hp
  have hpos := part_pos (W := W) hk
  cases hc : partL W n k with
  | nil => rw [hc] at hpos; simp at hpos
  | cons h r =>
    refine ⟨h, r, rfl, fun x hx => ?_⟩
    rw [← hc] at hx
    refine ⟨(mem_partL.1 hx).1, part_same hw hx ?_⟩
    rw [hc]
    exact List.mem_cons_self
theorem cyc_head {m : Nat} {es : List (Int × Int)} {h : Nat} {r : List Nat} (hg : GOk (m : Int) es) (hm : h < m) (hx : ∀ x, x ∈ h :: r → x < m ∧ wayM m es x x = wayM m es h h) :
    CycP (m : Int) es (upI (h :: r)) ↔ wayM m es h h = true := by
  unfold CycP
  constructor
  · rintro ⟨_, j, hj, hc⟩
    have hj2 : j < (h :: r).length := by rw [upI_length] at hj; exact hj
    have e : (upI (h :: r))[j] = ((h :: r)[j] : Int) := List.getElem_map _
    rw [e] at hc
    unfold CycAt at hc
    rw [Int.toNat_natCast, Int.toNat_natCast] at hc
    rw [← (hx _ (List.getElem_mem hj2)).2]
    exact hc.2
  · intro h1
    refine ⟨hg, 0, by rw [upI_length]; simp, ?_⟩
    have e : (upI (h :: r))[0]'(by rw [upI_length]; simp) = (h : Int) := by unfold upI; simp
    rw [e]
    unfold CycAt
    rw [Int.toNat_natCast, Int.toNat_natCast]
    exact ⟨by omega, h1⟩
theorem rch_nat {m a b : Nat} {es : List (Int × Int)} (hg : GOk (m : Int) es) (ha : a < m) (hb : b < m) : RchP (m : Int) es (a : Int) (b : Int) ↔ wayM m es a b = true := by
  unfold RchP
  simp only [Int.toNat_natCast]
  exact ⟨fun h => h.2.2.2, fun h => ⟨hg, by omega, by omega, h⟩⟩
end Go.Proofs.Ytabpbmifegfmgaa.Trm
