/- The program's SameTerm, walked. Conditions: both terms lie in rows that are not frozen; the first has at most 2 to the 20 kids and bytes. -/
import Derived.Test.YtpbhoomhcdljoaaSameListsT
namespace Go.Proofs.Ytpbhoomhcdljoaa.Trm
open Go.RowKit Own
/-- A list of one term, laid anew. -/
theorem one_list {V : World} {g : Nat} {k n : Int} {s : ByteArray} {ks : List Tree} {a : Option Addr} {c : Nat} {T : TypeId} (hb : V.heap[g]? = some (.cells #[.int .i64 k, .int .i64 n, .string s, .slice a ks.length c] T (0, 0))) (hl : LiesF V (.node k n s ks) (.agg #[.int .i64 k, .int .i64 n, .string s, .slice a ks.length c])) : ListF V (.slice (some ⟨g, 0, none⟩) 1 1) [.node k n s ks] := by
  refine ⟨by simp, some ⟨g, 0, none⟩, 1, rfl, fun _ => ⟨g, 0, rfl, ⟨_, _, hb⟩, ⟨a, c, ?_, ?_, ?_, ?_, hl⟩, trivial⟩⟩ <;> simp [World.cell?, hb, Tree.kind, Tree.num, Tree.name, Tree.kids]
theorem two_lists {w V : World} {k n k' n' : Int} {s s' : ByteArray} {ks ks' : List Tree} {aa ba : Option Addr} {ac bc : Nat} (h1 : LiesF w (.node k n s ks) (.agg #[.int .i64 k, .int .i64 n, .string s, .slice aa ks.length ac])) (h2 : LiesF w (.node k' n' s' ks') (.agg #[.int .i64 k', .int .i64 n', .string s', .slice ba ks'.length bc]))
    (hV : V = (((w.alloc (.cells #[.int .i64 k, .int .i64 n, .string s, .slice aa ks.length ac] 72)).alloc (.cells #[.int .i64 k', .int .i64 n', .string s', .slice ba ks'.length bc] 72)).alloc (.cells #[.int .i64 k, .int .i64 n, .string s, .slice aa ks.length ac] 72)).alloc (.cells #[.int .i64 k', .int .i64 n', .string s', .slice ba ks'.length bc] 72)) :
    ListF V (.slice (some ⟨w.heap.size + 1 + 1, 0, none⟩) 1 1) [.node k n s ks] ∧ ListF V (.slice (some ⟨w.heap.size + 1 + 1 + 1, 0, none⟩) 1 1) [.node k' n' s' ks'] ∧ Below w.heap.size w V := by
  have bV : Below w.heap.size w V := by
    rw [hV]
    exact ((((Below.refl _ _).alloc (Nat.le_refl _) _).alloc (by simp) _).alloc (by simp <;> omega) _).alloc (by simp <;> omega) _
  have m2 : V.heap[w.heap.size + 1 + 1]? = some (.cells #[.int .i64 k, .int .i64 n, .string s, .slice aa ks.length ac] 72 (0, 0)) := by
    rw [hV]
    exact SpT.blk_at (by simp) (by have := heap_alloc_new ((w.alloc (.cells #[.int .i64 k, .int .i64 n, .string s, .slice aa ks.length ac] 72)).alloc (.cells #[.int .i64 k', .int .i64 n', .string s', .slice ba ks'.length bc] 72)) (.cells #[.int .i64 k, .int .i64 n, .string s, .slice aa ks.length ac] 72); simpa using this)
  have m3 : V.heap[w.heap.size + 1 + 1 + 1]? = some (.cells #[.int .i64 k', .int .i64 n', .string s', .slice ba ks'.length bc] 72 (0, 0)) := by
    rw [hV]
    have := heap_alloc_new (((w.alloc (.cells #[.int .i64 k, .int .i64 n, .string s, .slice aa ks.length ac] 72)).alloc (.cells #[.int .i64 k', .int .i64 n', .string s', .slice ba ks'.length bc] 72)).alloc (.cells #[.int .i64 k, .int .i64 n, .string s, .slice aa ks.length ac] 72)) (.cells #[.int .i64 k', .int .i64 n', .string s', .slice ba ks'.length bc] 72)
    simpa using this
  exact ⟨one_list m2 (h1.keep (keepF_below bV)), one_list m3 (h2.keep (keepF_below bV)), bV⟩
theorem implSame_any (t u : Tree) (v x : Value) (w : World) (hz : szT t ≤ 1048576) (h1 : LiesF w t v) (h2 : LiesF w u x) :
    Calls Try.prog 75 #[v, x] w fun e w' => e = .returned (.bool (sameT t u)) ∧ Below w.heap.size w w' := by
  have hdp := Lib.hid (deep_one (t := t) (u := u))
  have hwt : Lg.wt KT [([t], [u])] ≤ 3000000 := by
    have := kdT_le t
    have h2 := ndL_kt [t]
    simp only [Lg.wt]
    rw [h2]
    simp only [kdL]
    omega
  obtain ⟨k, n, s, ks⟩ := t
  obtain ⟨k', n', s', ks'⟩ := u
  have L1 := h1
  have L2 := h2
  obtain ⟨_, aa, ac, rfl, _⟩ := h1
  obtain ⟨_, ba, bc, rfl, _⟩ := h2
  obtain ⟨V, hV⟩ : ∃ V, V = (((w.alloc (.cells #[.int .i64 k, .int .i64 n, .string s, .slice aa ks.length ac] 72)).alloc (.cells #[.int .i64 k', .int .i64 n', .string s', .slice ba ks'.length bc] 72)).alloc (.cells #[.int .i64 k, .int .i64 n, .string s, .slice aa ks.length ac] 72)).alloc (.cells #[.int .i64 k', .int .i64 n', .string s', .slice ba ks'.length bc] 72) := ⟨_, rfl⟩
  obtain ⟨l1, l2, bV⟩ := two_lists L1 L2 hV
  have HV := Lib.hid hV
  have HB := Lib.hid bV
  have C := Lib.hid (SpT.implLists_any ([.node k n s ks], [.node k' n' s' ks']) _ _ V hwt l1 l2 trivial)
  clear L1 L2 hV l1 l2 bV hwt hz
  go_enter Try.func75, Try.ntmps75
  go_wp2_with fail
  rw [← HV.out]
  refine C.out.mono ?_
  rintro e w1 ⟨⟨c, rfl, hc⟩, hb⟩
  have HE : Hid (c = sameT (.node k n s ks) (.node k' n' s' ks')) := by
    show _ = _
    have h := hc.trans hdp.out
    cases c <;> cases hs : sameT (.node k n s ks) (.node k' n' s' ks') <;> simp [hs] at h ⊢
  have HB1 := Lib.hid (HB.out.trans (hb.mono HB.out.size))
  clear hc hb
  go_wp2
  go_ret
  exact ⟨ret_b HE.out, HB1.out⟩
end Go.Proofs.Ytpbhoomhcdljoaa.Trm
