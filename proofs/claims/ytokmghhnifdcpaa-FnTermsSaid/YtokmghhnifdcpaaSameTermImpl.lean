/- The program's SameTerm, walked. Conditions: both terms lie in rows that are not frozen; the first has at most 2 to the 20 kids and bytes. -/
import Derived.Test.YtokmghhnifdcpaaSameEq
import Derived.Test.YtokmghhnifdcpaaStrCells
import Derived.Test.YtokmghhnifdcpaaTermReads
import Derived.Deep.RegionHeld3
import Derived.Deep.DeepCutAuto
namespace Go.Proofs.Ytokmghhnifdcpaa.Trm
open Go.RowKit Own
theorem infoPair : (Try.prog.info? 63).map (fun i => (i.zero, i.size, i.bytes)) = some (some (.agg #[.slice none 0 0, .slice none 0 0]), 2, 48) := by kernel_rfl
/-- What the loop keeps. -/
def RelO (V w : World) (M : Nat) (r : List Tree × List Tree) (n : Nat) (x : Value) (wr : World) : Prop :=
  ∃ (es : List Ent) (ms : List (List Tree × List Tree)), Gh r ms (es.map Ent.p) ∧ wtL (es.map Ent.p) = n ∧ n ≤ 2000000 ∧ (∀ e, e ∈ es → e.ok V) ∧ wr.ownsRow V.heap.size 63 2 x es.length (entV es) ∧ WInv V w M ms wr
def RelI (V w : World) (M : Nat) (r : List Tree × List Tree) (e : Ent) (n b j : Nat) (x : Value) (wr : World) : Prop :=
  ∃ (es : List Ent) (ms : List (List Tree × List Tree)), Gi r ms (es.map Ent.p) e.p j ∧ wtL (es.map Ent.p) + ndL (e.p.1.drop j) < n ∧ (∀ e, e ∈ es → e.ok V) ∧ wr.ownsRow V.heap.size 63 2 x es.length (entV es) ∧ WInv V w M ms wr ∧
    wr.cell? ⟨b, 0, none⟩ = some e.va ∧ wr.cell? ⟨b, 1, none⟩ = some e.vb ∧ x.ownBlock ≠ some b
/-- A list of one term, laid anew. -/
theorem one_list {V : World} {g : Nat} {k n : Int} {s : ByteArray} {ks : List Tree} {a : Option Addr} {c : Nat} {T : TypeId} (hb : V.heap[g]? = some (.cells #[.int .i64 k, .int .i64 n, .string s, .slice a ks.length c] T (0, 0))) (hl : LiesF V (.node k n s ks) (.agg #[.int .i64 k, .int .i64 n, .string s, .slice a ks.length c])) : ListF V (.slice (some ⟨g, 0, none⟩) 1 1) [.node k n s ks] := by
  refine ⟨by simp, some ⟨g, 0, none⟩, 1, rfl, fun _ => ⟨g, 0, rfl, ⟨_, _, hb⟩, ⟨a, c, ?_, ?_, ?_, ?_, hl⟩, trivial⟩⟩ <;> simp [World.cell?, hb, Tree.kind, Tree.num, Tree.name, Tree.kids]
theorem row_cap {w : World} {base : Nat} {e : TypeId} {size n m cap : Nat} {a : Option Addr} {xs : List Value} (h : w.ownsRow base e size (.slice a m cap) n xs) : n ≤ cap := by
  rcases h.2 with ⟨e1, e2⟩ | ⟨g, cap', cur, e1, h1, h2, h3, _⟩
  · omega
  · simp at e1
    omega
theorem blk_at {W : World} {b : Nat} {o o' : Obj} {z : Nat} (_ : W.heap.size = z) (hb : b < W.heap.size) (h : W.heap[b]? = some o) : (W.alloc o').heap[b]? = some o := by
  rw [((Below.refl W.heap.size W).alloc (Nat.le_refl _) o').block b hb]; exact h
theorem same_start (w V : World) (k n k' n' : Int) (s s' : ByteArray) (ks ks' : List Tree) (aa ba : Option Addr) (ac bc : Nat) (hz : szT (.node k n s ks) ≤ 1048576) (h1 : LiesF w (.node k n s ks) (.agg #[.int .i64 k, .int .i64 n, .string s, .slice aa ks.length ac])) (h2 : LiesF w (.node k' n' s' ks') (.agg #[.int .i64 k', .int .i64 n', .string s', .slice ba ks'.length bc]))
    (hV : V = ((((w.alloc (.cells #[.int .i64 k, .int .i64 n, .string s, .slice aa ks.length ac] 26)).alloc (.cells #[.int .i64 k', .int .i64 n', .string s', .slice ba ks'.length bc] 26)).alloc (.map #[] 0)).alloc (.cells #[.int .i64 k, .int .i64 n, .string s, .slice aa ks.length ac] 26)).alloc (.cells #[.int .i64 k', .int .i64 n', .string s', .slice ba ks'.length bc] 26)) :
    Ctx V w (w.heap.size + 1 + 1) ∧ V.heap.size = w.heap.size + 1 + 1 + 1 + 1 + 1 ∧ ∃ m, RelO V w (w.heap.size + 1 + 1) ([.node k n s ks], [.node k' n' s' ks']) m (.slice (some ⟨w.heap.size + 1 + 1 + 1 + 1 + 1, 0, none⟩) 1 1) (V.alloc (.cells #[.slice (some ⟨w.heap.size + 1 + 1 + 1, 0, none⟩) 1 1, .slice (some ⟨w.heap.size + 1 + 1 + 1 + 1, 0, none⟩) 1 1] 63)) := by
  have hs : V.heap.size = w.heap.size + 1 + 1 + 1 + 1 + 1 := by rw [hV]; simp
  have bV : Below w.heap.size w V := by
    rw [hV]
    exact (((((Below.refl _ _).alloc (Nat.le_refl _) _).alloc (by simp) _).alloc (by simp <;> omega) _).alloc (by simp <;> omega) _).alloc (by simp <;> omega) _
  have m1 : V.heap[w.heap.size + 1 + 1]? = some (.map #[] 0) := by
    rw [hV]
    exact blk_at rfl (by simp <;> omega) (blk_at rfl (by simp <;> omega) (by have := heap_alloc_new ((w.alloc (.cells #[.int .i64 k, .int .i64 n, .string s, .slice aa ks.length ac] 26)).alloc (.cells #[.int .i64 k', .int .i64 n', .string s', .slice ba ks'.length bc] 26)) (.map #[] 0); simpa using this))
  have m2 : V.heap[w.heap.size + 1 + 1 + 1]? = some (.cells #[.int .i64 k, .int .i64 n, .string s, .slice aa ks.length ac] 26 (0, 0)) := by
    rw [hV]
    exact blk_at rfl (by simp) (by have := heap_alloc_new (((w.alloc (.cells #[.int .i64 k, .int .i64 n, .string s, .slice aa ks.length ac] 26)).alloc (.cells #[.int .i64 k', .int .i64 n', .string s', .slice ba ks'.length bc] 26)).alloc (.map #[] 0)) (.cells #[.int .i64 k, .int .i64 n, .string s, .slice aa ks.length ac] 26); simpa using this)
  have m3 : V.heap[w.heap.size + 1 + 1 + 1 + 1]? = some (.cells #[.int .i64 k', .int .i64 n', .string s', .slice ba ks'.length bc] 26 (0, 0)) := by
    rw [hV]
    have := heap_alloc_new ((((w.alloc (.cells #[.int .i64 k, .int .i64 n, .string s, .slice aa ks.length ac] 26)).alloc (.cells #[.int .i64 k', .int .i64 n', .string s', .slice ba ks'.length bc] 26)).alloc (.map #[] 0)).alloc (.cells #[.int .i64 k, .int .i64 n, .string s, .slice aa ks.length ac] 26)) (.cells #[.int .i64 k', .int .i64 n', .string s', .slice ba ks'.length bc] 26)
    simpa using this
  have cx : Ctx V w (w.heap.size + 1 + 1) := ⟨⟨_, _, m1⟩, by omega, by omega⟩
  refine ⟨cx, hs, _, [⟨.slice (some ⟨w.heap.size + 1 + 1 + 1, 0, none⟩) 1 1, .slice (some ⟨w.heap.size + 1 + 1 + 1 + 1, 0, none⟩) 1 1, ([.node k n s ks], [.node k' n' s' ks'])⟩], [([.node k n s ks], [.node k' n' s' ks'])], Gh.start _, rfl, ?_, ?_, ?_, ?_⟩
  · have := ndT_le (.node k n s ks)
    simp [wtL, ndL]; omega
  · intro e he
    simp at he
    subst he
    exact ⟨one_list m2 (h1.keep (keepF_below bV)), one_list m3 (h2.keep (keepF_below bV))⟩
  · have := World.ownsRow_lit (base := V.heap.size) (size := 2) (e := 63) V #[.slice (some ⟨w.heap.size + 1 + 1 + 1, 0, none⟩) 1 1, .slice (some ⟨w.heap.size + 1 + 1 + 1 + 1, 0, none⟩) 1 1] 1 (Nat.le_refl _) (by decide) rfl
    rw [hs] at this
    rw [hs]
    exact this
  · exact WInv.alloc cx ⟨KeepF.refl _, bV, ⟨#[], 0, m1, fun x hx => by simp at hx⟩, Nat.le_refl _⟩ _
theorem ListF.at {w : World} {ts : List Tree} {a : Option Addr} {n c : Nat} (h : ListF w (.slice a n c) ts) (hp : 0 < ts.length) : ∃ g o, a = some ⟨g, o, none⟩ ∧ FreeB w g ∧ LiesLF w g o ts := by
  obtain ⟨_, a', c', e, hf⟩ := h
  simp at e
  obtain ⟨rfl, _, _⟩ := e
  exact hf hp
theorem cell_noMap {w : World} {b M : Nat} {i : Nat} {u : Value} {es : Array MapEntry} {k : Nat} (h : w.cell? ⟨b, i, none⟩ = some u) (hm : w.heap[M]? = some (.map es k)) : b ≠ M := fun e => by
  subst e
  simp [World.cell?, hm] at h
theorem cell_grown {w w' : World} {row : Option Nat} {b i : Nat} {u : Value} (h : w.cell? ⟨b, i, none⟩ = some u) (hg : w.grownBy w' row) (hn : some b ≠ row) : w'.cell? ⟨b, i, none⟩ = some u := by
  rw [World.cell?_of_block (hg.block b (cell_lt h) hn)]; exact h
theorem two_cells (a b : Option Addr) (n m c d : Nat) : ∀ u ∈ [Value.slice a n c, Value.slice b m d], u.oneCell' = true := by
  intro u hu
  simp at hu
  rcases hu with rfl | rfl <;> rfl
theorem last_of {α : Type} : ∀ (l : List α), l ≠ [] → ∃ l' e, l = l' ++ [e]
  | [], h => absurd rfl h
  | [a], _ => ⟨[], a, rfl⟩
  | a :: b :: r, _ => by
    obtain ⟨l', e, h⟩ := last_of (b :: r) (by simp)
    exact ⟨a :: l', e, by rw [h]; rfl⟩
set_option maxRecDepth 20000 in
set_option maxHeartbeats 1600000 in
theorem implSame_any (t u : Tree) (v x : Value) (w : World) (hz : szT t ≤ 1048576) (h1 : LiesF w t v) (h2 : LiesF w u x) :
    Calls Try.prog 18 #[v, x] w fun e w' => e = .returned (.bool (sameT t u)) ∧ Below w.heap.size w w' := by
  obtain ⟨i0, hi, hz0, hz1, hz2⟩ := info_parts infoPair
  have HR : Hid (deepP ([t], [u]) = sameT t u) := by show _ = _; simp [deepP, sameL]
  obtain ⟨k, n, s, ks⟩ := t
  obtain ⟨k', n', s', ks'⟩ := u
  have L1 := h1
  have L2 := h2
  obtain ⟨_, aa, ac, rfl, _⟩ := h1
  obtain ⟨_, ba, bc, rfl, _⟩ := h2
  obtain ⟨V, hV⟩ : ∃ V, V = ((((w.alloc (.cells #[.int .i64 k, .int .i64 n, .string s, .slice aa ks.length ac] 26)).alloc (.cells #[.int .i64 k', .int .i64 n', .string s', .slice ba ks'.length bc] 26)).alloc (.map #[] 0)).alloc (.cells #[.int .i64 k, .int .i64 n, .string s, .slice aa ks.length ac] 26)).alloc (.cells #[.int .i64 k', .int .i64 n', .string s', .slice ba ks'.length bc] 26) := ⟨_, rfl⟩
  obtain ⟨cx, hVs, m0, hst⟩ := same_start w V k n k' n' s s' ks ks' aa ba ac bc hz L1 L2 hV
  have CX := Lib.hid cx
  have HV := Lib.hid hV
  have HVs := Lib.hid hVs
  have HST := Lib.hid hst
  have hmm := @run_makeMap Try.prog
  generalize ht : Tree.node k n s ks = t at HR HST
  generalize hu : Tree.node k' n' s' ks' = u at HR HST
  have HT := Lib.hid ht
  have HU := Lib.hid hu
  clear L1 L2 hz hV hVs hst cx ht hu
  go_enter Try.func18, Try.ntmps18
  go_wp2
  go_loopw [6] (fun x wr => ∃ n, RelO V w (w.heap.size + 1 + 1) ([t], [u]) n x wr) (fun x wr => leastN fun n => RelO V w (w.heap.size + 1 + 1) ([t], [u]) n x wr)
  case atStart => rw [← HV.out]; exact ⟨m0, HST.out⟩
  case round =>
    have hR := leastN_at hrel
    obtain ⟨n0, hn0⟩ : ∃ n0, n0 = leastN fun n => RelO V w (w.heap.size + 1 + 1) ([t], [u]) n u6 wr := ⟨_, rfl⟩
    rw [← hn0] at hR
    have HN0 := Lib.hid hn0
    obtain ⟨es, ms, hgh, hwt, hnb, hok, hrow, hwi⟩ := hR
    have HNBD := Lib.hid hnb
    obtain ⟨oa, oc, rfl, hoa⟩ := row_shape hrow
    by_cases hes : es = []
    · subst hes
      have HQ : Hid (sameT t u = true) := by show _ = _; rw [← HR.out]; exact hgh.yes
      have HB := Lib.hid hwi.below
      clear hrel hn0 hgh hwt hnb hok hrow hwi hoa
      simp only [List.length_nil]
      go_wp2
      go_ret
      exact ⟨ret_b HQ.out.symm, HB.out⟩
    · obtain ⟨es, ⟨va, vb, ts, us⟩, rfl⟩ := last_of es hes
      obtain ⟨g, rfl⟩ := hoa (by simp)
      have hw2 := wtL_append (es.map Ent.p) [(ts, us)]
      have hK : es.length ≤ 2000000 := by
        have := wtL_len (es.map Ent.p)
        simp [wtL] at hw2 hwt this
        omega
      rw [List.length_append, List.length_singleton, entV_snoc] at hrow
      have hcap : es.length ≤ oc := by have := row_cap hrow; omega
      have c0 : wr.cell? ⟨g, es.length * 2, none⟩ = some va := by
        rw [hrow.cellAt (es.length * 2) (by omega)]; simp [entV_len]
      have c1 : wr.cell? ⟨g, es.length * 2 + 1, none⟩ = some vb := by
        rw [hrow.cellAt (es.length * 2 + 1) (by omega), List.getElem?_append_right (by rw [entV_len]; omega), entV_len]; simp
      obtain ⟨oka, okb⟩ : ListF V va ts ∧ ListF V vb us := hok ⟨va, vb, ts, us⟩ (by simp)
      have HOA := Lib.hid oka
      have HOB := Lib.hid okb
      obtain ⟨va1, vaa, vac, rfl, vaf⟩ := oka
      obtain ⟨vb1, vba, vbc, rfl, vbf⟩ := okb
      have HFA := Lib.hid vaf
      have HFB := Lib.hid vbf
      have hpre := row_prefix (n := es.length) (n' := 1) (xs := entV es) hrow (entV_len es) (by omega)
      have HPRE := Lib.hid hpre
      have hok' : Hid (∀ e, e ∈ es → e.ok V) := fun e he => hok e (by simp [he])
      have HROW := Lib.hid hrow
      have HWI := Lib.hid hwi
      have HGH : Hid (Gh ([t], [u]) ms (es.map Ent.p ++ [(ts, us)])) := by show Gh _ _ _; simpa using hgh
      have HWT : Hid (n0 = wtL (es.map Ent.p) + (ndL ts + 1)) := by show _ = _; rw [← hwt, List.map_append]; simp [wtL_append, wtL]
      clear hrel hn0 hgh hwt hnb hok hrow hwi hoa hw2 hes vaf vbf hpre
      simp only [List.length_append, List.length_singleton]
      clear hmm
      have HI := Lib.hid hi
      have HZ0 := Lib.hid hz0
      have HZ1 := Lib.hid hz1
      have HZ2 := Lib.hid hz2
      clear hi hz0 hz1 hz2
      obtain ⟨K, hKe⟩ : ∃ K, K = es.length := ⟨_, rfl⟩
      have HK := Lib.hid hKe
      rw [← hKe] at hK c0 c1 hcap ⊢
      clear hKe
      have W1 := Lib.hid (HWI.out.alloc CX.out (.cells #[.slice vaa ts.length vac, .slice vba us.length vbc] 63))
      have CE := Lib.hid (implEqF_any (ts, us) _ _ _ (HOA.out.keep W1.out.keep) (HOB.out.keep W1.out.keep))
      cases hq : shalP (ts, us) with
      | false =>
        have HQ : Hid (sameT t u = false) := by show _ = _; rw [← HR.out]; exact HGH.out.no hq
        rw [hq] at CE
        clear hq
        go_wp2_with fail
        refine CE.out.mono ?_
        rintro e w1 ⟨rfl, hb⟩
        have W2 := Lib.hid (W1.out.belowW CX.out hb)
        clear hb
        go_wp2
        go_ret
        exact ⟨ret_b HQ.out.symm, W2.out.below⟩
      | true =>
        have HGI := Lib.hid (HGH.out.begin hq)
        rw [hq] at CE
        clear hq
        go_wp2_with fail
        refine CE.out.mono ?_
        rintro e w1 ⟨rfl, hb⟩
        have W2 := Lib.hid (W1.out.belowW CX.out hb)
        have X2 : Hid (w1.cell? ⟨wr.heap.size, 0, none⟩ = some (.slice vaa ts.length vac) ∧ w1.cell? ⟨wr.heap.size, 1, none⟩ = some (.slice vba us.length vbc)) := by
          show _ ∧ _
          have hk := keeps_below hb
          exact ⟨hk _ _ (by simp [go_sem]), hk _ _ (by simp [go_sem])⟩
        have R2 := Lib.hid (row_below (HPRE.out.alloc _) hb)
        have NB : Hid ((Value.slice (some ⟨g, 0, none⟩) K oc).ownBlock ≠ some wr.heap.size) := by
          show _ ≠ _
          rw [HK.out]
          exact row_not HPRE.out
        obtain ⟨B, hB⟩ : ∃ B, B = wr.heap.size := ⟨_, rfl⟩
        rw [← hB] at X2 NB ⊢
        obtain ⟨x0, x1⟩ := X2.out
        clear hb hB
        go_wp2
        go_loopw [6, 41] (fun x i wy => ∃ j : Nat, j ≤ ts.length ∧ i = .int .i64 j ∧ RelI V w (w.heap.size + 1 + 1) ([t], [u]) ⟨.slice vaa ts.length vac, .slice vba us.length vbc, (ts, us)⟩ n0 B j x wy)
          (fun _ i _ => ts.length - (intOf i).toNat)
        case atStart => exact ⟨0, Nat.zero_le _, rfl, es, ms, HGI.out, by rw [HWT.out]; simp, hok'.out, by rw [HK.out]; exact R2.out, W2.out, x0, x1, NB.out⟩
        case round =>
          obtain ⟨j, hj, rfl, es2, ms2, hgi, hwt2, hok2, hrow2, hwi2, b0, b1, hnb⟩ := hrel
          have HGI2 := Lib.hid hgi
          have HWT2 := Lib.hid hwt2
          have HOK2 := Lib.hid hok2
          have HROW2 := Lib.hid hrow2
          have HWI2 := Lib.hid hwi2
          have HNB2 := Lib.hid hnb
          have hsh := hgi.shal
          unfold shalP at hsh
          rw [Bool.and_eq_true] at hsh
          obtain ⟨hlen, hshl⟩ := hsh
          have hlen2 : ts.length = us.length := by simpa using hlen
          by_cases hlt : j < ts.length
          · have hlt2 : j < us.length := by omega
            have hkl : ts[j].kids.length = us[j].kids.length := by
              have := shalL_at hshl j hlt hlt2
              unfold shal at this
              simp only [Bool.and_eq_true, decide_eq_true_eq] at this
              exact this.2
            obtain ⟨g1, o1, rfl, f1, l1⟩ := HFA.out (by omega)
            obtain ⟨g2, o2, rfl, f2, l2⟩ := HFB.out (by omega)
            obtain ⟨ka, kc, _, _, _, p3, lk⟩ := l1.at j hlt
            obtain ⟨la, lc, _, _, _, q3, lm⟩ := l2.at j hlt2
            rw [← f1.cell hwi2.keep] at p3
            rw [← f2.cell hwi2.keep] at q3
            have LKA := Lib.hid lk.kids
            have LKB := Lib.hid lm.kids
            have HKL := Lib.hid hkl
            obtain ⟨ta, hta⟩ : ∃ ta, ta = ts[j].kids := ⟨_, rfl⟩
            obtain ⟨tb, htb⟩ : ∃ tb, tb = us[j].kids := ⟨_, rfl⟩
            have HTA := Lib.hid hta
            have HTB := Lib.hid htb
            rw [← hta] at p3 LKA HKL
            rw [← htb] at q3 LKB HKL
            rw [← HKL.out] at q3
            clear hgi hwt2 hok2 hrow2 hwi2 hnb hlen hshl hlen2 hkl f1 l1 f2 l2 lk lm hta htb
            go_wp2_with fail
            go_region_held3 (fun wx => wx.cell? ⟨B, 0, none⟩ = some (.slice (some ⟨g1, o1, none⟩) ts.length vac) ∧ wx.cell? ⟨B, 1, none⟩ = some (.slice (some ⟨g2, o2, none⟩) us.length vbc) ∧ wx.cell? ⟨g1, o1 + j * 4 + 3, none⟩ = some (.slice ka ta.length kc) ∧ wx.cell? ⟨g2, o2 + j * 4 + 3, none⟩ = some (.slice la ta.length lc))
              (go_keep)
              (first | fail)
            obtain ⟨W3, hW3⟩ : ∃ W3, W3 = (wr.alloc (.cells #[.slice ka ta.length kc, .slice la ta.length lc] 63)).drew := ⟨_, rfl⟩
            rw [← hW3]
            have y0 : W3.cell? ⟨wr.heap.size, 0, none⟩ = some (.slice ka ta.length kc) := by rw [hW3]; simp [go_sem]
            have y1 : W3.cell? ⟨wr.heap.size, 1, none⟩ = some (.slice la ta.length lc) := by rw [hW3]; simp [go_sem]
            have d0 : W3.cell? ⟨B, 0, none⟩ = some (.slice (some ⟨g1, o1, none⟩) ts.length vac) := by rw [hW3]; exact keeps_alloc _ _ _ _ b0
            have d1 : W3.cell? ⟨B, 1, none⟩ = some (.slice (some ⟨g2, o2, none⟩) us.length vbc) := by rw [hW3]; exact keeps_alloc _ _ _ _ b1
            have I3 : Hid (WInv V w (w.heap.size + 1 + 1) ms2 W3) := by show WInv _ _ _ _ _; rw [hW3]; exact (HWI2.out.alloc CX.out _).drew
            have R3 : Hid (W3.ownsRow V.heap.size 63 2 u6 es2.length (entV es2)) := by show World.ownsRow _ _ _ _ _ _ _; rw [hW3]; exact (HROW2.out.alloc _).drew
            have NC := Lib.hid (row_not HROW2.out)
            obtain ⟨C, hC⟩ : ∃ C, C = wr.heap.size := ⟨_, rfl⟩
            rw [← hC] at y0 y1 NC ⊢
            have HND := Lib.hid (ndL_drop hlt)
            clear hW3 hC b0 b1 p3 q3
            by_cases hk0 : ta.length = 0
            · have hz1 : ((ta.length : Int) == 0) = true := by rw [hk0]; rfl
              have HE : Hid (ts[j].kids = []) := by show _ = _; rw [← HTA.out]; exact List.length_eq_zero_iff.1 hk0
              clear hk0
              go_wp2
              go_roundw
              case rel => exact ⟨j + 1, by omega, by go_num, es2, ms2, HGI2.out.skip (fun _ _ => .inl HE.out), by have := HWT2.out; have := HND.out; simp only at this ⊢; omega, HOK2.out, R3.out, I3.out, d0, d1, HNB2.out⟩
              case measure => simp [intOf]; omega
            · obtain ⟨g3, o3, rfl, f3, l3⟩ := LKA.out.at (by omega)
              obtain ⟨g4, o4, rfl, f4, l4⟩ := LKB.out.at (by have := HKL.out; omega)
              have hz1 : ((ta.length : Int) == 0) = false := ne_true (by omega)
              have hp1 : 0 < ta.length := by omega
              have F3 := Lib.hid f3
              have F4 := Lib.hid f4
              have L3 := Lib.hid l3
              have L4 := Lib.hid l4
              clear f3 f4 l3 l4 hk0
              go_wp2_with fail
              go_region_held3 (fun wx => wx.cell? ⟨C, 0, none⟩ = some (.slice (some ⟨g3, o3, none⟩) ta.length kc) ∧ wx.cell? ⟨C, 1, none⟩ = some (.slice (some ⟨g4, o4, none⟩) ta.length lc))
                (go_keep)
                (first | fail)
              obtain ⟨W4, hW4⟩ : ∃ W4, W4 = (W3.alloc (.cells #[.pointer (some ⟨g3, o3, none⟩), .pointer (some ⟨g4, o4, none⟩), .int .i64 (ta.length : Int)] 68)).drew := ⟨_, rfl⟩
              rw [← hW4]
              have z0 : W4.cell? ⟨W3.heap.size, 0, none⟩ = some (.pointer (some ⟨g3, o3, none⟩)) := by rw [hW4]; simp [go_sem]
              have z1 : W4.cell? ⟨W3.heap.size, 1, none⟩ = some (.pointer (some ⟨g4, o4, none⟩)) := by rw [hW4]; simp [go_sem]
              have z2 : W4.cell? ⟨W3.heap.size, 2, none⟩ = some (.int .i64 (ta.length : Int)) := by rw [hW4]; simp [go_sem]
              have k4 : Keeps W3 W4 := by rw [hW4]; exact keeps_alloc _ _
              have I4 : Hid (WInv V w (w.heap.size + 1 + 1) ms2 W4) := by show WInv _ _ _ _ _; rw [hW4]; exact (I3.out.alloc CX.out _).drew
              have R4 : Hid (W4.ownsRow V.heap.size 63 2 u6 es2.length (entV es2)) := by show World.ownsRow _ _ _ _ _ _ _; rw [hW4]; exact (R3.out.alloc _).drew
              have D4 : Hid (W4.cell? ⟨B, 0, none⟩ = some (.slice (some ⟨g1, o1, none⟩) ts.length vac) ∧ W4.cell? ⟨B, 1, none⟩ = some (.slice (some ⟨g2, o2, none⟩) us.length vbc)) := ⟨k4 _ _ d0, k4 _ _ d1⟩
              have Y4 : Hid (W4.cell? ⟨C, 0, none⟩ = some (.slice (some ⟨g3, o3, none⟩) ta.length kc) ∧ W4.cell? ⟨C, 1, none⟩ = some (.slice (some ⟨g4, o4, none⟩) ta.length lc)) := ⟨k4 _ _ y0, k4 _ _ y1⟩
              obtain ⟨E, hE⟩ : ∃ E, E = W3.heap.size := ⟨_, rfl⟩
              rw [← hE] at z0 z1 z2 ⊢
              obtain ⟨me, mk, hm1, hm2⟩ := I4.out.map
              have HM1 := Lib.hid hm1
              have HM2 := Lib.hid hm2
              have FW3 := F3.out.keep I4.out.keep
              have FW4 := F4.out.keep I4.out.keep
              clear hW4 hE k4 d0 d1 y0 y1 hm1 hm2
              obtain ⟨c, hrun, h3, h4⟩ := run_met (p := ⟨g3, o3, none⟩) (q := ⟨g4, o4, none⟩) (n := (ta.length : Int)) HM1.out (KeyOk.met I4.out.keep HM2.out) FW3 FW4
              unfold kidKey at hrun
              cases c with
              | true =>
                have HIN : Hid (kidP (ts, us) j hlt hlt2 ∈ ms2) := by
                  show _ ∈ _
                  obtain ⟨x, hx, hk⟩ := h3 rfl
                  have := key_met (p := (ta, tb)) (HM2.out x hx) hk L3.out L4.out HKL.out
                  rw [HTA.out, HTB.out] at this
                  exact this
                clear h3 h4 FW3 FW4
                go_wp2
                go_roundw
                case rel => exact ⟨j + 1, by omega, by go_num, es2, ms2, HGI2.out.skip (fun _ _ => .inr HIN.out), by have := HWT2.out; have := HND.out; simp only at this ⊢; omega, HOK2.out, R4.out, I4.out, D4.out.1, D4.out.2, HNB2.out⟩
                case measure => simp [intOf]; omega
              | false =>
                obtain ⟨w5, x5, hrun5, m5, k5, v5, g5⟩ := run_meet (p := ⟨g3, o3, none⟩) (q := ⟨g4, o4, none⟩) (n := (ta.length : Int)) HM1.out (KeyOk.met I4.out.keep HM2.out) FW3 FW4 (h4 rfl)
                unfold kidKey at hrun5
                have I5 : Hid (WInv V w (w.heap.size + 1 + 1) ((ta, tb) :: ms2) w5) := WInv.meet CX.out I4.out g5 HM1.out HM2.out m5 ⟨g3, o3, g4, o4, (ta, tb), k5, v5, F3.out, F4.out, L3.out, L4.out, HKL.out, by simp⟩
                have R5 : Hid (w5.ownsRow V.heap.size 63 2 u6 es2.length (entV es2)) := row_same R4.out fun b hb => g5.block b (R4.out.lt b hb).2 (fun e => by cases e; have := (R4.out.lt _ hb).1; have := CX.out.lt; omega)
                have D5 : Hid (w5.cell? ⟨B, 0, none⟩ = some (.slice (some ⟨g1, o1, none⟩) ts.length vac) ∧ w5.cell? ⟨B, 1, none⟩ = some (.slice (some ⟨g2, o2, none⟩) us.length vbc)) :=
                  ⟨cell_grown D4.out.1 g5 (fun e => cell_noMap D4.out.1 HM1.out (by cases e; rfl)), cell_grown D4.out.2 g5 (fun e => cell_noMap D4.out.1 HM1.out (by cases e; rfl))⟩
                have y0 := cell_grown Y4.out.1 g5 (fun e => cell_noMap Y4.out.1 HM1.out (by cases e; rfl))
                have y1 := cell_grown Y4.out.2 g5 (fun e => cell_noMap Y4.out.1 HM1.out (by cases e; rfl))
                have hle : es2.length ≤ 2000000 := by
                  have h1 := wtL_len (es2.map Ent.p)
                  rw [List.length_map] at h1
                  have := HWT2.out
                  have := HNBD.out
                  omega
                have hVs5 : V.heap.size ≤ w5.heap.size := I5.out.size
                clear h3 h4 FW3 FW4 m5 k5 v5 g5
                go_wp2_with (at_builtin; refine wpList_append_lies _ rfl (.tmp 77) (.tmp 79) 64 rfl V.heap.size 63 i0 (.agg #[.slice none 0 0, .slice none 0 0]) 2 48 Try.underlying64 HI.out HZ0.out HZ1.out HZ2.out rfl (by decide) u6 es2.length _ rfl (R5.out.alloc _) ⟨w5.heap.size, 0, none⟩ 1 1 [.slice (some ⟨g3, o3, none⟩) ta.length kc, .slice (some ⟨g4, o4, none⟩) ta.length lc] rfl rfl (World.news_of_block (heap_alloc_new _ _)) (two_cells _ _ _ _ _ _) (by decide) (by unfold maxLen; omega) (by omega) (by simp; omega) _ rfl ?_)
                intro g6 cap6 w6 hown6 hg6 hat6 hlt6
                have hB5 : B < w5.heap.size := cell_lt D5.out.1
                have I6 := Lib.hid ((I5.out.alloc CX.out _).grown CX.out hg6 (fun b hb => (R5.out.lt b hb).1))
                have D6 : Hid (w6.cell? ⟨B, 0, none⟩ = some (.slice (some ⟨g1, o1, none⟩) ts.length vac) ∧ w6.cell? ⟨B, 1, none⟩ = some (.slice (some ⟨g2, o2, none⟩) us.length vbc)) :=
                  ⟨cell_grown (keeps_alloc _ _ _ _ D5.out.1) hg6 (fun e => HNB2.out e.symm), cell_grown (keeps_alloc _ _ _ _ D5.out.2) hg6 (fun e => HNB2.out e.symm)⟩
                have N6 : Hid ((Value.slice (some ⟨g6, 0, none⟩) (es2.length + 1) cap6).ownBlock ≠ some B) := by
                  show _ ≠ _
                  intro e
                  have e2 : g6 = B := by simpa [Value.ownBlock] using e
                  rcases hat6 with h | h
                  · exact HNB2.out (by rw [h, e2])
                  · omega
                have R6 : Hid (w6.ownsRow V.heap.size 63 2 (.slice (some ⟨g6, 0, none⟩) (es2.length + 1) cap6) (es2 ++ [(⟨.slice (some ⟨g3, o3, none⟩) ta.length kc, .slice (some ⟨g4, o4, none⟩) ta.length lc, (ta, tb)⟩ : Ent)]).length (entV (es2 ++ [(⟨.slice (some ⟨g3, o3, none⟩) ta.length kc, .slice (some ⟨g4, o4, none⟩) ta.length lc, (ta, tb)⟩ : Ent)]))) := by
                  show World.ownsRow _ _ _ _ _ _ _
                  rw [entV_snoc, List.length_append]
                  exact hown6
                have OK6 : Hid (∀ e, e ∈ es2 ++ [(⟨.slice (some ⟨g3, o3, none⟩) ta.length kc, .slice (some ⟨g4, o4, none⟩) ta.length lc, (ta, tb)⟩ : Ent)] → e.ok V) := fun e he => by
                  rcases List.mem_append.1 he with h | h
                  · exact HOK2.out e h
                  · simp at h
                    subst h
                    exact ⟨LKA.out, by show ListF _ _ _; rw [HKL.out]; exact LKB.out⟩
                have GI6 : Hid (Gi ([t], [u]) ((ta, tb) :: ms2) ((es2 ++ [(⟨.slice (some ⟨g3, o3, none⟩) ta.length kc, .slice (some ⟨g4, o4, none⟩) ta.length lc, (ta, tb)⟩ : Ent)]).map Ent.p) (ts, us) (j + 1)) := by
                  have := HGI2.out.push hlt hlt2
                  show Gi _ _ _ _ _
                  rw [List.map_append, HTA.out, HTB.out]
                  exact this
                have WT6 : Hid (wtL ((es2 ++ [(⟨.slice (some ⟨g3, o3, none⟩) ta.length kc, .slice (some ⟨g4, o4, none⟩) ta.length lc, (ta, tb)⟩ : Ent)]).map Ent.p) + ndL (ts.drop (j + 1)) < n0) := by
                  show _ < _
                  rw [List.map_append, wtL_append]
                  have h1 := HWT2.out
                  have h2 := HND.out
                  rw [← HTA.out] at h2
                  simp only [List.map_cons, List.map_nil, wtL] at h1 ⊢
                  omega
                clear hown6 hg6 hat6 hlt6 y0 y1
                go_wp2
                go_roundw
                case rel => exact ⟨j + 1, by omega, by go_num, _, _, GI6.out, WT6.out, OK6.out, R6.out, I6.out, D6.out.1, D6.out.2, N6.out⟩
                case measure => simp [intOf]; omega
          · have HG7 := Lib.hid (HGI2.out.done (by show ts.length ≤ j; omega))
            have HW7 : Hid (wtL (es2.map Ent.p) < n0) := by have := HWT2.out; show _ < _; omega
            clear hgi hwt2 hok2 hrow2 hwi2 hnb hlen hshl
            go_wp2
            go_roundw
            case rel => exact ⟨_, es2, ms2, HG7.out, rfl, by have := HW7.out; have := HNBD.out; omega, HOK2.out, HROW2.out, HWI2.out⟩
            case measure =>
              have h1 := HW7.out
              rw [HN0.out] at h1
              simp only [List.length_append, List.length_singleton, ← HK.out] at h1
              refine Nat.lt_of_le_of_lt (leastN_le ⟨es2, ms2, HG7.out, rfl, by have := HW7.out; have := HNBD.out; omega, HOK2.out, HROW2.out, HWI2.out⟩) h1
end Go.Proofs.Ytokmghhnifdcpaa.Trm
