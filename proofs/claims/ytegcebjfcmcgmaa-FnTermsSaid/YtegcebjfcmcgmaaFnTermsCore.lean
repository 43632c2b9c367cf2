/- The law FnTerms out of contracts, walked. Conditions: the code lies in memory; it has at most 2 to the 20 bytes. -/
import Derived.Test.YtegcebjfcmcgmaaSixBlocks
import Derived.Test.YtegcebjfcmcgmaaTextCalls
import Derived.Test.YtegcebjfcmcgmaaDrawPlaces
import Derived.Test.YtegcebjfcmcgmaaDrawTermAll
import Derived.Test.YtegcebjfcmcgmaaTermSame
import Derived.Deep.DeepCutAuto
import Derived.Deep.RegionWith
import Derived.StillTailTactics
import Derived.Deep.RegionHeld3
namespace Go.Proofs.Ytegcebjfcmcgmaa.FnTermsW
open Go.RowKit Own Trm Cur
def namesB : List ByteArray := [⟨#[120]⟩, ⟨#[121]⟩, ⟨#[122]⟩, ⟨#[117]⟩]
def four (p : List Int) : List Int := [p.getD 0 0 % 1000, p.getD 1 0 % 1000, p.getD 2 0 % 1000, p.getD 3 0 % 1000]
theorem bytes_keep {w w' : World} {bs : List UInt8} {v : Value} (h : BytesAt w bs v) (hk : Keeps w w') : BytesAt w' bs v := by
  obtain ⟨a, cap, e, h1, h2⟩ := h
  refine ⟨a, cap, e, h1, fun hp => ?_⟩
  obtain ⟨g, o, e2, h3⟩ := h2 hp
  exact ⟨g, o, e2, fun i hi => hk _ _ (h3 i hi)⟩
theorem get_in {ps : List Int} (hl : ps.length = 12) (hb : ∀ x, x ∈ ps → 0 ≤ x ∧ x ≤ 9999) (k : Nat) (hk : k < 12) : 0 ≤ ps.getD k 0 ∧ ps.getD k 0 ≤ 9999 := by
  have : ps.getD k 0 = ps[k] := by simp [hl, hk]
  rw [this]
  exact hb _ (List.getElem_mem _)
theorem row_get {w : World} {base g cap : Nat} {e : TypeId} {ps : List Int} (h : w.ownsRow base e 1 (.slice (some ⟨g, 0, none⟩) ps.length cap) ps.length (intV ps)) (k : Nat) (hk : k < ps.length) : w.cell? ⟨g, k, none⟩ = some (.int .i64 (ps.getD k 0)) := by
  rw [h.cellAt k (by omega)]
  simp [intV, hk]
theorem names_at (w : World) (x : Obj) : StrsAt ((w.alloc (.cells #[.string ⟨#[120]⟩, .string ⟨#[121]⟩, .string ⟨#[122]⟩, .string ⟨#[117]⟩] 9)).alloc x) namesB (.slice (some ⟨w.heap.size, 0, none⟩) 4 4) := by
  refine ⟨_, 4, rfl, by decide, fun _ => ⟨w.heap.size, 0, rfl, fun i hi => ?_⟩⟩
  have h : ((w.alloc (.cells #[.string ⟨#[120]⟩, .string ⟨#[121]⟩, .string ⟨#[122]⟩, .string ⟨#[117]⟩] 9)).alloc x).heap[w.heap.size]? = some (.cells (namesB.map Value.string).toArray 9 (0, 0)) := (heap_alloc_old _ x (by simp)).trans (heap_alloc_new _ _)
  rw [Nat.zero_add]
  have := row_cell_at h i (by simpa using hi)
  simpa using this
theorem vals_at (w : World) (a b c d : Int) : IntsAt ((w.alloc (.cells #[.string ⟨#[120]⟩, .string ⟨#[121]⟩, .string ⟨#[122]⟩, .string ⟨#[117]⟩] 9)).alloc (.cells #[.int .i64 (a % 1000), .int .i64 (b % 1000), .int .i64 (c % 1000), .int .i64 (d % 1000)] 3)) [a % 1000, b % 1000, c % 1000, d % 1000] (.slice (some ⟨w.heap.size + 1, 0, none⟩) 4 4) := by
  refine ⟨_, 4, rfl, by simp, fun x hx => ?_, fun _ => ⟨w.heap.size + 1, 0, rfl, fun i hi => ?_⟩⟩
  · simp only [List.mem_cons, List.not_mem_nil, or_false] at hx
    unfold InI
    rcases hx with rfl | rfl | rfl | rfl <;> omega
  · have h : ((w.alloc (.cells #[.string ⟨#[120]⟩, .string ⟨#[121]⟩, .string ⟨#[122]⟩, .string ⟨#[117]⟩] 9)).alloc (.cells #[.int .i64 (a % 1000), .int .i64 (b % 1000), .int .i64 (c % 1000), .int .i64 (d % 1000)] 3)).heap[w.heap.size + 1]? = some (.cells ([a % 1000, b % 1000, c % 1000, d % 1000].map (Value.int .i64)).toArray 3 (0, 0)) := by
      have := heap_alloc_new (w.alloc (.cells #[.string ⟨#[120]⟩, .string ⟨#[121]⟩, .string ⟨#[122]⟩, .string ⟨#[117]⟩] 9)) (.cells #[.int .i64 (a % 1000), .int .i64 (b % 1000), .int .i64 (c % 1000), .int .i64 (d % 1000)] 3)
      simpa using this
    rw [Nat.zero_add]
    have := row_cell_at h i (by simpa using hi)
    simp only [List.getElem_map] at this
    exact this
set_option maxRecDepth 100000 in
set_option maxHeartbeats 3200000 in
theorem core (bs : List UInt8) (bv : Value) (w : World) (hb : BytesAt w bs bv) (hl : bs.length ≤ 1048576) (T : Tree) (hT3 : rightB T 3 = true) (hTs : szT T ≤ 30)
    (cD : ∀ w, BytesAt w bs bv → Calls Try.prog 10 #[bv] w fun e w' => ∃ v, e = .returned v ∧ LiesD w' T v ∧ Below w.heap.size w w')
    (cW : ∀ t vs v nv vv w, Lies w t v → StrsAt w namesB nv → IntsAt w vs vv → Calls Try.prog 12 #[v, nv, vv] w fun e w' => e = .returned (.int .i64 (workedT namesB vs t)) ∧ Below w.heap.size w w')
    (cR : ∀ v w, Lies w T v → Calls Try.prog 13 #[v] w fun e w' => ∃ ov, e = .returned ov ∧ w'.ownsRow w.heap.size 9 1 ov (readsOfT T).length (strV (readsOfT T)) ∧ Below w.heap.size w w')
    (cO : ∀ v w, Lies w T v → Calls Try.prog 15 #[v] w fun e w' => e = .returned (.bool (okB T)) ∧ Below w.heap.size w w')
    (cS : ∀ v x w, LiesF w T v → LiesF w T x → Calls Try.prog 19 #[v, x] w fun e w' => e = .returned (.bool (sameT T T)) ∧ Below w.heap.size w w') :
    Calls Try.prog 3 #[bv] w fun e w' => e = .returned (.bool true) ∧ Below w.heap.size w w' := by
  have CD := Lib.hid cD
  have CW := Lib.hid cW
  have CR := Lib.hid cR
  have CO := Lib.hid cO
  have CS := Lib.hid cS
  have CG := Lib.hid (fun w h => big_no bs bv w h hl)
  have CP := Lib.hid (fun w h => drawPlaces_any bs bv w h hl)
  have HB := Lib.hid hb
  obtain ⟨ba, bc, rfl, hbl, _⟩ := id hb
  clear hb cD cW cR cO cS
  go_enter Try.func3, Try.ntmps3
  go_wp2_with fail
  refine (CG.out _ HB.out).mono ?_
  rintro e w1 ⟨rfl, rfl⟩
  go_wp2_with fail
  refine (CD.out _ HB.out).mono ?_
  rintro e w2 ⟨v2, rfl, l2, b2⟩
  obtain ⟨xa, xc, rfl⟩ := l2.shape
  have A2 := (Below.refl w2.heap.size w2).alloc (Nat.le_refl _) (.cells #[.int .i64 T.kind, .int .i64 T.num, .string T.name, .slice xa T.kids.length xc] 26)
  have X2 := Lib.hid (Box4.new w2 (.int .i64 T.kind) (.int .i64 T.num) (.string T.name) (.slice xa T.kids.length xc) 26)
  have L2 := Lib.hid (l2.1.keep (keeps_below A2))
  have F2 := Lib.hid (l2.2.keep (keepF_below A2))
  have B2 := Lib.hid (b2.trans (A2.mono b2.size))
  clear l2 b2 A2
  go_wp2_with fail
  refine (CD.out _ (bytes_keep HB.out (keeps_below B2.out))).mono ?_
  rintro e w3 ⟨v3, rfl, l3, b3⟩
  obtain ⟨ya, yc, rfl⟩ := l3.shape
  have A3 := (Below.refl w3.heap.size w3).alloc (Nat.le_refl _) (.cells #[.int .i64 T.kind, .int .i64 T.num, .string T.name, .slice ya T.kids.length yc] 26)
  have Y3 := Lib.hid (Box4.new w3 (.int .i64 T.kind) (.int .i64 T.num) (.string T.name) (.slice ya T.kids.length yc) 26)
  have M3 := Lib.hid (l3.1.keep (keeps_below A3))
  have G3 := Lib.hid (l3.2.keep (keepF_below A3))
  have KF3 := Lib.hid ((keepF_below b3).trans (keepF_below A3))
  have K3 := Lib.hid ((keeps_below b3).trans (keeps_below A3))
  have B3 := Lib.hid (B2.out.trans ((b3.trans (A3.mono b3.size)).mono B2.out.size))
  clear l3 b3 A3
  go_wp2_with fail
  refine (CP.out _ (bytes_keep HB.out (keeps_below B3.out))).mono ?_
  rintro e w4 ⟨ov, ps, hpl, hpb, rfl, hrow, b4⟩
  obtain ⟨oa, oc, rfl, hoa⟩ := row_shape hrow
  obtain ⟨g, rfl⟩ := hoa (by omega)
  have e0 := row_get hrow 0 (by omega)
  have e1 := row_get hrow 1 (by omega)
  have e2 := row_get hrow 2 (by omega)
  have e3 := row_get hrow 3 (by omega)
  have r0 := get_in hpl hpb 0 (by omega)
  have r1 := get_in hpl hpb 1 (by omega)
  have r2 := get_in hpl hpb 2 (by omega)
  have r3 := get_in hpl hpb 3 (by omega)
  have hp12 : 12 ≤ ps.length := by omega
  have hfour : four ps = [ps.getD 0 0 % 1000, ps.getD 1 0 % 1000, ps.getD 2 0 % 1000, ps.getD 3 0 % 1000] := rfl
  obtain ⟨n, hn⟩ : ∃ n, n = ps.length := ⟨_, rfl⟩
  rw [← hn] at hp12 ⊢
  generalize ps.getD 0 0 = a0 at e0 r0 hfour
  generalize ps.getD 1 0 = a1 at e1 r1 hfour
  generalize ps.getD 2 0 = a2 at e2 r2 hfour
  generalize ps.getD 3 0 = a3 at e3 r3 hfour
  have B4 := Lib.hid b4
  have HF := Lib.hid hfour
  clear hrow hpl hpb hoa b4 hn hfour
  obtain ⟨r00, r01⟩ := r0
  obtain ⟨r10, r11⟩ := r1
  obtain ⟨r20, r21⟩ := r2
  obtain ⟨r30, r31⟩ := r3
  have e0b := keeps_alloc w4 (.cells #[.string ⟨#[120]⟩, .string ⟨#[121]⟩, .string ⟨#[122]⟩, .string ⟨#[117]⟩] 9) _ _ e0
  have e1b := keeps_alloc w4 (.cells #[.string ⟨#[120]⟩, .string ⟨#[121]⟩, .string ⟨#[122]⟩, .string ⟨#[117]⟩] 9) _ _ e1
  have e2b := keeps_alloc w4 (.cells #[.string ⟨#[120]⟩, .string ⟨#[121]⟩, .string ⟨#[122]⟩, .string ⟨#[117]⟩] 9) _ _ e2
  have e3b := keeps_alloc w4 (.cells #[.string ⟨#[120]⟩, .string ⟨#[121]⟩, .string ⟨#[122]⟩, .string ⟨#[117]⟩] 9) _ _ e3
  clear e0 e1 e2 e3
  have t0 : a0.tmod 1000 = a0 % 1000 := Int.tmod_eq_emod_of_nonneg r00
  have t1 : a1.tmod 1000 = a1 % 1000 := Int.tmod_eq_emod_of_nonneg r10
  have t2 : a2.tmod 1000 = a2 % 1000 := Int.tmod_eq_emod_of_nonneg r20
  have t3 : a3.tmod 1000 = a3 % 1000 := Int.tmod_eq_emod_of_nonneg r30
  have n0 : 0 < n := by omega
  have n1 : (1 : Int) < (n : Int) := by omega
  have n2 : (2 : Int) < (n : Int) := by omega
  have n3 : (3 : Int) < (n : Int) := by omega
  go_wp2_with fail
  refine wp_region_still_tail 16 (by kernel_rfl) (by kernel_rfl) ?_
  simp only [List.take_succ_cons, List.take_zero, List.drop_succ_cons, List.drop_zero]
  change wpStill _ _ (World.drew _) _ _ _
  repeat still_step
  refine wpStill_nil ?_
  change wpList _ _ _ _ _ (World.drew _)
  obtain ⟨W6, hW6⟩ : ∃ W6, W6 = (w4.alloc (.cells #[.string ⟨#[120]⟩, .string ⟨#[121]⟩, .string ⟨#[122]⟩, .string ⟨#[117]⟩] 9)).alloc (.cells #[.int .i64 (a0 % 1000), .int .i64 (a1 % 1000), .int .i64 (a2 % 1000), .int .i64 (a3 % 1000)] 3) := ⟨_, rfl⟩
  have B46 : Below w4.heap.size w4 W6 := by rw [hW6]; exact ((Below.refl _ _).alloc (Nat.le_refl _) _).alloc (by simp) _
  have SN : StrsAt W6 namesB (.slice (some ⟨w4.heap.size, 0, none⟩) 4 4) := by rw [hW6]; exact names_at _ _
  have IV : IntsAt W6 (four ps) (.slice (some ⟨w4.heap.size + 1, 0, none⟩) 4 4) := by rw [hW6, HF.out]; exact vals_at _ a0 a1 a2 a3
  have K36 := Lib.hid ((keeps_below B4.out).trans (keeps_below B46))
  have KF36 := Lib.hid ((keepF_below B4.out).trans (keepF_below B46))
  have D6 := Lib.hid (B3.out.trans ((B4.out.trans (B46.mono B4.out.size)).mono B3.out.size))
  have X6 := Lib.hid (X2.out.keep (K3.out.trans K36.out))
  have L6 := Lib.hid (L2.out.keep (K3.out.trans K36.out))
  have Y6 := Lib.hid (Y3.out.keep K36.out)
  have M6 := Lib.hid (M3.out.keep K36.out)
  have F6 := Lib.hid (F2.out.keep (KF3.out.trans KF36.out))
  have G6 := Lib.hid (G3.out.keep KF36.out)
  have SN6 := Lib.hid SN
  have IV6 := Lib.hid IV
  obtain ⟨p0, p1, p2, p3⟩ := X6.out
  have HW6 := Lib.hid hW6
  rw [hW6] at p0 p1 p2 p3
  clear e0b e1b e2b e3b t0 t1 t2 t3 n0 n1 n2 n3 hp12 SN IV hW6 B46
  go_wp2_with fail
  rw [← HW6.out]
  refine (CW.out T (four ps) _ _ _ _ (L6.out.keep (keeps_drew _)) (SN6.out.keep (keeps_drew _)) (IV6.out.keep (keeps_drew _))).mono ?_
  rintro e w7 ⟨rfl, b7⟩
  have B7 : Hid (Below W6.heap.size W6 w7) := below_of_drew b7
  obtain ⟨N, hN⟩ : ∃ N, N = workedT namesB (four ps) T := ⟨_, rfl⟩
  rw [← hN]
  have HN := Lib.hid hN
  clear b7 hN p0 p1 p2 p3
  obtain ⟨p0, p1, p2, p3⟩ := X6.out.keep (keeps_below B7.out)
  go_wp2_with fail
  refine (CR.out _ _ (L6.out.keep (keeps_below B7.out))).mono ?_
  rintro e w8 ⟨rv, rfl, hrow, b8⟩
  have R8 := Lib.hid (strs_of_row hrow)
  obtain ⟨ra, rc, rfl, _⟩ := row_shape hrow
  have B8 := Lib.hid (B7.out.trans (b8.mono B7.out.size))
  clear hrow b8 p0 p1 p2 p3
  obtain ⟨vs, hvs⟩ : ∃ vs, vs = four ps := ⟨_, rfl⟩
  rw [← hvs] at IV6 HN
  have hv4 : Hid (vs.length = 4) := by show _ = _; rw [hvs]; rfl
  have hvb : Hid (∀ x, x ∈ vs → 0 ≤ x ∧ x ≤ 999) := by
    show ∀ x, x ∈ vs → 0 ≤ x ∧ x ≤ 999
    rw [hvs, HF.out]
    intro x hx
    simp only [List.mem_cons, List.not_mem_nil, or_false] at hx
    rcases hx with rfl | rfl | rfl | rfl <;> omega
  have K68 := Lib.hid (keeps_below B8.out)
  obtain ⟨i0, hi, hz0, hz1, hz2⟩ := info_parts infoIntP
  clear hvs
  go_wp2_with fail
  go_loopw [10] (fun i wr => ∃ j : Nat, j ≤ 4 ∧ i = .int .i64 j ∧ Hid (Below w8.heap.size w8 wr))
    (fun i _ => 4 - (intOf i).toNat)
  case atStart => exact ⟨0, by omega, rfl, Below.refl _ _⟩
  case round =>
    obtain ⟨j, hj, rfl, hbe⟩ := hrel
    by_cases hlt : j < 4
    · have K6r := Lib.hid (K68.out.trans (keeps_below hbe.out))
      obtain ⟨_, _, ev, _, _, hvc⟩ := IV6.out
      injection ev with ev1 ev2 ev3
      obtain ⟨g9, o9, e9, hvcell⟩ := hvc (by have := hv4.out; omega)
      rw [e9] at ev1
      injection ev1 with ev1
      injection ev1 with ev4 ev5 _
      subst ev4 ev5
      have NEWS : Hid (∀ (jj : Nat) u, (intV vs)[jj]? = some u → (wr.alloc (.cells #[] 3)).cell? (({ block := w4.heap.size + 1, off := 0 } : Addr).add jj) = some u) := by
        intro jj u hu
        obtain ⟨hlt2, hu2⟩ := List.getElem?_eq_some_iff.1 hu
        have hlt3 : jj < vs.length := by simpa [intV] using hlt2
        rw [add_of rfl]
        have := keeps_alloc wr (.cells #[] 3) _ _ (K6r.out _ _ (hvcell jj hlt3))
        rw [← hu2]
        simpa [intV] using this
      clear ev2 ev3 e9 hvc hvcell
      go_wp2_with (at_builtin; refine wpList_append_lies _ rfl (.tmp 53) (.tmp 54) 28 rfl w8.heap.size 3 i0 (.int .i64 0) 1 8 Try.underlying28 hi hz0 hz1 hz2 rfl (by decide) (.slice (some ⟨wr.heap.size, 0, none⟩) 0 0) 0 [] rfl (World.ownsRow_made wr #[] 0 hbe.out.size (by decide) rfl) ⟨w4.heap.size + 1, 0, none⟩ 4 4 (intV vs) rfl (by have := hv4.out; simp [intV, this]) NEWS.out (by unfold intV; intro u hu; obtain ⟨x, _, rfl⟩ := List.mem_map.1 hu; rfl) (by decide) (by unfold maxLen; omega) (by omega) (by have := hbe.out.size; simp; omega) _ rfl ?_)
      intro g1 cap1 w9 hown hg9 hat9 hlt9
      have R9 : Hid (w9.ownsRow w8.heap.size 3 1 (.slice (some ⟨g1, 0, none⟩) 4 cap1) 4 (intV vs)) := by
        show World.ownsRow _ _ _ _ _ _ _
        simpa using hown
      have B9 := Lib.hid ((hbe.out.alloc hbe.out.size (.cells #[] 3)).grown hg9 (by have := hbe.out.size; simp; omega) (fun k hk => by cases hk; exact hbe.out.size))
      have hjv : j < vs.length := by rw [hv4.out]; exact hlt
      have hxb := hvb.out vs[j] (List.getElem_mem hjv)
      have hc9 : w9.cell? ⟨g1, j, none⟩ = some (.int .i64 vs[j]) := by
        rw [R9.out.cellAt j (by omega)]
        simp [intV, hjv]
      have hf9 := R9.out.frozenAt j
      obtain ⟨hr10, hg10⟩ := R9.out.stored j (.int .i64 ((vs[j] + 1) % 1000))
      have e10 : (intV vs).set j (.int .i64 ((vs[j] + 1) % 1000)) = intV (vs.set j ((vs[j] + 1) % 1000)) := by unfold intV; rw [List.map_set]
      rw [e10] at hr10
      have B10 := Lib.hid (B9.out.grown hg10 B9.out.size (fun k hk => by cases hk; exact (R9.out.lt g1 rfl).1))
      have I10 := Lib.hid (ints_of_row hr10 (fun y hy => by
        unfold InI
        rcases List.mem_or_eq_of_mem_set hy with h | h
        · have := hvb.out y h; omega
        · rw [h]; omega))
      have HW : Hid (¬ namesB[j] ∈ readsOfT T → workedT namesB (vs.set j ((vs[j] + 1) % 1000)) T = N) := fun h => by rw [worked_other (by exact hlt) h, HN.out]
      have hnj : j < namesB.length := hlt
      have hvl : Hid ((vs.set j ((vs[j] + 1) % 1000)).length = 4) := by show _ = _; rw [List.length_set, hv4.out]
      generalize vs.set j ((vs[j] + 1) % 1000) = vs2 at I10 HW hr10 hvl
      generalize vs[j] = x at hxb hc9 B10 I10 hr10 hg10
      obtain ⟨x1, x2⟩ := hxb
      have tm : (x + 1).tmod 1000 = (x + 1) % 1000 := Int.tmod_eq_emod_of_nonneg (by omega)
      obtain ⟨W10, hW10⟩ : ∃ W, W = w9.setCell ⟨g1, j, none⟩ (.int .i64 ((x + 1) % 1000)) := ⟨_, rfl⟩
      rw [← hW10] at B10 I10
      have K10 := Lib.hid (K68.out.trans (keeps_below B10.out))
      have P10 := Lib.hid (X6.out.keep K10.out)
      have CN : Hid (W10.cell? ⟨w4.heap.size, j, none⟩ = some (.string namesB[j])) := by
        obtain ⟨_, _, ev, _, hvc⟩ := SN6.out
        injection ev with ev1 _ _
        obtain ⟨g9, o9, e9, hcell⟩ := hvc (by decide)
        rw [e9] at ev1
        injection ev1 with ev1
        injection ev1 with ev4 ev5 _
        subst ev4 ev5
        have := K10.out _ _ (hcell j hnj)
        rw [Nat.zero_add] at this
        exact this
      have HW10 := Lib.hid hW10
      clear hown hg9 hat9 hlt9 e10 hr10 hg10
      have nc := CN.out
      rw [hW10] at nc
      clear hW10
      go_wp2_with fail
      rw [← HW10.out]
      clear nc
      refine (hasText_any (readsOfT T) namesB[j] _ _ (R8.out.keep (keeps_below B10.out))).mono ?_
      rintro e w11 ⟨rfl, rfl⟩
      obtain ⟨p0, p1, p2, p3⟩ := P10.out
      cases hh : hasB (readsOfT T) namesB[j] with
      | true =>
        clear hh
        go_wp2
        go_roundw
        case rel => exact ⟨j + 1, by omega, by go_num, B10.out⟩
        case measure => simp [intOf]; omega
      | false =>
        have HNo : Hid (¬ namesB[j] ∈ readsOfT T) := fun hm => by rw [hasB_yes hm] at hh; cases hh
        clear hh
        go_wp2_with fail
        refine (CW.out T vs2 _ _ _ _ (L6.out.keep K10.out) (SN6.out.keep K10.out) I10.out).mono ?_
        rintro e w12 ⟨rfl, b12⟩
        rw [HW.out HNo.out]
        have B12 := Lib.hid (B10.out.trans (b12.mono B10.out.size))
        clear b12
        go_wp2
        go_roundw
        case rel => exact ⟨j + 1, by omega, by go_num, B12.out⟩
        case measure => simp [intOf]; omega
    · have hwr := hbe.out.size
      have K8r := Lib.hid (K68.out.trans (keeps_below hbe.out))
      have X8 := Lib.hid (X6.out.keep K8r.out)
      have Y8 := Lib.hid (Y6.out.keep K8r.out)
      obtain ⟨p0, p1, p2, p3⟩ := X8.out
      obtain ⟨q0, q1, q2, q3⟩ := Y8.out
      have hb2 : w2.heap.size < wr.heap.size := cell_lt p0
      have hb3 : w3.heap.size < wr.heap.size := cell_lt q0
      have KV := Lib.hid ((((keeps_alloc wr (.cells #[.int .i64 T.kind, .int .i64 T.num, .string T.name, .slice xa T.kids.length xc] 26)).trans (keeps_alloc _ (.cells #[.int .i64 8, .int .i64 0, .string ⟨#[]⟩, .slice (some ⟨wr.heap.size, 0, none⟩) 1 1] 26))).trans (keeps_alloc _ (.cells #[.int .i64 8, .int .i64 0, .string ⟨#[]⟩, .slice (some ⟨wr.heap.size, 0, none⟩) 1 1] 26))).trans (keeps_alloc _ (.cells #[.int .i64 8, .int .i64 0, .string ⟨#[]⟩, .slice (some ⟨wr.heap.size + 1 + 1, 0, none⟩) 1 1] 26)))
      have XV := X8.out.keep KV.out
      have YV := Y8.out.keep KV.out
      obtain ⟨s0, s1, s2, s3⟩ := XV
      obtain ⟨t0, t1, t2, t3⟩ := YV
      go_wp2_with fail
      obtain ⟨V, hV, kV, bV, v1, v2, v3, v4, v5, v6⟩ := six wr (.cells #[.int .i64 T.kind, .int .i64 T.num, .string T.name, .slice xa T.kids.length xc] 26) (.cells #[.int .i64 8, .int .i64 0, .string ⟨#[]⟩, .slice (some ⟨wr.heap.size, 0, none⟩) 1 1] 26) (.cells #[.int .i64 8, .int .i64 0, .string ⟨#[]⟩, .slice (some ⟨wr.heap.size, 0, none⟩) 1 1] 26) (.cells #[.int .i64 8, .int .i64 0, .string ⟨#[]⟩, .slice (some ⟨wr.heap.size + 1 + 1, 0, none⟩) 1 1] 26) (.cells #[.int .i64 T.kind, .int .i64 T.num, .string T.name, .slice xa T.kids.length xc, .int .i64 T.kind, .int .i64 T.num, .string T.name, .slice ya T.kids.length yc] 26) (.cells #[.int .i64 4, .int .i64 0, .string ⟨#[]⟩, .slice (some ⟨wr.heap.size + 1 + 1 + 1 + 1, 0, none⟩) 2 2] 26)
      rw [← hV]
      have kk := K8r.out.trans kV
      have LV := L6.out.keep kk
      have MV := M6.out.keep kk
      have kf := ((keepF_below B8.out).trans (keepF_below hbe.out)).trans (keepF_below bV)
      have FV := F6.out.keep kf
      have GW := G6.out.keep kf
      have LN : Lies V (notT T) (.agg #[.int .i64 8, .int .i64 0, .string ⟨#[]⟩, .slice (some ⟨wr.heap.size, 0, none⟩) 1 1]) := lies_not (box_of v1) LV
      have LNN : Lies V (notT (notT T)) (.agg #[.int .i64 8, .int .i64 0, .string ⟨#[]⟩, .slice (some ⟨wr.heap.size + 1 + 1, 0, none⟩) 1 1]) := lies_not (t := notT T) (a := some ⟨wr.heap.size, 0, none⟩) (cap := 1) (box_of v3) LN
      have LZ : Lies V (subT T T) (.agg #[.int .i64 4, .int .i64 0, .string ⟨#[]⟩, .slice (some ⟨wr.heap.size + 1 + 1 + 1 + 1, 0, none⟩) 2 2]) := lies_sub (t := T) (u := T) v5 LV MV
      have SV := SN6.out.keep kk
      have IW := IV6.out.keep kk
      have RV := R8.out.keep ((keeps_below hbe.out).trans kV)
      have GV := D6.out.trans ((B8.out.trans ((hbe.out.trans (bV.mono hwr)).mono B8.out.size)).mono D6.out.size)
      have XB := X8.out.keep kV
      have YB := Y8.out.keep kV
      have hok : okB T = true := right_more_room T (by omega) hT3
      have hsub := sub_none namesB vs hT3
      have hin := worked_in namesB vs T
      have hnot := not_sum namesB vs hT3
      rw [← HN.out] at hin hnot
      obtain ⟨hN0, hN1⟩ := hin
      have hbx1 := box_of v2
      have hbx2 := box_of v4
      have hbx3 := box_of v6
      have KS : Hid (∀ wx, Below V.heap.size V wx → wx.cell? ⟨w2.heap.size, 0, none⟩ = some (.int .i64 T.kind) ∧ wx.cell? ⟨w2.heap.size, 1, none⟩ = some (.int .i64 T.num) ∧ wx.cell? ⟨w2.heap.size, 2, none⟩ = some (.string T.name) ∧ wx.cell? ⟨w2.heap.size, 3, none⟩ = some (.slice xa T.kids.length xc) ∧ wx.cell? ⟨w3.heap.size, 0, none⟩ = some (.int .i64 T.kind) ∧ wx.cell? ⟨w3.heap.size, 1, none⟩ = some (.int .i64 T.num) ∧ wx.cell? ⟨w3.heap.size, 2, none⟩ = some (.string T.name) ∧ wx.cell? ⟨w3.heap.size, 3, none⟩ = some (.slice ya T.kids.length yc) ∧ wx.cell? ⟨wr.heap.size + 1, 0, none⟩ = some (.int .i64 8) ∧ wx.cell? ⟨wr.heap.size + 1, 1, none⟩ = some (.int .i64 0) ∧ wx.cell? ⟨wr.heap.size + 1, 2, none⟩ = some (.string ⟨#[]⟩) ∧ wx.cell? ⟨wr.heap.size + 1, 3, none⟩ = some (.slice (some ⟨wr.heap.size, 0, none⟩) 1 1) ∧ wx.cell? ⟨wr.heap.size + 1 + 1 + 1, 0, none⟩ = some (.int .i64 8) ∧ wx.cell? ⟨wr.heap.size + 1 + 1 + 1, 1, none⟩ = some (.int .i64 0) ∧ wx.cell? ⟨wr.heap.size + 1 + 1 + 1, 2, none⟩ = some (.string ⟨#[]⟩) ∧ wx.cell? ⟨wr.heap.size + 1 + 1 + 1, 3, none⟩ = some (.slice (some ⟨wr.heap.size + 1 + 1, 0, none⟩) 1 1) ∧ wx.cell? ⟨wr.heap.size + 1 + 1 + 1 + 1 + 1, 0, none⟩ = some (.int .i64 4) ∧ wx.cell? ⟨wr.heap.size + 1 + 1 + 1 + 1 + 1, 1, none⟩ = some (.int .i64 0) ∧ wx.cell? ⟨wr.heap.size + 1 + 1 + 1 + 1 + 1, 2, none⟩ = some (.string ⟨#[]⟩) ∧ wx.cell? ⟨wr.heap.size + 1 + 1 + 1 + 1 + 1, 3, none⟩ = some (.slice (some ⟨wr.heap.size + 1 + 1 + 1 + 1, 0, none⟩) 2 2) ∧ Below V.heap.size V wx) := fun wx hb => by
        have hk := keeps_below hb
        have b1 := XB.keep hk
        have b2 := YB.keep hk
        have b3 := hbx1.keep hk
        have b4 := hbx2.keep hk
        have b5 := hbx3.keep hk
        exact ⟨b1.1, b1.2.1, b1.2.2.1, b1.2.2.2, b2.1, b2.2.1, b2.2.2.1, b2.2.2.2, b3.1, b3.2.1, b3.2.2.1, b3.2.2.2, b4.1, b4.2.1, b4.2.2.1, b4.2.2.2, b5.1, b5.2.1, b5.2.2.1, b5.2.2.2, hb⟩
      have C1 : Hid (∀ wx, Below V.heap.size V wx → Calls Try.prog 15 #[(.agg #[.int .i64 T.kind, .int .i64 T.num, .string T.name, .slice xa T.kids.length xc])] wx fun e w' => e = .returned (.bool true) ∧ Below V.heap.size V w') := fun wx hb => (hok ▸ CO.out _ wx (LV.keep (keeps_below hb))).mono (by rintro e w' ⟨rfl, b⟩; exact ⟨rfl, hb.trans (b.mono hb.size)⟩)
      have C2 : Hid (∀ wx, Below V.heap.size V wx → Calls Try.prog 16 #[(.agg #[.int .i64 T.kind, .int .i64 T.num, .string T.name, .slice ya T.kids.length yc]), (.slice (some ⟨w4.heap.size, 0, none⟩) 4 4), (.slice (some ⟨w4.heap.size + 1, 0, none⟩) 4 4)] wx fun e w' => e = .returned (.int .i64 N) ∧ Below V.heap.size V w') := fun wx hb => (HN.out ▸ specWorked_any namesB vs T _ _ _ wx (MV.keep (keeps_below hb)) (SV.keep (keeps_below hb)) (IW.keep (keeps_below hb))).mono (by rintro e w' ⟨rfl, b⟩; exact ⟨rfl, hb.trans (b.mono hb.size)⟩)
      have C5 : Hid (∀ wx, Below V.heap.size V wx → Calls Try.prog 12 #[(.agg #[.int .i64 4, .int .i64 0, .string ⟨#[]⟩, .slice (some ⟨wr.heap.size + 1 + 1 + 1 + 1, 0, none⟩) 2 2]), (.slice (some ⟨w4.heap.size, 0, none⟩) 4 4), (.slice (some ⟨w4.heap.size + 1, 0, none⟩) 4 4)] wx fun e w' => e = .returned (.int .i64 0) ∧ Below V.heap.size V w') := fun wx hb => (hsub ▸ CW.out (subT T T) vs _ _ _ wx (LZ.keep (keeps_below hb)) (SV.keep (keeps_below hb)) (IW.keep (keeps_below hb))).mono (by rintro e w' ⟨rfl, b⟩; exact ⟨rfl, hb.trans (b.mono hb.size)⟩)
      have C6 : Hid (∀ wx, Below V.heap.size V wx → Calls Try.prog 19 #[(.agg #[.int .i64 T.kind, .int .i64 T.num, .string T.name, .slice xa T.kids.length xc]), (.agg #[.int .i64 T.kind, .int .i64 T.num, .string T.name, .slice ya T.kids.length yc])] wx fun e w' => e = .returned (.bool true) ∧ Below V.heap.size V w') := fun wx hb => (same_self T ▸ CS.out _ _ wx (FV.keep (keepF_below hb)) (GW.keep (keepF_below hb))).mono (by rintro e w' ⟨rfl, b⟩; exact ⟨rfl, hb.trans (b.mono hb.size)⟩)
      have C7 : Hid (∀ wx, Below V.heap.size V wx → Calls Try.prog 18 #[(.agg #[.int .i64 T.kind, .int .i64 T.num, .string T.name, .slice ya T.kids.length yc])] wx fun e w' => ∃ oa oc, e = .returned (.slice oa (readsOfT T).length oc) ∧ StrsAt w' (readsOfT T) (.slice oa (readsOfT T).length oc) ∧ Below V.heap.size V w') := fun wx hb => (specReadsOf_any T _ wx (MV.keep (keeps_below hb)) (by omega)).mono (by
        rintro e w' ⟨ov, rfl, ho, b⟩
        have hs := strs_of_row ho
        obtain ⟨oa, oc, rfl, _⟩ := id hs
        exact ⟨oa, oc, rfl, hs, hb.trans (b.mono hb.size)⟩)
      have C8 : Hid (∀ ov wx, Below V.heap.size V wx → StrsAt wx (readsOfT T) ov → Calls Try.prog 17 #[.slice ra (readsOfT T).length rc, ov] wx fun e w' => e = .returned (.bool true) ∧ Below V.heap.size V w') := fun ov wx hb hs => (sameTexts_at _ _ (readsOfT T) wx (RV.keep (keeps_below hb)) hs).mono (by rintro e w' ⟨rfl, b⟩; exact ⟨rfl, hb.trans (b.mono hb.size)⟩)
      have CN : ∀ m, workedT namesB vs (notT T) = m → Hid (∀ wx, Below V.heap.size V wx → Calls Try.prog 12 #[(.agg #[.int .i64 8, .int .i64 0, .string ⟨#[]⟩, .slice (some ⟨wr.heap.size, 0, none⟩) 1 1]), (.slice (some ⟨w4.heap.size, 0, none⟩) 4 4), (.slice (some ⟨w4.heap.size + 1, 0, none⟩) 4 4)] wx fun e w' => e = .returned (.int .i64 m) ∧ Below V.heap.size V w') := fun m hm wx hb => (hm ▸ CW.out (notT T) vs _ _ _ wx (LN.keep (keeps_below hb)) (SV.keep (keeps_below hb)) (IW.keep (keeps_below hb))).mono (by rintro e w' ⟨rfl, b⟩; exact ⟨rfl, hb.trans (b.mono hb.size)⟩)
      have CNN : ∀ m, workedT namesB vs (notT (notT T)) = m → Hid (∀ wx, Below V.heap.size V wx → Calls Try.prog 12 #[(.agg #[.int .i64 8, .int .i64 0, .string ⟨#[]⟩, .slice (some ⟨wr.heap.size + 1 + 1, 0, none⟩) 1 1]), (.slice (some ⟨w4.heap.size, 0, none⟩) 4 4), (.slice (some ⟨w4.heap.size + 1, 0, none⟩) 4 4)] wx fun e w' => e = .returned (.int .i64 m) ∧ Below V.heap.size V w') := fun m hm wx hb => (hm ▸ CW.out (notT (notT T)) vs _ _ _ wx (LNN.keep (keeps_below hb)) (SV.keep (keeps_below hb)) (IW.keep (keeps_below hb))).mono (by rintro e w' ⟨rfl, b⟩; exact ⟨rfl, hb.trans (b.mono hb.size)⟩)
      have bd : Below V.heap.size V V.drew := (Below.refl _ _).drew
      have HG := Lib.hid GV
      clear hV v1 v2 v3 v4 v5 v6 LV MV FV GW LN LNN LZ SV IW RV GV XB YB hbx1 hbx2 hbx3 s0 s1 s2 s3 t0 t1 t2 t3 hsub bV kV kk kf hb2 hb3 hok
      clear p0 p1 p2 p3 q0 q1 q2 q3
      rcases hnot with ⟨n0, n1, n2⟩ | ⟨n0, n1, n2⟩
      · have C3 := CN _ n1
        have C4 := CNN _ n2
        rw [n0] at C2
        rw [n0]
        clear CN CNN n0 n1 n2 hN0 hN1
        go_region_held3 (fun wx => wx.cell? ⟨w2.heap.size, 0, none⟩ = some (.int .i64 T.kind) ∧ wx.cell? ⟨w2.heap.size, 1, none⟩ = some (.int .i64 T.num) ∧ wx.cell? ⟨w2.heap.size, 2, none⟩ = some (.string T.name) ∧ wx.cell? ⟨w2.heap.size, 3, none⟩ = some (.slice xa T.kids.length xc) ∧ wx.cell? ⟨w3.heap.size, 0, none⟩ = some (.int .i64 T.kind) ∧ wx.cell? ⟨w3.heap.size, 1, none⟩ = some (.int .i64 T.num) ∧ wx.cell? ⟨w3.heap.size, 2, none⟩ = some (.string T.name) ∧ wx.cell? ⟨w3.heap.size, 3, none⟩ = some (.slice ya T.kids.length yc) ∧ wx.cell? ⟨wr.heap.size + 1, 0, none⟩ = some (.int .i64 8) ∧ wx.cell? ⟨wr.heap.size + 1, 1, none⟩ = some (.int .i64 0) ∧ wx.cell? ⟨wr.heap.size + 1, 2, none⟩ = some (.string ⟨#[]⟩) ∧ wx.cell? ⟨wr.heap.size + 1, 3, none⟩ = some (.slice (some ⟨wr.heap.size, 0, none⟩) 1 1) ∧ wx.cell? ⟨wr.heap.size + 1 + 1 + 1, 0, none⟩ = some (.int .i64 8) ∧ wx.cell? ⟨wr.heap.size + 1 + 1 + 1, 1, none⟩ = some (.int .i64 0) ∧ wx.cell? ⟨wr.heap.size + 1 + 1 + 1, 2, none⟩ = some (.string ⟨#[]⟩) ∧ wx.cell? ⟨wr.heap.size + 1 + 1 + 1, 3, none⟩ = some (.slice (some ⟨wr.heap.size + 1 + 1, 0, none⟩) 1 1) ∧ wx.cell? ⟨wr.heap.size + 1 + 1 + 1 + 1 + 1, 0, none⟩ = some (.int .i64 4) ∧ wx.cell? ⟨wr.heap.size + 1 + 1 + 1 + 1 + 1, 1, none⟩ = some (.int .i64 0) ∧ wx.cell? ⟨wr.heap.size + 1 + 1 + 1 + 1 + 1, 2, none⟩ = some (.string ⟨#[]⟩) ∧ wx.cell? ⟨wr.heap.size + 1 + 1 + 1 + 1 + 1, 3, none⟩ = some (.slice (some ⟨wr.heap.size + 1 + 1 + 1 + 1, 0, none⟩) 2 2) ∧ Below V.heap.size V wx)
          (exact KS.out _ (by assumption))
          (first
          | (go_at_call 15; (with_reducible refine (C1.out _ (by assumption)).mono ?_); rintro e wa ⟨rfl, ba⟩)
          | (go_at_call 16; (with_reducible refine (C2.out _ (by assumption)).mono ?_); rintro e wa ⟨rfl, ba⟩)
          | (go_at_call 18; (with_reducible refine (C7.out _ (by assumption)).mono ?_); rintro e wa ⟨oa, occ, rfl, so, ba⟩)
          | (go_at_call 17; (with_reducible refine (C8.out _ _ (by assumption) (by assumption)).mono ?_); rintro e wa ⟨rfl, ba⟩)
          | (go_at_call 12; (with_reducible refine (C3.out _ (by assumption)).mono ?_); rintro e wa ⟨rfl, ba⟩)
          | (go_at_call 12; (with_reducible refine (C4.out _ (by assumption)).mono ?_); rintro e wa ⟨rfl, ba⟩)
          | (go_at_call 12; (with_reducible refine (C5.out _ (by assumption)).mono ?_); rintro e wa ⟨rfl, ba⟩)
          | (go_at_call 19; (with_reducible refine (C6.out _ (by assumption)).mono ?_); rintro e wa ⟨rfl, ba⟩))
        all_goals
          go_wp2_with fail
          go_ret
          exact ⟨rfl, HG.out.trans (Below.mono (by assumption) HG.out.size)⟩
      · have C3 := CN _ n1
        have C4 := CNN _ n2
        clear CN CNN n1 n2
        go_region_held3 (fun wx => wx.cell? ⟨w2.heap.size, 0, none⟩ = some (.int .i64 T.kind) ∧ wx.cell? ⟨w2.heap.size, 1, none⟩ = some (.int .i64 T.num) ∧ wx.cell? ⟨w2.heap.size, 2, none⟩ = some (.string T.name) ∧ wx.cell? ⟨w2.heap.size, 3, none⟩ = some (.slice xa T.kids.length xc) ∧ wx.cell? ⟨w3.heap.size, 0, none⟩ = some (.int .i64 T.kind) ∧ wx.cell? ⟨w3.heap.size, 1, none⟩ = some (.int .i64 T.num) ∧ wx.cell? ⟨w3.heap.size, 2, none⟩ = some (.string T.name) ∧ wx.cell? ⟨w3.heap.size, 3, none⟩ = some (.slice ya T.kids.length yc) ∧ wx.cell? ⟨wr.heap.size + 1, 0, none⟩ = some (.int .i64 8) ∧ wx.cell? ⟨wr.heap.size + 1, 1, none⟩ = some (.int .i64 0) ∧ wx.cell? ⟨wr.heap.size + 1, 2, none⟩ = some (.string ⟨#[]⟩) ∧ wx.cell? ⟨wr.heap.size + 1, 3, none⟩ = some (.slice (some ⟨wr.heap.size, 0, none⟩) 1 1) ∧ wx.cell? ⟨wr.heap.size + 1 + 1 + 1, 0, none⟩ = some (.int .i64 8) ∧ wx.cell? ⟨wr.heap.size + 1 + 1 + 1, 1, none⟩ = some (.int .i64 0) ∧ wx.cell? ⟨wr.heap.size + 1 + 1 + 1, 2, none⟩ = some (.string ⟨#[]⟩) ∧ wx.cell? ⟨wr.heap.size + 1 + 1 + 1, 3, none⟩ = some (.slice (some ⟨wr.heap.size + 1 + 1, 0, none⟩) 1 1) ∧ wx.cell? ⟨wr.heap.size + 1 + 1 + 1 + 1 + 1, 0, none⟩ = some (.int .i64 4) ∧ wx.cell? ⟨wr.heap.size + 1 + 1 + 1 + 1 + 1, 1, none⟩ = some (.int .i64 0) ∧ wx.cell? ⟨wr.heap.size + 1 + 1 + 1 + 1 + 1, 2, none⟩ = some (.string ⟨#[]⟩) ∧ wx.cell? ⟨wr.heap.size + 1 + 1 + 1 + 1 + 1, 3, none⟩ = some (.slice (some ⟨wr.heap.size + 1 + 1 + 1 + 1, 0, none⟩) 2 2) ∧ Below V.heap.size V wx)
          (exact KS.out _ (by assumption))
          (first
          | (go_at_call 15; (with_reducible refine (C1.out _ (by assumption)).mono ?_); rintro e wa ⟨rfl, ba⟩)
          | (go_at_call 16; (with_reducible refine (C2.out _ (by assumption)).mono ?_); rintro e wa ⟨rfl, ba⟩)
          | (go_at_call 18; (with_reducible refine (C7.out _ (by assumption)).mono ?_); rintro e wa ⟨oa, occ, rfl, so, ba⟩)
          | (go_at_call 17; (with_reducible refine (C8.out _ _ (by assumption) (by assumption)).mono ?_); rintro e wa ⟨rfl, ba⟩)
          | (go_at_call 12; (with_reducible refine (C3.out _ (by assumption)).mono ?_); rintro e wa ⟨rfl, ba⟩)
          | (go_at_call 12; (with_reducible refine (C4.out _ (by assumption)).mono ?_); rintro e wa ⟨rfl, ba⟩)
          | (go_at_call 12; (with_reducible refine (C5.out _ (by assumption)).mono ?_); rintro e wa ⟨rfl, ba⟩)
          | (go_at_call 19; (with_reducible refine (C6.out _ (by assumption)).mono ?_); rintro e wa ⟨rfl, ba⟩))
        all_goals
          go_wp2_with fail
          go_ret
          exact ⟨rfl, HG.out.trans (Below.mono (by assumption) HG.out.size)⟩
end Go.Proofs.Ytegcebjfcmcgmaa.FnTermsW
