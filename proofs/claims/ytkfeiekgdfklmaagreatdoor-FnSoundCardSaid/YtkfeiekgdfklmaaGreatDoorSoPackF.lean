/- The names that statements have, of the program, walked: a list with all within it, a program. Conditions: they lie in memory; at most 2 to the 20 statements, kids and bytes. With what it stands on, in one text. -/
import Derived.Test.YtkfeiekgdfklmaaGreatDoorSoPackB
import Derived.Test.YtkfeiekgdfklmaaGreatDoorSoPackC
import Derived.Test.YtkfeiekgdfklmaaGreatDoorSoPackE
import Derived.Test.YtkfeiekgdfklmaaGreatDoorSoPackD
import Derived.Deep.CutBlock
import Derived.Deep.DeepCutAuto
/- The names that statements have, in order, each with its kind: what the lists of unknown and of unused names come to by them. Without conditions. -/
namespace Go.Proofs.YtkfeiekgdfklmaaGreatDoor.Trm
open Go.RowKit Own
/-- A name, of which kind: 0 a number's, 1 a lock's, 2 a procedure's. -/
abbrev Use := Int × ByteArray
def headUs (k : Int) (s : ByteArray) : List Use := if k = 1 then [(0, s)] else if k = 6 ∨ k = 7 then [(1, s)] else if k = 4 ∨ k = 5 then [(2, s)] else []
def globUs (ns : List ByteArray) : List Use := ns.map fun z => ((0 : Int), z)
noncomputable def aloneUs (k : Int) (s : ByteArray) (t : Tree) : List Use := headUs k s ++ globUs (readsOfT t)
mutual
noncomputable def usX : STree → List Use
  | .node k s t b e => aloneUs k s t ++ (usXS b ++ usXS e)
noncomputable def usXS : List STree → List Use
  | [] => []
  | y :: r => usX y ++ usXS r
end
theorem usX_eq (y : STree) : usX y = aloneUs y.kind y.name y.term ++ (usXS y.body ++ usXS y.els) := by cases y; rw [usX]; rfl
theorem usXS_take {xs : List STree} {i : Nat} (h : i < xs.length) : usXS (xs.take (i + 1)) = usXS (xs.take i) ++ usX xs[i] := by
  have app : ∀ a b : List STree, usXS (a ++ b) = usXS a ++ usXS b := by
    intro a b
    induction a with
    | nil => rw [usXS]; rfl
    | cons y r ih => rw [List.cons_append, usXS, usXS, ih, List.append_assoc]
  rw [List.take_add_one, List.getElem?_eq_getElem h, Option.toList, app, usXS, usXS, List.append_nil]
noncomputable def usPs (ps : List PrT) : List Use := ps.flatMap fun p => usXS p.body
theorem usPs_take {ps : List PrT} {i : Nat} (h : i < ps.length) : usPs (ps.take (i + 1)) = usPs (ps.take i) ++ usXS ps[i].body := by
  unfold usPs
  rw [List.take_add_one, List.getElem?_eq_getElem h, Option.toList, List.flatMap_append, List.flatMap_cons, List.flatMap_nil, List.append_nil]
theorem headUs_le (k : Int) (s : ByteArray) : (headUs k s).length ≤ 1 := by
  unfold headUs; split
  · simp
  · split
    · simp
    · split <;> simp
theorem aloneUs_le (k : Int) (s : ByteArray) (t : Tree) : (aloneUs k s t).length ≤ 2 + szT t := by
  have h1 := headUs_le k s
  have h2 := readsOfT_le t
  unfold aloneUs globUs
  rw [List.length_append, List.length_map]
  omega
mutual
theorem usX_le : ∀ y : STree, (usX y).length ≤ 2 + 3 * szX y
  | .node k s t b e => by
    have h1 := aloneUs_le k s t
    have h2 := usXS_le b
    have h3 := usXS_le e
    rw [usX, szX, List.length_append, List.length_append]
    omega
theorem usXS_le : ∀ xs : List STree, (usXS xs).length ≤ 2 * xs.length + 3 * szXS xs
  | [] => by rw [usXS]; simp
  | y :: r => by
    have h1 := usX_le y
    have h2 := usXS_le r
    rw [usXS, szXS, List.length_append, List.length_cons]
    omega
end
theorem usPs_le : ∀ ps : List PrT, (usPs ps).length ≤ 3 * szPrs ps
  | [] => by simp [usPs]
  | p :: r => by
    have h1 := usXS_le p.body
    have h2 := usPs_le r
    unfold usPs at h2 ⊢
    rw [List.flatMap_cons, List.length_append, szPrs]
    unfold szPr
    omega
/-- Where a name is to be. -/
def knownU (x : PTree) (k : Int) : List ByteArray := if k = 0 then x.globals else if k = 1 then x.locks else procNs x.procs
noncomputable def addUs (x : PTree) (acc : List ByteArray) (u : Use) : List ByteArray := addU (knownU x u.1) acc u.2
theorem globUs_fold (x : PTree) : ∀ (ns acc : List ByteArray), (globUs ns).foldl (addUs x) acc = ns.foldl (addU x.globals) acc
  | [], acc => rfl
  | s :: r, acc => by
    show (globUs r).foldl (addUs x) (addU x.globals acc s) = _
    rw [globUs_fold x r]; rfl
theorem headUs_fold (x : PTree) (k : Int) (s : ByteArray) (acc : List ByteArray) : (headUs k s).foldl (addUs x) acc = headU x k s acc := by
  unfold headUs headU
  split
  · rfl
  · split
    · rfl
    · split <;> rfl
theorem kind_z {t : Tree} (h : sameT t zT = true) : t.kind = 0 := by
  cases t with
  | node k n s ks =>
    rw [sameT] at h
    simp only [Bool.and_eq_true, decide_eq_true_eq] at h
    exact h.1.1.1.1
theorem reads_z {t : Tree} (h : sameT t zT = true) : readsOfT t = [] := by
  have hk := kind_z h
  unfold readsOfT
  rw [if_neg]
  unfold okB
  cases t with
  | node k n s ks =>
    have hk : k = 0 := hk
    subst hk
    rw [rightB, if_neg (by decide), if_neg (by decide)]
    simp
theorem noLists_nil {b e : List STree} (h : noLists b e = true) : b = [] ∧ e = [] := by
  unfold noLists at h
  simpa using h
/-- What a right statement's own names come to. -/
theorem alone_fold (x : PTree) (y : STree) (acc : List ByteArray) (hz : ¬ (y.kind = 1 ∨ y.kind = 2 ∨ y.kind = 3) → sameT y.term zT = true) :
    (aloneUs y.kind y.name y.term).foldl (addUs x) acc = readsU x y.kind y.term (headU x y.kind y.name acc) := by
  unfold aloneUs readsU
  rw [List.foldl_append, headUs_fold, globUs_fold]
  split
  · rfl
  · rename_i h
    rw [reads_z (hz h)]; rfl
mutual
theorem usX_unk (x : PTree) : ∀ (y : STree) (r : Nat) (acc : List ByteArray), rightX y r = true → unkX x y acc = (usX y).foldl (addUs x) acc
  | .node k s t b e, r, acc, h => by
    by_cases h8 : 1 ≤ k ∧ k ≤ 8
    · rw [unkX, usX, List.foldl_append, List.foldl_append]
      rcases (by omega : k = 1 ∨ k = 2 ∨ k = 3 ∨ (k = 4 ∨ k = 5 ∨ k = 6 ∨ k = 7) ∨ k = 8) with hk | hk | hk | hk | hk
      · have := alone_fold x (.node k s t b e) acc (fun h2 => absurd (.inl hk) h2)
        rw [show aloneUs k s t = aloneUs (STree.node k s t b e).kind (STree.node k s t b e).name (STree.node k s t b e).term from rfl, this]
        rw [rx_set (x := .node k s t b e) hk] at h
        simp only [Bool.and_eq_true] at h
        have hn : b = [] ∧ e = [] := noLists_nil h.2.2
        rw [hn.1, hn.2, unkXS, unkXS, usXS]; rfl
      · have := alone_fold x (.node k s t b e) acc (fun h2 => absurd (.inr (.inl hk)) h2)
        rw [show aloneUs k s t = aloneUs (STree.node k s t b e).kind (STree.node k s t b e).name (STree.node k s t b e).term from rfl, this]
        rw [rx_if (x := .node k s t b e) hk] at h
        unfold blkB at h
        simp only [Bool.and_eq_true] at h
        rw [← usXS_unk x b (r - 1) _ (by first | exact h.1.2.2.2 | exact h.1.2.2 | exact h.1.2 | exact h.1.1.2), ← usXS_unk x e (r - 1) _ h.2]
        rfl
      · have := alone_fold x (.node k s t b e) acc (fun h2 => absurd (.inr (.inr hk)) h2)
        rw [show aloneUs k s t = aloneUs (STree.node k s t b e).kind (STree.node k s t b e).name (STree.node k s t b e).term from rfl, this]
        rw [rx_while (x := .node k s t b e) hk] at h
        unfold blkB at h
        simp only [Bool.and_eq_true, decide_eq_true_eq] at h
        have hn : e = [] := List.length_eq_zero_iff.1 h.2
        rw [← usXS_unk x b (r - 1) _ (by first | exact h.1.2.2.2 | exact h.1.2.2 | exact h.1.2 | exact h.1.1.2), hn, unkXS, usXS]
        rfl
      · rw [rx_word (x := .node k s t b e) hk] at h
        simp only [Bool.and_eq_true] at h
        have := alone_fold x (.node k s t b e) acc (fun _ => h.2.1)
        rw [show aloneUs k s t = aloneUs (STree.node k s t b e).kind (STree.node k s t b e).name (STree.node k s t b e).term from rfl, this]
        have hn : b = [] ∧ e = [] := noLists_nil h.2.2
        rw [hn.1, hn.2, unkXS, unkXS, usXS]; rfl
      · rw [rx_skip (x := .node k s t b e) hk] at h
        simp only [Bool.and_eq_true] at h
        have := alone_fold x (.node k s t b e) acc (fun _ => h.2.1)
        rw [show aloneUs k s t = aloneUs (STree.node k s t b e).kind (STree.node k s t b e).name (STree.node k s t b e).term from rfl, this]
        have hn : b = [] ∧ e = [] := noLists_nil h.2.2
        rw [hn.1, hn.2, unkXS, unkXS, usXS]; rfl
    · rw [rx_none (x := .node k s t b e) h8] at h
      cases h
theorem usXS_unk (x : PTree) : ∀ (xs : List STree) (r : Nat) (acc : List ByteArray), rightXS xs r = true → unkXS x xs acc = (usXS xs).foldl (addUs x) acc
  | [], r, acc, _ => by rw [unkXS, usXS]; rfl
  | y :: l, r, acc, h => by
    rw [rightXS] at h
    simp only [Bool.and_eq_true] at h
    rw [unkXS, usXS, List.foldl_append, usX_unk x y r acc h.1, usXS_unk x l r _ h.2]
end
theorem usPs_unk (x : PTree) : ∀ (ps : List PrT) (acc : List ByteArray), okPrs ps = true → unkPs x ps acc = (usPs ps).foldl (addUs x) acc
  | [], acc, _ => rfl
  | p :: r, acc, h => by
    unfold okPrs at h
    rw [List.all_cons] at h
    simp only [Bool.and_eq_true] at h
    have h1 := h.1
    unfold okPr okXS at h1
    simp only [Bool.and_eq_true] at h1
    have h2 := usPs_unk x r (unkXS x p.body acc) h.2
    show unkPs x r (unkXS x p.body acc) = _
    rw [h2, usXS_unk x p.body 6 acc h1.2.2]
    unfold usPs
    rw [List.flatMap_cons, List.foldl_append]
theorem unkIn_us (x : PTree) : unkIn x = if okP x = true then (usPs x.procs).foldl (addUs x) [] else [] := by
  unfold unkIn
  split
  · rename_i h
    refine usPs_unk x x.procs [] ?_
    unfold okP at h
    simp only [Bool.and_eq_true] at h
    exact h.2.2.2
  · rfl
/-- The names of numbers and locks alone. -/
def dataN (us : List Use) : List ByteArray := (us.filter fun u => decide (u.1 ≠ 2)).map (·.2)
theorem dataN_append (a b : List Use) : dataN (a ++ b) = dataN a ++ dataN b := by unfold dataN; rw [List.filter_append, List.map_append]
theorem dataN_glob : ∀ ns : List ByteArray, dataN (globUs ns) = ns
  | [] => rfl
  | s :: r => by
    have h := dataN_glob r
    unfold dataN globUs at h ⊢
    simpa using h
theorem dataN_head (k : Int) (s : ByteArray) : dataN (headUs k s) = if k = 1 ∨ k = 6 ∨ k = 7 then [s] else [] := by
  unfold headUs dataN
  by_cases h1 : k = 1
  · rw [if_pos h1, if_pos (.inl h1)]; rfl
  · by_cases h2 : k = 6 ∨ k = 7
    · rw [if_neg h1, if_pos h2, if_pos (.inr h2)]; rfl
    · rw [if_neg h1, if_neg h2, if_neg (show ¬ (k = 1 ∨ k = 6 ∨ k = 7) by omega)]
      split <;> rfl
mutual
theorem usX_use : ∀ (y : STree) (acc : List ByteArray), useX y acc = acc ++ dataN (usX y)
  | .node k s t b e, acc => by
    rw [useX, usX, dataN_append, dataN_append, usXS_use b, usXS_use e]
    unfold aloneUs
    rw [dataN_append, dataN_head, dataN_glob]
    split <;> simp
theorem usXS_use : ∀ (xs : List STree) (acc : List ByteArray), useXS xs acc = acc ++ dataN (usXS xs)
  | [], acc => by rw [useXS, usXS]; simp [dataN]
  | y :: r, acc => by rw [useXS, usXS, usX_use y, usXS_use r, dataN_append, List.append_assoc]
end
theorem usPs_use : ∀ (ps : List PrT) (acc : List ByteArray), usePs ps acc = acc ++ dataN (usPs ps)
  | [], acc => by simp [usePs, usPs, dataN]
  | p :: r, acc => by
    show usePs r (useXS p.body acc) = _
    rw [usPs_use r, usXS_use]
    unfold usPs
    rw [List.flatMap_cons, dataN_append, List.append_assoc]
theorem unuIn_us (x : PTree) : unuIn x = if okP x = true then (x.globals ++ x.locks).filter (fun s => @decide (¬ s ∈ dataN (usPs x.procs)) (Classical.propDecidable _)) else [] := by
  unfold unuIn
  rw [usPs_use, List.nil_append]
/-- Names with their kinds, as cells. -/
def usV (us : List Use) : List Value := us.flatMap fun u => [.int .i64 u.1, .string u.2]
theorem usV_append (a b : List Use) : usV (a ++ b) = usV a ++ usV b := by unfold usV; rw [List.flatMap_append]
theorem usV_len (us : List Use) : (usV us).length = 2 * us.length := by
  induction us with
  | nil => rfl
  | cons u r ih => unfold usV at ih ⊢; rw [List.flatMap_cons, List.length_append, ih]; simp; omega
theorem usV_one (us : List Use) : ∀ v ∈ usV us, v.oneCell' = true := by
  intro v hv
  obtain ⟨u, _, h⟩ := List.mem_flatMap.1 hv
  rcases List.mem_cons.1 h with rfl | h
  · rfl
  · rcases List.mem_cons.1 h with rfl | h
    · rfl
    · cases h
theorem usV_at (us : List Use) {i : Nat} (h : i < us.length) : (usV us)[i * 2]? = some (.int .i64 us[i].1) ∧ (usV us)[i * 2 + 1]? = some (.string us[i].2) := by
  induction us generalizing i with
  | nil => simp at h
  | cons u r ih =>
    cases i with
    | zero => simp [usV]
    | succ i =>
      have h2 := ih (i := i) (by simpa using h)
      rw [show (i + 1) * 2 = i * 2 + 2 from by omega]
      simpa [usV] using h2
end Go.Proofs.YtkfeiekgdfklmaaGreatDoor.Trm
/- The library's question whether a text is in a row of texts, walked. Conditions: the row lies in memory. -/
namespace Go.Proofs.YtkfeiekgdfklmaaGreatDoor.Trm
open Go.RowKit Own
theorem implHas_yes (ns : List ByteArray) (s : ByteArray) (nv : Value) (w : World) (hn : StrsAt w ns nv) (h : s ∈ ns) :
    Calls Tryz.prog 43 #[nv, .string s] w fun e w' => e = .returned (.bool true) ∧ Hid (w' = w) := by
  have C := Lib.hid (implIndex_any ns s nv w hn)
  obtain ⟨na, nc, rfl, hn1, hn2⟩ := hn
  have HM := Lib.hid h
  clear hn2 h
  go_enter Tryz.func43, Tryz.ntmps43
  go_wp2_with fail
  refine C.out.mono ?_
  rintro e w1 ⟨x, rfl, hx, rfl⟩
  rcases hx with ⟨i, hi, rfl, he, hf⟩ | ⟨rfl, hf⟩
  · clear he hf
    go_wp2
    go_ret
    exact ⟨rfl, rfl⟩
  · obtain ⟨j, hj, e⟩ := List.mem_iff_getElem.1 HM.out
    exact absurd e (hf j hj)
theorem implHas_no (ns : List ByteArray) (s : ByteArray) (nv : Value) (w : World) (hn : StrsAt w ns nv) (h : ¬ s ∈ ns) :
    Calls Tryz.prog 43 #[nv, .string s] w fun e w' => e = .returned (.bool false) ∧ Hid (w' = w) := by
  have C := Lib.hid (implIndex_any ns s nv w hn)
  obtain ⟨na, nc, rfl, hn1, hn2⟩ := hn
  have HM := Lib.hid h
  clear hn2 h
  go_enter Tryz.func43, Tryz.ntmps43
  go_wp2_with fail
  refine C.out.mono ?_
  rintro e w1 ⟨x, rfl, hx, rfl⟩
  rcases hx with ⟨i, hi, rfl, he, hf⟩ | ⟨rfl, hf⟩
  · exact absurd (he ▸ List.getElem_mem hi) HM.out
  · clear hf
    go_wp2
    go_ret
    exact ⟨rfl, rfl⟩
end Go.Proofs.YtkfeiekgdfklmaaGreatDoor.Trm
/- What a right term's type switch finds. Without conditions. -/
namespace Go.Proofs.YtkfeiekgdfklmaaGreatDoor.Trm
open Go.RowKit Own Lexs
theorem as_num_num (W : World) (v : Value) : (Instr.typeAssert (.iface 208 v) 179 208 true).run Tryz.prog W = .ok (.tuple #[v, .bool true]) W := by kernel_rfl
theorem as_num_var (W : World) (v : Value) : (Instr.typeAssert (.iface 208 v) 179 210 true).run Tryz.prog W = .ok (.tuple #[.agg #[.string ⟨#[]⟩], .bool false]) W := by kernel_rfl
theorem as_num_not (W : World) (v : Value) : (Instr.typeAssert (.iface 208 v) 179 215 true).run Tryz.prog W = .ok (.tuple #[.agg #[.nilIface], .bool false]) W := by kernel_rfl
theorem as_num_pair (W : World) (v : Value) : (Instr.typeAssert (.iface 208 v) 179 217 true).run Tryz.prog W = .ok (.tuple #[.agg #[.int .i64 0, .nilIface, .nilIface], .bool false]) W := by kernel_rfl
theorem as_var_num (W : World) (v : Value) : (Instr.typeAssert (.iface 210 v) 179 208 true).run Tryz.prog W = .ok (.tuple #[.agg #[.int .i64 0], .bool false]) W := by kernel_rfl
theorem as_var_var (W : World) (v : Value) : (Instr.typeAssert (.iface 210 v) 179 210 true).run Tryz.prog W = .ok (.tuple #[v, .bool true]) W := by kernel_rfl
theorem as_var_not (W : World) (v : Value) : (Instr.typeAssert (.iface 210 v) 179 215 true).run Tryz.prog W = .ok (.tuple #[.agg #[.nilIface], .bool false]) W := by kernel_rfl
theorem as_var_pair (W : World) (v : Value) : (Instr.typeAssert (.iface 210 v) 179 217 true).run Tryz.prog W = .ok (.tuple #[.agg #[.int .i64 0, .nilIface, .nilIface], .bool false]) W := by kernel_rfl
theorem as_not_num (W : World) (v : Value) : (Instr.typeAssert (.iface 215 v) 179 208 true).run Tryz.prog W = .ok (.tuple #[.agg #[.int .i64 0], .bool false]) W := by kernel_rfl
theorem as_not_var (W : World) (v : Value) : (Instr.typeAssert (.iface 215 v) 179 210 true).run Tryz.prog W = .ok (.tuple #[.agg #[.string ⟨#[]⟩], .bool false]) W := by kernel_rfl
theorem as_not_not (W : World) (v : Value) : (Instr.typeAssert (.iface 215 v) 179 215 true).run Tryz.prog W = .ok (.tuple #[v, .bool true]) W := by kernel_rfl
theorem as_not_pair (W : World) (v : Value) : (Instr.typeAssert (.iface 215 v) 179 217 true).run Tryz.prog W = .ok (.tuple #[.agg #[.int .i64 0, .nilIface, .nilIface], .bool false]) W := by kernel_rfl
theorem as_pair_num (W : World) (v : Value) : (Instr.typeAssert (.iface 217 v) 179 208 true).run Tryz.prog W = .ok (.tuple #[.agg #[.int .i64 0], .bool false]) W := by kernel_rfl
theorem as_pair_var (W : World) (v : Value) : (Instr.typeAssert (.iface 217 v) 179 210 true).run Tryz.prog W = .ok (.tuple #[.agg #[.string ⟨#[]⟩], .bool false]) W := by kernel_rfl
theorem as_pair_not (W : World) (v : Value) : (Instr.typeAssert (.iface 217 v) 179 215 true).run Tryz.prog W = .ok (.tuple #[.agg #[.nilIface], .bool false]) W := by kernel_rfl
theorem as_pair_pair (W : World) (v : Value) : (Instr.typeAssert (.iface 217 v) 179 217 true).run Tryz.prog W = .ok (.tuple #[v, .bool true]) W := by kernel_rfl
end Go.Proofs.YtkfeiekgdfklmaaGreatDoor.Trm
/- The program's ReadsOf, walked. Conditions: the term lies in memory that is older than the list; it has at most 2 to the 20 kids and bytes. -/
namespace Go.Proofs.YtkfeiekgdfklmaaGreatDoor.Trm
open Go.RowKit Own Lexs
/-! ### The terms within a right one -/
/-- What the method kids of a right term leaves. -/
def KidsOf (ks : List Tree) (w : World) (e : Ending) (w' : World) : Prop :=
  ∃ a, e = .returned (.slice a ks.length ks.length) ∧ Below w.heap.size w w' ∧ (0 < ks.length → ∃ g, a = some ⟨g, 0, none⟩ ∧ w.heap.size ≤ g ∧ ∀ i (h : i < ks.length), w'.cell? ⟨g, i, none⟩ = some (rtV ks[i]))
theorem kids_num (n : Int) (w : World) : Calls Tryz.prog 232 #[.agg #[.int .i64 n]] w (KidsOf [] w) := by
  go_enter Tryz.func232, Tryz.ntmps232
  go_wp2
  go_ret
  exact ⟨none, rfl, (Below.refl _ _).alloc (Nat.le_refl _) _, fun h => by simp at h⟩
theorem kids_var (s : ByteArray) (w : World) : Calls Tryz.prog 233 #[.agg #[.string s]] w (KidsOf [] w) := by
  go_enter Tryz.func233, Tryz.ntmps233
  go_wp2
  go_ret
  exact ⟨none, rfl, (Below.refl _ _).alloc (Nat.le_refl _) _, fun h => by simp at h⟩
theorem kids_not (a : Tree) (w : World) : Calls Tryz.prog 234 #[.agg #[rtV a]] w (KidsOf [a] w) := by
  obtain ⟨ty, pv, hi⟩ := rtV_iface a
  have HI := Lib.hid hi
  rw [hi]
  clear hi
  go_enter Tryz.func234, Tryz.ntmps234
  go_wp2
  go_ret
  refine ⟨some ⟨w.heap.size + 1, 0, none⟩, rfl, ((Below.refl _ _).alloc (Nat.le_refl _) _).alloc (by simp) _, fun _ => ⟨_, rfl, by omega, fun i h => ?_⟩⟩
  obtain rfl : i = 0 := by simpa using h
  simp [go_sem, HI.out]
theorem kids_pair (k : Int) (a b : Tree) (w : World) : Calls Tryz.prog 235 #[.agg #[.int .i64 k, rtV a, rtV b]] w (KidsOf [a, b] w) := by
  obtain ⟨ty, pv, hi⟩ := rtV_iface a
  obtain ⟨ty2, pv2, hi2⟩ := rtV_iface b
  have HI := Lib.hid hi
  have HI2 := Lib.hid hi2
  rw [hi, hi2]
  clear hi hi2
  go_enter Tryz.func235, Tryz.ntmps235
  go_wp2
  go_ret
  refine ⟨some ⟨w.heap.size + 1, 0, none⟩, rfl, ((Below.refl _ _).alloc (Nat.le_refl _) _).alloc (by simp) _, fun _ => ⟨_, rfl, by omega, fun i h => ?_⟩⟩
  have h2 : i < 2 := h
  match i, h2 with
  | 0, _ => simp [go_sem, HI.out]
  | 1, _ => simp [go_sem, HI2.out]
theorem mth_num (W : World) (v : Value) : (method 401 208 v "loop.example/g00966/impl.kids").run Tryz.prog W = .ok (232, v) W := by kernel_rfl
theorem mth_var (W : World) (v : Value) : (method 401 210 v "loop.example/g00966/impl.kids").run Tryz.prog W = .ok (233, v) W := by kernel_rfl
theorem mth_not (W : World) (v : Value) : (method 401 215 v "loop.example/g00966/impl.kids").run Tryz.prog W = .ok (234, v) W := by kernel_rfl
theorem mth_pair (W : World) (v : Value) : (method 401 217 v "loop.example/g00966/impl.kids").run Tryz.prog W = .ok (235, v) W := by kernel_rfl
/-! ### The names -/
/-- Cells of another block stay. -/
theorem Moves.cell {w w' : World} {v v' : Value} {g : Nat} (h : Moves w v w' v') (hg : g < w.heap.size) (hn : v.ownBlock ≠ some g) : (∀ i, w'.cell? ⟨g, i, none⟩ = w.cell? ⟨g, i, none⟩) ∧ v'.ownBlock ≠ some g := by
  have hb : w'.heap[g]? = w.heap[g]? := h.1.block g hg (fun e => hn e.symm)
  refine ⟨fun j => World.cell?_of_block hb, fun e => ?_⟩
  rcases h.2 with h2 | h2
  · exact hn (h2 ▸ e)
  · have := h2 g e; omega
theorem Moves.ofBelow {w w' : World} (h : Below w.heap.size w w') (v : Value) : Moves w v w' v := ⟨⟨h.os, h.tape, h.output, h.size, fun i hi _ => h.block i hi⟩, .inl rfl⟩
def ReadsI (t : Tree) : Prop := ∀ (ov : Value) (w0 w : World) (acc : List ByteArray) (r : Nat), rightB t r = true → acc.length + 1 + szT t ≤ 2000000 → Below w0.heap.size w0 w → w.ownsRow w0.heap.size 9 1 ov acc.length (strV acc) →
    Calls Tryz.prog 176 #[ov, rtV t] w fun e w' => ∃ ov', e = .returned ov' ∧ w'.ownsRow w0.heap.size 9 1 ov' (readsT t acc).length (strV (readsT t acc)) ∧ Moves w ov w' ov'
set_option maxHeartbeats 800000 in
/-- A right term that is no name: what is asked of its dynamic type stands among the hypotheses. -/
theorem readsI_more (ks : List Tree) (ih : ∀ t, t ∈ ks → ReadsI t) (ty : TypeId) (pv : Value) (kf : FuncId) (has : ∀ W, (Instr.typeAssert (.iface ty pv) 179 210 true).run Tryz.prog W = .ok (.tuple #[.agg #[.string ⟨#[]⟩], .bool false]) W)
    (hm : ∀ W, (method 401 ty pv "loop.example/g00966/impl.kids").run Tryz.prog W = .ok (kf, pv) W) (hcf : ∀ W, (callFunc kf #[pv]).run Tryz.prog W = .ok (.enter kf #[pv]) W) (hc : ∀ w, Calls Tryz.prog kf #[pv] w (KidsOf ks w)) (r : Nat) (hr : ∀ t, t ∈ ks → rightB t r = true)
    (ov : Value) (w0 w : World) (acc : List ByteArray) (ha : acc.length + ks.length + szS ks ≤ 2000000) (hbe : Below w0.heap.size w0 w) (hown : w.ownsRow w0.heap.size 9 1 ov acc.length (strV acc)) :
    Calls Tryz.prog 176 #[ov, .iface ty pv] w fun e w' => ∃ ov', e = .returned ov' ∧ w'.ownsRow w0.heap.size 9 1 ov' (readsL ks acc).length (strV (readsL ks acc)) ∧ Moves w ov w' ov' := by
  have HO := Lib.hid hown
  have HB := Lib.hid hbe
  have IH := Lib.hid ih
  have HC := Lib.hid hc
  have HRK := Lib.hid hr
  have HA := Lib.hid ha
  have hkl : ks.length ≤ 2000000 := by omega
  have hbs : w0.heap.size ≤ w.heap.size := hbe.size
  clear hown hbe ih hc hr ha
  go_enter Tryz.func176, Tryz.ntmps176
  go_wp2_with fail
  refine (HC.out _).mono ?_
  rintro e w1 ⟨ka, rfl, hb1, hk⟩
  have M1 := Lib.hid ((Moves.alloc w _ ov).trans (Moves.ofBelow hb1 ov))
  have R1 := Lib.hid (row_below (HO.out.alloc _) hb1)
  have HK : Hid (0 < ks.length → ∃ g, ka = some ⟨g, 0, none⟩ ∧ g < w1.heap.size ∧ ov.ownBlock ≠ some g ∧ ∀ i (h : i < ks.length), w1.cell? ⟨g, i, none⟩ = some (rtV ks[i])) := fun hp => by
    obtain ⟨g, rfl, hg, hcell⟩ := hk hp
    exact ⟨g, rfl, cell_lt (hcell 0 hp), fun e => by have := (HO.out.lt g e).2; simp at hg; omega, hcell⟩
  clear hb1 hk
  go_wp2
  go_loopw [0, 30] (fun x i wr => ∃ (j : Nat) (ac : List ByteArray), j ≤ ks.length ∧ i = .int .i64 j ∧ Hid (readsL ks acc = readsL (ks.drop j) ac) ∧ Hid (ac.length + (ks.length - j) + szS (ks.drop j) ≤ 2000000) ∧ Hid (wr.ownsRow w0.heap.size 9 1 x ac.length (strV ac)) ∧ Hid (Moves w ov wr x) ∧ Hid (0 < ks.length → ∃ g, ka = some ⟨g, 0, none⟩ ∧ g < wr.heap.size ∧ x.ownBlock ≠ some g ∧ ∀ i (h : i < ks.length), wr.cell? ⟨g, i, none⟩ = some (rtV ks[i])))
    (fun _ i _ => ks.length - (intOf i).toNat)
  case atStart => exact ⟨0, acc, Nat.zero_le _, rfl, rfl, HA.out, R1.out, M1.out, HK.out⟩
  case round =>
    obtain ⟨j, ac, hj, rfl, hsz, hz, hrow, hmv, hkk⟩ := hrel
    by_cases hlt : j < ks.length
    · obtain ⟨g, rfl, hg, hn, hcell⟩ := hkk.out (by omega)
      have hbr := hmv.out.below HB.out HO.out
      have hd := szS_drop hlt
      have C := Lib.hid (IH.out ks[j] (List.getElem_mem hlt) u0 w0 wr ac r (HRK.out _ (List.getElem_mem hlt)) (by have := hz.out; omega) hbr hrow.out)
      have c0 := hcell j hlt
      obtain ⟨ty1, pv1, hi⟩ := rtV_iface ks[j]
      rw [hi] at c0 C
      have HN := Lib.hid hn
      have HC2 := Lib.hid hcell
      have HS : Hid (readsL ks acc = readsL (ks.drop (j + 1)) (readsT ks[j] ac)) := by show readsL ks acc = _; rw [hsz.out, List.drop_eq_getElem_cons hlt, readsL]
      have HZ2 : Hid ((readsT ks[j] ac).length + (ks.length - (j + 1)) + szS (ks.drop (j + 1)) ≤ 2000000) := by show _ ≤ _; have := hz.out; have := readsT_le ks[j] ac; omega
      clear hd hbr hi hn hcell
      go_wp2_with fail
      refine C.out.mono ?_
      rintro e w2 ⟨ov1, rfl, hrow1, hmv1⟩
      have HR1 := Lib.hid hrow1
      have HK1 : Hid (0 < ks.length → ∃ g', some (⟨g, 0, none⟩ : Addr) = some ⟨g', 0, none⟩ ∧ g' < w2.heap.size ∧ ov1.ownBlock ≠ some g' ∧ ∀ i (h : i < ks.length), w2.cell? ⟨g', i, none⟩ = some (rtV ks[i])) := fun _ => by
        obtain ⟨h1, h2⟩ := hmv1.cell hg HN.out
        exact ⟨g, rfl, Nat.lt_of_lt_of_le hg hmv1.1.size, h2, fun i h => (h1 i).trans (HC2.out i h)⟩
      have HM1 := Lib.hid (hmv.out.trans hmv1)
      clear hrow1 hmv1
      go_wp2
      go_roundw
      case rel => exact ⟨j + 1, readsT ks[j] ac, by omega, by go_num, HS, HZ2, HR1.out, HM1.out, HK1.out⟩
      case measure => simp [intOf]; omega
    · have HS : Hid (readsL ks acc = ac) := by show _ = _; rw [hsz.out, List.drop_of_length_le (by omega), readsL]
      go_wp2
      go_ret
      exact ⟨_, rfl, by rw [HS.out]; exact hrow.out, hmv.out⟩
theorem cf_num (v : Value) (W : World) : (callFunc 232 #[v]).run Tryz.prog W = .ok (.enter 232 #[v]) W := by kernel_rfl
theorem cf_not (v : Value) (W : World) : (callFunc 234 #[v]).run Tryz.prog W = .ok (.enter 234 #[v]) W := by kernel_rfl
theorem cf_pair (v : Value) (W : World) : (callFunc 235 #[v]).run Tryz.prog W = .ok (.enter 235 #[v]) W := by kernel_rfl
set_option maxHeartbeats 800000 in
theorem readsI_var (s : ByteArray) (ov : Value) (w0 w : World) (acc : List ByteArray) (ha : acc.length + 1 ≤ 2000000) (hbe : Below w0.heap.size w0 w) (hown : w.ownsRow w0.heap.size 9 1 ov acc.length (strV acc)) :
    Calls Tryz.prog 176 #[ov, .iface 210 (.agg #[.string s])] w fun e w' => ∃ ov', e = .returned ov' ∧ w'.ownsRow w0.heap.size 9 1 ov' (addN acc s).length (strV (addN acc s)) ∧ Moves w ov w' ov' := by
  obtain ⟨i0, hi, hz0, hz1, hz2⟩ := info_parts infoStrR
  obtain ⟨oa, oc, rfl, hoa⟩ := row_shape hown
  have HO := Lib.hid hown
  have hbs : w0.heap.size ≤ w.heap.size := hbe.size
  have as1 := as_var_var
  have m1 := mth_var
  clear hown hoa hbe
  by_cases hm : s ∈ acc
  · have HR : Hid (addN acc s = acc) := addN_in hm
    have C := Lib.hid (implHas_yes acc s (.slice oa acc.length oc) (w.alloc (.cells #[.string s] 210)) (strs_of_row (HO.out.alloc _)) hm)
    clear hm
    go_enter Tryz.func176, Tryz.ntmps176
    go_wp2_with fail
    refine C.out.mono ?_
    rintro e w1 ⟨rfl, hw1⟩
    have R1 : Hid (w1.ownsRow w0.heap.size 9 1 (.slice oa acc.length oc) acc.length (strV acc)) := by show World.ownsRow _ _ _ _ _ _ _; rw [hw1.out]; exact HO.out.alloc _
    have M1 : Hid (Moves w (.slice oa acc.length oc) w1 (.slice oa acc.length oc)) := by show Moves _ _ _ _; rw [hw1.out]; exact Moves.alloc _ _ _
    clear hw1
    go_wp2_with fail
    refine (kids_var s _).mono ?_
    rintro e w2 ⟨ka, rfl, hb2, _⟩
    have R2 := Lib.hid (row_below R1.out hb2)
    have M2 := Lib.hid (M1.out.trans (Moves.ofBelow hb2 _))
    clear hb2
    go_wp2
    go_loopw [0, 30] (fun x i wr => x = .slice oa acc.length oc ∧ i = .int .i64 0 ∧ wr = w2) (fun _ _ _ => 0)
    case atStart => exact ⟨rfl, rfl, rfl⟩
    case round =>
      obtain ⟨rfl, rfl, rfl⟩ := hrel
      go_wp2
      go_ret
      exact ⟨_, rfl, by rw [HR.out]; exact R2.out, M2.out⟩
  · have HR : Hid (addN acc s = acc ++ [s]) := addN_out hm
    have C := Lib.hid (implHas_no acc s (.slice oa acc.length oc) (w.alloc (.cells #[.string s] 210)) (strs_of_row (HO.out.alloc _)) hm)
    clear hm
    go_enter Tryz.func176, Tryz.ntmps176
    go_wp2_with fail
    refine C.out.mono ?_
    rintro e w1 ⟨rfl, hw1⟩
    have R1 : Hid (w1.ownsRow w0.heap.size 9 1 (.slice oa acc.length oc) acc.length (strV acc)) := by show World.ownsRow _ _ _ _ _ _ _; rw [hw1.out]; exact HO.out.alloc _
    have M1 : Hid (Moves w (.slice oa acc.length oc) w1 (.slice oa acc.length oc)) := by show Moves _ _ _ _; rw [hw1.out]; exact Moves.alloc _ _ _
    have p0 : w1.cell? ⟨w.heap.size, 0, none⟩ = some (.string s) := by rw [hw1.out]; simp [go_sem]
    clear hw1
    go_wp2_with (at_builtin; refine wpList_append_lies _ rfl (.tmp 22) (.tmp 25) 24 rfl w0.heap.size 9 i0 (.string ⟨#[]⟩) 1 16 Tryz.underlying24 hi hz0 hz1 hz2 rfl (by decide) (.slice oa acc.length oc) acc.length _ rfl (R1.out.alloc _) ⟨w1.heap.size, 0, none⟩ 1 1 [.string s] rfl rfl (World.news_of_block (heap_alloc_new _ _)) (one_textR _) (by decide) (by unfold maxLen; omega) (by omega) (by have := M1.out.1.size; simp; omega) _ rfl ?_)
    intro g1 cap1 w2 hown1 hg1 hat1 hlt1
    have R2 : Hid (w2.ownsRow w0.heap.size 9 1 (.slice (some ⟨g1, 0, none⟩) (acc.length + 1) cap1) (acc.length + 1) (strV (acc ++ [s]))) := by
      show World.ownsRow _ _ _ _ _ _ _
      simpa [strV] using hown1
    have M2 : Hid (Moves w (.slice oa acc.length oc) w2 (.slice (some ⟨g1, 0, none⟩) (acc.length + 1) cap1)) := by
      refine M1.out.trans ((Moves.alloc _ _ _).trans ⟨hg1, ?_⟩)
      rcases hat1 with h | h
      · exact .inl h.symm
      · exact .inr fun k hk => by cases hk; simp; omega
    clear hown1 hg1 hat1 hlt1 p0
    go_wp2_with fail
    refine (kids_var s _).mono ?_
    rintro e w3 ⟨ka, rfl, hb3, _⟩
    have R3 := Lib.hid (row_below R2.out hb3)
    have M3 := Lib.hid (M2.out.trans (Moves.ofBelow hb3 _))
    clear hb3
    go_wp2
    go_loopw [0, 30] (fun x i wr => x = .slice (some ⟨g1, 0, none⟩) (acc.length + 1) cap1 ∧ i = .int .i64 0 ∧ wr = w3) (fun _ _ _ => 0)
    case atStart => exact ⟨rfl, rfl, rfl⟩
    case round =>
      obtain ⟨rfl, rfl, rfl⟩ := hrel
      go_wp2
      go_ret
      exact ⟨_, rfl, by rw [HR.out]; simpa using R3.out, M3.out⟩
theorem rightS_memR : ∀ {ks : List Tree} {r : Nat}, rightS ks r = true → ∀ t, t ∈ ks → rightB t r = true
  | [], _, _, t, ht => by cases ht
  | a :: ks, r, h, t, ht => by
    rw [rightS, Bool.and_eq_true] at h
    rcases List.mem_cons.1 ht with e | e
    · rw [e]; exact h.1
    · exact rightS_memR h.2 t e
theorem right_partsR {k n : Int} {s : ByteArray} {ks : List Tree} {r : Nat} (h : rightB (.node k n s ks) r = true) (h1 : k ≠ 1) (h2 : k ≠ 2) : 3 ≤ k ∧ k ≤ 9 ∧ n = 0 ∧ s.size = 0 ∧ (ks.length : Int) = manyK k ∧ r ≠ 0 ∧ ∀ t, t ∈ ks → rightB t (r - 1) = true := by
  rw [rightB, if_neg h1, if_neg h2] at h
  simp only [Bool.and_eq_true, decide_eq_true_eq] at h
  obtain ⟨⟨⟨⟨⟨⟨a, b⟩, c⟩, d⟩, e⟩, f⟩, g⟩ := h
  exact ⟨a, b, c, d, e, f, rightS_memR g⟩
theorem right_noKids {k n : Int} {s : ByteArray} {ks : List Tree} {r : Nat} (h : rightB (.node k n s ks) r = true) (hk : k = 1 ∨ k = 2) : ks = [] := by
  rcases hk with rfl | rfl
  · rw [rightB, if_pos rfl] at h
    simp only [Bool.and_eq_true, decide_eq_true_eq] at h
    exact List.length_eq_zero_iff.1 h.2
  · rw [rightB, if_neg (by decide), if_pos rfl] at h
    simp only [Bool.and_eq_true, decide_eq_true_eq] at h
    exact List.length_eq_zero_iff.1 h.2
theorem implReads_any : ∀ t : Tree, ReadsI t := treeInd fun k n s ks ih ov w0 w acc r hr ha hbe hown => by
  by_cases h2 : k = 2
  · subst h2
    rw [rtV_var, readsT, if_pos rfl]
    exact readsI_var s ov w0 w acc (by omega) hbe hown
  · rw [readsT, if_neg h2]
    rw [szT] at ha
    by_cases h1 : k = 1
    · subst h1
      obtain rfl := right_noKids hr (.inl rfl)
      rw [rtV_num]
      exact readsI_more [] ih _ _ _ (fun W => as_num_var W _) (fun W => mth_num W _) (fun W => cf_num _ W) (fun w => kids_num n w) (r - 1) (fun t ht => by cases ht) ov w0 w acc (by omega) hbe hown
    · obtain ⟨hk3, hk9, hn0, hs0, hlen, _, hrk⟩ := right_partsR hr h1 h2
      by_cases h8 : k = 8
      · subst h8
        have e1 : ks.length = 1 := by have : manyK 8 = 1 := rfl; omega
        rw [rtV_not (by omega)]
        match ks, e1 with
        | [a], _ => exact readsI_more [a] ih _ _ _ (fun W => as_not_var W _) (fun W => mth_not W _) (fun W => cf_not _ W) (fun w => kids_not a w) (r - 1) hrk ov w0 w acc (by omega) hbe hown
      · rw [many_other h8] at hlen
        have e2 : ks.length = 2 := by omega
        rw [rtV_pair h1 h2 h8 (by omega)]
        match ks, e2 with
        | [a, b], _ => exact readsI_more [a, b] ih _ _ _ (fun W => as_pair_var W _) (fun W => mth_pair W _) (fun W => cf_pair _ W) (fun w => kids_pair k a b w) (r - 1) hrk ov w0 w acc (by omega) hbe hown
set_option maxHeartbeats 400000 in
theorem implReadsOf_any (t : Tree) (v : Value) (w : World) (hl : Lies w t v) (hz : szT t ≤ 1048576) :
    Calls Tryz.prog 151 #[v] w fun e w' => ∃ ov, e = .returned ov ∧ w'.ownsRow w.heap.size 9 1 ov (readsOfT t).length (strV (readsOfT t)) ∧ Below w.heap.size w w' := by
  have C := Lib.hid (implRight_any t v (w.alloc (.cells v.cells 34)) 6 (by omega) (hl.keep (keeps_alloc _ _)))
  obtain ⟨aa, cap, rfl⟩ := hl.shape
  have X0 := Lib.hid (Box4.new w (.int .i64 t.kind) (.int .i64 t.num) (.string t.name) (.slice aa t.kids.length cap) 34)
  obtain ⟨p0, p1, p2, p3⟩ := X0.out
  obtain ⟨ty, pv, hi⟩ := rtV_iface t
  have HI := Lib.hid hi
  clear hl hi
  cases hb : rightB t 6 with
  | false =>
    have HR : Hid (readsOfT t = []) := by show _ = _; unfold readsOfT okB; rw [hb]; rfl
    unfold RightPost at C
    rw [hb] at C
    clear hb
    go_enter Tryz.func151, Tryz.ntmps151
    go_wp2_with fail
    refine C.out.mono ?_
    rintro e w1 ⟨x, rfl, _, hb1⟩
    have B1 := Lib.hid (below_box1 hb1)
    clear hb1
    go_wp2
    go_ret
    exact ⟨_, rfl, by rw [HR.out]; exact World.ownsRow_nil _ _ _ _, B1.out⟩
  | true =>
    have HR : Hid (readsOfT t = readsT t []) := by show _ = _; unfold readsOfT okB; rw [hb]; rfl
    have D := Lib.hid (fun w1 hbe => implReads_any t (.slice none 0 0) w w1 [] 6 hb (by simp; omega) hbe (World.ownsRow_nil _ _ _ _))
    rw [HI.out] at D
    unfold RightPost at C
    rw [hb, HI.out] at C
    clear hb
    go_enter Tryz.func151, Tryz.ntmps151
    go_wp2_with fail
    refine C.out.mono ?_
    rintro e w1 ⟨x, rfl, hx, hb1⟩
    obtain rfl : x = .iface ty pv := hx.1 trivial
    have B1 := Lib.hid (below_box1 hb1)
    clear hb1 hx
    go_wp2_with fail
    refine (D.out _ B1.out).mono ?_
    rintro e w2 ⟨ov, rfl, hrow, hmv⟩
    have HRow := Lib.hid hrow
    have HB2 := Lib.hid (hmv.below B1.out (World.ownsRow_nil (size := 1) w1 w.heap.size 9))
    clear hrow hmv
    go_wp2
    go_ret
    exact ⟨_, rfl, by rw [HR.out]; exact HRow.out, HB2.out⟩
end Go.Proofs.YtkfeiekgdfklmaaGreatDoor.Trm
/- The names that one statement has, of the program, walked. Conditions: the statement lies in memory; its term has at most 2 to the 20 kids and bytes. -/
namespace Go.Proofs.YtkfeiekgdfklmaaGreatDoor.Trm
open Go.RowKit Own
/-- Cells of another block stay. -/
theorem Moves.cellU {w w' : World} {v v' : Value} {g : Nat} (h : Moves w v w' v') (hg : g < w.heap.size) (hn : v.ownBlock ≠ some g) : ∀ i, w'.cell? ⟨g, i, none⟩ = w.cell? ⟨g, i, none⟩ :=
  fun _ => World.cell?_of_block (h.1.block g hg (fun e => hn e.symm))
theorem infoUse : (Tryz.prog.info? 75).map (fun i => (i.zero, i.size, i.bytes)) = some (some (.agg #[.int .i64 0, .string ⟨#[]⟩]), 2, 24) := by kernel_rfl
theorem one_use (k : Int) (s : ByteArray) : ∀ u ∈ [Value.int .i64 k, Value.string s], u.oneCell' = true := by
  intro u hu
  rcases List.mem_cons.1 hu with rfl | hu
  · rfl
  · rcases List.mem_cons.1 hu with rfl | hu
    · rfl
    · cases hu
/-- Names with their kinds, in a row of the call's own. -/
def UsRow (w : World) (base : Nat) (v : Value) (us : List Use) : Prop := w.ownsRow base 75 2 v us.length (usV us)
theorem UsRow.alloc {w : World} {base : Nat} {v : Value} {us : List Use} (h : UsRow w base v us) (o : Obj) : UsRow (w.alloc o) base v us := World.ownsRow.alloc h o
theorem UsRow.shape {w : World} {base : Nat} {v : Value} {us : List Use} (h : UsRow w base v us) : ∃ a c, v = .slice a us.length c := by
  obtain ⟨a, c, e, _⟩ := row_shape h
  exact ⟨a, c, e⟩
theorem UsRow.below {w w' : World} {base : Nat} {v : Value} {us : List Use} (h : UsRow w base v us) (hb : Below w.heap.size w w') : UsRow w' base v us := row_below h hb
theorem UsRow.nil (w : World) (base : Nat) : UsRow w base (.slice none 0 0) [] := ⟨rfl, .inl ⟨rfl, rfl⟩⟩
theorem us_snoc {w : World} {base g n c : Nat} {us : List Use} {k : Int} {s : ByteArray} (hn : n = us.length) (h : w.ownsRow base 75 2 (.slice (some ⟨g, 0, none⟩) (n + 1) c) (n + 1) (usV us ++ [.int .i64 k, .string s])) : UsRow w base (.slice (some ⟨g, 0, none⟩) (us ++ [(k, s)]).length c) (us ++ [(k, s)]) := by
  subst hn
  unfold UsRow
  rw [usV_append, List.length_append]
  exact h
/-- What usesAlone, usesIn, usesInProg leave. -/
def UsPost (us : List Use) (w : World) (e : Ending) (w' : World) : Prop := ∃ ov, e = .returned ov ∧ UsRow w' w.heap.size ov us ∧ Below w.heap.size w w'
theorem globUs_take {ns : List ByteArray} {j : Nat} (h : j < ns.length) : globUs (ns.take (j + 1)) = globUs (ns.take j) ++ [(0, ns[j])] := by
  unfold globUs
  rw [List.map_take, List.map_take, List.take_add_one, List.getElem?_eq_getElem (by simpa using h)]; simp
set_option maxRecDepth 20000 in
set_option maxHeartbeats 1600000 in
theorem implAlone_any (x : STree) (v : Value) (w : World) (hz : szT x.term ≤ 1048576) (hl : SLies w x v) :
    Calls Tryz.prog 142 #[v] w (UsPost (aloneUs x.kind x.name x.term) w) := by
  obtain ⟨ta, tc, ba, bc, ea, ec, rfl⟩ := hl.shape
  obtain ⟨ht, _, _⟩ := hl.lists
  obtain ⟨i0, hi, hz0, hz1, hz2⟩ := info_parts infoUse
  have HI := Lib.hid hi
  have HZ0 := Lib.hid hz0
  have HZ1 := Lib.hid hz1
  have HZ2 := Lib.hid hz2
  have HTL := Lib.hid ht
  have HSX := Lib.hid hz
  unfold aloneUs
  clear hl ht hz hi hz0 hz1 hz2
  generalize x.kind = k
  generalize x.name = nm
  generalize x.term = tm at *
  generalize x.body = bd
  generalize x.els = el
  have hr3 := readsOfT_le tm
  have HB1 : Hid (Below w.heap.size w (w.alloc (.cells #[.int .i64 k, .string nm, .int .i64 tm.kind, .int .i64 tm.num, .string tm.name, .slice ta tm.kids.length tc, .slice ba bd.length bc, .slice ea el.length ec] 36))) := (Below.refl _ _).alloc (Nat.le_refl _) _
  have HSB : Hid ((w.alloc (.cells #[.int .i64 k, .string nm, .int .i64 tm.kind, .int .i64 tm.num, .string tm.name, .slice ta tm.kids.length tc, .slice ba bd.length bc, .slice ea el.length ec] 36)).heap[w.heap.size]? = some (.cells #[.int .i64 k, .string nm, .int .i64 tm.kind, .int .i64 tm.num, .string tm.name, .slice ta tm.kids.length tc, .slice ba bd.length bc, .slice ea el.length ec] 36 (0, 0))) := heap_alloc_new _ _
  obtain ⟨W1, hW1⟩ : ∃ w1, w1 = w.alloc (.cells #[.int .i64 k, .string nm, .int .i64 tm.kind, .int .i64 tm.num, .string tm.name, .slice ta tm.kids.length tc, .slice ba bd.length bc, .slice ea el.length ec] 36) := ⟨_, rfl⟩
  have HNN : Hid ((Value.slice none 0 0).ownBlock ≠ some w.heap.size) := by show _ ≠ _; simp [Value.ownBlock]
  have HR1 : Hid (UsRow W1 w.heap.size (.slice none 0 0) []) := UsRow.nil _ _
  go_enter Tryz.func142, Tryz.ntmps142
  go_upto_block 0 with fail
  rw [← hW1] at HB1 HSB
  rw [← hW1]
  clear hW1
  have hws : w.heap.size ≤ W1.heap.size := HB1.out.size
  obtain ⟨S, hS⟩ : ∃ n, n = w.heap.size := ⟨_, rfl⟩
  rw [← hS] at HSB HNN HR1 hws
  rw [← hS]
  have HS := Lib.hid hS
  clear hS
  obtain ⟨s0, s1, s2, s3, s4, s5, s6, s7⟩ := (blk8 (Moves.refl W1 (.slice none 0 0)) HSB.out HNN.out).2
  go_cut [3] (fun s3 wx => ∃ oa oc, s3 = .slice oa (headUs k nm).length oc ∧ Hid (UsRow wx S s3 (headUs k nm)) ∧ Hid (Moves W1 (.slice none 0 0) wx s3))
  case first =>
    rcases (by omega : k = 1 ∨ k = 6 ∨ k = 7 ∨ k = 4 ∨ k = 5 ∨ (k ≠ 1 ∧ k ≠ 6 ∧ k ≠ 7 ∧ k ≠ 4 ∧ k ≠ 5)) with hkk | hkk | hkk | hkk | hkk | ⟨n1, n6, n7, n4, n5⟩
    · have k1 : (k == 1) = true := by simp [hkk]
      have HU : Hid (headUs k nm = [(0, nm)]) := by show _ = _; unfold headUs; rw [if_pos hkk]
      clear hkk
      go_wp2_with (at_builtin; refine wpList_append_lies _ rfl (.tmp 10) (.tmp 14) 71 rfl S 75 i0 (.agg #[.int .i64 0, .string ⟨#[]⟩]) 2 24 Tryz.underlying71 HI.out HZ0.out HZ1.out HZ2.out rfl (by decide) (.slice none 0 0) 0 _ rfl (HR1.out.alloc _) ⟨W1.heap.size, 0, none⟩ 1 1 [.int .i64 0, .string nm] rfl rfl (World.news_of_block (heap_alloc_new _ _)) (one_use _ _) (by decide) (by unfold maxLen; omega) (by omega) (by simp; omega) _ rfl ?_)
      intro g2 cap2 w2 hown2 hg2 hat2 hlt2
      have HR2 : Hid (UsRow w2 S (.slice (some ⟨g2, 0, none⟩) (headUs k nm).length cap2) (headUs k nm)) := by show UsRow _ _ _ _; rw [HU.out]; exact us_snoc (us := []) rfl hown2
      have HM2 : Hid (Moves W1 (.slice none 0 0) w2 (.slice (some ⟨g2, 0, none⟩) (headUs k nm).length cap2)) := by
        refine (Moves.alloc _ _ _).trans ⟨hg2, ?_⟩
        rcases hat2 with h | h
        · exact .inl h.symm
        · exact .inr fun k hk => by cases hk; simp; omega
      have hlen : (headUs k nm).length = 1 := by rw [HU.out]; rfl
      clear hown2 hg2 hat2 hlt2
      go_wp2_with fail
      go_meet
      exact ⟨some ⟨g2, 0, none⟩, cap2, by rw [hlen], by rw [hlen] at HR2; exact HR2.out, by rw [hlen] at HM2; exact HM2.out⟩
    · have k1 : (k == 1) = false := by rw [beq_eq_false_iff_ne]; omega
      have k6 : (k == 6) = true := by simp [hkk]
      have HU : Hid (headUs k nm = [(1, nm)]) := by show _ = _; unfold headUs; rw [if_neg (by omega), if_pos (by omega)]
      clear hkk
      go_wp2_with (at_builtin; refine wpList_append_lies _ rfl (.tmp 19) (.tmp 23) 71 rfl S 75 i0 (.agg #[.int .i64 0, .string ⟨#[]⟩]) 2 24 Tryz.underlying71 HI.out HZ0.out HZ1.out HZ2.out rfl (by decide) (.slice none 0 0) 0 _ rfl (HR1.out.alloc _) ⟨W1.heap.size, 0, none⟩ 1 1 [.int .i64 1, .string nm] rfl rfl (World.news_of_block (heap_alloc_new _ _)) (one_use _ _) (by decide) (by unfold maxLen; omega) (by omega) (by simp; omega) _ rfl ?_)
      intro g2 cap2 w2 hown2 hg2 hat2 hlt2
      have HR2 : Hid (UsRow w2 S (.slice (some ⟨g2, 0, none⟩) (headUs k nm).length cap2) (headUs k nm)) := by show UsRow _ _ _ _; rw [HU.out]; exact us_snoc (us := []) rfl hown2
      have HM2 : Hid (Moves W1 (.slice none 0 0) w2 (.slice (some ⟨g2, 0, none⟩) (headUs k nm).length cap2)) := by
        refine (Moves.alloc _ _ _).trans ⟨hg2, ?_⟩
        rcases hat2 with h | h
        · exact .inl h.symm
        · exact .inr fun k hk => by cases hk; simp; omega
      have hlen : (headUs k nm).length = 1 := by rw [HU.out]; rfl
      clear hown2 hg2 hat2 hlt2
      go_wp2_with fail
      go_meet
      exact ⟨some ⟨g2, 0, none⟩, cap2, by rw [hlen], by rw [hlen] at HR2; exact HR2.out, by rw [hlen] at HM2; exact HM2.out⟩
    · have k1 : (k == 1) = false := by rw [beq_eq_false_iff_ne]; omega
      have k6 : (k == 6) = false := by rw [beq_eq_false_iff_ne]; omega
      have k7 : (k == 7) = true := by simp [hkk]
      have HU : Hid (headUs k nm = [(1, nm)]) := by show _ = _; unfold headUs; rw [if_neg (by omega), if_pos (by omega)]
      clear hkk
      go_wp2_with (at_builtin; refine wpList_append_lies _ rfl (.tmp 19) (.tmp 23) 71 rfl S 75 i0 (.agg #[.int .i64 0, .string ⟨#[]⟩]) 2 24 Tryz.underlying71 HI.out HZ0.out HZ1.out HZ2.out rfl (by decide) (.slice none 0 0) 0 _ rfl (HR1.out.alloc _) ⟨W1.heap.size, 0, none⟩ 1 1 [.int .i64 1, .string nm] rfl rfl (World.news_of_block (heap_alloc_new _ _)) (one_use _ _) (by decide) (by unfold maxLen; omega) (by omega) (by simp; omega) _ rfl ?_)
      intro g2 cap2 w2 hown2 hg2 hat2 hlt2
      have HR2 : Hid (UsRow w2 S (.slice (some ⟨g2, 0, none⟩) (headUs k nm).length cap2) (headUs k nm)) := by show UsRow _ _ _ _; rw [HU.out]; exact us_snoc (us := []) rfl hown2
      have HM2 : Hid (Moves W1 (.slice none 0 0) w2 (.slice (some ⟨g2, 0, none⟩) (headUs k nm).length cap2)) := by
        refine (Moves.alloc _ _ _).trans ⟨hg2, ?_⟩
        rcases hat2 with h | h
        · exact .inl h.symm
        · exact .inr fun k hk => by cases hk; simp; omega
      have hlen : (headUs k nm).length = 1 := by rw [HU.out]; rfl
      clear hown2 hg2 hat2 hlt2
      go_wp2_with fail
      go_meet
      exact ⟨some ⟨g2, 0, none⟩, cap2, by rw [hlen], by rw [hlen] at HR2; exact HR2.out, by rw [hlen] at HM2; exact HM2.out⟩
    · have k1 : (k == 1) = false := by rw [beq_eq_false_iff_ne]; omega
      have k6 : (k == 6) = false := by rw [beq_eq_false_iff_ne]; omega
      have k7 : (k == 7) = false := by rw [beq_eq_false_iff_ne]; omega
      have k4 : (k == 4) = true := by simp [hkk]
      have HU : Hid (headUs k nm = [(2, nm)]) := by show _ = _; unfold headUs; rw [if_neg (by omega), if_neg (by omega), if_pos (by omega)]
      clear hkk
      go_wp2_with (at_builtin; refine wpList_append_lies _ rfl (.tmp 28) (.tmp 32) 71 rfl S 75 i0 (.agg #[.int .i64 0, .string ⟨#[]⟩]) 2 24 Tryz.underlying71 HI.out HZ0.out HZ1.out HZ2.out rfl (by decide) (.slice none 0 0) 0 _ rfl (HR1.out.alloc _) ⟨W1.heap.size, 0, none⟩ 1 1 [.int .i64 2, .string nm] rfl rfl (World.news_of_block (heap_alloc_new _ _)) (one_use _ _) (by decide) (by unfold maxLen; omega) (by omega) (by simp; omega) _ rfl ?_)
      intro g2 cap2 w2 hown2 hg2 hat2 hlt2
      have HR2 : Hid (UsRow w2 S (.slice (some ⟨g2, 0, none⟩) (headUs k nm).length cap2) (headUs k nm)) := by show UsRow _ _ _ _; rw [HU.out]; exact us_snoc (us := []) rfl hown2
      have HM2 : Hid (Moves W1 (.slice none 0 0) w2 (.slice (some ⟨g2, 0, none⟩) (headUs k nm).length cap2)) := by
        refine (Moves.alloc _ _ _).trans ⟨hg2, ?_⟩
        rcases hat2 with h | h
        · exact .inl h.symm
        · exact .inr fun k hk => by cases hk; simp; omega
      have hlen : (headUs k nm).length = 1 := by rw [HU.out]; rfl
      clear hown2 hg2 hat2 hlt2
      go_wp2_with fail
      go_meet
      exact ⟨some ⟨g2, 0, none⟩, cap2, by rw [hlen], by rw [hlen] at HR2; exact HR2.out, by rw [hlen] at HM2; exact HM2.out⟩
    · have k1 : (k == 1) = false := by rw [beq_eq_false_iff_ne]; omega
      have k6 : (k == 6) = false := by rw [beq_eq_false_iff_ne]; omega
      have k7 : (k == 7) = false := by rw [beq_eq_false_iff_ne]; omega
      have k4 : (k == 4) = false := by rw [beq_eq_false_iff_ne]; omega
      have k5 : (k == 5) = true := by simp [hkk]
      have HU : Hid (headUs k nm = [(2, nm)]) := by show _ = _; unfold headUs; rw [if_neg (by omega), if_neg (by omega), if_pos (by omega)]
      clear hkk
      go_wp2_with (at_builtin; refine wpList_append_lies _ rfl (.tmp 28) (.tmp 32) 71 rfl S 75 i0 (.agg #[.int .i64 0, .string ⟨#[]⟩]) 2 24 Tryz.underlying71 HI.out HZ0.out HZ1.out HZ2.out rfl (by decide) (.slice none 0 0) 0 _ rfl (HR1.out.alloc _) ⟨W1.heap.size, 0, none⟩ 1 1 [.int .i64 2, .string nm] rfl rfl (World.news_of_block (heap_alloc_new _ _)) (one_use _ _) (by decide) (by unfold maxLen; omega) (by omega) (by simp; omega) _ rfl ?_)
      intro g2 cap2 w2 hown2 hg2 hat2 hlt2
      have HR2 : Hid (UsRow w2 S (.slice (some ⟨g2, 0, none⟩) (headUs k nm).length cap2) (headUs k nm)) := by show UsRow _ _ _ _; rw [HU.out]; exact us_snoc (us := []) rfl hown2
      have HM2 : Hid (Moves W1 (.slice none 0 0) w2 (.slice (some ⟨g2, 0, none⟩) (headUs k nm).length cap2)) := by
        refine (Moves.alloc _ _ _).trans ⟨hg2, ?_⟩
        rcases hat2 with h | h
        · exact .inl h.symm
        · exact .inr fun k hk => by cases hk; simp; omega
      have hlen : (headUs k nm).length = 1 := by rw [HU.out]; rfl
      clear hown2 hg2 hat2 hlt2
      go_wp2_with fail
      go_meet
      exact ⟨some ⟨g2, 0, none⟩, cap2, by rw [hlen], by rw [hlen] at HR2; exact HR2.out, by rw [hlen] at HM2; exact HM2.out⟩
    · have k1 : (k == 1) = false := by rw [beq_eq_false_iff_ne]; exact n1
      have k6 : (k == 6) = false := by rw [beq_eq_false_iff_ne]; exact n6
      have k7 : (k == 7) = false := by rw [beq_eq_false_iff_ne]; exact n7
      have k4 : (k == 4) = false := by rw [beq_eq_false_iff_ne]; exact n4
      have k5 : (k == 5) = false := by rw [beq_eq_false_iff_ne]; exact n5
      have HU : Hid (headUs k nm = []) := by show _ = _; unfold headUs; rw [if_neg n1, if_neg (by omega), if_neg (by omega)]
      clear n1 n6 n7 n4 n5
      go_wp2_with fail
      go_meet
      rw [HU.out]
      exact ⟨none, 0, rfl, HR1.out, Moves.refl _ _⟩
  case rest =>
    obtain ⟨oa2, oc2, rfl, HR2, HM2⟩ := hcut
    obtain ⟨w2, hw2⟩ : ∃ w0, w0 = wc := ⟨_, rfl⟩
    subst hw2
    have hlh := headUs_le k nm
    generalize headUs k nm = hs at *
    have HSB2 := Lib.hid (blk8 HM2.out HSB.out HNN.out).1
    have HB2 : Hid (Below S w w2) := by
      show Below _ _ _
      rw [HS.out]; rw [HS.out] at HR1
      exact HM2.out.below HB1.out HR1.out
    clear s0 s1 s2 s3 s4 s5 s6 s7 HSB HNN HR1 HM2
    obtain ⟨s0, s1, s2, s3, s4, s5, s6, s7⟩ := (blk8 (Moves.refl w2 (.slice oa2 hs.length oc2)) HSB2.out.1 HSB2.out.2).2
    have hws2 : S ≤ w2.heap.size := by rw [HS.out]; exact HB2.out.size
    have CR := Lib.hid (implReadsOf_any tm _ w2 (HTL.out.keep (keeps_below (by rw [← HS.out]; exact HB2.out))) HSX.out)
    go_wp2_with fail
    refine CR.out.mono ?_
    rintro e w3 ⟨rv, rfl, hr3, hb3⟩
    obtain ⟨ra, rc, rfl, hra⟩ := row_shape hr3
    have HB3 : Hid (Below S w w3) := HB2.out.trans (hb3.mono hws2)
    have HR3 := Lib.hid (HR2.out.below hb3)
    generalize readsOfT tm = rs at *
    have HRS := Lib.hid hr3
    have HRA := Lib.hid hra
    have hws3 : S ≤ w3.heap.size := by rw [HS.out]; exact HB3.out.size
    have hsz2 : w2.heap.size ≤ w3.heap.size := hb3.size
    have hzr := HSX.out
    clear hra hr3 hb3 s0 s1 s2 s3 s4 s5 s6 s7 CR
    have HFO : Hid (∀ g, ra = some ⟨g, 0, none⟩ → g < w3.heap.size ∧ (Value.slice oa2 hs.length oc2).ownBlock ≠ some g) := fun g hg => by
      subst hg
      have h1 := HRS.out.lt g rfl
      exact ⟨h1.2, fun e => by have := (HR2.out.lt g e).2; omega⟩
    go_wp2_with fail
    go_loopw [3, 38] (fun o i wr => ∃ j : Nat, j ≤ rs.length ∧ i = .int .i64 j ∧ Hid (UsRow wr S o (hs ++ globUs (rs.take j))) ∧ Hid (Moves w3 (.slice oa2 hs.length oc2) wr o))
      (fun _ i _ => rs.length - (intOf i).toNat)
    case atStart => exact ⟨0, Nat.zero_le _, rfl, by rw [List.take_zero]; simpa [globUs] using HR3, Moves.refl _ _⟩
    case round =>
      obtain ⟨j, hj, rfl, hrow, hmv⟩ := hrel
      have hle : (hs ++ globUs (rs.take j)).length = hs.length + j := by unfold globUs; simp; omega
      have HE : Hid (hs ++ globUs (rs.take j) = hs ++ globUs (rs.take j)) := rfl
      generalize hus : hs ++ globUs (rs.take j) = us at hrow hle
      have HUS := Lib.hid hus
      clear hus
      obtain ⟨oa, oc, rfl⟩ := hrow.out.shape
      have hsw : S ≤ wr.heap.size := by have := hmv.out.1.size; omega
      have hul : us.length ≤ 8000000 := by omega
      clear hle HE
      by_cases hlt : j < rs.length
      · obtain ⟨g, rfl⟩ := HRA.out (by omega)
        have c0 : wr.cell? ⟨g, j, none⟩ = some (.string rs[j]) := (hmv.out.cellU (HFO.out g rfl).1 (HFO.out g rfl).2 j).trans (row_cell HRS.out j hlt)
        have HT : Hid (hs ++ globUs (rs.take (j + 1)) = us ++ [(0, rs[j])]) := by show _ = _; rw [globUs_take hlt, ← List.append_assoc, HUS.out]
        generalize rs[j] = z at *
        go_wp2_with (at_builtin; refine wpList_append_lies _ rfl (.tmp 42) (.tmp 45) 71 rfl S 75 i0 (.agg #[.int .i64 0, .string ⟨#[]⟩]) 2 24 Tryz.underlying71 HI.out HZ0.out HZ1.out HZ2.out rfl (by decide) (.slice oa us.length oc) us.length _ rfl (hrow.out.alloc _) ⟨wr.heap.size, 0, none⟩ 1 1 [.int .i64 0, .string z] rfl rfl (World.news_of_block (heap_alloc_new _ _)) (one_use _ _) (by decide) (by unfold maxLen; omega) (by omega) (by simp; omega) _ rfl ?_)
        intro g4 cap4 w4 hown4 hg4 hat4 hlt4
        have HR4 : Hid (UsRow w4 S (.slice (some ⟨g4, 0, none⟩) (us.length + 1) cap4) (hs ++ globUs (rs.take (j + 1)))) := by
          show UsRow _ _ _ _
          rw [HT.out]
          have := us_snoc (us := us) rfl hown4
          rw [List.length_append] at this
          exact this
        have HM4 : Hid (Moves w3 (.slice oa2 hs.length oc2) w4 (.slice (some ⟨g4, 0, none⟩) (us.length + 1) cap4)) := by
          refine hmv.out.trans ((Moves.alloc _ _ _).trans ⟨hg4, ?_⟩)
          rcases hat4 with h | h
          · exact .inl h.symm
          · exact .inr fun k hk => by cases hk; simp; omega
        clear hown4 hg4 hat4 hlt4
        go_wp2_with fail
        go_roundw
        case rel => exact ⟨j + 1, by omega, by go_num, HR4, HM4⟩
        case measure => simp [intOf]; omega
      · have HE : us = hs ++ globUs rs := by rw [← HUS.out, List.take_of_length_le (by omega)]
        rw [HE] at hrow
        have HB5 : Hid (Below S w wr) := HB3.out.trans ((Below.refl _ _).grown hmv.out.1 hws3 (fun k hk => (HR2.out.lt k hk).1))
        rw [HE]
        clear HE HUS
        go_wp2_with fail
        go_ret
        refine ⟨_, rfl, ?_, ?_⟩
        · rw [← HS.out]; exact hrow.out
        · rw [← HS.out]; exact HB5.out
end Go.Proofs.YtkfeiekgdfklmaaGreatDoor.Trm
/- The names that statements have, of the program, walked: a list with all within it, a program. Conditions: they lie in memory; at most 2 to the 20 statements, kids and bytes. -/
namespace Go.Proofs.YtkfeiekgdfklmaaGreatDoor.Trm
open Go.RowKit Own
def UsOkI (xs : List STree) : Prop := ∀ (v : Value) (w : World), xs.length + szXS xs ≤ 1048576 → SListAt w v xs → Calls Tryz.prog 97 #[v] w (UsPost (usXS xs) w)
/-- Names behind names. -/
theorem us_rows {w : World} {base : Nat} {a : Option Addr} {n m c : Nat} {us vs : List Use} (hn : n = us.length) (hm : m = vs.length) (h : w.ownsRow base 75 2 (.slice a (n + m) c) (n + m) (usV us ++ usV vs)) : UsRow w base (.slice a (n + m) c) (us ++ vs) := by
  subst hn
  subst hm
  unfold UsRow
  rw [usV_append, List.length_append]
  exact h
set_option maxRecDepth 20000 in
set_option maxHeartbeats 1600000 in
theorem us_list (xs : List STree) (ih : ∀ y, y ∈ xs → UsOkI y.body ∧ UsOkI y.els) : UsOkI xs := fun v w hz hl => by
  obtain ⟨hlen, aa, cap, rfl, hk⟩ := hl
  obtain ⟨i0, hi, hz0, hz1, hz2⟩ := info_parts infoUse
  have HI := Lib.hid hi
  have HZ0 := Lib.hid hz0
  have HZ1 := Lib.hid hz1
  have HZ2 := Lib.hid hz2
  have IH := Lib.hid ih
  have HK := Lib.hid hk
  have HZ := Lib.hid hz
  have HUL := Lib.hid (usXS_le xs)
  have HPRE := Lib.hid (fun i (h : i ≤ xs.length) => (show (usXS (xs.take i)).length ≤ (usXS xs).length from by
    have app : ∀ a b : List STree, usXS (a ++ b) = usXS a ++ usXS b := by
      intro a b
      induction a with
      | nil => rw [usXS]; rfl
      | cons y r ih => rw [List.cons_append, usXS, usXS, ih, List.append_assoc]
    conv => rhs; rw [← List.take_append_drop i xs, app, List.length_append]
    omega))
  clear ih hk hz hi hz0 hz1 hz2
  go_enter Tryz.func97, Tryz.ntmps97
  go_wp2
  go_loopw [3, 8] (fun o i wr => ∃ j : Nat, j ≤ xs.length ∧ i = .int .i64 j ∧ Hid (UsRow wr w.heap.size o (usXS (xs.take j))) ∧ Hid (Below w.heap.size w wr))
    (fun _ i _ => xs.length - (intOf i).toNat)
  case atStart => exact ⟨0, Nat.zero_le _, rfl, by rw [List.take_zero, usXS]; exact UsRow.nil _ _, Below.refl _ _⟩
  case round =>
    obtain ⟨j, hj, rfl, hrow, hbe⟩ := hrel
    obtain ⟨oa, oc, rfl⟩ := hrow.out.shape
    by_cases hlt : j < xs.length
    · obtain ⟨g, o, rfl, hl⟩ := HK.out (by omega)
      obtain ⟨ta, tc, ba, bc, ea, ec, b0, b1, b2, b3, b4, b5, b6, b7, hl2⟩ := hl.at j hlt
      have hke := keeps_below hbe.out
      have c0 := hke _ _ b0
      have c1 := hke _ _ b1
      have c2 := hke _ _ b2
      have c3 := hke _ _ b3
      have c4 := hke _ _ b4
      have c5 := hke _ _ b5
      have c6 := hke _ _ b6
      have c7 := hke _ _ b7
      obtain ⟨_, lb, le⟩ := hl2.lists
      have hxl : xs.length ≤ 9223372036854775807 := hlen
      have hsx := szXS_mem (List.getElem_mem hlt)
      rw [szX_eq] at hsx
      have hzz := HZ.out
      have hin := IH.out xs[j] (List.getElem_mem hlt)
      have hul := HUL.out
      have hpre : (usXS (xs.take (j + 1))).length ≤ 8000000 := Nat.le_trans (HPRE.out (j + 1) (by omega)) (by omega)
      have HTK : Hid (usXS (xs.take (j + 1)) = usXS (xs.take j) ++ (aloneUs xs[j].kind xs[j].name xs[j].term ++ (usXS xs[j].body ++ usXS xs[j].els))) := by show _ = _; rw [usXS_take hlt, usX_eq]
      rw [HTK.out] at hpre
      simp only [List.length_append] at hpre
      have CA := Lib.hid (fun wx hk => implAlone_any xs[j] _ wx (by omega) (hl2.keep hk))
      have CB := Lib.hid (fun wx hk => hin.1 _ wx (by omega) (lb.keep hk))
      have CE := Lib.hid (fun wx hk => hin.2 _ wx (by omega) (le.keep hk))
      have hbn : (usXS (xs.take j)).length ≤ 8000000 := by omega
      have hwr : w.heap.size ≤ wr.heap.size := hbe.out.size
      clear hl hl2 lb le hin hsx hzz hul b0 b1 b2 b3 b4 b5 b6 b7 hke
      generalize xs[j].kind = k at *
      generalize xs[j].name = nm at *
      generalize xs[j].term = tm at *
      generalize xs[j].body = bd at *
      generalize xs[j].els = el at *
      have W1B : Hid (Below w.heap.size w (wr.alloc (.cells #[.int .i64 k, .string nm, .int .i64 tm.kind, .int .i64 tm.num, .string tm.name, .slice ta tm.kids.length tc, .slice ba bd.length bc, .slice ea el.length ec] 36))) := hbe.out.alloc hbe.out.size _
      have HR1 : Hid (UsRow (wr.alloc (.cells #[.int .i64 k, .string nm, .int .i64 tm.kind, .int .i64 tm.num, .string tm.name, .slice ta tm.kids.length tc, .slice ba bd.length bc, .slice ea el.length ec] 36)) w.heap.size (.slice oa (usXS (xs.take j)).length oc) (usXS (xs.take j))) := hrow.out.alloc _
      have HSB : Hid ((wr.alloc (.cells #[.int .i64 k, .string nm, .int .i64 tm.kind, .int .i64 tm.num, .string tm.name, .slice ta tm.kids.length tc, .slice ba bd.length bc, .slice ea el.length ec] 36)).heap[wr.heap.size]? = some (.cells #[.int .i64 k, .string nm, .int .i64 tm.kind, .int .i64 tm.num, .string tm.name, .slice ta tm.kids.length tc, .slice ba bd.length bc, .slice ea el.length ec] 36 (0, 0))) := heap_alloc_new _ _
      have HSN : Hid ((Value.slice oa (usXS (xs.take j)).length oc).ownBlock ≠ some wr.heap.size) := row_not hrow.out
      have HKW : Hid (Keeps wr (wr.alloc (.cells #[.int .i64 k, .string nm, .int .i64 tm.kind, .int .i64 tm.num, .string tm.name, .slice ta tm.kids.length tc, .slice ba bd.length bc, .slice ea el.length ec] 36))) := keeps_alloc _ _
      have hw1 : w.heap.size ≤ (wr.alloc (.cells #[.int .i64 k, .string nm, .int .i64 tm.kind, .int .i64 tm.num, .string tm.name, .slice ta tm.kids.length tc, .slice ba bd.length bc, .slice ea el.length ec] 36)).heap.size := by simp; omega
      obtain ⟨W1, hW1⟩ : ∃ w1, w1 = wr.alloc (.cells #[.int .i64 k, .string nm, .int .i64 tm.kind, .int .i64 tm.num, .string tm.name, .slice ta tm.kids.length tc, .slice ba bd.length bc, .slice ea el.length ec] 36) := ⟨_, rfl⟩
      generalize usXS (xs.take j) = us at *
      generalize aloneUs k nm tm = A at *
      generalize usXS bd = B at *
      generalize usXS el = C at *
      have HUB : Hid (us.length ≤ 8000000) := hbn
      have HPB := Lib.hid hpre
      clear hrow hbe hbn hpre
      go_upto_region 5 with fail
      clear c0 c1 c2 c3 c4 c5 c6 c7
      rw [← hW1] at W1B HR1 HSB HKW hw1
      rw [← hW1]
      clear hW1
      obtain ⟨S, hS⟩ : ∃ n, n = wr.heap.size := ⟨_, rfl⟩
      rw [← hS] at HSB HSN
      rw [← hS]
      clear hS
      obtain ⟨s0, s1, s2, s3, s4, s5, s6, s7⟩ := (blk8 (Moves.refl W1 (.slice oa us.length oc)) HSB.out HSN.out).2
      go_wp2_with fail
      refine (CA.out _ (keeps_below W1B.out)).mono ?_
      rintro e x1 ⟨p1, rfl, hr1, hb1⟩
      obtain ⟨pa1, pc1, rfl⟩ := hr1.shape
      have HP1 := Lib.hid hr1
      have HQ1 := Lib.hid (HR1.out.below hb1)
      have HT1 := Lib.hid (blk8 (Moves.of_below (.slice oa us.length oc) hb1) HSB.out HSN.out).1
      have HY1 : Hid (Below w.heap.size w x1) := W1B.out.trans (hb1.mono W1B.out.size)
      have hws1 : w.heap.size ≤ x1.heap.size := HY1.out.size
      obtain ⟨us1, hus1⟩ : ∃ l, l = us ++ A := ⟨_, rfl⟩
      have hl1 : us1.length = us.length + A.length := by rw [hus1, List.length_append]
      have HUS1 := Lib.hid hus1
      have HL1 := Lib.hid hl1
      have HBD1 : Hid (us.length + A.length ≤ 8000000) := by show _ ≤ _; have := HPB.out; omega
      clear hr1 hb1 hus1 hl1 s0 s1 s2 s3 s4 s5 s6 s7
      go_wp2_with (at_builtin; refine wpList_append_rows rfl (.tmp 12) (.tmp 14) 71 rfl w.heap.size 75 i0 (.agg #[.int .i64 0, .string ⟨#[]⟩]) 2 24 Tryz.underlying71 HI.out HZ0.out HZ1.out HZ2.out rfl (by decide) (.slice oa us.length oc) us.length _ rfl HQ1.out _ A.length _ rfl W1.heap.size HP1.out (usV_one _) (by unfold maxLen; have := HBD1.out; omega) (by have := HBD1.out; omega) hws1 ?_)
      intro q1 v1 hown1 hg1 hat1
      have hrv1 : UsRow v1 w.heap.size q1 us1 := by
        obtain ⟨_, _, rfl, _⟩ := row_shape hown1
        rw [HUS1.out]; exact us_rows rfl rfl hown1
      have hmv1 := moves_append (v := .slice oa us.length oc) hg1 hat1
      obtain ⟨oa1, oc1, rfl⟩ := hrv1.shape
      have HV1 := Lib.hid hrv1
      have HW1 := Lib.hid (hmv1.below HY1.out HQ1.out)
      have HS1 := Lib.hid (blk8 hmv1 HT1.out.1 HT1.out.2).1
      obtain ⟨s0, s1, s2, s3, s4, s5, s6, s7⟩ := (blk8 hmv1 HT1.out.1 HT1.out.2).2
      clear hown1 hg1 hat1 hrv1 hmv1
      go_wp2_with fail
      refine (CB.out _ (keeps_below HW1.out)).mono ?_
      rintro e x2 ⟨p2, rfl, hr2, hb2⟩
      obtain ⟨pa2, pc2, rfl⟩ := hr2.shape
      have HP2 := Lib.hid hr2
      have HQ2 := Lib.hid (HV1.out.below hb2)
      have HT2 := Lib.hid (blk8 (Moves.of_below (.slice oa1 us1.length oc1) hb2) HS1.out.1 HS1.out.2).1
      have HY2 : Hid (Below w.heap.size w x2) := HW1.out.trans (hb2.mono HW1.out.size)
      have hws2 : w.heap.size ≤ x2.heap.size := HY2.out.size
      obtain ⟨us2, hus2⟩ : ∃ l, l = us1 ++ B := ⟨_, rfl⟩
      have hl2 : us2.length = us1.length + B.length := by rw [hus2, List.length_append]
      have HUS2 := Lib.hid hus2
      have HL2 := Lib.hid hl2
      have HBD2 : Hid (us1.length + B.length ≤ 8000000) := by show _ ≤ _; have := HPB.out; have := HL1.out; omega
      clear hr2 hb2 hus2 hl2 s0 s1 s2 s3 s4 s5 s6 s7
      go_wp2_with (at_builtin; refine wpList_append_rows rfl (.tmp 16) (.tmp 19) 71 rfl w.heap.size 75 i0 (.agg #[.int .i64 0, .string ⟨#[]⟩]) 2 24 Tryz.underlying71 HI.out HZ0.out HZ1.out HZ2.out rfl (by decide) (.slice oa1 us1.length oc1) us1.length _ rfl HQ2.out _ B.length _ rfl v1.heap.size HP2.out (usV_one _) (by unfold maxLen; have := HBD2.out; omega) (by have := HBD2.out; omega) hws2 ?_)
      intro q2 v2 hown2 hg2 hat2
      have hrv2 : UsRow v2 w.heap.size q2 us2 := by
        obtain ⟨_, _, rfl, _⟩ := row_shape hown2
        rw [HUS2.out]; exact us_rows rfl rfl hown2
      have hmv2 := moves_append (v := .slice oa1 us1.length oc1) hg2 hat2
      obtain ⟨oa2, oc2, rfl⟩ := hrv2.shape
      have HV2 := Lib.hid hrv2
      have HW2 := Lib.hid (hmv2.below HY2.out HQ2.out)
      have HS2 := Lib.hid (blk8 hmv2 HT2.out.1 HT2.out.2).1
      obtain ⟨s0, s1, s2, s3, s4, s5, s6, s7⟩ := (blk8 hmv2 HT2.out.1 HT2.out.2).2
      clear hown2 hg2 hat2 hrv2 hmv2
      go_wp2_with fail
      refine (CE.out _ (keeps_below HW2.out)).mono ?_
      rintro e x3 ⟨p3, rfl, hr3, hb3⟩
      obtain ⟨pa3, pc3, rfl⟩ := hr3.shape
      have HP3 := Lib.hid hr3
      have HQ3 := Lib.hid (HV2.out.below hb3)
      have HY3 : Hid (Below w.heap.size w x3) := HW2.out.trans (hb3.mono HW2.out.size)
      have hws3 : w.heap.size ≤ x3.heap.size := HY3.out.size
      obtain ⟨us3, hus3⟩ : ∃ l, l = us2 ++ C := ⟨_, rfl⟩
      have hl3 : us3.length = us2.length + C.length := by rw [hus3, List.length_append]
      have HUS3 := Lib.hid hus3
      have HL3 := Lib.hid hl3
      have HBD3 : Hid (us2.length + C.length ≤ 8000000) := by show _ ≤ _; have := HPB.out; have := HL1.out; have := HL2.out; omega
      clear hr3 hb3 hus3 hl3 s0 s1 s2 s3 s4 s5 s6 s7
      go_wp2_with (at_builtin; refine wpList_append_rows rfl (.tmp 21) (.tmp 24) 71 rfl w.heap.size 75 i0 (.agg #[.int .i64 0, .string ⟨#[]⟩]) 2 24 Tryz.underlying71 HI.out HZ0.out HZ1.out HZ2.out rfl (by decide) (.slice oa2 us2.length oc2) us2.length _ rfl HQ3.out _ C.length _ rfl v2.heap.size HP3.out (usV_one _) (by unfold maxLen; have := HBD3.out; omega) (by have := HBD3.out; omega) hws3 ?_)
      intro q3 v3 hown3 hg3 hat3
      have hrv3 : UsRow v3 w.heap.size q3 us3 := by
        obtain ⟨_, _, rfl, _⟩ := row_shape hown3
        rw [HUS3.out]; exact us_rows rfl rfl hown3
      have hmv3 := moves_append (v := .slice oa2 us2.length oc2) hg3 hat3
      obtain ⟨oa3, oc3, rfl⟩ := hrv3.shape
      have HV3 := Lib.hid hrv3
      have HW3 := Lib.hid (hmv3.below HY3.out HQ3.out)
      clear hown3 hg3 hat3 hrv3 hmv3
      have HF : Hid (UsRow v3 w.heap.size (.slice oa3 us3.length oc3) (usXS (xs.take (j + 1)))) := by
        show UsRow _ _ _ _
        rw [HTK.out, ← List.append_assoc, ← HUS1.out, ← List.append_assoc, ← HUS2.out, ← HUS3.out]
        exact HV3.out
      go_wp2_with fail
      go_roundw
      case rel => exact ⟨j + 1, by omega, by go_num, HF, HW3⟩
      case measure => simp [intOf]; omega
    · have HE : usXS (xs.take j) = usXS xs := by rw [List.take_of_length_le (by omega)]
      rw [HE] at hrow
      rw [HE]
      clear HE
      go_wp2
      go_ret
      exact ⟨_, rfl, hrow.out, hbe.out⟩
theorem implUses_all : ∀ y : STree, UsOkI y.body ∧ UsOkI y.els := streeInd fun _ _ _ b e ihb ihe => ⟨us_list b ihb, us_list e ihe⟩
theorem implUses_any (xs : List STree) : UsOkI xs := us_list xs fun y _ => implUses_all y
theorem PrsAt.elem {w : World} {a : Option Addr} {n c : Nat} {ps : List PrT} (h : PrsAt w (.slice a n c) ps) (i : Nat) (hi : i < ps.length) : ∃ g o, a = some ⟨g, o, none⟩ ∧ n = ps.length ∧ PrElem w g (o + i * 2) ps[i] := by
  obtain ⟨_, a2, c2, e, hk⟩ := h
  simp at e
  obtain ⟨rfl, rfl, rfl⟩ := e
  obtain ⟨g, o, rfl, h2⟩ := hk (by omega)
  exact ⟨g, o, rfl, rfl, h2 i hi⟩
set_option maxRecDepth 20000 in
set_option maxHeartbeats 1600000 in
theorem implUsesProg_any (x : PTree) (v : Value) (w : World) (hz : szP x ≤ 1048576) (hp : PLies w x v) :
    Calls Tryz.prog 41 #[v] w (UsPost (usPs x.procs) w) := by
  obtain ⟨ga, gc, la, lc, pa, pc, rfl, _, _, hpp⟩ := hp
  have hlen : x.procs.length ≤ 9223372036854775807 := hpp.1
  have HPP := Lib.hid hpp
  have HSZ : Hid (szPrs x.procs ≤ 1048576) := by show _ ≤ _; unfold szP at hz; omega
  obtain ⟨i0, hi, hz0, hz1, hz2⟩ := info_parts infoUse
  have HI := Lib.hid hi
  have HZ0 := Lib.hid hz0
  have HZ1 := Lib.hid hz1
  have HZ2 := Lib.hid hz2
  have X0 := Lib.hid (Box3.new w (.slice ga x.globals.length gc) (.slice la x.locks.length lc) (.slice pa x.procs.length pc) 27)
  have B0 := Lib.hid ((Below.refl w.heap.size w).alloc (Nat.le_refl _) (.cells #[.slice ga x.globals.length gc, .slice la x.locks.length lc, .slice pa x.procs.length pc] 27))
  clear hpp hz hi hz0 hz1 hz2
  generalize x.procs = ps at *
  have HPRE := Lib.hid (fun i (h : i ≤ ps.length) => (show (usPs (ps.take i)).length ≤ 8000000 from by
    have h1 := usPs_le (ps.take i)
    have h2 : szPrs (ps.take i) ≤ szPrs ps := by
      have app : ∀ a b : List PrT, szPrs (a ++ b) = szPrs a + szPrs b := by
        intro a b
        induction a with
        | nil => rw [szPrs]; simp
        | cons y r ih => rw [List.cons_append, szPrs, szPrs, ih]; omega
      conv => rhs; rw [← List.take_append_drop i ps, app]
      omega
    have := HSZ.out
    omega))
  obtain ⟨p0, p1, p2⟩ := X0.out
  go_enter Tryz.func41, Tryz.ntmps41
  go_wp2
  clear p0 p1 p2
  go_loopw [3, 9] (fun o i wr => ∃ j : Nat, j ≤ ps.length ∧ i = .int .i64 j ∧ Hid (UsRow wr w.heap.size o (usPs (ps.take j))) ∧ Hid (Below w.heap.size w wr))
    (fun _ i _ => ps.length - (intOf i).toNat)
  case atStart => exact ⟨0, Nat.zero_le _, rfl, UsRow.nil _ _, B0.out⟩
  case round =>
    obtain ⟨j, hj, rfl, hrow, hbe⟩ := hrel
    obtain ⟨oa, oc, rfl⟩ := hrow.out.shape
    by_cases hlt : j < ps.length
    · obtain ⟨g, o, rfl, _, hel⟩ := HPP.out.elem j hlt
      obtain ⟨_, ba, bc, e0, e1, hb⟩ := hel
      have c0 := keeps_below hbe.out _ _ e0
      have c1 := keeps_below hbe.out _ _ e1
      have hTK := usPs_take hlt
      have hpre := HPRE.out (j + 1) (by omega)
      rw [hTK, List.length_append] at hpre
      have HTK := Lib.hid hTK
      have HPB := Lib.hid hpre
      have hsm := szPrs_mem (List.getElem_mem hlt)
      have hpr : szPr ps[j] = ps[j].name.size + (ps[j].body.length + szXS ps[j].body) := rfl
      have hSZ := HSZ.out
      have CB := Lib.hid (fun wx hk => implUses_any ps[j].body _ wx (by omega) (hb.keep hk))
      have hwr : w.heap.size ≤ wr.heap.size := hbe.out.size
      clear e0 e1 hb hTK hpre hsm hpr hSZ
      generalize usPs (ps.take j) = us at *
      generalize usXS ps[j].body = A at *
      generalize ps[j].name = nm at *
      generalize ps[j].body = bd at *
      have W1B : Hid (Below w.heap.size w (wr.alloc (.cells #[.string nm, .slice ba bd.length bc] 31))) := hbe.out.alloc hbe.out.size _
      have HR1 : Hid (UsRow (wr.alloc (.cells #[.string nm, .slice ba bd.length bc] 31)) w.heap.size (.slice oa us.length oc) us) := hrow.out.alloc _
      have hw1 : w.heap.size ≤ (wr.alloc (.cells #[.string nm, .slice ba bd.length bc] 31)).heap.size := by simp; omega
      go_wp2_with fail
      refine (CB.out _ (keeps_below W1B.out)).mono ?_
      rintro e w2 ⟨ov2, rfl, hr2, hb2⟩
      obtain ⟨pa2, pc2, rfl⟩ := hr2.shape
      have HP2 := Lib.hid hr2
      have HQ2 := Lib.hid (HR1.out.below hb2)
      have HY2 : Hid (Below w.heap.size w w2) := W1B.out.trans (hb2.mono hw1)
      have hws2 : w.heap.size ≤ w2.heap.size := HY2.out.size
      clear hr2 hb2 c0 c1
      go_wp2_with (at_builtin; refine wpList_append_rows rfl (.tmp 13) (.tmp 16) 71 rfl w.heap.size 75 i0 (.agg #[.int .i64 0, .string ⟨#[]⟩]) 2 24 Tryz.underlying71 HI.out HZ0.out HZ1.out HZ2.out rfl (by decide) (.slice oa us.length oc) us.length _ rfl HQ2.out _ A.length _ rfl _ HP2.out (usV_one _) (by unfold maxLen; have := HPB.out; omega) (by have := HPB.out; omega) hws2 ?_)
      intro q3 w3 hown3 hg3 hat3
      have hrv : UsRow w3 w.heap.size q3 (usPs (ps.take (j + 1))) := by
        obtain ⟨_, _, rfl, _⟩ := row_shape hown3
        have h := us_rows rfl rfl hown3
        rw [HTK.out]
        exact h
      have hmv := moves_append (v := .slice oa us.length oc) hg3 hat3
      have HV := Lib.hid hrv
      have HW := Lib.hid (hmv.below HY2.out HQ2.out)
      clear hown3 hg3 hat3 hrv hmv
      go_wp2_with fail
      go_roundw
      case rel => exact ⟨j + 1, by omega, by go_num, HV, HW⟩
      case measure => simp [intOf]; omega
    · have HE : usPs (ps.take j) = usPs ps := by rw [List.take_of_length_le (by omega)]
      rw [HE] at hrow
      rw [HE]
      clear HE
      go_wp2
      go_ret
      exact ⟨_, rfl, hrow.out, hbe.out⟩
end Go.Proofs.YtkfeiekgdfklmaaGreatDoor.Trm
