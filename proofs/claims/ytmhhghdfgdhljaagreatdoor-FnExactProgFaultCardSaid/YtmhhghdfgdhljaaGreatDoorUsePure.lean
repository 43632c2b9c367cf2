/- What the names of a statement come to as a list, and their number. Without conditions. -/
import Derived.Test.YtmhhghdfgdhljaaGreatDoorUnkIn
import Derived.Test.YtmhhghdfgdhljaaGreatDoorSrcRow
namespace Go.Proofs.YtmhhghdfgdhljaaGreatDoor.Trm
open Go.RowKit Own
theorem useX_eq (y : STree) (acc : List ByteArray) : useX y acc = useXS y.els (useXS y.body ((if y.kind = 1 ∨ y.kind = 6 ∨ y.kind = 7 then acc ++ [y.name] else acc) ++ readsOfT y.term)) := by cases y; rw [useX]; rfl
theorem useXS_drop {xs : List STree} {i : Nat} (h : i < xs.length) (acc : List ByteArray) : useXS (xs.drop i) acc = useXS (xs.drop (i + 1)) (useX xs[i] acc) := by rw [List.drop_eq_getElem_cons h, useXS]
theorem useXS_end {xs : List STree} {i : Nat} (h : xs.length ≤ i) (acc : List ByteArray) : useXS (xs.drop i) acc = acc := by rw [List.drop_of_length_le h, useXS]
theorem use_head_le (k : Int) (s : ByteArray) (acc : List ByteArray) : (if k = 1 ∨ k = 6 ∨ k = 7 then acc ++ [s] else acc).length ≤ acc.length + 1 := by split <;> simp
mutual
theorem useX_le : ∀ (y : STree) (acc : List ByteArray), (useX y acc).length ≤ acc.length + (2 + 3 * szX y)
  | .node k s t b e, acc => by
    rw [useX, szX]
    have h1 := useXS_le e (useXS b ((if k = 1 ∨ k = 6 ∨ k = 7 then acc ++ [s] else acc) ++ readsOfT t))
    have h2 := useXS_le b ((if k = 1 ∨ k = 6 ∨ k = 7 then acc ++ [s] else acc) ++ readsOfT t)
    rw [List.length_append] at h2
    have h3 := readsOfT_le t
    have h4 := use_head_le k s acc
    omega
theorem useXS_le : ∀ (xs : List STree) (acc : List ByteArray), (useXS xs acc).length ≤ acc.length + (2 * xs.length + 3 * szXS xs)
  | [], acc => by rw [useXS]; omega
  | y :: r, acc => by
    rw [useXS, szXS, List.length_cons]
    have h1 := useXS_le r (useX y acc)
    have h2 := useX_le y acc
    omega
end
theorem one_strV (ss : List ByteArray) : ∀ u ∈ strV ss, u.oneCell' = true := by
  intro u hu
  obtain ⟨s, _, rfl⟩ := List.mem_map.1 hu
  rfl
theorem strV_append (a b : List ByteArray) : strV (a ++ b) = strV a ++ strV b := by simp [strV]
noncomputable def unuIn (x : PTree) : List ByteArray := if okP x = true then (x.globals ++ x.locks).filter (fun s => @decide (¬ s ∈ usePs x.procs []) (Classical.propDecidable _)) else []
theorem usePs_drop {ps : List PrT} {i : Nat} (h : i < ps.length) (acc : List ByteArray) : usePs (ps.drop i) acc = usePs (ps.drop (i + 1)) (useXS ps[i].body acc) := by
  unfold usePs; rw [List.drop_eq_getElem_cons h, List.foldl_cons]
theorem usePs_end {ps : List PrT} {i : Nat} (h : ps.length ≤ i) (acc : List ByteArray) : usePs (ps.drop i) acc = acc := by
  unfold usePs; rw [List.drop_of_length_le h]; rfl
theorem wpList_append_rows {P : Program} {w : World} {ops : Array Oper} {rest : List Oper} {o : Oper} {a : Act} {Q : Exit → Act → World → Prop} (hgd : o.guard = none) (s x : Operand) (t : TypeId)
    (ho : o.op = .call { callee := .builtin .append, args := #[s, x], argTypes := #[t, t] })
    (base : Nat) (e : TypeId) (i : TypeInfo) (z : Value) (size bytes : Nat) (ht : P.underlying t = some (.slice e)) (hi : P.info? e = some i) (hz : i.zero = some z)
    (hsize : i.size = size) (hby : i.bytes = bytes) (hzs : z.cells.size = size) (hsz : 0 < size)
    (v : Value) (n : Nat) (xs : List Value) (hs : a.eval s = v) (hown : w.ownsRow base e size v n xs)
    (u : Value) (m : Nat) (ys : List Value) (hx : a.eval x = u) (base2 : Nat) (hrow : w.ownsRow base2 e size u m ys) (h1 : ∀ u ∈ ys, u.oneCell' = true)
    (h63 : n + m ≤ maxLen) (hbytes : (n + m) * bytes ≤ 140737488355328) (hbase : base ≤ w.heap.size)
    (h : ∀ v' w', w'.ownsRow base e size v' (n + m) (xs ++ ys) → w.grownBy w' v.ownBlock → (v'.ownBlock = v.ownBlock ∨ v'.ownBlock = some w.heap.size) → wpList P ops Q rest (a.put o.dst v') w') : wpList P ops Q (o :: rest) a w := by
  rcases hrow.2 with ⟨rfl, rfl⟩ | ⟨g, cap, cur, rfl, _, hg, _⟩
  · have hy : ys = [] := List.eq_nil_of_length_eq_zero (by simpa using hrow.1)
    subst hy
    exact wpList_append_own_none hgd s x t ho base e i size ht hi v n xs hs hown hx (h v w (by simpa using hown) (World.grownBy.refl _ _) (.inl rfl))
  · exact wpList_append_own_at w hgd s x t ho base e i z size bytes ht hi hz hsize hby hzs hsz v n xs hs hown ⟨g, 0, none⟩ m cap ys hx hrow.1 (hrow.cells (g := g) rfl) h1 h63 hbytes hbase fun v' w' a1 a2 _ a4 => h v' w' a1 a2 a4
end Go.Proofs.YtmhhghdfgdhljaaGreatDoor.Trm
