/- Where a list lies, as a key of the program's: two of them held against each other, and what the program reckons of a list. Conditions: the lists lie in rows that are not frozen. -/
import Derived.Test.YtpbhoomhcdljoaaKeyMap
import Derived.Test.YtpbhoomhcdljoaaFreeT
namespace Go.Proofs.Ytpbhoomhcdljoaa.SpT
open Go.RowKit Own Trm Km
def spV (a : Option Addr) (n : Nat) : Value := .agg #[.pointer a, .int .i64 (n : Int)]
def prV (a b : Option Addr) (n m : Nat) : Value := .agg #[.pointer a, .int .i64 (n : Int), .pointer b, .int .i64 (m : Int)]
def FreeO (w : World) (a : Option Addr) : Prop := ∀ p, a = some p → FreeB w p.block
theorem FreeO.keep {w w' : World} {a : Option Addr} (hk : KeepF w w') (h : FreeO w a) : FreeO w' a := fun p e => (h p e).keep hk
theorem infoE : (Try.prog.info? 72).map (fun i => i.size) = some 4 := by kernel_rfl
theorem run_ptr_eq (d : Nat) {a b : Option Addr} {w : World} (ha : FreeO w a) (hb : FreeO w b) : (Op.equalIn (d + 1) 154 (.pointer a) (.pointer b)).run Try.prog w = .ok (decide (a = b)) w := by
  obtain ⟨j, hj, hs⟩ := Option.map_eq_some_iff.1 infoE
  cases a with
  | none => cases b <;> simp [Op.equalIn, run_underlying Try.underlying154]
  | some p =>
    cases b with
    | none => simp [Op.equalIn, run_underlying Try.underlying154]
    | some q =>
      obtain ⟨ca, ta, ha⟩ := ha p rfl
      obtain ⟨cb, tb, hb⟩ := hb q rfl
      by_cases h : p = q
      · subst h
        simp [Op.equalIn, run_underlying Try.underlying154, sizeOf, typeInfo, hj, run_sameAddr_same]
      · simp [Op.equalIn, run_underlying Try.underlying154, sizeOf, typeInfo, hj, hs, run_sameAddr_other w h ha hb, h]
theorem run_spot_eq (d : Nat) {a b : Option Addr} {n m : Nat} {w : World} (ha : FreeO w a) (hb : FreeO w b) : (Op.equalIn (d + 2) 156 (spV a n) (spV b m)).run Try.prog w = .ok (decide (a = b ∧ n = m)) w := by
  have hS : Try.prog.underlying 156 = some (.struct (Try.prog.fieldsOf 156)) := by kernel_rfl
  have hp : Try.prog.stoodInHeld 156 = false := by kernel_rfl
  have e1 := run_ptr_eq d ha hb
  unfold spV
  rw [show d + 2 = (d + 1) + 1 from rfl, run_equalIn_agg w (d + 1) 156 _ _ hS hp]
  simp only [Program.fieldsOf, Try.underlying156]
  have hr : decide (a = b ∧ n = m) = (decide (a = b) && decide (n = m)) := by simp
  rw [hr]
  generalize decide (a = b) = c at e1
  by_cases h : n = m
  · subst h
    cases c <;> simp [Op.eqFields, go_sem, e1]
  · have h2 : ¬ (n : Int) = m := by omega
    cases c <;> simp [Op.eqFields, go_sem, e1, h, h2]
def SpOk (w : World) (k : Value) : Prop := ∃ a n, k = spV a n ∧ FreeO w a
def PrOk (w : World) (k : Value) : Prop := ∃ a b n m, k = prV a b n m ∧ FreeO w a ∧ FreeO w b
theorem spV_iff {a b : Option Addr} {n m : Nat} : spV a n = spV b m ↔ (a = b ∧ n = m) := by
  unfold spV
  simp only [Value.agg.injEq, Array.mk.injEq, List.cons.injEq, Value.pointer.injEq, Value.int.injEq, true_and, and_true]
  constructor <;> intro ⟨h1, h2⟩ <;> exact ⟨h1, by omega⟩
theorem prV_iff {a b a' b' : Option Addr} {n m n' m' : Nat} : prV a b n m = prV a' b' n' m' ↔ (a = a' ∧ n = n' ∧ b = b' ∧ m = m') := by
  unfold prV
  simp only [Value.agg.injEq, Array.mk.injEq, List.cons.injEq, Value.pointer.injEq, Value.int.injEq, true_and, and_true]
  constructor <;> intro ⟨h1, h2, h3, h4⟩ <;> exact ⟨h1, by omega, h3, by omega⟩
theorem spot_key : KeyT 156 SpOk where
  eq w k k' h h' := by
    obtain ⟨a, n, rfl, ha⟩ := h
    obtain ⟨b, m, rfl, hb⟩ := h'
    refine ⟨_, run_spot_eq 9998 ha hb, ?_⟩
    rw [spV_iff]; simp
  chk w k b h := by
    obtain ⟨a, n, rfl, _⟩ := h
    kernel_rfl
  now := ⟨_, Try.underlying156, fun _ _ => rfl⟩
  stay w k h := by
    obtain ⟨a, n, rfl, _⟩ := h
    simp [Instr.sameBits, spV]
theorem pair_key : KeyT 158 PrOk where
  eq w k k' h h' := by
    obtain ⟨a, b, n, m, rfl, ha, hb⟩ := h
    obtain ⟨a', b', n', m', rfl, ha', hb'⟩ := h'
    have hi : ∃ i, Try.prog.info? 156 = some i := Option.isSome_iff_exists.1 (by kernel_rfl)
    obtain ⟨i, hi⟩ := hi
    have hc : Try.prog.cellsOf 156 = 2 := by kernel_rfl
    refine ⟨decide (a = a' ∧ n = n') && decide (b = b' ∧ m = m'), ?_, by rw [prV_iff]; simp [and_assoc]⟩
    show (Op.equalIn (9999 + 1) _ _ _).run _ _ = _
    unfold prV
    rw [run_equalIn_array w 9999 _ _ Try.underlying158 hi, hc]
    have e1 : (Op.equalIn 9999 156 (.agg #[.pointer a, .int .i64 (n : Int)]) (.agg #[.pointer a', .int .i64 (n' : Int)])).run Try.prog w = _ := run_spot_eq 9997 ha ha'
    have e2 : (Op.equalIn 9999 156 (.agg #[.pointer b, .int .i64 (m : Int)]) (.agg #[.pointer b', .int .i64 (m' : Int)])).run Try.prog w = _ := run_spot_eq 9997 hb hb'
    have p0 : ∀ (x y : Option Addr) (u v : Int), (part 156 #[.pointer x, .int .i64 u, .pointer y, .int .i64 v] 0).run Try.prog w = .ok (.agg #[.pointer x, .int .i64 u]) w := fun x y u v => by kernel_rfl
    have p1 : ∀ (x y : Option Addr) (u v : Int), (part 156 #[.pointer x, .int .i64 u, .pointer y, .int .i64 v] 2).run Try.prog w = .ok (.agg #[.pointer y, .int .i64 v]) w := fun x y u v => by kernel_rfl
    generalize decide (a = a' ∧ n = n') = c1 at e1
    generalize decide (b = b' ∧ m = m') = c2 at e2
    rw [show List.range 2 = [0, 1] from rfl]
    simp only [Op.eqItems, Sem.run_bind, Nat.zero_mul, Nat.one_mul, p0, e1, Result.andThen_ok]
    cases c1 <;> cases c2 <;> simp [p1, e2]
  chk w k b h := by
    obtain ⟨_, _, n, m, rfl, _⟩ := h
    kernel_rfl
  now := ⟨_, Try.underlying158, fun _ _ => rfl⟩
  stay w k h := by
    obtain ⟨_, _, n, m, rfl, _⟩ := h
    simp [Instr.sameBits, prV]
/-- Where a list lies. -/
def spotA : Value → Option Addr
  | .slice a (_ + 1) _ => a
  | _ => none
def spotN : Value → Nat
  | .slice _ n _ => n
  | _ => 0
theorem implSpot_any (a : Option Addr) (n c : Nat) (hn : n ≤ 9223372036854775807) (ha : 0 < n → ∃ g o, a = some ⟨g, o, none⟩) (w : World) :
    Calls Try.prog 89 #[.slice a n c] w fun e w' => e = .returned (spV (spotA (.slice a n c)) n) ∧ Below w.heap.size w w' := by
  rcases Nat.eq_zero_or_pos n with h | h
  · subst h
    clear ha hn
    go_enter Try.func89, Try.ntmps89
    go_wp2
    refine bodyPost_ret (v := spV none 0) (by simp [results, Try.results89, go_sem, spV]) rfl ⟨rfl, ?_⟩
    exact (Below.refl _ _).alloc (Nat.le_refl _) _
  · obtain ⟨g, o, rfl⟩ := ha h
    obtain ⟨k, rfl⟩ : ∃ k, n = k + 1 := ⟨n - 1, by omega⟩
    have hq : (((k + 1 : Nat) : Int) == 0) = false := by simp; omega
    clear ha h
    go_enter Try.func89, Try.ntmps89
    go_wp2
    refine bodyPost_ret (v := spV (some ⟨g, o, none⟩) (k + 1)) (by simp [results, Try.results89, go_sem, spV]) rfl ⟨rfl, ?_⟩
    exact (Below.refl _ _).alloc (Nat.le_refl _) _
theorem freeO_of {w : World} {v : Value} {xs : List Tree} (h : ListF w v xs) : FreeO w (spotA v) := fun p e => by
  obtain ⟨_, a, c, rfl, hf⟩ := h
  cases hx : xs.length with
  | zero => rw [hx] at e; simp [spotA] at e
  | succ n =>
    obtain ⟨g, o, rfl, f, _⟩ := hf (by omega)
    rw [hx] at e
    simp [spotA] at e
    rw [← e]; exact f
/-- Lists that lie at one spot are one. -/
theorem spot_det {w : World} {v u : Value} {xs ys : List Tree} (h : ListF w v xs) (h2 : ListF w u ys) (e : spotA v = spotA u) (hl : xs.length = ys.length) : xs = ys := by
  obtain ⟨_, a, c, rfl, hf⟩ := h
  obtain ⟨_, b, d, rfl, hf2⟩ := h2
  cases hx : xs.length with
  | zero => rw [List.length_eq_zero_iff.1 hx, List.length_eq_zero_iff.1 (by omega : ys.length = 0)]
  | succ n =>
    obtain ⟨g, o, rfl, _, h1⟩ := hf (by omega)
    obtain ⟨g', o', rfl, _, h2⟩ := hf2 (by omega)
    rw [← hl, hx] at e
    simp [spotA] at e
    obtain ⟨rfl, rfl⟩ := e
    exact LiesLF.det h1 h2 hl
end Go.Proofs.Ytpbhoomhcdljoaa.SpT
