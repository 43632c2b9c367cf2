/- Where a list lies, as a key of the program's: two of them held against each other, and what the program reckons of a list. Conditions: the lists lie in rows that are not frozen. -/
import Derived.Test.YtmhhghdfgdhljaaKeyMap
import Derived.Test.YtmhhghdfgdhljaaFreeX
namespace Go.Proofs.Ytmhhghdfgdhljaa.SpX
open Go.RowKit Own Trm Km
def spV (a : Option Addr) (n : Nat) : Value := .agg #[.pointer a, .int .i64 (n : Int)]
def prV (a b : Option Addr) (n m : Nat) : Value := .agg #[.pointer a, .int .i64 (n : Int), .pointer b, .int .i64 (m : Int)]
def FreeO (w : World) (a : Option Addr) : Prop := ∀ p, a = some p → FreeB w p.block
theorem FreeO.keep {w w' : World} {a : Option Addr} (hk : KeepF w w') (h : FreeO w a) : FreeO w' a := fun p e => (h p e).keep hk
theorem infoE : (Try.prog.info? 50).map (fun i => i.size) = some 8 := by kernel_rfl
theorem run_ptr_eq (d : Nat) {a b : Option Addr} {w : World} (ha : FreeO w a) (hb : FreeO w b) : (Op.equalIn (d + 1) 140 (.pointer a) (.pointer b)).run Try.prog w = .ok (decide (a = b)) w := by
  obtain ⟨j, hj, hs⟩ := Option.map_eq_some_iff.1 infoE
  cases a with
  | none => cases b <;> simp [Op.equalIn, run_underlying Try.underlying140]
  | some p =>
    cases b with
    | none => simp [Op.equalIn, run_underlying Try.underlying140]
    | some q =>
      obtain ⟨ca, ta, ha⟩ := ha p rfl
      obtain ⟨cb, tb, hb⟩ := hb q rfl
      by_cases h : p = q
      · subst h
        simp [Op.equalIn, run_underlying Try.underlying140, sizeOf, typeInfo, hj, run_sameAddr_same]
      · simp [Op.equalIn, run_underlying Try.underlying140, sizeOf, typeInfo, hj, hs, run_sameAddr_other w h ha hb, h]
theorem run_spot_eq (d : Nat) {a b : Option Addr} {n m : Nat} {w : World} (ha : FreeO w a) (hb : FreeO w b) : (Op.equalIn (d + 2) 142 (spV a n) (spV b m)).run Try.prog w = .ok (decide (a = b ∧ n = m)) w := by
  have hS : Try.prog.underlying 142 = some (.struct (Try.prog.fieldsOf 142)) := by kernel_rfl
  have hp : Try.prog.stoodInHeld 142 = false := by kernel_rfl
  have e1 := run_ptr_eq d ha hb
  unfold spV
  rw [show d + 2 = (d + 1) + 1 from rfl, run_equalIn_agg w (d + 1) 142 _ _ hS hp]
  simp only [Program.fieldsOf, Try.underlying142]
  have hr : decide (a = b ∧ n = m) = (decide (a = b) && decide (n = m)) := by simp
  rw [hr]
  generalize decide (a = b) = c at e1
  by_cases h : n = m
  · subst h
    cases c <;> simp [Op.eqFields, go_sem, e1]
  · have h2 : ¬ (n : Int) = m := by omega
    cases c <;> simp [Op.eqFields, go_sem, e1, h, h2]
def SpOk (w : World) (k : Value) : Prop := ∃ a n, k = spV a n ∧ FreeO w a
def PrOk (w : World) (k : Value) : Prop := ∃ a b n m, k = prV a b n m ∧ FreeO w a ∧ FreeO w b
theorem spV_iff {a b : Option Addr} {n m : Nat} : spV a n = spV b m ↔ (a = b ∧ n = m) := by
  unfold spV
  simp only [Value.agg.injEq, Array.mk.injEq, List.cons.injEq, Value.pointer.injEq, Value.int.injEq, true_and, and_true]
  constructor <;> intro ⟨h1, h2⟩ <;> exact ⟨h1, by omega⟩
theorem prV_iff {a b a' b' : Option Addr} {n m n' m' : Nat} : prV a b n m = prV a' b' n' m' ↔ (a = a' ∧ n = n' ∧ b = b' ∧ m = m') := by
  unfold prV
  simp only [Value.agg.injEq, Array.mk.injEq, List.cons.injEq, Value.pointer.injEq, Value.int.injEq, true_and, and_true]
  constructor <;> intro ⟨h1, h2, h3, h4⟩ <;> exact ⟨h1, by omega, h3, by omega⟩
theorem spot_key : KeyT 142 SpOk where
  eq w k k' h h' := by
    obtain ⟨a, n, rfl, ha⟩ := h
    obtain ⟨b, m, rfl, hb⟩ := h'
    refine ⟨_, run_spot_eq 9998 ha hb, ?_⟩
    rw [spV_iff]; simp
  chk w k b h := by
    obtain ⟨a, n, rfl, _⟩ := h
    kernel_rfl
  now := ⟨_, Try.underlying142, fun _ _ => rfl⟩
  stay w k h := by
    obtain ⟨a, n, rfl, _⟩ := h
    simp [Instr.sameBits, spV]
/-- Where a list lies. -/
def spotA : Value → Option Addr
  | .slice a (_ + 1) _ => a
  | _ => none
def spotN : Value → Nat
  | .slice _ n _ => n
  | _ => 0
theorem implSpot_any (a : Option Addr) (n c : Nat) (hn : n ≤ 9223372036854775807) (ha : 0 < n → ∃ g o, a = some ⟨g, o, none⟩) (w : World) :
    Calls Try.prog 109 #[.slice a n c] w fun e w' => e = .returned (spV (spotA (.slice a n c)) n) ∧ Below w.heap.size w w' := by
  rcases Nat.eq_zero_or_pos n with h | h
  · subst h
    clear ha hn
    go_enter Try.func109, Try.ntmps109
    go_wp2
    refine bodyPost_ret (v := spV none 0) (by simp [results, Try.results109, go_sem, spV]) rfl ⟨rfl, ?_⟩
    exact (Below.refl _ _).alloc (Nat.le_refl _) _
  · obtain ⟨g, o, rfl⟩ := ha h
    obtain ⟨k, rfl⟩ : ∃ k, n = k + 1 := ⟨n - 1, by omega⟩
    have hq : (((k + 1 : Nat) : Int) == 0) = false := by simp; omega
    clear ha h
    go_enter Try.func109, Try.ntmps109
    go_wp2
    refine bodyPost_ret (v := spV (some ⟨g, o, none⟩) (k + 1)) (by simp [results, Try.results109, go_sem, spV]) rfl ⟨rfl, ?_⟩
    exact (Below.refl _ _).alloc (Nat.le_refl _) _
theorem freeO_of {w : World} {v : Value} {xs : List STree} (h : SListF w v xs) : FreeO w (spotA v) := fun p e => by
  obtain ⟨_, a, c, rfl, hf⟩ := h
  cases hx : xs.length with
  | zero => rw [hx] at e; simp [spotA] at e
  | succ n =>
    obtain ⟨g, o, rfl, f, _⟩ := hf (by omega)
    rw [hx] at e
    simp [spotA] at e
    rw [← e]; exact f
/-- Lists that lie at one spot are one. -/
theorem spot_det {w : World} {v u : Value} {xs ys : List STree} (h : SListF w v xs) (h2 : SListF w u ys) (e : spotA v = spotA u) (hl : xs.length = ys.length) : xs = ys := by
  obtain ⟨_, a, c, rfl, hf⟩ := h
  obtain ⟨_, b, d, rfl, hf2⟩ := h2
  cases hx : xs.length with
  | zero => rw [List.length_eq_zero_iff.1 hx, List.length_eq_zero_iff.1 (by omega : ys.length = 0)]
  | succ n =>
    obtain ⟨g, o, rfl, _, h1⟩ := hf (by omega)
    obtain ⟨g', o', rfl, _, h2⟩ := hf2 (by omega)
    rw [← hl, hx] at e
    simp [spotA] at e
    obtain ⟨rfl, rfl⟩ := e
    exact SLiesLF.det h1 h2 hl
end Go.Proofs.Ytmhhghdfgdhljaa.SpX
