/- A text made of a row of bytes that the call owns: the conversion's run, stated once. Conditions: the row is owned by the call. -/
import Derived.WalkKit
import Derived.Laws.IdiomStrings
import Derived.Lib.BufferRead
import Derived.Deep.AppendLies
import Derived.Laws.Concat
import Derived.Deep.Draws
namespace Go.Proofs.Ytabpbmifegfmgaa.Own
open Go.RowKit
def byteV (b : UInt8) : Value := .int .u8 (b.toNat : Int)
theorem run_string_of_own {P : Program} (w : World) (src dst e : TypeId) (base : Nat) (v : Value) (n : Nat) (l : List UInt8) (hs : P.underlying src = some (.slice e)) (he : P.underlying e = some (.int .u8)) (hd : P.underlying dst = some .string)
    (hown : w.ownsRow base e 1 v n (l.map byteV)) : (convert src dst v).run P w = .ok (.string ⟨l.toArray⟩) w := by
  have hlen : l.length = n := by have := hown.1; simpa using this
  rcases hown.2 with ⟨rfl, h0⟩ | ⟨g, cap, cur, rfl, _⟩
  · have : l = [] := List.eq_nil_of_length_eq_zero (by omega)
    subst this
    have := Lib.run_convert_nil_bytes (P := P) w src dst e 0 hs he hd
    exact this
  · subst hlen
    refine run_convert_bytes_back w src dst e ⟨g, 0, none⟩ cap l hs he hd fun j hj => ?_
    exact hown.cells (g := g) rfl j _ (by simp [hj, byteV])
/-- 'string([]byte{b})'. -/
theorem run_string_one {P : Program} (w : World) (src dst e : TypeId) (b : UInt8) (x : Int) (hx : x = (b.toNat : Int)) (hs : P.underlying src = some (.slice e)) (he : P.underlying e = some (.int .u8)) (hd : P.underlying dst = some .string) :
    (convert src dst (.slice (some ⟨w.heap.size, 0, none⟩) 1 1)).run P (w.alloc (.cells #[.int .u8 x] e)) = .ok (.string ⟨#[b]⟩) (w.alloc (.cells #[.int .u8 x] e)) := by
  subst hx
  exact run_convert_bytes_back (w.alloc (.cells #[.int .u8 b.toNat] e)) src dst e ⟨w.heap.size, 0, none⟩ 1 [b] hs he hd fun j hj => by
    obtain rfl : j = 0 := by simpa using hj
    exact World.news_of_block (heap_alloc_new w _) 0 _ rfl
theorem mk_cons (b : UInt8) (l : List UInt8) : (ByteArray.mk #[b] ++ ByteArray.mk l.toArray) = ByteArray.mk (b :: l).toArray := ByteArray.mk_append_mk [b] l
theorem grown_trans {a b c : World} {r : Option Nat} (h : a.grownBy b none) (k : b.grownBy c r) (hr : ∀ k, r = some k → a.heap.size ≤ k) : a.grownBy c none :=
  ⟨k.os.trans h.os, k.tape.trans h.tape, k.output.trans h.output, Nat.le_trans h.size k.size, fun i hi hn => (k.block i (Nat.lt_of_lt_of_le hi h.size) (fun e => by have := hr i e.symm; omega)).trans (h.block i hi hn)⟩
theorem grown_but {a c : World} (h : a.grownBy c none) (row : Option Nat) : a.grownBy c row := ⟨h.os, h.tape, h.output, h.size, fun i hi _ => h.block i hi (by simp)⟩
theorem grown_of_drew {a c : World} {r : Option Nat} (h : a.drew.grownBy c r) : a.grownBy c r := ⟨h.os, h.tape, h.output, h.size, h.block⟩
theorem grown_of_drewN {a c : World} {m : Nat} {r : Option Nat} (h : (a.drewN m).grownBy c r) : a.grownBy c r := ⟨h.os, h.tape, h.output, h.size, h.block⟩
theorem grown_alloc {a b : World} (h : a.grownBy b none) (o : Obj) : a.grownBy (b.alloc o) none := grown_trans h (World.grownBy_alloc b o none) (fun _ h => by cases h)
/-- '+' of two short texts. -/
theorem run_add_lists {P : Program} (a b : List UInt8) (h : a.length + b.length ≤ 9223372036854775807) (w : World) : (Op.stringOp .add ⟨a.toArray⟩ ⟨b.toArray⟩).run P w = .ok (.string ⟨(a ++ b).toArray⟩) w := by
  rw [run_string_add_sum w _ _ (by simp [ByteArray.size]; omega), ByteArray.mk_append_mk]
theorem two_oneCell (a b : IntKind) (x y : Int) : ∀ u ∈ [Value.int a x, Value.int b y], u.oneCell' = true := by
  intro u hu
  simp at hu
  rcases hu with rfl | rfl <;> rfl
theorem empty_true {p : ByteArray} (h : p.size = 0) : p.toList.isEmpty = true := by
  rw [ByteArray.toList_eq, List.isEmpty_iff_length_eq_zero]; simpa using h
theorem empty_false {p : ByteArray} (h : ¬ p.size = 0) : p.toList.isEmpty = false := by
  rw [ByteArray.toList_eq, Bool.eq_false_iff]
  intro e
  rw [List.isEmpty_iff_length_eq_zero] at e
  exact h (by simpa using e)
theorem take_snoc (s : ByteArray) (k : Nat) (h : k < s.size) : s.data.toList.take (k + 1) = s.data.toList.take k ++ [s[k]] := by
  rw [List.take_succ_eq_append_getElem (by simpa using h)]; rfl
theorem take_all (s : ByteArray) : s.data.toList.take s.size = s.data.toList := List.take_of_length_le (by simp)
end Go.Proofs.Ytabpbmifegfmgaa.Own
