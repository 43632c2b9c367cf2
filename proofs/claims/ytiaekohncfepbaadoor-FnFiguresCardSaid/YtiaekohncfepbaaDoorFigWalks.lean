/- What is wanted for the law FnFigures' regions: the conversion of two bytes, and Brought, walked. Without conditions beyond each one's own. -/
import Derived.Test.YtiaekohncfepbaaDoorFigMath
import Derived.Test.YtiaekohncfepbaaDoorHexImpl
import Derived.Test.YtiaekohncfepbaaDoorUnhexImpl
import Derived.Test.YtiaekohncfepbaaDoorReadImpl
import Derived.Test.YtiaekohncfepbaaDoorDrawPlaces
import Derived.Test.YtiaekohncfepbaaDoorCode
namespace Go.Proofs.YtiaekohncfepbaaDoor.Figs
open Go.RowKit Own Hexes Unhexes Decimals Trm Cur
/-- Two bytes in a block. -/
structure TwoB (w : World) (b : Nat) (x y : Int) : Prop where
  out : w.cell? ⟨b, 0, none⟩ = some (.int .u8 x) ∧ w.cell? ⟨b, 1, none⟩ = some (.int .u8 y) ∧ b < w.heap.size
  row : w.heap[b]? = some (.cells #[.int .u8 x, .int .u8 y] 5 (0, 0))
theorem TwoB.new (w : World) (x y : Int) : TwoB (w.alloc (.cells #[.int .u8 x, .int .u8 y] 5)) w.heap.size x y := ⟨by refine ⟨?_, ?_, ?_⟩ <;> simp [go_sem], heap_alloc_new w _⟩
theorem TwoB.newd (w : World) (x y : Int) : TwoB (w.alloc (.cells #[.int .u8 x, .int .u8 y] 5)).drew w.heap.size x y := ⟨(TwoB.new w x y).out, (TwoB.new w x y).row⟩
theorem TwoB.keep {w w' : World} {b : Nat} {x y : Int} (h : TwoB w b x y) (hb : Below w.heap.size w w') : TwoB w' b x y := by
  obtain ⟨q0, q1, hl⟩ := h.out
  have k := keeps_below hb
  exact ⟨⟨k _ _ q0, k _ _ q1, Nat.lt_of_lt_of_le hl hb.size⟩, (hb.block b hl).trans h.row⟩
def byteI (x : Int) : UInt8 := UInt8.ofNat (x % 256).toNat
theorem byteI_val (x : Int) : ((byteI x).toNat : Int) = x % 256 := by unfold byteI; simp; omega
/-- 'string([]byte{a, b})'. -/
theorem run_two {w : World} {b : Nat} {p q : UInt8} (h : TwoB w b (p.toNat : Int) (q.toNat : Int)) :
    (convert 22 9 (.slice (some ⟨b, 0, none⟩) 2 2)).run Tryd.prog w = .ok (.string ⟨#[p, q]⟩) w :=
  run_convert_bytes_back w 22 9 5 ⟨b, 0, none⟩ 2 [p, q] Tryd.underlying22 Tryd.underlying5 Tryd.underlying9 fun j hj => by
    rcases (by simp at hj; omega : j = 0 ∨ j = 1) with rfl | rfl
    · exact World.news_of_block h.row 0 _ rfl
    · exact World.news_of_block h.row 1 _ rfl
theorem implBrought_any (x a b : Int) (w : World) (h : a ≤ b) :
    Calls Tryd.prog 10 #[.int .i64 x, .int .i64 a, .int .i64 b] w fun e w' => e = .returned (.int .i64 (clampI x a b)) ∧ w = w' := by
  have HC : Hid (clampI x a b = if x < a then a else if b < x then b else x) := rfl
  generalize clampI x a b = r at HC
  rcases (by omega : x < a ∨ (a ≤ x ∧ b < x) ∨ (a ≤ x ∧ x ≤ b)) with h1 | ⟨h1, h2⟩ | ⟨h1, h2⟩
  · have HR : Hid (r = a) := by show _ = _; rw [HC.out, if_pos h1]
    clear HC
    go_enter Tryd.func10, Tryd.ntmps10
    go_wp2
    go_ret
    all_goals (first | omega | (simp [HR.out]; omega) | skip)
  · have HR : Hid (r = b) := by show _ = _; rw [HC.out, if_neg (by omega), if_pos h2]
    clear HC
    go_enter Tryd.func10, Tryd.ntmps10
    go_wp2
    go_ret
    all_goals (first | omega | (simp [HR.out]; omega) | skip)
  · have HR : Hid (r = x) := by show _ = _; rw [HC.out, if_neg (by omega), if_neg (by omega)]
    clear HC
    go_enter Tryd.func10, Tryd.ntmps10
    go_wp2
    go_ret
    all_goals (first | omega | (simp [HR.out]; omega) | skip)
/-- A callee that leaves the world as it is, in a quiet region. -/
theorem quiet_eq {P : Program} {f : FuncId} {args : Array Value} {w : World} {n : Nat} {v : Value}
    (h : Calls P f args (w.drewN n) fun e w' => e = .returned v ∧ w.drewN n = w') : Calls P f args (w.drewN n) fun e w'' => e = .returned v ∧ ∃ m, w'' = w.drewN m :=
  h.mono fun _ _ ⟨he, hm⟩ => ⟨he, n, hm.symm⟩
theorem quiet_eq2 {P : Program} {f : FuncId} {args : Array Value} {w : World} {k n : Nat} {v : Value}
    (h : Calls P f args (w.drewN (k + n)) fun e w' => e = .returned v ∧ w.drewN (k + n) = w') : Calls P f args (w.drewN (k + n)) fun e w'' => e = .returned v ∧ ∃ m, w'' = w.drewN (k + m) :=
  h.mono fun _ _ ⟨he, hm⟩ => ⟨he, n, hm.symm⟩
/-- What Hex and Unhex make of a text. -/
theorem hex_any (T : ByteArray) (hT : T.size ≤ 20000) : ∃ h : ByteArray, h.size = 2 * T.size ∧
    (∀ w, Calls Tryd.prog 7 #[.string T] w fun e w' => e = .returned (.tuple #[.string h, .bool true]) ∧ Below w.heap.size w w') ∧
    (∀ w, Calls Tryd.prog 8 #[.string h] w fun e w' => e = .returned (.tuple #[.string T, .bool true]) ∧ Below w.heap.size w w') := by
  have hsz : (ByteArray.mk (hexL T.data.toList).toArray).size = 2 * T.size := by
    show (hexL T.data.toList).toArray.size = _
    rw [List.size_toArray, hexL_length]
    simp
  refine ⟨⟨(hexL T.data.toList).toArray⟩, hsz, fun w => implHex_short T w hT, fun w => ?_⟩
  refine (implUnhex_even _ w (by omega) (by omega)).mono ?_
  rintro e w' ⟨rfl, hb⟩
  refine ⟨?_, hb⟩
  show outU (unhexL (hexL T.data.toList)) = _
  rw [unhex_hex]
  rfl
/-- What Decimal and ReadDecimal make of a number. -/
theorem dec_any (n : Int) (h0 : 0 ≤ n) (h1 : n ≤ 1000000000) : ∃ s : ByteArray,
    (∀ w, Pows w → Calls Tryd.prog 6 #[.int .i64 n] w fun e w' => e = .returned (.string s) ∧ Below w.heap.size w w') ∧
    (∀ w, Pows w → Reads.Errs w → Calls Tryd.prog 9 #[.string s] w fun e w' => e = .returned (.tuple #[.int .i64 n, .bool true]) ∧ Below w.heap.size w w') := by
  obtain ⟨m, rfl⟩ : ∃ m : Nat, n = (m : Int) := ⟨n.toNat, by omega⟩
  have hl : (ByteArray.mk (Lib.itoa (m : Int)).toArray).size ≤ 1048576 := by
    show (Lib.itoa (m : Int)).toArray.size ≤ _
    rw [List.size_toArray, Reads.itoa_nat]
    have := Reads.decDigits_length_le 9 m (by omega)
    omega
  refine ⟨⟨(Lib.itoa (m : Int)).toArray⟩, fun w hp => implDecimal_any m w (by omega) (by omega) hp, fun w hp he => ?_⟩
  refine (Reads.implRead_any _ w hl he hp).mono ?_
  rintro e w' ⟨rfl, hb⟩
  refine ⟨?_, hb⟩
  show Reads.outR (Reads.readN (Lib.itoa (m : Int))) = _
  rw [Reads.readN_of (by omega)]
  rfl
end Go.Proofs.YtiaekohncfepbaaDoor.Figs
