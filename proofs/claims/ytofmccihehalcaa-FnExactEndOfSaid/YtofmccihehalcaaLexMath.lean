/- The plain arithmetic of Lex: the signs of a row of bytes. Without conditions: no Go text is spoken of here. -/
import Derived.Test.YtofmccihehalcaaReadMath
namespace Go.Proofs.Ytofmccihehalcaa.Lexs
open Go.RowKit Own Reads
def letB (b : UInt8) : Bool := decide (97 ≤ b.toNat) && decide (b.toNat ≤ 122)
def figB (b : UInt8) : Bool := decide (48 ≤ b.toNat) && decide (b.toNat ≤ 57)
def wrdB (b : UInt8) : Bool := letB b || figB b
def blkB (b : UInt8) : Bool := b == 32 || b == 9 || b == 10 || b == 13
def mrkB (b : UInt8) : Bool := [123, 125, 40, 41, 59, 44, 61, 60, 43, 45, 42].contains b
theorem letB_yes {b : UInt8} (h : 97 ≤ b.toNat) (h' : b.toNat ≤ 122) : letB b = true := by simp [letB, h, h']
theorem letB_no {b : UInt8} (h : b.toNat < 97 ∨ 122 < b.toNat) : letB b = false := by
  cases e : letB b with
  | false => rfl
  | true => simp [letB] at e; omega
theorem figB_yes {b : UInt8} (h : 48 ≤ b.toNat) (h' : b.toNat ≤ 57) : figB b = true := by simp [figB, h, h']
theorem figB_no {b : UInt8} (h : b.toNat < 48 ∨ 57 < b.toNat) : figB b = false := by
  cases e : figB b with
  | false => rfl
  | true => simp [figB] at e; omega
theorem letB_iff {b : UInt8} : letB b = true ↔ 97 ≤ b.toNat ∧ b.toNat ≤ 122 := by simp [letB]
theorem figB_iff {b : UInt8} : figB b = true ↔ 48 ≤ b.toNat ∧ b.toNat ≤ 57 := by simp [figB]
theorem byte_eq {b : UInt8} {n : Nat} (hn : n < 256) (h : b.toNat = n) : b = UInt8.ofNat n := by
  subst h; simp
theorem blkB_yes {b : UInt8} (h : b.toNat = 32 ∨ b.toNat = 9 ∨ b.toNat = 10 ∨ b.toNat = 13) : blkB b = true := by
  rcases h with h | h | h | h <;> rw [byte_eq (by omega) h] <;> rfl
theorem blkB_no {b : UInt8} (h : b.toNat ≠ 32 ∧ b.toNat ≠ 9 ∧ b.toNat ≠ 10 ∧ b.toNat ≠ 13) : blkB b = false := by
  cases e : blkB b with
  | false => rfl
  | true =>
    simp [blkB] at e
    rcases e with ((rfl | rfl) | rfl) | rfl <;> simp at h
/-- How many small letters and figures a row begins with. -/
def runL (l : List UInt8) : Nat := (l.takeWhile wrdB).length
theorem runL_le (l : List UInt8) : runL l ≤ l.length := (List.takeWhile_prefix wrdB).length_le
theorem runL_cons {b : UInt8} {l : List UInt8} (h : wrdB b = true) : runL (b :: l) = runL l + 1 := by simp [runL, h]
theorem runL_stop {b : UInt8} {l : List UInt8} (h : wrdB b = false) : runL (b :: l) = 0 := by simp [runL, h]
theorem runL_nil : runL [] = 0 := rfl
/-- What a row begins with. -/
inductive Step | done | blank | bad | sign (k n : Nat)
def stepL : List UInt8 → Step
  | [] => .done
  | b :: r =>
    if blkB b = true then .blank
    else if letB b = true then (if runL (b :: r) ≤ 12 then .sign 1 (runL (b :: r)) else .bad)
    else if figB b = true then (if (readN ((b :: r).take (runL (b :: r)))).isSome = true then .sign 2 (runL (b :: r)) else .bad)
    else if b = 61 ∧ r.head? = some 61 then .sign 3 2
    else if mrkB b = true then .sign 3 1
    else .bad
theorem stepL_pos {l : List UInt8} {k n : Nat} (h : stepL l = .sign k n) : 1 ≤ n ∧ n ≤ l.length := by
  cases l with
  | nil => simp [stepL] at h
  | cons b r =>
    have hr := runL_le (b :: r)
    simp only [stepL] at h
    split at h
    · cases h
    · split at h
      · split at h
        · injection h with h1 h2
          subst h2
          refine ⟨?_, hr⟩
          rw [runL_cons (by simp [wrdB, *])]; omega
        · cases h
      · split at h
        · split at h
          · injection h with h1 h2
            subst h2
            refine ⟨?_, hr⟩
            rw [runL_cons (by simp [wrdB, *])]; omega
          · cases h
        · split at h
          · rename_i h2
            injection h with h1 h3
            subst h3
            cases r with
            | nil => simp at h2
            | cons c r => simp
          · split at h
            · injection h with h1 h3
              subst h3
              simp
            · cases h
structure Sg where
  kind : Nat
  text : ByteArray
  pos : Nat
def txt (l : List UInt8) (n : Nat) : ByteArray := ⟨(l.take n).toArray⟩
/-- The signs of a row from a place on, and the fault: its code and its place. -/
def lexL (pos : Nat) (l : List UInt8) (acc : List Sg) : List Sg × Nat × Nat :=
  match h : stepL l with
  | .done => (acc, 0, 0)
  | .bad => ([], 2, pos)
  | .blank => lexL (pos + 1) (l.drop 1) acc
  | .sign k n => lexL (pos + n) (l.drop n) (acc ++ [⟨k, txt l n, pos⟩])
termination_by l.length
decreasing_by
  · cases l with
    | nil => simp [stepL] at h
    | cons b r => simp
  · have := stepL_pos h
    simp; omega
theorem lexL_done {pos : Nat} {l : List UInt8} {acc : List Sg} (h : stepL l = .done) : lexL pos l acc = (acc, 0, 0) := by
  rw [lexL]; split <;> simp_all
theorem lexL_bad {pos : Nat} {l : List UInt8} {acc : List Sg} (h : stepL l = .bad) : lexL pos l acc = ([], 2, pos) := by
  rw [lexL]; split <;> simp_all
theorem lexL_blank {pos : Nat} {l : List UInt8} {acc : List Sg} (h : stepL l = .blank) : lexL pos l acc = lexL (pos + 1) (l.drop 1) acc := by
  rw [lexL]; split <;> simp_all
theorem lexL_sign {pos k n : Nat} {l : List UInt8} {acc : List Sg} (h : stepL l = .sign k n) : lexL pos l acc = lexL (pos + n) (l.drop n) (acc ++ [⟨k, txt l n, pos⟩]) := by
  rw [lexL]; split <;> simp_all
/-- What Lex answers. -/
def out (s : ByteArray) : List Sg × Nat × Nat := if s.size ≤ 6000 then lexL 0 s.data.toList [] else ([], 1, 0)
theorem out_short {s : ByteArray} (h : s.size ≤ 6000) : lexL 0 (s.data.toList.drop 0) [] = out s := by unfold out; rw [if_pos h]; rfl
theorem out_long {s : ByteArray} (h : 6000 < s.size) : out s = ([], 1, 0) := by unfold out; rw [if_neg (by omega)]
theorem lexL_length : ∀ (m pos : Nat) (l : List UInt8) (acc : List Sg), l.length ≤ m → (lexL pos l acc).1.length ≤ acc.length + l.length := by
  intro m
  induction m with
  | zero =>
    intro pos l acc h
    obtain rfl : l = [] := List.eq_nil_of_length_eq_zero (by omega)
    rw [lexL_done rfl]; simp
  | succ m ih =>
    intro pos l acc h
    cases e : stepL l with
    | done => rw [lexL_done e]; simp
    | bad => rw [lexL_bad e]; simp
    | blank =>
      rw [lexL_blank e]
      have hl : 1 ≤ l.length := by
        cases l with
        | nil => simp [stepL] at e
        | cons b r => simp
      have := ih (pos + 1) (l.drop 1) acc (by rw [List.length_drop]; omega)
      rw [List.length_drop] at this; omega
    | sign k n =>
      rw [lexL_sign e]
      have hp := stepL_pos e
      have := ih (pos + n) (l.drop n) (acc ++ [⟨k, txt l n, pos⟩]) (by rw [List.length_drop]; omega)
      rw [List.length_drop, List.length_append] at this; simp only [List.length_cons, List.length_nil] at this; omega
theorem out_length (s : ByteArray) : (out s).1.length ≤ 6000 := by
  by_cases h : s.size ≤ 6000
  · rw [← out_short h]
    have := lexL_length _ 0 (s.data.toList.drop 0) [] (Nat.le_refl _)
    simp at this; simp; omega
  · rw [out_long (by omega)]; simp
/-! Steps at a place of a text. -/
theorem drop_at {s : ByteArray} {k : Nat} (h : k < s.size) : s.data.toList.drop k = s[k] :: s.data.toList.drop (k + 1) := List.drop_eq_getElem_cons (by simpa using h)
theorem run_step {s : ByteArray} {k : Nat} (h : k < s.size) (hw : wrdB s[k] = true) : runL (s.data.toList.drop k) = runL (s.data.toList.drop (k + 1)) + 1 := by rw [drop_at h, runL_cons hw]
theorem run_stop {s : ByteArray} {k : Nat} (h : k < s.size) (hw : wrdB s[k] = false) : runL (s.data.toList.drop k) = 0 := by rw [drop_at h, runL_stop hw]
theorem run_end {s : ByteArray} {k : Nat} (h : s.size ≤ k) : runL (s.data.toList.drop k) = 0 := by
  rw [List.drop_of_length_le (by simpa using h)]; rfl
theorem step_end {s : ByteArray} {k : Nat} (h : s.size ≤ k) : stepL (s.data.toList.drop k) = .done := by
  rw [List.drop_of_length_le (by simpa using h)]; rfl
theorem step_blank {s : ByteArray} {k : Nat} (h : k < s.size) (hb : blkB s[k] = true) : stepL (s.data.toList.drop k) = .blank := by
  rw [drop_at h]; simp only [stepL]; rw [if_pos hb]
theorem step_letter {s : ByteArray} {k : Nat} (h : k < s.size) (hb : blkB s[k] = false) (hl : letB s[k] = true) :
    stepL (s.data.toList.drop k) = if runL (s.data.toList.drop k) ≤ 12 then .sign 1 (runL (s.data.toList.drop k)) else .bad := by
  rw [drop_at h]; simp only [stepL]; rw [if_neg (by simp [hb]), if_pos hl]
theorem step_figure {s : ByteArray} {k : Nat} (h : k < s.size) (hb : blkB s[k] = false) (hl : letB s[k] = false) (hf : figB s[k] = true) :
    stepL (s.data.toList.drop k) = if (readN ((s.data.toList.drop k).take (runL (s.data.toList.drop k)))).isSome = true then .sign 2 (runL (s.data.toList.drop k)) else .bad := by
  rw [drop_at h]; simp only [stepL]; rw [if_neg (by simp [hb]), if_neg (by simp [hl]), if_pos hf]
theorem step_two {s : ByteArray} {k : Nat} (h : k + 1 < s.size) (h1 : s[k].toNat = 61) (h2 : s[k + 1].toNat = 61) : stepL (s.data.toList.drop k) = .sign 3 2 := by
  have e1 := byte_eq (by omega) h1
  have e2 := byte_eq (by omega) h2
  rw [drop_at (by omega : k < s.size), drop_at h, e1, e2]
  rfl
theorem head_at {s : ByteArray} {k : Nat} (h : k < s.size) : (s.data.toList.drop k).head? = some s[k] := by rw [drop_at h]; rfl
theorem step_mark {s : ByteArray} {k : Nat} (h : k < s.size) (hb : blkB s[k] = false) (hl : letB s[k] = false) (hf : figB s[k] = false) (h2 : ¬ (s[k].toNat = 61 ∧ ∃ h' : k + 1 < s.size, s[k + 1].toNat = 61)) :
    stepL (s.data.toList.drop k) = if mrkB s[k] = true then .sign 3 1 else .bad := by
  rw [drop_at h]; simp only [stepL]; rw [if_neg (by simp [hb]), if_neg (by simp [hl]), if_neg (by simp [hf]), if_neg]
  rintro ⟨e1, e2⟩
  apply h2
  refine ⟨by rw [e1]; rfl, ?_⟩
  by_cases h' : k + 1 < s.size
  · refine ⟨h', ?_⟩
    rw [head_at h'] at e2
    injection e2 with e2
    rw [e2]; rfl
  · rw [List.drop_of_length_le (by simp; omega)] at e2
    cases e2
theorem extract_txt (s : ByteArray) (k n : Nat) : s.extract k (k + n) = txt (s.data.toList.drop k) n := by
  unfold txt
  apply ByteArray.ext
  rw [ByteArray.data_extract]
  apply Array.ext'
  simp [Array.toList_extract, List.extract]
/-! Marks and the words that are no names. -/
def mkList : List (List UInt8) := [[123], [125], [40], [41], [59], [44], [61], [61, 61], [60], [43], [45], [42]]
def kwList : List (List UInt8) := [[97, 110, 100], [99, 97, 108, 108], [101, 108, 115, 101], [103, 108, 111, 98, 97, 108, 115], [105, 102], [108, 111, 99, 107], [108, 111, 99, 107, 115], [110, 111, 116], [112, 114, 111, 99], [115, 107, 105, 112], [115, 112, 97, 119, 110], [117, 110, 108, 111, 99, 107], [119, 104, 105, 108, 101]]
def isMk (l : List UInt8) : Bool := mkList.contains l
def isKw (l : List UInt8) : Bool := kwList.contains l
/-- Small letters and figures, at most twelve, the first one a letter. -/
def isWd (l : List UInt8) : Bool := decide (l.length ≤ 12) && ((l.head?.map letB).getD false) && decide (runL l = l.length)
def isNm (l : List UInt8) : Bool := isWd l && !isKw l
theorem isWd_no_long {l : List UInt8} (h : 12 < l.length) : isWd l = false := by
  unfold isWd; rw [decide_eq_false (by omega)]; rfl
theorem isWd_no_head {b : UInt8} {l : List UInt8} (h : letB b = false) : isWd (b :: l) = false := by
  unfold isWd; simp [h]
theorem isWd_nil : isWd [] = false := rfl
theorem isWd_of {b : UInt8} {l : List UInt8} (h : (b :: l).length ≤ 12) (hb : letB b = true) : isWd (b :: l) = decide (runL (b :: l) = (b :: l).length) := by
  unfold isWd; rw [decide_eq_true h]; simp [hb]
theorem isMk_yes {s : ByteArray} (h : isMk s.data.toList = true) : s.toList = [123] ∨ s.toList = [125] ∨ s.toList = [40] ∨ s.toList = [41] ∨ s.toList = [59] ∨ s.toList = [44] ∨ s.toList = [61] ∨ s.toList = [61, 61] ∨ s.toList = [60] ∨ s.toList = [43] ∨ s.toList = [45] ∨ s.toList = [42] := by
  rw [ByteArray.toList_eq]
  simpa [isMk, mkList] using h
theorem isMk_no {s : ByteArray} (h : isMk s.data.toList = false) : (s.toList == [123]) = false ∧ (s.toList == [125]) = false ∧ (s.toList == [40]) = false ∧ (s.toList == [41]) = false ∧ (s.toList == [59]) = false ∧ (s.toList == [44]) = false ∧ (s.toList == [61]) = false ∧ (s.toList == [61, 61]) = false ∧ (s.toList == [60]) = false ∧ (s.toList == [43]) = false ∧ (s.toList == [45]) = false ∧ (s.toList == [42]) = false := by
  rw [ByteArray.toList_eq]
  simpa [isMk, mkList] using h
theorem isKw_yes {s : ByteArray} (h : isKw s.data.toList = true) : s.toList = [97, 110, 100] ∨ s.toList = [99, 97, 108, 108] ∨ s.toList = [101, 108, 115, 101] ∨ s.toList = [103, 108, 111, 98, 97, 108, 115] ∨ s.toList = [105, 102] ∨ s.toList = [108, 111, 99, 107] ∨ s.toList = [108, 111, 99, 107, 115] ∨ s.toList = [110, 111, 116] ∨ s.toList = [112, 114, 111, 99] ∨ s.toList = [115, 107, 105, 112] ∨ s.toList = [115, 112, 97, 119, 110] ∨ s.toList = [117, 110, 108, 111, 99, 107] ∨ s.toList = [119, 104, 105, 108, 101] := by
  rw [ByteArray.toList_eq]
  simpa [isKw, kwList] using h
theorem isKw_no {s : ByteArray} (h : isKw s.data.toList = false) : (s.toList == [97, 110, 100]) = false ∧ (s.toList == [99, 97, 108, 108]) = false ∧ (s.toList == [101, 108, 115, 101]) = false ∧ (s.toList == [103, 108, 111, 98, 97, 108, 115]) = false ∧ (s.toList == [105, 102]) = false ∧ (s.toList == [108, 111, 99, 107]) = false ∧ (s.toList == [108, 111, 99, 107, 115]) = false ∧ (s.toList == [110, 111, 116]) = false ∧ (s.toList == [112, 114, 111, 99]) = false ∧ (s.toList == [115, 107, 105, 112]) = false ∧ (s.toList == [115, 112, 97, 119, 110]) = false ∧ (s.toList == [117, 110, 108, 111, 99, 107]) = false ∧ (s.toList == [119, 104, 105, 108, 101]) = false := by
  rw [ByteArray.toList_eq]
  simpa [isKw, kwList] using h
theorem data_at {s : ByteArray} (h : 0 < s.size) : s.data.toList = s[0] :: s.data.toList.drop 1 := drop_at h
theorem size_pos {s : ByteArray} (h : 0 < s.size) : ((s.size : Int) == 0) = false := by rw [beq_eq_false_iff_ne]; omega
theorem isWd_head {s : ByteArray} (h : 0 < s.size) (hb : letB s[0] = false) : isWd s.data.toList = false := by
  rw [data_at h]; exact isWd_no_head hb
theorem isWd_run {s : ByteArray} (h : 0 < s.size) (hl : s.size ≤ 12) (hb : letB s[0] = true) : isWd s.data.toList = decide (runL s.data.toList = s.size) := by
  have e := data_at h
  have : s.data.toList.length = s.size := by simp
  rw [← this]
  rw [e]
  exact isWd_of (by rw [← e, this]; exact hl) hb
theorem isWd_long {s : ByteArray} (h : 12 < s.size) : isWd s.data.toList = false := isWd_no_long (by simpa using h)
theorem isWd_none {s : ByteArray} (h : s.size = 0) : isWd s.data.toList = false := by
  have : s.data.toList = [] := List.eq_nil_of_length_eq_zero (by simpa using h)
  rw [this]; rfl
theorem ret_bool {a b : Bool} (h : a = b) : Ending.returned (.bool a) = .returned (.bool b) := by rw [h]
end Go.Proofs.Ytofmccihehalcaa.Lexs
