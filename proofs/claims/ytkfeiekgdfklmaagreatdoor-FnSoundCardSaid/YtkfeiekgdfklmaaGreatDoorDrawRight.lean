/- What the model's draws of programs come to; each of them is right, its names there. Without conditions. -/
import Derived.Test.YtkfeiekgdfklmaaGreatDoorDrawPure
import Derived.Test.YtkfeiekgdfklmaaGreatDoorPOkSpec
import Derived.Test.YtkfeiekgdfklmaaGreatDoorTermRoom
namespace Go.Proofs.YtkfeiekgdfklmaaGreatDoor.Cur
open Go.RowKit Own Trm Lexs
theorem termG_ok {t : Tree} (h : TermG t) : okB t = true := right_more_room t (by decide) h.1
theorem set_nm {s : ByteArray} (h : s ∈ setL) : isNm s.data.toList = true := by
  simp [setL] at h
  rcases h with rfl | rfl | rfl <;> decide
theorem lock_nm {s : ByteArray} (h : s ∈ lockL) : isNm s.data.toList = true := by
  simp [lockL] at h
  rcases h with rfl | rfl | rfl <;> decide
theorem proc_nm {s : ByteArray} (h : s ∈ procL) : isNm s.data.toList = true := by
  simp [procL] at h
  rcases h with rfl | rfl | rfl <;> decide
theorem leaf_right {ps : List ByteArray} (hp : ∀ s, s ∈ ps → isNm s.data.toList = true) {x : STree} (h : LeafG ps x) (r : Nat) : rightX x r = true := by
  have hz : sameT zT zT = true := by decide
  rcases h with ⟨s, t, rfl, h1, h2⟩ | ⟨s, rfl, h1⟩ | ⟨s, rfl, h1⟩ | ⟨s, rfl, h1⟩ | ⟨s, rfl, h1⟩ | rfl
  · rw [rightX_eq]; simp [oneB, oneV, STree.kind, termG_ok h2, set_nm h1]
  · rw [rightX_eq]; simp [oneB, oneV, STree.kind, hz, lock_nm h1]
  · rw [rightX_eq]; simp [oneB, oneV, STree.kind, hz, lock_nm h1]
  · rw [rightX_eq]; simp [oneB, oneV, STree.kind, hz, hp s h1]
  · rw [rightX_eq]; simp [oneB, oneV, STree.kind, hz, hp s h1]
  · rw [rightX_eq]; simp [oneB, oneV, STree.kind, hz]
theorem rightXS_all : ∀ {xs : List STree} {r : Nat}, (∀ x, x ∈ xs → rightX x r = true) → rightXS xs r = true
  | [], r, _ => by rw [rightXS]
  | x :: xs, r, h => by rw [rightXS, h x (List.mem_cons_self ..), rightXS_all (fun y hy => h y (List.mem_cons_of_mem _ hy))]; rfl
theorem good_right {ps : List ByteArray} (hp : ∀ s, s ∈ ps → isNm s.data.toList = true) : ∀ {d : Nat} {x : STree} {r : Nat}, GoodX ps d x → d ≤ r → rightX x r = true
  | 0, x, r, h, _ => leaf_right hp h r
  | d + 1, x, r, h, hr => by
    rcases h with h | ⟨t, b, rfl, h1, h2⟩ | ⟨t, b, e, rfl, h1, h2, h3⟩
    · exact leaf_right hp h r
    · have hb : rightXS b (r - 1) = true := rightXS_all (fun x hx => good_right hp (h2 x hx) (by omega))
      have h0 : r ≠ 0 := by omega
      rw [rightX_eq]; simp [oneB, oneV, STree.kind, STree.body, STree.els, termG_ok h1, hb, h0, rightXS]
    · have hb : rightXS b (r - 1) = true := rightXS_all (fun x hx => good_right hp (h2 x hx) (by omega))
      have he : rightXS e (r - 1) = true := rightXS_all (fun x hx => good_right hp (h3 x hx) (by omega))
      have h0 : r ≠ 0 := by omega
      rw [rightX_eq]; simp [oneB, oneV, STree.kind, STree.body, STree.els, termG_ok h1, hb, he, h0]
/-- The first body: two drawn lists, or nothing to do where there are too many. -/
def skipX : STree := .node 8 ⟨#[]⟩ zT [] []
def lockX (s : ByteArray) : STree := .node 6 s zT [] []
def unlockX (s : ByteArray) : STree := .node 7 s zT [] []
def spawnX (s : ByteArray) : STree := .node 5 s zT [] []
def twoL (bs : List UInt8) (s : St) : List STree × St := ((drawL bs 2 s).1 ++ (drawL bs 1 (drawL bs 2 s).2).1, (drawL bs 1 (drawL bs 2 s).2).2)
def fewL (xs : List STree) : List STree := if 50 < cntXS xs then [skipX] else xs
/-- With a lock around it. -/
def guardF (bs : List UInt8) (xs : List STree) (s : St) : List STree × St :=
  let a := pick3 bs lockL s
  let b := pick3 bs lockL (belowS bs 3 s)
  let s2 := belowS bs 3 (belowS bs 3 s)
  if a = b then (lockX a :: (xs ++ [unlockX a]), s2)
  else if belowF bs 2 s2 = 0 then (lockX a :: lockX b :: (xs ++ [unlockX a]), belowS bs 2 s2)
  else (lockX a :: (xs ++ [unlockX a]), belowS bs 2 s2)
def maybeG (bs : List UInt8) (xs : List STree) (s : St) : List STree × St := if belowF bs 2 s = 0 then guardF bs xs (belowS bs 2 s) else (xs, belowS bs 2 s)
def maybeS (bs : List UInt8) (i : Nat) (xs : List STree) (s : St) : List STree × St :=
  if i = 0 then (if belowF bs 2 s = 0 then (spawnX ⟨#[112]⟩ :: xs, belowS bs 2 s) else (xs, belowS bs 2 s)) else (xs, s)
def bodyF (bs : List UInt8) (ps : List ByteArray) (i : Nat) (s : St) : List STree × St :=
  let a := twoL bs s
  let g := maybeG bs (fewL a.1) a.2
  let m := maybeS bs i g.1 g.2
  fixXS bs ps m.1 m.2
def allL : List ByteArray := [⟨#[109, 97, 105, 110]⟩, ⟨#[112]⟩, ⟨#[113]⟩, ⟨#[114]⟩]
/-- The procedures from i on. -/
def procsF (bs : List UInt8) (ps : List ByteArray) : Nat → List ByteArray → St → List PrT × St
  | _, [], s => ([], s)
  | i, n :: r, s => (⟨n, (bodyF bs ps i s).1⟩ :: (procsF bs ps (i + 1) r (bodyF bs ps i s).2).1, (procsF bs ps (i + 1) r (bodyF bs ps i s).2).2)
def globL : List ByteArray := [⟨#[120]⟩, ⟨#[121]⟩, ⟨#[122]⟩, ⟨#[117]⟩]
/-- The program that a cursor draws, and the cursor behind it. -/
def namesF (bs : List UInt8) (s : St) : List ByteArray := allL.take (2 + pickN bs 3 s)
def progF (bs : List UInt8) (s : St) : PTree × St :=
  (⟨globL, lockL, (procsF bs (namesF bs s).tail 0 (namesF bs s) (belowS bs 3 s)).1⟩, (procsF bs (namesF bs s).tail 0 (namesF bs s) (belowS bs 3 s)).2)
def drawnP (bs : List UInt8) : PTree := (progF bs (newS bs)).1
theorem cntXS_append : ∀ (a b : List STree), cntXS (a ++ b) = cntXS a + cntXS b
  | [], b => by simp [cntXS]
  | x :: a, b => by rw [List.cons_append, cntXS, cntXS_append a b, cntXS]; omega
theorem good_up {ps : List ByteArray} : ∀ {d : Nat} {x : STree}, GoodX ps d x → GoodX ps (d + 1) x
  | 0, x, h => .inl h
  | d + 1, x, h => by
    rcases h with h | ⟨t, b, rfl, h1, h2⟩ | ⟨t, b, e, rfl, h1, h2, h3⟩
    · exact .inl h
    · exact .inr (.inl ⟨t, b, rfl, h1, fun y hy => good_up (h2 y hy)⟩)
    · exact .inr (.inr ⟨t, b, e, rfl, h1, fun y hy => good_up (h2 y hy), fun y hy => good_up (h3 y hy)⟩)
def GoodL (ps : List ByteArray) (d n : Nat) (xs : List STree) : Prop := (∀ x, x ∈ xs → GoodX ps d x) ∧ cntXS xs ≤ n
theorem two_good (bs : List UInt8) (s : St) : ∀ x, x ∈ (twoL bs s).1 → GoodX procL 2 x := fun x hx => by
  rcases List.mem_append.1 hx with h | h
  · exact drawL_good bs 2 _ x h
  · exact good_up (drawL_good bs 1 _ x h)
theorem few_good {xs : List STree} (h : ∀ x, x ∈ xs → GoodX procL 2 x) : GoodL procL 2 50 (fewL xs) := by
  unfold fewL
  split
  · exact ⟨fun x hx => by simp at hx; subst hx; exact leaf_good (.inr (.inr (.inr (.inr (.inr rfl))))) 2, by simp [cntXS, skipX, cntX]⟩
  · exact ⟨h, by omega⟩
theorem cnt_leaf (k : Int) (s : ByteArray) (t : Tree) : cntX (.node k s t [] []) = 1 := by simp [cntX, cntXS]
theorem guard_good {xs : List STree} (bs : List UInt8) (s : St) (h : GoodL procL 2 50 xs) : GoodL procL 2 53 (guardF bs xs s).1 := by
  have ha := pick3_mem bs s ⟨#[97]⟩ ⟨#[98]⟩ ⟨#[109]⟩
  have hb := pick3_mem bs (belowS bs 3 s) ⟨#[97]⟩ ⟨#[98]⟩ ⟨#[109]⟩
  have l1 : ∀ a, a ∈ lockL → GoodX procL 2 (lockX a) := fun a h => leaf_good (.inr (.inl ⟨a, rfl, h⟩)) 2
  have l2 : ∀ a, a ∈ lockL → GoodX procL 2 (unlockX a) := fun a h => leaf_good (.inr (.inr (.inl ⟨a, rfl, h⟩))) 2
  have hc := h.2
  unfold guardF
  dsimp only
  split
  · refine ⟨fun x hx => ?_, by simp [cntXS, cntXS_append, lockX, unlockX, cntX]; omega⟩
    simp at hx
    rcases hx with rfl | hx | rfl
    · exact l1 _ ha
    · exact h.1 x hx
    · exact l2 _ ha
  · split
    · refine ⟨fun x hx => ?_, by simp [cntXS, cntXS_append, lockX, unlockX, cntX]; omega⟩
      simp at hx
      rcases hx with rfl | rfl | hx | rfl
      · exact l1 _ ha
      · exact l1 _ hb
      · exact h.1 x hx
      · exact l2 _ ha
    · refine ⟨fun x hx => ?_, by simp [cntXS, cntXS_append, lockX, unlockX, cntX]; omega⟩
      simp at hx
      rcases hx with rfl | hx | rfl
      · exact l1 _ ha
      · exact h.1 x hx
      · exact l2 _ ha
theorem maybeG_good {xs : List STree} (bs : List UInt8) (s : St) (h : GoodL procL 2 50 xs) : GoodL procL 2 53 (maybeG bs xs s).1 := by
  unfold maybeG
  split
  · exact guard_good bs _ h
  · exact ⟨h.1, Nat.le_trans h.2 (by decide)⟩
theorem maybeS_good {xs : List STree} (bs : List UInt8) (i : Nat) (s : St) (h : GoodL procL 2 53 xs) : GoodL procL 2 54 (maybeS bs i xs s).1 := by
  have hc := h.2
  have same : GoodL procL 2 54 xs := ⟨h.1, by omega⟩
  unfold maybeS
  split
  · split
    · refine ⟨fun x hx => ?_, by simp [cntXS, spawnX, cntX]; omega⟩
      rcases List.mem_cons.1 hx with rfl | hx
      · exact leaf_good (.inr (.inr (.inr (.inr (.inl ⟨_, rfl, by simp [procL]⟩))))) 2
      · exact h.1 x hx
    · exact same
  · exact same
theorem fix_good {bs : List UInt8} {ps : List ByteArray} (hp : 0 < ps.length) {xs : List STree} {n : Nat} (h : GoodL procL 2 n xs) (c : St) : GoodL ps 2 n (fixXS bs ps xs c).1 := by
  refine ⟨fun y hy => ?_, by rw [fixXS_cnt]; exact h.2⟩
  obtain ⟨x, c2, hx, rfl⟩ := fixXS_mem hy
  exact fixX_good hp (h.1 x hx) c2
theorem body_good {bs : List UInt8} {ps : List ByteArray} (hp : 0 < ps.length) (i : Nat) (s : St) : GoodL ps 2 54 (bodyF bs ps i s).1 :=
  fix_good hp (maybeS_good bs i _ (maybeG_good bs _ (few_good (two_good bs s)))) _
theorem procsF_names (bs : List UInt8) (ps : List ByteArray) : ∀ (i : Nat) (ns : List ByteArray) (s : St), (procsF bs ps i ns s).1.map (·.name) = ns
  | _, [], _ => rfl
  | i, n :: r, s => by rw [procsF]; simp [procsF_names bs ps (i + 1) r]
theorem procsF_body {bs : List UInt8} {ps : List ByteArray} (hp : 0 < ps.length) : ∀ (i : Nat) (ns : List ByteArray) (s : St), ∀ p, p ∈ (procsF bs ps i ns s).1 → GoodL ps 2 54 p.body
  | _, [], _ => fun p h => by simp [procsF] at h
  | i, n :: r, s => fun p h => by
    rw [procsF] at h
    rcases List.mem_cons.1 h with rfl | h
    · exact body_good hp i s
    · exact procsF_body hp (i + 1) r _ p h
theorem namesF_is (bs : List UInt8) (s : St) : namesF bs s = [⟨#[109, 97, 105, 110]⟩, ⟨#[112]⟩] ∨ namesF bs s = [⟨#[109, 97, 105, 110]⟩, ⟨#[112]⟩, ⟨#[113]⟩] ∨ namesF bs s = [⟨#[109, 97, 105, 110]⟩, ⟨#[112]⟩, ⟨#[113]⟩, ⟨#[114]⟩] := by
  have h := pickN_lt bs 3 s (by decide)
  unfold namesF
  generalize pickN bs 3 s = k at h
  match k, h with
  | 0, _ => exact .inl rfl
  | 1, _ => exact .inr (.inl rfl)
  | 2, _ => exact .inr (.inr rfl)
end Go.Proofs.YtkfeiekgdfklmaaGreatDoor.Cur
