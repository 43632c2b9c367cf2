/- What the model's draws of statements come to, and that it is right. Without conditions. -/
import Derived.Test.YtkfeiekgdfklmaaGreatDoorDrawFacts
import Derived.Test.YtkfeiekgdfklmaaGreatDoorSRight
import Derived.Test.YtkfeiekgdfklmaaGreatDoorVarsT
namespace Go.Proofs.YtkfeiekgdfklmaaGreatDoor.Cur
open Go.RowKit Own Trm Lexs
def setL : List ByteArray := [⟨#[120]⟩, ⟨#[121]⟩, ⟨#[122]⟩]
def lockL : List ByteArray := [⟨#[97]⟩, ⟨#[98]⟩, ⟨#[109]⟩]
def procL : List ByteArray := [⟨#[112]⟩, ⟨#[113]⟩, ⟨#[114]⟩]
def pick3 (bs : List UInt8) (l : List ByteArray) (s : St) : ByteArray := l.getD (pickN bs 3 s) ByteArray.empty
/-- A statement without others within it, of the number k; and the cursor behind it. -/
def leafS (bs : List UInt8) (k : Nat) (s : St) : STree × St :=
  if k < 4 then (.node 1 (pick3 bs setL s) (drawT bs 2 (belowS bs 3 s)).1 [] [], (drawT bs 2 (belowS bs 3 s)).2)
  else if k < 6 then (.node 6 (pick3 bs lockL s) zT [] [], belowS bs 3 s)
  else if k < 8 then (.node 7 (pick3 bs lockL s) zT [] [], belowS bs 3 s)
  else if k = 8 then (.node 4 (pick3 bs procL s) zT [] [], belowS bs 3 s)
  else if k = 9 then (.node 5 (pick3 bs procL s) zT [] [], belowS bs 3 s)
  else (.node 8 ⟨#[]⟩ zT [] [], s)
/-- Up to m more statements behind i of them. -/
def listF (bs : List UInt8) (f : St → STree × St) : Nat → Nat → St → List STree × St
  | 0, _, s => ([], belowS bs 4 s)
  | m + 1, i, s => if i < pickN bs 4 s then ((f (belowS bs 4 s)).1 :: (listF bs f m (i + 1) (f (belowS bs 4 s)).2).1, (listF bs f m (i + 1) (f (belowS bs 4 s)).2).2) else ([], belowS bs 4 s)
def drawS (bs : List UInt8) : Nat → St → STree × St
  | 0, s => leafS bs (if 11 ≤ pickN bs 14 s then pickN bs 14 s - 6 else pickN bs 14 s) (belowS bs 14 s)
  | d + 1, s =>
    if pickN bs 14 s < 11 then leafS bs (pickN bs 14 s) (belowS bs 14 s)
    else
      let t := drawT bs 1 (belowS bs 14 s)
      let b := listF bs (drawS bs d) 3 0 t.2
      if pickN bs 14 s = 11 then (.node 3 ⟨#[]⟩ t.1 b.1 [], b.2)
      else if belowF bs 2 b.2 = 0 then
        let e := listF bs (drawS bs d) 3 0 (belowS bs 2 b.2)
        (.node 2 ⟨#[]⟩ t.1 b.1 e.1, e.2)
      else (.node 2 ⟨#[]⟩ t.1 b.1 [], belowS bs 2 b.2)
def drawL (bs : List UInt8) (d : Nat) (s : St) : List STree × St := listF bs (drawS bs d) 3 0 s
theorem drawS_leaf (bs : List UInt8) (d : Nat) (s : St) (h : pickN bs 14 s < 11) : drawS bs d s = leafS bs (pickN bs 14 s) (belowS bs 14 s) := by
  cases d with
  | zero => rw [drawS, if_neg (by omega)]
  | succ d => rw [drawS, if_pos h]
theorem drawS_high (bs : List UInt8) (s : St) (h : 11 ≤ pickN bs 14 s) : drawS bs 0 s = leafS bs (pickN bs 14 s - 6) (belowS bs 14 s) := by rw [drawS, if_pos h]
theorem listF_all {P : STree → Prop} {bs : List UInt8} {f : St → STree × St} (h : ∀ s, P (f s).1) : ∀ (m i : Nat) (s : St), ∀ x, x ∈ (listF bs f m i s).1 → P x
  | 0, i, s => fun x hx => by simp [listF] at hx
  | m + 1, i, s => fun x hx => by
    rw [listF] at hx
    split at hx
    · rcases List.mem_cons.1 hx with rfl | hx
      · exact h _
      · exact listF_all h m _ _ x hx
    · simp at hx
theorem listF_len {bs : List UInt8} {f : St → STree × St} : ∀ (m i : Nat) (s : St), (listF bs f m i s).1.length ≤ m
  | 0, i, s => by simp [listF]
  | m + 1, i, s => by
    rw [listF]
    split
    · have := listF_len (bs := bs) (f := f) m (i + 1) (f (belowS bs 4 s)).2
      simp; omega
    · simp
theorem pick3_in {P : ByteArray → Prop} (bs : List UInt8) (s : St) (a b c : ByteArray) (ha : P a) (hb : P b) (hc : P c) : P (pick3 bs [a, b, c] s) := by
  have h := pickN_lt bs 3 s (by decide)
  unfold pick3
  generalize pickN bs 3 s = k at h
  match k, h with
  | 0, _ => exact ha
  | 1, _ => exact hb
  | 2, _ => exact hc
/-- A drawn term: right, its names those of the drawn programs' numbers. -/
def TermG (t : Tree) : Prop := rightB t 3 = true ∧ (∀ s, s ∈ varsT t → s ∈ namesL) ∧ szT t ≤ 30
/-- A drawn statement without others within it, the procedures' names out of ps. -/
def LeafG (ps : List ByteArray) (x : STree) : Prop :=
  (∃ s t, x = .node 1 s t [] [] ∧ s ∈ setL ∧ TermG t) ∨ (∃ s, x = .node 6 s zT [] [] ∧ s ∈ lockL) ∨ (∃ s, x = .node 7 s zT [] [] ∧ s ∈ lockL) ∨ (∃ s, x = .node 4 s zT [] [] ∧ s ∈ ps) ∨ (∃ s, x = .node 5 s zT [] [] ∧ s ∈ ps) ∨ x = .node 8 ⟨#[]⟩ zT [] []
/-- A drawn statement, no more than d kinds with others within it one within the other. -/
def GoodX (ps : List ByteArray) : Nat → STree → Prop
  | 0, x => LeafG ps x
  | d + 1, x => LeafG ps x ∨ (∃ t b, x = .node 3 ⟨#[]⟩ t b [] ∧ TermG t ∧ ∀ y, y ∈ b → GoodX ps d y) ∨ (∃ t b e, x = .node 2 ⟨#[]⟩ t b e ∧ TermG t ∧ (∀ y, y ∈ b → GoodX ps d y) ∧ ∀ y, y ∈ e → GoodX ps d y)
theorem leaf_good {ps : List ByteArray} {x : STree} (h : LeafG ps x) : ∀ d, GoodX ps d x
  | 0 => h
  | _ + 1 => .inl h
theorem pick3_mem (bs : List UInt8) (s : St) (a b c : ByteArray) : pick3 bs [a, b, c] s ∈ [a, b, c] := pick3_in (P := fun x => x ∈ [a, b, c]) bs s a b c (by simp) (by simp) (by simp)
theorem leafT_vars (bs : List UInt8) (k : Nat) (s : St) : ∀ x, x ∈ varsT (leafT bs k s).1 → x ∈ namesL := fun x hx => by
  unfold leafT at hx
  split at hx
  · simp [varsT, varsL] at hx
  · have h := pickN_lt bs 5 s (by decide)
    generalize pickN bs 5 s = j at h hx
    match j, h with
    | 0, _ => simp [varsT, namesL] at hx ⊢; simp [hx]
    | 1, _ => simp [varsT, namesL] at hx ⊢; simp [hx]
    | 2, _ => simp [varsT, namesL] at hx ⊢; simp [hx]
    | 3, _ => simp [varsT, namesL] at hx ⊢; simp [hx]
    | 4, _ => simp [varsT, namesL] at hx ⊢; simp [hx]
theorem drawT_vars (bs : List UInt8) : ∀ (d : Nat) (s : St), ∀ x, x ∈ varsT (drawT bs d s).1 → x ∈ namesL
  | 0, s => fun x hx => by rw [drawT] at hx; exact leafT_vars _ _ _ x hx
  | d + 1, s => fun x hx => by
    rw [drawT] at hx
    split at hx
    · exact leafT_vars _ _ _ x hx
    · split at hx
      · simp [varsT, varsL] at hx
        exact drawT_vars bs d _ x hx
      · have hk := kinds_are bs (belowS bs 12 s)
        generalize kindsL.getD (pickN bs 6 (belowS bs 12 s)) 0 = k at hk hx
        have : k ≠ 2 := by omega
        simp [varsT, varsL, this] at hx
        rcases hx with hx | hx
        · exact drawT_vars bs d _ x hx
        · exact drawT_vars bs d _ x hx
theorem drawT_good (bs : List UInt8) (d : Nat) (hd : d ≤ 3) (s : St) : TermG (drawT bs d s).1 := by
  have h := drawT_size bs d s
  have h2 : 2 ^ d ≤ 8 := Nat.pow_le_pow_right (by decide) hd
  exact ⟨drawT_right bs d s 3 hd, drawT_vars bs d s, by omega⟩
theorem leafS_good (bs : List UInt8) (k : Nat) (s : St) : LeafG procL (leafS bs k s).1 := by
  unfold leafS
  split
  · exact .inl ⟨_, _, rfl, pick3_mem .., drawT_good bs 2 (by omega) _⟩
  · split
    · exact .inr (.inl ⟨_, rfl, pick3_mem ..⟩)
    · split
      · exact .inr (.inr (.inl ⟨_, rfl, pick3_mem ..⟩))
      · split
        · exact .inr (.inr (.inr (.inl ⟨_, rfl, pick3_mem ..⟩)))
        · split
          · exact .inr (.inr (.inr (.inr (.inl ⟨_, rfl, pick3_mem ..⟩))))
          · exact .inr (.inr (.inr (.inr (.inr rfl))))
theorem drawS_good (bs : List UInt8) : ∀ (d : Nat) (s : St), GoodX procL d (drawS bs d s).1
  | 0, s => by rw [drawS]; exact leafS_good ..
  | d + 1, s => by
    rw [drawS]
    have ih : ∀ m i s, ∀ x, x ∈ (listF bs (drawS bs d) m i s).1 → GoodX procL d x := fun m i s => listF_all (drawS_good bs d) m i s
    split
    · exact .inl (leafS_good ..)
    · dsimp only
      split
      · exact .inr (.inl ⟨_, _, rfl, drawT_good bs 1 (by omega) _, ih _ _ _⟩)
      · split
        · exact .inr (.inr ⟨_, _, _, rfl, drawT_good bs 1 (by omega) _, ih _ _ _, ih _ _ _⟩)
        · exact .inr (.inr ⟨_, _, _, rfl, drawT_good bs 1 (by omega) _, ih _ _ _, fun y hy => by simp at hy⟩)
theorem drawL_good (bs : List UInt8) (d : Nat) (s : St) : ∀ x, x ∈ (drawL bs d s).1 → GoodX procL d x := listF_all (drawS_good bs d) 3 0 s
mutual
/-- The procedures that are called or started, drawn anew out of ps. -/
def fixX (bs : List UInt8) (ps : List ByteArray) : STree → St → STree × St
  | .node k s t b e, c =>
    let n := if k = 4 ∨ k = 5 then (ps.getD (pickN bs ps.length c) ByteArray.empty, belowS bs ps.length c) else (s, c)
    let b2 := fixXS bs ps b n.2
    let e2 := fixXS bs ps e b2.2
    (.node k n.1 t b2.1 e2.1, e2.2)
def fixXS (bs : List UInt8) (ps : List ByteArray) : List STree → St → List STree × St
  | [], c => ([], c)
  | x :: r, c => ((fixX bs ps x c).1 :: (fixXS bs ps r (fixX bs ps x c).2).1, (fixXS bs ps r (fixX bs ps x c).2).2)
end
theorem fixXS_len (bs : List UInt8) (ps : List ByteArray) : ∀ (xs : List STree) (c : St), (fixXS bs ps xs c).1.length = xs.length
  | [], c => by simp [fixXS]
  | x :: r, c => by simp [fixXS, fixXS_len bs ps r]
mutual
theorem fixX_cnt (bs : List UInt8) (ps : List ByteArray) : ∀ (x : STree) (c : St), cntX (fixX bs ps x c).1 = cntX x
  | .node k s t b e, c => by simp only [fixX, cntX]; rw [fixXS_cnt bs ps b, fixXS_cnt bs ps e]
theorem fixXS_cnt (bs : List UInt8) (ps : List ByteArray) : ∀ (xs : List STree) (c : St), cntXS (fixXS bs ps xs c).1 = cntXS xs
  | [], c => by simp [fixXS]
  | x :: r, c => by rw [fixXS, cntXS, fixX_cnt bs ps x, fixXS_cnt bs ps r]; rfl
end
theorem getD_mem {l : List ByteArray} {i : Nat} (h : i < l.length) : l.getD i ByteArray.empty ∈ l := by
  rw [List.getD_eq_getElem?_getD, List.getElem?_eq_getElem h]; exact List.getElem_mem h
theorem fixXS_mem {bs : List UInt8} {ps : List ByteArray} : ∀ {xs : List STree} {c : St} {y : STree}, y ∈ (fixXS bs ps xs c).1 → ∃ x c2, x ∈ xs ∧ y = (fixX bs ps x c2).1
  | [], c, y, h => by simp [fixXS] at h
  | x :: r, c, y, h => by
    rw [fixXS] at h
    rcases List.mem_cons.1 h with rfl | h
    · exact ⟨x, c, List.mem_cons_self .., rfl⟩
    · obtain ⟨z, c2, hz, e⟩ := fixXS_mem h
      exact ⟨z, c2, List.mem_cons_of_mem _ hz, e⟩
theorem fixX_leaf {bs : List UInt8} {ps qs : List ByteArray} (hp : 0 < ps.length) {x : STree} (h : LeafG qs x) (c : St) : LeafG ps (fixX bs ps x c).1 := by
  have hm := getD_mem (pickN_lt bs ps.length c hp)
  rcases h with ⟨s, t, rfl, h1, h2⟩ | ⟨s, rfl, h1⟩ | ⟨s, rfl, h1⟩ | ⟨s, rfl, h1⟩ | ⟨s, rfl, h1⟩ | rfl
  · exact .inl ⟨s, t, by simp [fixX, fixXS], h1, h2⟩
  · exact .inr (.inl ⟨s, by simp [fixX, fixXS], h1⟩)
  · exact .inr (.inr (.inl ⟨s, by simp [fixX, fixXS], h1⟩))
  · exact .inr (.inr (.inr (.inl ⟨_, by simp [fixX, fixXS], hm⟩)))
  · exact .inr (.inr (.inr (.inr (.inl ⟨_, by simp [fixX, fixXS], hm⟩))))
  · exact .inr (.inr (.inr (.inr (.inr (by simp [fixX, fixXS])))))
theorem fixX_good {bs : List UInt8} {ps qs : List ByteArray} (hp : 0 < ps.length) : ∀ {d : Nat} {x : STree}, GoodX qs d x → ∀ c, GoodX ps d (fixX bs ps x c).1
  | 0, x, h, c => fixX_leaf hp h c
  | d + 1, x, h, c => by
    rcases h with h | ⟨t, b, rfl, h1, h2⟩ | ⟨t, b, e, rfl, h1, h2, h3⟩
    · exact .inl (fixX_leaf hp h c)
    · refine .inr (.inl ⟨t, (fixXS bs ps b c).1, by simp [fixX, fixXS], h1, fun y hy => ?_⟩)
      obtain ⟨z, c2, hz, rfl⟩ := fixXS_mem hy
      exact fixX_good hp (h2 z hz) c2
    · refine .inr (.inr ⟨t, (fixXS bs ps b c).1, (fixXS bs ps e (fixXS bs ps b c).2).1, by simp [fixX], h1, fun y hy => ?_, fun y hy => ?_⟩)
      · obtain ⟨z, c2, hz, rfl⟩ := fixXS_mem hy
        exact fixX_good hp (h2 z hz) c2
      · obtain ⟨z, c2, hz, rfl⟩ := fixXS_mem hy
        exact fixX_good hp (h3 z hz) c2
end Go.Proofs.YtkfeiekgdfklmaaGreatDoor.Cur
