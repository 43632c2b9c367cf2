/- The laws' comparison of two terms that are the same, walked. Conditions: both lie in memory. -/
import Derived.Test.YtmhhghdfgdhljaaChecked
import Derived.Test.YtmhhghdfgdhljaaTermSize
import Derived.Deep.RegionWith
import Derived.BigQuiet
import Derived.WalkSmall
import Derived.Outline
namespace Go.Proofs.Ytmhhghdfgdhljaa.Trm
open Go.RowKit Own
def EqOk (t : Tree) : Prop := ∀ (u v : Value) (w : World), Lies w t u → Lies w t v →
    Calls Try.prog 67 #[u, v] w fun e w' => e = .returned (.bool true) ∧ Below w.heap.size w w'
theorem eqS_any (ks : List Tree) (ih : ∀ t, t ∈ ks → EqOk t) (aa bb : Option Addr) (cap dap : Nat) (w : World) (hlen : ks.length ≤ 9223372036854775807) (hk : 0 < ks.length → ∃ g o, aa = some ⟨g, o, none⟩ ∧ LiesL w g o ks) (hk2 : 0 < ks.length → ∃ g o, bb = some ⟨g, o, none⟩ ∧ LiesL w g o ks) :
    Calls Try.prog 108 #[.slice aa ks.length cap, .slice bb ks.length dap] w fun e w' => e = .returned (.bool true) ∧ Below w.heap.size w w' := by
  have IH := Lib.hid ih
  have HK := Lib.hid hk
  have HK2 := Lib.hid hk2
  clear ih hk hk2
  go_enter Try.func108, Try.ntmps108
  go_wp2
  go_loopw [5] (fun i wr => ∃ (k : Nat), k ≤ ks.length ∧ i = .int .i64 k ∧ Hid (Below w.heap.size w wr))
    (fun i _ => ks.length - (intOf i).toNat)
  case atStart => exact ⟨0, Nat.zero_le _, rfl, Below.refl _ _⟩
  case round =>
    obtain ⟨k, hk, rfl, hbe⟩ := hrel
    by_cases hlt : k < ks.length
    · obtain ⟨g, o, rfl, hl⟩ := HK.out (by omega)
      obtain ⟨h, p, rfl, hm⟩ := HK2.out (by omega)
      obtain ⟨ka, kc, c0, c1, c2, c3, hl2⟩ := (hl.keep (keeps_below hbe.out)).at k hlt
      obtain ⟨la, lc, d0, d1, d2, d3, hm2⟩ := (hm.keep (keeps_below hbe.out)).at k hlt
      have C := Lib.hid (fun w hk => IH.out ks[k] (List.getElem_mem hlt) _ _ w (hl2.keep hk) (hm2.keep hk))
      clear hl hl2 hm hm2
      go_wp2
      go_region_with (go_at_call 67; refine (C.out _ (keeps_drew _)).mono ?_; rintro e w1 ⟨rfl, hb1⟩)
      all_goals
        have HB1 := Lib.hid (hbe.out.trans ((below_of_drew hb1).mono hbe.out.size))
        clear hb1
        go_wp2
        go_roundw
        case rel => exact ⟨k + 1, by omega, by go_num, HB1⟩
        case measure => simp [intOf]; omega
    · go_wp2
      go_ret
      exact ⟨rfl, hbe.out⟩
theorem eqTerm_any : ∀ t : Tree, EqOk t := treeInd fun k n s ks ih u v w hu hv => by
  obtain ⟨h1, h2, h3, h4, aa, cap, rfl, h5⟩ := hu
  obtain ⟨_, _, _, _, bb, dap, rfl, h6⟩ := hv
  have C := Lib.hid (fun w hk hk2 => eqS_any ks ih aa bb cap dap w h4 hk hk2)
  have H5 := Lib.hid h5
  have H6 := Lib.hid h6
  clear ih h5 h6
  go_enter Try.func67, Try.ntmps67
  go_wp2_with fail
  refine (C.out _ (fun h => by obtain ⟨g, o, e, hl⟩ := H5.out h; exact ⟨g, o, e, hl.keep ((keeps_alloc _ _).trans (keeps_alloc _ _))⟩) (fun h => by obtain ⟨g, o, e, hl⟩ := H6.out h; exact ⟨g, o, e, hl.keep ((keeps_alloc _ _).trans (keeps_alloc _ _))⟩)).mono ?_
  rintro e w1 ⟨rfl, hb1⟩
  have HB1 := Lib.hid ((((Below.refl w.heap.size w).alloc (Nat.le_refl _) _).alloc (by simp) _).trans (hb1.mono (by simp; omega)))
  clear hb1
  go_wp2
  go_ret
  exact ⟨rfl, HB1.out⟩
end Go.Proofs.Ytmhhghdfgdhljaa.Trm
