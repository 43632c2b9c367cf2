/- The model's TermText, walked. Conditions: the term lies in memory; it has at most 2 to the 20 kids and bytes. -/
import Derived.Test.YtokmghhnifdcpaaDoorTextNot
import Derived.Test.YtokmghhnifdcpaaDoorTextImpl
namespace Go.Proofs.YtokmghhnifdcpaaDoor.Trm
open Go.RowKit Own Decimals
theorem bytes_back (s : ByteArray) : ByteArray.mk s.data.toList.toArray = s := by
  apply ByteArray.ext
  simp
set_option maxHeartbeats 800000 in
theorem specTermText_any (t : Tree) (v : Value) (w : World) (hl : Lies w t v) (hz : szT t ≤ 1048576) :
    Calls Tryd.prog 5 #[v] w fun e w' => e = .returned (.string (textT t)) ∧ Below w.heap.size w w' := by
  have C := Lib.hid (fun w hk => specTermOk_any t v w (hl.keep hk))
  have D := Lib.hid (fun ov w1 n xs hr h1 hb ho => specSay_any t v ov w w1 n xs 6 hr h1 hl hb ho)
  obtain ⟨aa, cap, rfl⟩ := hl.shape
  have X0 := Lib.hid (Box4.new w (.int .i64 t.kind) (.int .i64 t.num) (.string t.name) (.slice aa t.kids.length cap) 29)
  clear hl
  cases hb : okB t with
  | false =>
    have HR : Hid (textT t = ⟨#[]⟩) := by show _ = _; unfold textT; rw [hb]; rfl
    rw [hb] at C
    clear hb
    go_enter Tryd.func5, Tryd.ntmps5
    go_wp2_with fail
    refine (C.out _ (keeps_alloc _ _)).mono ?_
    rintro e w1 ⟨rfl, hb1⟩
    have B1 := Lib.hid (below_box1 hb1)
    clear hb1
    go_wp2
    go_ret
    exact ⟨ret_s HR.out.symm, B1.out⟩
  | true =>
    have HR : Hid (textT t = txB t) := by show _ = _; unfold textT; rw [hb]; rfl
    have hr : rightB t 6 = true := hb
    have hsz := txB_size t 6 hr
    have D2 := Lib.hid (fun ov w1 n xs => D.out ov w1 n xs hr)
    rw [hb] at C
    clear hb hr D
    generalize txB t = xt at HR D2 hsz
    go_enter Tryd.func5, Tryd.ntmps5
    go_wp2_with fail
    refine (C.out _ (keeps_alloc _ _)).mono ?_
    rintro e w1 ⟨rfl, hb1⟩
    obtain ⟨p0, p1, p2, p3⟩ := (X0.out.keep (keeps_below hb1)).keep (keeps_alloc w1 (.cells #[] 5))
    have B1 := Lib.hid (below_box1 hb1)
    clear hb1
    go_wp2_with fail
    refine (D2.out _ _ 0 [] (by omega) (B1.out.alloc B1.out.size _) (World.ownsRow_made w1 #[] 0 B1.out.size (by decide) rfl)).mono ?_
    rintro e w2 ⟨ov, rfl, hrow, hmv⟩
    rw [Nat.zero_add, List.nil_append] at hrow
    have HB2 := Lib.hid (hmv.below (B1.out.alloc B1.out.size _) (World.ownsRow_made (size := 1) w1 #[] 0 B1.out.size (by decide) rfl))
    have hconv := run_string_of_own (P := Tryd.prog) w2 35 9 5 w.heap.size ov xt.size xt.data.toList Tryd.underlying35 Tryd.underlying5 Tryd.underlying9 hrow
    rw [bytes_back] at hconv
    obtain ⟨oa, oc, rfl, _⟩ := row_shape hrow
    clear hrow hmv p0 p1 p2 p3
    go_wp2
    go_ret
    exact ⟨ret_s HR.out.symm, HB2.out⟩
end Go.Proofs.YtokmghhnifdcpaaDoor.Trm
