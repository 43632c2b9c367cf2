/- The library's question whether a text is in a row of texts, walked. Conditions: the row lies in memory. -/
import Derived.Test.YtmhhghdfgdhljaaIndexImpl
namespace Go.Proofs.Ytmhhghdfgdhljaa.Trm
open Go.RowKit Own
theorem implHas_yes (ns : List ByteArray) (s : ByteArray) (nv : Value) (w : World) (hn : StrsAt w ns nv) (h : s ∈ ns) :
    Calls Try.prog 83 #[nv, .string s] w fun e w' => e = .returned (.bool true) ∧ Hid (w' = w) := by
  have C := Lib.hid (implIndex_any ns s nv w hn)
  obtain ⟨na, nc, rfl, hn1, hn2⟩ := hn
  have HM := Lib.hid h
  clear hn2 h
  go_enter Try.func83, Try.ntmps83
  go_wp2_with fail
  refine C.out.mono ?_
  rintro e w1 ⟨x, rfl, hx, rfl⟩
  rcases hx with ⟨i, hi, rfl, he, hf⟩ | ⟨rfl, hf⟩
  · clear he hf
    go_wp2
    go_ret
    exact ⟨rfl, rfl⟩
  · obtain ⟨j, hj, e⟩ := List.mem_iff_getElem.1 HM.out
    exact absurd e (hf j hj)
theorem implHas_no (ns : List ByteArray) (s : ByteArray) (nv : Value) (w : World) (hn : StrsAt w ns nv) (h : ¬ s ∈ ns) :
    Calls Try.prog 83 #[nv, .string s] w fun e w' => e = .returned (.bool false) ∧ Hid (w' = w) := by
  have C := Lib.hid (implIndex_any ns s nv w hn)
  obtain ⟨na, nc, rfl, hn1, hn2⟩ := hn
  have HM := Lib.hid h
  clear hn2 h
  go_enter Try.func83, Try.ntmps83
  go_wp2_with fail
  refine C.out.mono ?_
  rintro e w1 ⟨x, rfl, hx, rfl⟩
  rcases hx with ⟨i, hi, rfl, he, hf⟩ | ⟨rfl, hf⟩
  · exact absurd (he ▸ List.getElem_mem hi) HM.out
  · clear hf
    go_wp2
    go_ret
    exact ⟨rfl, rfl⟩
end Go.Proofs.Ytmhhghdfgdhljaa.Trm
