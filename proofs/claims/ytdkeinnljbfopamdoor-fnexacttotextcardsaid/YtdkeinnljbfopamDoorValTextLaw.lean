/-
  The walk of FnExactToText.
-/
import Derived.Test.YtdkeinnljbfopamDoorValText
namespace Go.Proofs.YtdkeinnljbfopamDoor
open Go.RowKit Go.Extern.Stop Go.Stop Go.Extern
set_option linter.unusedVariables false

set_option maxRecDepth 100000 in
theorem lawToText (k n : Int) (s : ByteArray) (a : Addr) (w : World) (hc : w.cell? ⟨0, 0, none⟩ = some (.iface 133 (.pointer (some a)))) (hT : Lib.TabIs Tryd.prog w "internal/strconv.uint64pow10" .u64 Lib.pow10Tab) (hs : s.size ≤ maxLen) :
    Calls Tryd.prog 6 #[.agg #[.int .i64 k, .int .i64 n, .string s]] w fun e w' => e = .returned (.bool true) ∧ Below w.heap.size w w' := by
  by_cases hl : (1048576 : Int) < s.size
  · have call := fun w => szVal_far k n s 1048576 w hl (by unfold maxLen at hs; omega) (by omega)
    go_enter Tryd.func6, Tryd.ntmps6
    go_wp2_with (go_at_call 7; refine (call _).mono ?_; rintro e w1 ⟨rfl, hb1⟩)
    go_ret
    exact ⟨rfl, (below_box (Below.refl _ _) _).trans (hb1.mono (by simp))⟩
  · have hl' : (s.size : Int) ≤ 1048576 := by omega
    have call := fun w => szVal_near k n s 1048576 w hl' (by omega)
    have hi := fun (w : World) (h : w.cell? ⟨0, 0, none⟩ = some (.iface 133 (.pointer (some a)))) (t : Lib.TabIs Tryd.prog w "internal/strconv.uint64pow10" .u64 Lib.pow10Tab) => iToText k n s a w h t hl'
    have hsp := fun w => sToText k n s w hl'
    have ht := fun w => toVal_any k n s w
    have h0 : 0 ≤ 1048576 - (s.size : Int) := by omega
    clear hl hs
    generalize Vl.textV k n s = V at *
    go_enter Tryd.func6, Tryd.ntmps6
    go_wp2_with (first | (go_at_call 7; refine (call _).mono ?_; rintro e w1 ⟨rfl, hb1⟩; obtain ⟨hc1, hf1⟩ := bcell hb1; have hz1 : w.heap.size < w1.heap.size := by (have := hb1.size; simp at this; omega)) | (go_at_call 9; refine (ht _).mono ?_; rintro e w2 ⟨rfl, hb2⟩; replace hb1 := hb1.trans (hb2.mono hb1.size); clear hb2; obtain ⟨hc2, hf2⟩ := bcell hb1; have hz2 : w.heap.size < w2.heap.size := by (have := hb1.size; simp at this; omega)) | (go_at_call 16; refine (hsp _).mono ?_; rintro e w2 ⟨rfl, hb2⟩; replace hb1 := hb1.trans (hb2.mono hb1.size); clear hb2; obtain ⟨hc2, hf2⟩ := bcell hb1; have hz2 : w.heap.size < w2.heap.size := by (have := hb1.size; simp at this; omega)) | (go_at_call 17; refine (hi _ (sent_later hc ((below_box (Below.refl _ _) _).trans (hb1.mono (by simp)))) (tab_later hT ((below_box (Below.refl _ _) _).trans (hb1.mono (by simp))))).mono ?_; rintro e w2 ⟨rfl, hb2⟩; replace hb1 := hb1.trans (hb2.mono hb1.size); clear hb2; obtain ⟨hc2, hf2⟩ := bcell hb1; have hz2 : w.heap.size < w2.heap.size := by (have := hb1.size; simp at this; omega)))
    go_ret
    exact ⟨rfl, (below_box (Below.refl _ _) _).trans (hb1.mono (by simp))⟩

end Go.Proofs.YtdkeinnljbfopamDoor
