/-
  The walks of chapter 6's exact laws.
-/
import Derived.Test.YtdkeinnljbfopamDoorValRead
namespace Go.Proofs.YtdkeinnljbfopamDoor
open Go.RowKit Go.Extern.Stop Go.Stop Go.Extern
set_option linter.unusedVariables false

set_option maxRecDepth 100000 in
theorem lawToNum (k n : Int) (s : ByteArray) (a : Addr) (w : World) (hc : w.cell? ⟨0, 0, none⟩ = some (.iface 133 (.pointer (some a)))) (hs : s.size ≤ maxLen) :
    Calls Tryd.prog 5 #[.agg #[.int .i64 k, .int .i64 n, .string s]] w fun e w' => e = .returned (.bool true) ∧ Below w.heap.size w w' := by
  by_cases hl : (1048576 : Int) < s.size
  · have call := fun w => szVal_far k n s 1048576 w hl (by unfold maxLen at hs; omega) (by omega)
    go_enter Tryd.func5, Tryd.ntmps5
    go_wp2_with (go_at_call 7; refine (call _).mono ?_; rintro e w1 ⟨rfl, hb1⟩)
    go_ret
    exact ⟨rfl, (below_box (Below.refl _ _) _).trans (hb1.mono (by simp))⟩
  · have hl' : (s.size : Int) ≤ 1048576 := by omega
    have call := fun w => szVal_near k n s 1048576 w hl' (by omega)
    have hi := fun (w : World) (h : w.cell? ⟨0, 0, none⟩ = some (.iface 133 (.pointer (some a)))) => iToNum k n s a w h hl'
    have hsp := fun w => sToNum k n s w hl'
    have ht := fun w => toVal_any k n s w
    have h0 : 0 ≤ 1048576 - (s.size : Int) := by omega
    clear hl hs
    generalize Vl.numV k n s = V at *
    go_enter Tryd.func5, Tryd.ntmps5
    go_wp2_with (first | (go_at_call 7; refine (call _).mono ?_; rintro e w1 ⟨rfl, hb1⟩; obtain ⟨hc1, hf1⟩ := bcell hb1; have hz1 : w.heap.size < w1.heap.size := by (have := hb1.size; simp at this; omega)) | (go_at_call 9; refine (ht _).mono ?_; rintro e w2 ⟨rfl, hb2⟩; replace hb1 := hb1.trans (hb2.mono hb1.size); clear hb2; obtain ⟨hc2, hf2⟩ := bcell hb1; have hz2 : w.heap.size < w2.heap.size := by (have := hb1.size; simp at this; omega)) | (go_at_call 14; refine (hsp _).mono ?_; rintro e w2 ⟨rfl, hb2⟩; replace hb1 := hb1.trans (hb2.mono hb1.size); clear hb2; obtain ⟨hc2, hf2⟩ := bcell hb1; have hz2 : w.heap.size < w2.heap.size := by (have := hb1.size; simp at this; omega)) | (go_at_call 15; refine (hi _ (sent_later hc ((below_box (Below.refl _ _) _).trans (hb1.mono (by simp))))).mono ?_; rintro e w2 ⟨rfl, hb2⟩; replace hb1 := hb1.trans (hb2.mono hb1.size); clear hb2; obtain ⟨hc2, hf2⟩ := bcell hb1; have hz2 : w.heap.size < w2.heap.size := by (have := hb1.size; simp at this; omega)))
    go_ret
    exact ⟨rfl, (below_box (Below.refl _ _) _).trans (hb1.mono (by simp))⟩

set_option maxRecDepth 100000 in
theorem lawValOk (k n : Int) (s : ByteArray) (a : Addr) (w : World) (hc : w.cell? ⟨0, 0, none⟩ = some (.iface 133 (.pointer (some a)))) (hs : s.size ≤ maxLen) :
    Calls Tryd.prog 3 #[.agg #[.int .i64 k, .int .i64 n, .string s]] w fun e w' => e = .returned (.bool true) ∧ Below w.heap.size w w' := by
  by_cases hl : (1048576 : Int) < s.size
  · have call := fun w => szVal_far k n s 1048576 w hl (by unfold maxLen at hs; omega) (by omega)
    go_enter Tryd.func3, Tryd.ntmps3
    go_wp2_with (go_at_call 7; refine (call _).mono ?_; rintro e w1 ⟨rfl, hb1⟩)
    go_ret
    exact ⟨rfl, (below_box (Below.refl _ _) _).trans (hb1.mono (by simp))⟩
  · have hl' : (s.size : Int) ≤ 1048576 := by omega
    have call := fun w => szVal_near k n s 1048576 w hl' (by omega)
    have hi := fun (w : World) (h : w.cell? ⟨0, 0, none⟩ = some (.iface 133 (.pointer (some a)))) => iValOk k n s a w h hl'
    have hsp := fun w => sValOk k n s w hl'
    have ht := fun w => toVal_any k n s w
    have h0 : 0 ≤ 1048576 - (s.size : Int) := by omega
    clear hl hs
    generalize Vl.okV k n s = V at *
    go_enter Tryd.func3, Tryd.ntmps3
    go_wp2_with (first | (go_at_call 7; refine (call _).mono ?_; rintro e w1 ⟨rfl, hb1⟩; obtain ⟨hc1, hf1⟩ := bcell hb1; have hz1 : w.heap.size < w1.heap.size := by (have := hb1.size; simp at this; omega)) | (go_at_call 9; refine (ht _).mono ?_; rintro e w2 ⟨rfl, hb2⟩; replace hb1 := hb1.trans (hb2.mono hb1.size); clear hb2; obtain ⟨hc2, hf2⟩ := bcell hb1; have hz2 : w.heap.size < w2.heap.size := by (have := hb1.size; simp at this; omega)) | (go_at_call 8; refine (hsp _).mono ?_; rintro e w2 ⟨rfl, hb2⟩; replace hb1 := hb1.trans (hb2.mono hb1.size); clear hb2; obtain ⟨hc2, hf2⟩ := bcell hb1; have hz2 : w.heap.size < w2.heap.size := by (have := hb1.size; simp at this; omega)) | (go_at_call 10; refine (hi _ (sent_later hc ((below_box (Below.refl _ _) _).trans (hb1.mono (by simp))))).mono ?_; rintro e w2 ⟨rfl, hb2⟩; replace hb1 := hb1.trans (hb2.mono hb1.size); clear hb2; obtain ⟨hc2, hf2⟩ := bcell hb1; have hz2 : w.heap.size < w2.heap.size := by (have := hb1.size; simp at this; omega)))
    go_ret
    exact ⟨rfl, (below_box (Below.refl _ _) _).trans (hb1.mono (by simp))⟩

set_option maxRecDepth 100000 in
theorem lawRead (s : ByteArray) (a : Addr) (w : World) (hc : w.cell? ⟨0, 0, none⟩ = some (.iface 133 (.pointer (some a)))) (hs : s.size ≤ maxLen) :
    Calls Tryd.prog 4 #[.string s] w fun e w' => e = .returned (.bool true) ∧ Below w.heap.size w w' := by
  by_cases hl : (1048576 : Int) < s.size
  · go_enter Tryd.func4, Tryd.ntmps4
    go_wp2
    go_ret
    exact ⟨rfl, Below.refl _ _⟩
  · have hl' : (s.size : Int) ≤ 1048576 := by omega
    have hi := fun (w : World) (h : w.cell? ⟨0, 0, none⟩ = some (.iface 133 (.pointer (some a)))) => iRead s a w h hl'
    have hsp := fun w => sRead s w hl'
    clear hl hs
    generalize Vl.rdK s = K at *
    generalize Vl.rdN s = V at *
    generalize Vl.cutV s = S at *
    go_enter Tryd.func4, Tryd.ntmps4
    go_wp2_with (first | (go_at_call 11; refine (hsp _).mono ?_; rintro e w1 ⟨rfl, hb1⟩) | (go_at_call 12; refine (hi _ (sent_later hc (below_box hb1 _))).mono ?_; rintro e w2 ⟨rfl, hb2⟩; obtain ⟨hc2, hf2⟩ := bcell hb2; have hz2 : w1.heap.size < w2.heap.size := by (have := hb2.size; simp at this; omega)) | (go_at_call 13; go_in))
    go_ret
    exact ⟨rfl, by repeat (first | exact (below_box hb1 _).trans (hb2.mono (by have := hb1.size; simp; omega)) | refine below_box ?_ _)⟩

end Go.Proofs.YtdkeinnljbfopamDoor
