/-
  What is read of a text, by the program and by the specification, at every text; the laws' own copies of a value.
-/
import Derived.Test.YtdkeinnljbfopadGreatDoorValWalks
namespace Go.Proofs.YtdkeinnljbfopadGreatDoor
open Go.RowKit Go.Extern.Stop Go.Stop Go.Extern
set_option linter.unusedVariables false

theorem extract_all (s : ByteArray) : s.extract 0 s.size = s := by
  cases s; simp [ByteArray.extract, ByteArray.size, ByteArray.copySlice]
theorem iFirstBytes (s : ByteArray) (w : World) (hs : (s.size : Int) ≤ 1048576) :
    Calls Tryz.prog 75 #[.string s] w fun e w' => e = .returned (.string (Vl.cutV s)) ∧ w' = w := by
  by_cases hl : (300 : Int) < s.size
  · rw [Vl.cut_long hl]
    have hm : (min (s.size : Int) 300) = 300 := by omega
    go_enter Tryz.func75, Tryz.ntmps75
    go_wp2
    go_ret
    exact ⟨rfl, rfl⟩
  · rw [Vl.cut_short (by omega)]
    have hl' : (s.size : Int) ≤ 300 := by omega
    have hm : (min (s.size : Int) 300) = s.size := by omega
    clear hl
    go_enter Tryz.func75, Tryz.ntmps75
    go_wp2
    go_ret
    exact ⟨by simp, rfl⟩

set_option maxRecDepth 100000 in
theorem iRead (s : ByteArray) (a : Addr) (w : World) (hc : w.cell? ⟨1, 0, none⟩ = some (.iface 252 (.pointer (some a)))) (hs : (s.size : Int) ≤ 1048576) :
    Calls Tryz.prog 40 #[.string s] w fun e w' => e = .returned (.agg #[.int .i64 (Vl.rdK s), .int .i64 (Vl.rdN s), .string (Vl.cutV s)]) ∧ Below w.heap.size w w' := by
  have call := fun o => iDecLooks (Vl.cutV s) a (w.alloc o) (sent_later hc (below_box (Below.refl _ _) _)) (by have := Vl.cut_size s; unfold maxLen; omega)
  have hf := fun w => iFirstBytes s w hs
  unfold Vl.rdK Vl.rdN
  generalize Vl.cutV s = t at *
  generalize Num.looksV t.data.toList = V at *
  generalize Num.looksB t.data.toList = B at *
  clear hc
  cases B with
  | false =>
    go_enter Tryz.func40, Tryz.ntmps40
    go_wp2_with (first | (go_at_call 75; refine (hf _).mono ?_; rintro e w' ⟨rfl, hw'⟩; have hw' := hw'.symm; subst hw') | (go_at_call 16; refine (call _).mono ?_; rintro e w1 ⟨rfl, hb⟩; obtain ⟨hc, hf⟩ := bcell hb; have hz : w.heap.size < w1.heap.size := by (have := hb.size; simp at this; omega)))
    refine bodyPost_ret (v := .agg #[.int .i64 2, .int .i64 0, .string t]) (by simp [results, Tryz.results40, hc, go_sem]) rfl ⟨rfl, ?_⟩
    repeat (first | refine Below.setCell ?_ (by simp <;> omega) _ | refine Below.alloc ?_ (by simp <;> omega) _)
    exact ((Below.refl _ _).alloc (Nat.le_refl _) _).trans (hb.mono (by simp))
  | true =>
    go_enter Tryz.func40, Tryz.ntmps40
    go_wp2_with (first | (go_at_call 75; refine (hf _).mono ?_; rintro e w' ⟨rfl, hw'⟩; have hw' := hw'.symm; subst hw') | (go_at_call 16; refine (call _).mono ?_; rintro e w1 ⟨rfl, hb⟩; obtain ⟨hc, hf⟩ := bcell hb; have hz : w.heap.size < w1.heap.size := by (have := hb.size; simp at this; omega)))
    refine bodyPost_ret (v := .agg #[.int .i64 3, .int .i64 V, .string t]) (by simp [results, Tryz.results40, hc, go_sem]) rfl ⟨rfl, ?_⟩
    repeat (first | refine Below.setCell ?_ (by simp <;> omega) _ | refine Below.alloc ?_ (by simp <;> omega) _)
    exact ((Below.refl _ _).alloc (Nat.le_refl _) _).trans (hb.mono (by simp))

set_option maxRecDepth 100000 in
theorem sRead (s : ByteArray) (w : World) (hs : (s.size : Int) ≤ 1048576) :
    Calls Tryz.prog 41 #[.string s] w fun e w' => e = .returned (.agg #[.int .i64 (Vl.rdK s), .int .i64 (Vl.rdN s), .string (Vl.cutV s)]) ∧ Below w.heap.size w w' := by
  have call := fun w => sDecLooks (Vl.cutV s) w (by have := Vl.cut_size s; omega)
  unfold Vl.rdK Vl.rdN
  by_cases hl : (300 : Int) < s.size
  · rw [Vl.cut_long hl] at *
    generalize Num.looksV (s.extract 0 300).data.toList = V at *
    generalize Num.looksB (s.extract 0 300).data.toList = B at *
    cases B with
    | false =>
      go_enter Tryz.func41, Tryz.ntmps41
      go_wp2_with (go_at_call 20; refine (call _).mono ?_; rintro e w1 ⟨rfl, hw1⟩; have hw1 := hw1.symm; subst hw1)
      refine bodyPost_ret (v := .agg #[.int .i64 2, .int .i64 0, .string (s.extract 0 300)]) (by simp [results, Tryz.results41, go_sem]) rfl ⟨rfl, ?_⟩
      repeat (first | refine Below.setCell ?_ (by simp <;> omega) _ | refine Below.alloc ?_ (by simp <;> omega) _)
      exact Below.refl _ _
    | true =>
      go_enter Tryz.func41, Tryz.ntmps41
      go_wp2_with (go_at_call 20; refine (call _).mono ?_; rintro e w1 ⟨rfl, hw1⟩; have hw1 := hw1.symm; subst hw1)
      refine bodyPost_ret (v := .agg #[.int .i64 3, .int .i64 V, .string (s.extract 0 300)]) (by simp [results, Tryz.results41, go_sem]) rfl ⟨rfl, ?_⟩
      repeat (first | refine Below.setCell ?_ (by simp <;> omega) _ | refine Below.alloc ?_ (by simp <;> omega) _)
      exact Below.refl _ _
  · rw [Vl.cut_short (by omega)] at *
    have hl' : (s.size : Int) ≤ 300 := by omega
    clear hl
    generalize Num.looksV s.data.toList = V at *
    generalize Num.looksB s.data.toList = B at *
    cases B with
    | false =>
      go_enter Tryz.func41, Tryz.ntmps41
      go_wp2_with (go_at_call 20; refine (call _).mono ?_; rintro e w1 ⟨rfl, hw1⟩; have hw1 := hw1.symm; subst hw1)
      refine bodyPost_ret (v := .agg #[.int .i64 2, .int .i64 0, .string s]) (by simp [results, Tryz.results41, go_sem]) rfl ⟨rfl, ?_⟩
      repeat (first | refine Below.setCell ?_ (by simp <;> omega) _ | refine Below.alloc ?_ (by simp <;> omega) _)
      exact Below.refl _ _
    | true =>
      go_enter Tryz.func41, Tryz.ntmps41
      go_wp2_with (go_at_call 20; refine (call _).mono ?_; rintro e w1 ⟨rfl, hw1⟩; have hw1 := hw1.symm; subst hw1)
      refine bodyPost_ret (v := .agg #[.int .i64 3, .int .i64 V, .string s]) (by simp [results, Tryz.results41, go_sem]) rfl ⟨rfl, ?_⟩
      repeat (first | refine Below.setCell ?_ (by simp <;> omega) _ | refine Below.alloc ?_ (by simp <;> omega) _)
      exact Below.refl _ _

end Go.Proofs.YtdkeinnljbfopadGreatDoor
