/-
  Chapter 6: a value as a truth, by the program and by the specification, at every value; the law's walk.
-/
import Derived.Test.YtdkeinnljbfopamValMath
import Derived.Test.YtdkeinnljbfopamProg
import Derived.WalkKit
import Derived.ProofKit
import Derived.Below
namespace Go.Proofs.Ytdkeinnljbfopam
open Go.RowKit
set_option linter.unusedVariables false

set_option maxRecDepth 100000 in
theorem iTruth (k n : Int) (s : ByteArray) (w : World) :
    Calls Try.prog 7 #[.agg #[.int .i64 k, .int .i64 n, .string s]] w fun e w' => e = .returned (.bool (Vl.truthB k n s)) ∧ Below w.heap.size w w' := by
  by_cases h1 : k = 1
  · subst h1
    rw [Vl.truth1]
    go_enter Try.func7, Try.ntmps7
    go_wp2
    go_ret
    exact ⟨by first | rfl | simp [Vl.mtB], (Below.refl _ _).alloc (Nat.le_refl _) _⟩
  by_cases h3 : k = 3
  · subst h3
    rw [Vl.truth3]
    go_enter Try.func7, Try.ntmps7
    go_wp2
    go_ret
    exact ⟨by first | rfl | simp [Vl.mtB], (Below.refl _ _).alloc (Nat.le_refl _) _⟩
  by_cases h2 : k = 2
  · subst h2
    rw [Vl.truth2]
    go_enter Try.func7, Try.ntmps7
    go_wp2
    go_ret
    exact ⟨by first | rfl | simp [Vl.mtB], (Below.refl _ _).alloc (Nat.le_refl _) _⟩
  · rw [Vl.truth0 h1 h2 h3]
    have e1 : (k == 1) = false := by simp [h1]
    have e2 : (k == 2) = false := by simp [h2]
    have e3 : (k == 3) = false := by simp [h3]
    clear h1 h2 h3
    go_enter Try.func7, Try.ntmps7
    go_wp2
    go_ret
    exact ⟨by first | rfl | simp [Vl.mtB], (Below.refl _ _).alloc (Nat.le_refl _) _⟩

set_option maxRecDepth 100000 in
theorem sTruth (k n : Int) (s : ByteArray) (w : World) :
    Calls Try.prog 5 #[.agg #[.int .i64 k, .int .i64 n, .string s]] w fun e w' => e = .returned (.bool (Vl.truthB k n s)) ∧ Below w.heap.size w w' := by
  by_cases h1 : k = 1
  · subst h1
    rw [Vl.truth1]
    go_enter Try.func5, Try.ntmps5
    go_wp2
    go_ret
    exact ⟨by first | rfl | simp [Vl.mtB], (Below.refl _ _).alloc (Nat.le_refl _) _⟩
  by_cases h3 : k = 3
  · subst h3
    rw [Vl.truth3]
    go_enter Try.func5, Try.ntmps5
    go_wp2
    go_ret
    exact ⟨by first | rfl | simp [Vl.mtB], (Below.refl _ _).alloc (Nat.le_refl _) _⟩
  by_cases h2 : k = 2
  · subst h2
    rw [Vl.truth2]
    go_enter Try.func5, Try.ntmps5
    go_wp2
    go_ret
    exact ⟨by first | rfl | simp [Vl.mtB], (Below.refl _ _).alloc (Nat.le_refl _) _⟩
  · rw [Vl.truth0 h1 h2 h3]
    have e1 : (k == 1) = false := by simp [h1]
    have e2 : (k == 2) = false := by simp [h2]
    have e3 : (k == 3) = false := by simp [h3]
    clear h1 h2 h3
    go_enter Try.func5, Try.ntmps5
    go_wp2
    go_ret
    exact ⟨by first | rfl | simp [Vl.mtB], (Below.refl _ _).alloc (Nat.le_refl _) _⟩

/-- the laws' own copy of a value, and its size -/
theorem tCopy (k n : Int) (s : ByteArray) (w : World) :
    Calls Try.prog 6 #[.agg #[.int .i64 k, .int .i64 n, .string s]] w fun e w' => e = .returned (.agg #[.int .i64 k, .int .i64 n, .string s]) ∧ Below w.heap.size w w' := by
  go_enter Try.func6, Try.ntmps6
  go_wp2
  refine bodyPost_ret (v := .agg #[.int .i64 k, .int .i64 n, .string s]) (by simp [results, Try.results6, go_sem]) rfl ⟨rfl, ?_⟩
  repeat (first | refine Below.setCell ?_ (by simp <;> omega) _ | refine Below.alloc ?_ (by simp <;> omega) _)
  exact Below.refl _ _
theorem tCells {W w1 : World} (hb : Below W.heap.size W w1) : (∀ b o, b < W.heap.size → w1.cell? ⟨b, o, none⟩ = W.cell? ⟨b, o, none⟩) ∧ (∀ b o, b < W.heap.size → w1.frozen? ⟨b, o, none⟩ = W.frozen? ⟨b, o, none⟩) :=
  ⟨fun b o h => hb.cell (p := ⟨b, o, none⟩) h, fun b o h => hb.frozen (p := ⟨b, o, none⟩) h⟩
set_option maxRecDepth 100000 in
theorem lawTruth (k n : Int) (s : ByteArray) (w : World) (hs : s.size ≤ maxLen) :
    Calls Try.prog 3 #[.agg #[.int .i64 k, .int .i64 n, .string s]] w fun e w' => e = .returned (.bool true) ∧ Below w.heap.size w w' := by
  by_cases hl : (1048576 : Int) < s.size
  · have h1 : 1048576 - (s.size : Int) < 0 := by omega
    have h2 : -9223372036854775808 ≤ 1048576 - (s.size : Int) := by unfold maxLen at hs; omega
    clear hs
    go_enter Try.func3, Try.ntmps3
    go_wp2_with (go_at_call 4; go_in)
    go_ret
    exact ⟨rfl, by repeat (first | exact Below.refl _ _ | refine Below.alloc ?_ (by simp <;> omega) _)⟩
  · have hl' : (s.size : Int) ≤ 1048576 := by omega
    have h0 : 0 ≤ 1048576 - (s.size : Int) := by omega
    have hi := fun w => iTruth k n s w
    have hsp := fun w => sTruth k n s w
    have ht := fun w => tCopy k n s w
    clear hl hs
    generalize Vl.truthB k n s = V at *
    go_enter Try.func3, Try.ntmps3
    go_wp2_with (first | (go_at_call 4; go_in) | (go_at_call 6; refine (ht _).mono ?_; rintro e w2 ⟨rfl, hb2⟩; replace hb1 := hb1.trans (hb2.mono hb1.size); clear hb2; obtain ⟨hc2, hf2⟩ := tCells hb1; have hz2 : w.heap.size < w2.heap.size := by (have := hb1.size; simp at this; omega)) | (go_at_call 6; refine (ht _).mono ?_; rintro e w1 ⟨rfl, hb1⟩; obtain ⟨hc1, hf1⟩ := tCells hb1; have hz1 : w.heap.size < w1.heap.size := by (have := hb1.size; simp at this; omega)) | (go_at_call 5; refine (hsp _).mono ?_; rintro e w2 ⟨rfl, hb2⟩; replace hb1 := hb1.trans (hb2.mono hb1.size); clear hb2; obtain ⟨hc2, hf2⟩ := tCells hb1; have hz2 : w.heap.size < w2.heap.size := by (have := hb1.size; simp at this; omega)) | (go_at_call 7; refine (hi _).mono ?_; rintro e w2 ⟨rfl, hb2⟩; replace hb1 := hb1.trans (hb2.mono hb1.size); clear hb2; obtain ⟨hc2, hf2⟩ := tCells hb1; have hz2 : w.heap.size < w2.heap.size := by (have := hb1.size; simp at this; omega)))
    go_ret
    exact ⟨rfl, (((Below.refl _ _).alloc (Nat.le_refl _) _).alloc (by simp) _).trans (hb1.mono (by simp; omega))⟩
end Go.Proofs.Ytdkeinnljbfopam
