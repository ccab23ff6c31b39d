/-
  Compare of the specification, at every two values.
-/
import Derived.Test.YtdkeinnljbfopadGreatDoorValCmpI
import Derived.Deep.RegionHeld3
namespace Go.Proofs.YtdkeinnljbfopadGreatDoor
open Go.RowKit Go.Extern.Stop Go.Stop Go.Extern
set_option linter.unusedVariables false

set_option maxHeartbeats 40000000 in
set_option maxRecDepth 100000 in
theorem sCompare (k n : Int) (s : ByteArray) (k1 n1 : Int) (s1 : ByteArray) (w : World) (hs : (s.size : Int) ≤ 1048576) (hs1 : (s1.size : Int) ≤ 1048576) :
    Calls Tryz.prog 30 #[.agg #[.int .i64 k, .int .i64 n, .string s], .agg #[.int .i64 k1, .int .i64 n1, .string s1]] w fun e w' => e = .returned (.int .i64 (Vl.cmpV k n s k1 n1 s1)) ∧ Below w.heap.size w w' := by
  have c0 : ∀ wx : World, Below ((w.alloc (.cells #[.int .i64 k, .int .i64 n, .string s] 45)).alloc (.cells #[.int .i64 k1, .int .i64 n1, .string s1] 45)).heap.size ((w.alloc (.cells #[.int .i64 k, .int .i64 n, .string s] 45)).alloc (.cells #[.int .i64 k1, .int .i64 n1, .string s1] 45)) wx → Calls Tryz.prog 36 #[.agg #[.int .i64 k, .int .i64 n, .string s]] wx fun e w' => e = .returned (.string (Vl.textV k n s)) ∧ Below ((w.alloc (.cells #[.int .i64 k, .int .i64 n, .string s] 45)).alloc (.cells #[.int .i64 k1, .int .i64 n1, .string s1] 45)).heap.size ((w.alloc (.cells #[.int .i64 k, .int .i64 n, .string s] 45)).alloc (.cells #[.int .i64 k1, .int .i64 n1, .string s1] 45)) w' := fun wx h => ((sToText k n s wx hs).mono fun e w' ⟨he, hb⟩ => ⟨he, h.trans (hb.mono h.size)⟩)
  have c1 : ∀ wx : World, Below ((w.alloc (.cells #[.int .i64 k, .int .i64 n, .string s] 45)).alloc (.cells #[.int .i64 k1, .int .i64 n1, .string s1] 45)).heap.size ((w.alloc (.cells #[.int .i64 k, .int .i64 n, .string s] 45)).alloc (.cells #[.int .i64 k1, .int .i64 n1, .string s1] 45)) wx → Calls Tryz.prog 36 #[.agg #[.int .i64 k1, .int .i64 n1, .string s1]] wx fun e w' => e = .returned (.string (Vl.textV k1 n1 s1)) ∧ Below ((w.alloc (.cells #[.int .i64 k, .int .i64 n, .string s] 45)).alloc (.cells #[.int .i64 k1, .int .i64 n1, .string s1] 45)).heap.size ((w.alloc (.cells #[.int .i64 k, .int .i64 n, .string s] 45)).alloc (.cells #[.int .i64 k1, .int .i64 n1, .string s1] 45)) w' := fun wx h => ((sToText k1 n1 s1 wx hs1).mono fun e w' ⟨he, hb⟩ => ⟨he, h.trans (hb.mono h.size)⟩)
  have d0 : ∀ wx : World, Below ((w.alloc (.cells #[.int .i64 k, .int .i64 n, .string s] 45)).alloc (.cells #[.int .i64 k1, .int .i64 n1, .string s1] 45)).heap.size ((w.alloc (.cells #[.int .i64 k, .int .i64 n, .string s] 45)).alloc (.cells #[.int .i64 k1, .int .i64 n1, .string s1] 45)) wx → Calls Tryz.prog 34 #[.agg #[.int .i64 k, .int .i64 n, .string s]] wx fun e w' => e = .returned (.int .i64 (Vl.numV k n s)) ∧ Below ((w.alloc (.cells #[.int .i64 k, .int .i64 n, .string s] 45)).alloc (.cells #[.int .i64 k1, .int .i64 n1, .string s1] 45)).heap.size ((w.alloc (.cells #[.int .i64 k, .int .i64 n, .string s] 45)).alloc (.cells #[.int .i64 k1, .int .i64 n1, .string s1] 45)) w' := fun wx h => ((sToNum k n s wx hs).mono fun e w' ⟨he, hb⟩ => ⟨he, h.trans (hb.mono h.size)⟩)
  have d1 : ∀ wx : World, Below ((w.alloc (.cells #[.int .i64 k, .int .i64 n, .string s] 45)).alloc (.cells #[.int .i64 k1, .int .i64 n1, .string s1] 45)).heap.size ((w.alloc (.cells #[.int .i64 k, .int .i64 n, .string s] 45)).alloc (.cells #[.int .i64 k1, .int .i64 n1, .string s1] 45)) wx → Calls Tryz.prog 34 #[.agg #[.int .i64 k1, .int .i64 n1, .string s1]] wx fun e w' => e = .returned (.int .i64 (Vl.numV k1 n1 s1)) ∧ Below ((w.alloc (.cells #[.int .i64 k, .int .i64 n, .string s] 45)).alloc (.cells #[.int .i64 k1, .int .i64 n1, .string s1] 45)).heap.size ((w.alloc (.cells #[.int .i64 k, .int .i64 n, .string s] 45)).alloc (.cells #[.int .i64 k1, .int .i64 n1, .string s1] 45)) w' := fun wx h => ((sToNum k1 n1 s1 wx hs1).mono fun e w' ⟨he, hb⟩ => ⟨he, h.trans (hb.mono h.size)⟩)
  have hS : ∀ w' : World, Below ((w.alloc (.cells #[.int .i64 k, .int .i64 n, .string s] 45)).alloc (.cells #[.int .i64 k1, .int .i64 n1, .string s1] 45)).heap.size ((w.alloc (.cells #[.int .i64 k, .int .i64 n, .string s] 45)).alloc (.cells #[.int .i64 k1, .int .i64 n1, .string s1] 45)) w' → (Below ((w.alloc (.cells #[.int .i64 k, .int .i64 n, .string s] 45)).alloc (.cells #[.int .i64 k1, .int .i64 n1, .string s1] 45)).heap.size ((w.alloc (.cells #[.int .i64 k, .int .i64 n, .string s] 45)).alloc (.cells #[.int .i64 k1, .int .i64 n1, .string s1] 45)) w' ∧ w'.cell? ⟨w.heap.size, 0, none⟩ = some (.int .i64 k) ∧ w'.cell? ⟨w.heap.size, 1, none⟩ = some (.int .i64 n) ∧ w'.cell? ⟨w.heap.size, 2, none⟩ = some (.string s) ∧ w'.cell? ⟨w.heap.size + 1, 0, none⟩ = some (.int .i64 k1) ∧ w'.cell? ⟨w.heap.size + 1, 1, none⟩ = some (.int .i64 n1) ∧ w'.cell? ⟨w.heap.size + 1, 2, none⟩ = some (.string s1)) := fun w' h => by
    obtain ⟨h1, h2⟩ := bcell h
    refine ⟨h, ?_, ?_, ?_, ?_, ?_, ?_⟩ <;> (rw [h1 _ _ (by simp; try omega)]; simp)
  have hg := gtr_str
  unfold Vl.cmpV
  obtain ⟨R, hR⟩ : ∃ R, R = (if k = 2 ∨ k1 = 2 then Vl.cmpS (Vl.textV k n s) (Vl.textV k1 n1 s1) else Vl.cmpI (Vl.numV k n s) (Vl.numV k1 n1 s1)) := ⟨_, rfl⟩
  rw [← hR]
  generalize Vl.textV k n s = T at *
  generalize Vl.textV k1 n1 s1 = T1 at *
  generalize Vl.numV k n s = N at *
  generalize Vl.numV k1 n1 s1 = N1 at *
  go_enter Tryz.func30, Tryz.ntmps30
  go_upto_region 1 with fail
  go_cut [5, 6] (fun v u wx => v = .bool (Op.bytesLess T.toList T1.toList) ∧ u = .bool (!(Op.bytesLess T.toList T1.toList || T.toList == T1.toList)) ∧ Below ((w.alloc (.cells #[.int .i64 k, .int .i64 n, .string s] 45)).alloc (.cells #[.int .i64 k1, .int .i64 n1, .string s1] 45)).heap.size ((w.alloc (.cells #[.int .i64 k, .int .i64 n, .string s] 45)).alloc (.cells #[.int .i64 k1, .int .i64 n1, .string s1] 45)) wx)
  case first =>
    go_region_held3 (fun w' => Below ((w.alloc (.cells #[.int .i64 k, .int .i64 n, .string s] 45)).alloc (.cells #[.int .i64 k1, .int .i64 n1, .string s1] 45)).heap.size ((w.alloc (.cells #[.int .i64 k, .int .i64 n, .string s] 45)).alloc (.cells #[.int .i64 k1, .int .i64 n1, .string s1] 45)) w' ∧ w'.cell? ⟨w.heap.size, 0, none⟩ = some (.int .i64 k) ∧ w'.cell? ⟨w.heap.size, 1, none⟩ = some (.int .i64 n) ∧ w'.cell? ⟨w.heap.size, 2, none⟩ = some (.string s) ∧ w'.cell? ⟨w.heap.size + 1, 0, none⟩ = some (.int .i64 k1) ∧ w'.cell? ⟨w.heap.size + 1, 1, none⟩ = some (.int .i64 n1) ∧ w'.cell? ⟨w.heap.size + 1, 2, none⟩ = some (.string s1)) (first | exact hS _ (by assumption) | exact hS _ (below_drew1 (by first | assumption | exact Below.refl _ _))) (first | (go_at_call 36; with_reducible refine (c0 _ ?_).mono ?_; (first | assumption | exact And.left (by assumption)); rintro e w2 ⟨rfl, hb2⟩) | (go_at_call 36; with_reducible refine (c1 _ ?_).mono ?_; (first | assumption | exact And.left (by assumption)); rintro e w2 ⟨rfl, hb2⟩))
    all_goals
      go_wp2_with fail
      go_meet
      exact ⟨rfl, by simp, by first | assumption | exact And.left (by assumption)⟩
  case rest =>
    obtain ⟨rfl, rfl, hb⟩ := hcut
    obtain ⟨hw1, g0, g1, g2, g3, g4, g5⟩ := hS _ hb
    clear c0 c1
    by_cases h : k = 2 ∨ k1 = 2
    · rw [if_pos h] at hR
      clear d0 d1
      have hkk : ((k != 2) = false ∨ ((k != 2) = true ∧ (k1 != 2) = false)) := by
        by_cases h2 : k = 2
        · exact .inl (by simp [h2])
        · exact .inr ⟨by simp [h2], by rcases h with h | h <;> simp_all⟩
      clear h
      cases hL : Op.bytesLess T.toList T1.toList with
      | true =>
        rcases hkk with h | ⟨h, h'⟩
        all_goals
          go_wp2_with (go_at_call 73; go_in)
          go_ret
          exact ⟨by rw [hR]; simp [Vl.cmpS, hL], below_on hb⟩
      | false =>
        cases hE : (T.toList == T1.toList) with
        | true =>
          rcases hkk with h | ⟨h, h'⟩
          all_goals
            go_wp2_with (go_at_call 73; go_in)
            go_ret
            exact ⟨by rw [hR]; simp [Vl.cmpS, hL, hE], below_on hb⟩
        | false =>
          rcases hkk with h | ⟨h, h'⟩
          all_goals
            go_wp2_with (go_at_call 73; go_in)
            go_ret
            exact ⟨by rw [hR]; simp [Vl.cmpS, hL, hE], below_on hb⟩
    · rw [if_neg h] at hR
      have e : (k != 2) = true := by simp; intro h2; exact h (.inl h2)
      have e1 : (k1 != 2) = true := by simp; intro h2; exact h (.inr h2)
      clear h
      go_wp2_with fail
      go_region_held3 (fun w' => Below ((w.alloc (.cells #[.int .i64 k, .int .i64 n, .string s] 45)).alloc (.cells #[.int .i64 k1, .int .i64 n1, .string s1] 45)).heap.size ((w.alloc (.cells #[.int .i64 k, .int .i64 n, .string s] 45)).alloc (.cells #[.int .i64 k1, .int .i64 n1, .string s1] 45)) w' ∧ w'.cell? ⟨w.heap.size, 0, none⟩ = some (.int .i64 k) ∧ w'.cell? ⟨w.heap.size, 1, none⟩ = some (.int .i64 n) ∧ w'.cell? ⟨w.heap.size, 2, none⟩ = some (.string s) ∧ w'.cell? ⟨w.heap.size + 1, 0, none⟩ = some (.int .i64 k1) ∧ w'.cell? ⟨w.heap.size + 1, 1, none⟩ = some (.int .i64 n1) ∧ w'.cell? ⟨w.heap.size + 1, 2, none⟩ = some (.string s1)) (first | exact hS _ (by assumption) | exact hS _ (below_drew1 (by first | assumption | exact Below.refl _ _))) (first | (go_at_call 34; with_reducible refine (d0 _ ?_).mono ?_; (first | assumption | exact And.left (by assumption)); rintro e w2 ⟨rfl, hb2⟩) | (go_at_call 34; with_reducible refine (d1 _ ?_).mono ?_; (first | assumption | exact And.left (by assumption)); rintro e w2 ⟨rfl, hb2⟩))
      go_wp2_with fail
      go_region_held3 (fun w' => Below ((w.alloc (.cells #[.int .i64 k, .int .i64 n, .string s] 45)).alloc (.cells #[.int .i64 k1, .int .i64 n1, .string s1] 45)).heap.size ((w.alloc (.cells #[.int .i64 k, .int .i64 n, .string s] 45)).alloc (.cells #[.int .i64 k1, .int .i64 n1, .string s1] 45)) w' ∧ w'.cell? ⟨w.heap.size, 0, none⟩ = some (.int .i64 k) ∧ w'.cell? ⟨w.heap.size, 1, none⟩ = some (.int .i64 n) ∧ w'.cell? ⟨w.heap.size, 2, none⟩ = some (.string s) ∧ w'.cell? ⟨w.heap.size + 1, 0, none⟩ = some (.int .i64 k1) ∧ w'.cell? ⟨w.heap.size + 1, 1, none⟩ = some (.int .i64 n1) ∧ w'.cell? ⟨w.heap.size + 1, 2, none⟩ = some (.string s1)) (first | exact hS _ (by assumption) | exact hS _ (below_drew1 (by first | assumption | exact Below.refl _ _))) (first | (go_at_call 34; with_reducible refine (d0 _ ?_).mono ?_; (first | assumption | exact And.left (by assumption)); rintro e w2 ⟨rfl, hb2⟩) | (go_at_call 34; with_reducible refine (d1 _ ?_).mono ?_; (first | assumption | exact And.left (by assumption)); rintro e w2 ⟨rfl, hb2⟩))
      by_cases hl : N < N1
      · go_wp2_with (go_at_call 73; go_in)
        go_ret
        exact ⟨by first | (rw [hR]; simp [Vl.cmpI, hl]) | simp [Vl.cmpI, hl], below_on (by first | assumption | exact And.left (by assumption))⟩
      · have hl' : decide (N < N1) = false := by simpa using hl
        by_cases hm : N1 < N
        · go_wp2_with (go_at_call 73; go_in)
          go_ret
          exact ⟨by first | (rw [hR]; simp [Vl.cmpI, hl, hm]) | simp [Vl.cmpI, hl, hm], below_on (by first | assumption | exact And.left (by assumption))⟩
        · have hm' : decide (N1 < N) = false := by simpa using hm
          rw [show Vl.cmpI N N1 = 0 by simp [Vl.cmpI, hl, hm]] at hR
          subst hR
          obtain rfl : N = N1 := by omega
          clear hl hm hl' hm'
          go_wp2_with (go_at_call 73; go_in)
          go_ret
          exact ⟨by first | rfl | simp, below_on (by first | assumption | exact And.left (by assumption))⟩
end Go.Proofs.YtdkeinnljbfopadGreatDoor
