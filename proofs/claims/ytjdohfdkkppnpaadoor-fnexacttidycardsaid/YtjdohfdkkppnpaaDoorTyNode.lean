/-
  What a node is, and what it has beside its kids: the program's functions.
-/
import Derived.Test.YtjdohfdkkppnpaaDoorTyWordD
import Derived.Test.YtjdohfdkkppnpaaDoorTySize
import Derived.Test.YtjdohfdkkppnpaaDoorDecBase
namespace Go.Proofs.YtjdohfdkkppnpaaDoor
open Go.RowKit
namespace Ty
open Nd

theorem iIsE (t : Data) : Tells 29 (fun t => eB (opOf t)) t := by
  intro w a b c u hS hA
  obtain ⟨ao, cap, rfl, rfl, rfl, rfl, -, -⟩ := arg_open hA
  have H : Hid (eB (opOf t) = (decide (1 ≤ opOf t) && decide (opOf t ≤ 28))) := rfl
  have hb : Hid (∀ o, Below w.heap.size w (w.alloc o)) := fun o => (Below.refl _ w).alloc (Nat.le_refl _) _
  clear hA hS
  show Calls _ _ _ _ fun e w' => e = .returned (.bool (eB (opOf t))) ∧ Below w.heap.size w w'
  generalize eB (opOf t) = E at *
  generalize opOf t = op at *
  by_cases h1 : 1 ≤ op <;> by_cases h2 : op ≤ 28
  all_goals
    simp only [h1, h2, decide_true, decide_false] at H
    first
      | omega
      | (go_enter Tryd.func29, Tryd.ntmps29
         go_wp2_with fail
         go_ret
         exact ⟨by rw [H.out]; rfl, hb.out _⟩)

theorem iIsStatement (t : Data) : Tells 50 (fun t => stB (opOf t)) t := by
  intro w a b c u hS hA
  obtain ⟨ao, cap, rfl, rfl, rfl, rfl, -, -⟩ := arg_open hA
  have H : Hid (stB (opOf t) = (decide (29 ≤ opOf t) && decide (opOf t ≤ 35))) := rfl
  have hb : Hid (∀ o, Below w.heap.size w (w.alloc o)) := fun o => (Below.refl _ w).alloc (Nat.le_refl _) _
  clear hA hS
  show Calls _ _ _ _ fun e w' => e = .returned (.bool (stB (opOf t))) ∧ Below w.heap.size w w'
  generalize stB (opOf t) = E at *
  generalize opOf t = op at *
  by_cases h1 : 29 ≤ op <;> by_cases h2 : op ≤ 35
  all_goals
    simp only [h1, h2, decide_true, decide_false] at H
    first
      | omega
      | (go_enter Tryd.func50, Tryd.ntmps50
         go_wp2_with fail
         go_ret
         exact ⟨by rw [H.out]; rfl, hb.out _⟩)

theorem iIsBlock (t : Data) : Tells 26 (fun t => blB (opOf t)) t := by
  intro w a b c u hS hA
  obtain ⟨ao, cap, rfl, rfl, rfl, rfl, -, -⟩ := arg_open hA
  have H : Hid (blB (opOf t) = decide (opOf t = 29)) := rfl
  have hb : Hid (∀ o, Below w.heap.size w (w.alloc o)) := fun o => (Below.refl _ w).alloc (Nat.le_refl _) _
  clear hA hS
  show Calls _ _ _ _ fun e w' => e = .returned (.bool (blB (opOf t))) ∧ Below w.heap.size w w'
  generalize blB (opOf t) = E at *
  generalize opOf t = op at *
  by_cases h1 : op = 29
  · subst h1
    go_enter Tryd.func26, Tryd.ntmps26
    go_wp2_with fail
    go_ret
    exact ⟨by rw [H.out]; rfl, hb.out _⟩
  · have e1 : (op == 29) = false := beq_eq_false_iff_ne.2 h1
    simp only [h1, decide_false] at H
    go_enter Tryd.func26, Tryd.ntmps26
    go_wp2_with fail
    go_ret
    exact ⟨by rw [H.out]; rfl, hb.out _⟩

theorem iIsSettable (t : Data) : Tells 49 (fun t => setB (opOf t)) t := by
  intro w a b c u hS hA
  obtain ⟨ao, cap, rfl, rfl, rfl, rfl, -, -⟩ := arg_open hA
  have H : Hid (setB (opOf t) = (decide (opOf t = 4) || decide (opOf t = 5))) := rfl
  have hb : Hid (∀ o, Below w.heap.size w (w.alloc o)) := fun o => (Below.refl _ w).alloc (Nat.le_refl _) _
  clear hA hS
  show Calls _ _ _ _ fun e w' => e = .returned (.bool (setB (opOf t))) ∧ Below w.heap.size w w'
  generalize setB (opOf t) = E at *
  generalize opOf t = op at *
  by_cases h1 : op = 4
  · subst h1
    go_enter Tryd.func49, Tryd.ntmps49
    go_wp2_with fail
    go_ret
    exact ⟨by rw [H.out]; rfl, hb.out _⟩
  · have e1 : (op == 4) = false := beq_eq_false_iff_ne.2 h1
    by_cases h2 : op = 5
    · subst h2
      go_enter Tryd.func49, Tryd.ntmps49
      go_wp2_with fail
      go_ret
      exact ⟨by rw [H.out]; rfl, hb.out _⟩
    · have e2 : (op == 5) = false := beq_eq_false_iff_ne.2 h2
      simp only [h1, h2, decide_false] at H
      go_enter Tryd.func49, Tryd.ntmps49
      go_wp2_with fail
      go_ret
      exact ⟨by rw [H.out]; rfl, hb.out _⟩

theorem iIsZero (t : Data) : Tells 28 zeroB t := by
  intro w a b c u hS hA
  obtain ⟨ao, cap, rfl, rfl, rfl, rfl, -, -⟩ := arg_open hA
  have H : Hid (zeroB t = (decide (opOf t = 0) && decide (numOf t = 0) && decide (txtOf t = []) && decide (kidsOf t = []))) := rfl
  have hb : Hid (∀ o, Below w.heap.size w (w.alloc o)) := fun o => (Below.refl _ w).alloc (Nat.le_refl _) _
  clear hA hS
  generalize zeroB t = E at *
  have e1 : (opOf t == 0) = decide (opOf t = 0) := by rw [Bool.eq_iff_iff]; simp
  have e2 : (numOf t == 0) = decide (numOf t = 0) := by rw [Bool.eq_iff_iff]; simp
  have e3 : (txtOf t == []) = decide (txtOf t = []) := by rw [Bool.eq_iff_iff]; simp
  obtain ⟨L, hL⟩ : ∃ L, L = (kidsOf t).length := ⟨_, rfl⟩
  have e4 : ((L : Int) == 0) = decide (kidsOf t = []) := by rw [Bool.eq_iff_iff, hL]; simp
  rw [← hL]
  clear hL
  generalize opOf t = op at *
  generalize numOf t = n at *
  generalize txtOf t = s at *
  generalize decide (op = 0) = b1 at *
  generalize decide (n = 0) = b2 at *
  generalize decide (s = []) = b3 at *
  generalize decide (kidsOf t = []) = b4 at *
  cases b1 <;> cases b2 <;> cases b3 <;> cases b4
  all_goals
    go_enter Tryd.func28, Tryd.ntmps28
    go_wp2_with fail
    go_ret
    exact ⟨by rw [H.out]; rfl, hb.out _⟩

end Ty
end Go.Proofs.YtjdohfdkkppnpaaDoor
