/-
  Walks over chapter 1's functions: the small ones by contracts; the laws of DecOk, DecAdd and DecSub return true at all arguments; memory is as it was.
  DecOk of the program and of the specification, at every argument, in any world that has grown.
  What a node is, and what it has beside its kids: the program's functions.
-/
import Derived.Test.YtjdohfdkkppnpaaGreatDoorP28
import Derived.Deep.QuietTactic
import Derived.BigQuiet
import Derived.Test.YtjdohfdkkppnpaaGreatDoorP01
import Derived.Below
import Derived.Test.YtjdohfdkkppnpaaGreatDoorP04
namespace Go.Proofs.YtjdohfdkkppnpaaGreatDoor
open Go.RowKit Go.Extern.Stop Go.Stop Go.Extern

theorem checked_ok (d : Int) (w : World) (h1 : -9000000000000 ≤ d) (h2 : d ≤ 9000000000000) :
    Calls Tryz.prog 122 #[.int .i64 d] w fun e w' => e = .returned (.tuple #[.int .i64 d, .nilIface]) ∧ w' = w := by
  go_enter Tryz.func122, Tryz.ntmps122
  go_wp2
  go_ret2
  exact ⟨rfl, rfl⟩

theorem checked_bad (d : Int) (a : Addr) (w : World) (hc : w.cell? ⟨3, 0, none⟩ = some (.iface 226 (.pointer (some a)))) (h : d < -9000000000000 ∨ 9000000000000 < d) :
    Calls Tryz.prog 122 #[.int .i64 d] w fun e w' => e = .returned (.tuple #[.int .i64 0, .iface 226 (.pointer (some a))]) ∧ ∃ n, w' = w.drewN n := by
  rcases h with h | h
  · go_enter Tryz.func122, Tryz.ntmps122
    go_wp2
    go_quiet (fail)
    go_wp2
    go_ret2
    exact ⟨rfl, _, rfl⟩
  · have h' : -9000000000000 ≤ d := by omega
    go_enter Tryz.func122, Tryz.ntmps122
    go_wp2
    go_quiet (fail)
    go_wp2
    go_ret2
    exact ⟨rfl, _, rfl⟩

/-- What checked answers, as two functions that the walk does not open. -/
def ckV (d : Int) : Int := if -9000000000000 ≤ d ∧ d ≤ 9000000000000 then d else 0
def ckE (a : Addr) (d : Int) : Value := if -9000000000000 ≤ d ∧ d ≤ 9000000000000 then .nilIface else .iface 226 (.pointer (some a))
theorem ckV_ok {d : Int} (h1 : -9000000000000 ≤ d) (h2 : d ≤ 9000000000000) : ckV d = d := by unfold ckV; rw [if_pos ⟨h1, h2⟩]
theorem ckE_ok (a : Addr) {d : Int} (h1 : -9000000000000 ≤ d) (h2 : d ≤ 9000000000000) : ckE a d = .nilIface := by unfold ckE; rw [if_pos ⟨h1, h2⟩]
theorem ckV_bad {d : Int} (h : d < -9000000000000 ∨ 9000000000000 < d) : ckV d = 0 := by unfold ckV; rw [if_neg (by omega)]
theorem ckE_bad (a : Addr) {d : Int} (h : d < -9000000000000 ∨ 9000000000000 < d) : ckE a d = .iface 226 (.pointer (some a)) := by unfold ckE; rw [if_neg (by omega)]

theorem checked_any (d : Int) (a : Addr) (w : World) (hc : w.cell? ⟨3, 0, none⟩ = some (.iface 226 (.pointer (some a)))) :
    Calls Tryz.prog 122 #[.int .i64 d] w fun e w' => e = .returned (.tuple #[.int .i64 (ckV d), ckE a d]) ∧ ∃ n, w' = w.drewN n := by
  by_cases h : d < -9000000000000 ∨ 9000000000000 < d
  · rw [ckV_bad h, ckE_bad a h]; exact checked_bad d a w hc h
  · rw [ckV_ok (by omega) (by omega), ckE_ok a (by omega) (by omega)]
    exact (checked_ok d w (by omega) (by omega)).mono fun e w' ⟨h1, h2⟩ => ⟨h1, 0, h2⟩



end Go.Proofs.YtjdohfdkkppnpaaGreatDoor

namespace Go.Proofs.YtjdohfdkkppnpaaGreatDoor
open Go.RowKit Go.Extern.Stop Go.Stop Go.Extern

theorem below_drewN {B : Nat} {W w : World} (h : Below B W w) (n : Nat) : Below B W (w.drewN n) := ⟨h.os, h.tape, h.output, h.size, h.block⟩
theorem sDecOk (d : Int) (w : World) : Calls Tryz.prog 73 #[.int .i64 d] w fun r w' => r = .returned (.bool (Dec.okB d)) ∧ w' = w := by
  by_cases h1 : -9000000000000 ≤ d
  · by_cases h2 : d ≤ 9000000000000
    · rw [Dec.okB_true h1 h2]
      go_enter Tryz.func73, Tryz.ntmps73
      go_wp2
      go_ret
      exact ⟨rfl, rfl⟩
    · rw [Dec.okB_false (by omega)]
      have h3 : decide (d ≤ 9000000000000) = false := by simp; omega
      clear h2
      go_enter Tryz.func73, Tryz.ntmps73
      go_wp2
      go_ret
      exact ⟨rfl, rfl⟩
  · rw [Dec.okB_false (by omega)]
    have h3 : d < -9000000000000 := by omega
    clear h1
    go_enter Tryz.func73, Tryz.ntmps73
    go_wp2
    go_ret
    exact ⟨rfl, rfl⟩

theorem iDecOk (x : Int) (a : Addr) (w : World) (hc : w.cell? ⟨3, 0, none⟩ = some (.iface 226 (.pointer (some a)))) :
    Calls Tryz.prog 108 #[.int .i64 x] w fun e w' => e = .returned (.bool (Dec.okB x)) ∧ ∃ n, w' = w.drewN n := by
  cases h : Dec.okB x with
  | true =>
    obtain ⟨h1, h2⟩ := Dec.of_okB h
    clear h
    go_enter Tryz.func108, Tryz.ntmps108
    go_wp2_with (first | (go_at_call 121; refine (told_ok _ a _ ?_).mono ?_; exact hc; rintro e w' ⟨rfl, rfl⟩) | go_in)
    go_ret
    exact ⟨rfl, 0, rfl⟩
  | false =>
    have hE := ckE_bad a (Dec.of_okB_false h)
    clear h
    go_enter Tryz.func108, Tryz.ntmps108
    go_wp2_with (first | (go_at_call 122; refine (checked_any _ a _ ?_).mono ?_; exact hc; rintro e w' ⟨rfl, n, rfl⟩) | (go_at_call 121; refine (told_bad _ a _ ?_).mono ?_; exact hc; rintro e w' ⟨rfl, rfl⟩) | go_in)
    go_ret
    exact ⟨rfl, _, rfl⟩

/-! The same contracts in any world that has grown out of W. -/
theorem sent_later {W w : World} {a : Addr} (hc : W.cell? ⟨3, 0, none⟩ = some (.iface 226 (.pointer (some a)))) (hb : Below W.heap.size W w) : w.cell? ⟨3, 0, none⟩ = some (.iface 226 (.pointer (some a))) := by
  have h0 : 3 < W.heap.size := by
    rcases Nat.lt_or_ge 3 W.heap.size with h | h
    · exact h
    · simp [World.cell?, Array.getElem?_eq_none h] at hc
  rw [hb.cell (p := ⟨3, 0, none⟩) h0]; exact hc
theorem lDecOk (x : Int) (a : Addr) (W w : World) (hc : W.cell? ⟨3, 0, none⟩ = some (.iface 226 (.pointer (some a)))) (hb : Below W.heap.size W w) :
    Calls Tryz.prog 108 #[.int .i64 x] w fun r w' => r = .returned (.bool (Dec.okB x)) ∧ Below W.heap.size W w' := by
  refine (iDecOk x a w (sent_later hc hb)).mono ?_
  rintro r w' ⟨rfl, n, rfl⟩
  exact ⟨rfl, below_drewN hb n⟩
end Go.Proofs.YtjdohfdkkppnpaaGreatDoor

namespace Go.Proofs.YtjdohfdkkppnpaaGreatDoor
open Go.RowKit
namespace Ty
open Nd

theorem iIsE (t : Data) : Tells 81 (fun t => eB (opOf t)) t := by
  intro w a b c u hS hA
  obtain ⟨ao, cap, rfl, rfl, rfl, rfl, -, -⟩ := arg_open hA
  have H : Hid (eB (opOf t) = (decide (1 ≤ opOf t) && decide (opOf t ≤ 28))) := rfl
  have hb : Hid (∀ o, Below w.heap.size w (w.alloc o)) := fun o => (Below.refl _ w).alloc (Nat.le_refl _) _
  clear hA hS
  show Calls _ _ _ _ fun e w' => e = .returned (.bool (eB (opOf t))) ∧ Below w.heap.size w w'
  generalize eB (opOf t) = E at *
  generalize opOf t = op at *
  by_cases h1 : 1 ≤ op <;> by_cases h2 : op ≤ 28
  all_goals
    simp only [h1, h2, decide_true, decide_false] at H
    first
      | omega
      | (go_enter Tryz.func81, Tryz.ntmps81
         go_wp2_with fail
         go_ret
         exact ⟨by rw [H.out]; rfl, hb.out _⟩)

theorem iIsStatement (t : Data) : Tells 136 (fun t => stB (opOf t)) t := by
  intro w a b c u hS hA
  obtain ⟨ao, cap, rfl, rfl, rfl, rfl, -, -⟩ := arg_open hA
  have H : Hid (stB (opOf t) = (decide (29 ≤ opOf t) && decide (opOf t ≤ 35))) := rfl
  have hb : Hid (∀ o, Below w.heap.size w (w.alloc o)) := fun o => (Below.refl _ w).alloc (Nat.le_refl _) _
  clear hA hS
  show Calls _ _ _ _ fun e w' => e = .returned (.bool (stB (opOf t))) ∧ Below w.heap.size w w'
  generalize stB (opOf t) = E at *
  generalize opOf t = op at *
  by_cases h1 : 29 ≤ op <;> by_cases h2 : op ≤ 35
  all_goals
    simp only [h1, h2, decide_true, decide_false] at H
    first
      | omega
      | (go_enter Tryz.func136, Tryz.ntmps136
         go_wp2_with fail
         go_ret
         exact ⟨by rw [H.out]; rfl, hb.out _⟩)

theorem iIsBlock (t : Data) : Tells 78 (fun t => blB (opOf t)) t := by
  intro w a b c u hS hA
  obtain ⟨ao, cap, rfl, rfl, rfl, rfl, -, -⟩ := arg_open hA
  have H : Hid (blB (opOf t) = decide (opOf t = 29)) := rfl
  have hb : Hid (∀ o, Below w.heap.size w (w.alloc o)) := fun o => (Below.refl _ w).alloc (Nat.le_refl _) _
  clear hA hS
  show Calls _ _ _ _ fun e w' => e = .returned (.bool (blB (opOf t))) ∧ Below w.heap.size w w'
  generalize blB (opOf t) = E at *
  generalize opOf t = op at *
  by_cases h1 : op = 29
  · subst h1
    go_enter Tryz.func78, Tryz.ntmps78
    go_wp2_with fail
    go_ret
    exact ⟨by rw [H.out]; rfl, hb.out _⟩
  · have e1 : (op == 29) = false := beq_eq_false_iff_ne.2 h1
    simp only [h1, decide_false] at H
    go_enter Tryz.func78, Tryz.ntmps78
    go_wp2_with fail
    go_ret
    exact ⟨by rw [H.out]; rfl, hb.out _⟩

theorem iIsSettable (t : Data) : Tells 135 (fun t => setB (opOf t)) t := by
  intro w a b c u hS hA
  obtain ⟨ao, cap, rfl, rfl, rfl, rfl, -, -⟩ := arg_open hA
  have H : Hid (setB (opOf t) = (decide (opOf t = 4) || decide (opOf t = 5))) := rfl
  have hb : Hid (∀ o, Below w.heap.size w (w.alloc o)) := fun o => (Below.refl _ w).alloc (Nat.le_refl _) _
  clear hA hS
  show Calls _ _ _ _ fun e w' => e = .returned (.bool (setB (opOf t))) ∧ Below w.heap.size w w'
  generalize setB (opOf t) = E at *
  generalize opOf t = op at *
  by_cases h1 : op = 4
  · subst h1
    go_enter Tryz.func135, Tryz.ntmps135
    go_wp2_with fail
    go_ret
    exact ⟨by rw [H.out]; rfl, hb.out _⟩
  · have e1 : (op == 4) = false := beq_eq_false_iff_ne.2 h1
    by_cases h2 : op = 5
    · subst h2
      go_enter Tryz.func135, Tryz.ntmps135
      go_wp2_with fail
      go_ret
      exact ⟨by rw [H.out]; rfl, hb.out _⟩
    · have e2 : (op == 5) = false := beq_eq_false_iff_ne.2 h2
      simp only [h1, h2, decide_false] at H
      go_enter Tryz.func135, Tryz.ntmps135
      go_wp2_with fail
      go_ret
      exact ⟨by rw [H.out]; rfl, hb.out _⟩

theorem iIsZero (t : Data) : Tells 80 zeroB t := by
  intro w a b c u hS hA
  obtain ⟨ao, cap, rfl, rfl, rfl, rfl, -, -⟩ := arg_open hA
  have H : Hid (zeroB t = (decide (opOf t = 0) && decide (numOf t = 0) && decide (txtOf t = []) && decide (kidsOf t = []))) := rfl
  have hb : Hid (∀ o, Below w.heap.size w (w.alloc o)) := fun o => (Below.refl _ w).alloc (Nat.le_refl _) _
  clear hA hS
  generalize zeroB t = E at *
  have e1 : (opOf t == 0) = decide (opOf t = 0) := by rw [Bool.eq_iff_iff]; simp
  have e2 : (numOf t == 0) = decide (numOf t = 0) := by rw [Bool.eq_iff_iff]; simp
  have e3 : (txtOf t == []) = decide (txtOf t = []) := by rw [Bool.eq_iff_iff]; simp
  obtain ⟨L, hL⟩ : ∃ L, L = (kidsOf t).length := ⟨_, rfl⟩
  have e4 : ((L : Int) == 0) = decide (kidsOf t = []) := by rw [Bool.eq_iff_iff, hL]; simp
  rw [← hL]
  clear hL
  generalize opOf t = op at *
  generalize numOf t = n at *
  generalize txtOf t = s at *
  generalize decide (op = 0) = b1 at *
  generalize decide (n = 0) = b2 at *
  generalize decide (s = []) = b3 at *
  generalize decide (kidsOf t = []) = b4 at *
  cases b1 <;> cases b2 <;> cases b3 <;> cases b4
  all_goals
    go_enter Tryz.func80, Tryz.ntmps80
    go_wp2_with fail
    go_ret
    exact ⟨by rw [H.out]; rfl, hb.out _⟩

end Ty
end Go.Proofs.YtjdohfdkkppnpaaGreatDoor

