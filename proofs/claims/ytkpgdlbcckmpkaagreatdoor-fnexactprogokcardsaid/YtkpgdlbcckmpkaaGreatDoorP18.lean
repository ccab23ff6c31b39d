/-
  Walks over chapter 1's functions: the small ones by contracts; the laws of DecOk, DecAdd and DecSub return true at all arguments; memory is as it was.
  DecOk of the program and of the specification, at every argument, in any world that has grown.
-/
import Derived.Test.YtkpgdlbcckmpkaaGreatDoorP17
import Derived.Deep.QuietTactic
import Derived.BigQuiet
import Derived.Test.YtkpgdlbcckmpkaaGreatDoorP06
import Derived.Below
namespace Go.Proofs.YtkpgdlbcckmpkaaGreatDoor
open Go.RowKit Go.Extern.Stop Go.Stop Go.Extern

theorem checked_ok (d : Int) (w : World) (h1 : -9000000000000 ≤ d) (h2 : d ≤ 9000000000000) :
    Calls Tryz.prog 60 #[.int .i64 d] w fun e w' => e = .returned (.tuple #[.int .i64 d, .nilIface]) ∧ w' = w := by
  go_enter Tryz.func60, Tryz.ntmps60
  go_wp2
  go_ret2
  exact ⟨rfl, rfl⟩

theorem checked_bad (d : Int) (a : Addr) (w : World) (hc : w.cell? ⟨1, 0, none⟩ = some (.iface 171 (.pointer (some a)))) (h : d < -9000000000000 ∨ 9000000000000 < d) :
    Calls Tryz.prog 60 #[.int .i64 d] w fun e w' => e = .returned (.tuple #[.int .i64 0, .iface 171 (.pointer (some a))]) ∧ ∃ n, w' = w.drewN n := by
  rcases h with h | h
  · go_enter Tryz.func60, Tryz.ntmps60
    go_wp2
    go_quiet (fail)
    go_wp2
    go_ret2
    exact ⟨rfl, _, rfl⟩
  · have h' : -9000000000000 ≤ d := by omega
    go_enter Tryz.func60, Tryz.ntmps60
    go_wp2
    go_quiet (fail)
    go_wp2
    go_ret2
    exact ⟨rfl, _, rfl⟩

/-- What checked answers, as two functions that the walk does not open. -/
def ckV (d : Int) : Int := if -9000000000000 ≤ d ∧ d ≤ 9000000000000 then d else 0
def ckE (a : Addr) (d : Int) : Value := if -9000000000000 ≤ d ∧ d ≤ 9000000000000 then .nilIface else .iface 171 (.pointer (some a))
theorem ckV_ok {d : Int} (h1 : -9000000000000 ≤ d) (h2 : d ≤ 9000000000000) : ckV d = d := by unfold ckV; rw [if_pos ⟨h1, h2⟩]
theorem ckE_ok (a : Addr) {d : Int} (h1 : -9000000000000 ≤ d) (h2 : d ≤ 9000000000000) : ckE a d = .nilIface := by unfold ckE; rw [if_pos ⟨h1, h2⟩]
theorem ckV_bad {d : Int} (h : d < -9000000000000 ∨ 9000000000000 < d) : ckV d = 0 := by unfold ckV; rw [if_neg (by omega)]
theorem ckE_bad (a : Addr) {d : Int} (h : d < -9000000000000 ∨ 9000000000000 < d) : ckE a d = .iface 171 (.pointer (some a)) := by unfold ckE; rw [if_neg (by omega)]

theorem checked_any (d : Int) (a : Addr) (w : World) (hc : w.cell? ⟨1, 0, none⟩ = some (.iface 171 (.pointer (some a)))) :
    Calls Tryz.prog 60 #[.int .i64 d] w fun e w' => e = .returned (.tuple #[.int .i64 (ckV d), ckE a d]) ∧ ∃ n, w' = w.drewN n := by
  by_cases h : d < -9000000000000 ∨ 9000000000000 < d
  · rw [ckV_bad h, ckE_bad a h]; exact checked_bad d a w hc h
  · rw [ckV_ok (by omega) (by omega), ckE_ok a (by omega) (by omega)]
    exact (checked_ok d w (by omega) (by omega)).mono fun e w' ⟨h1, h2⟩ => ⟨h1, 0, h2⟩



end Go.Proofs.YtkpgdlbcckmpkaaGreatDoor

namespace Go.Proofs.YtkpgdlbcckmpkaaGreatDoor
open Go.RowKit Go.Extern.Stop Go.Stop Go.Extern

theorem below_drewN {B : Nat} {W w : World} (h : Below B W w) (n : Nat) : Below B W (w.drewN n) := ⟨h.os, h.tape, h.output, h.size, h.block⟩
theorem sDecOk (d : Int) (w : World) : Calls Tryz.prog 38 #[.int .i64 d] w fun r w' => r = .returned (.bool (Dec.okB d)) ∧ w' = w := by
  by_cases h1 : -9000000000000 ≤ d
  · by_cases h2 : d ≤ 9000000000000
    · rw [Dec.okB_true h1 h2]
      go_enter Tryz.func38, Tryz.ntmps38
      go_wp2
      go_ret
      exact ⟨rfl, rfl⟩
    · rw [Dec.okB_false (by omega)]
      have h3 : decide (d ≤ 9000000000000) = false := by simp; omega
      clear h2
      go_enter Tryz.func38, Tryz.ntmps38
      go_wp2
      go_ret
      exact ⟨rfl, rfl⟩
  · rw [Dec.okB_false (by omega)]
    have h3 : d < -9000000000000 := by omega
    clear h1
    go_enter Tryz.func38, Tryz.ntmps38
    go_wp2
    go_ret
    exact ⟨rfl, rfl⟩

theorem iDecOk (x : Int) (a : Addr) (w : World) (hc : w.cell? ⟨1, 0, none⟩ = some (.iface 171 (.pointer (some a)))) :
    Calls Tryz.prog 48 #[.int .i64 x] w fun e w' => e = .returned (.bool (Dec.okB x)) ∧ ∃ n, w' = w.drewN n := by
  cases h : Dec.okB x with
  | true =>
    obtain ⟨h1, h2⟩ := Dec.of_okB h
    clear h
    go_enter Tryz.func48, Tryz.ntmps48
    go_wp2_with (first | (go_at_call 59; refine (told_ok _ a _ ?_).mono ?_; exact hc; rintro e w' ⟨rfl, rfl⟩) | go_in)
    go_ret
    exact ⟨rfl, 0, rfl⟩
  | false =>
    have hE := ckE_bad a (Dec.of_okB_false h)
    clear h
    go_enter Tryz.func48, Tryz.ntmps48
    go_wp2_with (first | (go_at_call 60; refine (checked_any _ a _ ?_).mono ?_; exact hc; rintro e w' ⟨rfl, n, rfl⟩) | (go_at_call 59; refine (told_bad _ a _ ?_).mono ?_; exact hc; rintro e w' ⟨rfl, rfl⟩) | go_in)
    go_ret
    exact ⟨rfl, _, rfl⟩

/-! The same contracts in any world that has grown out of W. -/
theorem sent_later {W w : World} {a : Addr} (hc : W.cell? ⟨1, 0, none⟩ = some (.iface 171 (.pointer (some a)))) (hb : Below W.heap.size W w) : w.cell? ⟨1, 0, none⟩ = some (.iface 171 (.pointer (some a))) := by
  have h0 : 1 < W.heap.size := by
    rcases Nat.lt_or_ge 1 W.heap.size with h | h
    · exact h
    · simp [World.cell?, Array.getElem?_eq_none h] at hc
  rw [hb.cell (p := ⟨1, 0, none⟩) h0]; exact hc
theorem lDecOk (x : Int) (a : Addr) (W w : World) (hc : W.cell? ⟨1, 0, none⟩ = some (.iface 171 (.pointer (some a)))) (hb : Below W.heap.size W w) :
    Calls Tryz.prog 48 #[.int .i64 x] w fun r w' => r = .returned (.bool (Dec.okB x)) ∧ Below W.heap.size W w' := by
  refine (iDecOk x a w (sent_later hc hb)).mono ?_
  rintro r w' ⟨rfl, n, rfl⟩
  exact ⟨rfl, below_drewN hb n⟩
end Go.Proofs.YtkpgdlbcckmpkaaGreatDoor

