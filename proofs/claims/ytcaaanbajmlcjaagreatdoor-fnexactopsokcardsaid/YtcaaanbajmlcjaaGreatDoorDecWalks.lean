/-
  Walks over chapter 1's functions: the small ones by contracts; the laws of DecOk, DecAdd and DecSub return true at all arguments; memory is as it was.
-/
import Derived.Test.YtcaaanbajmlcjaaGreatDoorDecIs
import Derived.Deep.QuietTactic
import Derived.BigQuiet
namespace Go.Proofs.YtcaaanbajmlcjaaGreatDoor
open Go.RowKit Go.Extern.Stop Go.Stop Go.Extern

theorem checked_ok (d : Int) (w : World) (h1 : -9000000000000 ≤ d) (h2 : d ≤ 9000000000000) :
    Calls Tryz.prog 40 #[.int .i64 d] w fun e w' => e = .returned (.tuple #[.int .i64 d, .nilIface]) ∧ w' = w := by
  go_enter Tryz.func40, Tryz.ntmps40
  go_wp2
  go_ret2
  exact ⟨rfl, rfl⟩

theorem checked_bad (d : Int) (a : Addr) (w : World) (hc : w.cell? ⟨1, 0, none⟩ = some (.iface 154 (.pointer (some a)))) (h : d < -9000000000000 ∨ 9000000000000 < d) :
    Calls Tryz.prog 40 #[.int .i64 d] w fun e w' => e = .returned (.tuple #[.int .i64 0, .iface 154 (.pointer (some a))]) ∧ ∃ n, w' = w.drewN n := by
  rcases h with h | h
  · go_enter Tryz.func40, Tryz.ntmps40
    go_wp2
    go_quiet (fail)
    go_wp2
    go_ret2
    exact ⟨rfl, _, rfl⟩
  · have h' : -9000000000000 ≤ d := by omega
    go_enter Tryz.func40, Tryz.ntmps40
    go_wp2
    go_quiet (fail)
    go_wp2
    go_ret2
    exact ⟨rfl, _, rfl⟩

/-- What checked answers, as two functions that the walk does not open. -/
def ckV (d : Int) : Int := if -9000000000000 ≤ d ∧ d ≤ 9000000000000 then d else 0
def ckE (a : Addr) (d : Int) : Value := if -9000000000000 ≤ d ∧ d ≤ 9000000000000 then .nilIface else .iface 154 (.pointer (some a))
theorem ckV_ok {d : Int} (h1 : -9000000000000 ≤ d) (h2 : d ≤ 9000000000000) : ckV d = d := by unfold ckV; rw [if_pos ⟨h1, h2⟩]
theorem ckE_ok (a : Addr) {d : Int} (h1 : -9000000000000 ≤ d) (h2 : d ≤ 9000000000000) : ckE a d = .nilIface := by unfold ckE; rw [if_pos ⟨h1, h2⟩]
theorem ckV_bad {d : Int} (h : d < -9000000000000 ∨ 9000000000000 < d) : ckV d = 0 := by unfold ckV; rw [if_neg (by omega)]
theorem ckE_bad (a : Addr) {d : Int} (h : d < -9000000000000 ∨ 9000000000000 < d) : ckE a d = .iface 154 (.pointer (some a)) := by unfold ckE; rw [if_neg (by omega)]

theorem checked_any (d : Int) (a : Addr) (w : World) (hc : w.cell? ⟨1, 0, none⟩ = some (.iface 154 (.pointer (some a)))) :
    Calls Tryz.prog 40 #[.int .i64 d] w fun e w' => e = .returned (.tuple #[.int .i64 (ckV d), ckE a d]) ∧ ∃ n, w' = w.drewN n := by
  by_cases h : d < -9000000000000 ∨ 9000000000000 < d
  · rw [ckV_bad h, ckE_bad a h]; exact checked_bad d a w hc h
  · rw [ckV_ok (by omega) (by omega), ckE_ok a (by omega) (by omega)]
    exact (checked_ok d w (by omega) (by omega)).mono fun e w' ⟨h1, h2⟩ => ⟨h1, 0, h2⟩



end Go.Proofs.YtcaaanbajmlcjaaGreatDoor
