/-
  DecOk of the program and of the specification, at every argument, in any world that has grown.
-/
import Derived.Test.YtcaaanbajmlcjaaGreatDoorDecWalks
import Derived.Test.YtcaaanbajmlcjaaGreatDoorDecMath
import Derived.Below
namespace Go.Proofs.YtcaaanbajmlcjaaGreatDoor
open Go.RowKit Go.Extern.Stop Go.Stop Go.Extern

theorem below_drewN {B : Nat} {W w : World} (h : Below B W w) (n : Nat) : Below B W (w.drewN n) := ⟨h.os, h.tape, h.output, h.size, h.block⟩
theorem sDecOk (d : Int) (w : World) : Calls Tryz.prog 20 #[.int .i64 d] w fun r w' => r = .returned (.bool (Dec.okB d)) ∧ w' = w := by
  by_cases h1 : -9000000000000 ≤ d
  · by_cases h2 : d ≤ 9000000000000
    · rw [Dec.okB_true h1 h2]
      go_enter Tryz.func20, Tryz.ntmps20
      go_wp2
      go_ret
      exact ⟨rfl, rfl⟩
    · rw [Dec.okB_false (by omega)]
      have h3 : decide (d ≤ 9000000000000) = false := by simp; omega
      clear h2
      go_enter Tryz.func20, Tryz.ntmps20
      go_wp2
      go_ret
      exact ⟨rfl, rfl⟩
  · rw [Dec.okB_false (by omega)]
    have h3 : d < -9000000000000 := by omega
    clear h1
    go_enter Tryz.func20, Tryz.ntmps20
    go_wp2
    go_ret
    exact ⟨rfl, rfl⟩

theorem iDecOk (x : Int) (a : Addr) (w : World) (hc : w.cell? ⟨1, 0, none⟩ = some (.iface 154 (.pointer (some a)))) :
    Calls Tryz.prog 30 #[.int .i64 x] w fun e w' => e = .returned (.bool (Dec.okB x)) ∧ ∃ n, w' = w.drewN n := by
  cases h : Dec.okB x with
  | true =>
    obtain ⟨h1, h2⟩ := Dec.of_okB h
    clear h
    go_enter Tryz.func30, Tryz.ntmps30
    go_wp2_with (first | (go_at_call 39; refine (told_ok _ a _ ?_).mono ?_; exact hc; rintro e w' ⟨rfl, rfl⟩) | go_in)
    go_ret
    exact ⟨rfl, 0, rfl⟩
  | false =>
    have hE := ckE_bad a (Dec.of_okB_false h)
    clear h
    go_enter Tryz.func30, Tryz.ntmps30
    go_wp2_with (first | (go_at_call 40; refine (checked_any _ a _ ?_).mono ?_; exact hc; rintro e w' ⟨rfl, n, rfl⟩) | (go_at_call 39; refine (told_bad _ a _ ?_).mono ?_; exact hc; rintro e w' ⟨rfl, rfl⟩) | go_in)
    go_ret
    exact ⟨rfl, _, rfl⟩

/-! The same contracts in any world that has grown out of W. -/
theorem sent_later {W w : World} {a : Addr} (hc : W.cell? ⟨1, 0, none⟩ = some (.iface 154 (.pointer (some a)))) (hb : Below W.heap.size W w) : w.cell? ⟨1, 0, none⟩ = some (.iface 154 (.pointer (some a))) := by
  have h0 : 1 < W.heap.size := by
    rcases Nat.lt_or_ge 1 W.heap.size with h | h
    · exact h
    · simp [World.cell?, Array.getElem?_eq_none h] at hc
  rw [hb.cell (p := ⟨1, 0, none⟩) h0]; exact hc
theorem lDecOk (x : Int) (a : Addr) (W w : World) (hc : W.cell? ⟨1, 0, none⟩ = some (.iface 154 (.pointer (some a)))) (hb : Below W.heap.size W w) :
    Calls Tryz.prog 30 #[.int .i64 x] w fun r w' => r = .returned (.bool (Dec.okB x)) ∧ Below W.heap.size W w' := by
  refine (iDecOk x a w (sent_later hc hb)).mono ?_
  rintro r w' ⟨rfl, n, rfl⟩
  exact ⟨rfl, below_drewN hb n⟩
end Go.Proofs.YtcaaanbajmlcjaaGreatDoor
