/-
  DecOk of the program and of the specification, at every argument, in any world that has grown.
-/
import Derived.Test.YtjdohfdkkppnpaaDoorDecWalks
import Derived.Test.YtjdohfdkkppnpaaDoorDecMath
import Derived.Below
namespace Go.Proofs.YtjdohfdkkppnpaaDoor
open Go.RowKit Go.Extern.Stop Go.Stop Go.Extern

theorem below_drewN {B : Nat} {W w : World} (h : Below B W w) (n : Nat) : Below B W (w.drewN n) := ⟨h.os, h.tape, h.output, h.size, h.block⟩
theorem iDecOk (x : Int) (a : Addr) (w : World) (hc : w.cell? ⟨0, 0, none⟩ = some (.iface 103 (.pointer (some a)))) :
    Calls Tryd.prog 43 #[.int .i64 x] w fun e w' => e = .returned (.bool (Dec.okB x)) ∧ ∃ n, w' = w.drewN n := by
  cases h : Dec.okB x with
  | true =>
    obtain ⟨h1, h2⟩ := Dec.of_okB h
    clear h
    go_enter Tryd.func43, Tryd.ntmps43
    go_wp2_with (first | (go_at_call 51; refine (told_ok _ a _ ?_).mono ?_; exact hc; rintro e w' ⟨rfl, rfl⟩) | go_in)
    go_ret
    exact ⟨rfl, 0, rfl⟩
  | false =>
    have hE := ckE_bad a (Dec.of_okB_false h)
    clear h
    go_enter Tryd.func43, Tryd.ntmps43
    go_wp2_with (first | (go_at_call 52; refine (checked_any _ a _ ?_).mono ?_; exact hc; rintro e w' ⟨rfl, n, rfl⟩) | (go_at_call 51; refine (told_bad _ a _ ?_).mono ?_; exact hc; rintro e w' ⟨rfl, rfl⟩) | go_in)
    go_ret
    exact ⟨rfl, _, rfl⟩

/-! The same contracts in any world that has grown out of W. -/
theorem sent_later {W w : World} {a : Addr} (hc : W.cell? ⟨0, 0, none⟩ = some (.iface 103 (.pointer (some a)))) (hb : Below W.heap.size W w) : w.cell? ⟨0, 0, none⟩ = some (.iface 103 (.pointer (some a))) := by
  have h0 : 0 < W.heap.size := by
    rcases Nat.lt_or_ge 0 W.heap.size with h | h
    · exact h
    · simp [World.cell?, Array.getElem?_eq_none h] at hc
  rw [hb.cell (p := ⟨0, 0, none⟩) h0]; exact hc
theorem lDecOk (x : Int) (a : Addr) (W w : World) (hc : W.cell? ⟨0, 0, none⟩ = some (.iface 103 (.pointer (some a)))) (hb : Below W.heap.size W w) :
    Calls Tryd.prog 43 #[.int .i64 x] w fun r w' => r = .returned (.bool (Dec.okB x)) ∧ Below W.heap.size W w' := by
  refine (iDecOk x a w (sent_later hc hb)).mono ?_
  rintro r w' ⟨rfl, n, rfl⟩
  exact ⟨rfl, below_drewN hb n⟩
end Go.Proofs.YtjdohfdkkppnpaaDoor
