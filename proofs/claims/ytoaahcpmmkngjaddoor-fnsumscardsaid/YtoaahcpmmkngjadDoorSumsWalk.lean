/-
  The walk of FnSums: whatever the bytes, it returns true; what was there stays.
-/
import Derived.Test.YtoaahcpmmkngjadDoorDecMulWalks
import Derived.Test.YtoaahcpmmkngjadDoorDecDivWalks
import Derived.Test.YtoaahcpmmkngjadDoorDrawDec
namespace Go.Proofs.YtoaahcpmmkngjadDoor
open Go.RowKit Go.Extern.Stop Go.Stop Go.Extern

/-! What follows from chapter 1's plain functions -/
theorem mulB_comm (x y : Int) : Dec.mulB x y = Dec.mulB y x := by
  unfold Dec.mulB; rw [Int.mul_comm x y, Bool.and_comm (Dec.okB x) (Dec.okB y)]
theorem mulV_comm (x y : Int) : Dec.mulV x y = Dec.mulV y x := by
  unfold Dec.mulV; rw [Int.mul_comm x y, mulB_comm x y]
theorem sub_back {x y : Int} (h : Dec.addB x y = true) : Dec.subB (Dec.addV x y) y = true ∧ Dec.subV (Dec.addV x y) y = x := by
  have e : Dec.addV x y = x + y := by simp [Dec.addV, h]
  simp only [Dec.addB, Bool.and_eq_true] at h
  have e2 : x + y - y = x := by omega
  have e3 : Dec.subB (x + y) y = true := by simp [Dec.subB, h, e2]
  rw [e]
  exact ⟨e3, by simp [Dec.subV, e3, e2]⟩
theorem by_one (x : Int) : Dec.divB x 1000000 = Dec.okB x := by
  have e : (x * 1000000).tdiv 1000000 = x := Int.mul_tdiv_cancel x (by decide)
  have h : Dec.okB 1000000 = true := by decide
  simp [Dec.divB, e, h]
theorem by_one_is {x : Int} (h : Dec.okB x = true) : Dec.divV x 1000000 = x := by
  have e : (x * 1000000).tdiv 1000000 = x := Int.mul_tdiv_cancel x (by decide)
  simp [Dec.divV, by_one, h, e]
def intV (d : Int) : Int := wrap64 (wrap64 (d.tdiv 1000000) * 1000000)
theorem intV_is {x : Int} (h : I64 x) : intV x = x.tdiv 1000000 * 1000000 ∧ I64 (x.tdiv 1000000 * 1000000) := by
  obtain ⟨h1, h2⟩ := h
  have b : -9223372036854 ≤ x.tdiv 1000000 ∧ x.tdiv 1000000 ≤ 9223372036854 := by
    rcases Int.lt_or_le x 0 with h | h
    · have e : x.tdiv 1000000 = -((-x) / 1000000) := by
        have : x = -(-x) := by omega
        rw [this, Int.neg_tdiv, Int.tdiv_eq_ediv_of_nonneg (by omega)]; simp
      rw [e]; omega
    · rw [Int.tdiv_eq_ediv_of_nonneg h]; omega
  have e1 : wrap64 (x.tdiv 1000000) = x.tdiv 1000000 := by unfold wrap64; omega
  refine ⟨?_, ?_⟩
  · unfold intV; rw [e1]; unfold wrap64; omega
  · unfold I64; omega
theorem intV_again {x : Int} (h : I64 x) : intV (intV x) = intV x := by
  obtain ⟨e, h2⟩ := intV_is h
  rw [e, (intV_is h2).1, Int.mul_tdiv_cancel _ (by decide)]

theorem iDecInt (d : Int) (w : World) : Calls Tryd.prog 19 #[.int .i64 d] w fun r w' => r = .returned (.int .i64 (intV d)) ∧ w' = w := by
  go_enter Tryd.func19, Tryd.ntmps19
  go_wp2
  go_ret
  exact ⟨rfl, rfl⟩
theorem sDecInt (d : Int) (w : World) : Calls Tryd.prog 20 #[.int .i64 d] w fun r w' => r = .returned (.int .i64 (intV d)) ∧ w' = w := by
  go_enter Tryd.func20, Tryd.ntmps20
  go_wp2
  go_ret
  exact ⟨rfl, rfl⟩
theorem iDecOk (x : Int) (a : Addr) (w : World) (hc : w.cell? ⟨0, 0, none⟩ = some (.iface 69 (.pointer (some a)))) :
    Calls Tryd.prog 21 #[.int .i64 x] w fun e w' => e = .returned (.bool (Dec.okB x)) ∧ ∃ n, w' = w.drewN n := by
  cases h : Dec.okB x with
  | true =>
    obtain ⟨h1, h2⟩ := Dec.of_okB h
    clear h
    go_enter Tryd.func21, Tryd.ntmps21
    go_wp2_with (first | (go_at_call 25; refine (told_ok _ a _ ?_).mono ?_; exact hc; rintro e w' ⟨rfl, rfl⟩) | go_in)
    go_ret
    exact ⟨rfl, 0, rfl⟩
  | false =>
    have hE := ckE_bad a (Dec.of_okB_false h)
    clear h
    go_enter Tryd.func21, Tryd.ntmps21
    go_wp2_with (first | (go_at_call 33; refine (checked_any _ a _ ?_).mono ?_; exact hc; rintro e w' ⟨rfl, n, rfl⟩) | (go_at_call 25; refine (told_bad _ a _ ?_).mono ?_; exact hc; rintro e w' ⟨rfl, rfl⟩) | go_in)
    go_ret
    exact ⟨rfl, _, rfl⟩

/-! The same contracts in any world that has grown out of W. -/
theorem sent_later {W w : World} {a : Addr} (hc : W.cell? ⟨0, 0, none⟩ = some (.iface 69 (.pointer (some a)))) (hb : Below W.heap.size W w) : w.cell? ⟨0, 0, none⟩ = some (.iface 69 (.pointer (some a))) := by
  have h0 : 0 < W.heap.size := by
    rcases Nat.lt_or_ge 0 W.heap.size with h | h
    · exact h
    · simp [World.cell?, Array.getElem?_eq_none h] at hc
  rw [hb.cell (p := ⟨0, 0, none⟩) h0]; exact hc
theorem lDecOk (x : Int) (a : Addr) (W w : World) (hc : W.cell? ⟨0, 0, none⟩ = some (.iface 69 (.pointer (some a)))) (hb : Below W.heap.size W w) :
    Calls Tryd.prog 21 #[.int .i64 x] w fun r w' => r = .returned (.bool (Dec.okB x)) ∧ Below W.heap.size W w' := by
  refine (iDecOk x a w (sent_later hc hb)).mono ?_
  rintro r w' ⟨rfl, n, rfl⟩
  exact ⟨rfl, below_drewN hb n⟩
theorem lDecAdd (d e : Int) (a : Addr) (W w : World) (hc : W.cell? ⟨0, 0, none⟩ = some (.iface 69 (.pointer (some a)))) (hb : Below W.heap.size W w) :
    Calls Tryd.prog 6 #[.int .i64 d, .int .i64 e] w fun r w' => r = .returned (.tuple #[.int .i64 (Dec.addV d e), .bool (Dec.addB d e)]) ∧ Below W.heap.size W w' := by
  refine (iDecAdd d e a w (sent_later hc hb)).mono ?_
  rintro r w' ⟨rfl, n, rfl⟩
  exact ⟨rfl, below_drewN hb n⟩
theorem lDrawDecAdd (sa : Option Addr) (len cap : Nat) (W w : World) (hl : len ≤ 1048576) (hy : Bytes W.heap.size W sa len) (hb : Below W.heap.size W w) :
    Calls Tryd.prog 5 #[.slice sa len cap] w fun e w' => ∃ x y, e = .returned (.tuple #[.int .i64 x, .int .i64 y]) ∧ I64 x ∧ I64 y ∧ Below W.heap.size W w' := by
  refine (DrawDecAdd sa len cap W.heap.size w hb.size hl (hy.below hb)).mono ?_
  rintro e w' ⟨x, y, rfl, hx, hy, hb'⟩
  exact ⟨x, y, rfl, hx, hy, hb.trans hb'⟩
theorem lDecSub (d e : Int) (a : Addr) (W w : World) (hc : W.cell? ⟨0, 0, none⟩ = some (.iface 69 (.pointer (some a)))) (hb : Below W.heap.size W w) :
    Calls Tryd.prog 8 #[.int .i64 d, .int .i64 e] w fun r w' => r = .returned (.tuple #[.int .i64 (Dec.subV d e), .bool (Dec.subB d e)]) ∧ Below W.heap.size W w' := by
  refine (iDecSub d e a w (sent_later hc hb)).mono ?_
  rintro r w' ⟨rfl, n, rfl⟩
  exact ⟨rfl, below_drewN hb n⟩
theorem lDrawDecSub (sa : Option Addr) (len cap : Nat) (W w : World) (hl : len ≤ 1048576) (hy : Bytes W.heap.size W sa len) (hb : Below W.heap.size W w) :
    Calls Tryd.prog 15 #[.slice sa len cap] w fun e w' => ∃ x y, e = .returned (.tuple #[.int .i64 x, .int .i64 y]) ∧ I64 x ∧ I64 y ∧ Below W.heap.size W w' := by
  refine (DrawDecSub sa len cap W.heap.size w hb.size hl (hy.below hb)).mono ?_
  rintro e w' ⟨x, y, rfl, hx, hy, hb'⟩
  exact ⟨x, y, rfl, hx, hy, hb.trans hb'⟩
theorem lDecMul (d e : Int) (a : Addr) (W w : World) (hc : W.cell? ⟨0, 0, none⟩ = some (.iface 69 (.pointer (some a)))) (hb : Below W.heap.size W w) :
    Calls Tryd.prog 10 #[.int .i64 d, .int .i64 e] w fun r w' => r = .returned (.tuple #[.int .i64 (Dec.mulV d e), .bool (Dec.mulB d e)]) ∧ Below W.heap.size W w' := by
  refine (iDecMul d e a w (sent_later hc hb)).mono ?_
  rintro r w' ⟨rfl, n, rfl⟩
  exact ⟨rfl, below_drewN hb n⟩
theorem lDrawDecMul (sa : Option Addr) (len cap : Nat) (W w : World) (hl : len ≤ 1048576) (hy : Bytes W.heap.size W sa len) (hb : Below W.heap.size W w) :
    Calls Tryd.prog 9 #[.slice sa len cap] w fun e w' => ∃ x y, e = .returned (.tuple #[.int .i64 x, .int .i64 y]) ∧ I64 x ∧ I64 y ∧ Below W.heap.size W w' := by
  refine (DrawDecMul sa len cap W.heap.size w hb.size hl (hy.below hb)).mono ?_
  rintro e w' ⟨x, y, rfl, hx, hy, hb'⟩
  exact ⟨x, y, rfl, hx, hy, hb.trans hb'⟩
theorem lDecDiv (d e : Int) (a : Addr) (W w : World) (hc : W.cell? ⟨0, 0, none⟩ = some (.iface 69 (.pointer (some a)))) (hb : Below W.heap.size W w) :
    Calls Tryd.prog 13 #[.int .i64 d, .int .i64 e] w fun r w' => r = .returned (.tuple #[.int .i64 (Dec.divV d e), .bool (Dec.divB d e)]) ∧ Below W.heap.size W w' := by
  refine (iDecDiv d e a w (sent_later hc hb)).mono ?_
  rintro r w' ⟨rfl, n, rfl⟩
  exact ⟨rfl, below_drewN hb n⟩
theorem lDrawDecDiv (sa : Option Addr) (len cap : Nat) (W w : World) (hl : len ≤ 1048576) (hy : Bytes W.heap.size W sa len) (hb : Below W.heap.size W w) :
    Calls Tryd.prog 12 #[.slice sa len cap] w fun e w' => ∃ x y, e = .returned (.tuple #[.int .i64 x, .int .i64 y]) ∧ I64 x ∧ I64 y ∧ Below W.heap.size W w' := by
  refine (DrawDecDiv sa len cap W.heap.size w hb.size hl (hy.below hb)).mono ?_
  rintro e w' ⟨x, y, rfl, hx, hy, hb'⟩
  exact ⟨x, y, rfl, hx, hy, hb.trans hb'⟩
theorem lDrawDecInt (sa : Option Addr) (len cap : Nat) (W w : World) (hl : len ≤ 1048576) (hy : Bytes W.heap.size W sa len) (hb : Below W.heap.size W w) :
    Calls Tryd.prog 17 #[.slice sa len cap] w fun e w' => ∃ x, e = .returned (.int .i64 x) ∧ I64 x ∧ Below W.heap.size W w' := by
  refine (DrawDecInt sa len cap W.heap.size w hb.size hl (hy.below hb)).mono ?_
  rintro e w' ⟨x, rfl, hx, hb'⟩
  exact ⟨x, rfl, hx, hb.trans hb'⟩
theorem lDrawDecOk (sa : Option Addr) (len cap : Nat) (W w : World) (hl : len ≤ 1048576) (hy : Bytes W.heap.size W sa len) (hb : Below W.heap.size W w) :
    Calls Tryd.prog 18 #[.slice sa len cap] w fun e w' => ∃ x, e = .returned (.int .i64 x) ∧ I64 x ∧ Below W.heap.size W w' := by
  refine (DrawDecOk sa len cap W.heap.size w hb.size hl (hy.below hb)).mono ?_
  rintro e w' ⟨x, rfl, hx, hb'⟩
  exact ⟨x, rfl, hx, hb.trans hb'⟩

set_option maxRecDepth 100000 in
theorem sums_big (sa : Option Addr) (len cap : Nat) (w : World) (hl : (1048576 : Int) < (len : Int)) :
    Calls Tryd.prog 3 #[.slice sa len cap] w fun e w' => e = .returned (.bool true) ∧ Below w.heap.size w w' := by
  go_enter Tryd.func3, Tryd.ntmps3
  go_wp2
  go_ret
  exact ⟨rfl, Below.refl _ _⟩

set_option maxRecDepth 100000 in
set_option maxHeartbeats 4000000 in
theorem sums_small (sa : Option Addr) (len cap : Nat) (a : Addr) (W w : World) (hc : W.cell? ⟨0, 0, none⟩ = some (.iface 69 (.pointer (some a)))) (hl : len ≤ 1048576) (_ : (len : Int) ≤ 1048576) (hy : Bytes W.heap.size W sa len) (hb : Below W.heap.size W w) :
    Calls Tryd.prog 3 #[.slice sa len cap] w fun e w' => e = .returned (.bool true) ∧ Below W.heap.size W w' := by
  have f1 := mulV_comm
  have f2 := mulB_comm
  have f3 : ∀ x y, Dec.addB x y = true → Dec.subB (Dec.addV x y) y = true := fun x y h => (sub_back h).1
  have f4 : ∀ x y, Dec.addB x y = true → Dec.subV (Dec.addV x y) y = x := fun x y h => (sub_back h).2
  have f5 := by_one
  have f6 : ∀ x, Dec.okB x = true → Dec.divV x 1000000 = x := fun x h => by_one_is h
  have f7 : ∀ x, I64 x → intV (intV x) = intV x := fun x h => intV_again h
  go_enter Tryd.func3, Tryd.ntmps3
  go_wp2_with (first | (go_at_call 5; refine (lDrawDecAdd sa len cap W _ hl hy ?_).mono ?_; assumption; rintro e w' ⟨x, y, rfl, hx, hy', hb'⟩) | (go_at_call 6; refine (lDecAdd _ _ a W _ hc ?_).mono ?_; assumption; rintro e w' ⟨rfl, hb'⟩) | (go_at_call 7; refine (sDecAdd _ _ _).mono ?_; rintro e w' ⟨rfl, rfl⟩) | (go_at_call 15; refine (lDrawDecSub sa len cap W _ hl hy ?_).mono ?_; assumption; rintro e w' ⟨x, y, rfl, hx, hy', hb'⟩) | (go_at_call 8; refine (lDecSub _ _ a W _ hc ?_).mono ?_; assumption; rintro e w' ⟨rfl, hb'⟩) | (go_at_call 16; refine (sDecSub _ _ _).mono ?_; rintro e w' ⟨rfl, rfl⟩) | (go_at_call 9; refine (lDrawDecMul sa len cap W _ hl hy ?_).mono ?_; assumption; rintro e w' ⟨x, y, rfl, hx, hy', hb'⟩) | (go_at_call 10; refine (lDecMul _ _ a W _ hc ?_).mono ?_; assumption; rintro e w' ⟨rfl, hb'⟩) | (go_at_call 11; refine (sDecMul _ _ _).mono ?_; rintro e w' ⟨rfl, rfl⟩) | (go_at_call 12; refine (lDrawDecDiv sa len cap W _ hl hy ?_).mono ?_; assumption; rintro e w' ⟨x, y, rfl, hx, hy', hb'⟩) | (go_at_call 13; refine (lDecDiv _ _ a W _ hc ?_).mono ?_; assumption; rintro e w' ⟨rfl, hb'⟩) | (go_at_call 14; refine (sDecDiv _ _ _).mono ?_; rintro e w' ⟨rfl, rfl⟩) | (go_at_call 17; refine (lDrawDecInt sa len cap W _ hl hy ?_).mono ?_; assumption; rintro e w' ⟨x, rfl, hx, hb'⟩) | (go_at_call 18; refine (lDrawDecOk sa len cap W _ hl hy ?_).mono ?_; assumption; rintro e w' ⟨x, rfl, hx, hb'⟩) | (go_at_call 19; refine (iDecInt _ _).mono ?_; rintro e w' ⟨rfl, rfl⟩) | (go_at_call 20; refine (sDecInt _ _).mono ?_; rintro e w' ⟨rfl, rfl⟩) | (go_at_call 21; refine (lDecOk _ a W _ hc ?_).mono ?_; assumption; rintro e w' ⟨rfl, hb'⟩) | (go_at_call 22; refine (sDecOk _ _).mono ?_; rintro e w' ⟨rfl, rfl⟩) | (go_at_call 4; go_in))
  all_goals go_ret
  all_goals exact ⟨rfl, by assumption⟩

theorem lawSums (sa : Option Addr) (len cap : Nat) (a : Addr) (w : World) (hc : w.cell? ⟨0, 0, none⟩ = some (.iface 69 (.pointer (some a)))) (hy : Bytes w.heap.size w sa len) :
    Calls Tryd.prog 3 #[.slice sa len cap] w fun e w' => e = .returned (.bool true) ∧ Below w.heap.size w w' := by
  by_cases h : len ≤ 1048576
  · exact sums_small sa len cap a w w hc h (by omega) hy (Below.refl _ _)
  · exact sums_big sa len cap w (by omega)

end Go.Proofs.YtoaahcpmmkngjadDoor
