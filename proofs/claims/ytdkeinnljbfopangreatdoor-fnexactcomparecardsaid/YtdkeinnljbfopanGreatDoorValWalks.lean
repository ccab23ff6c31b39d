/-
  Chapter 6: each function of the program and of the specification at every argument: a value as a number, right values, what is read of a text.
-/
import Derived.Test.YtdkeinnljbfopanGreatDoorNumWorth
import Derived.Test.YtdkeinnljbfopanGreatDoorNumSpecEnd
import Derived.Test.YtdkeinnljbfopanGreatDoorValMath
namespace Go.Proofs.YtdkeinnljbfopanGreatDoor
open Go.RowKit Go.Extern.Stop Go.Stop Go.Extern
set_option linter.unusedVariables false

theorem vFront (s : ByteArray) (a : Addr) (W w : World) (hc : W.cell? ⟨0, 0, none⟩ = some (.iface 132 (.pointer (some a)))) (hb : Below W.heap.size W w) (hs : (s.size : Int) ≤ 1048576) :
    Calls Tryz.prog 20 #[.string s] w fun r w' => r = .returned (.tuple #[.int .i64 (Num.frontV s.data.toList), .int .i64 (Num.frontN s.data.toList)]) ∧ Below W.heap.size W w' := by
  refine (iDecFront s a w (sent_later hc hb) (by unfold maxLen; omega)).mono ?_
  rintro r w' ⟨rfl, hb'⟩
  exact ⟨rfl, hb.trans (hb'.mono hb.size)⟩
theorem below_box {W w : World} (hb : Below W.heap.size W w) (o : Obj) : Below W.heap.size W (w.alloc o) := hb.alloc hb.size _

set_option maxRecDepth 100000 in
theorem iToNum (k n : Int) (s : ByteArray) (a : Addr) (w : World) (hc : w.cell? ⟨0, 0, none⟩ = some (.iface 132 (.pointer (some a)))) (hs : (s.size : Int) ≤ 1048576) :
    Calls Tryz.prog 14 #[.agg #[.int .i64 k, .int .i64 n, .string s]] w fun e w' => e = .returned (.int .i64 (Vl.numV k n s)) ∧ Below w.heap.size w w' := by
  by_cases h1 : k = 1
  · subst h1
    rw [Vl.num1]
    go_enter Tryz.func14, Tryz.ntmps14
    go_wp2
    go_ret
    exact ⟨rfl, below_box (Below.refl _ _) _⟩
  by_cases h3 : k = 3
  · subst h3
    rw [Vl.num3]
    go_enter Tryz.func14, Tryz.ntmps14
    go_wp2
    go_ret
    exact ⟨rfl, below_box (Below.refl _ _) _⟩
  by_cases h2 : k = 2
  · subst h2
    rw [Vl.num2]
    go_enter Tryz.func14, Tryz.ntmps14
    go_wp2_with (go_at_call 20; refine (vFront s a w _ hc (below_box (Below.refl _ _) _) hs).mono ?_; rintro e w' ⟨rfl, hb'⟩)
    go_ret
    exact ⟨rfl, by first | exact hb' | exact below_box (Below.refl _ _) _⟩
  · rw [Vl.num0 h1 h2 h3]
    have e1 : (k == 1) = false := by simp [h1]
    have e2 : (k == 2) = false := by simp [h2]
    have e3 : (k == 3) = false := by simp [h3]
    clear h1 h2 h3
    go_enter Tryz.func14, Tryz.ntmps14
    go_wp2
    go_ret
    exact ⟨rfl, below_box (Below.refl _ _) _⟩

set_option maxRecDepth 100000 in
theorem sToNum (k n : Int) (s : ByteArray) (w : World) (hs : (s.size : Int) ≤ 1048576) :
    Calls Tryz.prog 9 #[.agg #[.int .i64 k, .int .i64 n, .string s]] w fun e w' => e = .returned (.int .i64 (Vl.numV k n s)) ∧ Below w.heap.size w w' := by
  by_cases h1 : k = 1
  · subst h1
    rw [Vl.num1]
    go_enter Tryz.func9, Tryz.ntmps9
    go_wp2
    go_ret
    exact ⟨rfl, below_box (Below.refl _ _) _⟩
  by_cases h3 : k = 3
  · subst h3
    rw [Vl.num3]
    go_enter Tryz.func9, Tryz.ntmps9
    go_wp2
    go_ret
    exact ⟨rfl, below_box (Below.refl _ _) _⟩
  by_cases h2 : k = 2
  · subst h2
    rw [Vl.num2]
    go_enter Tryz.func9, Tryz.ntmps9
    go_wp2_with (go_at_call 16; refine (sDecFront s _ (by omega)).mono ?_; rintro e w' ⟨rfl, hw'⟩; have hw' := hw'.symm; subst hw')
    go_ret
    exact ⟨rfl, by first | exact hb' | exact below_box (Below.refl _ _) _⟩
  · rw [Vl.num0 h1 h2 h3]
    have e1 : (k == 1) = false := by simp [h1]
    have e2 : (k == 2) = false := by simp [h2]
    have e3 : (k == 3) = false := by simp [h3]
    clear h1 h2 h3
    go_enter Tryz.func9, Tryz.ntmps9
    go_wp2
    go_ret
    exact ⟨rfl, below_box (Below.refl _ _) _⟩

end Go.Proofs.YtdkeinnljbfopanGreatDoor
