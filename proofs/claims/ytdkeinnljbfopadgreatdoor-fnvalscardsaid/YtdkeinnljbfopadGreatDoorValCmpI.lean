/-
  Compare of the program, at every two values.
-/
import Derived.Test.YtdkeinnljbfopadGreatDoorValCmp
namespace Go.Proofs.YtdkeinnljbfopadGreatDoor
open Go.RowKit Go.Extern.Stop Go.Stop Go.Extern
set_option linter.unusedVariables false

theorem Vl.cmp_text {k k1 : Int} (h : k = 2 ∨ k1 = 2) (n : Int) (s : ByteArray) (n1 : Int) (s1 : ByteArray) : Vl.cmpV k n s k1 n1 s1 = Vl.cmpS (Vl.textV k n s) (Vl.textV k1 n1 s1) := by unfold Vl.cmpV; rw [if_pos h]
theorem Vl.cmp_num {k k1 : Int} (h : k ≠ 2) (h1 : k1 ≠ 2) (n : Int) (s : ByteArray) (n1 : Int) (s1 : ByteArray) : Vl.cmpV k n s k1 n1 s1 = Vl.cmpI (Vl.numV k n s) (Vl.numV k1 n1 s1) := by unfold Vl.cmpV; rw [if_neg (by simp [h, h1])]

set_option maxRecDepth 100000 in
theorem iCompare (k n : Int) (s : ByteArray) (k1 n1 : Int) (s1 : ByteArray) (a : Addr) (w : World) (hc : w.cell? ⟨1, 0, none⟩ = some (.iface 252 (.pointer (some a)))) (hT : Lib.TabIs Tryz.prog w "internal/strconv.uint64pow10" .u64 Lib.pow10Tab) (hs : (s.size : Int) ≤ 1048576) (hs1 : (s1.size : Int) ≤ 1048576) :
    Calls Tryz.prog 25 #[.agg #[.int .i64 k, .int .i64 n, .string s], .agg #[.int .i64 k1, .int .i64 n1, .string s1]] w fun e w' => e = .returned (.int .i64 (Vl.cmpV k n s k1 n1 s1)) ∧ Below w.heap.size w w' := by
  by_cases h : k = 2
  · rw [Vl.cmp_text (.inl h)]
    have call : ∀ wx : World, Below ((w.alloc (.cells #[.int .i64 k, .int .i64 n, .string s] 45)).alloc (.cells #[.int .i64 k1, .int .i64 n1, .string s1] 45)).heap.size ((w.alloc (.cells #[.int .i64 k, .int .i64 n, .string s] 45)).alloc (.cells #[.int .i64 k1, .int .i64 n1, .string s1] 45)) wx → Calls Tryz.prog 71 #[.agg #[.int .i64 k, .int .i64 n, .string s], .agg #[.int .i64 k1, .int .i64 n1, .string s1], .func (.func 35) #[] #[]] wx fun e w' => e = .returned (.int .i64 (Vl.cmpS (Vl.textV k n s) (Vl.textV k1 n1 s1))) ∧ Below ((w.alloc (.cells #[.int .i64 k, .int .i64 n, .string s] 45)).alloc (.cells #[.int .i64 k1, .int .i64 n1, .string s1] 45)).heap.size ((w.alloc (.cells #[.int .i64 k, .int .i64 n, .string s] 45)).alloc (.cells #[.int .i64 k1, .int .i64 n1, .string s1] 45)) w' := fun wx h => ((iByText k n s k1 n1 s1 a wx (sent_later hc (below_on h)) (tab_later hT (below_on h)) hs hs1).mono fun e w' ⟨he, hb⟩ => ⟨he, h.trans (hb.mono h.size)⟩)
    clear hc hT
    generalize Vl.cmpS (Vl.textV k n s) (Vl.textV k1 n1 s1) = V at *
    subst h
    go_enter Tryz.func25, Tryz.ntmps25
    go_wp2_with (go_at_call 71; refine (call _ (Below.refl _ _)).mono ?_; rintro e w2 ⟨rfl, hb2⟩)
    go_ret
    exact ⟨rfl, below_on hb2⟩
  by_cases h1 : k1 = 2
  · rw [Vl.cmp_text (.inr h1)]
    have call : ∀ wx : World, Below ((w.alloc (.cells #[.int .i64 k, .int .i64 n, .string s] 45)).alloc (.cells #[.int .i64 k1, .int .i64 n1, .string s1] 45)).heap.size ((w.alloc (.cells #[.int .i64 k, .int .i64 n, .string s] 45)).alloc (.cells #[.int .i64 k1, .int .i64 n1, .string s1] 45)) wx → Calls Tryz.prog 71 #[.agg #[.int .i64 k, .int .i64 n, .string s], .agg #[.int .i64 k1, .int .i64 n1, .string s1], .func (.func 35) #[] #[]] wx fun e w' => e = .returned (.int .i64 (Vl.cmpS (Vl.textV k n s) (Vl.textV k1 n1 s1))) ∧ Below ((w.alloc (.cells #[.int .i64 k, .int .i64 n, .string s] 45)).alloc (.cells #[.int .i64 k1, .int .i64 n1, .string s1] 45)).heap.size ((w.alloc (.cells #[.int .i64 k, .int .i64 n, .string s] 45)).alloc (.cells #[.int .i64 k1, .int .i64 n1, .string s1] 45)) w' := fun wx h => ((iByText k n s k1 n1 s1 a wx (sent_later hc (below_on h)) (tab_later hT (below_on h)) hs hs1).mono fun e w' ⟨he, hb⟩ => ⟨he, h.trans (hb.mono h.size)⟩)
    clear hc hT
    generalize Vl.cmpS (Vl.textV k n s) (Vl.textV k1 n1 s1) = V at *
    subst h1
    have e : (k == 2) = false := by simp [h]
    clear h
    go_enter Tryz.func25, Tryz.ntmps25
    go_wp2_with (go_at_call 71; refine (call _ (Below.refl _ _)).mono ?_; rintro e w2 ⟨rfl, hb2⟩)
    go_ret
    exact ⟨rfl, below_on hb2⟩
  · rw [Vl.cmp_num h h1]
    have call : ∀ wx : World, Below ((w.alloc (.cells #[.int .i64 k, .int .i64 n, .string s] 45)).alloc (.cells #[.int .i64 k1, .int .i64 n1, .string s1] 45)).heap.size ((w.alloc (.cells #[.int .i64 k, .int .i64 n, .string s] 45)).alloc (.cells #[.int .i64 k1, .int .i64 n1, .string s1] 45)) wx → Calls Tryz.prog 72 #[.agg #[.int .i64 k, .int .i64 n, .string s], .agg #[.int .i64 k1, .int .i64 n1, .string s1], .func (.func 33) #[] #[]] wx fun e w' => e = .returned (.int .i64 (Vl.cmpI (Vl.numV k n s) (Vl.numV k1 n1 s1))) ∧ Below ((w.alloc (.cells #[.int .i64 k, .int .i64 n, .string s] 45)).alloc (.cells #[.int .i64 k1, .int .i64 n1, .string s1] 45)).heap.size ((w.alloc (.cells #[.int .i64 k, .int .i64 n, .string s] 45)).alloc (.cells #[.int .i64 k1, .int .i64 n1, .string s1] 45)) w' := fun wx h => ((iByNum k n s k1 n1 s1 a wx (sent_later hc (below_on h)) (tab_later hT (below_on h)) hs hs1).mono fun e w' ⟨he, hb⟩ => ⟨he, h.trans (hb.mono h.size)⟩)
    clear hc hT
    generalize Vl.cmpI (Vl.numV k n s) (Vl.numV k1 n1 s1) = V at *
    have e : (k == 2) = false := by simp [h]
    have e1 : (k1 == 2) = false := by simp [h1]
    clear h h1
    go_enter Tryz.func25, Tryz.ntmps25
    go_wp2_with (go_at_call 72; refine (call _ (Below.refl _ _)).mono ?_; rintro e w2 ⟨rfl, hb2⟩)
    go_ret
    exact ⟨rfl, below_on hb2⟩
end Go.Proofs.YtdkeinnljbfopadGreatDoor
