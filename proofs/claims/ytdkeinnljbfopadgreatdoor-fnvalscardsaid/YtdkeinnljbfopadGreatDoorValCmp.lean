/-
  Chapter 6: two values held against each other, by the program and by the specification, at every two values.
-/
import Derived.Test.YtdkeinnljbfopadGreatDoorValText
import Derived.Deep.QuietTactic
import Derived.BigQuiet
namespace Go.Proofs.YtdkeinnljbfopadGreatDoor
open Go.RowKit Go.Extern.Stop Go.Stop Go.Extern
set_option linter.unusedVariables false

namespace Vl
/-- by texts -/
def cmpS (x y : ByteArray) : Int := if Op.bytesLess x.toList y.toList then -1 else if x.toList == y.toList then 0 else 1
/-- by numbers -/
def cmpI (x y : Int) : Int := if x < y then -1 else if y < x then 1 else 0
def cmpV (k n : Int) (s : ByteArray) (k1 n1 : Int) (s1 : ByteArray) : Int := if k = 2 ∨ k1 = 2 then cmpS (textV k n s) (textV k1 n1 s1) else cmpI (numV k n s) (numV k1 n1 s1)
end Vl

theorem gtr_str (t : TypeId) (a b : ByteArray) : binOp .gtr t (.string a) (.string b) = pure (.bool !(Op.bytesLess a.toList b.toList || a.toList == b.toList)) := by simp [binOp, Op.stringOp]
theorem iCmpS (x y : ByteArray) (w : World) :
    Calls Tryz.prog 113 #[.string x, .string y] w fun e w' => e = .returned (.int .i64 (Vl.cmpS x y)) ∧ w' = w := by
  unfold Vl.cmpS
  have hg := gtr_str
  cases h1 : Op.bytesLess x.toList y.toList with
  | true =>
    go_enter Tryz.func113, Tryz.ntmps113
    go_wp2_with (go_at_call 145; go_in)
    go_ret
    exact ⟨rfl, rfl⟩
  | false =>
    cases h2 : (x.toList == y.toList) with
    | true =>
      go_enter Tryz.func113, Tryz.ntmps113
      go_wp2_with (go_at_call 145; go_in)
      go_ret
      exact ⟨rfl, rfl⟩
    | false =>
      go_enter Tryz.func113, Tryz.ntmps113
      go_wp2_with (go_at_call 145; go_in)
      go_ret
      exact ⟨rfl, rfl⟩
theorem iCmpI (x y : Int) (w : World) :
    Calls Tryz.prog 114 #[.int .i64 x, .int .i64 y] w fun e w' => e = .returned (.int .i64 (Vl.cmpI x y)) ∧ w' = w := by
  unfold Vl.cmpI
  by_cases h1 : x < y
  · rw [if_pos h1]
    go_enter Tryz.func114, Tryz.ntmps114
    go_wp2_with (go_at_call 146; go_in)
    go_ret
    exact ⟨rfl, rfl⟩
  · rw [if_neg h1]
    by_cases h2 : y < x
    · rw [if_pos h2]
      have h1' : decide (x < y) = false := by simpa using h1
      clear h1
      go_enter Tryz.func114, Tryz.ntmps114
      go_wp2_with (go_at_call 146; go_in)
      go_ret
      exact ⟨rfl, rfl⟩
    · rw [if_neg h2]
      have h1' : decide (x < y) = false := by simpa using h1
      have h2' : decide (y < x) = false := by simpa using h2
      clear h1 h2
      go_enter Tryz.func114, Tryz.ntmps114
      go_wp2_with (go_at_call 146; go_in)
      go_ret
      exact ⟨rfl, rfl⟩

theorem below_drew1 {B : Nat} {W w : World} (h : Below B W w) : Below B W w.drew := below_drewN h 1
theorem below_box2 (w : World) (o1 o2 : Obj) : Below w.heap.size w ((w.alloc o1).alloc o2) := below_box (below_box (Below.refl _ _) _) _
theorem below_on {w w1 : World} {o1 o2 : Obj} (hb1 : Below ((w.alloc o1).alloc o2).heap.size ((w.alloc o1).alloc o2) w1) : Below w.heap.size w w1 := (below_box2 w o1 o2).trans (hb1.mono (by simp; omega))

set_option maxHeartbeats 4000000 in
set_option maxRecDepth 100000 in
theorem iByText (k n : Int) (s : ByteArray) (k1 n1 : Int) (s1 : ByteArray) (a : Addr) (w : World) (hc : w.cell? ⟨1, 0, none⟩ = some (.iface 252 (.pointer (some a)))) (hT : Lib.TabIs Tryz.prog w "internal/strconv.uint64pow10" .u64 Lib.pow10Tab) (hs : (s.size : Int) ≤ 1048576) (hs1 : (s1.size : Int) ≤ 1048576) :
    Calls Tryz.prog 71 #[.agg #[.int .i64 k, .int .i64 n, .string s], .agg #[.int .i64 k1, .int .i64 n1, .string s1], .func (.func 35) #[] #[]] w fun e w' => e = .returned (.int .i64 (Vl.cmpS (Vl.textV k n s) (Vl.textV k1 n1 s1))) ∧ Below w.heap.size w w' := by
  have c0 : ∀ wx : World, Below ((w.alloc (.cells #[.int .i64 k, .int .i64 n, .string s] 45)).alloc (.cells #[.int .i64 k1, .int .i64 n1, .string s1] 45)).heap.size ((w.alloc (.cells #[.int .i64 k, .int .i64 n, .string s] 45)).alloc (.cells #[.int .i64 k1, .int .i64 n1, .string s1] 45)) wx → Calls Tryz.prog 35 #[.agg #[.int .i64 k, .int .i64 n, .string s]] wx fun e w' => e = .returned (.string (Vl.textV k n s)) ∧ Below ((w.alloc (.cells #[.int .i64 k, .int .i64 n, .string s] 45)).alloc (.cells #[.int .i64 k1, .int .i64 n1, .string s1] 45)).heap.size ((w.alloc (.cells #[.int .i64 k, .int .i64 n, .string s] 45)).alloc (.cells #[.int .i64 k1, .int .i64 n1, .string s1] 45)) w' := fun wx h => ((iToText k n s a wx (sent_later hc (below_on h)) (tab_later hT (below_on h)) hs).mono fun e w' ⟨he, hb⟩ => ⟨he, h.trans (hb.mono h.size)⟩)
  have c1 : ∀ wx : World, Below ((w.alloc (.cells #[.int .i64 k, .int .i64 n, .string s] 45)).alloc (.cells #[.int .i64 k1, .int .i64 n1, .string s1] 45)).heap.size ((w.alloc (.cells #[.int .i64 k, .int .i64 n, .string s] 45)).alloc (.cells #[.int .i64 k1, .int .i64 n1, .string s1] 45)) wx → Calls Tryz.prog 35 #[.agg #[.int .i64 k1, .int .i64 n1, .string s1]] wx fun e w' => e = .returned (.string (Vl.textV k1 n1 s1)) ∧ Below ((w.alloc (.cells #[.int .i64 k, .int .i64 n, .string s] 45)).alloc (.cells #[.int .i64 k1, .int .i64 n1, .string s1] 45)).heap.size ((w.alloc (.cells #[.int .i64 k, .int .i64 n, .string s] 45)).alloc (.cells #[.int .i64 k1, .int .i64 n1, .string s1] 45)) w' := fun wx h => ((iToText k1 n1 s1 a wx (sent_later hc (below_on h)) (tab_later hT (below_on h)) hs1).mono fun e w' ⟨he, hb⟩ => ⟨he, h.trans (hb.mono h.size)⟩)
  have c2 := fun w => iCmpS (Vl.textV k n s) (Vl.textV k1 n1 s1) w
  clear hc hT
  generalize Vl.textV k n s = T at *
  generalize Vl.textV k1 n1 s1 = T1 at *
  go_enter Tryz.func71, Tryz.ntmps71
  go_wp2_with fail
  go_region_with (first | (go_at_call 35; with_reducible refine (c0 _ ?_).mono ?_; (repeat (first | assumption | exact Below.refl _ _ | refine below_drew1 ?_)); rintro e w2 ⟨rfl, hb2⟩; obtain ⟨hc2, hf2⟩ := bcell hb2; have hz2 : w.heap.size + 1 < w2.heap.size := by (have := hb2.size; simp at this; omega)) | (go_at_call 35; with_reducible refine (c1 _ ?_).mono ?_; (repeat (first | assumption | exact Below.refl _ _ | refine below_drew1 ?_)); rintro e w2 ⟨rfl, hb2⟩; obtain ⟨hc2, hf2⟩ := bcell hb2; have hz2 : w.heap.size + 1 < w2.heap.size := by (have := hb2.size; simp at this; omega)) | (go_at_call 113; refine (c2 _).mono ?_; rintro e w2 ⟨rfl, hw2⟩; have hw2 := hw2.symm; subst hw2))
  all_goals
    go_wp2_with fail
    go_ret
    exact ⟨rfl, below_on (by (repeat (first | assumption | exact Below.refl _ _ | refine below_drew1 ?_)))⟩
set_option maxHeartbeats 4000000 in
set_option maxRecDepth 100000 in
theorem iByNum (k n : Int) (s : ByteArray) (k1 n1 : Int) (s1 : ByteArray) (a : Addr) (w : World) (hc : w.cell? ⟨1, 0, none⟩ = some (.iface 252 (.pointer (some a)))) (hT : Lib.TabIs Tryz.prog w "internal/strconv.uint64pow10" .u64 Lib.pow10Tab) (hs : (s.size : Int) ≤ 1048576) (hs1 : (s1.size : Int) ≤ 1048576) :
    Calls Tryz.prog 72 #[.agg #[.int .i64 k, .int .i64 n, .string s], .agg #[.int .i64 k1, .int .i64 n1, .string s1], .func (.func 33) #[] #[]] w fun e w' => e = .returned (.int .i64 (Vl.cmpI (Vl.numV k n s) (Vl.numV k1 n1 s1))) ∧ Below w.heap.size w w' := by
  have c0 : ∀ wx : World, Below ((w.alloc (.cells #[.int .i64 k, .int .i64 n, .string s] 45)).alloc (.cells #[.int .i64 k1, .int .i64 n1, .string s1] 45)).heap.size ((w.alloc (.cells #[.int .i64 k, .int .i64 n, .string s] 45)).alloc (.cells #[.int .i64 k1, .int .i64 n1, .string s1] 45)) wx → Calls Tryz.prog 33 #[.agg #[.int .i64 k, .int .i64 n, .string s]] wx fun e w' => e = .returned (.int .i64 (Vl.numV k n s)) ∧ Below ((w.alloc (.cells #[.int .i64 k, .int .i64 n, .string s] 45)).alloc (.cells #[.int .i64 k1, .int .i64 n1, .string s1] 45)).heap.size ((w.alloc (.cells #[.int .i64 k, .int .i64 n, .string s] 45)).alloc (.cells #[.int .i64 k1, .int .i64 n1, .string s1] 45)) w' := fun wx h => ((iToNum k n s a wx (sent_later hc (below_on h)) hs).mono fun e w' ⟨he, hb⟩ => ⟨he, h.trans (hb.mono h.size)⟩)
  have c1 : ∀ wx : World, Below ((w.alloc (.cells #[.int .i64 k, .int .i64 n, .string s] 45)).alloc (.cells #[.int .i64 k1, .int .i64 n1, .string s1] 45)).heap.size ((w.alloc (.cells #[.int .i64 k, .int .i64 n, .string s] 45)).alloc (.cells #[.int .i64 k1, .int .i64 n1, .string s1] 45)) wx → Calls Tryz.prog 33 #[.agg #[.int .i64 k1, .int .i64 n1, .string s1]] wx fun e w' => e = .returned (.int .i64 (Vl.numV k1 n1 s1)) ∧ Below ((w.alloc (.cells #[.int .i64 k, .int .i64 n, .string s] 45)).alloc (.cells #[.int .i64 k1, .int .i64 n1, .string s1] 45)).heap.size ((w.alloc (.cells #[.int .i64 k, .int .i64 n, .string s] 45)).alloc (.cells #[.int .i64 k1, .int .i64 n1, .string s1] 45)) w' := fun wx h => ((iToNum k1 n1 s1 a wx (sent_later hc (below_on h)) hs1).mono fun e w' ⟨he, hb⟩ => ⟨he, h.trans (hb.mono h.size)⟩)
  have c2 := fun w => iCmpI (Vl.numV k n s) (Vl.numV k1 n1 s1) w
  clear hc hT
  generalize Vl.numV k n s = T at *
  generalize Vl.numV k1 n1 s1 = T1 at *
  go_enter Tryz.func72, Tryz.ntmps72
  go_wp2_with fail
  go_region_with (first | (go_at_call 33; with_reducible refine (c0 _ ?_).mono ?_; (repeat (first | assumption | exact Below.refl _ _ | refine below_drew1 ?_)); rintro e w2 ⟨rfl, hb2⟩; obtain ⟨hc2, hf2⟩ := bcell hb2; have hz2 : w.heap.size + 1 < w2.heap.size := by (have := hb2.size; simp at this; omega)) | (go_at_call 33; with_reducible refine (c1 _ ?_).mono ?_; (repeat (first | assumption | exact Below.refl _ _ | refine below_drew1 ?_)); rintro e w2 ⟨rfl, hb2⟩; obtain ⟨hc2, hf2⟩ := bcell hb2; have hz2 : w.heap.size + 1 < w2.heap.size := by (have := hb2.size; simp at this; omega)) | (go_at_call 114; refine (c2 _).mono ?_; rintro e w2 ⟨rfl, hw2⟩; have hw2 := hw2.symm; subst hw2))
  all_goals
    go_wp2_with fail
    go_ret
    exact ⟨rfl, below_on (by (repeat (first | assumption | exact Below.refl _ _ | refine below_drew1 ?_)))⟩
end Go.Proofs.YtdkeinnljbfopadGreatDoor
