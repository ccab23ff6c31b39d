/-
  Chapter 6: a value as a text, by the program and by the specification, at every value.
-/
import Derived.Test.YtdkeinnljbfopadGreatDoorNumTextSpec
import Derived.Test.YtdkeinnljbfopadGreatDoorValRead
namespace Go.Proofs.YtdkeinnljbfopadGreatDoor
open Go.RowKit Go.Extern.Stop Go.Stop Go.Extern
set_option linter.unusedVariables false

set_option maxRecDepth 100000 in
theorem iToText (k n : Int) (s : ByteArray) (a : Addr) (w : World) (hc : w.cell? ⟨1, 0, none⟩ = some (.iface 252 (.pointer (some a)))) (hT : Lib.TabIs Tryz.prog w "internal/strconv.uint64pow10" .u64 Lib.pow10Tab) (hs : (s.size : Int) ≤ 1048576) :
    Calls Tryz.prog 35 #[.agg #[.int .i64 k, .int .i64 n, .string s]] w fun e w' => e = .returned (.string (Vl.textV k n s)) ∧ Below w.heap.size w w' := by
  by_cases h1 : k = 1
  · subst h1
    rw [Vl.text1]
    go_enter Tryz.func35, Tryz.ntmps35
    go_wp2_with (go_at_call 15; refine (iDecText n a _ (sent_later hc (below_box (Below.refl _ _) _)) (tab_later hT (below_box (Below.refl _ _) _))).mono ?_; rintro e w1 ⟨rfl, hb1⟩)
    go_ret
    exact ⟨rfl, (below_box (Below.refl _ _) _).trans (hb1.mono (by simp))⟩
  · rw [Vl.text0 h1]
    have e1 : (k == 1) = false := by simp [h1]
    clear h1
    go_enter Tryz.func35, Tryz.ntmps35
    go_wp2
    go_ret
    exact ⟨rfl, below_box (Below.refl _ _) _⟩

set_option maxRecDepth 100000 in
theorem sToText (k n : Int) (s : ByteArray) (w : World) (hs : (s.size : Int) ≤ 1048576) :
    Calls Tryz.prog 36 #[.agg #[.int .i64 k, .int .i64 n, .string s]] w fun e w' => e = .returned (.string (Vl.textV k n s)) ∧ Below w.heap.size w w' := by
  by_cases h1 : k = 1
  · subst h1
    rw [Vl.text1]
    go_enter Tryz.func36, Tryz.ntmps36
    go_wp2_with (go_at_call 17; refine (sDecText n _).mono ?_; rintro e w1 ⟨rfl, hb1⟩)
    go_ret
    exact ⟨rfl, (below_box (Below.refl _ _) _).trans (hb1.mono (by simp))⟩
  · rw [Vl.text0 h1]
    have e1 : (k == 1) = false := by simp [h1]
    clear h1
    go_enter Tryz.func36, Tryz.ntmps36
    go_wp2
    go_ret
    exact ⟨rfl, below_box (Below.refl _ _) _⟩

end Go.Proofs.YtdkeinnljbfopadGreatDoor
