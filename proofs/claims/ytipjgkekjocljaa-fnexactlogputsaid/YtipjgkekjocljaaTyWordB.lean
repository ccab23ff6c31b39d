/-
  Words of tidy trees: names, texts, patterns.
-/
import Derived.Test.YtipjgkekjocljaaTyWord
namespace Go.Proofs.Ytipjgkekjocljaa
open Go.RowKit
namespace Ty

theorem sIn1 (x lo hi : Int) (w : World) : Calls Try.prog 21 #[.int .i64 x, .int .i64 lo, .int .i64 hi] w fun e w' => e = .returned (.bool (decide (lo ≤ x) && decide (x ≤ hi))) ∧ w' = w := by
  by_cases h : lo ≤ x <;> by_cases h2 : x ≤ hi
  all_goals
    rw [show decide (lo ≤ x) = _ from by first | exact decide_eq_true h | exact decide_eq_false h, show decide (x ≤ hi) = _ from by first | exact decide_eq_true h2 | exact decide_eq_false h2]
    go_enter Try.func21, Try.ntmps21
    go_wp2_with fail
    go_ret
    exact ⟨rfl, rfl⟩

def strV (s : List UInt8) : Value := .string ⟨s.toArray⟩
def StrRow (w : World) (g : Nat) (L : List (List UInt8)) : Prop := ∀ j s, L[j]? = some s → w.cell? ⟨g, j, none⟩ = some (.string ⟨s.toArray⟩)

theorem strRow_new (w : World) (L : List (List UInt8)) (o : Obj) (ho : o = .cells (L.map strV).toArray 9) : StrRow (w.alloc o) w.heap.size L := fun j s h => by
  have := heap_alloc_new w o
  subst ho
  exact (cell_of_row _ _ j _ _ _ this).trans (by simp [h, strV])

theorem key_eq (s : List UInt8) : keyB s = (decide (s ∈ orderL ++ ownL) || callB s) := rfl
end Ty
end Go.Proofs.Ytipjgkekjocljaa
