/-
  The laws' comparisons of values and states; StateNew of both sides.
-/
import Derived.Test.YtipjgkekjocljabStRow
import Derived.Test.YtipjgkekjocljabMkText
namespace Go.Proofs.Ytipjgkekjocljab
open Go.RowKit
namespace St
open Nd Mk
/-- How many names there are. -/
def nn (z : Int) : Nat := if z < 0 then 0 else if 8 < z then 8 else z.toNat
theorem nn_le (z : Int) : nn z ≤ 8 := by unfold nn; split <;> (try split) <;> omega


theorem new_two {w : World} {o1 o2 : Obj} : ((w.alloc o1).alloc o2).heap[w.heap.size]? = some o1 ∧ ((w.alloc o1).alloc o2).heap[w.heap.size + 1]? = some o2 := by
  refine ⟨(Below.heap_alloc _ _ _ (by simp)).trans (heap_new w o1), ?_⟩
  have := heap_new (w.alloc o1) o2
  rwa [World.size_alloc] at this

end St
end Go.Proofs.Ytipjgkekjocljab
