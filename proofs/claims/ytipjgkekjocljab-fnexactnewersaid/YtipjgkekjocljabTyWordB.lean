/-
  Words of tidy trees: names, texts, patterns.
-/
import Derived.Test.YtipjgkekjocljabTyWord
namespace Go.Proofs.Ytipjgkekjocljab
open Go.RowKit
namespace Ty
def strV (s : List UInt8) : Value := .string ⟨s.toArray⟩
def StrRow (w : World) (g : Nat) (L : List (List UInt8)) : Prop := ∀ j s, L[j]? = some s → w.cell? ⟨g, j, none⟩ = some (.string ⟨s.toArray⟩)

theorem strRow_new (w : World) (L : List (List UInt8)) (o : Obj) (ho : o = .cells (L.map strV).toArray 9) : StrRow (w.alloc o) w.heap.size L := fun j s h => by
  have := heap_alloc_new w o
  subst ho
  exact (cell_of_row _ _ j _ _ _ this).trans (by simp [h, strV])

theorem key_eq (s : List UInt8) : keyB s = (decide (s ∈ orderL ++ ownL) || callB s) := rfl
end Ty
end Go.Proofs.Ytipjgkekjocljab
