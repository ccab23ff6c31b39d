/-
  Words of tidy trees, the program's: names, texts, patterns.
-/
import Derived.Test.YtipjgkekjocljabTyWordC
import Derived.Laws.IdiomStrings
namespace Go.Proofs.Ytipjgkekjocljab
open Go.RowKit
namespace Ty

theorem nl_index (l : List UInt8) : decide (0 ≤ Lib.indexByte l 10) = !lineB l := by
  rw [← Lib.contains_iff_indexByte]
  induction l with
  | nil => rfl
  | cons c r ih =>
    rw [List.contains_cons, ih, line_cons]
    have : ((10 : UInt8) == c) = !decide (c.toNat ≠ 10) := by
      rw [Bool.eq_iff_iff]
      simp only [beq_iff_eq, Bool.not_eq_true', decide_eq_false_iff_not, ne_eq, Decidable.not_not]
      constructor
      · rintro rfl; rfl
      · intro h; exact UInt8.toNat.inj h.symm
    rw [this]
    cases decide (c.toNat ≠ 10) <;> simp

/-- A text as bytes of its own. -/
def ByteRow (w : World) (g : Nat) (s : ByteArray) : Prop := ∀ k (h : k < s.size), w.cell? ⟨g, k, none⟩ = some (.int .u8 s[k].toNat)
theorem bytes_cell (w : World) (s : ByteArray) (cap n m : Nat) (T : TypeId) : ByteRow (w.alloc (.cells (bytesRow s cap) T (n, m))).drew w.heap.size s := fun k h => by
  have h0 : (w.alloc (.cells (bytesRow s cap) T (n, m))).drew.heap[w.heap.size]? = some (.cells (bytesRow s cap) T (n, m)) := heap_alloc_new w _
  refine (cell_of_row _ _ k _ _ _ h0).trans ?_
  unfold bytesRow
  rw [Array.getElem?_append_left (by simpa using h), Array.getElem?_map, Array.getElem?_eq_getElem (by simpa using h)]
  rfl

end Ty
end Go.Proofs.Ytipjgkekjocljab
