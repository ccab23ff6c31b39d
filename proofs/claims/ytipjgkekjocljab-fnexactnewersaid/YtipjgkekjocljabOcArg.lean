/-
  Lists of places of a stack: the laws' sizes, copies and comparisons of them.
-/
import Derived.Test.YtipjgkekjocljabStRow
import Derived.OwnWalk
import Derived.WalkLawsBesides
import Derived.Deep.RegionWith
import Derived.Deep.CutBlock
import Derived.Deep.CutRange
import Derived.Deep.DeepCutAuto
import Derived.BigQuiet
import Derived.Deep.QuietTactic
import Derived.Deep.LoopGhost
namespace Go.Proofs.Ytipjgkekjocljab
open Go.RowKit
namespace Oc
open St

theorem hold {p : Prop} (h : Hid p) : p := h
theorem heap_lt {w : World} {g : Nat} {o : Obj} (h : w.heap[g]? = some o) : g < w.heap.size := (Array.getElem?_eq_some_iff.1 h).1
theorem heap_new (w : World) (o : Obj) : (w.alloc o).heap[w.heap.size]? = some o := heap_alloc_new w o

/-- A block of cells. -/
def Blk (T : TypeId) (w : World) (B : Nat) (xs : List Value) : Prop := w.heap[B]? = some (.cells xs.toArray T (0, 0))

theorem Blk.lt {T : TypeId} {w : World} {B : Nat} {xs : List Value} (h : Blk T w B xs) : B < w.heap.size := heap_lt h

theorem Blk.cell {T : TypeId} {w : World} {B : Nat} {xs : List Value} (h : Blk T w B xs) (j : Nat) {x : Value} (hx : xs[j]? = some x) : w.cell? ⟨B, j, none⟩ = some x := by
  unfold Blk at h
  simp only [World.cell?, h]
  simpa using hx

theorem Blk.frozen {T : TypeId} {w : World} {B : Nat} {xs : List Value} (h : Blk T w B xs) (k : Nat) : w.frozen? ⟨B, k, none⟩ = false := by
  unfold Blk at h
  simp [World.frozen?, h]

theorem Blk.set {T : TypeId} {w : World} {B : Nat} {xs : List Value} (h : Blk T w B xs) (j : Nat) (x : Value) : Blk T (w.setCell ⟨B, j, none⟩ x) B (xs.set j x) := by
  unfold Blk at h ⊢
  have : (xs.set j x).toArray = xs.toArray.set! j x := by apply Array.ext'; simp
  rw [this]
  simp [World.setCell, Array.getElem?_modify, h]

theorem Blk.other {T : TypeId} {w : World} {B : Nat} {xs : List Value} (h : Blk T w B xs) {g : Nat} (hg : B ≠ g) (j : Nat) (x : Value) : Blk T (w.setCell ⟨g, j, none⟩ x) B xs := (Below.heap_setCell _ _ _ _ hg).trans h

theorem Blk.alloc {T : TypeId} {w : World} {B : Nat} {xs : List Value} (h : Blk T w B xs) (o : Obj) : Blk T (w.alloc o) B xs := (Below.heap_alloc _ _ _ h.lt).trans h

theorem Blk.below {T : TypeId} {w w' : World} {B : Nat} {xs : List Value} (h : Blk T w B xs) (hb : Below w.heap.size w w') : Blk T w' B xs := (hb.block _ h.lt).trans h

theorem Blk.new (T : TypeId) (w : World) (xs : List Value) : Blk T (w.alloc (.cells xs.toArray T)) w.heap.size xs := heap_new _ _

def SmV (v : Vl) : Prop := v.2.2.size ≤ 1048576

theorem smv_max {vs : List Vl} (h : ∀ v ∈ vs, SmV v) : ∀ v ∈ vs, v.2.2.size ≤ maxLen := fun v hv => by
  have := h v hv
  unfold SmV at this
  unfold maxLen
  omega

end Oc
end Go.Proofs.Ytipjgkekjocljab
