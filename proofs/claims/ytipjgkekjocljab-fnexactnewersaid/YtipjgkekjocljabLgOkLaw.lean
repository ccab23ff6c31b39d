/-
  The law FnExactLogOk at every log.
-/
import Derived.Test.YtipjgkekjocljabLgOk
namespace Go.Proofs.Ytipjgkekjocljab
open Go.RowKit
namespace Lg
open Oc (hold Blk)
set_option linter.unusedSimpArgs false
set_option linter.unusedVariables false

/-- The argument stands in its variable, and nothing that was has turned. -/
structure Lw (w : World) (p : List Value) (wr : World) : Prop where
  below : Below w.heap.size w wr
  arg : Blk 24 wr w.heap.size p
theorem Lw.new (w : World) (p : List Value) : Lw w p (w.alloc (.cells p.toArray 24)) := ⟨(Below.refl _ w).alloc (Nat.le_refl _) _, Blk.new _ _ _⟩
theorem Lw.later {w wr w' : World} {p : List Value} (h : Lw w p wr) (hb : Below wr.heap.size wr w') : Lw w p w' := ⟨h.below.trans (hb.mono h.below.size), h.arg.below hb⟩
theorem Lw.alloc {w wr : World} {p : List Value} (h : Lw w p wr) (o : Obj) : Lw w p (wr.alloc o) := h.later ((Below.refl _ wr).alloc (Nat.le_refl _) o)
theorem box (w : World) (o : Obj) : Below w.heap.size w (w.alloc o) := (Below.refl _ w).alloc (Nat.le_refl _) o

end Lg
end Go.Proofs.Ytipjgkekjocljab
