/-
  DecOk of the program and of the specification, at every argument, in any world that has grown.
-/
import Derived.Test.YtipjgkekjocljabDecWalks
import Derived.Test.YtipjgkekjocljabDecMath
import Derived.Below
namespace Go.Proofs.Ytipjgkekjocljab
open Go.RowKit Go.Extern.Stop Go.Stop Go.Extern

theorem below_drewN {B : Nat} {W w : World} (h : Below B W w) (n : Nat) : Below B W (w.drewN n) := ⟨h.os, h.tape, h.output, h.size, h.block⟩
end Go.Proofs.Ytipjgkekjocljab
