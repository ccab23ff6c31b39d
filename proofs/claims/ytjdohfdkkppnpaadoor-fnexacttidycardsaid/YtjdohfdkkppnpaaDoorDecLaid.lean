/-
  What the listed variable errNotRight gives a walk (its cell holds one pointer to an errorString), and that the program's own start meets the condition.
-/
import Derived.Test.YtjdohfdkkppnpaaDoorRows
import Derived.WalkKit
import Derived.ProofKit
import Derived.LaidMore
import Derived.OpenShut
import Derived.LaidLaws
import Derived.RowKitTokens
import Derived.Stop.LaidErr
import Derived.Stop.Joined
namespace Go.Proofs.YtjdohfdkkppnpaaDoor
open Go.ChangeShapes Go.WideShapes Go.ChangeAt Go.RowKit

theorem own : ownKnob Tryd.prog.godebug = none := by kernel_rfl
theorem gErr : Tryd.prog.globalNamed "loop.example/g00289/impl.errNotRight" = some 0 := by kernel_rfl
theorem tErr : (Tryd.prog.globals[0]?).map (·.type) = some 73 := by kernel_rfl
theorem cellsEs : Tryd.prog.cellsOf 128 = 1 := by kernel_rfl
theorem cellsStr : Tryd.prog.cellsOf 9 = 1 := by kernel_rfl
theorem star : "*" ++ "errors.errorString" = "*errors.errorString" := by decide
theorem rowEs (u : TypeId) (h : Tryd.prog.typeName? 3 u = some "*errors.errorString") : u = 103 :=
  typeName_ptr_named (nm := "errors.errorString") (by rw [star]; kernel_rfl) (by kernel_rfl) (by decide) u (by rw [star]; exact h)

def laidE : List (String × DataW Unit) := [("loop.example/g00289/impl.errNotRight", Rows.laid_loop_example_g00289_impl_errNotRight)]

theorem door_met (os : Os) (args : Array Value) : laidMetH Tryd.prog laidE ((World.doorLaid Tryd.prog 28 os).forCall (fun _ _ => 0) ⟨#[], args, []⟩).memory :=
  laidMetH_of_parts3 (fuel := 8) (laidMet_of_run' 8 (by kernel_rfl) (by kernel_rfl)) (by kernel_rfl) (by kernel_rfl)

theorem of_laid {W : World} (h : laidMetH Tryd.prog laidE W) :
    ∃ a : Addr, W.var? Tryd.prog "loop.example/g00289/impl.errNotRight" = some #[.iface 103 (.pointer (some a))] ∧ W.cell? ⟨0, 0, none⟩ = some (.iface 103 (.pointer (some a))) := by
  rw [MakeChecks.laidMetH_plain _ _ _ (by kernel_rfl)] at h
  obtain ⟨a, s, hv, _⟩ := laid_sentinel h gErr tErr Tryd.underlying73 rowEs Tryd.underlying103 Tryd.underlying128 rfl rfl Tryd.underlying9 cellsEs cellsStr
  exact ⟨a, hv, by simpa using World.var?_cell gErr hv 0⟩

end Go.Proofs.YtjdohfdkkppnpaaDoor
