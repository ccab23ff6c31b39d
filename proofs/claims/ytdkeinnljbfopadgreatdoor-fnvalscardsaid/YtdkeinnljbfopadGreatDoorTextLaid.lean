/-
  What the listed variables give a walk (errNotRight's cell holds one pointer to an errorString; the table uint64pow10 reads as it is laid), and that the program's own start meets the condition.
-/
import Derived.Test.YtdkeinnljbfopadGreatDoorRows
import Derived.WalkKit
import Derived.ProofKit
import Derived.LaidMore
import Derived.Lay
import Derived.OpenShut
import Derived.LaidLaws
import Derived.RowKitTokens
import Derived.Stop.LaidErr
import Derived.Stop.Joined
import Derived.Lib.LaidTab
import Derived.Lib.ItoaNum
namespace Go.Proofs.YtdkeinnljbfopadGreatDoor
open Go.ChangeShapes Go.WideShapes Go.ChangeAt Go.RowKit

theorem own : ownKnob Tryz.prog.godebug = none := by kernel_rfl
theorem gErr : Tryz.prog.globalNamed "loop.example/g00289/impl.errNotRight" = some 1 := by kernel_rfl
theorem tErr : (Tryz.prog.globals[1]?).map (·.type) = some 85 := by kernel_rfl
theorem cellsEs : Tryz.prog.cellsOf 274 = 1 := by kernel_rfl
theorem cellsStr : Tryz.prog.cellsOf 9 = 1 := by kernel_rfl
theorem star : "*" ++ "errors.errorString" = "*errors.errorString" := by decide
theorem rowEs (u : TypeId) (h : Tryz.prog.typeName? 3 u = some "*errors.errorString") : u = 252 :=
  typeName_ptr_named (nm := "errors.errorString") (by rw [star]; kernel_rfl) (by kernel_rfl) (by decide) u (by rw [star]; exact h)

theorem gPow : Tryz.prog.globalNamed "internal/strconv.uint64pow10" = some 2 := by kernel_rfl
theorem tPow : (Tryz.prog.globals[2]?).map (·.type) = some 236 := by kernel_rfl
theorem cPow : Tryz.prog.cellsOf 236 = 20 := by kernel_rfl
theorem cU64 : Tryz.prog.cellsOf 218 = 1 := by kernel_rfl

def laidT : List (String × DataW Unit) := [("math/bits.deBruijn32tab", Rows.laid_math_bits_deBruijn32tab), ("math/bits.deBruijn64tab", Rows.laid_math_bits_deBruijn64tab), ("internal/strconv.uint64pow10", Rows.laid_internal_strconv_uint64pow10), ("unicode/utf8.acceptRanges", Rows.laid_unicode_utf8_acceptRanges), ("loop.example/g00289/impl.errNotRight", Rows.laid_loop_example_g00289_impl_errNotRight), ("unicode/utf8.first", Rows.laid_unicode_utf8_first)]

theorem door_metT (os : Os) (args : Array Value) : laidMetH Tryz.prog laidT ((World.laidAll Tryz.prog os laidT).forCall (fun _ _ => 0) ⟨#[], args, []⟩).memory := by
  rw [MakeChecks.laidMetH_plain _ _ _ (by kernel_rfl)]; exact laidMet_laidAll _ (by kernel_rfl) (by kernel_rfl)

theorem pow_data : (Rows.laid_internal_strconv_uint64pow10 : DataW Unit) = Lib.tabData .u64 Lib.pow10Tab := by kernel_rfl

theorem of_laidT {W : World} (h : laidMetH Tryz.prog laidT W) :
    (∃ a : Addr, W.var? Tryz.prog "loop.example/g00289/impl.errNotRight" = some #[.iface 252 (.pointer (some a))] ∧ W.cell? ⟨1, 0, none⟩ = some (.iface 252 (.pointer (some a)))) ∧
    Lib.TabIs Tryz.prog W "internal/strconv.uint64pow10" .u64 Lib.pow10Tab := by
  rw [MakeChecks.laidMetH_plain _ _ _ (by kernel_rfl)] at h
  unfold laidT at h
  rw [pow_data] at h
  have h3 := h.tail.tail
  refine ⟨?_, Lib.tabIs_of_head gPow tPow Tryz.underlying236 Tryz.underlying218 cU64 cPow h3⟩
  obtain ⟨a, s, hv, _⟩ := laid_sentinel h3.tail.tail gErr tErr Tryz.underlying85 rowEs Tryz.underlying252 Tryz.underlying274 rfl rfl Tryz.underlying9 cellsEs cellsStr
  exact ⟨a, hv, by simpa using World.var?_cell gErr hv 0⟩

end Go.Proofs.YtdkeinnljbfopadGreatDoor
