/-
  Words of tidy trees: names, texts, patterns, gone through.
-/
import Derived.Test.YtipjgkekjocljabTyWordB
import Derived.Lib.IndexAny
namespace Go.Proofs.Ytipjgkekjocljab
open Go.RowKit
namespace Ty

theorem ltr_cons (c : UInt8) (r : List UInt8) : lettersB (c :: r) = (letB c.toNat && lettersB r) := by simp [lettersB]
theorem toList_mk (s : List UInt8) : (⟨s.toArray⟩ : ByteArray).data.toList = s := rfl

end Ty
end Go.Proofs.Ytipjgkekjocljab
