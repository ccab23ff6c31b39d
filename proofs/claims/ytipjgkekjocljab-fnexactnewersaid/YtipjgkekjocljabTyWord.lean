/-
  Words of tidy trees: the program's and the specification's functions.
-/
import Derived.Test.YtipjgkekjocljabTyMath
import Derived.Test.YtipjgkekjocljabChecked
import Derived.Test.YtipjgkekjocljabShelf
import Derived.Laws.AppendOwn
import Derived.Below
import Derived.OwnWalk
import Derived.WalkKit
import Derived.WalkLawsBesides
import Derived.Deep.RegionWith
import Derived.Deep.CutBlock
import Derived.Deep.CutRange
import Derived.Deep.DeepCutAuto
import Derived.BigQuiet
import Derived.Deep.QuietTactic
import Derived.Deep.LoopGhost
namespace Go.Proofs.Ytipjgkekjocljab
open Go.RowKit
namespace Ty

theorem drop_at {s : ByteArray} {k : Nat} (h : k < s.size) : s.data.toList.drop k = s[k] :: s.data.toList.drop (k + 1) := by
  rw [List.drop_eq_getElem_cons (by simpa using h)]
  rfl
theorem drop_end {s : ByteArray} {k : Nat} (h : s.size ≤ k) : s.data.toList.drop k = [] := List.drop_eq_nil_of_le (by simpa using h)

end Ty
end Go.Proofs.Ytipjgkekjocljab
