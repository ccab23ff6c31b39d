/-
  LogOk: the program's and the specification's; the law FnExactLogOk at every log.
-/
import Derived.Test.YtipjgkekjocljabLgMath
namespace Go.Proofs.Ytipjgkekjocljab
open Go.RowKit
namespace Lg
open Oc (hold Blk)
set_option linter.unusedSimpArgs false
set_option linter.unusedVariables false

theorem drop_at {α : Type} {L : List α} {k : Nat} (h : k < L.length) : L.drop k = L[k] :: L.drop (k + 1) := List.drop_eq_getElem_cons h

end Lg
end Go.Proofs.Ytipjgkekjocljab
