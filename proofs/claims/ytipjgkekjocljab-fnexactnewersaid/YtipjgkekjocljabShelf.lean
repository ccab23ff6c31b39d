/-
  The contracts of the library that these proofs call, laid at this translation.
-/
import Derived.Shelf.Lay
import Derived.Shelf.LaySoft
import Derived.Test.YtipjgkekjocljabProg
namespace Go.Proofs
open Go.Shelf
end Go.Proofs
