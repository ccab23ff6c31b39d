/-
  errors.Is by two contracts (the sentinel itself: true; nil: false), and the small functions of chapter 1 by theirs; the world is as it was.
-/
import Derived.Test.YtipjgkekjocljabProg
import Derived.WalkKit
import Derived.LaidEql
import Derived.RowKitTokens
namespace Go.Proofs.Ytipjgkekjocljab
open Go.RowKit Go.Extern.Stop Go.Stop Go.Extern
/-- The entry behind (rtype).Comparable, under a name of its own, so that the walk does not open it. -/
def cmpEntry : Array Value → Sem Value := Extern.ReflectliteType.method fun t => do Rtype.noPackHeld "Comparable" t; pure (.bool (← typeInfo t).comparable)
end Go.Proofs.Ytipjgkekjocljab
