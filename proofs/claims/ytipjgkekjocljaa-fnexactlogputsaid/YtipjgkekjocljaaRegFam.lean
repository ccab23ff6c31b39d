/-
  A region that draws its order and whose callees make memory alone, walked once, in the order of the text: the worlds grown out of one, as a family.
-/
import Derived.Test.YtipjgkekjocljaaProg
import Derived.Deep.QuietTactic
import Derived.BigQuiet
import Derived.WalkKit
import Derived.Below
namespace Go.Proofs.Ytipjgkekjocljaa
open Go.RowKit
namespace Fam
/-- The worlds grown out of W. -/
theorem family (W : World) : ∃ (I : Type) (F : I → World), Nonempty I ∧ (∀ i, Below W.heap.size W (F i)) ∧ (∀ w', Below W.heap.size W w' → ∃ i, w' = F i) :=
  ⟨{w' : World // Below W.heap.size W w'}, Subtype.val, ⟨⟨W, Below.refl _ W⟩⟩, fun i => i.2, fun w' h => ⟨⟨w', h⟩, rfl⟩⟩
/-- The worlds of any kind of one's own. -/
theorem familyOf (S : World → Prop) {W : World} (h : S W) : ∃ (I : Type) (F : I → World), Nonempty I ∧ (∀ i, S (F i)) ∧ (∀ w', S w' → ∃ i, w' = F i) :=
  ⟨{w' : World // S w'}, Subtype.val, ⟨⟨W, h⟩⟩, fun i => i.2, fun w' h => ⟨⟨w', h⟩, rfl⟩⟩
theorem wp_region_fam {P : Program} {I : Type} {F : I → World} {id : Nat} {Q : Exit → Act → World → Prop} {a : Act} {w : World} {l : List Oper} (hm : P.follows .mixedOrders = true) (hB : Region.lexB .any l.toArray = true)
    (hC : ∃ i, w.drew = F i) (h : wpQuiet P l.toArray (fun w' => ∃ i, w' = F i) (fun a' => ∀ w', (∃ i, w' = F i) → Q .normal a' w') l a) : (Code.region id l.toArray true).wp P Q a w :=
  wp_region_quiet (C := fun w' => ∃ i, w' = F i) hm hB hC h
end Fam
end Go.Proofs.Ytipjgkekjocljaa
