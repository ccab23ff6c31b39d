/-
  The front of a text, as the program cuts it: plainFront, signedFront.
-/
import Derived.Test.YtipjgkekjocljabNumRow
import Derived.Test.YtipjgkekjocljabShelf
namespace Go.Proofs.Ytipjgkekjocljab
open Go.RowKit Go.Extern.Stop Go.Stop Go.Extern

theorem bcell {W w1 : World} (hb : Below W.heap.size W w1) : (∀ b o, b < W.heap.size → w1.cell? ⟨b, o, none⟩ = W.cell? ⟨b, o, none⟩) ∧ (∀ b o, b < W.heap.size → w1.frozen? ⟨b, o, none⟩ = W.frozen? ⟨b, o, none⟩) :=
  ⟨fun b o h => hb.cell (p := ⟨b, o, none⟩) h, fun b o h => hb.frozen (p := ⟨b, o, none⟩) h⟩
def partsV (p : Num.Parts) : Value := .agg #[.bool p.below, .string ⟨p.whole.toArray⟩, .string ⟨p.rest.toArray⟩, .int .i64 p.size]
theorem mk_data (s : ByteArray) : (⟨s.data.toList.toArray⟩ : ByteArray) = s := by simp

end Go.Proofs.Ytipjgkekjocljab
