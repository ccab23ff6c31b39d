/-
  Rows of bytes at the front of a text: rowOf, blanksOf, digitsOf.
-/
import Derived.Test.YtipjgkekjocljabDecBase
import Derived.Test.YtipjgkekjocljabNumSpec
import Derived.Laws.RangeString
import Derived.Laws.RangeAny
import Derived.LoopTactic
namespace Go.Proofs.Ytipjgkekjocljab
open Go.RowKit Go.Extern.Stop Go.Stop Go.Extern

theorem low_of {b : UInt8} {lo hi : Nat} (h : (decide (lo ≤ b.toNat) && decide (b.toNat ≤ hi)) = true) : lo ≤ b.toNat ∧ b.toNat ≤ hi := by simpa using h
theorem get_l {s : ByteArray} {k : Nat} (h : k < s.size) : s.data.toList[k]'(by simpa using h) = s[k] := rfl
theorem below_iter (w : World) (s : ByteArray) (pos : Nat) : Below w.heap.size w (w.iter s pos) := (Below.refl _ w).alloc (Nat.le_refl _) _

theorem ret_nat {a b : Nat} (h : a = b) : Ending.returned (.int .i64 (a : Int)) = .returned (.int .i64 (b : Int)) := by rw [h]

end Go.Proofs.Ytipjgkekjocljab
