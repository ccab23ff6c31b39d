/-
  FnBrackets: a text in brackets tells what the text tells.
-/
import Derived.Test.YthagicpockpfjaiDoorBrkMath
import Derived.Test.YthagicpockpfjaiDoorRexRight
import Derived.Test.YthagicpockpfjaiDoorRexFace
namespace Go.Proofs.YthagicpockpfjaiDoor
open Go.RowKit
namespace Rx

/-- A text in brackets. -/
def brk (s : ByteArray) : ByteArray := (⟨#[40]⟩ ++ s) ++ ⟨#[41]⟩

theorem brk_size (s : ByteArray) : (brk s).size = s.size + 2 := by
  unfold brk
  rw [ByteArray.size_append, ByteArray.size_append]
  show 1 + s.size + 1 = _
  omega

theorem brk_data (s : ByteArray) : (brk s).data.toList = 40 :: (s.data.toList ++ [41]) := by
  unfold brk
  simp [ByteArray.data_append]

theorem gOf_list (s : ByteArray) (i : Nat) : gOf s i = (s.data.toList[i]?.map UInt8.toNat).getD 256 := by
  unfold gOf
  split
  · rename_i h
    have h' : i < s.data.toList.length := by simpa using h
    rw [List.getElem?_eq_getElem h']
    simp
    rfl
  · rename_i h
    have h' : s.data.toList.length ≤ i := by
      have : s.data.toList.length = s.size := by simp
      omega
    rw [List.getElem?_eq_none h']
    rfl

theorem brk_sh (s : ByteArray) : Sh (gOf s) (gOf (brk s)) s.size where
  mid := by
    intro i hi
    have h' : i < s.data.toList.length := by simpa using hi
    rw [gOf_list, gOf_list, brk_data, List.getElem?_cons_succ, List.getElem?_append_left h']
  shut := by
    have h' : s.data.toList.length = s.size := by simp
    rw [gOf_list, brk_data, List.getElem?_cons_succ, List.getElem?_append_right (by omega), h']
    simp
  out := fun i h => gOf_out h

theorem parse_brk {s : ByteArray} {t : Data} (hs : s.size ≤ 58) (h : parseV s = some t) : parseV (brk s) = some t := by
  unfold parseV at h ⊢
  rw [if_neg (by omega)] at h
  rw [brk_size, if_neg (by omega)]
  refine whole_brk (brk_sh s) ?_ ?_ hs h
  · rw [gOf_list, brk_data]; rfl
  · intro i hi
    exact gOf_out (by rw [brk_size]; omega)

theorem parse_empty : (parseV ⟨#[]⟩).isSome = true := by decide

theorem parse_right {s : ByteArray} {t : Data} (h : parseV s = some t) : RightD 12 t ∧ cnt t ≤ 1000 := by
  unfold parseV at h
  split at h
  · simp at h
  · refine ⟨whole_right (fun i => ?_) h, ?_⟩
    · rcases Nat.lt_or_ge i s.size with hi | hi
      · exact Nat.le_of_lt (gOf_lt hi)
      · rw [gOf_out hi]; exact Nat.le_refl _
    · have := whole_cnt (fun i h => gOf_out h) h
      omega

end Rx
end Go.Proofs.YthagicpockpfjaiDoor
