/-
  Words of tidy trees: names, texts, patterns, gone through.
-/
import Derived.Test.YtipjgkekjocljaaTyWordB
import Derived.Lib.IndexAny
namespace Go.Proofs.Ytipjgkekjocljaa
open Go.RowKit
namespace Ty

theorem ltr_cons (c : UInt8) (r : List UInt8) : lettersB (c :: r) = (letB c.toNat && lettersB r) := by simp [lettersB]
theorem toList_mk (s : List UInt8) : (⟨s.toArray⟩ : ByteArray).data.toList = s := rfl

set_option maxRecDepth 100000 in
theorem sLine (s : ByteArray) (hs : (s.size : Int) ≤ 1048576) (w : World) :
    Calls Try.prog 38 #[.string s] w fun e w' => e = .returned (.bool (lineB s.data.toList)) ∧ w' = w := by
  go_enter Try.func38, Try.ntmps38
  go_wp2_with fail
  go_loopw [3] (fun i wr => ∃ k : Nat, k ≤ s.size ∧ i = .int .i64 k ∧ wr = w ∧ lineB s.data.toList = lineB (s.data.toList.drop k)) (fun i _ => s.size - (intOf i).toNat)
  case atStart => exact ⟨0, by omega, rfl, rfl, rfl⟩
  case round =>
    obtain ⟨k, hk, rfl, rfl, hno⟩ := hrel
    by_cases hkl : k < s.size
    · rw [drop_at hkl, line_cons] at hno
      by_cases hb : s[k].toNat = 10
      · have H : Hid (lineB s.data.toList = false) := by show _ = _; rw [hno, hb]; simp
        have e1 : (s[k].toNat : Int) = 10 := by omega
        have e2 : ((s[k].toNat : Int) == 10) = true := by rw [e1]; rfl
        clear hno
        go_wp2_with fail
        go_ret
        exact ⟨by rw [H.out]; rfl, rfl⟩
      · have H : Hid (lineB s.data.toList = lineB (s.data.toList.drop (k + 1))) := by show _ = _; rw [hno]; simp [hb]
        have e1 : ¬ (s[k].toNat : Int) = 10 := by omega
        have e2 : ((s[k].toNat : Int) == 10) = false := beq_eq_false_iff_ne.2 e1
        clear hno
        go_wp2_with fail
        go_roundw
        case rel => exact ⟨k + 1, by omega, by go_num, by trivial, H.out⟩
        case measure => simp [intOf]; omega
    · obtain rfl : k = s.size := by omega
      have H : Hid (lineB s.data.toList = true) := by show _ = _; rw [hno, drop_end (Nat.le_refl _)]; rfl
      clear hno
      go_wp2_with fail
      go_ret
      exact ⟨by rw [H.out]; rfl, rfl⟩

end Ty
end Go.Proofs.Ytipjgkekjocljaa
