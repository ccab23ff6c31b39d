/-
  Words of tidy trees: the program's and the specification's functions.
-/
import Derived.Test.YtjdohfdkkppnpaaDoorTyMath
import Derived.Test.YtjdohfdkkppnpaaDoorChecked
import Derived.Test.YtjdohfdkkppnpaaDoorShelf
import Derived.Laws.AppendOwn
import Derived.Below
import Derived.OwnWalk
import Derived.WalkKit
import Derived.WalkLawsBesides
import Derived.Deep.RegionWith
import Derived.Deep.CutBlock
import Derived.Deep.CutRange
import Derived.Deep.DeepCutAuto
import Derived.BigQuiet
import Derived.Deep.QuietTactic
import Derived.Deep.LoopGhost
namespace Go.Proofs.YtjdohfdkkppnpaaDoor
open Go.RowKit
namespace Ty

theorem drop_at {s : ByteArray} {k : Nat} (h : k < s.size) : s.data.toList.drop k = s[k] :: s.data.toList.drop (k + 1) := by
  rw [List.drop_eq_getElem_cons (by simpa using h)]
  rfl
theorem drop_end {s : ByteArray} {k : Nat} (h : s.size ≤ k) : s.data.toList.drop k = [] := List.drop_eq_nil_of_le (by simpa using h)

theorem iHasCall (s : List UInt8) (w : World) : Calls Tryd.prog 47 #[.string ⟨s.toArray⟩] w fun e w' => e = .returned (.bool (callB s)) ∧ w' = w := by
  by_cases h : s ∈ callL
  · have H : callB s = true := by simp [callB, h]
    rw [H]
    unfold callL at h
    simp only [List.mem_cons, List.not_mem_nil, or_false] at h
    rcases h with rfl | rfl | rfl | rfl | rfl | rfl
    all_goals
      go_enter Tryd.func47, Tryd.ntmps47
      go_wp2_with fail
      go_ret
      exact ⟨rfl, rfl⟩
  · have H : callB s = false := by simp [callB, h]
    rw [H]
    unfold callL at h
    simp only [List.mem_cons, List.not_mem_nil, or_false, not_or] at h
    obtain ⟨h1, h2, h3, h4, h5, h6⟩ := h
    replace h1 := beq_eq_false_iff_ne.2 h1
    replace h2 := beq_eq_false_iff_ne.2 h2
    replace h3 := beq_eq_false_iff_ne.2 h3
    replace h4 := beq_eq_false_iff_ne.2 h4
    replace h5 := beq_eq_false_iff_ne.2 h5
    replace h6 := beq_eq_false_iff_ne.2 h6
    go_enter Tryd.func47, Tryd.ntmps47
    go_wp2_with fail
    go_ret
    exact ⟨rfl, rfl⟩

theorem iHasOrder (s : List UInt8) (w : World) : Calls Tryd.prog 58 #[.string ⟨s.toArray⟩] w fun e w' => e = .returned (.bool (orderB s)) ∧ w' = w := by
  by_cases h : s ∈ orderL
  · have H : orderB s = true := by simp [orderB, h]
    rw [H]
    unfold orderL at h
    simp only [List.mem_cons, List.not_mem_nil, or_false] at h
    rcases h with rfl | rfl | rfl | rfl | rfl | rfl | rfl
    all_goals
      go_enter Tryd.func58, Tryd.ntmps58
      go_wp2_with fail
      go_ret
      exact ⟨rfl, rfl⟩
  · have H : orderB s = false := by simp [orderB, h]
    rw [H]
    unfold orderL at h
    simp only [List.mem_cons, List.not_mem_nil, or_false, not_or] at h
    obtain ⟨h1, h2, h3, h4, h5, h6, h7⟩ := h
    replace h1 := beq_eq_false_iff_ne.2 h1
    replace h2 := beq_eq_false_iff_ne.2 h2
    replace h3 := beq_eq_false_iff_ne.2 h3
    replace h4 := beq_eq_false_iff_ne.2 h4
    replace h5 := beq_eq_false_iff_ne.2 h5
    replace h6 := beq_eq_false_iff_ne.2 h6
    replace h7 := beq_eq_false_iff_ne.2 h7
    go_enter Tryd.func58, Tryd.ntmps58
    go_wp2_with fail
    go_ret
    exact ⟨rfl, rfl⟩

theorem iIsFree (s : List UInt8) (w : World) : Calls Tryd.prog 55 #[.string ⟨s.toArray⟩] w fun e w' => e = .returned (.bool (freeB s)) ∧ w' = w := by
  have H : Hid (freeB s = (!orderB s && !callB s && !decide (s = [78, 82]) && !decide (s = [78, 70]))) := rfl
  have c1 := iHasOrder s w
  have c2 := iHasCall s w
  generalize freeB s = F at *
  rcases h1 : orderB s with _ | _ <;> rcases h2 : callB s with _ | _ <;> rcases h3 : decide (s = [78, 82]) with _ | _ <;> rcases h4 : decide (s = [78, 70]) with _ | _
  all_goals
    rw [h1] at c1
    rw [h2] at c2
    have e3 : (s == [78, 82]) = decide (s = [78, 82]) := by rw [Bool.eq_iff_iff]; simp
    have e4 : (s == [78, 70]) = decide (s = [78, 70]) := by rw [Bool.eq_iff_iff]; simp
    rw [h3] at e3
    rw [h4] at e4
    have HF := H.out
    rw [h1, h2, h3, h4] at HF
    simp only [Bool.not_true, Bool.not_false, Bool.and_true, Bool.and_false, Bool.and_self] at HF
    subst HF
    clear H h1 h2 h3 h4
    go_enter Tryd.func55, Tryd.ntmps55
    go_wp2_with (first
      | (go_at_call 58; refine c1.mono ?_; rintro e w1 ⟨rfl, hw⟩; have hw := hw.symm; subst hw)
      | (go_at_call 47; refine c2.mono ?_; rintro e w1 ⟨rfl, hw⟩; have hw := hw.symm; subst hw))
    go_ret
    exact ⟨rfl, rfl⟩

theorem iIsLetter (b : Nat) (w : World) : Calls Tryd.prog 54 #[.int .u8 b] w fun e w' => e = .returned (.bool (letB b)) ∧ w' = w := by
  have H : Hid (letB b = ((decide (97 ≤ b) && decide (b ≤ 122)) || (decide (65 ≤ b) && decide (b ≤ 90)))) := rfl
  generalize letB b = F at *
  by_cases h1 : (97 : Int) ≤ b <;> by_cases h2 : (b : Int) ≤ 122 <;> by_cases h3 : (65 : Int) ≤ b <;> by_cases h4 : (b : Int) ≤ 90
  all_goals
    have HF := H.out
    rw [show decide (97 ≤ b) = decide ((97 : Int) ≤ b) by rw [decide_eq_decide]; omega, show decide (b ≤ 122) = decide ((b : Int) ≤ 122) by rw [decide_eq_decide]; omega, show decide (65 ≤ b) = decide ((65 : Int) ≤ b) by rw [decide_eq_decide]; omega, show decide (b ≤ 90) = decide ((b : Int) ≤ 90) by rw [decide_eq_decide]; omega] at HF
    simp only [h1, h2, h3, h4, decide_true, decide_false, Bool.and_true, Bool.and_false, Bool.or_true, Bool.or_false] at HF
    subst HF
    clear H
    first
      | omega
      | (go_enter Tryd.func54, Tryd.ntmps54
         go_wp2_with fail
         go_ret
         exact ⟨rfl, rfl⟩)

theorem sLetter (b : Nat) (w : World) : Calls Tryd.prog 34 #[.int .u8 b] w fun e w' => e = .returned (.bool (letB b)) ∧ w' = w := by
  have H : Hid (letB b = ((decide (97 ≤ b) && decide (b ≤ 122)) || (decide (65 ≤ b) && decide (b ≤ 90)))) := rfl
  generalize letB b = F at *
  by_cases h1 : (97 : Int) ≤ b <;> by_cases h2 : (b : Int) ≤ 122 <;> by_cases h3 : (65 : Int) ≤ b <;> by_cases h4 : (b : Int) ≤ 90
  all_goals
    have HF := H.out
    rw [show decide (97 ≤ b) = decide ((97 : Int) ≤ b) by rw [decide_eq_decide]; omega, show decide (b ≤ 122) = decide ((b : Int) ≤ 122) by rw [decide_eq_decide]; omega, show decide (65 ≤ b) = decide ((65 : Int) ≤ b) by rw [decide_eq_decide]; omega, show decide (b ≤ 90) = decide ((b : Int) ≤ 90) by rw [decide_eq_decide]; omega] at HF
    simp only [h1, h2, h3, h4, decide_true, decide_false, Bool.and_true, Bool.and_false, Bool.or_true, Bool.or_false] at HF
    subst HF
    clear H
    first
      | omega
      | (go_enter Tryd.func34, Tryd.ntmps34
         go_wp2_with fail
         go_ret
         exact ⟨rfl, rfl⟩)

end Ty
end Go.Proofs.YtjdohfdkkppnpaaDoor
