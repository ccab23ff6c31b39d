/-
  The six calls, of both sides.
-/
import Derived.Test.YtcaaanbajmlcjaaGreatDoorOcArg
import Derived.Test.YtcaaanbajmlcjaaGreatDoorTyMath
namespace Go.Proofs.YtcaaanbajmlcjaaGreatDoor
open Go.RowKit
namespace Oc
open Ty (callL callB)

theorem iHasCall (s : List UInt8) (w : World) : Calls Tryz.prog 33 #[.string ⟨s.toArray⟩] w fun e w' => e = .returned (.bool (callB s)) ∧ w' = w := by
  by_cases h : s ∈ callL
  · have H : callB s = true := by simp [callB, h]
    rw [H]
    unfold callL at h
    simp only [List.mem_cons, List.not_mem_nil, or_false] at h
    rcases h with rfl | rfl | rfl | rfl | rfl | rfl
    all_goals
      go_enter Tryz.func33, Tryz.ntmps33
      go_wp2_with fail
      go_ret
      exact ⟨rfl, rfl⟩
  · have H : callB s = false := by simp [callB, h]
    rw [H]
    unfold callL at h
    simp only [List.mem_cons, List.not_mem_nil, or_false, not_or] at h
    obtain ⟨h1, h2, h3, h4, h5, h6⟩ := h
    replace h1 := beq_eq_false_iff_ne.2 h1
    replace h2 := beq_eq_false_iff_ne.2 h2
    replace h3 := beq_eq_false_iff_ne.2 h3
    replace h4 := beq_eq_false_iff_ne.2 h4
    replace h5 := beq_eq_false_iff_ne.2 h5
    replace h6 := beq_eq_false_iff_ne.2 h6
    go_enter Tryz.func33, Tryz.ntmps33
    go_wp2_with fail
    go_ret
    exact ⟨rfl, rfl⟩

def strV (s : List UInt8) : Value := .string ⟨s.toArray⟩
def StrRow (w : World) (g : Nat) (L : List (List UInt8)) : Prop := ∀ j s, L[j]? = some s → w.cell? ⟨g, j, none⟩ = some (.string ⟨s.toArray⟩)

set_option maxRecDepth 100000 in
theorem sWithin {L : List (List UInt8)} (hL : L.length ≤ 100) (s : List UInt8) (g cap : Nat) (w : World) (hw : StrRow w g L) :
    Calls Tryz.prog 22 #[.slice (some ⟨g, 0, none⟩) L.length cap, .string ⟨s.toArray⟩] w fun e w' => e = .returned (.bool (decide (s ∈ L))) ∧ w' = w := by
  have bn : (L.length : Int) ≤ 100 := by omega
  clear hL
  go_enter Tryz.func22, Tryz.ntmps22
  go_wp2_with fail
  go_loopw [5] (fun i wr => ∃ k : Nat, k ≤ L.length ∧ i = .int .i64 k ∧ wr = w ∧ s ∉ L.take k) (fun i _ => L.length - (intOf i).toNat)
  case atStart => exact ⟨0, by omega, rfl, rfl, by simp⟩
  case round =>
    obtain ⟨k, hk, rfl, rfl, hno⟩ := hrel
    by_cases hkl : k < L.length
    · have hki : L[k]? = some L[k] := List.getElem?_eq_getElem hkl
      have hc := hw k _ hki
      have bk : (k : Int) < L.length := by omega
      have hT : L.take (k + 1) = L.take k ++ [L[k]] := by rw [List.take_add_one, hki]; rfl
      by_cases hs : L[k] = s
      · have H : Hid (decide (s ∈ L) = true) := by show _ = _; simp; rw [← hs]; exact List.getElem_mem hkl
        rw [hs] at hc
        clear hki hT
        go_wp2_with fail
        go_ret
        exact ⟨by rw [H.out]; rfl, rfl⟩
      · have H : Hid (s ∉ L.take (k + 1)) := by show ¬ s ∈ _; rw [hT, List.mem_append]; rintro (h | h); exact hno h; exact hs (List.mem_singleton.1 h).symm
        have e1 : (L[k] == s) = false := beq_eq_false_iff_ne.2 hs
        clear hki hT hs hno
        go_wp2_with fail
        go_roundw
        case rel => exact ⟨k + 1, by omega, by go_num, by trivial, H.out⟩
        case measure => simp [intOf]; omega
    · obtain rfl : k = L.length := by omega
      rw [List.take_length] at hno
      have H : Hid (decide (s ∈ L) = false) := decide_eq_false hno
      go_wp2_with fail
      go_ret
      exact ⟨by rw [H.out]; rfl, rfl⟩

theorem strRow_new (w : World) (L : List (List UInt8)) (o : Obj) (ho : o = .cells (L.map strV).toArray 9) : StrRow (w.alloc o) w.heap.size L := fun j s h => by
  have := heap_alloc_new w o
  subst ho
  exact (cell_of_row _ _ j _ _ _ this).trans (by simp [h, strV])

theorem sCalls (w : World) : Calls Tryz.prog 23 #[] w fun e w' => e = .returned (.slice (some ⟨w.heap.size, 0, none⟩) 6 6) ∧ StrRow w' w.heap.size callL ∧ Below w.heap.size w w' := by
  obtain ⟨o, ho⟩ : ∃ o, o = Obj.cells (callL.map strV).toArray 9 := ⟨_, rfl⟩
  have h1 : Hid (StrRow (w.alloc o) w.heap.size callL) := strRow_new w callL o ho
  have h2 : Hid (Below w.heap.size w (w.alloc o)) := (Below.refl _ w).alloc (Nat.le_refl _) _
  subst ho
  go_enter Tryz.func23, Tryz.ntmps23
  go_wp2_with fail
  go_ret
  exact ⟨rfl, h1.out, h2.out⟩


theorem iHasCallB (s : ByteArray) (w : World) : Calls Tryz.prog 33 #[.string s] w fun e w' => e = .returned (.bool (callB s.data.toList)) ∧ w' = w := by
  obtain ⟨⟨l⟩⟩ := s
  exact iHasCall l w

end Oc
end Go.Proofs.YtcaaanbajmlcjaaGreatDoor
