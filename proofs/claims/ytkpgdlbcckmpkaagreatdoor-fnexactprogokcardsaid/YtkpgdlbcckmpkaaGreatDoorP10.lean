/-
  Words of tidy trees: the program's and the specification's functions.
  Words of tidy trees: names, texts, patterns.
-/
import Derived.Test.YtkpgdlbcckmpkaaGreatDoorP07
import Derived.Test.YtkpgdlbcckmpkaaGreatDoorChecked
import Derived.Test.YtkpgdlbcckmpkaaGreatDoorP09
import Derived.Laws.AppendOwn
import Derived.Below
import Derived.OwnWalk
import Derived.WalkKit
import Derived.WalkLawsBesides
import Derived.Deep.RegionWith
import Derived.Deep.CutBlock
import Derived.Deep.CutRange
import Derived.Deep.DeepCutAuto
import Derived.BigQuiet
import Derived.Deep.QuietTactic
import Derived.Deep.LoopGhost
namespace Go.Proofs.YtkpgdlbcckmpkaaGreatDoor
open Go.RowKit
namespace Ty

theorem drop_at {s : ByteArray} {k : Nat} (h : k < s.size) : s.data.toList.drop k = s[k] :: s.data.toList.drop (k + 1) := by
  rw [List.drop_eq_getElem_cons (by simpa using h)]
  rfl
theorem drop_end {s : ByteArray} {k : Nat} (h : s.size ≤ k) : s.data.toList.drop k = [] := List.drop_eq_nil_of_le (by simpa using h)

theorem iHasCall (s : List UInt8) (w : World) : Calls Tryz.prog 51 #[.string ⟨s.toArray⟩] w fun e w' => e = .returned (.bool (callB s)) ∧ w' = w := by
  by_cases h : s ∈ callL
  · have H : callB s = true := by simp [callB, h]
    rw [H]
    unfold callL at h
    simp only [List.mem_cons, List.not_mem_nil, or_false] at h
    rcases h with rfl | rfl | rfl | rfl | rfl | rfl
    all_goals
      go_enter Tryz.func51, Tryz.ntmps51
      go_wp2_with fail
      go_ret
      exact ⟨rfl, rfl⟩
  · have H : callB s = false := by simp [callB, h]
    rw [H]
    unfold callL at h
    simp only [List.mem_cons, List.not_mem_nil, or_false, not_or] at h
    obtain ⟨h1, h2, h3, h4, h5, h6⟩ := h
    replace h1 := beq_eq_false_iff_ne.2 h1
    replace h2 := beq_eq_false_iff_ne.2 h2
    replace h3 := beq_eq_false_iff_ne.2 h3
    replace h4 := beq_eq_false_iff_ne.2 h4
    replace h5 := beq_eq_false_iff_ne.2 h5
    replace h6 := beq_eq_false_iff_ne.2 h6
    go_enter Tryz.func51, Tryz.ntmps51
    go_wp2_with fail
    go_ret
    exact ⟨rfl, rfl⟩

theorem iHasOrder (s : List UInt8) (w : World) : Calls Tryz.prog 68 #[.string ⟨s.toArray⟩] w fun e w' => e = .returned (.bool (orderB s)) ∧ w' = w := by
  by_cases h : s ∈ orderL
  · have H : orderB s = true := by simp [orderB, h]
    rw [H]
    unfold orderL at h
    simp only [List.mem_cons, List.not_mem_nil, or_false] at h
    rcases h with rfl | rfl | rfl | rfl | rfl | rfl | rfl
    all_goals
      go_enter Tryz.func68, Tryz.ntmps68
      go_wp2_with fail
      go_ret
      exact ⟨rfl, rfl⟩
  · have H : orderB s = false := by simp [orderB, h]
    rw [H]
    unfold orderL at h
    simp only [List.mem_cons, List.not_mem_nil, or_false, not_or] at h
    obtain ⟨h1, h2, h3, h4, h5, h6, h7⟩ := h
    replace h1 := beq_eq_false_iff_ne.2 h1
    replace h2 := beq_eq_false_iff_ne.2 h2
    replace h3 := beq_eq_false_iff_ne.2 h3
    replace h4 := beq_eq_false_iff_ne.2 h4
    replace h5 := beq_eq_false_iff_ne.2 h5
    replace h6 := beq_eq_false_iff_ne.2 h6
    replace h7 := beq_eq_false_iff_ne.2 h7
    go_enter Tryz.func68, Tryz.ntmps68
    go_wp2_with fail
    go_ret
    exact ⟨rfl, rfl⟩

theorem iIsFree (s : List UInt8) (w : World) : Calls Tryz.prog 55 #[.string ⟨s.toArray⟩] w fun e w' => e = .returned (.bool (freeB s)) ∧ w' = w := by
  have H : Hid (freeB s = (!orderB s && !callB s && !decide (s = [78, 82]) && !decide (s = [78, 70]))) := rfl
  have c1 := iHasOrder s w
  have c2 := iHasCall s w
  generalize freeB s = F at *
  rcases h1 : orderB s with _ | _ <;> rcases h2 : callB s with _ | _ <;> rcases h3 : decide (s = [78, 82]) with _ | _ <;> rcases h4 : decide (s = [78, 70]) with _ | _
  all_goals
    rw [h1] at c1
    rw [h2] at c2
    have e3 : (s == [78, 82]) = decide (s = [78, 82]) := by rw [Bool.eq_iff_iff]; simp
    have e4 : (s == [78, 70]) = decide (s = [78, 70]) := by rw [Bool.eq_iff_iff]; simp
    rw [h3] at e3
    rw [h4] at e4
    have HF := H.out
    rw [h1, h2, h3, h4] at HF
    simp only [Bool.not_true, Bool.not_false, Bool.and_true, Bool.and_false, Bool.and_self] at HF
    subst HF
    clear H h1 h2 h3 h4
    go_enter Tryz.func55, Tryz.ntmps55
    go_wp2_with (first
      | (go_at_call 68; refine c1.mono ?_; rintro e w1 ⟨rfl, hw⟩; have hw := hw.symm; subst hw)
      | (go_at_call 51; refine c2.mono ?_; rintro e w1 ⟨rfl, hw⟩; have hw := hw.symm; subst hw))
    go_ret
    exact ⟨rfl, rfl⟩

theorem iIsLetter (b : Nat) (w : World) : Calls Tryz.prog 54 #[.int .u8 b] w fun e w' => e = .returned (.bool (letB b)) ∧ w' = w := by
  have H : Hid (letB b = ((decide (97 ≤ b) && decide (b ≤ 122)) || (decide (65 ≤ b) && decide (b ≤ 90)))) := rfl
  generalize letB b = F at *
  by_cases h1 : (97 : Int) ≤ b <;> by_cases h2 : (b : Int) ≤ 122 <;> by_cases h3 : (65 : Int) ≤ b <;> by_cases h4 : (b : Int) ≤ 90
  all_goals
    have HF := H.out
    rw [show decide (97 ≤ b) = decide ((97 : Int) ≤ b) by rw [decide_eq_decide]; omega, show decide (b ≤ 122) = decide ((b : Int) ≤ 122) by rw [decide_eq_decide]; omega, show decide (65 ≤ b) = decide ((65 : Int) ≤ b) by rw [decide_eq_decide]; omega, show decide (b ≤ 90) = decide ((b : Int) ≤ 90) by rw [decide_eq_decide]; omega] at HF
    simp only [h1, h2, h3, h4, decide_true, decide_false, Bool.and_true, Bool.and_false, Bool.or_true, Bool.or_false] at HF
    subst HF
    clear H
    first
      | omega
      | (go_enter Tryz.func54, Tryz.ntmps54
         go_wp2_with fail
         go_ret
         exact ⟨rfl, rfl⟩)

theorem sLetter (b : Nat) (w : World) : Calls Tryz.prog 21 #[.int .u8 b] w fun e w' => e = .returned (.bool (letB b)) ∧ w' = w := by
  have H : Hid (letB b = ((decide (97 ≤ b) && decide (b ≤ 122)) || (decide (65 ≤ b) && decide (b ≤ 90)))) := rfl
  generalize letB b = F at *
  by_cases h1 : (97 : Int) ≤ b <;> by_cases h2 : (b : Int) ≤ 122 <;> by_cases h3 : (65 : Int) ≤ b <;> by_cases h4 : (b : Int) ≤ 90
  all_goals
    have HF := H.out
    rw [show decide (97 ≤ b) = decide ((97 : Int) ≤ b) by rw [decide_eq_decide]; omega, show decide (b ≤ 122) = decide ((b : Int) ≤ 122) by rw [decide_eq_decide]; omega, show decide (65 ≤ b) = decide ((65 : Int) ≤ b) by rw [decide_eq_decide]; omega, show decide (b ≤ 90) = decide ((b : Int) ≤ 90) by rw [decide_eq_decide]; omega] at HF
    simp only [h1, h2, h3, h4, decide_true, decide_false, Bool.and_true, Bool.and_false, Bool.or_true, Bool.or_false] at HF
    subst HF
    clear H
    first
      | omega
      | (go_enter Tryz.func21, Tryz.ntmps21
         go_wp2_with fail
         go_ret
         exact ⟨rfl, rfl⟩)

end Ty
end Go.Proofs.YtkpgdlbcckmpkaaGreatDoor

namespace Go.Proofs.YtkpgdlbcckmpkaaGreatDoor
open Go.RowKit
namespace Ty

theorem sIn1 (x lo hi : Int) (w : World) : Calls Tryz.prog 22 #[.int .i64 x, .int .i64 lo, .int .i64 hi] w fun e w' => e = .returned (.bool (decide (lo ≤ x) && decide (x ≤ hi))) ∧ w' = w := by
  by_cases h : lo ≤ x <;> by_cases h2 : x ≤ hi
  all_goals
    rw [show decide (lo ≤ x) = _ from by first | exact decide_eq_true h | exact decide_eq_false h, show decide (x ≤ hi) = _ from by first | exact decide_eq_true h2 | exact decide_eq_false h2]
    go_enter Tryz.func22, Tryz.ntmps22
    go_wp2_with fail
    go_ret
    exact ⟨rfl, rfl⟩

def strV (s : List UInt8) : Value := .string ⟨s.toArray⟩
def StrRow (w : World) (g : Nat) (L : List (List UInt8)) : Prop := ∀ j s, L[j]? = some s → w.cell? ⟨g, j, none⟩ = some (.string ⟨s.toArray⟩)

set_option maxRecDepth 100000 in
theorem sWithin {L : List (List UInt8)} (hL : L.length ≤ 100) (s : List UInt8) (g cap : Nat) (w : World) (hw : StrRow w g L) :
    Calls Tryz.prog 12 #[.slice (some ⟨g, 0, none⟩) L.length cap, .string ⟨s.toArray⟩] w fun e w' => e = .returned (.bool (decide (s ∈ L))) ∧ w' = w := by
  have bn : (L.length : Int) ≤ 100 := by omega
  clear hL
  go_enter Tryz.func12, Tryz.ntmps12
  go_wp2_with fail
  go_loopw [5] (fun i wr => ∃ k : Nat, k ≤ L.length ∧ i = .int .i64 k ∧ wr = w ∧ s ∉ L.take k) (fun i _ => L.length - (intOf i).toNat)
  case atStart => exact ⟨0, by omega, rfl, rfl, by simp⟩
  case round =>
    obtain ⟨k, hk, rfl, rfl, hno⟩ := hrel
    by_cases hkl : k < L.length
    · have hki : L[k]? = some L[k] := List.getElem?_eq_getElem hkl
      have hc := hw k _ hki
      have bk : (k : Int) < L.length := by omega
      have hT : L.take (k + 1) = L.take k ++ [L[k]] := by rw [List.take_add_one, hki]; rfl
      by_cases hs : L[k] = s
      · have H : Hid (decide (s ∈ L) = true) := by show _ = _; simp; rw [← hs]; exact List.getElem_mem hkl
        rw [hs] at hc
        clear hki hT
        go_wp2_with fail
        go_ret
        exact ⟨by rw [H.out]; rfl, rfl⟩
      · have H : Hid (s ∉ L.take (k + 1)) := by show ¬ s ∈ _; rw [hT, List.mem_append]; rintro (h | h); exact hno h; exact hs (List.mem_singleton.1 h).symm
        have e1 : (L[k] == s) = false := beq_eq_false_iff_ne.2 hs
        clear hki hT hs hno
        go_wp2_with fail
        go_roundw
        case rel => exact ⟨k + 1, by omega, by go_num, by trivial, H.out⟩
        case measure => simp [intOf]; omega
    · obtain rfl : k = L.length := by omega
      rw [List.take_length] at hno
      have H : Hid (decide (s ∈ L) = false) := decide_eq_false hno
      go_wp2_with fail
      go_ret
      exact ⟨by rw [H.out]; rfl, rfl⟩

theorem strRow_new (w : World) (L : List (List UInt8)) (o : Obj) (ho : o = .cells (L.map strV).toArray 9) : StrRow (w.alloc o) w.heap.size L := fun j s h => by
  have := heap_alloc_new w o
  subst ho
  exact (cell_of_row _ _ j _ _ _ this).trans (by simp [h, strV])

theorem sCalls (w : World) : Calls Tryz.prog 37 #[] w fun e w' => e = .returned (.slice (some ⟨w.heap.size, 0, none⟩) 6 6) ∧ StrRow w' w.heap.size callL ∧ Below w.heap.size w w' := by
  obtain ⟨o, ho⟩ : ∃ o, o = Obj.cells (callL.map strV).toArray 9 := ⟨_, rfl⟩
  have h1 : Hid (StrRow (w.alloc o) w.heap.size callL) := strRow_new w callL o ho
  have h2 : Hid (Below w.heap.size w (w.alloc o)) := (Below.refl _ w).alloc (Nat.le_refl _) _
  subst ho
  go_enter Tryz.func37, Tryz.ntmps37
  go_wp2_with fail
  go_ret
  exact ⟨rfl, h1.out, h2.out⟩

theorem key_eq (s : List UInt8) : keyB s = (decide (s ∈ orderL ++ ownL) || callB s) := rfl
theorem sKeyword (s : List UInt8) (w : World) : Calls Tryz.prog 23 #[.string ⟨s.toArray⟩] w fun e w' => e = .returned (.bool (keyB s)) ∧ Below w.heap.size w w' := by
  obtain ⟨o, ho⟩ : ∃ o, o = Obj.cells ((orderL ++ ownL).map strV).toArray 9 := ⟨_, rfl⟩
  have h1 := strRow_new w _ o ho
  have h2 : Below w.heap.size w (w.alloc o) := (Below.refl _ w).alloc (Nat.le_refl _) _
  have c1 := sWithin (L := orderL ++ ownL) (by decide) s w.heap.size 9 _ h1
  have c2 := sCalls (w.alloc o)
  have c3 : ∀ w', StrRow w' (w.alloc o).heap.size callL → Calls Tryz.prog 12 #[.slice (some ⟨(w.alloc o).heap.size, 0, none⟩) 6 6, .string ⟨s.toArray⟩] w' fun e w'' => e = .returned (.bool (callB s)) ∧ w'' = w' := fun w' h => sWithin (L := callL) (by decide) s _ 6 w' h
  have HK : Hid (keyB s = (decide (s ∈ orderL ++ ownL) || callB s)) := key_eq s
  generalize hW : w.alloc o = W1 at *
  subst ho
  have HW := (show Hid _ from hW)
  clear hW h1
  have hlen : (orderL ++ ownL).length = 9 := rfl
  rw [hlen] at c1
  generalize decide (s ∈ orderL ++ ownL) = B1 at *
  generalize callB s = B2 at *
  generalize keyB s = B3 at *
  have HW1 : Hid (∀ (p : World → Prop), p W1 → p (w.alloc (.cells ((orderL ++ ownL).map strV).toArray 9))) := fun p hp => by rw [HW.out]; exact hp
  cases B1
  · go_enter Tryz.func23, Tryz.ntmps23
    go_wp2_with (first
      | (go_at_call 12; refine HW1.out (fun W => Calls _ _ _ W _) ?_; refine c1.mono ?_; rintro e w1 ⟨rfl, hw⟩; have hw := hw.symm; subst hw)
      | (go_at_call 37; refine c2.mono ?_; rintro e w2 ⟨rfl, hr, hb2⟩)
      | (go_at_call 12; refine (c3 _ hr).mono ?_; rintro e w3 ⟨rfl, hw⟩; have hw := hw.symm; subst hw))
    go_ret
    exact ⟨by rw [HK.out]; rfl, h2.trans (hb2.mono h2.size)⟩
  · go_enter Tryz.func23, Tryz.ntmps23
    go_wp2_with (first
      | (go_at_call 12; refine HW1.out (fun W => Calls _ _ _ W _) ?_; refine c1.mono ?_; rintro e w1 ⟨rfl, hw⟩; have hw := hw.symm; subst hw))
    go_ret
    exact ⟨by rw [HK.out]; rfl, h2⟩

end Ty
end Go.Proofs.YtkpgdlbcckmpkaaGreatDoor

