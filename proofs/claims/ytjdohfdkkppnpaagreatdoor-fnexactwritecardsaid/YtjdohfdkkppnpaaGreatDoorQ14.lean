/-
  What a node is, and what it has beside its kids: the program's functions.
  What a node has beside its kids: wordTidy.
-/
import Derived.Test.YtjdohfdkkppnpaaGreatDoorQ12
import Derived.Test.YtjdohfdkkppnpaaGreatDoorQ04
import Derived.Test.YtjdohfdkkppnpaaGreatDoorQ13
namespace Go.Proofs.YtjdohfdkkppnpaaGreatDoor
open Go.RowKit
namespace Ty
open Nd

theorem iIsE (t : Data) : Tells 81 (fun t => eB (opOf t)) t := by
  intro w a b c u hS hA
  obtain ⟨ao, cap, rfl, rfl, rfl, rfl, -, -⟩ := arg_open hA
  have H : Hid (eB (opOf t) = (decide (1 ≤ opOf t) && decide (opOf t ≤ 28))) := rfl
  have hb : Hid (∀ o, Below w.heap.size w (w.alloc o)) := fun o => (Below.refl _ w).alloc (Nat.le_refl _) _
  clear hA hS
  show Calls _ _ _ _ fun e w' => e = .returned (.bool (eB (opOf t))) ∧ Below w.heap.size w w'
  generalize eB (opOf t) = E at *
  generalize opOf t = op at *
  by_cases h1 : 1 ≤ op <;> by_cases h2 : op ≤ 28
  all_goals
    simp only [h1, h2, decide_true, decide_false] at H
    first
      | omega
      | (go_enter Tryz.func81, Tryz.ntmps81
         go_wp2_with fail
         go_ret
         exact ⟨by rw [H.out]; rfl, hb.out _⟩)

theorem iIsStatement (t : Data) : Tells 136 (fun t => stB (opOf t)) t := by
  intro w a b c u hS hA
  obtain ⟨ao, cap, rfl, rfl, rfl, rfl, -, -⟩ := arg_open hA
  have H : Hid (stB (opOf t) = (decide (29 ≤ opOf t) && decide (opOf t ≤ 35))) := rfl
  have hb : Hid (∀ o, Below w.heap.size w (w.alloc o)) := fun o => (Below.refl _ w).alloc (Nat.le_refl _) _
  clear hA hS
  show Calls _ _ _ _ fun e w' => e = .returned (.bool (stB (opOf t))) ∧ Below w.heap.size w w'
  generalize stB (opOf t) = E at *
  generalize opOf t = op at *
  by_cases h1 : 29 ≤ op <;> by_cases h2 : op ≤ 35
  all_goals
    simp only [h1, h2, decide_true, decide_false] at H
    first
      | omega
      | (go_enter Tryz.func136, Tryz.ntmps136
         go_wp2_with fail
         go_ret
         exact ⟨by rw [H.out]; rfl, hb.out _⟩)

theorem iIsBlock (t : Data) : Tells 78 (fun t => blB (opOf t)) t := by
  intro w a b c u hS hA
  obtain ⟨ao, cap, rfl, rfl, rfl, rfl, -, -⟩ := arg_open hA
  have H : Hid (blB (opOf t) = decide (opOf t = 29)) := rfl
  have hb : Hid (∀ o, Below w.heap.size w (w.alloc o)) := fun o => (Below.refl _ w).alloc (Nat.le_refl _) _
  clear hA hS
  show Calls _ _ _ _ fun e w' => e = .returned (.bool (blB (opOf t))) ∧ Below w.heap.size w w'
  generalize blB (opOf t) = E at *
  generalize opOf t = op at *
  by_cases h1 : op = 29
  · subst h1
    go_enter Tryz.func78, Tryz.ntmps78
    go_wp2_with fail
    go_ret
    exact ⟨by rw [H.out]; rfl, hb.out _⟩
  · have e1 : (op == 29) = false := beq_eq_false_iff_ne.2 h1
    simp only [h1, decide_false] at H
    go_enter Tryz.func78, Tryz.ntmps78
    go_wp2_with fail
    go_ret
    exact ⟨by rw [H.out]; rfl, hb.out _⟩

theorem iIsSettable (t : Data) : Tells 135 (fun t => setB (opOf t)) t := by
  intro w a b c u hS hA
  obtain ⟨ao, cap, rfl, rfl, rfl, rfl, -, -⟩ := arg_open hA
  have H : Hid (setB (opOf t) = (decide (opOf t = 4) || decide (opOf t = 5))) := rfl
  have hb : Hid (∀ o, Below w.heap.size w (w.alloc o)) := fun o => (Below.refl _ w).alloc (Nat.le_refl _) _
  clear hA hS
  show Calls _ _ _ _ fun e w' => e = .returned (.bool (setB (opOf t))) ∧ Below w.heap.size w w'
  generalize setB (opOf t) = E at *
  generalize opOf t = op at *
  by_cases h1 : op = 4
  · subst h1
    go_enter Tryz.func135, Tryz.ntmps135
    go_wp2_with fail
    go_ret
    exact ⟨by rw [H.out]; rfl, hb.out _⟩
  · have e1 : (op == 4) = false := beq_eq_false_iff_ne.2 h1
    by_cases h2 : op = 5
    · subst h2
      go_enter Tryz.func135, Tryz.ntmps135
      go_wp2_with fail
      go_ret
      exact ⟨by rw [H.out]; rfl, hb.out _⟩
    · have e2 : (op == 5) = false := beq_eq_false_iff_ne.2 h2
      simp only [h1, h2, decide_false] at H
      go_enter Tryz.func135, Tryz.ntmps135
      go_wp2_with fail
      go_ret
      exact ⟨by rw [H.out]; rfl, hb.out _⟩

theorem iIsZero (t : Data) : Tells 80 zeroB t := by
  intro w a b c u hS hA
  obtain ⟨ao, cap, rfl, rfl, rfl, rfl, -, -⟩ := arg_open hA
  have H : Hid (zeroB t = (decide (opOf t = 0) && decide (numOf t = 0) && decide (txtOf t = []) && decide (kidsOf t = []))) := rfl
  have hb : Hid (∀ o, Below w.heap.size w (w.alloc o)) := fun o => (Below.refl _ w).alloc (Nat.le_refl _) _
  clear hA hS
  generalize zeroB t = E at *
  have e1 : (opOf t == 0) = decide (opOf t = 0) := by rw [Bool.eq_iff_iff]; simp
  have e2 : (numOf t == 0) = decide (numOf t = 0) := by rw [Bool.eq_iff_iff]; simp
  have e3 : (txtOf t == []) = decide (txtOf t = []) := by rw [Bool.eq_iff_iff]; simp
  obtain ⟨L, hL⟩ : ∃ L, L = (kidsOf t).length := ⟨_, rfl⟩
  have e4 : ((L : Int) == 0) = decide (kidsOf t = []) := by rw [Bool.eq_iff_iff, hL]; simp
  rw [← hL]
  clear hL
  generalize opOf t = op at *
  generalize numOf t = n at *
  generalize txtOf t = s at *
  generalize decide (op = 0) = b1 at *
  generalize decide (n = 0) = b2 at *
  generalize decide (s = []) = b3 at *
  generalize decide (kidsOf t = []) = b4 at *
  cases b1 <;> cases b2 <;> cases b3 <;> cases b4
  all_goals
    go_enter Tryz.func80, Tryz.ntmps80
    go_wp2_with fail
    go_ret
    exact ⟨by rw [H.out]; rfl, hb.out _⟩

end Ty
end Go.Proofs.YtjdohfdkkppnpaaGreatDoor

namespace Go.Proofs.YtjdohfdkkppnpaaGreatDoor
open Go.RowKit
namespace Ty
open Nd

def wordN (t : Data) : Bool := wordB (opOf t) (numOf t) (txtOf t)

set_option maxHeartbeats 1000000 in
theorem iWordTidy (t : Data) (hsz : siz t ≤ 1048576) : Tells 119 wordN t := by
  intro w a b c u hS hA
  obtain ⟨ao, cap, rfl, rfl, rfl, rfl, -, hnd⟩ := arg_open hA
  have H : Hid (wordN t = (if opOf t = 1 then decide (0 ≤ numOf t) && Dec.okB (numOf t) && decide (txtOf t = [])
  else decide (numOf t = 0) && (if opOf t = 2 then lineB (txtOf t) else if opOf t = 3 then rexB (txtOf t) else if opOf t = 4 ∨ opOf t = 5 ∨ opOf t = 34 then nameB (txtOf t) else if opOf t = 28 then callB (txtOf t) else decide (txtOf t = [])))) := rfl
  have hb : Hid (∀ o, Below w.heap.size w (w.alloc o)) := fun o => (Below.refl _ w).alloc (Nat.le_refl _) _
  have hlen : (txtOf t).length ≤ 1048576 := by rw [hnd, siz_nd] at hsz; omega
  have hSA : ∀ o, Sen (w.alloc o) := fun o => hS.alloc o
  clear hA hS hnd hsz
  show Calls _ _ _ _ fun e w' => e = .returned (.bool (wordN t)) ∧ Below w.heap.size w w'
  generalize wordN t = E at *
  generalize opOf t = op at *
  generalize numOf t = n at *
  generalize txtOf t = s at *
  generalize (kidsOf t).length = L at *
  have e3 : (s == []) = decide (s = []) := by rw [Bool.eq_iff_iff]; simp
  have e5 : (n == 0) = decide (n = 0) := by rw [Bool.eq_iff_iff]; simp
  by_cases h1 : op = 1
  · subst h1
    obtain ⟨E1, hE1⟩ : ∃ b, b = Dec.okB n := ⟨_, rfl⟩
    have cd : ∀ o, o = Obj.cells #[.int .i64 1, .int .i64 n, .string ⟨s.toArray⟩, .slice ao L cap] 39 → Calls Tryz.prog 108 #[.int .i64 n] (w.alloc o) fun e w' => e = .returned (.bool E1) ∧ w'.cell? ⟨w.heap.size, 2, none⟩ = some (.string ⟨s.toArray⟩) ∧ Below w.heap.size w w' := fun o ho => by
      obtain ⟨a, hc⟩ := hSA o
      refine (iDecOk n a _ hc).mono ?_
      rintro e w' ⟨rfl, k, rfl⟩
      refine ⟨by rw [hE1], ?_, below_drewN (hb.out o) k⟩
      subst ho
      exact (cell_of_row (w.alloc _) w.heap.size 2 _ _ _ (heap_alloc_new w _)).trans rfl
    have HE : Hid (E = (decide (0 ≤ n) && E1 && decide (s = []))) := by show _ = _; rw [H.out, if_pos rfl, hE1]
    clear H hE1 hSA
    generalize decide (s = []) = b3 at *
    by_cases h2 : 0 ≤ n
    · simp only [h2, decide_true] at HE
      cases E1
      · go_enter Tryz.func119, Tryz.ntmps119
        go_wp2_with (go_at_call 108; refine (cd _ rfl).mono ?_; rintro e w2 ⟨rfl, hc2, hb2⟩)
        go_ret
        exact ⟨by rw [HE.out]; simp, hb2⟩
      · go_enter Tryz.func119, Tryz.ntmps119
        go_wp2_with (go_at_call 108; refine (cd _ rfl).mono ?_; rintro e w2 ⟨rfl, hc2, hb2⟩)
        go_ret
        exact ⟨by rw [HE.out, ← e3]; rfl, hb2⟩
    · simp only [h2, decide_false] at HE
      go_enter Tryz.func119, Tryz.ntmps119
      go_wp2_with fail
      go_ret
      exact ⟨by rw [HE.out]; simp, hb.out _⟩
  · have f1 : (op == 1) = false := beq_eq_false_iff_ne.2 h1
    by_cases h0 : n = 0
    · subst h0
      by_cases h2 : op = 2
      · subst h2
        have ct := fun w => iTextOf ⟨s.toArray⟩ w
        have HE : Hid (E = lineB s) := by show _ = _; rw [H.out]; simp
        clear H
        go_enter Tryz.func119, Tryz.ntmps119
        go_wp2_with (go_at_call 130; refine (ct _).mono ?_; rintro e w2 ⟨rfl, hw⟩; have hw := hw.symm; subst hw)
        go_ret
        exact ⟨by rw [HE.out]; rfl, hb.out _⟩
      · have f2 : (op == 2) = false := beq_eq_false_iff_ne.2 h2
        by_cases h3 : op = 3
        · subst h3
          have ct := fun w => iRexOf ⟨s.toArray⟩ (by show ((s.toArray.size : Nat) : Int) ≤ _; simp; omega) w
          have HE : Hid (E = rexB s) := by show _ = _; rw [H.out]; simp
          clear H
          go_enter Tryz.func119, Tryz.ntmps119
          go_wp2_with (go_at_call 131; refine (ct _).mono ?_; rintro e w2 ⟨rfl, hw⟩; have hw := hw.symm; subst hw)
          go_ret
          exact ⟨by rw [HE.out]; rfl, hb.out _⟩
        · have f3 : (op == 3) = false := beq_eq_false_iff_ne.2 h3
          by_cases h4 : op = 4 ∨ op = 5 ∨ op = 34
          · have ct := iTidyName s hlen
            have HE : Hid (E = nameB s) := by show _ = _; rw [H.out]; simp [h1, h2, h3, h4]
            clear H
            rcases h4 with rfl | rfl | rfl
            all_goals
              go_enter Tryz.func119, Tryz.ntmps119
              go_wp2_with (go_at_call 132; refine (ct _).mono ?_; rintro e w2 ⟨rfl, hb2⟩)
              go_ret
              exact ⟨by rw [HE.out]; rfl, (hb.out _).trans (hb2.mono (hb.out _).size)⟩
          · have HE : Hid (E = (if op = 28 then callB s else decide (s = []))) := by show _ = _; rw [H.out]; simp [h1, h2, h3, h4]
            simp only [not_or] at h4
            obtain ⟨g1, g2, g3⟩ := h4
            have k1 : (op == 4) = false := beq_eq_false_iff_ne.2 g1
            have k2 : (op == 5) = false := beq_eq_false_iff_ne.2 g2
            have k3 : (op == 34) = false := beq_eq_false_iff_ne.2 g3
            clear H
            by_cases h28 : op = 28
            · subst h28
              have ct := iHasCall s
              rw [if_pos rfl] at HE
              go_enter Tryz.func119, Tryz.ntmps119
              go_wp2_with (go_at_call 133; refine (ct _).mono ?_; rintro e w2 ⟨rfl, hw⟩; have hw := hw.symm; subst hw)
              go_ret
              exact ⟨by rw [HE.out]; rfl, hb.out _⟩
            · have f28 : (op == 28) = false := beq_eq_false_iff_ne.2 h28
              rw [if_neg h28] at HE
              go_enter Tryz.func119, Tryz.ntmps119
              go_wp2_with fail
              go_ret
              exact ⟨by rw [HE.out, ← e3]; rfl, hb.out _⟩
    · have e0 : (n == 0) = false := beq_eq_false_iff_ne.2 h0
      have HE : Hid (E = false) := by show _ = _; rw [H.out]; simp [h1, h0]
      clear H e5
      go_enter Tryz.func119, Tryz.ntmps119
      go_wp2_with fail
      go_ret
      exact ⟨by rw [HE.out]; rfl, hb.out _⟩

end Ty
end Go.Proofs.YtjdohfdkkppnpaaGreatDoor

