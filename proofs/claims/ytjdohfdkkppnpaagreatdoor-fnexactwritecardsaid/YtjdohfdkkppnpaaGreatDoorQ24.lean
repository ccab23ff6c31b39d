/-
  The specification's l9Node, at every tree.
-/
import Derived.Test.YtjdohfdkkppnpaaGreatDoorQ23
namespace Go.Proofs.YtjdohfdkkppnpaaGreatDoor
open Go.RowKit
namespace Ty
open Nd

theorem nodeS_eq (op n : Int) (s : List UInt8) (ks : List Data) : nodeS op n s ks = (kidsS op ks && (decide (1 ≤ op) && decide (op ≤ 35)) && !(!decide (n = 0) && !decide (op = 1)) && wordS op n s) := rfl

set_option maxHeartbeats 4000000 in
set_option maxRecDepth 100000 in
theorem sNode (t : Data) : siz t ≤ 1048576 → Tells 36 allB t := by
  induction t using tree_ind with
  | h1 t ht =>
    intro _ w a b c u _ h
    obtain ⟨op, n, s, ao, cap, e, _⟩ := arg_form h
    exact absurd e (ht _ _)
  | h ks lab ih =>
    intro hsz w a b c u hS hA
    have hkk : kidsOf (.slice ks lab) = ks := rfl
    have hlen := len_siz (.slice ks lab)
    have hsk := siz_kids (.slice ks lab)
    rw [hkk] at hlen hsk
    have hkids : ∀ x ∈ kidsOf (.slice ks lab), Tells 36 allB x := fun x hx => ih x hx (by have := sizs_mem (show x ∈ ks from hx); omega)
    have cK := fun w' (hb : Below w.heap.size w w') => sKids hkids (by rw [hkk]; omega) w' a b c u (hS.later hb) (arg_frame hb _ _ hA)
    obtain ⟨ao, cap, rfl, rfl, rfl, rfl, -, hnd⟩ := arg_open hA
    have hE : allB (.slice ks lab) = nodeS (opOf (.slice ks lab)) (numOf (.slice ks lab)) (txtOf (.slice ks lab)) (kidsOf (.slice ks lab)) := by rw [node_all]; exact congrArg allB hnd
    have hsl : (txtOf (.slice ks lab)).length ≤ 1048576 := by rw [hnd, siz_nd] at hsz; omega
    obtain ⟨E, hEE⟩ : ∃ E, E = allB (.slice ks lab) := ⟨_, rfl⟩
    rw [← hEE]
    rw [← hEE] at hE
    rw [nodeS_eq] at hE
    have hb0 : ∀ o, Below w.heap.size w (w.alloc o) := fun o => (Below.refl _ w).alloc (Nat.le_refl _) _
    clear ih hA hS hnd hkids hsz hlen hsk hEE hkk
    generalize opOf (.slice ks lab) = op at *
    generalize numOf (.slice ks lab) = n at *
    generalize txtOf (.slice ks lab) = s at *
    generalize kidsOf (.slice ks lab) = kids at *
    have hcell : ∀ o w', o = Obj.cells #[.int .i64 op, .int .i64 n, .string ⟨s.toArray⟩, .slice ao kids.length cap] 39 → Below (w.alloc o).heap.size (w.alloc o) w' → w'.cell? ⟨w.heap.size, 0, none⟩ = some (.int .i64 op) ∧ w'.cell? ⟨w.heap.size, 1, none⟩ = some (.int .i64 n) ∧ w'.cell? ⟨w.heap.size, 2, none⟩ = some (.string ⟨s.toArray⟩) ∧ w'.cell? ⟨w.heap.size, 3, none⟩ = some (.slice ao kids.length cap) := fun o w' ho hb => by
      have hV : Var (w.alloc o) w.heap.size (.int .i64 op) (.int .i64 n) (.string ⟨s.toArray⟩) (.slice ao kids.length cap) := by rw [ho]; exact heap_new _ _
      exact (hV.kept (hb.block _ hV.lt)).cell
    have cI := fun w => sIn1 op 1 35 w
    have cN := fun w => sIn1 n 0 9000000000000 w
    have e3 : (s == []) = decide (s = []) := by rw [Bool.eq_iff_iff]; simp
    generalize kidsS op kids = K at *
    cases K
    · have HE : Hid (E = false) := by show _ = _; rw [hE]; rfl
      clear hE
      go_enter Tryz.func36, Tryz.ntmps36
      go_wp2_with (go_at_call 67; refine (cK _ (hb0 _)).mono ?_; rintro e w2 ⟨rfl, hbb⟩)
      go_ret
      exact ⟨by rw [HE.out]; rfl, (hb0 _).trans (hbb.mono (hb0 _).size)⟩
    rw [Bool.true_and] at hE
    by_cases hop : 1 ≤ op ∧ op ≤ 35
    rotate_left
    · have hop2 : (decide (1 ≤ op) && decide (op ≤ 35)) = false := by simp; omega
      have HE : Hid (E = false) := by show _ = _; rw [hE, hop2]; rfl
      rw [hop2] at cI
      clear hE hop hop2
      go_enter Tryz.func36, Tryz.ntmps36
      go_wp2_with (first
        | (go_at_call 67; refine (cK _ (hb0 _)).mono ?_; rintro e w2 ⟨rfl, hbb⟩; obtain ⟨x0, x1, x2, x3⟩ := hcell _ _ rfl hbb)
        | (go_at_call 34; refine (cI _).mono ?_; rintro e w9 ⟨rfl, hw⟩; have hw := hw.symm; subst hw))
      go_ret
      exact ⟨by rw [HE.out]; rfl, (hb0 _).trans (hbb.mono (hb0 _).size)⟩
    have hop2 : (decide (1 ≤ op) && decide (op ≤ 35)) = true := by simp; omega
    rw [hop2] at cI hE
    rw [Bool.true_and] at hE
    unfold wordS at hE
    by_cases h1 : op = 1
    · have HE : Hid (E = (decide (s = []) && (decide (0 ≤ n) && decide (n ≤ 9000000000000)))) := by show _ = _; rw [hE, if_pos h1]; simp [h1]
      subst h1
      clear hE hop hop2
      generalize (decide (0 ≤ n) && decide (n ≤ 9000000000000)) = B at *
      generalize decide (s = []) = D at *
      rcases e6 : (n != 0) with _ | _
      all_goals (
        cases D
        · go_enter Tryz.func36, Tryz.ntmps36
          go_wp2_with (first
            | (go_at_call 67; refine (cK _ (hb0 _)).mono ?_; rintro e w2 ⟨rfl, hbb⟩; obtain ⟨x0, x1, x2, x3⟩ := hcell _ _ rfl hbb)
            | (go_at_call 34; with_reducible refine (cI _).mono ?_; rintro e w9 ⟨rfl, hw⟩; have hw := hw.symm; subst hw)
            | (go_at_call 34; with_reducible refine (cN _).mono ?_; rintro e w9 ⟨rfl, hw⟩; have hw := hw.symm; subst hw))
          go_ret
          exact ⟨by rw [HE.out]; rfl, (hb0 _).trans (hbb.mono (hb0 _).size)⟩
        · go_enter Tryz.func36, Tryz.ntmps36
          go_wp2_with (first
            | (go_at_call 67; refine (cK _ (hb0 _)).mono ?_; rintro e w2 ⟨rfl, hbb⟩; obtain ⟨x0, x1, x2, x3⟩ := hcell _ _ rfl hbb)
            | (go_at_call 34; with_reducible refine (cI _).mono ?_; rintro e w9 ⟨rfl, hw⟩; have hw := hw.symm; subst hw)
            | (go_at_call 34; with_reducible refine (cN _).mono ?_; rintro e w9 ⟨rfl, hw⟩; have hw := hw.symm; subst hw))
          go_ret
          exact ⟨by rw [HE.out]; rfl, (hb0 _).trans (hbb.mono (hb0 _).size)⟩)
    rw [if_neg h1] at hE
    have f1 : (op == 1) = false := beq_eq_false_iff_ne.2 h1
    have q1 : (op != 1) = true := by simp [h1]
    by_cases h0 : n = 0
    rotate_left
    · have e6 : (n == 0) = false := beq_eq_false_iff_ne.2 h0
      have q6 : (n != 0) = true := by simp [h0]
      have HE : Hid (E = false) := by show _ = _; rw [hE]; simp [h1, h0]
      clear hE hop hop2
      go_enter Tryz.func36, Tryz.ntmps36
      go_wp2_with (first
        | (go_at_call 67; refine (cK _ (hb0 _)).mono ?_; rintro e w2 ⟨rfl, hbb⟩; obtain ⟨x0, x1, x2, x3⟩ := hcell _ _ rfl hbb)
        | (go_at_call 34; refine (cI _).mono ?_; rintro e w9 ⟨rfl, hw⟩; have hw := hw.symm; subst hw))
      go_ret
      exact ⟨by rw [HE.out]; rfl, (hb0 _).trans (hbb.mono (hb0 _).size)⟩
    subst h0
    simp only [decide_true, Bool.not_true, Bool.false_and, Bool.not_false, Bool.true_and] at hE
    by_cases h2 : op = 2
    · rw [if_pos h2] at hE
      have HE : Hid (E = lineB s) := hE
      have cL := fun w => sLine ⟨s.toArray⟩ (by show ((s.toArray.size : Nat) : Int) ≤ _; simp; omega) w
      subst h2
      clear hE hop hop2
      go_enter Tryz.func36, Tryz.ntmps36
      go_wp2_with (first
        | (go_at_call 67; refine (cK _ (hb0 _)).mono ?_; rintro e w2 ⟨rfl, hbb⟩; obtain ⟨x0, x1, x2, x3⟩ := hcell _ _ rfl hbb)
        | (go_at_call 34; refine (cI _).mono ?_; rintro e w9 ⟨rfl, hw⟩; have hw := hw.symm; subst hw)
        | (go_at_call 68; refine (cL _).mono ?_; rintro e w9 ⟨rfl, hw⟩; have hw := hw.symm; subst hw))
      go_ret
      exact ⟨by rw [HE.out]; rfl, (hb0 _).trans (hbb.mono (hb0 _).size)⟩
    rw [if_neg h2] at hE
    have f2 : (op == 2) = false := beq_eq_false_iff_ne.2 h2
    by_cases h3 : op = 3
    · rw [if_pos h3] at hE
      have HE : Hid (E = rexB s) := hE
      have cL := fun w => sRex ⟨s.toArray⟩ (by show ((s.toArray.size : Nat) : Int) ≤ _; simp; omega) w
      subst h3
      clear hE hop hop2
      go_enter Tryz.func36, Tryz.ntmps36
      go_wp2_with (first
        | (go_at_call 67; refine (cK _ (hb0 _)).mono ?_; rintro e w2 ⟨rfl, hbb⟩; obtain ⟨x0, x1, x2, x3⟩ := hcell _ _ rfl hbb)
        | (go_at_call 34; refine (cI _).mono ?_; rintro e w9 ⟨rfl, hw⟩; have hw := hw.symm; subst hw)
        | (go_at_call 69; refine (cL _).mono ?_; rintro e w9 ⟨rfl, hw⟩; have hw := hw.symm; subst hw))
      go_ret
      exact ⟨by rw [HE.out]; rfl, (hb0 _).trans (hbb.mono (hb0 _).size)⟩
    rw [if_neg h3] at hE
    have f3 : (op == 3) = false := beq_eq_false_iff_ne.2 h3
    by_cases h4 : op = 4 ∨ op = 5 ∨ op = 34
    · rw [if_pos h4] at hE
      have HE : Hid (E = nameB s) := hE
      have cL := fun w => sName s hsl w
      clear hE hop hop2
      rcases h4 with rfl | rfl | rfl
      all_goals
        go_enter Tryz.func36, Tryz.ntmps36
        go_wp2_with (first
          | (go_at_call 67; refine (cK _ (hb0 _)).mono ?_; rintro e w2 ⟨rfl, hbb⟩; obtain ⟨x0, x1, x2, x3⟩ := hcell _ _ rfl hbb; have hbw := (hb0 _).trans (hbb.mono (hb0 _).size))
          | (go_at_call 34; refine (cI _).mono ?_; rintro e w9 ⟨rfl, hw⟩; have hw := hw.symm; subst hw)
          | (go_at_call 70; refine (cL _).mono ?_; rintro e w3 ⟨rfl, hbc⟩))
        go_ret
        exact ⟨by rw [HE.out]; rfl, hbw.trans (hbc.mono hbw.size)⟩
    rw [if_neg h4] at hE
    simp only [not_or] at h4
    obtain ⟨g4, g5, g34⟩ := h4
    have k1 : (op == 4) = false := beq_eq_false_iff_ne.2 g4
    have k2 : (op == 5) = false := beq_eq_false_iff_ne.2 g5
    have k3 : (op == 34) = false := beq_eq_false_iff_ne.2 g34
    by_cases h28 : op = 28
    · rw [if_pos h28] at hE
      have HE : Hid (E = callB s) := hE
      subst h28
      clear hE hop hop2
      go_enter Tryz.func36, Tryz.ntmps36
      go_wp2_with (first
        | (go_at_call 67; refine (cK _ (hb0 _)).mono ?_; rintro e w2 ⟨rfl, hbb⟩; obtain ⟨x0, x1, x2, x3⟩ := hcell _ _ rfl hbb; have hbw := (hb0 _).trans (hbb.mono (hb0 _).size))
        | (go_at_call 34; refine (cI _).mono ?_; rintro e w9 ⟨rfl, hw⟩; have hw := hw.symm; subst hw))
      have hlt : w.heap.size < w2.heap.size := by have := hbb.size; simp at this; omega
      have cC : Calls Tryz.prog 71 #[] w2.drew fun e w' => e = .returned (.slice (some ⟨w2.heap.size, 0, none⟩) 6 6) ∧ w'.cell? ⟨w.heap.size, 2, none⟩ = some (.string ⟨s.toArray⟩) ∧ Calls Tryz.prog 23 #[.slice (some ⟨w2.heap.size, 0, none⟩) 6 6, .string ⟨s.toArray⟩] w' (fun e w'' => e = .returned (.bool (callB s)) ∧ Below w.heap.size w w'') := by
        refine (sCalls w2.drew).mono ?_
        rintro e w' ⟨rfl, hr, hb'⟩
        refine ⟨rfl, (hb'.cell (p := ⟨w.heap.size, 2, none⟩) hlt).trans x2, (sWithin (L := callL) (by decide) s _ 6 w' hr).mono ?_⟩
        rintro e w'' ⟨rfl, rfl⟩
        exact ⟨rfl, (Below.drew hbw).trans (hb'.mono hbw.size)⟩
      go_region_with (first
        | (go_at_call 71; with_reducible refine cC.mono ?_; rintro e w3 ⟨rfl, y2, cW⟩)
        | (go_at_call 23; with_reducible refine cW.mono ?_; rintro e w4 ⟨rfl, hbc⟩))
      all_goals go_wp2_with fail
      all_goals go_ret
      all_goals exact ⟨by rw [HE.out]; rfl, hbc⟩
    rw [if_neg h28] at hE
    have f28 : (op == 28) = false := beq_eq_false_iff_ne.2 h28
    have HE : Hid (E = decide (s = [])) := hE
    clear hE hop hop2
    generalize decide (s = []) = D at *
    go_enter Tryz.func36, Tryz.ntmps36
    go_wp2_with (first
      | (go_at_call 67; refine (cK _ (hb0 _)).mono ?_; rintro e w2 ⟨rfl, hbb⟩; obtain ⟨x0, x1, x2, x3⟩ := hcell _ _ rfl hbb)
      | (go_at_call 34; refine (cI _).mono ?_; rintro e w9 ⟨rfl, hw⟩; have hw := hw.symm; subst hw))
    go_ret
    exact ⟨by rw [HE.out, ← e3]; rfl, (hb0 _).trans (hbb.mono (hb0 _).size)⟩

end Ty
end Go.Proofs.YtjdohfdkkppnpaaGreatDoor

