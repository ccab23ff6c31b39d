/-
  The specification's l9Node, at every tree.
  The specification's Deep.
-/
import Derived.Test.YtjdohfdkkppnpaaGreatDoorP47
import Derived.Test.YtjdohfdkkppnpaaGreatDoorP05
namespace Go.Proofs.YtjdohfdkkppnpaaGreatDoor
open Go.RowKit
namespace Ty
open Nd

theorem nodeS_eq (op n : Int) (s : List UInt8) (ks : List Data) : nodeS op n s ks = (kidsS op ks && (decide (1 ≤ op) && decide (op ≤ 35)) && !(!decide (n = 0) && !decide (op = 1)) && wordS op n s) := rfl

set_option maxHeartbeats 4000000 in
set_option maxRecDepth 100000 in
theorem sNode (t : Data) : siz t ≤ 1048576 → Tells 36 allB t := by
  induction t using tree_ind with
  | h1 t ht =>
    intro _ w a b c u _ h
    obtain ⟨op, n, s, ao, cap, e, _⟩ := arg_form h
    exact absurd e (ht _ _)
  | h ks lab ih =>
    intro hsz w a b c u hS hA
    have hkk : kidsOf (.slice ks lab) = ks := rfl
    have hlen := len_siz (.slice ks lab)
    have hsk := siz_kids (.slice ks lab)
    rw [hkk] at hlen hsk
    have hkids : ∀ x ∈ kidsOf (.slice ks lab), Tells 36 allB x := fun x hx => ih x hx (by have := sizs_mem (show x ∈ ks from hx); omega)
    have cK := fun w' (hb : Below w.heap.size w w') => sKids hkids (by rw [hkk]; omega) w' a b c u (hS.later hb) (arg_frame hb _ _ hA)
    obtain ⟨ao, cap, rfl, rfl, rfl, rfl, -, hnd⟩ := arg_open hA
    have hE : allB (.slice ks lab) = nodeS (opOf (.slice ks lab)) (numOf (.slice ks lab)) (txtOf (.slice ks lab)) (kidsOf (.slice ks lab)) := by rw [node_all]; exact congrArg allB hnd
    have hsl : (txtOf (.slice ks lab)).length ≤ 1048576 := by rw [hnd, siz_nd] at hsz; omega
    obtain ⟨E, hEE⟩ : ∃ E, E = allB (.slice ks lab) := ⟨_, rfl⟩
    rw [← hEE]
    rw [← hEE] at hE
    rw [nodeS_eq] at hE
    have hb0 : ∀ o, Below w.heap.size w (w.alloc o) := fun o => (Below.refl _ w).alloc (Nat.le_refl _) _
    clear ih hA hS hnd hkids hsz hlen hsk hEE hkk
    generalize opOf (.slice ks lab) = op at *
    generalize numOf (.slice ks lab) = n at *
    generalize txtOf (.slice ks lab) = s at *
    generalize kidsOf (.slice ks lab) = kids at *
    have hcell : ∀ o w', o = Obj.cells #[.int .i64 op, .int .i64 n, .string ⟨s.toArray⟩, .slice ao kids.length cap] 39 → Below (w.alloc o).heap.size (w.alloc o) w' → w'.cell? ⟨w.heap.size, 0, none⟩ = some (.int .i64 op) ∧ w'.cell? ⟨w.heap.size, 1, none⟩ = some (.int .i64 n) ∧ w'.cell? ⟨w.heap.size, 2, none⟩ = some (.string ⟨s.toArray⟩) ∧ w'.cell? ⟨w.heap.size, 3, none⟩ = some (.slice ao kids.length cap) := fun o w' ho hb => by
      have hV : Var (w.alloc o) w.heap.size (.int .i64 op) (.int .i64 n) (.string ⟨s.toArray⟩) (.slice ao kids.length cap) := by rw [ho]; exact heap_new _ _
      exact (hV.kept (hb.block _ hV.lt)).cell
    have cI := fun w => sIn1 op 1 35 w
    have cN := fun w => sIn1 n 0 9000000000000 w
    have e3 : (s == []) = decide (s = []) := by rw [Bool.eq_iff_iff]; simp
    generalize kidsS op kids = K at *
    cases K
    · have HE : Hid (E = false) := by show _ = _; rw [hE]; rfl
      clear hE
      go_enter Tryz.func36, Tryz.ntmps36
      go_wp2_with (go_at_call 67; refine (cK _ (hb0 _)).mono ?_; rintro e w2 ⟨rfl, hbb⟩)
      go_ret
      exact ⟨by rw [HE.out]; rfl, (hb0 _).trans (hbb.mono (hb0 _).size)⟩
    rw [Bool.true_and] at hE
    by_cases hop : 1 ≤ op ∧ op ≤ 35
    rotate_left
    · have hop2 : (decide (1 ≤ op) && decide (op ≤ 35)) = false := by simp; omega
      have HE : Hid (E = false) := by show _ = _; rw [hE, hop2]; rfl
      rw [hop2] at cI
      clear hE hop hop2
      go_enter Tryz.func36, Tryz.ntmps36
      go_wp2_with (first
        | (go_at_call 67; refine (cK _ (hb0 _)).mono ?_; rintro e w2 ⟨rfl, hbb⟩; obtain ⟨x0, x1, x2, x3⟩ := hcell _ _ rfl hbb)
        | (go_at_call 34; refine (cI _).mono ?_; rintro e w9 ⟨rfl, hw⟩; have hw := hw.symm; subst hw))
      go_ret
      exact ⟨by rw [HE.out]; rfl, (hb0 _).trans (hbb.mono (hb0 _).size)⟩
    have hop2 : (decide (1 ≤ op) && decide (op ≤ 35)) = true := by simp; omega
    rw [hop2] at cI hE
    rw [Bool.true_and] at hE
    unfold wordS at hE
    by_cases h1 : op = 1
    · have HE : Hid (E = (decide (s = []) && (decide (0 ≤ n) && decide (n ≤ 9000000000000)))) := by show _ = _; rw [hE, if_pos h1]; simp [h1]
      subst h1
      clear hE hop hop2
      generalize (decide (0 ≤ n) && decide (n ≤ 9000000000000)) = B at *
      generalize decide (s = []) = D at *
      rcases e6 : (n != 0) with _ | _
      all_goals (
        cases D
        · go_enter Tryz.func36, Tryz.ntmps36
          go_wp2_with (first
            | (go_at_call 67; refine (cK _ (hb0 _)).mono ?_; rintro e w2 ⟨rfl, hbb⟩; obtain ⟨x0, x1, x2, x3⟩ := hcell _ _ rfl hbb)
            | (go_at_call 34; with_reducible refine (cI _).mono ?_; rintro e w9 ⟨rfl, hw⟩; have hw := hw.symm; subst hw)
            | (go_at_call 34; with_reducible refine (cN _).mono ?_; rintro e w9 ⟨rfl, hw⟩; have hw := hw.symm; subst hw))
          go_ret
          exact ⟨by rw [HE.out]; rfl, (hb0 _).trans (hbb.mono (hb0 _).size)⟩
        · go_enter Tryz.func36, Tryz.ntmps36
          go_wp2_with (first
            | (go_at_call 67; refine (cK _ (hb0 _)).mono ?_; rintro e w2 ⟨rfl, hbb⟩; obtain ⟨x0, x1, x2, x3⟩ := hcell _ _ rfl hbb)
            | (go_at_call 34; with_reducible refine (cI _).mono ?_; rintro e w9 ⟨rfl, hw⟩; have hw := hw.symm; subst hw)
            | (go_at_call 34; with_reducible refine (cN _).mono ?_; rintro e w9 ⟨rfl, hw⟩; have hw := hw.symm; subst hw))
          go_ret
          exact ⟨by rw [HE.out]; rfl, (hb0 _).trans (hbb.mono (hb0 _).size)⟩)
    rw [if_neg h1] at hE
    have f1 : (op == 1) = false := beq_eq_false_iff_ne.2 h1
    have q1 : (op != 1) = true := by simp [h1]
    by_cases h0 : n = 0
    rotate_left
    · have e6 : (n == 0) = false := beq_eq_false_iff_ne.2 h0
      have q6 : (n != 0) = true := by simp [h0]
      have HE : Hid (E = false) := by show _ = _; rw [hE]; simp [h1, h0]
      clear hE hop hop2
      go_enter Tryz.func36, Tryz.ntmps36
      go_wp2_with (first
        | (go_at_call 67; refine (cK _ (hb0 _)).mono ?_; rintro e w2 ⟨rfl, hbb⟩; obtain ⟨x0, x1, x2, x3⟩ := hcell _ _ rfl hbb)
        | (go_at_call 34; refine (cI _).mono ?_; rintro e w9 ⟨rfl, hw⟩; have hw := hw.symm; subst hw))
      go_ret
      exact ⟨by rw [HE.out]; rfl, (hb0 _).trans (hbb.mono (hb0 _).size)⟩
    subst h0
    simp only [decide_true, Bool.not_true, Bool.false_and, Bool.not_false, Bool.true_and] at hE
    by_cases h2 : op = 2
    · rw [if_pos h2] at hE
      have HE : Hid (E = lineB s) := hE
      have cL := fun w => sLine ⟨s.toArray⟩ (by show ((s.toArray.size : Nat) : Int) ≤ _; simp; omega) w
      subst h2
      clear hE hop hop2
      go_enter Tryz.func36, Tryz.ntmps36
      go_wp2_with (first
        | (go_at_call 67; refine (cK _ (hb0 _)).mono ?_; rintro e w2 ⟨rfl, hbb⟩; obtain ⟨x0, x1, x2, x3⟩ := hcell _ _ rfl hbb)
        | (go_at_call 34; refine (cI _).mono ?_; rintro e w9 ⟨rfl, hw⟩; have hw := hw.symm; subst hw)
        | (go_at_call 68; refine (cL _).mono ?_; rintro e w9 ⟨rfl, hw⟩; have hw := hw.symm; subst hw))
      go_ret
      exact ⟨by rw [HE.out]; rfl, (hb0 _).trans (hbb.mono (hb0 _).size)⟩
    rw [if_neg h2] at hE
    have f2 : (op == 2) = false := beq_eq_false_iff_ne.2 h2
    by_cases h3 : op = 3
    · rw [if_pos h3] at hE
      have HE : Hid (E = rexB s) := hE
      have cL := fun w => sRex ⟨s.toArray⟩ (by show ((s.toArray.size : Nat) : Int) ≤ _; simp; omega) w
      subst h3
      clear hE hop hop2
      go_enter Tryz.func36, Tryz.ntmps36
      go_wp2_with (first
        | (go_at_call 67; refine (cK _ (hb0 _)).mono ?_; rintro e w2 ⟨rfl, hbb⟩; obtain ⟨x0, x1, x2, x3⟩ := hcell _ _ rfl hbb)
        | (go_at_call 34; refine (cI _).mono ?_; rintro e w9 ⟨rfl, hw⟩; have hw := hw.symm; subst hw)
        | (go_at_call 69; refine (cL _).mono ?_; rintro e w9 ⟨rfl, hw⟩; have hw := hw.symm; subst hw))
      go_ret
      exact ⟨by rw [HE.out]; rfl, (hb0 _).trans (hbb.mono (hb0 _).size)⟩
    rw [if_neg h3] at hE
    have f3 : (op == 3) = false := beq_eq_false_iff_ne.2 h3
    by_cases h4 : op = 4 ∨ op = 5 ∨ op = 34
    · rw [if_pos h4] at hE
      have HE : Hid (E = nameB s) := hE
      have cL := fun w => sName s hsl w
      clear hE hop hop2
      rcases h4 with rfl | rfl | rfl
      all_goals
        go_enter Tryz.func36, Tryz.ntmps36
        go_wp2_with (first
          | (go_at_call 67; refine (cK _ (hb0 _)).mono ?_; rintro e w2 ⟨rfl, hbb⟩; obtain ⟨x0, x1, x2, x3⟩ := hcell _ _ rfl hbb; have hbw := (hb0 _).trans (hbb.mono (hb0 _).size))
          | (go_at_call 34; refine (cI _).mono ?_; rintro e w9 ⟨rfl, hw⟩; have hw := hw.symm; subst hw)
          | (go_at_call 70; refine (cL _).mono ?_; rintro e w3 ⟨rfl, hbc⟩))
        go_ret
        exact ⟨by rw [HE.out]; rfl, hbw.trans (hbc.mono hbw.size)⟩
    rw [if_neg h4] at hE
    simp only [not_or] at h4
    obtain ⟨g4, g5, g34⟩ := h4
    have k1 : (op == 4) = false := beq_eq_false_iff_ne.2 g4
    have k2 : (op == 5) = false := beq_eq_false_iff_ne.2 g5
    have k3 : (op == 34) = false := beq_eq_false_iff_ne.2 g34
    by_cases h28 : op = 28
    · rw [if_pos h28] at hE
      have HE : Hid (E = callB s) := hE
      subst h28
      clear hE hop hop2
      go_enter Tryz.func36, Tryz.ntmps36
      go_wp2_with (first
        | (go_at_call 67; refine (cK _ (hb0 _)).mono ?_; rintro e w2 ⟨rfl, hbb⟩; obtain ⟨x0, x1, x2, x3⟩ := hcell _ _ rfl hbb; have hbw := (hb0 _).trans (hbb.mono (hb0 _).size))
        | (go_at_call 34; refine (cI _).mono ?_; rintro e w9 ⟨rfl, hw⟩; have hw := hw.symm; subst hw))
      have hlt : w.heap.size < w2.heap.size := by have := hbb.size; simp at this; omega
      have cC : Calls Tryz.prog 71 #[] w2.drew fun e w' => e = .returned (.slice (some ⟨w2.heap.size, 0, none⟩) 6 6) ∧ w'.cell? ⟨w.heap.size, 2, none⟩ = some (.string ⟨s.toArray⟩) ∧ Calls Tryz.prog 23 #[.slice (some ⟨w2.heap.size, 0, none⟩) 6 6, .string ⟨s.toArray⟩] w' (fun e w'' => e = .returned (.bool (callB s)) ∧ Below w.heap.size w w'') := by
        refine (sCalls w2.drew).mono ?_
        rintro e w' ⟨rfl, hr, hb'⟩
        refine ⟨rfl, (hb'.cell (p := ⟨w.heap.size, 2, none⟩) hlt).trans x2, (sWithin (L := callL) (by decide) s _ 6 w' hr).mono ?_⟩
        rintro e w'' ⟨rfl, rfl⟩
        exact ⟨rfl, (Below.drew hbw).trans (hb'.mono hbw.size)⟩
      go_region_with (first
        | (go_at_call 71; with_reducible refine cC.mono ?_; rintro e w3 ⟨rfl, y2, cW⟩)
        | (go_at_call 23; with_reducible refine cW.mono ?_; rintro e w4 ⟨rfl, hbc⟩))
      all_goals go_wp2_with fail
      all_goals go_ret
      all_goals exact ⟨by rw [HE.out]; rfl, hbc⟩
    rw [if_neg h28] at hE
    have f28 : (op == 28) = false := beq_eq_false_iff_ne.2 h28
    have HE : Hid (E = decide (s = [])) := hE
    clear hE hop hop2
    generalize decide (s = []) = D at *
    go_enter Tryz.func36, Tryz.ntmps36
    go_wp2_with (first
      | (go_at_call 67; refine (cK _ (hb0 _)).mono ?_; rintro e w2 ⟨rfl, hbb⟩; obtain ⟨x0, x1, x2, x3⟩ := hcell _ _ rfl hbb)
      | (go_at_call 34; refine (cI _).mono ?_; rintro e w9 ⟨rfl, hw⟩; have hw := hw.symm; subst hw))
    go_ret
    exact ⟨by rw [HE.out, ← e3]; rfl, (hb0 _).trans (hbb.mono (hb0 _).size)⟩

end Ty
end Go.Proofs.YtjdohfdkkppnpaaGreatDoor

namespace Go.Proofs.YtjdohfdkkppnpaaGreatDoor
open Go.RowKit
namespace Nd

theorem sMax (a b : Nat) (w : World) : Calls Tryz.prog 72 #[.int .i64 a, .int .i64 b] w fun e w' => e = .returned (.int .i64 (max a b : Nat)) ∧ w' = w := by
  by_cases h : b < a
  · have h' : (b : Int) < a := by omega
    have HM : Hid (max a b = a) := by show _ = _; omega
    go_enter Tryz.func72, Tryz.ntmps72
    go_wp2_with fail
    go_ret
    exact ⟨by rw [HM.out]; rfl, rfl⟩
  · have h' : (a : Int) ≤ b := by omega
    have HM : Hid (max a b = b) := by show _ = _; omega
    clear h
    go_enter Tryz.func72, Tryz.ntmps72
    go_wp2_with fail
    go_ret
    exact ⟨by rw [HM.out]; rfl, rfl⟩

def DeepOk (t : Data) : Prop := ∀ (w : World) (S : Nat → Prop) (a b c u : Value), NodeIs w t S [a, b, c, u] → (∀ k, S k → k < w.heap.size) →
  Calls Tryz.prog 37 #[.agg #[a, b, c, u]] w fun e w' => e = .returned (.int .i64 (dep t)) ∧ Below w.heap.size w w'

theorem sDeep (t : Data) : cnts (kidsOf t) ≤ 1048576 → DeepOk t := by
  induction t using tree_ind with
  | h1 t ht =>
    intro _ w S a b c u h
    obtain ⟨op, n, s, ks, rfl⟩ := node_node h
    exact absurd rfl (ht _ _)
  | h ks lab ih =>
    intro hc w S a b c u h hS
    obtain ⟨op, n, s, ks', e⟩ := node_node h
    have e2 := congrArg kidsOf e
    simp only [kidsOf, nd] at e2
    subst e2
    rw [e] at h
    have hdep : dep (.slice ks lab) = deps ks + 1 := by simp [dep]
    rw [hdep]
    replace hc : cnts ks ≤ 1048576 := hc
    rw [node_nd] at h
    obtain ⟨v, xs, he, ho, hg, hx⟩ := h
    simp at he
    obtain ⟨rfl, rfl, rfl, rfl⟩ := he
    have hlen := cnts_len ks
    have hnI : (ks.length : Int) ≤ 1048576 := by omega
    have hdc : deps ks ≤ 1048576 := by have := dep_cnt (nd op n s ks); rw [dep_nd, cnt_nd] at this; omega
    have HD : Hid (deps (ks.take ks.length) = deps ks) := by show _ = _; rw [List.take_length]
    have HI : Hid (∀ i, (deps (ks.take i) : Int) ≤ 1048576) := fun i => by have := deps_le ks i; omega
    have HJ : Hid (∀ t ∈ ks, (dep t : Int) ≤ 1048576) := fun t ht => by have := deps_mem ht; omega
    have hkids : ∀ t ∈ ks, DeepOk t := fun t ht => ih t ht (by have := cnts_mem ht; have := cnt_kids t; omega)
    obtain ⟨ao, cap, rfl⟩ := owns_slice ho
    obtain ⟨o1, ho1⟩ : ∃ o1, o1 = Obj.cells #[.int .i64 op, .int .i64 n, .string ⟨s.toArray⟩, .slice ao ks.length cap] 39 := ⟨_, rfl⟩
    have hb0 : Below w.heap.size w (w.alloc o1) := (Below.refl _ w).alloc (Nat.le_refl _) _
    have hv0 : Var (w.alloc o1) w.heap.size (.int .i64 op) (.int .i64 n) (.string ⟨s.toArray⟩) (.slice ao ks.length cap) := by rw [ho1]; exact heap_new _ _
    subst ho1
    clear ih hlen hc hdc e hdep
    go_enter Tryz.func37, Tryz.ntmps37
    go_wp2_with fail
    go_loopw [3, 4] (fun mo i wr => ∃ k : Nat, k ≤ ks.length ∧ i = .int .i64 k ∧ mo = .int .i64 (deps (ks.take k)) ∧ Below w.heap.size w wr ∧ Var wr w.heap.size (.int .i64 op) (.int .i64 n) (.string ⟨s.toArray⟩) (.slice ao ks.length cap)) (fun _ i _ => ks.length - (intOf i).toNat)
    case atStart => exact ⟨0, Nat.zero_le _, rfl, rfl, hb0, hv0⟩
    case round =>
      obtain ⟨k, hkn, rfl, rfl, hb, hV⟩ := hrel
      have v3 := hV.cell.2.2.2
      by_cases hkl : k < ks.length
      · have hki : ks[k]? = some ks[k] := List.getElem?_eq_getElem hkl
        obtain ⟨T1, a, b, c, u, x0, x1, x2, x3, hr1, hs1⟩ := nodes_at hx hki
        obtain ⟨g, rfl, hg', hc'⟩ := row_cells ho hkl
        have cl : ∀ j x, xs[j]? = some x → wr.cell? ⟨g, j, none⟩ = some x := fun j x hx => (hb.cell (p := ⟨g, j, none⟩) hg').trans (hc' j x hx)
        have p0 := cl _ _ x0
        have p1 := cl _ _ x1
        have p2 := cl _ _ x2
        have p3 := cl _ _ x3
        have call := hkids ks[k] (List.getElem_mem hkl) wr T1 a b c u (node_frame _ _ _ (fun j hj => hb.block j (hS j (hs1 j hj).1)) hr1) (fun j hj => Nat.lt_of_lt_of_le (hS j (hs1 j hj).1) hb.size)
        have HT2 : Hid (deps (ks.take (k + 1)) = max (deps (ks.take k)) (dep ks[k])) := deps_take ks k ks[k] hki
        have hd1 : (dep ks[k] : Int) ≤ 1048576 := HJ.out _ (List.getElem_mem hkl)
        have hi2 : (deps (ks.take k) : Int) ≤ 1048576 := HI.out k
        have hlt := hV.lt
        have bk : (k : Int) < ks.length := by omega
        clear x0 x1 x2 x3 hc' cl hr1 hs1 hx ho hki hkids HI HD HJ
        generalize dep ks[k] = D at *
        generalize deps (ks.take k) = M at *
        go_wp2_with (first | (go_at_call 37; refine call.mono ?_; rintro e w2 ⟨rfl, hb2⟩) | (go_at_call 72; refine (sMax M D _).mono ?_; rintro e w3 ⟨rfl, hw⟩; have hw := hw.symm; subst hw))
        go_roundw
        case rel => exact ⟨k + 1, by omega, by go_num, by rw [HT2.out], hb.trans (hb2.mono hb.size), hV.kept (hb2.block _ hlt)⟩
        case measure => simp [intOf]; omega
      · obtain rfl : k = ks.length := by omega
        have hi3 : (deps (ks.take ks.length) : Int) ≤ 1048576 := HI.out _
        clear HI HJ hx ho hkids
        generalize deps (ks.take ks.length) = M at *
        go_wp2_with fail
        go_ret
        exact ⟨by rw [← HD.out]; rfl, hb⟩

end Nd
end Go.Proofs.YtjdohfdkkppnpaaGreatDoor

