/-
  The specification's l9E.
-/
import Derived.Test.YtjdohfdkkppnpaaGreatDoorQ35
namespace Go.Proofs.YtjdohfdkkppnpaaGreatDoor
open Go.RowKit
namespace Ty
open Nd
set_option linter.unusedSimpArgs false
set_option linter.unusedVariables false

set_option maxHeartbeats 8000000 in
set_option maxRecDepth 100000 in
theorem sE (t : Data) : allB t = true → eB (opOf t) = true → siz t ≤ 1048576 → STells 14 eT t := by
  induction t using tree_ind with
  | h1 t ht =>
    intro _ _ _ w a b c u hA
    exact absurd (tree_nodes hA) (ht _ _)
  | h ks lab ih =>
    intro hall hE hsz w a b c u hA
    have hnd := tree_nodes hA
    have hkk : kidsOf (.slice ks lab) = ks := rfl
    rw [hnd, all_nd, Bool.and_eq_true] at hall
    obtain ⟨hnode, halls⟩ := hall
    rw [← hnd] at hnode
    rw [node_eq, Bool.and_eq_true] at hnode
    have hkind : kindB (opOf (.slice ks lab)) (ks.map opOf) = true := hnode.2
    rw [hkk, alls_all, List.all_eq_true] at halls
    have hsk := siz_kids (.slice ks lab)
    rw [hkk] at hsk
    have hsks : sizs ks ≤ 1048576 := by omega
    have hkid : ∀ x ∈ ks, eB (opOf x) = true → STells 14 eT x := fun x hx he => ih x hx (halls x hx) he (by have := sizs_mem hx; omega)
    have hsl : (txtOf (.slice ks lab)).length ≤ 1048576 := by have h2 := hsz; rw [hnd, siz_nd] at h2; omega
    have hslI : ((txtOf (.slice ks lab)).length : Int) ≤ 1048576 := by omega
    have hT : eT (.slice ks lab) = eK (opOf (.slice ks lab)) (numOf (.slice ks lab)) (txtOf (.slice ks lab)) (kop0 ks) (esT ks) := by rw [eT]
    have hkt : kidsOf (.slice ks lab) = ks := rfl
    have hXb : ∀ x ∈ ks, ((eT x).length : Int) ≤ 100000000 := fun x hx => by have := eT_len x; have := sizs_mem hx; omega
    have hJb : ((joinE (esT ks)).length : Int) ≤ 100000000 := by have := join_bound ks ks.length; rw [List.take_length] at this; omega
    clear ih hnode halls hsk hkk hsz
    generalize Data.slice ks lab = t at *
    rw [hT]
    obtain ⟨ao, cap, rfl, rfl, rfl, rfl, hK, -⟩ := arg_open hA
    rw [hkt] at hK ⊢
    have hb1 : ∀ o, Below w.heap.size w (w.alloc o) := fun o => (Below.refl _ w).alloc (Nat.le_refl _) _
    have hb2 : ∀ o o', Below w.heap.size w ((w.alloc o).alloc o') := fun o o' => (hb1 o).alloc (by simp) _
    obtain ⟨WB, hWB⟩ : ∃ WB, WB = (w.alloc (.cells #[.int .i64 (opOf t), .int .i64 (numOf t), .string ⟨(txtOf t).toArray⟩, .slice ao ks.length cap] 39)).alloc (.cells (sgnS.map strV).toArray 9) := ⟨_, rfl⟩
    have hbW : Below w.heap.size w WB := by rw [hWB]; exact hb2 _ _
    have hbox : ∀ w', Below WB.heap.size WB w' → w'.cell? ⟨w.heap.size, 0, none⟩ = some (.int .i64 (opOf t)) ∧ w'.cell? ⟨w.heap.size, 1, none⟩ = some (.int .i64 (numOf t)) ∧ w'.cell? ⟨w.heap.size, 2, none⟩ = some (.string ⟨(txtOf t).toArray⟩) ∧ w'.cell? ⟨w.heap.size, 3, none⟩ = some (.slice ao ks.length cap) := fun w' h => by
      have hV : Var WB w.heap.size (.int .i64 (opOf t)) (.int .i64 (numOf t)) (.string ⟨(txtOf t).toArray⟩) (.slice ao ks.length cap) := by
        unfold Var
        rw [hWB, Below.heap_alloc _ _ _ (by simp)]
        exact heap_new _ _
      exact (hV.kept (h.block _ hV.lt)).cell
    have HW : Hid (WB = (w.alloc (.cells #[.int .i64 (opOf t), .int .i64 (numOf t), .string ⟨(txtOf t).toArray⟩, .slice ao ks.length cap] 39)).alloc (.cells (sgnS.map strV).toArray 9)) := hWB
    clear hWB
    rcases e_ways hE with h | h | h | h | h | h | h | h | h | h | h | h
    · have HV : Hid (eK (opOf t) (numOf t) (txtOf t) (kop0 ks) (esT ks) = Num.decTextL (numOf t)) := by show _ = _; unfold eK; rw [if_pos h]
      have cd := fun w' => sDecText (numOf t) w'
      generalize eK (opOf t) (numOf t) (txtOf t) (kop0 ks) (esT ks) = V at *
      rw [h]
      clear hT hkind hkid hA hK hE hkt hnd hXb hJb hbox HW hbW h
      generalize Num.decTextL (numOf t) = D at *
      generalize numOf t = n at *
      generalize txtOf t = s at *
      go_enter Tryz.func14, Tryz.ntmps14
      go_wp2_with (go_at_call 38; refine (cd _).mono ?_; rintro e w3 ⟨rfl, hb3⟩)
      go_ret
      exact ⟨by rw [HV.out]; rfl, (hb2 _ _).trans (hb3.mono (hb2 _ _).size)⟩
    · have HV : Hid (eK (opOf t) (numOf t) (txtOf t) (kop0 ks) (esT ks) = [34] ++ back [34, 92] (txtOf t) ++ [34]) := by show _ = _; unfold eK; rw [if_neg (by omega)]; rw [if_pos h]
      have cd := fun w' => sBack ⟨(txtOf t).toArray⟩ [34, 92] hsl (by decide) w'
      have hbl := back_len [34, 92] (txtOf t)
      have bl : ((back [34, 92] (txtOf t)).length : Int) ≤ 4194304 := by omega
      have hst : (⟨(txtOf t).toArray⟩ : ByteArray).data.toList = txtOf t := rfl
      rw [hst] at cd
      clear hbl hst
      generalize eK (opOf t) (numOf t) (txtOf t) (kop0 ks) (esT ks) = V at *
      rw [h]
      clear hT hkind hkid hA hK hE hkt hnd hXb hJb hbox HW hbW h
      generalize back [34, 92] (txtOf t) = D at *
      generalize numOf t = n at *
      generalize txtOf t = s at *
      go_enter Tryz.func14, Tryz.ntmps14
      go_wp2_with (go_at_call 39; refine (cd _).mono ?_; rintro e w3 ⟨rfl, hb3⟩)
      go_ret
      exact ⟨by rw [HV.out]; simp [ba_pre, ba_append], (hb2 _ _).trans (hb3.mono (hb2 _ _).size)⟩
    · have HV : Hid (eK (opOf t) (numOf t) (txtOf t) (kop0 ks) (esT ks) = [40, 47] ++ back [47] (txtOf t) ++ [47, 41]) := by show _ = _; unfold eK; rw [if_neg (by omega)]; rw [if_neg (by omega)]; rw [if_pos h]
      have cd := fun w' => sBack ⟨(txtOf t).toArray⟩ [47] hsl (by decide) w'
      have hbl := back_len [47] (txtOf t)
      have bl : ((back [47] (txtOf t)).length : Int) ≤ 4194304 := by omega
      have hst : (⟨(txtOf t).toArray⟩ : ByteArray).data.toList = txtOf t := rfl
      rw [hst] at cd
      clear hbl hst
      generalize eK (opOf t) (numOf t) (txtOf t) (kop0 ks) (esT ks) = V at *
      rw [h]
      clear hT hkind hkid hA hK hE hkt hnd hXb hJb hbox HW hbW h
      generalize back [47] (txtOf t) = D at *
      generalize numOf t = n at *
      generalize txtOf t = s at *
      go_enter Tryz.func14, Tryz.ntmps14
      go_wp2_with (go_at_call 39; refine (cd _).mono ?_; rintro e w3 ⟨rfl, hb3⟩)
      go_ret
      exact ⟨by rw [HV.out]; simp [ba_pre, ba_append], (hb2 _ _).trans (hb3.mono (hb2 _ _).size)⟩
    · have HV : Hid (eK (opOf t) (numOf t) (txtOf t) (kop0 ks) (esT ks) = txtOf t) := by show _ = _; unfold eK; rw [if_neg (by omega)]; rw [if_neg (by omega)]; rw [if_neg (by omega)]; rw [if_pos h]
      generalize eK (opOf t) (numOf t) (txtOf t) (kop0 ks) (esT ks) = V at *
      rw [h]
      clear hT hkind hkid hA hK hE hkt hnd hXb hJb hbox HW hbW h
      generalize numOf t = n at *
      generalize txtOf t = s at *
      go_enter Tryz.func14, Tryz.ntmps14
      go_wp2_with fail
      go_ret
      exact ⟨by rw [HV.out]; rfl, hb2 _ _⟩
    · have HV : Hid (eK (opOf t) (numOf t) (txtOf t) (kop0 ks) (esT ks) = txtOf t ++ [91] ++ (esT ks).getD 0 [] ++ [93]) := by show _ = _; unfold eK; rw [if_neg (by omega)]; rw [if_neg (by omega)]; rw [if_neg (by omega)]; rw [if_neg (by omega)]; rw [if_pos h]
      obtain ⟨x, hxs, hex⟩ := just1 (by have h2 := hkind; unfold kindB at h2; rw [if_neg (by omega), if_pos (by omega)] at h2; exact h2)
      subst hxs
      obtain ⟨g, o, x0, x1, x2, x3, rfl, hgl, c0, c1, c2, c3, hax⟩ := args_at hK (show [x][0]? = some x from rfl)
      simp only [Nat.zero_mul, Nat.add_zero] at c0 c1 c2 c3
      have hcl : ∀ w', Below w.heap.size w w' → w'.cell? ⟨g, o, none⟩ = some x0 ∧ w'.cell? ⟨g, o + 1, none⟩ = some x1 ∧ w'.cell? ⟨g, o + 2, none⟩ = some x2 ∧ w'.cell? ⟨g, o + 3, none⟩ = some x3 := fun w' h => ⟨(h.cell (p := ⟨g, o, none⟩) hgl).trans c0, (h.cell (p := ⟨g, o + 1, none⟩) hgl).trans c1, (h.cell (p := ⟨g, o + 2, none⟩) hgl).trans c2, (h.cell (p := ⟨g, o + 3, none⟩) hgl).trans c3⟩
      have hxb := hXb x (by simp)
      have HV : Hid (eK (opOf t) (numOf t) (txtOf t) (kop0 [x]) (esT [x]) = txtOf t ++ [91] ++ eT x ++ [93]) := HV
      have cx : ∀ w', Below WB.heap.size WB w' → Calls Tryz.prog 14 #[.agg #[x0, x1, x2, x3]] w' fun e w'' => e = .returned (.string ⟨(eT x).toArray⟩) ∧ Below WB.heap.size WB w'' := fun w' h => by
        have hbw := hbW.trans (h.mono hbW.size)
        refine (hkid x (by simp) hex w' _ _ _ _ (arg_frame hbw _ _ hax)).mono ?_
        rintro e w'' ⟨rfl, hb3⟩
        exact ⟨rfl, h.trans (hb3.mono h.size)⟩
      have hS : ∀ w', Below WB.heap.size WB w' → Below WB.heap.size WB w' ∧ w'.cell? ⟨w.heap.size, 0, none⟩ = some (.int .i64 (opOf t)) ∧ w'.cell? ⟨w.heap.size, 1, none⟩ = some (.int .i64 (numOf t)) ∧ w'.cell? ⟨w.heap.size, 2, none⟩ = some (.string ⟨(txtOf t).toArray⟩) ∧ w'.cell? ⟨w.heap.size, 3, none⟩ = some (.slice (some ⟨g, o, none⟩) 1 cap) ∧ w'.cell? ⟨g, o, none⟩ = some x0 ∧ w'.cell? ⟨g, o + 1, none⟩ = some x1 ∧ w'.cell? ⟨g, o + 2, none⟩ = some x2 ∧ w'.cell? ⟨g, o + 3, none⟩ = some x3 := fun w' h => by
        obtain ⟨y0, y1, y2, y3⟩ := hbox w' h
        obtain ⟨d0, d1, d2, d3⟩ := hcl w' (hbW.trans (h.mono hbW.size))
        exact ⟨h, y0, y1, y2, y3, d0, d1, d2, d3⟩
      obtain ⟨xao, xcap, rfl, rfl, rfl, rfl, -, -⟩ := arg_open hax
      generalize eK (opOf t) (numOf t) (txtOf t) (kop0 [x]) (esT [x]) = V at *
      rw [h] at hS HW ⊢
      clear hT hkind hkid hA hK hE hkt hnd hXb hJb hbox h hax c0 c1 c2 c3 hcl hex
      generalize numOf t = n at *
      generalize txtOf t = s at *
      generalize eT x = X at *
      generalize opOf x = xop at *
      generalize numOf x = xn at *
      generalize txtOf x = xs at *
      generalize (kidsOf x).length = xL at *
      go_enter Tryz.func14, Tryz.ntmps14
      go_upto_region 12 with fail
      refine (show Code.wp _ _ _ _ ((w.alloc (.cells #[.int .i64 5, .int .i64 n, .string ⟨s.toArray⟩, .slice (some ⟨g, o, none⟩) [x].length cap] 39)).alloc (.cells (sgnS.map strV).toArray 9)) from ?_)
      rw [← HW.out]
      have hS0 := hS WB (Below.refl _ _)
      have m1 : ¬ 9223372036854775807 < s.length + 1 := by omega
      have m2 : ¬ 9223372036854775807 < s.length + 1 + X.length := by omega
      have m3 : ¬ 9223372036854775807 < s.length + 1 + X.length + 1 := by omega
      go_region_held3 (fun w' => Below WB.heap.size WB w' ∧ w'.cell? ⟨w.heap.size, 0, none⟩ = some (.int .i64 5) ∧ w'.cell? ⟨w.heap.size, 1, none⟩ = some (.int .i64 n) ∧ w'.cell? ⟨w.heap.size, 2, none⟩ = some (.string ⟨s.toArray⟩) ∧ w'.cell? ⟨w.heap.size, 3, none⟩ = some (.slice (some ⟨g, o, none⟩) 1 cap) ∧ w'.cell? ⟨g, o, none⟩ = some (.int .i64 xop) ∧ w'.cell? ⟨g, o + 1, none⟩ = some (.int .i64 xn) ∧ w'.cell? ⟨g, o + 2, none⟩ = some (.string ⟨xs.toArray⟩) ∧ w'.cell? ⟨g, o + 3, none⟩ = some (.slice xao xL xcap)) (first | exact hS _ (by assumption) | exact hS _ (below_drew1 (by first | assumption | exact Below.refl _ _))) (first | (go_at_call 14; with_reducible refine (cx _ ?_).mono ?_; (first | assumption | exact And.left (by assumption)); rintro e w2 ⟨rfl, hb2⟩))
      all_goals
        go_wp2_with fail
        go_ret
        exact ⟨by rw [HV.out]; simp [ba_pre, ba_append, ba_one], hbW.trans (hb2.mono hbW.size)⟩
    · have HV : Hid (eK (opOf t) (numOf t) (txtOf t) (kop0 ks) (esT ks) = (if plainOp (kop0 ks) then [36] ++ (esT ks).getD 0 [] else [36] ++ ([40] ++ (esT ks).getD 0 [] ++ [41]))) := by show _ = _; unfold eK; rw [if_neg (by omega)]; rw [if_neg (by omega)]; rw [if_neg (by omega)]; rw [if_neg (by omega)]; rw [if_neg (by omega)]; rw [if_pos h]
      obtain ⟨x, hxs, hex⟩ := just1 (by have h2 := hkind; unfold kindB at h2; rw [if_neg (by omega), if_pos (by omega)] at h2; exact h2)
      subst hxs
      obtain ⟨g, o, x0, x1, x2, x3, rfl, hgl, c0, c1, c2, c3, hax⟩ := args_at hK (show [x][0]? = some x from rfl)
      simp only [Nat.zero_mul, Nat.add_zero] at c0 c1 c2 c3
      have hcl : ∀ w', Below w.heap.size w w' → w'.cell? ⟨g, o, none⟩ = some x0 ∧ w'.cell? ⟨g, o + 1, none⟩ = some x1 ∧ w'.cell? ⟨g, o + 2, none⟩ = some x2 ∧ w'.cell? ⟨g, o + 3, none⟩ = some x3 := fun w' h => ⟨(h.cell (p := ⟨g, o, none⟩) hgl).trans c0, (h.cell (p := ⟨g, o + 1, none⟩) hgl).trans c1, (h.cell (p := ⟨g, o + 2, none⟩) hgl).trans c2, (h.cell (p := ⟨g, o + 3, none⟩) hgl).trans c3⟩
      have hxb := hXb x (by simp)
      have HV : Hid (eK (opOf t) (numOf t) (txtOf t) (kop0 [x]) (esT [x]) = fieldT x) := HV
      have cx : ∀ w', Below w.heap.size w w' → Calls Tryz.prog 40 #[.agg #[x0, x1, x2, x3]] w' fun e w'' => e = .returned (.string ⟨(fieldT x).toArray⟩) ∧ Below w'.heap.size w' w'' := fun w' h => sField (hkid x (by simp) hex) (by have := sizs_mem (show x ∈ [x] by simp); omega) w' _ _ _ _ (arg_frame h _ _ hax)
      obtain ⟨xao, xcap, rfl, rfl, rfl, rfl, -, -⟩ := arg_open hax
      have hcl2 := fun o o' => hcl _ (hb2 o o')
      generalize eK (opOf t) (numOf t) (txtOf t) (kop0 [x]) (esT [x]) = V at *
      rw [h]
      clear hT hkind hkid hA hK hE hkt hnd hXb hJb hbox h hax c0 c1 c2 c3 hcl hex HW hbW
      generalize numOf t = n at *
      generalize txtOf t = s at *
      generalize fieldT x = X at *
      generalize opOf x = xop at *
      generalize numOf x = xn at *
      generalize txtOf x = xs at *
      generalize (kidsOf x).length = xL at *
      go_enter Tryz.func14, Tryz.ntmps14
      obtain ⟨d0, d1, d2, d3⟩ := hcl2 (.cells #[.int .i64 6, .int .i64 n, .string ⟨s.toArray⟩, .slice (some ⟨g, o, none⟩) [x].length cap] 39) (.cells (sgnS.map strV).toArray 9)
      go_wp2_with (go_at_call 40; refine (cx _ (hb2 _ _)).mono ?_; rintro e w3 ⟨rfl, hb3⟩)
      go_ret
      exact ⟨by rw [HV.out]; rfl, (hb2 _ _).trans (hb3.mono (hb2 _ _).size)⟩
    · have HV : Hid (eK (opOf t) (numOf t) (txtOf t) (kop0 ks) (esT ks) = [78, 82]) := by show _ = _; unfold eK; rw [if_neg (by omega)]; rw [if_neg (by omega)]; rw [if_neg (by omega)]; rw [if_neg (by omega)]; rw [if_neg (by omega)]; rw [if_neg (by omega)]; rw [if_pos h]
      generalize eK (opOf t) (numOf t) (txtOf t) (kop0 ks) (esT ks) = V at *
      rw [h]
      clear hT hkind hkid hA hK hE hkt hnd hXb hJb hbox HW hbW h
      generalize numOf t = n at *
      generalize txtOf t = s at *
      go_enter Tryz.func14, Tryz.ntmps14
      go_wp2_with fail
      go_ret
      exact ⟨by rw [HV.out]; rfl, hb2 _ _⟩
    · have HV : Hid (eK (opOf t) (numOf t) (txtOf t) (kop0 ks) (esT ks) = [78, 70]) := by show _ = _; unfold eK; rw [if_neg (by omega)]; rw [if_neg (by omega)]; rw [if_neg (by omega)]; rw [if_neg (by omega)]; rw [if_neg (by omega)]; rw [if_neg (by omega)]; rw [if_neg (by omega)]; rw [if_pos h]
      generalize eK (opOf t) (numOf t) (txtOf t) (kop0 ks) (esT ks) = V at *
      rw [h]
      clear hT hkind hkid hA hK hE hkt hnd hXb hJb hbox HW hbW h
      generalize numOf t = n at *
      generalize txtOf t = s at *
      go_enter Tryz.func14, Tryz.ntmps14
      go_wp2_with fail
      go_ret
      exact ⟨by rw [HV.out]; rfl, hb2 _ _⟩
    · have HV : Hid (eK (opOf t) (numOf t) (txtOf t) (kop0 ks) (esT ks) = txtOf t ++ [40] ++ joinE (esT ks) ++ [41]) := by show _ = _; unfold eK; rw [if_neg (by omega)]; rw [if_neg (by omega)]; rw [if_neg (by omega)]; rw [if_neg (by omega)]; rw [if_neg (by omega)]; rw [if_neg (by omega)]; rw [if_neg (by omega)]; rw [if_neg (by omega)]; rw [if_pos h]
      have hes : ks.all (fun x => eB (opOf x)) = true := by
        have h2 := hkind
        unfold kindB at h2
        rw [if_neg (by omega)] at h2; rw [if_neg (by omega)] at h2; rw [if_neg (by omega)] at h2; rw [if_neg (by omega)] at h2; rw [if_pos (by omega), List.all_map] at h2
        exact h2
      have cs : ∀ w', Below WB.heap.size WB w' → Calls Tryz.prog 41 #[.slice ao ks.length cap] w' fun e w'' => e = .returned (.string ⟨(joinE (esT ks)).toArray⟩) ∧ Below WB.heap.size WB w'' := fun w' h => by
        have hbw := hbW.trans (h.mono hbW.size)
        refine (sList (fun x hx => hkid x hx (List.all_eq_true.1 hes x hx)) hsks w' ao cap (args_frame hbw hK)).mono ?_
        rintro e w'' ⟨rfl, hb3⟩
        exact ⟨rfl, h.trans (hb3.mono h.size)⟩
      have hS : ∀ w', Below WB.heap.size WB w' → Below WB.heap.size WB w' ∧ w'.cell? ⟨w.heap.size, 0, none⟩ = some (.int .i64 (opOf t)) ∧ w'.cell? ⟨w.heap.size, 1, none⟩ = some (.int .i64 (numOf t)) ∧ w'.cell? ⟨w.heap.size, 2, none⟩ = some (.string ⟨(txtOf t).toArray⟩) ∧ w'.cell? ⟨w.heap.size, 3, none⟩ = some (.slice ao ks.length cap) := fun w' h => by
        obtain ⟨y0, y1, y2, y3⟩ := hbox w' h
        exact ⟨h, y0, y1, y2, y3⟩
      generalize eK (opOf t) (numOf t) (txtOf t) (kop0 ks) (esT ks) = V at *
      rw [h] at hS HW ⊢
      clear hT hkind hkid hA hK hE hkt hnd hXb hbox h hes
      generalize numOf t = n at *
      generalize txtOf t = s at *
      generalize joinE (esT ks) = X at *
      go_enter Tryz.func14, Tryz.ntmps14
      go_upto_region 24 with fail
      refine (show Code.wp _ _ _ _ ((w.alloc (.cells #[.int .i64 28, .int .i64 n, .string ⟨s.toArray⟩, .slice ao ks.length cap] 39)).alloc (.cells (sgnS.map strV).toArray 9)) from ?_)
      rw [← HW.out]
      have hS0 := hS WB (Below.refl _ _)
      have m1 : ¬ 9223372036854775807 < s.length + 1 := by omega
      have m2 : ¬ 9223372036854775807 < s.length + 1 + X.length := by omega
      have m3 : ¬ 9223372036854775807 < s.length + 1 + X.length + 1 := by omega
      go_region_held3 (fun w' => Below WB.heap.size WB w' ∧ w'.cell? ⟨w.heap.size, 0, none⟩ = some (.int .i64 28) ∧ w'.cell? ⟨w.heap.size, 1, none⟩ = some (.int .i64 n) ∧ w'.cell? ⟨w.heap.size, 2, none⟩ = some (.string ⟨s.toArray⟩) ∧ w'.cell? ⟨w.heap.size, 3, none⟩ = some (.slice ao ks.length cap)) (first | exact hS _ (by assumption) | exact hS _ (below_drew1 (by first | assumption | exact Below.refl _ _))) (first | (go_at_call 41; with_reducible refine (cs _ ?_).mono ?_; (first | assumption | exact And.left (by assumption)); rintro e w2 ⟨rfl, hb2⟩))
      all_goals
        go_wp2_with fail
        go_ret
        exact ⟨by rw [HV.out]; simp [ba_pre, ba_append, ba_one], hbW.trans (hb2.mono hbW.size)⟩
    · have HV : Hid (eK (opOf t) (numOf t) (txtOf t) (kop0 ks) (esT ks) = [40] ++ (signL (opOf t) ++ (esT ks).getD 0 []) ++ [41]) := by show _ = _; unfold eK; rw [if_neg (by omega)]; rw [if_neg (by omega)]; rw [if_neg (by omega)]; rw [if_neg (by omega)]; rw [if_neg (by omega)]; rw [if_neg (by omega)]; rw [if_neg (by omega)]; rw [if_neg (by omega)]; rw [if_neg (by omega)]; rw [if_pos h]
      obtain ⟨x, hxs, hex⟩ := just1 (by have h2 := hkind; unfold kindB at h2; rw [if_neg (by omega), if_pos (by omega)] at h2; exact h2)
      subst hxs
      obtain ⟨g, o, x0, x1, x2, x3, rfl, hgl, c0, c1, c2, c3, hax⟩ := args_at hK (show [x][0]? = some x from rfl)
      simp only [Nat.zero_mul, Nat.add_zero] at c0 c1 c2 c3
      have hcl : ∀ w', Below w.heap.size w w' → w'.cell? ⟨g, o, none⟩ = some x0 ∧ w'.cell? ⟨g, o + 1, none⟩ = some x1 ∧ w'.cell? ⟨g, o + 2, none⟩ = some x2 ∧ w'.cell? ⟨g, o + 3, none⟩ = some x3 := fun w' h => ⟨(h.cell (p := ⟨g, o, none⟩) hgl).trans c0, (h.cell (p := ⟨g, o + 1, none⟩) hgl).trans c1, (h.cell (p := ⟨g, o + 2, none⟩) hgl).trans c2, (h.cell (p := ⟨g, o + 3, none⟩) hgl).trans c3⟩
      have hxb := hXb x (by simp)
      have HV : Hid (eK (opOf t) (numOf t) (txtOf t) (kop0 [x]) (esT [x]) = [40] ++ (signL (opOf t) ++ eT x) ++ [41]) := HV
      have cx : ∀ w', Below w.heap.size w w' → Calls Tryz.prog 14 #[.agg #[x0, x1, x2, x3]] w' fun e w'' => e = .returned (.string ⟨(eT x).toArray⟩) ∧ Below w'.heap.size w' w'' := fun w' h => hkid x (by simp) hex w' _ _ _ _ (arg_frame h _ _ hax)
      obtain ⟨xao, xcap, rfl, rfl, rfl, rfl, -, -⟩ := arg_open hax
      have hcl2 := fun o o' => hcl _ (hb2 o o')
      generalize eK (opOf t) (numOf t) (txtOf t) (kop0 [x]) (esT [x]) = V at *
      clear hT hkind hkid hA hK hE hkt hnd hXb hJb hbox hax c0 c1 c2 c3 hcl hex HW hbW
      generalize numOf t = n at *
      generalize txtOf t = s at *
      generalize eT x = X at *
      generalize opOf x = xop at *
      generalize numOf x = xn at *
      generalize txtOf x = xs at *
      generalize (kidsOf x).length = xL at *
      rcases h with h | h
      all_goals
        have m1 : ¬ 9223372036854775807 < 2 + X.length := by omega
        have m2 : ¬ 9223372036854775807 < 2 + X.length + 1 := by omega
        obtain ⟨d0, d1, d2, d3⟩ := hcl2 (.cells #[.int .i64 (opOf t), .int .i64 n, .string ⟨s.toArray⟩, .slice (some ⟨g, o, none⟩) [x].length cap] 39) (.cells (sgnS.map strV).toArray 9)
        rw [h] at HV d0 d1 d2 d3 ⊢
        go_enter Tryz.func14, Tryz.ntmps14
        go_wp2_with (go_at_call 14; refine (cx _ (hb2 _ _)).mono ?_; rintro e w3 ⟨rfl, hb3⟩)
        go_ret
        exact ⟨by rw [HV.out]; simp [ba_pre, ba_append, ba_one, signL], (hb2 _ _).trans (hb3.mono (hb2 _ _).size)⟩
    · obtain ⟨x, y, hxs, hex, hey⟩ := just2 (by have h2 := hkind; unfold kindB at h2; rw [if_neg (by omega), if_neg (by omega), if_pos (by omega)] at h2; exact h2)
      rw [← hT]
      rw [hxs] at hXb
      have := sE2 (t := t) (by omega) (by rw [hkt]; exact hxs) (hkid x (by rw [hxs]; simp) hex) (hkid y (by rw [hxs]; simp) hey) (hXb x (by simp)) (hXb y (by simp)) w _ _ _ _ hA
      rw [hkt] at this
      exact this
    · obtain ⟨x, y, hxs, hex, hey⟩ := justS (by have h2 := hkind; unfold kindB at h2; rw [if_neg (by omega), if_neg (by omega), if_neg (by omega), if_pos (by omega)] at h2; exact h2)
      rw [← hT]
      rw [hxs] at hXb
      have := sE2 (t := t) (by omega) (by rw [hkt]; exact hxs) (hkid x (by rw [hxs]; simp) hex) (hkid y (by rw [hxs]; simp) hey) (hXb x (by simp)) (hXb y (by simp)) w _ _ _ _ hA
      rw [hkt] at this
      exact this

end Ty
end Go.Proofs.YtjdohfdkkppnpaaGreatDoor

