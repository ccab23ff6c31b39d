/-
  What is written of statements: writeBlock, writeBranch, writePlain.
-/
import Derived.Test.YtjdohfdkkppnpaaGreatDoorQ34
namespace Go.Proofs.YtjdohfdkkppnpaaGreatDoor
open Go.RowKit
namespace Ty
open Nd
set_option linter.unusedSimpArgs false
set_option linter.unusedVariables false

def lineT (t : Data) : List UInt8 := stT t ++ [10]
theorem lines_take (ks : List Data) (k : Nat) (t : Data) (h : ks[k]? = some t) : linesL (stsT (ks.take (k + 1))) = linesL (stsT (ks.take k)) ++ lineT t := by
  rw [List.take_add_one, h]
  simp [stsT_map, linesL, lineT]
theorem lines_le (ks : List Data) (k : Nat) : (linesL (stsT (ks.take k))).length ≤ (linesL (stsT ks)).length := by
  have : linesL (stsT ks) = linesL (stsT (ks.take k)) ++ linesL (stsT (ks.drop k)) := by
    have h : stsT ks = stsT (ks.take k) ++ stsT (ks.drop k) := by rw [stsT_map, stsT_map, stsT_map, ← List.map_append, List.take_append_drop]
    rw [h]
    simp [linesL]
  rw [this, List.length_append]
  omega

set_option maxHeartbeats 1000000 in
set_option maxRecDepth 100000 in
theorem iWriteBlock {W0 : World} {t : Data} (hop : opOf t = 29) (hx : ∀ x ∈ kidsOf t, WOk W0 88 lineT lineT x) (hn : (kidsOf t).length ≤ 1048577) : WOk W0 46 stT stT t := by
  intro p L w a b c u hA hb hO room
  have hnd := tree_nodes hA
  have hT : stT t = [123, 10] ++ linesL (stsT (kidsOf t)) ++ [125] := by rw [hnd, stT_nd, hop]; rfl
  rw [hT] at room ⊢
  obtain ⟨ao, cap, rfl, rfl, rfl, rfl, hK, -⟩ := arg_open hA
  rw [hop]
  have hk := fun oo ho => wk_new (a := .int .i64 29) (b := .int .i64 (numOf t)) (c := .string ⟨(txtOf t).toArray⟩) (u := .slice ao (kidsOf t).length cap) hb hO oo ho
  clear hA hT hnd hop
  generalize numOf t = n at *
  generalize txtOf t = s at *
  generalize kidsOf t = ks at *
  have RM : Hid (L.length + ([123, 10] ++ linesL (stsT ks) ++ [125]).length ≤ 1099511627776) := room
  have HE : Hid (linesL (stsT (ks.take ks.length)) = linesL (stsT ks)) := by show _ = _; rw [List.take_length]
  have HL : Hid (∀ k, (linesL (stsT (ks.take k))).length ≤ (linesL (stsT ks)).length) := lines_le ks
  have bn : (ks.length : Int) ≤ 1048577 := by omega
  clear room hn
  generalize linesL (stsT ks) = J at *
  go_enter Tryz.func46, Tryz.ntmps46
  have hk := hk _ rfl
  go_wp2_with (refine put_step hk rfl _ _ _ rfl rfl _ rfl (by have := RM.out; simp only [List.length_append, List.length_cons, List.length_nil] at this ⊢; omega) ?_; intro w2 hk; obtain ⟨y0, y1, y2, y3⟩ := hk.var.cell)
  go_loopw [11] (fun i wr => ∃ k : Nat, k ≤ ks.length ∧ i = .int .i64 k ∧ Wk W0 p w.heap.size w (L ++ [123, 10] ++ linesL (stsT (ks.take k))) (.int .i64 29) (.int .i64 n) (.string ⟨s.toArray⟩) (.slice ao ks.length cap) wr) (fun i _ => ks.length - (intOf i).toNat)
  case atStart => exact ⟨0, Nat.zero_le _, rfl, by simpa [stsT, linesL] using hk⟩
  case round =>
    obtain ⟨k, hkn, rfl, hk⟩ := hrel
    by_cases hkl : k < ks.length
    · obtain ⟨t', hki⟩ : ∃ t', ks[k]? = some t' := ⟨ks[k], List.getElem?_eq_getElem hkl⟩
      obtain ⟨g, o, x0, x1, x2, x3, rfl, hgl, c0, c1, c2, c3, ht⟩ := args_at hK hki
      simp only [Nat.zero_add] at c0 c1 c2 c3
      have d0 := (hk.bel.cell (p := ⟨g, o + k * 4, none⟩) hgl).trans c0
      have d1 := (hk.bel.cell (p := ⟨g, o + k * 4 + 1, none⟩) hgl).trans c1
      have d2 := (hk.bel.cell (p := ⟨g, o + k * 4 + 2, none⟩) hgl).trans c2
      have d3 := (hk.bel.cell (p := ⟨g, o + k * 4 + 3, none⟩) hgl).trans c3
      have cx := fun L w' => hx t' (List.mem_of_getElem? hki) p L w' _ _ _ _ ht
      have hlt := lines_take ks k t' hki
      have hle := HL.out (k + 1)
      rw [hlt] at hle
      have HT : Hid (linesL (stsT (ks.take (k + 1))) = linesL (stsT (ks.take k)) ++ lineT t') := hlt
      obtain ⟨tao, tcap, rfl, rfl, rfl, rfl, -, -⟩ := arg_open ht
      have R2 : Hid ((L ++ [123, 10] ++ linesL (stsT (ks.take k))).length + (lineT t').length ≤ 1099511627776) := by
        show _ ≤ _
        have := RM.out
        simp only [List.length_append, List.length_cons, List.length_nil] at this hle ⊢
        omega
      have hal : ∀ oo, Below wr.heap.size wr (wr.alloc oo) := fun oo => (Below.refl _ _).alloc (Nat.le_refl _) _
      have hk2 := fun oo => hk.more (hal oo)
      have bk : (k : Int) < ks.length := by omega
      clear hx ht hki c0 c1 c2 c3 HL hlt hle
      generalize lineT t' = X at *
      generalize opOf t' = xop at *
      generalize numOf t' = xn at *
      generalize txtOf t' = xs at *
      generalize (kidsOf t').length = xL at *
      go_wp2_with (go_at_call 88; refine (cx _ _ (hk2 _).bel (hk2 _).out R2.out).mono ?_; rintro e w2 ⟨rfl, hO2, hC2⟩; have hk := (hk2 _).step hO2 hC2)
      go_roundw
      case rel => exact ⟨k + 1, by omega, by go_num, by rw [HT.out]; simpa [List.append_assoc] using hk⟩
      case measure => simp [intOf]; omega
    · obtain rfl : k = ks.length := by omega
      rw [HE.out] at hk
      clear HL
      go_wp2_with (refine put_step hk rfl _ _ _ rfl rfl _ rfl (by have := RM.out; simp only [List.length_append, List.length_cons, List.length_nil] at this ⊢; omega) ?_; intro w2 hk; obtain ⟨y0, y1, y2, y3⟩ := hk.var.cell)
      refine bodyPost_end (v := .tuple #[]) ?_ rfl ⟨rfl, ?_, hk.ch⟩
      · simp [results, Tryz.results46]
      · simpa [List.append_assoc] using hk.out

def plainT (t : Data) : List UInt8 :=
  if opOf t = 30 then (if esT (kidsOf t) = [] then [112, 114, 105, 110, 116] else [112, 114, 105, 110, 116, 32] ++ joinE (esT (kidsOf t)))
  else if opOf t = 33 then [110, 101, 120, 116]
  else if opOf t = 34 then [100, 101, 108, 101, 116, 101, 32] ++ cellT t
  else (esT (kidsOf t)).getD 0 []

set_option maxHeartbeats 2000000 in
set_option maxRecDepth 100000 in
theorem iWritePlain {W0 : World} {t : Data} (hop : opOf t = 30 ∨ opOf t = 33 ∨ opOf t = 34 ∨ opOf t = 35) (hkind : kindB (opOf t) ((kidsOf t).map opOf) = true) (hx : ∀ x ∈ kidsOf t, eB (opOf x) = true → WOk W0 45 eT eT x) (hn : (kidsOf t).length ≤ 1048577) : WOk W0 112 plainT plainT t := by
  intro p L w a b c u hA hb hO room
  have hA0 := hA
  obtain ⟨ao, cap, rfl, rfl, rfl, rfl, hK, -⟩ := arg_open hA
  have hk := fun oo ho => wk_new (a := .int .i64 (opOf t)) (b := .int .i64 (numOf t)) (c := .string ⟨(txtOf t).toArray⟩) (u := .slice ao (kidsOf t).length cap) hb hO oo ho
  rcases hop with h | h | h | h
  · have hes : (kidsOf t).all (fun x => eB (opOf x)) = true := by
      have h2 := hkind
      unfold kindB at h2
      rw [if_neg (by omega)] at h2; rw [if_neg (by omega)] at h2; rw [if_neg (by omega)] at h2; rw [if_neg (by omega)] at h2; rw [if_pos (by omega), List.all_map] at h2
      exact h2
    have cs := fun L w' => iWriteEs (fun x hxm => hx x hxm (List.all_eq_true.1 hes x hxm)) hn p L w' ao cap hK
    have hv : plainT t = if esT (kidsOf t) = [] then [112, 114, 105, 110, 116] else [112, 114, 105, 110, 116, 32] ++ joinE (esT (kidsOf t)) := by unfold plainT; rw [if_pos h]
    rw [hv] at room ⊢
    rw [h] at hk ⊢
    by_cases h0 : kidsOf t = []
    · have he0 : esT (kidsOf t) = [] := by rw [h0]; rfl
      rw [if_pos he0] at room ⊢
      rw [he0] at cs
      have RM : Hid (L.length + ([112, 114, 105, 110, 116] : List UInt8).length ≤ 1099511627776) := room
      have hl0 : (kidsOf t).length = 0 := by rw [h0]; rfl
      rw [hl0] at hk cs ⊢
      clear hv room hkind hx hA hA0 hK hes h0 he0 hl0 hn
      generalize numOf t = n at *
      generalize txtOf t = s at *
      go_enter Tryz.func112, Tryz.ntmps112
      have hk := hk _ rfl
      go_wp2_with (first
        | (refine put_step hk rfl _ _ _ rfl rfl _ rfl (by have := RM.out; simp only [List.length_append, List.length_cons, List.length_nil] at this ⊢; omega) ?_; intro w2 hk; obtain ⟨y0, y1, y2, y3⟩ := hk.var.cell)
        | (go_at_call 86; refine (cs _ _ hk.bel hk.out ?_).mono ?_; (have := RM.out; simp only [List.length_append, List.length_cons, List.length_nil, joinE] at this ⊢; omega); rintro e w2 ⟨rfl, hO2, hC2⟩; have hk := hk.step hO2 hC2))
      refine bodyPost_end (v := .tuple #[]) ?_ rfl ⟨rfl, ?_, hk.ch⟩
      · simp [results, Tryz.results112]
      · simpa [joinE] using hk.out
    · have he0 : esT (kidsOf t) ≠ [] := by rw [esT_map]; simpa using h0
      rw [if_neg he0] at room ⊢
      have RM : Hid (L.length + ([112, 114, 105, 110, 116, 32] ++ joinE (esT (kidsOf t))).length ≤ 1099511627776) := room
      have hl0 : (0 : Int) < (kidsOf t).length := by have := List.length_pos_iff.2 h0; omega
      have hnI : ((kidsOf t).length : Int) ≤ 1048577 := by omega
      clear hv room hkind hx hA hA0 hK hes h0 he0 hn
      generalize numOf t = n at *
      generalize txtOf t = s at *
      generalize joinE (esT (kidsOf t)) = J at *
      generalize (kidsOf t).length = xL at *
      go_enter Tryz.func112, Tryz.ntmps112
      have hk := hk _ rfl
      go_wp2_with (first
        | (refine put_step hk rfl _ _ _ rfl rfl _ rfl (by have := RM.out; simp only [List.length_append, List.length_cons, List.length_nil] at this ⊢; omega) ?_; intro w2 hk; obtain ⟨y0, y1, y2, y3⟩ := hk.var.cell)
        | (go_at_call 86; refine (cs _ _ hk.bel hk.out ?_).mono ?_; (have := RM.out; simp only [List.length_append, List.length_cons, List.length_nil] at this ⊢; omega); rintro e w2 ⟨rfl, hO2, hC2⟩; have hk := hk.step hO2 hC2))
      refine bodyPost_end (v := .tuple #[]) ?_ rfl ⟨rfl, ?_, hk.ch⟩
      · simp [results, Tryz.results112]
      · simpa [List.append_assoc] using hk.out
  · have hv : plainT t = [110, 101, 120, 116] := by unfold plainT; rw [if_neg (by omega), if_pos h]
    rw [hv] at room ⊢
    rw [h] at hk ⊢
    have RM : Hid (L.length + ([110, 101, 120, 116] : List UInt8).length ≤ 1099511627776) := room
    clear hv room hkind hx hA hA0 hK hn
    generalize numOf t = n at *
    generalize txtOf t = s at *
    generalize (kidsOf t).length = xL at *
    go_enter Tryz.func112, Tryz.ntmps112
    have hk := hk _ rfl
    go_wp2_with (refine put_step hk rfl _ _ _ rfl rfl _ rfl (by have := RM.out; simp only [List.length_append, List.length_cons, List.length_nil] at this ⊢; omega) ?_; intro w2 hk; obtain ⟨y0, y1, y2, y3⟩ := hk.var.cell)
    refine bodyPost_end (v := .tuple #[]) ?_ rfl ⟨rfl, hk.out, hk.ch⟩
    simp [results, Tryz.results112]
  · obtain ⟨x, hxs, hex⟩ := just1 (by have h2 := hkind; unfold kindB at h2; rw [if_neg (by omega), if_pos (by omega)] at h2; exact h2)
    have cc := fun L w' => iWriteCell hxs (hx x (by rw [hxs]; simp) hex) p L w' _ _ _ _ hA0
    have hv : plainT t = [100, 101, 108, 101, 116, 101, 32] ++ cellT t := by unfold plainT; rw [if_neg (by omega)]; rw [if_neg (by omega)]; rw [if_pos h]
    rw [hv] at room ⊢
    rw [h] at hk cc ⊢
    have RM : Hid (L.length + ([100, 101, 108, 101, 116, 101, 32] ++ cellT t).length ≤ 1099511627776) := room
    clear hv room hkind hx hA hA0 hK hxs hn
    generalize numOf t = n at *
    generalize (kidsOf t).length = xL at *
    generalize cellT t = D at *
    generalize txtOf t = s at *
    go_enter Tryz.func112, Tryz.ntmps112
    have hk := hk _ rfl
    go_wp2_with (first
      | (refine put_step hk rfl _ _ _ rfl rfl _ rfl (by have := RM.out; simp only [List.length_append, List.length_cons, List.length_nil] at this ⊢; omega) ?_; intro w2 hk; obtain ⟨y0, y1, y2, y3⟩ := hk.var.cell)
      | (go_at_call 84; refine (cc _ _ hk.bel hk.out ?_).mono ?_; (have := RM.out; simp only [List.length_append, List.length_cons, List.length_nil] at this ⊢; omega); rintro e w2 ⟨rfl, hO2, hC2⟩; have hk := hk.step hO2 hC2))
    refine bodyPost_end (v := .tuple #[]) ?_ rfl ⟨rfl, ?_, hk.ch⟩
    · simp [results, Tryz.results112]
    · simpa [List.append_assoc] using hk.out
  · obtain ⟨x, hxs, hex⟩ := just1 (by have h2 := hkind; unfold kindB at h2; rw [if_neg (by omega), if_pos (by omega)] at h2; exact h2)
    have hv : plainT t = eT x := by unfold plainT; rw [if_neg (by omega)]; rw [if_neg (by omega)]; rw [if_neg (by omega)]; rw [hxs]; rfl
    rw [hv] at room ⊢
    rw [h] at hk ⊢
    have RM : Hid (L.length + (eT x).length ≤ 1099511627776) := room
    rw [hxs] at hK
    obtain ⟨g, o, x0, x1, x2, x3, rfl, hgl, c0, c1, c2, c3, hax⟩ := args_at hK (show [x][0]? = some x from rfl)
    simp only [Nat.zero_mul, Nat.add_zero] at c0 c1 c2 c3
    have hcl : ∀ w', Below W0.heap.size W0 w' → w'.cell? ⟨g, o, none⟩ = some x0 ∧ w'.cell? ⟨g, o + 1, none⟩ = some x1 ∧ w'.cell? ⟨g, o + 2, none⟩ = some x2 ∧ w'.cell? ⟨g, o + 3, none⟩ = some x3 := fun w' h => ⟨(h.cell (p := ⟨g, o, none⟩) hgl).trans c0, (h.cell (p := ⟨g, o + 1, none⟩) hgl).trans c1, (h.cell (p := ⟨g, o + 2, none⟩) hgl).trans c2, (h.cell (p := ⟨g, o + 3, none⟩) hgl).trans c3⟩
    have cx := fun L w' => hx x (by rw [hxs]; simp) hex p L w' _ _ _ _ hax
    obtain ⟨xao, xcap, rfl, rfl, rfl, rfl, -, -⟩ := arg_open hax
    have hl1 : (kidsOf t).length = 1 := by rw [hxs]; rfl
    rw [hl1] at hk ⊢
    clear hv room hkind hx hA hA0 hK hxs hn hax c0 c1 c2 c3 hl1
    generalize numOf t = n at *
    generalize txtOf t = s at *
    generalize eT x = X at *
    generalize opOf x = xop at *
    generalize numOf x = xn at *
    generalize txtOf x = xs at *
    generalize (kidsOf x).length = xL at *
    go_enter Tryz.func112, Tryz.ntmps112
    have hk := hk _ rfl
    obtain ⟨d0, d1, d2, d3⟩ := hcl _ hk.bel
    go_wp2_with (go_at_call 45; refine (cx _ _ hk.bel hk.out RM.out).mono ?_; rintro e w2 ⟨rfl, hO2, hC2⟩; have hk := hk.step hO2 hC2)
    refine bodyPost_end (v := .tuple #[]) ?_ rfl ⟨rfl, hk.out, hk.ch⟩
    simp [results, Tryz.results112]

end Ty
end Go.Proofs.YtjdohfdkkppnpaaGreatDoor

