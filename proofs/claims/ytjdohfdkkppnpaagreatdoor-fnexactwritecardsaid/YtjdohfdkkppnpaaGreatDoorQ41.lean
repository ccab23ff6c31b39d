/-
  The specification's l9Block, l9Stmt.
-/
import Derived.Test.YtjdohfdkkppnpaaGreatDoorQ37
import Derived.Test.YtjdohfdkkppnpaaGreatDoorQ40
namespace Go.Proofs.YtjdohfdkkppnpaaGreatDoor
open Go.RowKit
namespace Ty
open Nd
set_option linter.unusedSimpArgs false
set_option linter.unusedVariables false

theorem lines_bound (ks : List Data) (k : Nat) : (linesL (stsT (ks.take k))).length ≤ 70 * sizs ks := by
  have h1 := lines_le ks k
  have h2 := lines_len (stsT ks)
  have h3 := sts_len (N := 62) ks fun t _ => stT_len t
  have h4 := sizs_sum ks
  omega

set_option maxHeartbeats 1000000 in
set_option maxRecDepth 100000 in
theorem sBlock {t : Data} (hop : opOf t = 29) (hx : ∀ x ∈ kidsOf t, STells 42 stT x) (hsz : sizs (kidsOf t) ≤ 1048576) : STells 15 stT t := by
  intro w a b c u hA
  have hnd := tree_nodes hA
  have hT : stT t = [123, 10] ++ linesL (stsT (kidsOf t)) ++ [125] := by rw [hnd, stT_nd, hop]; rfl
  rw [hT]
  obtain ⟨ao, cap, rfl, rfl, rfl, rfl, hK, -⟩ := arg_open hA
  rw [hop]
  have hb0 : ∀ o, Below w.heap.size w (w.alloc o) := fun o => (Below.refl _ w).alloc (Nat.le_refl _) _
  have hv0 : ∀ o, o = Obj.cells #[.int .i64 29, .int .i64 (numOf t), .string ⟨(txtOf t).toArray⟩, .slice ao (kidsOf t).length cap] 39 → Var (w.alloc o) w.heap.size (.int .i64 29) (.int .i64 (numOf t)) (.string ⟨(txtOf t).toArray⟩) (.slice ao (kidsOf t).length cap) := fun o ho => by rw [ho]; exact heap_new _ _
  clear hA hT hnd hop
  generalize numOf t = n at *
  generalize txtOf t = s at *
  generalize kidsOf t = ks at *
  have bn : (ks.length : Int) ≤ 1048576 := by have := sizs_sum ks; omega
  have HE : Hid (linesL (stsT (ks.take ks.length)) = linesL (stsT ks)) := by show _ = _; rw [List.take_length]
  have HB : Hid (∀ k, ((linesL (stsT (ks.take k))).length : Int) ≤ 100000000) := fun k => by have := lines_bound ks k; omega
  generalize linesL (stsT ks) = J at *
  go_enter Tryz.func15, Tryz.ntmps15
  go_wp2_with fail
  go_loopw [3, 4] (fun v i wr => ∃ k : Nat, k ≤ ks.length ∧ i = .int .i64 k ∧ v = .string ⟨([123, 10] ++ linesL (stsT (ks.take k))).toArray⟩ ∧ Below w.heap.size w wr ∧ Var wr w.heap.size (.int .i64 29) (.int .i64 n) (.string ⟨s.toArray⟩) (.slice ao ks.length cap)) (fun _ i _ => ks.length - (intOf i).toNat)
  case atStart => exact ⟨0, Nat.zero_le _, rfl, by simp [stsT, linesL], hb0 _, hv0 _ rfl⟩
  case round =>
    obtain ⟨k, hkn, rfl, rfl, hb, hV⟩ := hrel
    have v3 := hV.cell.2.2.2
    by_cases hkl : k < ks.length
    · obtain ⟨t', hki⟩ : ∃ t', ks[k]? = some t' := ⟨ks[k], List.getElem?_eq_getElem hkl⟩
      obtain ⟨g, o, x0, x1, x2, x3, rfl, hgl, c0, c1, c2, c3, ht⟩ := args_at (args_frame hb hK) hki
      simp only [Nat.zero_add] at c0 c1 c2 c3
      have cx := hx t' (List.mem_of_getElem? hki) wr _ _ _ _ ht
      have hlt := lines_take ks k t' hki
      have hb1 := HB.out k
      have hXl : ((stT t').length : Int) ≤ 100000000 := by have := stT_len t'; have := sizs_mem (List.mem_of_getElem? hki); omega
      have HT : Hid (linesL (stsT (ks.take (k + 1))) = linesL (stsT (ks.take k)) ++ (stT t' ++ [10])) := hlt
      obtain ⟨tao, tcap, rfl, rfl, rfl, rfl, -, -⟩ := arg_open ht
      have bk : (k : Int) < ks.length := by omega
      clear hx hK ht hki HB hlt hsz
      generalize stT t' = X at *
      generalize opOf t' = xop at *
      generalize numOf t' = xn at *
      generalize txtOf t' = xs at *
      generalize (kidsOf t').length = xL at *
      generalize linesL (stsT (ks.take k)) = J0 at *
      have hJl : (([123, 10] ++ J0).length : Int) ≤ 200000000 := by simp only [List.length_append, List.length_cons, List.length_nil]; omega
      generalize hJJ : [123, 10] ++ J0 = J1 at *
      have HJJ : Hid ([123, 10] ++ J0 = J1) := hJJ
      have m1 : ¬ 9223372036854775807 < J1.length + X.length := by omega
      have m2 : ¬ 9223372036854775807 < J1.length + X.length + 1 := by omega
      clear hJJ
      go_wp2_with (go_at_call 42; refine cx.mono ?_; rintro e w2 ⟨rfl, hb2⟩)
      go_roundw
      case rel => exact ⟨k + 1, by omega, by go_num, by rw [HT.out, ← HJJ.out]; simp [ba_pre, ba_append, ba_one], hb.trans (hb2.mono hb.size), hV.kept (hb2.block _ hV.lt)⟩
      case measure => simp [intOf]; omega
    · obtain rfl : k = ks.length := by omega
      have hb1 := HB.out ks.length
      rw [HE.out] at hb1
      rw [HE.out]
      clear HB
      have m1 : ¬ 9223372036854775807 < J.length + 1 + 1 + 1 := by omega
      go_wp2_with fail
      go_ret
      exact ⟨by simp [ba_pre, ba_append, ba_one], hb⟩

set_option maxHeartbeats 2000000 in
set_option maxRecDepth 100000 in
theorem sPlain {t : Data} (hop : opOf t = 30 ∨ opOf t = 33 ∨ opOf t = 35 ∨ opOf t = 29) (hkind : kindB (opOf t) ((kidsOf t).map opOf) = true) (hx : ∀ x ∈ kidsOf t, eB (opOf x) = true → STells 14 eT x) (hbl : opOf t = 29 → STells 15 stT t) (hsz : siz t ≤ 1048576) : STells 42 stT t := by
  intro w a b c u hA
  have hnd := tree_nodes hA
  have hsk := siz_kids t
  have hsks : sizs (kidsOf t) ≤ 1048576 := by omega
  have hb0 : ∀ o, Below w.heap.size w (w.alloc o) := fun o => (Below.refl _ w).alloc (Nat.le_refl _) _
  have hT : stT t = stK (opOf t) (txtOf t) (esT (kidsOf t)) (stsT (kidsOf t)) := by rw [hnd, stT_nd]; rfl
  have hA0 := hA
  obtain ⟨ao, cap, rfl, rfl, rfl, rfl, hK, -⟩ := arg_open hA
  rcases hop with h | h | h | h
  · have hes : (kidsOf t).all (fun x => eB (opOf x)) = true := by
      have h2 := hkind
      unfold kindB at h2
      rw [if_neg (by omega)] at h2; rw [if_neg (by omega)] at h2; rw [if_neg (by omega)] at h2; rw [if_neg (by omega)] at h2; rw [if_pos (by omega), List.all_map] at h2
      exact h2
    have cs := fun o => sList (fun x hxm => hx x hxm (List.all_eq_true.1 hes x hxm)) hsks (w.alloc o) ao cap (args_frame (hb0 o) hK)
    have hJb : ((joinE (esT (kidsOf t))).length : Int) ≤ 100000000 := by have := join_bound (kidsOf t) (kidsOf t).length; rw [List.take_length] at this; omega
    have hv : stT t = if esT (kidsOf t) = [] then [112, 114, 105, 110, 116, 59] else [112, 114, 105, 110, 116, 32] ++ joinE (esT (kidsOf t)) ++ [59] := by rw [hT]; unfold stK; rw [if_neg (by omega), if_pos h]
    rw [hv, h]
    by_cases h0 : kidsOf t = []
    · have he0 : esT (kidsOf t) = [] := by rw [h0]; rfl
      rw [if_pos he0]
      have hl0 : (kidsOf t).length = 0 := by rw [h0]; rfl
      rw [hl0]
      clear hv hkind hx hA hA0 hK hes h0 he0 hl0 hT hnd hsk hsks hsz hbl cs hJb
      generalize numOf t = n at *
      generalize txtOf t = s at *
      go_enter Tryz.func42, Tryz.ntmps42
      go_wp2_with fail
      go_ret
      exact ⟨rfl, hb0 _⟩
    · have he0 : esT (kidsOf t) ≠ [] := by rw [esT_map]; simpa using h0
      rw [if_neg he0]
      have hl0 : (0 : Int) < (kidsOf t).length := by have := List.length_pos_iff.2 h0; omega
      have hl1 : (((kidsOf t).length : Int) == 0) = false := beq_eq_false_iff_ne.2 (by omega)
      have hl2 : ¬ ((kidsOf t).length : Int) = 0 := by omega
      clear hv hkind hx hA hA0 hK hes h0 he0 hT hnd hsk hsks hsz hbl
      generalize numOf t = n at *
      generalize txtOf t = s at *
      generalize joinE (esT (kidsOf t)) = J at *
      generalize (kidsOf t).length = xL at *
      have m1 : ¬ 9223372036854775807 < 6 + J.length := by omega
      have m2 : ¬ 9223372036854775807 < 6 + J.length + 1 := by omega
      go_enter Tryz.func42, Tryz.ntmps42
      go_wp2_with (go_at_call 41; refine (cs _).mono ?_; rintro e w2 ⟨rfl, hb2⟩)
      go_ret
      exact ⟨by simp [ba_pre, ba_append, ba_one], (hb0 _).trans (hb2.mono (hb0 _).size)⟩
  · have hv : stT t = [110, 101, 120, 116, 59] := by rw [hT]; unfold stK; rw [if_neg (by omega), if_neg (by omega), if_neg (by omega), if_neg (by omega), if_pos h]
    rw [hv, h]
    clear hv hkind hx hA hA0 hK hT hnd hsk hsks hsz hbl
    generalize numOf t = n at *
    generalize txtOf t = s at *
    generalize (kidsOf t).length = xL at *
    go_enter Tryz.func42, Tryz.ntmps42
    go_wp2_with fail
    go_ret
    exact ⟨rfl, hb0 _⟩
  · obtain ⟨x, hxs, hex⟩ := just1 (by have h2 := hkind; unfold kindB at h2; rw [if_neg (by omega), if_pos (by omega)] at h2; exact h2)
    have hv : stT t = eT x ++ [59] := by rw [hT]; unfold stK; rw [if_neg (by omega), if_neg (by omega), if_neg (by omega), if_neg (by omega), if_neg (by omega), if_neg (by omega), hxs]; rfl
    rw [hv, h]
    rw [hxs] at hK
    obtain ⟨g, o, x0, x1, x2, x3, rfl, hgl, c0, c1, c2, c3, hax⟩ := args_at hK (show [x][0]? = some x from rfl)
    simp only [Nat.zero_mul, Nat.add_zero] at c0 c1 c2 c3
    have hcl : ∀ oo, (w.alloc oo).cell? ⟨g, o, none⟩ = some x0 ∧ (w.alloc oo).cell? ⟨g, o + 1, none⟩ = some x1 ∧ (w.alloc oo).cell? ⟨g, o + 2, none⟩ = some x2 ∧ (w.alloc oo).cell? ⟨g, o + 3, none⟩ = some x3 := fun oo => ⟨((hb0 oo).cell (p := ⟨g, o, none⟩) hgl).trans c0, ((hb0 oo).cell (p := ⟨g, o + 1, none⟩) hgl).trans c1, ((hb0 oo).cell (p := ⟨g, o + 2, none⟩) hgl).trans c2, ((hb0 oo).cell (p := ⟨g, o + 3, none⟩) hgl).trans c3⟩
    have cx := fun oo => hx x (by rw [hxs]; simp) hex (w.alloc oo) _ _ _ _ (arg_frame (hb0 oo) _ _ hax)
    have hXl : ((eT x).length : Int) ≤ 100000000 := by have := eT_len x; have := sizs_mem (show x ∈ kidsOf t by rw [hxs]; simp); omega
    obtain ⟨xao, xcap, rfl, rfl, rfl, rfl, -, -⟩ := arg_open hax
    have hl1 : (kidsOf t).length = 1 := by rw [hxs]; rfl
    rw [hl1]
    clear hv hkind hx hA hA0 hK hT hnd hsk hsks hsz hbl hxs hax c0 c1 c2 c3 hl1
    generalize numOf t = n at *
    generalize txtOf t = s at *
    generalize eT x = X at *
    generalize opOf x = xop at *
    generalize numOf x = xn at *
    generalize txtOf x = xs at *
    generalize (kidsOf x).length = xL at *
    have m1 : ¬ 9223372036854775807 < X.length + 1 := by omega
    obtain ⟨d0, d1, d2, d3⟩ := hcl (.cells #[.int .i64 35, .int .i64 n, .string ⟨s.toArray⟩, .slice (some ⟨g, o, none⟩) 1 cap] 39)
    go_enter Tryz.func42, Tryz.ntmps42
    go_wp2_with (go_at_call 14; refine (cx _).mono ?_; rintro e w2 ⟨rfl, hb2⟩)
    go_ret
    exact ⟨by simp [ba_pre, ba_append, ba_one], (hb0 _).trans (hb2.mono (hb0 _).size)⟩
  · have cx := fun oo => hbl h (w.alloc oo) _ _ _ _ (arg_frame (hb0 oo) _ _ hA0)
    rw [h] at cx ⊢
    clear hkind hx hA hA0 hK hT hnd hsk hsks hsz hbl
    generalize stT t = X at *
    generalize numOf t = n at *
    generalize txtOf t = s at *
    generalize (kidsOf t).length = xL at *
    go_enter Tryz.func42, Tryz.ntmps42
    go_wp2_with (go_at_call 15; refine (cx _).mono ?_; rintro e w2 ⟨rfl, hb2⟩)
    go_ret
    exact ⟨rfl, (hb0 _).trans (hb2.mono (hb0 _).size)⟩

theorem sStatement (t : Data) : allB t = true → stB (opOf t) = true → siz t ≤ 1048576 → STells 42 stT t ∧ (opOf t = 29 → STells 15 stT t) := by
  induction t using tree_ind with
  | h1 t ht =>
    intro hall
    cases t <;> simp [allB] at hall
    exact absurd rfl (ht _ _)
  | h ks lab ih =>
    intro hall hS hsz
    have hkt : kidsOf (.slice ks lab) = ks := rfl
    rw [allB, Bool.and_eq_true] at hall
    obtain ⟨hnode, halls⟩ := hall
    rw [node_eq, Bool.and_eq_true] at hnode
    have hkind : kindB (opOf (.slice ks lab)) ((kidsOf (.slice ks lab)).map opOf) = true := hnode.2
    rw [alls_all, List.all_eq_true] at halls
    have hsk := siz_kids (.slice ks lab)
    have hsks : sizs (kidsOf (.slice ks lab)) ≤ 1048576 := by omega
    rw [hkt] at hsk
    have hke : ∀ x ∈ kidsOf (.slice ks lab), eB (opOf x) = true → STells 14 eT x := fun x hx he => sE x (halls x hx) he (by have := sizs_mem (show x ∈ ks from hx); omega)
    have hks : ∀ x ∈ kidsOf (.slice ks lab), stB (opOf x) = true → STells 42 stT x ∧ (opOf x = 29 → STells 15 stT x) := fun x hx he => ih x hx (halls x hx) he (by have := sizs_mem (show x ∈ ks from hx); omega)
    have hbl : ∀ x ∈ kidsOf (.slice ks lab), opOf x = 29 → STells 15 stT x := fun x hx he => (hks x hx (by rw [he]; rfl)).2 he
    have heb : ∀ x ∈ kidsOf (.slice ks lab), ((eT x).length : Int) ≤ 100000000 := fun x hx => by have := eT_len x; have := sizs_mem (show x ∈ ks from hx); omega
    have hsb : ∀ x ∈ kidsOf (.slice ks lab), ((stT x).length : Int) ≤ 100000000 := fun x hx => by have := stT_len x; have := sizs_mem (show x ∈ ks from hx); omega
    clear ih hnode halls hsk hkt
    generalize Data.slice ks lab = t at *
    have hw : opOf t = 29 ∨ opOf t = 31 ∨ opOf t = 32 ∨ opOf t = 34 ∨ (opOf t = 30 ∨ opOf t = 33 ∨ opOf t = 35) := by
      simp only [stB, Bool.and_eq_true, decide_eq_true_eq] at hS
      omega
    have hsl : t = nd (opOf t) (numOf t) (txtOf t) (kidsOf t) → ((txtOf t).length : Int) ≤ 1048576 := fun e => by rw [e, siz_nd] at hsz; omega
    have hslw : ∀ {f : Nat} {T : Data → List UInt8}, (((txtOf t).length : Int) ≤ 1048576 → STells f T t) → STells f T t := fun h w a b c u hA => h (hsl (tree_nodes hA)) w a b c u hA
    rcases hw with h | h | h | h | h
    · have hall : (kidsOf t).all (fun x => stB (opOf x)) = true := by
        have h2 := hkind
        unfold kindB at h2
        rw [if_neg (by omega), if_neg (by omega), if_neg (by omega), if_neg (by omega), if_neg (by omega), if_pos h, List.all_map] at h2
        exact h2
      have hB := sBlock h (fun x hx => (hks x hx (List.all_eq_true.1 hall x hx)).1) hsks
      exact ⟨sPlain (.inr (.inr (.inr h))) hkind hke (fun _ => hB) hsz, fun _ => hB⟩
    · have h2 := hkind
      unfold kindB at h2
      rw [if_neg (by omega), if_neg (by omega), if_neg (by omega), if_neg (by omega), if_neg (by omega), if_neg (by omega), if_pos h] at h2
      refine ⟨hslw fun hl => ?_, fun e => by omega⟩
      rcases justI h2 with ⟨x, y, e, hx, hy⟩ | ⟨x, y, z, e, hx, hy, hz⟩
      · exact sIf2 h e (hke x (by rw [e]; simp) hx) (heb x (by rw [e]; simp)) (hbl y (by rw [e]; simp) hy) (hsb y (by rw [e]; simp)) hl
      · exact sIf3 h e (hke x (by rw [e]; simp) hx) (heb x (by rw [e]; simp)) (hbl y (by rw [e]; simp) hy) (hsb y (by rw [e]; simp)) (hbl z (by rw [e]; simp) hz) (hsb z (by rw [e]; simp)) hl
    · have h2 := hkind
      unfold kindB at h2
      rw [if_neg (by omega), if_neg (by omega), if_neg (by omega), if_neg (by omega), if_neg (by omega), if_neg (by omega), if_neg (by omega), if_pos h] at h2
      refine ⟨hslw fun hl => ?_, fun e => by omega⟩
      obtain ⟨x, y, e, hx, hy⟩ := justW h2
      exact sWhile h e (hke x (by rw [e]; simp) hx) (heb x (by rw [e]; simp)) (hbl y (by rw [e]; simp) hy) (hsb y (by rw [e]; simp)) hl
    · obtain ⟨x, e, hx⟩ := just1 (by have h2 := hkind; unfold kindB at h2; rw [if_neg (by omega), if_pos (by omega)] at h2; exact h2)
      exact ⟨hslw fun hl => sDrop h e (hke x (by rw [e]; simp) hx) (heb x (by rw [e]; simp)) hl, fun e => by omega⟩
    · exact ⟨sPlain (by omega) hkind hke (fun e => by omega) hsz, fun e => by omega⟩

end Ty
end Go.Proofs.YtjdohfdkkppnpaaGreatDoor

