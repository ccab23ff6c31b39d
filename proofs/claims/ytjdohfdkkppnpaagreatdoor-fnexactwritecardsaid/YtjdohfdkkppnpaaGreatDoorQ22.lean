/-
  The specification's l9Es, l9Blocks over kids that are told.
-/
import Derived.Test.YtjdohfdkkppnpaaGreatDoorQ11
import Derived.Test.YtjdohfdkkppnpaaGreatDoorQ04
import Derived.Test.YtjdohfdkkppnpaaGreatDoorQ21
import Derived.Test.YtjdohfdkkppnpaaGreatDoorQ07
namespace Go.Proofs.YtjdohfdkkppnpaaGreatDoor
open Go.RowKit
namespace Ty
open Nd

theorem sIsE (op : Int) (w : World) : Calls Tryz.prog 35 #[.int .i64 op] w fun e w' => e = .returned (.bool (eB op)) ∧ w' = w := by
  have c := sIn1 op 1 28 w
  have H : Hid (eB op = (decide (1 ≤ op) && decide (op ≤ 28))) := rfl
  generalize (decide (1 ≤ op) && decide (op ≤ 28)) = B at *
  go_enter Tryz.func35, Tryz.ntmps35
  go_wp2_with (go_at_call 34; refine c.mono ?_; rintro e w2 ⟨rfl, hw⟩; have hw := hw.symm; subst hw)
  go_ret
  exact ⟨by rw [H.out]; rfl, rfl⟩

theorem allq_take {p : Data → Bool} {ks : List Data} {k : Nat} {t : Data} (h : ks[k]? = some t) : (ks.take (k + 1)).all p = ((ks.take k).all p && p t) := by
  rw [List.take_add_one, h, List.all_append]
  simp

set_option maxRecDepth 100000 in
theorem sEs {t : Data} (hk : ∀ x ∈ kidsOf t, Tells 36 allB x) (hn : (kidsOf t).length ≤ 1048577) (m : Nat) (hm : m ≤ (kidsOf t).length) (w : World) (a b c u : Value) (hS : Sen w) (hA : ArgIs w t [a, b, c, u]) :
    Calls Tryz.prog 101 #[.agg #[a, b, c, u], .int .i64 0, .int .i64 m] w fun e w' => e = .returned (.bool (((kidsOf t).take m).all eQ)) ∧ Below w.heap.size w w' := by
  obtain ⟨ao, cap, rfl, rfl, rfl, rfl, hK, -⟩ := arg_open hA
  have hb0 : ∀ o, Below w.heap.size w (w.alloc o) := fun o => (Below.refl _ w).alloc (Nat.le_refl _) _
  have hv0 : ∀ o, o = Obj.cells #[.int .i64 (opOf t), .int .i64 (numOf t), .string ⟨(txtOf t).toArray⟩, .slice ao (kidsOf t).length cap] 39 → Var (w.alloc o) w.heap.size (.int .i64 (opOf t)) (.int .i64 (numOf t)) (.string ⟨(txtOf t).toArray⟩) (.slice ao (kidsOf t).length cap) := fun o ho => by rw [ho]; exact heap_new _ _
  clear hA
  generalize opOf t = op at *
  generalize numOf t = n at *
  generalize txtOf t = s at *
  generalize kidsOf t = ks at *
  have bn : (ks.length : Int) ≤ 1048577 := by omega
  have bm : (m : Int) ≤ ks.length := by omega
  go_enter Tryz.func101, Tryz.ntmps101
  go_wp2_with fail
  go_loopw [7] (fun i wr => ∃ k : Nat, k ≤ m ∧ i = .int .i64 k ∧ (ks.take k).all eQ = true ∧ Below w.heap.size w wr ∧ Var wr w.heap.size (.int .i64 op) (.int .i64 n) (.string ⟨s.toArray⟩) (.slice ao ks.length cap)) (fun i _ => m - (intOf i).toNat)
  case atStart => exact ⟨0, Nat.zero_le _, rfl, rfl, hb0 _, hv0 _ rfl⟩
  case round =>
    obtain ⟨k, hkm, rfl, hall, hb, hV⟩ := hrel
    have v3 := hV.cell.2.2.2
    by_cases hkl : k < m
    · have hkk : k < ks.length := by omega
      have hki : ks[k]? = some ks[k] := List.getElem?_eq_getElem hkk
      obtain ⟨g, o, x0, x1, x2, x3, rfl, hbl, c0, c1, c2, c3, ht⟩ := args_at (args_frame hb hK) hki
      simp only [Nat.zero_add] at c0 c1 c2 c3
      have bk : (k : Int) < m := by omega
      have bk2 : (k : Int) < ks.length := by omega
      have cE := sIsE (opOf ks[k]) wr
      have call := hk ks[k] (List.getElem_mem hkk) wr x0 x1 x2 x3 (hS.later hb) ht
      obtain ⟨ao', cap', rfl, rfl, rfl, rfl, -, -⟩ := arg_open ht
      have hT := allq_take (p := eQ) hki
      rw [hall, Bool.true_and] at hT
      have HT : Hid ((ks.take (k + 1)).all eQ = eQ ks[k]) := hT
      have HN : Hid (eQ ks[k] = false → (ks.take m).all eQ = false) := fun hf => by
        rcases hx : (ks.take m).all eQ with _ | _
        · rfl
        · have := List.all_eq_true.1 hx ks[k] (List.mem_take_iff_getElem.2 ⟨k, by omega, rfl⟩)
          rw [hf] at this; cases this
      have HQ : Hid (eQ ks[k] = (eB (opOf ks[k]) && allB ks[k])) := rfl
      clear hk hK hS ht hki hall hT hb0 hv0
      generalize eB (opOf ks[k]) = B1 at *
      generalize allB ks[k] = B2 at *
      generalize opOf ks[k] = op' at *
      generalize numOf ks[k] = n' at *
      generalize txtOf ks[k] = s' at *
      generalize (kidsOf ks[k]).length = L' at *
      generalize eQ ks[k] = Q at *
      cases B1
      · replace HQ : Hid ((ks.take m).all eQ = false) := HN.out HQ.out
        clear HN
        go_wp2_with (first
          | (go_at_call 35; refine cE.mono ?_; rintro e w2 ⟨rfl, hw⟩; have hw := hw.symm; subst hw))
        go_ret
        exact ⟨by rw [HQ.out]; rfl, hb⟩
      · cases B2
        · replace HQ : Hid ((ks.take m).all eQ = false) := HN.out HQ.out
          clear HN
          go_wp2_with (first
            | (go_at_call 35; refine cE.mono ?_; rintro e w2 ⟨rfl, hw⟩; have hw := hw.symm; subst hw)
            | (go_at_call 36; refine call.mono ?_; rintro e w3 ⟨rfl, hb3⟩))
          go_ret
          exact ⟨by rw [HQ.out]; rfl, hb.trans (hb3.mono hb.size)⟩
        · clear HN
          go_wp2_with (first
            | (go_at_call 35; refine cE.mono ?_; rintro e w2 ⟨rfl, hw⟩; have hw := hw.symm; subst hw)
            | (go_at_call 36; refine call.mono ?_; rintro e w3 ⟨rfl, hb3⟩))
          go_roundw
          case rel => exact ⟨k + 1, hkl, by go_num, by rw [HT.out, HQ.out]; rfl, hb.trans (hb3.mono hb.size), hV.kept (hb3.block _ hV.lt)⟩
          case measure => simp [intOf]; omega
    · obtain rfl : k = m := by omega
      have H : Hid ((ks.take k).all eQ = true) := hall
      clear hall
      go_wp2_with fail
      go_ret
      exact ⟨by rw [H.out]; rfl, hb⟩

set_option maxRecDepth 100000 in
theorem sBlocks {t : Data} (hk : ∀ x ∈ kidsOf t, Tells 36 allB x) (hn : (kidsOf t).length ≤ 1048577) (h1 : 1 ≤ (kidsOf t).length) (w : World) (a b c u : Value) (hS : Sen w) (hA : ArgIs w t [a, b, c, u]) :
    Calls Tryz.prog 102 #[.agg #[a, b, c, u], .int .i64 1] w fun e w' => e = .returned (.bool (((kidsOf t).drop 1).all blQ)) ∧ Below w.heap.size w w' := by
  obtain ⟨ao, cap, rfl, rfl, rfl, rfl, hK, -⟩ := arg_open hA
  have hb0 : ∀ o, Below w.heap.size w (w.alloc o) := fun o => (Below.refl _ w).alloc (Nat.le_refl _) _
  have hv0 : ∀ o, o = Obj.cells #[.int .i64 (opOf t), .int .i64 (numOf t), .string ⟨(txtOf t).toArray⟩, .slice ao (kidsOf t).length cap] 39 → Var (w.alloc o) w.heap.size (.int .i64 (opOf t)) (.int .i64 (numOf t)) (.string ⟨(txtOf t).toArray⟩) (.slice ao (kidsOf t).length cap) := fun o ho => by rw [ho]; exact heap_new _ _
  clear hA
  generalize opOf t = op at *
  generalize numOf t = n at *
  generalize txtOf t = s at *
  generalize kidsOf t = ks at *
  have bn : (ks.length : Int) ≤ 1048577 := by omega
  go_enter Tryz.func102, Tryz.ntmps102
  go_wp2_with fail
  go_loopw [5] (fun i wr => ∃ k : Nat, 1 ≤ k ∧ k ≤ ks.length ∧ i = .int .i64 k ∧ (ks.drop 1).all blQ = (ks.drop k).all blQ ∧ Below w.heap.size w wr ∧ Var wr w.heap.size (.int .i64 op) (.int .i64 n) (.string ⟨s.toArray⟩) (.slice ao ks.length cap)) (fun i _ => ks.length - (intOf i).toNat)
  case atStart => exact ⟨1, Nat.le_refl _, h1, rfl, rfl, hb0 _, hv0 _ rfl⟩
  case round =>
    obtain ⟨k, hk1, hkm, rfl, hall, hb, hV⟩ := hrel
    have v3 := hV.cell.2.2.2
    by_cases hkk : k < ks.length
    · have hki : ks[k]? = some ks[k] := List.getElem?_eq_getElem hkk
      obtain ⟨g, o, x0, x1, x2, x3, rfl, hbl, c0, c1, c2, c3, ht⟩ := args_at (args_frame hb hK) hki
      simp only [Nat.zero_add] at c0 c1 c2 c3
      have bk2 : (k : Int) < ks.length := by omega
      have call := hk ks[k] (List.getElem_mem hkk) wr x0 x1 x2 x3 (hS.later hb) ht
      obtain ⟨ao', cap', rfl, rfl, rfl, rfl, -, -⟩ := arg_open ht
      rw [List.drop_eq_getElem_cons hkk, List.all_cons] at hall
      have HA : Hid ((ks.drop 1).all blQ = (blQ ks[k] && (ks.drop (k + 1)).all blQ)) := hall
      have HQ : Hid (blQ ks[k] = (decide (opOf ks[k] = 29) && allB ks[k])) := rfl
      have eb : (opOf ks[k] == 29) = decide (opOf ks[k] = 29) := by rw [Bool.eq_iff_iff]; simp
      clear hk hK hS ht hki hall hb0 hv0
      generalize hd : decide (opOf ks[k] = 29) = B1 at *
      generalize allB ks[k] = B2 at *
      generalize opOf ks[k] = op' at *
      generalize numOf ks[k] = n' at *
      generalize txtOf ks[k] = s' at *
      generalize (kidsOf ks[k]).length = L' at *
      generalize blQ ks[k] = Q at *
      cases B1
      · have hne : ¬ op' = 29 := of_decide_eq_false hd
        have HR : Hid ((ks.drop 1).all blQ = false) := by show _ = _; rw [HA.out, HQ.out]; rfl
        clear HA hd
        go_wp2_with fail
        go_ret
        exact ⟨by rw [HR.out]; rfl, hb⟩
      · have he : op' = 29 := of_decide_eq_true hd
        subst he
        cases B2
        · have HR : Hid ((ks.drop 1).all blQ = false) := by show _ = _; rw [HA.out, HQ.out]; rfl
          clear HA hd
          go_wp2_with (go_at_call 36; refine call.mono ?_; rintro e w3 ⟨rfl, hb3⟩)
          go_ret
          exact ⟨by rw [HR.out]; rfl, hb.trans (hb3.mono hb.size)⟩
        · have HR : Hid ((ks.drop 1).all blQ = (ks.drop (k + 1)).all blQ) := by show _ = _; rw [HA.out, HQ.out]; rfl
          clear HA hd
          go_wp2_with (go_at_call 36; refine call.mono ?_; rintro e w3 ⟨rfl, hb3⟩)
          go_roundw
          case rel => exact ⟨k + 1, by omega, hkk, by go_num, HR.out, hb.trans (hb3.mono hb.size), hV.kept (hb3.block _ hV.lt)⟩
          case measure => simp [intOf]; omega
    · obtain rfl : k = ks.length := by omega
      rw [List.drop_length] at hall
      have H : Hid ((ks.drop 1).all blQ = true) := hall
      clear hall
      go_wp2_with fail
      go_ret
      exact ⟨by rw [H.out]; rfl, hb⟩

end Ty
end Go.Proofs.YtjdohfdkkppnpaaGreatDoor

