/-
  The program's RexOk at what is parsed.
-/
import Derived.Test.YthagicpockpfjaiDoorRexSetOf
import Derived.Test.YthagicpockpfjaiDoorRexSame
import Derived.Test.YthagicpockpfjaiDoorRexFace
namespace Go.Proofs.YthagicpockpfjaiDoor
open Go.RowKit
namespace Rx

theorem ok_idle (a : Value) (w : World) :
    CallsD Tryd.prog 32 #[a] .returning w fun e u' w' => e = .returned (.tuple #[]) ∧ u' = .returning ∧ w' = w := by
  refine callsD_of_wpS Tryd.func32 rfl fun c₀ cs hu => ?_
  apply wpS_seq
  apply wpS_region
  simp [wpOpsS, go_sem, recoverD, hu, Tryd.ntmps32, Exit.thenS]
  refine wpS_cond (t := false) (by simp [Act.eval, Array.replicate]) ?_
  simp only [Bool.false_eq_true, if_false]
  refine wpS_of_wp (wp_skip ?_)
  cases c₀
  simp_all [bodyPostS, results, Tryd.results32]

set_option maxHeartbeats 2000000 in
set_option maxRecDepth 100000 in
theorem iRexOk {W : World} (hSet : SetOk W) {t : Data} (hR : RightD 12 t) (hc : cnt t ≤ 1000) (w : World) (hW : Below W.heap.size W w) (S : Nat → Prop) (a b c d u : Value) (h : RexIs w t S [a, b, c, d, u]) (hS : ∀ k, S k → k < w.heap.size) :
    Calls Tryd.prog 20 #[.agg #[a, b, c, d, u]] w fun e w' => e = .returned (.bool true) ∧ Below w.heap.size w w' := by
  have hP : ∀ w1, Below w.heap.size w w1 → Calls Tryd.prog 22 #[.agg #[a, b, c, d, u], .int .i64 12] w1 fun e w' => PatRet t w1 e w' := fun w1 hb => iPatternOf hSet 12 t hR (by omega) (by omega) w1 S a b c d u (hW.trans (hb.mono hW.size)) (rex_frame _ _ _ (fun k hk => hb.block k (hS k hk)) h) (fun k hk => Nat.lt_of_lt_of_le (hS k hk) hb.size)
  have hO : ∀ w1 lo v, PatIs w1 t (Iv lo w1.heap.size) v → Calls Tryd.prog 17 #[v] w1 fun e w' => RexRet t w1 e w' := fun w1 lo v hv => iRexOf (dep t) t _ v w1 (Nat.le_refl _) (by omega) hv (fun k hk => hk.2)
  have hE : ∀ w1 lo a' b' c' d' u', Below w.heap.size w w1 → RexIs w1 t (Iv lo w1.heap.size) [a', b', c', d', u'] → Calls Tryd.prog 33 #[.agg #[a', b', c', d', u'], .agg #[a, b, c, d, u]] w1 fun e w' => e = .returned (.bool true) ∧ Below w1.heap.size w1 w' := by
    intro w1 lo a' b' c' d' u' hb hx
    have hs := iSameRex (dep t) t (Nat.le_refl _) (by omega)
    unfold SameOk at hs
    exact hs w1 _ S _ _ _ _ _ _ _ _ _ _ hx (rex_frame _ _ _ (fun k hk => hb.block k (hS k hk)) h) (fun k hk => hk.2) (fun k hk => Nat.lt_of_lt_of_le (hS k hk) hb.size)
  obtain ⟨op, cc, ss, no, ao, n, cap, rfl, rfl, rfl, rfl, rfl⟩ := rex_cells h
  clear h hR
  obtain ⟨o1, ho1⟩ : ∃ o1, o1 = Obj.cells #[.int .i64 op, .int .i64 cc, .string ⟨ss.toArray⟩, .bool no, .slice ao n cap] 27 := ⟨_, rfl⟩
  obtain ⟨o2, ho2⟩ : ∃ o2, o2 = Obj.cells #[.bool false] 4 := ⟨_, rfl⟩
  have hb0 : Below w.heap.size w ((w.alloc o1).alloc o2) := ((Below.refl _ w).alloc (Nat.le_refl _) _).alloc (by simp) _
  have hV0 : Var ((w.alloc o1).alloc o2) w.heap.size (.int .i64 op) (.int .i64 cc) (.string ⟨ss.toArray⟩) (.bool no) (.slice ao n cap) := by
    unfold Var
    rw [Below.heap_alloc _ _ _ (by simp), heap_alloc_last, ho1]
  have hF0 : Flag ((w.alloc o1).alloc o2) (w.heap.size + 1) false := by
    have := heap_alloc_last (w.alloc o1) o2
    unfold Flag
    rw [ho2] at this ⊢
    simpa using this
  have hz0 : ((w.alloc o1).alloc o2).heap.size = w.heap.size + 2 := by simp
  have hK : ∀ w1 : World, Below (w.heap.size + 2) ((w.alloc o1).alloc o2) w1 → Var w1 w.heap.size (.int .i64 op) (.int .i64 cc) (.string ⟨ss.toArray⟩) (.bool no) (.slice ao n cap) ∧ Flag w1 (w.heap.size + 1) false ∧ Below w.heap.size w w1 := fun w1 hb => ⟨hV0.kept (hb.block _ (by omega)), hF0.kept (hb.block _ (by omega)), hb0.trans (hb.mono (by omega))⟩
  obtain ⟨W2, hW2⟩ : ∃ W2, W2 = (w.alloc o1).alloc o2 := ⟨_, rfl⟩
  have k0 := hV0.cell.1
  have k1 := hV0.cell.2.1
  have k2 := hV0.cell.2.2.1
  have k3 := hV0.cell.2.2.2.1
  have k4 := hV0.cell.2.2.2.2
  subst ho1 ho2
  rw [← hW2] at hK hz0 hb0 k0 k1 k2 k3 k4
  go_enter_defers Tryd.func20, Tryd.ntmps20
  go_wp2_with fail
  rw [← hW2]
  clear hV0 hF0 hW2
  go_region_with (first | (go_at_call 22; refine (hP _ (by first | exact hb0 | exact hb0.drew | exact hb0.drew.drew | exact hb0.drew.drew.drew)).mono ?_; rintro e w1 ⟨v1, rfl, hv1, hb1⟩; obtain ⟨T1, y1, rfl⟩ := pat_iface hv1; have hq1 : Below (w.heap.size + 2) W2 w1 := ⟨hb1.os, hb1.tape, hb1.output, hb1.size, fun k hk => hb1.block k (by show k < W2.heap.size; omega)⟩; obtain ⟨hV1, hF1, hB1⟩ := hK w1 hq1; have m0 := hV1.cell.1; have m1 := hV1.cell.2.1; have m2 := hV1.cell.2.2.1; have m3 := hV1.cell.2.2.2.1; have m4 := hV1.cell.2.2.2.2) | (go_at_call 17; refine (hO _ _ _ (pat_frame (w := w1) (fun _ _ => rfl) (fun _ h => h) t _ hv1)).mono ?_; rintro e w2 ⟨a2, b2, c2, d2, u2, rfl, hb2, hx2⟩; obtain ⟨op2, cc2, ss2, no2, ao2, n2, cap2, rfl, rfl, rfl, rfl, rfl⟩ := rex_cells hx2; have hq2 : Below (w.heap.size + 2) W2 w2 := hq1.trans ⟨hb2.os, hb2.tape, hb2.output, hb2.size, fun k hk => hb2.block k (by show k < w1.heap.size; have := hq1.size; omega)⟩; obtain ⟨hV2, hF2, hB2⟩ := hK w2 hq2; have j0 := hV2.cell.1; have j1 := hV2.cell.2.1; have j2 := hV2.cell.2.2.1; have j3 := hV2.cell.2.2.2.1; have j4 := hV2.cell.2.2.2.2) | (go_at_call 33; refine (hE _ _ _ _ _ _ _ (by first | exact hB2 | exact hB2.drew | exact hB2.drew.drew | exact hB2.drew.drew.drew) (rex_frame (w := w2) t _ _ (fun _ _ => rfl) hx2)).mono ?_; rintro e w3 ⟨rfl, hb3⟩; have hq3 : Below (w.heap.size + 2) W2 w3 := hq2.trans ⟨hb3.os, hb3.tape, hb3.output, hb3.size, fun k hk => hb3.block k (by show k < w2.heap.size; have := hq2.size; omega)⟩; obtain ⟨hV3, hF3, hB3⟩ := hK w3 hq3; have i0 := hF3.cell; have i1 := hF3.frozen))
  all_goals go_wp2_with fail
  all_goals refine leaves_cons (f := 32) (args := #[.pointer (some ⟨w.heap.size + 1, 0, none⟩)]) (by simp) (by simp [go_sem]) ?_
  all_goals refine (ok_idle _ _).mono ?_
  all_goals rintro e u' w'' ⟨rfl, rfl, hw⟩
  all_goals subst hw
  all_goals have x5 := (hF3.set true).cell
  all_goals have HB : Hid (Below w.heap.size w (w3.setCell ⟨w.heap.size + 1, 0, none⟩ (.bool true))) := hB3.setCell (show w.heap.size ≤ w.heap.size + 1 by omega) _
  all_goals clear hV1 hV2 hV3 hF1 hF2 hF3 hP hO hE hK hB3
  all_goals simp [Leaves, settle, results, Tryd.results20, go_sem, x5]
  all_goals exact HB.out

end Rx
end Go.Proofs.YthagicpockpfjaiDoor
