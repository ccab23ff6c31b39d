/-
  FnExactDeep returns true at every node.
-/
import Derived.Test.YtofapfcneggllaaNdDeep
import Derived.Test.YtofapfcneggllaaNdDeepS
import Derived.Test.YtofapfcneggllaaNdEq
namespace Go.Proofs.Ytofapfcneggllaa
open Go.RowKit
namespace Nd

set_option maxHeartbeats 4000000 in
set_option maxRecDepth 100000 in
theorem lawDeep {w : World} {t : Data} {a b c u : Value} (hA : ArgIs w t [a, b, c, u]) :
    Calls Try.prog 3 #[.agg #[a, b, c, u]] w fun e w' => e = .returned (.bool true) ∧ Below w.heap.size w w' := by
  obtain ⟨op, n, s, ao, cap, -, hcs, -⟩ := arg_form hA
  simp only [List.cons.injEq, and_true] at hcs
  obtain ⟨rfl, rfl, rfl, rfl⟩ := hcs
  obtain ⟨o1, ho1⟩ : ∃ o1, o1 = Obj.cells #[.int .i64 op, .int .i64 n, .string ⟨s.toArray⟩, .slice ao (kidsOf t).length cap] 24 := ⟨_, rfl⟩
  have hb1 : Below w.heap.size w (w.alloc o1) := (Below.refl _ w).alloc (Nat.le_refl _) _
  have hB : (w.alloc o1).heap[w.heap.size]? = some o1 := heap_new _ _
  have hs1 : (w.alloc o1).heap.size = w.heap.size + 1 := by simp
  have hcell : ∀ w', Below (w.heap.size + 1) (w.alloc o1) w' → w'.cell? ⟨w.heap.size, 0, none⟩ = some (.int .i64 op) ∧ w'.cell? ⟨w.heap.size, 1, none⟩ = some (.int .i64 n) ∧ w'.cell? ⟨w.heap.size, 2, none⟩ = some (.string ⟨s.toArray⟩) ∧ w'.cell? ⟨w.heap.size, 3, none⟩ = some (.slice ao (kidsOf t).length cap) := fun w' hb => by
    have := (hb.block w.heap.size (by omega)).trans hB
    simp [World.cell?, this, ho1]
  have hArg : ∀ w', Below (w.heap.size + 1) (w.alloc o1) w' → ArgIs w' t [.int .i64 op, .int .i64 n, .string ⟨s.toArray⟩, .slice ao (kidsOf t).length cap] := fun w' hb => arg_frame (hb1.trans (hb.mono (by omega))) t _ hA
  have csz := lSzNode t (w.alloc o1) _ _ _ _ 1048576 (hArg _ (Below.refl _ _)) (by omega) (by omega)
  generalize hW1 : w.alloc o1 = W1 at *
  subst ho1
  have HW1 := (show Hid _ from hW1)
  clear hW1
  go_enter Try.func3, Try.ntmps3
  go_wp2_with (first
    | (go_at_call 4; rw [HW1.out]; refine csz.mono ?_; rintro e w2 ⟨z, rfl, z0, z1, z2, hb2⟩; rw [hs1] at hb2; obtain ⟨x0, x1, x2, x3⟩ := hcell _ hb2)
    | (go_at_call 6; refine hold ?_))
  · go_ret
    exact ⟨rfl, hb1.trans (hb2.mono (by omega))⟩
  · have hcn : cnts (kidsOf t) ≤ 1048576 := by omega
    refine (lToNode t w2 _ _ _ _ (hArg _ hb2) hcn).mono ?_
    rintro e w3 ⟨v3, rfl, hN3, hb3⟩
    obtain ⟨_, _, _, ao3, cap3, _, -, -, -, -, rfl, -⟩ := node_form hN3
    have B3 : Below (w.heap.size + 1) W1 w3 := hb2.trans (hb3.mono (by have := hb2.size; omega))
    go_wp2_with fail
    refine (sDeep t hcn w3 _ _ _ _ _ hN3 (fun k hk => hk.2)).mono ?_
    rintro e w4 ⟨rfl, hb4⟩
    have B4 : Below (w.heap.size + 1) W1 w4 := B3.trans (hb4.mono (by have := B3.size; omega))
    obtain ⟨y0, y1, y2, y3⟩ := hcell _ B4
    go_wp2_with fail
    refine (lToNode t w4 _ _ _ _ (hArg _ B4) hcn).mono ?_
    rintro e w5 ⟨v5, rfl, hN5, hb5⟩
    obtain ⟨_, _, _, ao5, cap5, _, -, -, -, -, rfl, -⟩ := node_form hN5
    have B5 : Below (w.heap.size + 1) W1 w5 := B4.trans (hb5.mono (by have := B4.size; omega))
    obtain ⟨o5, ho5⟩ : ∃ o5, o5 = Obj.cells #[.int .i64 op, .int .i64 n, .string ⟨s.toArray⟩, .slice ao5 (kidsOf t).length cap5] 29 := ⟨_, rfl⟩
    have hb5' : Below w5.heap.size w5 (w5.alloc o5) := (Below.refl _ w5).alloc (Nat.le_refl _) _
    have hN5' := node_frame (w' := w5.alloc o5) t _ _ (fun k hk => hb5'.block k hk.2) hN5
    have hV5 : Var (w5.alloc o5) w5.heap.size (.int .i64 op) (.int .i64 n) (.string ⟨s.toArray⟩) (.slice ao5 (kidsOf t).length cap5) := by rw [ho5]; exact heap_new _ _
    have B5' : Below (w.heap.size + 1) W1 (w5.alloc o5) := B5.trans (hb5'.mono (by have := B5.size; omega))
    have c5 := iDeep hcn hN5' (fun k hk => Nat.lt_of_lt_of_le hk.2 hb5'.size)
    subst ho5
    go_wp2_with fail
    refine c5.mono ?_
    rintro e w6 ⟨rfl, hb6⟩
    have B6 : Below (w.heap.size + 1) W1 w6 := B5'.trans (hb6.mono (by have := B5'.size; omega))
    obtain ⟨p0, p1, p2, p3⟩ := hcell _ B6
    have hV6 := hV5.kept (hb6.block _ hV5.lt)
    obtain ⟨q0, q1, q2, q3⟩ := hV6.cell
    have hN6 := node_frame (w' := w6) t _ _ (fun k hk => hb6.block k (Nat.lt_of_lt_of_le hk.2 hb5'.size)) hN5'
    have hz6 : w5.heap.size ≤ w6.heap.size := by have := hb6.size; simp at this; omega
    have c7 := lToNode t w6.drew _ _ _ _ (hArg _ B6.drew) hcn
    have hfin : ∀ w7 v7, NodeIs w7 t (Iv w6.heap.size w7.heap.size) [.int .i64 op, .int .i64 n, .string ⟨s.toArray⟩, v7] → Below w6.heap.size w6.drew w7 → Calls Try.prog 8 #[.agg #[.int .i64 op, .int .i64 n, .string ⟨s.toArray⟩, .slice ao5 (kidsOf t).length cap5], .agg #[.int .i64 op, .int .i64 n, .string ⟨s.toArray⟩, v7]] w7 fun e w' => e = .returned (.bool true) ∧ Below w7.heap.size w7 w' := fun w7 v7 hN7 hb7 =>
      lEqNode t hcn w7 _ _ _ _ _ _ _ _ _ _ (node_frame (w := w6) (w' := w7) t (Iv w4.heap.size w5.heap.size) _ (fun k hk => hb7.block k (Nat.lt_of_lt_of_le hk.2 hz6)) hN6) hN7 (fun k hk => Nat.lt_of_lt_of_le hk.2 (Nat.le_trans hz6 hb7.size)) (fun k hk => hk.2)
    have c9 : Calls Try.prog 6 #[.agg #[.int .i64 op, .int .i64 n, .string ⟨s.toArray⟩, .slice ao (kidsOf t).length cap]] w6.drew fun e w7 => ∃ ao7 cap7, e = .returned (.agg #[.int .i64 op, .int .i64 n, .string ⟨s.toArray⟩, .slice ao7 (kidsOf t).length cap7]) ∧
        Calls Try.prog 8 #[.agg #[.int .i64 op, .int .i64 n, .string ⟨s.toArray⟩, .slice ao5 (kidsOf t).length cap5], .agg #[.int .i64 op, .int .i64 n, .string ⟨s.toArray⟩, .slice ao7 (kidsOf t).length cap7]] w7 (fun e w' => e = .returned (.bool true) ∧ Below w.heap.size w w') ∧
        (w7.cell? ⟨w5.heap.size, 0, none⟩ = some (.int .i64 op) ∧ w7.cell? ⟨w5.heap.size, 1, none⟩ = some (.int .i64 n) ∧ w7.cell? ⟨w5.heap.size, 2, none⟩ = some (.string ⟨s.toArray⟩) ∧ w7.cell? ⟨w5.heap.size, 3, none⟩ = some (.slice ao5 (kidsOf t).length cap5)) := by
      refine c7.mono ?_
      rintro e w7 ⟨v7, rfl, hN7, hb7⟩
      obtain ⟨_, _, _, ao7, cap7, _, -, -, -, -, rfl, -⟩ := node_form hN7
      refine ⟨ao7, cap7, rfl, (hfin _ _ hN7 hb7).mono ?_, (hV6.kept (hb7.block _ hV6.lt)).cell⟩
      rintro e w8 ⟨rfl, hb8⟩
      have hb68 : Below w6.heap.size w6 w8 := (⟨hb7.os, hb7.tape, hb7.output, hb7.size, hb7.block⟩ : Below w6.heap.size w6 w7).trans (hb8.mono hb7.size)
      exact ⟨rfl, hb1.trans ((B6.trans (hb68.mono (by have := B6.size; omega))).mono (by omega))⟩
    clear csz hcell hArg hN3 hN5 hN5' hN6 c5 hcn hb2 hb3 hb4 hb5 hb5' B3 B4 B5 B5' x0 x1 x2 x3 y0 y1 y2 y3 hV5 hA z0 z1 z2 hfin c7 hV6
    go_wp2_with fail
    go_region_with (first
      | (go_at_call 6; with_reducible refine c9.mono ?_; rintro e w7 ⟨ao7, cap7, rfl, c8, r0, r1, r2, r3⟩)
      | (go_at_call 8; with_reducible refine c8.mono ?_; rintro e w8 ⟨rfl, hb8⟩))
    all_goals go_wp2_with fail
    all_goals go_ret
    all_goals exact ⟨rfl, hb8⟩

end Nd
end Go.Proofs.Ytofapfcneggllaa
