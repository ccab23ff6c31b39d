/-
  The specification's l9Stmt at branches and cells.
-/
import Derived.Test.YtjdohfdkkppnpaaGreatDoorQ36
namespace Go.Proofs.YtjdohfdkkppnpaaGreatDoor
open Go.RowKit
namespace Ty
open Nd
set_option linter.unusedSimpArgs false
set_option linter.unusedVariables false

set_option maxHeartbeats 4000000 in
set_option maxRecDepth 100000 in
theorem sIf2 {t x y : Data} (hop : opOf t = 31) (hks : kidsOf t = [x, y]) (hx : STells 14 eT x) (hxb : ((eT x).length : Int) ≤ 100000000) (hy : STells 15 stT y) (hyb : ((stT y).length : Int) ≤ 100000000) (hsl : ((txtOf t).length : Int) ≤ 1048576) : STells 42 stT t := by
  intro w a b c u hA
  have hnd := tree_nodes hA
  have hT : stT t = [105, 102, 32, 40] ++ eT x ++ [41, 32] ++ stT y := by
    rw [hnd, stT_nd, hop, hks]
    simp [stK, esT, stsT, txt_nd]
  rw [hT]
  obtain ⟨ao, cap, rfl, rfl, rfl, rfl, hK, -⟩ := arg_open hA
  rw [hks] at hK
  obtain ⟨g0, o0, x0, x1, x2, x3, hao0, hgl0, xc0, xc1, xc2, xc3, hax⟩ := args_at hK (show [x, y][0]? = some x from rfl)
  obtain ⟨g1, o1, y0, y1, y2, y3, hao1, hgl1, yc0, yc1, yc2, yc3, hay⟩ := args_at hK (show [x, y][1]? = some y from rfl)
  subst hao0
  simp only [Option.some.injEq, Addr.mk.injEq, and_true] at hao1
  obtain ⟨rfl, rfl⟩ := hao1
  simp only [Nat.zero_mul, Nat.add_zero, Nat.zero_add, Nat.one_mul] at xc0 xc1 xc2 xc3 yc0 yc1 yc2 yc3
  have hlen : (kidsOf t).length = 2 := by rw [hks]; rfl
  rw [hop, hlen]
  obtain ⟨WB, hWB⟩ : ∃ WB, WB = w.alloc (.cells #[.int .i64 31, .int .i64 (numOf t), .string ⟨(txtOf t).toArray⟩, .slice (some ⟨g0, o0, none⟩) 2 cap] 39) := ⟨_, rfl⟩
  have hbW : Below w.heap.size w WB := by rw [hWB]; exact (Below.refl _ w).alloc (Nat.le_refl _) _
  have hS : ∀ w', Below WB.heap.size WB w' → Below WB.heap.size WB w' ∧ w'.cell? ⟨w.heap.size, 3, none⟩ = some (.slice (some ⟨g0, o0, none⟩) 2 cap) ∧ w'.cell? ⟨g0, o0, none⟩ = some x0 ∧ w'.cell? ⟨g0, o0 + 1, none⟩ = some x1 ∧ w'.cell? ⟨g0, o0 + 2, none⟩ = some x2 ∧ w'.cell? ⟨g0, o0 + 3, none⟩ = some x3 ∧ w'.cell? ⟨g0, o0 + 4, none⟩ = some y0 ∧ w'.cell? ⟨g0, o0 + 4 + 1, none⟩ = some y1 ∧ w'.cell? ⟨g0, o0 + 4 + 2, none⟩ = some y2 ∧ w'.cell? ⟨g0, o0 + 4 + 3, none⟩ = some y3 := fun w' h => by
    have hV : Var WB w.heap.size (.int .i64 31) (.int .i64 (numOf t)) (.string ⟨(txtOf t).toArray⟩) (.slice (some ⟨g0, o0, none⟩) 2 cap) := by
      rw [hWB]
      exact heap_new _ _
    have hbw := hbW.trans (h.mono hbW.size)
    exact ⟨h, (hV.kept (h.block _ hV.lt)).cell.2.2.2, (hbw.cell (p := ⟨g0, o0, none⟩) hgl0).trans xc0, (hbw.cell (p := ⟨g0, o0 + 1, none⟩) hgl0).trans xc1, (hbw.cell (p := ⟨g0, o0 + 2, none⟩) hgl0).trans xc2, (hbw.cell (p := ⟨g0, o0 + 3, none⟩) hgl0).trans xc3, (hbw.cell (p := ⟨g0, o0 + 4, none⟩) hgl0).trans yc0, (hbw.cell (p := ⟨g0, o0 + 4 + 1, none⟩) hgl0).trans yc1, (hbw.cell (p := ⟨g0, o0 + 4 + 2, none⟩) hgl0).trans yc2, (hbw.cell (p := ⟨g0, o0 + 4 + 3, none⟩) hgl0).trans yc3⟩
  have cx : ∀ w', Below WB.heap.size WB w' → Calls Tryz.prog 14 #[.agg #[x0, x1, x2, x3]] w' fun e w'' => e = .returned (.string ⟨(eT x).toArray⟩) ∧ Below WB.heap.size WB w'' := fun w' h => by
    refine (hx w' _ _ _ _ (arg_frame (hbW.trans (h.mono hbW.size)) _ _ hax)).mono ?_
    rintro e w'' ⟨rfl, hb3⟩
    exact ⟨rfl, h.trans (hb3.mono h.size)⟩
  have cy : ∀ w', Below WB.heap.size WB w' → Calls Tryz.prog 15 #[.agg #[y0, y1, y2, y3]] w' fun e w'' => e = .returned (.string ⟨(stT y).toArray⟩) ∧ Below WB.heap.size WB w'' := fun w' h => by
    refine (hy w' _ _ _ _ (arg_frame (hbW.trans (h.mono hbW.size)) _ _ hay)).mono ?_
    rintro e w'' ⟨rfl, hb3⟩
    exact ⟨rfl, h.trans (hb3.mono h.size)⟩
  obtain ⟨xao, xcap, rfl, rfl, rfl, rfl, -, -⟩ := arg_open hax
  obtain ⟨yao, ycap, rfl, rfl, rfl, rfl, -, -⟩ := arg_open hay
  have HW : Hid (WB = w.alloc (.cells #[.int .i64 31, .int .i64 (numOf t), .string ⟨(txtOf t).toArray⟩, .slice (some ⟨g0, o0, none⟩) 2 cap] 39)) := hWB
  clear hA hnd hT hK hks hax hx xc0 xc1 xc2 xc3 hay hy yc0 yc1 yc2 yc3 hgl0 hgl1 hlen hWB hop
  generalize numOf t = n at *
  generalize txtOf t = s at *
  generalize eT x = X at *
  generalize opOf x = xop at *
  generalize numOf x = xn at *
  generalize txtOf x = xs at *
  generalize (kidsOf x).length = xL at *
  generalize stT y = Y at *
  generalize opOf y = yop at *
  generalize numOf y = yn at *
  generalize txtOf y = ys at *
  generalize (kidsOf y).length = yL at *
  have m0 : ¬ 9223372036854775807 < 4 + X.length := by omega
  have m1 : ¬ 9223372036854775807 < 4 + X.length + 2 := by omega
  have m2 : ¬ 9223372036854775807 < 4 + X.length + 2 + Y.length := by omega
  go_enter Tryz.func42, Tryz.ntmps42
  go_upto_region 7 with fail
  refine (show Code.wp _ _ _ _ (w.alloc (.cells #[.int .i64 31, .int .i64 n, .string ⟨s.toArray⟩, .slice (some ⟨g0, o0, none⟩) 2 cap] 39)) from ?_)
  rw [← HW.out]
  have hS0 := hS WB (Below.refl _ _)
  go_region_held3 (fun w' => Below WB.heap.size WB w' ∧ w'.cell? ⟨w.heap.size, 3, none⟩ = some (.slice (some ⟨g0, o0, none⟩) 2 cap) ∧ w'.cell? ⟨g0, o0, none⟩ = some (.int .i64 xop) ∧ w'.cell? ⟨g0, o0 + 1, none⟩ = some (.int .i64 xn) ∧ w'.cell? ⟨g0, o0 + 2, none⟩ = some (.string ⟨xs.toArray⟩) ∧ w'.cell? ⟨g0, o0 + 3, none⟩ = some (.slice xao xL xcap) ∧ w'.cell? ⟨g0, o0 + 4, none⟩ = some (.int .i64 yop) ∧ w'.cell? ⟨g0, o0 + 4 + 1, none⟩ = some (.int .i64 yn) ∧ w'.cell? ⟨g0, o0 + 4 + 2, none⟩ = some (.string ⟨ys.toArray⟩) ∧ w'.cell? ⟨g0, o0 + 4 + 3, none⟩ = some (.slice yao yL ycap)) (first | exact hS _ (by assumption) | exact hS _ (below_drew1 (by first | assumption | exact Below.refl _ _))) (first | (go_at_call 14; with_reducible refine (cx _ ?_).mono ?_; (first | assumption | exact And.left (by assumption)); rintro e w2 ⟨rfl, hb2⟩) | (go_at_call 15; with_reducible refine (cy _ ?_).mono ?_; (first | assumption | exact And.left (by assumption)); rintro e w2 ⟨rfl, hb2⟩))
  all_goals
    obtain ⟨d00, d01, d02⟩ := hS _ hb2
    go_wp2_with fail
    go_ret
    exact ⟨by simp [ba_pre, ba_append, ba_one], hbW.trans (hb2.mono hbW.size)⟩

set_option maxHeartbeats 4000000 in
set_option maxRecDepth 100000 in
theorem sIf3 {t x y z : Data} (hop : opOf t = 31) (hks : kidsOf t = [x, y, z]) (hx : STells 14 eT x) (hxb : ((eT x).length : Int) ≤ 100000000) (hy : STells 15 stT y) (hyb : ((stT y).length : Int) ≤ 100000000) (hz : STells 15 stT z) (hzb : ((stT z).length : Int) ≤ 100000000) (hsl : ((txtOf t).length : Int) ≤ 1048576) : STells 42 stT t := by
  intro w a b c u hA
  have hnd := tree_nodes hA
  have hT : stT t = [105, 102, 32, 40] ++ eT x ++ [41, 32] ++ stT y ++ ([32, 101, 108, 115, 101, 32] ++ stT z) := by
    rw [hnd, stT_nd, hop, hks]
    simp [stK, esT, stsT, txt_nd]
  rw [hT]
  obtain ⟨ao, cap, rfl, rfl, rfl, rfl, hK, -⟩ := arg_open hA
  rw [hks] at hK
  obtain ⟨g0, o0, x0, x1, x2, x3, hao0, hgl0, xc0, xc1, xc2, xc3, hax⟩ := args_at hK (show [x, y, z][0]? = some x from rfl)
  obtain ⟨g1, o1, y0, y1, y2, y3, hao1, hgl1, yc0, yc1, yc2, yc3, hay⟩ := args_at hK (show [x, y, z][1]? = some y from rfl)
  obtain ⟨g2, o2, z0, z1, z2, z3, hao2, hgl2, zc0, zc1, zc2, zc3, haz⟩ := args_at hK (show [x, y, z][2]? = some z from rfl)
  subst hao0
  simp only [Option.some.injEq, Addr.mk.injEq, and_true] at hao1
  obtain ⟨rfl, rfl⟩ := hao1
  simp only [Option.some.injEq, Addr.mk.injEq, and_true] at hao2
  obtain ⟨rfl, rfl⟩ := hao2
  simp only [Nat.zero_mul, Nat.add_zero, Nat.zero_add, Nat.one_mul, Nat.reduceMul] at xc0 xc1 xc2 xc3 yc0 yc1 yc2 yc3 zc0 zc1 zc2 zc3
  have hlen : (kidsOf t).length = 3 := by rw [hks]; rfl
  rw [hop, hlen]
  obtain ⟨WB, hWB⟩ : ∃ WB, WB = w.alloc (.cells #[.int .i64 31, .int .i64 (numOf t), .string ⟨(txtOf t).toArray⟩, .slice (some ⟨g0, o0, none⟩) 3 cap] 39) := ⟨_, rfl⟩
  have hbW : Below w.heap.size w WB := by rw [hWB]; exact (Below.refl _ w).alloc (Nat.le_refl _) _
  have hS : ∀ w', Below WB.heap.size WB w' → Below WB.heap.size WB w' ∧ w'.cell? ⟨w.heap.size, 3, none⟩ = some (.slice (some ⟨g0, o0, none⟩) 3 cap) ∧ w'.cell? ⟨g0, o0, none⟩ = some x0 ∧ w'.cell? ⟨g0, o0 + 1, none⟩ = some x1 ∧ w'.cell? ⟨g0, o0 + 2, none⟩ = some x2 ∧ w'.cell? ⟨g0, o0 + 3, none⟩ = some x3 ∧ w'.cell? ⟨g0, o0 + 4, none⟩ = some y0 ∧ w'.cell? ⟨g0, o0 + 4 + 1, none⟩ = some y1 ∧ w'.cell? ⟨g0, o0 + 4 + 2, none⟩ = some y2 ∧ w'.cell? ⟨g0, o0 + 4 + 3, none⟩ = some y3 ∧ w'.cell? ⟨g0, o0 + 8, none⟩ = some z0 ∧ w'.cell? ⟨g0, o0 + 8 + 1, none⟩ = some z1 ∧ w'.cell? ⟨g0, o0 + 8 + 2, none⟩ = some z2 ∧ w'.cell? ⟨g0, o0 + 8 + 3, none⟩ = some z3 := fun w' h => by
    have hV : Var WB w.heap.size (.int .i64 31) (.int .i64 (numOf t)) (.string ⟨(txtOf t).toArray⟩) (.slice (some ⟨g0, o0, none⟩) 3 cap) := by
      rw [hWB]
      exact heap_new _ _
    have hbw := hbW.trans (h.mono hbW.size)
    exact ⟨h, (hV.kept (h.block _ hV.lt)).cell.2.2.2, (hbw.cell (p := ⟨g0, o0, none⟩) hgl0).trans xc0, (hbw.cell (p := ⟨g0, o0 + 1, none⟩) hgl0).trans xc1, (hbw.cell (p := ⟨g0, o0 + 2, none⟩) hgl0).trans xc2, (hbw.cell (p := ⟨g0, o0 + 3, none⟩) hgl0).trans xc3, (hbw.cell (p := ⟨g0, o0 + 4, none⟩) hgl0).trans yc0, (hbw.cell (p := ⟨g0, o0 + 4 + 1, none⟩) hgl0).trans yc1, (hbw.cell (p := ⟨g0, o0 + 4 + 2, none⟩) hgl0).trans yc2, (hbw.cell (p := ⟨g0, o0 + 4 + 3, none⟩) hgl0).trans yc3, (hbw.cell (p := ⟨g0, o0 + 8, none⟩) hgl0).trans zc0, (hbw.cell (p := ⟨g0, o0 + 8 + 1, none⟩) hgl0).trans zc1, (hbw.cell (p := ⟨g0, o0 + 8 + 2, none⟩) hgl0).trans zc2, (hbw.cell (p := ⟨g0, o0 + 8 + 3, none⟩) hgl0).trans zc3⟩
  have cx : ∀ w', Below WB.heap.size WB w' → Calls Tryz.prog 14 #[.agg #[x0, x1, x2, x3]] w' fun e w'' => e = .returned (.string ⟨(eT x).toArray⟩) ∧ Below WB.heap.size WB w'' := fun w' h => by
    refine (hx w' _ _ _ _ (arg_frame (hbW.trans (h.mono hbW.size)) _ _ hax)).mono ?_
    rintro e w'' ⟨rfl, hb3⟩
    exact ⟨rfl, h.trans (hb3.mono h.size)⟩
  have cy : ∀ w', Below WB.heap.size WB w' → Calls Tryz.prog 15 #[.agg #[y0, y1, y2, y3]] w' fun e w'' => e = .returned (.string ⟨(stT y).toArray⟩) ∧ Below WB.heap.size WB w'' := fun w' h => by
    refine (hy w' _ _ _ _ (arg_frame (hbW.trans (h.mono hbW.size)) _ _ hay)).mono ?_
    rintro e w'' ⟨rfl, hb3⟩
    exact ⟨rfl, h.trans (hb3.mono h.size)⟩
  have cz : ∀ w', Below WB.heap.size WB w' → Calls Tryz.prog 15 #[.agg #[z0, z1, z2, z3]] w' fun e w'' => e = .returned (.string ⟨(stT z).toArray⟩) ∧ Below WB.heap.size WB w'' := fun w' h => by
    refine (hz w' _ _ _ _ (arg_frame (hbW.trans (h.mono hbW.size)) _ _ haz)).mono ?_
    rintro e w'' ⟨rfl, hb3⟩
    exact ⟨rfl, h.trans (hb3.mono h.size)⟩
  obtain ⟨xao, xcap, rfl, rfl, rfl, rfl, -, -⟩ := arg_open hax
  obtain ⟨yao, ycap, rfl, rfl, rfl, rfl, -, -⟩ := arg_open hay
  obtain ⟨zao, zcap, rfl, rfl, rfl, rfl, -, -⟩ := arg_open haz
  have HW : Hid (WB = w.alloc (.cells #[.int .i64 31, .int .i64 (numOf t), .string ⟨(txtOf t).toArray⟩, .slice (some ⟨g0, o0, none⟩) 3 cap] 39)) := hWB
  clear hA hnd hT hK hks hax hx xc0 xc1 xc2 xc3 hay hy yc0 yc1 yc2 yc3 haz hz zc0 zc1 zc2 zc3 hgl0 hgl1 hgl2 hlen hWB hop
  generalize numOf t = n at *
  generalize txtOf t = s at *
  generalize eT x = X at *
  generalize opOf x = xop at *
  generalize numOf x = xn at *
  generalize txtOf x = xs at *
  generalize (kidsOf x).length = xL at *
  generalize stT y = Y at *
  generalize opOf y = yop at *
  generalize numOf y = yn at *
  generalize txtOf y = ys at *
  generalize (kidsOf y).length = yL at *
  generalize stT z = Z at *
  generalize opOf z = zop at *
  generalize numOf z = zn at *
  generalize txtOf z = zs at *
  generalize (kidsOf z).length = zL at *
  have m0 : ¬ 9223372036854775807 < 4 + X.length := by omega
  have m1 : ¬ 9223372036854775807 < 4 + X.length + 2 := by omega
  have m2 : ¬ 9223372036854775807 < 4 + X.length + 2 + Y.length := by omega
  have m3 : ¬ 9223372036854775807 < 4 + X.length + 2 + Y.length + 6 := by omega
  have m4 : ¬ 9223372036854775807 < 4 + X.length + 2 + Y.length + 6 + Z.length := by omega
  go_enter Tryz.func42, Tryz.ntmps42
  go_upto_region 7 with fail
  refine (show Code.wp _ _ _ _ (w.alloc (.cells #[.int .i64 31, .int .i64 n, .string ⟨s.toArray⟩, .slice (some ⟨g0, o0, none⟩) 3 cap] 39)) from ?_)
  rw [← HW.out]
  have hS0 := hS WB (Below.refl _ _)
  go_region_held3 (fun w' => Below WB.heap.size WB w' ∧ w'.cell? ⟨w.heap.size, 3, none⟩ = some (.slice (some ⟨g0, o0, none⟩) 3 cap) ∧ w'.cell? ⟨g0, o0, none⟩ = some (.int .i64 xop) ∧ w'.cell? ⟨g0, o0 + 1, none⟩ = some (.int .i64 xn) ∧ w'.cell? ⟨g0, o0 + 2, none⟩ = some (.string ⟨xs.toArray⟩) ∧ w'.cell? ⟨g0, o0 + 3, none⟩ = some (.slice xao xL xcap) ∧ w'.cell? ⟨g0, o0 + 4, none⟩ = some (.int .i64 yop) ∧ w'.cell? ⟨g0, o0 + 4 + 1, none⟩ = some (.int .i64 yn) ∧ w'.cell? ⟨g0, o0 + 4 + 2, none⟩ = some (.string ⟨ys.toArray⟩) ∧ w'.cell? ⟨g0, o0 + 4 + 3, none⟩ = some (.slice yao yL ycap) ∧ w'.cell? ⟨g0, o0 + 8, none⟩ = some (.int .i64 zop) ∧ w'.cell? ⟨g0, o0 + 8 + 1, none⟩ = some (.int .i64 zn) ∧ w'.cell? ⟨g0, o0 + 8 + 2, none⟩ = some (.string ⟨zs.toArray⟩) ∧ w'.cell? ⟨g0, o0 + 8 + 3, none⟩ = some (.slice zao zL zcap)) (first | exact hS _ (by assumption) | exact hS _ (below_drew1 (by first | assumption | exact Below.refl _ _))) (first | (go_at_call 14; with_reducible refine (cx _ ?_).mono ?_; (first | assumption | exact And.left (by assumption)); rintro e w2 ⟨rfl, hb2⟩) | (go_at_call 15; with_reducible refine (cy _ ?_).mono ?_; (first | assumption | exact And.left (by assumption)); rintro e w2 ⟨rfl, hb2⟩))
  all_goals
    obtain ⟨d00, d01, d0, d1, d2, d3, d4, d5, d6, d7, d8, d9, d10, d11⟩ := hS _ hb2
    go_wp2_with (go_at_call 15; with_reducible refine (cz _ d00).mono ?_; rintro e w2 ⟨rfl, hb2⟩)
    go_ret
    exact ⟨by simp [ba_pre, ba_append, ba_one], hbW.trans (hb2.mono hbW.size)⟩

set_option maxHeartbeats 4000000 in
set_option maxRecDepth 100000 in
theorem sWhile {t x y : Data} (hop : opOf t = 32) (hks : kidsOf t = [x, y]) (hx : STells 14 eT x) (hxb : ((eT x).length : Int) ≤ 100000000) (hy : STells 15 stT y) (hyb : ((stT y).length : Int) ≤ 100000000) (hsl : ((txtOf t).length : Int) ≤ 1048576) : STells 42 stT t := by
  intro w a b c u hA
  have hnd := tree_nodes hA
  have hT : stT t = [119, 104, 105, 108, 101, 32, 40] ++ eT x ++ [41, 32] ++ stT y := by
    rw [hnd, stT_nd, hop, hks]
    simp [stK, esT, stsT, txt_nd]
  rw [hT]
  obtain ⟨ao, cap, rfl, rfl, rfl, rfl, hK, -⟩ := arg_open hA
  rw [hks] at hK
  obtain ⟨g0, o0, x0, x1, x2, x3, hao0, hgl0, xc0, xc1, xc2, xc3, hax⟩ := args_at hK (show [x, y][0]? = some x from rfl)
  obtain ⟨g1, o1, y0, y1, y2, y3, hao1, hgl1, yc0, yc1, yc2, yc3, hay⟩ := args_at hK (show [x, y][1]? = some y from rfl)
  subst hao0
  simp only [Option.some.injEq, Addr.mk.injEq, and_true] at hao1
  obtain ⟨rfl, rfl⟩ := hao1
  simp only [Nat.zero_mul, Nat.add_zero, Nat.zero_add, Nat.one_mul] at xc0 xc1 xc2 xc3 yc0 yc1 yc2 yc3
  have hlen : (kidsOf t).length = 2 := by rw [hks]; rfl
  rw [hop, hlen]
  obtain ⟨WB, hWB⟩ : ∃ WB, WB = w.alloc (.cells #[.int .i64 32, .int .i64 (numOf t), .string ⟨(txtOf t).toArray⟩, .slice (some ⟨g0, o0, none⟩) 2 cap] 39) := ⟨_, rfl⟩
  have hbW : Below w.heap.size w WB := by rw [hWB]; exact (Below.refl _ w).alloc (Nat.le_refl _) _
  have hS : ∀ w', Below WB.heap.size WB w' → Below WB.heap.size WB w' ∧ w'.cell? ⟨w.heap.size, 3, none⟩ = some (.slice (some ⟨g0, o0, none⟩) 2 cap) ∧ w'.cell? ⟨g0, o0, none⟩ = some x0 ∧ w'.cell? ⟨g0, o0 + 1, none⟩ = some x1 ∧ w'.cell? ⟨g0, o0 + 2, none⟩ = some x2 ∧ w'.cell? ⟨g0, o0 + 3, none⟩ = some x3 ∧ w'.cell? ⟨g0, o0 + 4, none⟩ = some y0 ∧ w'.cell? ⟨g0, o0 + 4 + 1, none⟩ = some y1 ∧ w'.cell? ⟨g0, o0 + 4 + 2, none⟩ = some y2 ∧ w'.cell? ⟨g0, o0 + 4 + 3, none⟩ = some y3 := fun w' h => by
    have hV : Var WB w.heap.size (.int .i64 32) (.int .i64 (numOf t)) (.string ⟨(txtOf t).toArray⟩) (.slice (some ⟨g0, o0, none⟩) 2 cap) := by
      rw [hWB]
      exact heap_new _ _
    have hbw := hbW.trans (h.mono hbW.size)
    exact ⟨h, (hV.kept (h.block _ hV.lt)).cell.2.2.2, (hbw.cell (p := ⟨g0, o0, none⟩) hgl0).trans xc0, (hbw.cell (p := ⟨g0, o0 + 1, none⟩) hgl0).trans xc1, (hbw.cell (p := ⟨g0, o0 + 2, none⟩) hgl0).trans xc2, (hbw.cell (p := ⟨g0, o0 + 3, none⟩) hgl0).trans xc3, (hbw.cell (p := ⟨g0, o0 + 4, none⟩) hgl0).trans yc0, (hbw.cell (p := ⟨g0, o0 + 4 + 1, none⟩) hgl0).trans yc1, (hbw.cell (p := ⟨g0, o0 + 4 + 2, none⟩) hgl0).trans yc2, (hbw.cell (p := ⟨g0, o0 + 4 + 3, none⟩) hgl0).trans yc3⟩
  have cx : ∀ w', Below WB.heap.size WB w' → Calls Tryz.prog 14 #[.agg #[x0, x1, x2, x3]] w' fun e w'' => e = .returned (.string ⟨(eT x).toArray⟩) ∧ Below WB.heap.size WB w'' := fun w' h => by
    refine (hx w' _ _ _ _ (arg_frame (hbW.trans (h.mono hbW.size)) _ _ hax)).mono ?_
    rintro e w'' ⟨rfl, hb3⟩
    exact ⟨rfl, h.trans (hb3.mono h.size)⟩
  have cy : ∀ w', Below WB.heap.size WB w' → Calls Tryz.prog 15 #[.agg #[y0, y1, y2, y3]] w' fun e w'' => e = .returned (.string ⟨(stT y).toArray⟩) ∧ Below WB.heap.size WB w'' := fun w' h => by
    refine (hy w' _ _ _ _ (arg_frame (hbW.trans (h.mono hbW.size)) _ _ hay)).mono ?_
    rintro e w'' ⟨rfl, hb3⟩
    exact ⟨rfl, h.trans (hb3.mono h.size)⟩
  obtain ⟨xao, xcap, rfl, rfl, rfl, rfl, -, -⟩ := arg_open hax
  obtain ⟨yao, ycap, rfl, rfl, rfl, rfl, -, -⟩ := arg_open hay
  have HW : Hid (WB = w.alloc (.cells #[.int .i64 32, .int .i64 (numOf t), .string ⟨(txtOf t).toArray⟩, .slice (some ⟨g0, o0, none⟩) 2 cap] 39)) := hWB
  clear hA hnd hT hK hks hax hx xc0 xc1 xc2 xc3 hay hy yc0 yc1 yc2 yc3 hgl0 hgl1 hlen hWB hop
  generalize numOf t = n at *
  generalize txtOf t = s at *
  generalize eT x = X at *
  generalize opOf x = xop at *
  generalize numOf x = xn at *
  generalize txtOf x = xs at *
  generalize (kidsOf x).length = xL at *
  generalize stT y = Y at *
  generalize opOf y = yop at *
  generalize numOf y = yn at *
  generalize txtOf y = ys at *
  generalize (kidsOf y).length = yL at *
  have m0 : ¬ 9223372036854775807 < 7 + X.length := by omega
  have m1 : ¬ 9223372036854775807 < 7 + X.length + 2 := by omega
  have m2 : ¬ 9223372036854775807 < 7 + X.length + 2 + Y.length := by omega
  go_enter Tryz.func42, Tryz.ntmps42
  go_upto_region 12 with fail
  refine (show Code.wp _ _ _ _ (w.alloc (.cells #[.int .i64 32, .int .i64 n, .string ⟨s.toArray⟩, .slice (some ⟨g0, o0, none⟩) 2 cap] 39)) from ?_)
  rw [← HW.out]
  have hS0 := hS WB (Below.refl _ _)
  go_region_held3 (fun w' => Below WB.heap.size WB w' ∧ w'.cell? ⟨w.heap.size, 3, none⟩ = some (.slice (some ⟨g0, o0, none⟩) 2 cap) ∧ w'.cell? ⟨g0, o0, none⟩ = some (.int .i64 xop) ∧ w'.cell? ⟨g0, o0 + 1, none⟩ = some (.int .i64 xn) ∧ w'.cell? ⟨g0, o0 + 2, none⟩ = some (.string ⟨xs.toArray⟩) ∧ w'.cell? ⟨g0, o0 + 3, none⟩ = some (.slice xao xL xcap) ∧ w'.cell? ⟨g0, o0 + 4, none⟩ = some (.int .i64 yop) ∧ w'.cell? ⟨g0, o0 + 4 + 1, none⟩ = some (.int .i64 yn) ∧ w'.cell? ⟨g0, o0 + 4 + 2, none⟩ = some (.string ⟨ys.toArray⟩) ∧ w'.cell? ⟨g0, o0 + 4 + 3, none⟩ = some (.slice yao yL ycap)) (first | exact hS _ (by assumption) | exact hS _ (below_drew1 (by first | assumption | exact Below.refl _ _))) (first | (go_at_call 14; with_reducible refine (cx _ ?_).mono ?_; (first | assumption | exact And.left (by assumption)); rintro e w2 ⟨rfl, hb2⟩) | (go_at_call 15; with_reducible refine (cy _ ?_).mono ?_; (first | assumption | exact And.left (by assumption)); rintro e w2 ⟨rfl, hb2⟩))
  all_goals
    go_wp2_with fail
    go_ret
    exact ⟨by simp [ba_pre, ba_append, ba_one], hbW.trans (hb2.mono hbW.size)⟩

set_option maxHeartbeats 4000000 in
set_option maxRecDepth 100000 in
theorem sDrop {t x : Data} (hop : opOf t = 34) (hks : kidsOf t = [x]) (hx : STells 14 eT x) (hxb : ((eT x).length : Int) ≤ 100000000) (hsl : ((txtOf t).length : Int) ≤ 1048576) : STells 42 stT t := by
  intro w a b c u hA
  have hnd := tree_nodes hA
  have hT : stT t = [100, 101, 108, 101, 116, 101, 32] ++ (txtOf t ++ [91] ++ eT x ++ [93]) ++ [59] := by
    rw [hnd, stT_nd, hop, hks]
    simp [stK, esT, stsT, txt_nd]
  rw [hT]
  obtain ⟨ao, cap, rfl, rfl, rfl, rfl, hK, -⟩ := arg_open hA
  rw [hks] at hK
  obtain ⟨g0, o0, x0, x1, x2, x3, hao0, hgl0, xc0, xc1, xc2, xc3, hax⟩ := args_at hK (show [x][0]? = some x from rfl)
  subst hao0
  simp only [Nat.zero_mul, Nat.add_zero] at xc0 xc1 xc2 xc3
  have hlen : (kidsOf t).length = 1 := by rw [hks]; rfl
  rw [hop, hlen]
  obtain ⟨WB, hWB⟩ : ∃ WB, WB = w.alloc (.cells #[.int .i64 34, .int .i64 (numOf t), .string ⟨(txtOf t).toArray⟩, .slice (some ⟨g0, o0, none⟩) 1 cap] 39) := ⟨_, rfl⟩
  have hbW : Below w.heap.size w WB := by rw [hWB]; exact (Below.refl _ w).alloc (Nat.le_refl _) _
  have hS : ∀ w', Below WB.heap.size WB w' → Below WB.heap.size WB w' ∧ w'.cell? ⟨w.heap.size, 3, none⟩ = some (.slice (some ⟨g0, o0, none⟩) 1 cap) ∧ w'.cell? ⟨w.heap.size, 2, none⟩ = some (.string ⟨(txtOf t).toArray⟩) ∧ w'.cell? ⟨g0, o0, none⟩ = some x0 ∧ w'.cell? ⟨g0, o0 + 1, none⟩ = some x1 ∧ w'.cell? ⟨g0, o0 + 2, none⟩ = some x2 ∧ w'.cell? ⟨g0, o0 + 3, none⟩ = some x3 := fun w' h => by
    have hV : Var WB w.heap.size (.int .i64 34) (.int .i64 (numOf t)) (.string ⟨(txtOf t).toArray⟩) (.slice (some ⟨g0, o0, none⟩) 1 cap) := by
      rw [hWB]
      exact heap_new _ _
    have hbw := hbW.trans (h.mono hbW.size)
    exact ⟨h, (hV.kept (h.block _ hV.lt)).cell.2.2.2, (hV.kept (h.block _ hV.lt)).cell.2.2.1, (hbw.cell (p := ⟨g0, o0, none⟩) hgl0).trans xc0, (hbw.cell (p := ⟨g0, o0 + 1, none⟩) hgl0).trans xc1, (hbw.cell (p := ⟨g0, o0 + 2, none⟩) hgl0).trans xc2, (hbw.cell (p := ⟨g0, o0 + 3, none⟩) hgl0).trans xc3⟩
  have cx : ∀ w', Below WB.heap.size WB w' → Calls Tryz.prog 14 #[.agg #[x0, x1, x2, x3]] w' fun e w'' => e = .returned (.string ⟨(eT x).toArray⟩) ∧ Below WB.heap.size WB w'' := fun w' h => by
    refine (hx w' _ _ _ _ (arg_frame (hbW.trans (h.mono hbW.size)) _ _ hax)).mono ?_
    rintro e w'' ⟨rfl, hb3⟩
    exact ⟨rfl, h.trans (hb3.mono h.size)⟩
  obtain ⟨xao, xcap, rfl, rfl, rfl, rfl, -, -⟩ := arg_open hax
  have HW : Hid (WB = w.alloc (.cells #[.int .i64 34, .int .i64 (numOf t), .string ⟨(txtOf t).toArray⟩, .slice (some ⟨g0, o0, none⟩) 1 cap] 39)) := hWB
  clear hA hnd hT hK hks hax hx xc0 xc1 xc2 xc3 hgl0 hlen hWB hop
  generalize numOf t = n at *
  generalize txtOf t = s at *
  generalize eT x = X at *
  generalize opOf x = xop at *
  generalize numOf x = xn at *
  generalize txtOf x = xs at *
  generalize (kidsOf x).length = xL at *
  have m0 : ¬ 9223372036854775807 < 7 + s.length := by omega
  have m1 : ¬ 9223372036854775807 < 7 + s.length + 1 := by omega
  have m2 : ¬ 9223372036854775807 < 7 + s.length + 1 + X.length := by omega
  have m3 : ¬ 9223372036854775807 < 7 + s.length + 1 + X.length + 2 := by omega
  go_enter Tryz.func42, Tryz.ntmps42
  go_upto_region 16 with fail
  refine (show Code.wp _ _ _ _ (w.alloc (.cells #[.int .i64 34, .int .i64 n, .string ⟨s.toArray⟩, .slice (some ⟨g0, o0, none⟩) 1 cap] 39)) from ?_)
  rw [← HW.out]
  have hS0 := hS WB (Below.refl _ _)
  go_region_held3 (fun w' => Below WB.heap.size WB w' ∧ w'.cell? ⟨w.heap.size, 3, none⟩ = some (.slice (some ⟨g0, o0, none⟩) 1 cap) ∧ w'.cell? ⟨w.heap.size, 2, none⟩ = some (.string ⟨s.toArray⟩) ∧ w'.cell? ⟨g0, o0, none⟩ = some (.int .i64 xop) ∧ w'.cell? ⟨g0, o0 + 1, none⟩ = some (.int .i64 xn) ∧ w'.cell? ⟨g0, o0 + 2, none⟩ = some (.string ⟨xs.toArray⟩) ∧ w'.cell? ⟨g0, o0 + 3, none⟩ = some (.slice xao xL xcap)) (first | exact hS _ (by assumption) | exact hS _ (below_drew1 (by first | assumption | exact Below.refl _ _))) (first | (go_at_call 14; with_reducible refine (cx _ ?_).mono ?_; (first | assumption | exact And.left (by assumption)); rintro e w2 ⟨rfl, hb2⟩))
  all_goals
    go_wp2_with fail
    go_ret
    exact ⟨by simp [ba_pre, ba_append, ba_one], hbW.trans (hb2.mono hbW.size)⟩

end Ty
end Go.Proofs.YtjdohfdkkppnpaaGreatDoor

