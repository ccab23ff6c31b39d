/-
  What is written of branches: writeBranch.
-/
import Derived.Test.YtjdohfdkkppnpaaGreatDoorQ38
namespace Go.Proofs.YtjdohfdkkppnpaaGreatDoor
open Go.RowKit
namespace Ty
open Nd
set_option linter.unusedSimpArgs false
set_option linter.unusedVariables false

set_option maxHeartbeats 2000000 in
set_option maxRecDepth 100000 in
theorem iBranchIf {W0 : World} {t x y : Data} (hop : opOf t = 31) (hks : kidsOf t = [x, y]) (hx : WOk W0 45 eT eT x) (hy : WOk W0 46 stT stT y) : WOk W0 111 stT stT t := by
  intro p L w a b c u hA hb hO room
  have hnd := tree_nodes hA
  have hT : stT t = [105, 102, 32, 40] ++ eT x ++ [41, 32] ++ stT y := by
    rw [hnd, stT_nd, hop, hks]
    simp [stK, esT, stsT]
  rw [hT] at room ⊢
  obtain ⟨ao, cap, rfl, rfl, rfl, rfl, hK, -⟩ := arg_open hA
  rw [hks] at hK
  obtain ⟨g0, o0, x0, x1, x2, x3, hao0, hgl0, xc0, xc1, xc2, xc3, hax⟩ := args_at hK (show [x, y][0]? = some x from rfl)
  obtain ⟨g1, o1, y0, y1, y2, y3, hao1, hgl1, yc0, yc1, yc2, yc3, hay⟩ := args_at hK (show [x, y][1]? = some y from rfl)
  subst hao0
  simp only [Option.some.injEq, Addr.mk.injEq, and_true] at hao1
  obtain ⟨rfl, rfl⟩ := hao1
  simp only [Nat.zero_mul, Nat.add_zero, Nat.zero_add, Nat.one_mul, Nat.reduceMul] at xc0 xc1 xc2 xc3 yc0 yc1 yc2 yc3
  have hcl : ∀ w', Below W0.heap.size W0 w' → w'.cell? ⟨g0, o0, none⟩ = some x0 ∧ w'.cell? ⟨g0, o0 + 1, none⟩ = some x1 ∧ w'.cell? ⟨g0, o0 + 2, none⟩ = some x2 ∧ w'.cell? ⟨g0, o0 + 3, none⟩ = some x3 ∧ w'.cell? ⟨g0, o0 + 4, none⟩ = some y0 ∧ w'.cell? ⟨g0, o0 + 4 + 1, none⟩ = some y1 ∧ w'.cell? ⟨g0, o0 + 4 + 2, none⟩ = some y2 ∧ w'.cell? ⟨g0, o0 + 4 + 3, none⟩ = some y3 := fun w' h => ⟨(h.cell (p := ⟨g0, o0, none⟩) hgl0).trans xc0, (h.cell (p := ⟨g0, o0 + 1, none⟩) hgl0).trans xc1, (h.cell (p := ⟨g0, o0 + 2, none⟩) hgl0).trans xc2, (h.cell (p := ⟨g0, o0 + 3, none⟩) hgl0).trans xc3, (h.cell (p := ⟨g0, o0 + 4, none⟩) hgl0).trans yc0, (h.cell (p := ⟨g0, o0 + 4 + 1, none⟩) hgl0).trans yc1, (h.cell (p := ⟨g0, o0 + 4 + 2, none⟩) hgl0).trans yc2, (h.cell (p := ⟨g0, o0 + 4 + 3, none⟩) hgl0).trans yc3⟩
  have cx := fun L w' => hx p L w' _ _ _ _ hax
  have cy := fun L w' => hy p L w' _ _ _ _ hay
  obtain ⟨xao, xcap, rfl, rfl, rfl, rfl, -, -⟩ := arg_open hax
  obtain ⟨yao, ycap, rfl, rfl, rfl, rfl, -, -⟩ := arg_open hay
  have hlen : (kidsOf t).length = 2 := by rw [hks]; rfl
  rw [hop, hlen]
  have hk := fun oo ho => wk_new (a := .int .i64 31) (b := .int .i64 (numOf t)) (c := .string ⟨(txtOf t).toArray⟩) (u := .slice (some ⟨g0, o0, none⟩) 2 cap) hb hO oo ho
  have RM : Hid (L.length + ([105, 102, 32, 40] ++ eT x ++ [41, 32] ++ stT y).length ≤ 1099511627776) := room
  clear hA hK hks hT hnd hop hlen room hax hx xc0 xc1 xc2 xc3 hay hy yc0 yc1 yc2 yc3 hgl0 hgl1
  generalize numOf t = n at *
  generalize txtOf t = s at *
  generalize eT x = X at *
  generalize opOf x = xop at *
  generalize numOf x = xn at *
  generalize txtOf x = xs at *
  generalize (kidsOf x).length = xL at *
  generalize stT y = Y at *
  generalize opOf y = yop at *
  generalize numOf y = yn at *
  generalize txtOf y = ys at *
  generalize (kidsOf y).length = yL at *
  go_enter Tryz.func111, Tryz.ntmps111
  have hk := hk _ rfl
  obtain ⟨d0, d1, d2, d3, d4, d5, d6, d7⟩ := hcl _ hk.bel
  go_wp2_with (first
    | (refine put_step hk rfl _ _ _ rfl rfl _ rfl (by have := RM.out; simp only [List.length_append, List.length_cons, List.length_nil] at this ⊢; omega) ?_; intro w2 hk; obtain ⟨y0, y1, y2, y3⟩ := hk.var.cell; obtain ⟨d0, d1, d2, d3, d4, d5, d6, d7⟩ := hcl _ hk.bel)
    | (go_at_call 46; with_reducible refine (cy _ _ hk.bel hk.out ?_).mono ?_; (have := RM.out; simp only [List.length_append, List.length_cons, List.length_nil] at this ⊢; omega); rintro e w2 ⟨rfl, hO2, hC2⟩; have hk := hk.step hO2 hC2; obtain ⟨y0, y1, y2, y3⟩ := hk.var.cell; obtain ⟨d0, d1, d2, d3, d4, d5, d6, d7⟩ := hcl _ hk.bel)
    | (go_at_call 45; refine (cx _ _ hk.bel hk.out ?_).mono ?_; (have := RM.out; simp only [List.length_append, List.length_cons, List.length_nil] at this ⊢; omega); rintro e w2 ⟨rfl, hO2, hC2⟩; have hk := hk.step hO2 hC2; obtain ⟨y0, y1, y2, y3⟩ := hk.var.cell; obtain ⟨d0, d1, d2, d3, d4, d5, d6, d7⟩ := hcl _ hk.bel))
  refine bodyPost_end (v := .tuple #[]) ?_ rfl ⟨rfl, ?_, hk.ch⟩
  · simp [results, Tryz.results111]
  · simpa [List.append_assoc] using hk.out

set_option maxHeartbeats 2000000 in
set_option maxRecDepth 100000 in
theorem iBranchElse {W0 : World} {t x y z : Data} (hop : opOf t = 31) (hks : kidsOf t = [x, y, z]) (hx : WOk W0 45 eT eT x) (hy : WOk W0 46 stT stT y) (hz : WOk W0 46 stT stT z) : WOk W0 111 stT stT t := by
  intro p L w a b c u hA hb hO room
  have hnd := tree_nodes hA
  have hT : stT t = [105, 102, 32, 40] ++ eT x ++ [41, 32] ++ stT y ++ ([32, 101, 108, 115, 101, 32] ++ stT z) := by
    rw [hnd, stT_nd, hop, hks]
    simp [stK, esT, stsT]
  rw [hT] at room ⊢
  obtain ⟨ao, cap, rfl, rfl, rfl, rfl, hK, -⟩ := arg_open hA
  rw [hks] at hK
  obtain ⟨g0, o0, x0, x1, x2, x3, hao0, hgl0, xc0, xc1, xc2, xc3, hax⟩ := args_at hK (show [x, y, z][0]? = some x from rfl)
  obtain ⟨g1, o1, y0, y1, y2, y3, hao1, hgl1, yc0, yc1, yc2, yc3, hay⟩ := args_at hK (show [x, y, z][1]? = some y from rfl)
  obtain ⟨g2, o2, z0, z1, z2, z3, hao2, hgl2, zc0, zc1, zc2, zc3, haz⟩ := args_at hK (show [x, y, z][2]? = some z from rfl)
  subst hao0
  simp only [Option.some.injEq, Addr.mk.injEq, and_true] at hao1
  obtain ⟨rfl, rfl⟩ := hao1
  simp only [Option.some.injEq, Addr.mk.injEq, and_true] at hao2
  obtain ⟨rfl, rfl⟩ := hao2
  simp only [Nat.zero_mul, Nat.add_zero, Nat.zero_add, Nat.one_mul, Nat.reduceMul] at xc0 xc1 xc2 xc3 yc0 yc1 yc2 yc3 zc0 zc1 zc2 zc3
  have hcl : ∀ w', Below W0.heap.size W0 w' → w'.cell? ⟨g0, o0, none⟩ = some x0 ∧ w'.cell? ⟨g0, o0 + 1, none⟩ = some x1 ∧ w'.cell? ⟨g0, o0 + 2, none⟩ = some x2 ∧ w'.cell? ⟨g0, o0 + 3, none⟩ = some x3 ∧ w'.cell? ⟨g0, o0 + 4, none⟩ = some y0 ∧ w'.cell? ⟨g0, o0 + 4 + 1, none⟩ = some y1 ∧ w'.cell? ⟨g0, o0 + 4 + 2, none⟩ = some y2 ∧ w'.cell? ⟨g0, o0 + 4 + 3, none⟩ = some y3 ∧ w'.cell? ⟨g0, o0 + 8, none⟩ = some z0 ∧ w'.cell? ⟨g0, o0 + 8 + 1, none⟩ = some z1 ∧ w'.cell? ⟨g0, o0 + 8 + 2, none⟩ = some z2 ∧ w'.cell? ⟨g0, o0 + 8 + 3, none⟩ = some z3 := fun w' h => ⟨(h.cell (p := ⟨g0, o0, none⟩) hgl0).trans xc0, (h.cell (p := ⟨g0, o0 + 1, none⟩) hgl0).trans xc1, (h.cell (p := ⟨g0, o0 + 2, none⟩) hgl0).trans xc2, (h.cell (p := ⟨g0, o0 + 3, none⟩) hgl0).trans xc3, (h.cell (p := ⟨g0, o0 + 4, none⟩) hgl0).trans yc0, (h.cell (p := ⟨g0, o0 + 4 + 1, none⟩) hgl0).trans yc1, (h.cell (p := ⟨g0, o0 + 4 + 2, none⟩) hgl0).trans yc2, (h.cell (p := ⟨g0, o0 + 4 + 3, none⟩) hgl0).trans yc3, (h.cell (p := ⟨g0, o0 + 8, none⟩) hgl0).trans zc0, (h.cell (p := ⟨g0, o0 + 8 + 1, none⟩) hgl0).trans zc1, (h.cell (p := ⟨g0, o0 + 8 + 2, none⟩) hgl0).trans zc2, (h.cell (p := ⟨g0, o0 + 8 + 3, none⟩) hgl0).trans zc3⟩
  have cx := fun L w' => hx p L w' _ _ _ _ hax
  have cy := fun L w' => hy p L w' _ _ _ _ hay
  have cz := fun L w' => hz p L w' _ _ _ _ haz
  obtain ⟨xao, xcap, rfl, rfl, rfl, rfl, -, -⟩ := arg_open hax
  obtain ⟨yao, ycap, rfl, rfl, rfl, rfl, -, -⟩ := arg_open hay
  obtain ⟨zao, zcap, rfl, rfl, rfl, rfl, -, -⟩ := arg_open haz
  have hlen : (kidsOf t).length = 3 := by rw [hks]; rfl
  rw [hop, hlen]
  have hk := fun oo ho => wk_new (a := .int .i64 31) (b := .int .i64 (numOf t)) (c := .string ⟨(txtOf t).toArray⟩) (u := .slice (some ⟨g0, o0, none⟩) 3 cap) hb hO oo ho
  have RM : Hid (L.length + ([105, 102, 32, 40] ++ eT x ++ [41, 32] ++ stT y ++ ([32, 101, 108, 115, 101, 32] ++ stT z)).length ≤ 1099511627776) := room
  clear hA hK hks hT hnd hop hlen room hax hx xc0 xc1 xc2 xc3 hay hy yc0 yc1 yc2 yc3 haz hz zc0 zc1 zc2 zc3 hgl0 hgl1 hgl2
  generalize numOf t = n at *
  generalize txtOf t = s at *
  generalize eT x = X at *
  generalize opOf x = xop at *
  generalize numOf x = xn at *
  generalize txtOf x = xs at *
  generalize (kidsOf x).length = xL at *
  generalize stT y = Y at *
  generalize opOf y = yop at *
  generalize numOf y = yn at *
  generalize txtOf y = ys at *
  generalize (kidsOf y).length = yL at *
  generalize stT z = Z at *
  generalize opOf z = zop at *
  generalize numOf z = zn at *
  generalize txtOf z = zs at *
  generalize (kidsOf z).length = zL at *
  go_enter Tryz.func111, Tryz.ntmps111
  have hk := hk _ rfl
  obtain ⟨d0, d1, d2, d3, d4, d5, d6, d7, d8, d9, d10, d11⟩ := hcl _ hk.bel
  go_wp2_with (first
    | (refine put_step hk rfl _ _ _ rfl rfl _ rfl (by have := RM.out; simp only [List.length_append, List.length_cons, List.length_nil] at this ⊢; omega) ?_; intro w2 hk; obtain ⟨y0, y1, y2, y3⟩ := hk.var.cell; obtain ⟨d0, d1, d2, d3, d4, d5, d6, d7, d8, d9, d10, d11⟩ := hcl _ hk.bel)
    | (go_at_call 46; with_reducible refine (cz _ _ hk.bel hk.out ?_).mono ?_; (have := RM.out; simp only [List.length_append, List.length_cons, List.length_nil] at this ⊢; omega); rintro e w2 ⟨rfl, hO2, hC2⟩; have hk := hk.step hO2 hC2; obtain ⟨y0, y1, y2, y3⟩ := hk.var.cell; obtain ⟨d0, d1, d2, d3, d4, d5, d6, d7, d8, d9, d10, d11⟩ := hcl _ hk.bel)
    | (go_at_call 46; with_reducible refine (cy _ _ hk.bel hk.out ?_).mono ?_; (have := RM.out; simp only [List.length_append, List.length_cons, List.length_nil] at this ⊢; omega); rintro e w2 ⟨rfl, hO2, hC2⟩; have hk := hk.step hO2 hC2; obtain ⟨y0, y1, y2, y3⟩ := hk.var.cell; obtain ⟨d0, d1, d2, d3, d4, d5, d6, d7, d8, d9, d10, d11⟩ := hcl _ hk.bel)
    | (go_at_call 45; refine (cx _ _ hk.bel hk.out ?_).mono ?_; (have := RM.out; simp only [List.length_append, List.length_cons, List.length_nil] at this ⊢; omega); rintro e w2 ⟨rfl, hO2, hC2⟩; have hk := hk.step hO2 hC2; obtain ⟨y0, y1, y2, y3⟩ := hk.var.cell; obtain ⟨d0, d1, d2, d3, d4, d5, d6, d7, d8, d9, d10, d11⟩ := hcl _ hk.bel))
  refine bodyPost_end (v := .tuple #[]) ?_ rfl ⟨rfl, ?_, hk.ch⟩
  · simp [results, Tryz.results111]
  · simpa [List.append_assoc] using hk.out

set_option maxHeartbeats 2000000 in
set_option maxRecDepth 100000 in
theorem iBranchWhile {W0 : World} {t x y : Data} (hop : opOf t = 32) (hks : kidsOf t = [x, y]) (hx : WOk W0 45 eT eT x) (hy : WOk W0 46 stT stT y) : WOk W0 111 stT stT t := by
  intro p L w a b c u hA hb hO room
  have hnd := tree_nodes hA
  have hT : stT t = [119, 104, 105, 108, 101, 32, 40] ++ eT x ++ [41, 32] ++ stT y := by
    rw [hnd, stT_nd, hop, hks]
    simp [stK, esT, stsT]
  rw [hT] at room ⊢
  obtain ⟨ao, cap, rfl, rfl, rfl, rfl, hK, -⟩ := arg_open hA
  rw [hks] at hK
  obtain ⟨g0, o0, x0, x1, x2, x3, hao0, hgl0, xc0, xc1, xc2, xc3, hax⟩ := args_at hK (show [x, y][0]? = some x from rfl)
  obtain ⟨g1, o1, y0, y1, y2, y3, hao1, hgl1, yc0, yc1, yc2, yc3, hay⟩ := args_at hK (show [x, y][1]? = some y from rfl)
  subst hao0
  simp only [Option.some.injEq, Addr.mk.injEq, and_true] at hao1
  obtain ⟨rfl, rfl⟩ := hao1
  simp only [Nat.zero_mul, Nat.add_zero, Nat.zero_add, Nat.one_mul, Nat.reduceMul] at xc0 xc1 xc2 xc3 yc0 yc1 yc2 yc3
  have hcl : ∀ w', Below W0.heap.size W0 w' → w'.cell? ⟨g0, o0, none⟩ = some x0 ∧ w'.cell? ⟨g0, o0 + 1, none⟩ = some x1 ∧ w'.cell? ⟨g0, o0 + 2, none⟩ = some x2 ∧ w'.cell? ⟨g0, o0 + 3, none⟩ = some x3 ∧ w'.cell? ⟨g0, o0 + 4, none⟩ = some y0 ∧ w'.cell? ⟨g0, o0 + 4 + 1, none⟩ = some y1 ∧ w'.cell? ⟨g0, o0 + 4 + 2, none⟩ = some y2 ∧ w'.cell? ⟨g0, o0 + 4 + 3, none⟩ = some y3 := fun w' h => ⟨(h.cell (p := ⟨g0, o0, none⟩) hgl0).trans xc0, (h.cell (p := ⟨g0, o0 + 1, none⟩) hgl0).trans xc1, (h.cell (p := ⟨g0, o0 + 2, none⟩) hgl0).trans xc2, (h.cell (p := ⟨g0, o0 + 3, none⟩) hgl0).trans xc3, (h.cell (p := ⟨g0, o0 + 4, none⟩) hgl0).trans yc0, (h.cell (p := ⟨g0, o0 + 4 + 1, none⟩) hgl0).trans yc1, (h.cell (p := ⟨g0, o0 + 4 + 2, none⟩) hgl0).trans yc2, (h.cell (p := ⟨g0, o0 + 4 + 3, none⟩) hgl0).trans yc3⟩
  have cx := fun L w' => hx p L w' _ _ _ _ hax
  have cy := fun L w' => hy p L w' _ _ _ _ hay
  obtain ⟨xao, xcap, rfl, rfl, rfl, rfl, -, -⟩ := arg_open hax
  obtain ⟨yao, ycap, rfl, rfl, rfl, rfl, -, -⟩ := arg_open hay
  have hlen : (kidsOf t).length = 2 := by rw [hks]; rfl
  rw [hop, hlen]
  have hk := fun oo ho => wk_new (a := .int .i64 32) (b := .int .i64 (numOf t)) (c := .string ⟨(txtOf t).toArray⟩) (u := .slice (some ⟨g0, o0, none⟩) 2 cap) hb hO oo ho
  have RM : Hid (L.length + ([119, 104, 105, 108, 101, 32, 40] ++ eT x ++ [41, 32] ++ stT y).length ≤ 1099511627776) := room
  clear hA hK hks hT hnd hop hlen room hax hx xc0 xc1 xc2 xc3 hay hy yc0 yc1 yc2 yc3 hgl0 hgl1
  generalize numOf t = n at *
  generalize txtOf t = s at *
  generalize eT x = X at *
  generalize opOf x = xop at *
  generalize numOf x = xn at *
  generalize txtOf x = xs at *
  generalize (kidsOf x).length = xL at *
  generalize stT y = Y at *
  generalize opOf y = yop at *
  generalize numOf y = yn at *
  generalize txtOf y = ys at *
  generalize (kidsOf y).length = yL at *
  go_enter Tryz.func111, Tryz.ntmps111
  have hk := hk _ rfl
  obtain ⟨d0, d1, d2, d3, d4, d5, d6, d7⟩ := hcl _ hk.bel
  go_wp2_with (first
    | (refine put_step hk rfl _ _ _ rfl rfl _ rfl (by have := RM.out; simp only [List.length_append, List.length_cons, List.length_nil] at this ⊢; omega) ?_; intro w2 hk; obtain ⟨y0, y1, y2, y3⟩ := hk.var.cell; obtain ⟨d0, d1, d2, d3, d4, d5, d6, d7⟩ := hcl _ hk.bel)
    | (go_at_call 46; with_reducible refine (cy _ _ hk.bel hk.out ?_).mono ?_; (have := RM.out; simp only [List.length_append, List.length_cons, List.length_nil] at this ⊢; omega); rintro e w2 ⟨rfl, hO2, hC2⟩; have hk := hk.step hO2 hC2; obtain ⟨y0, y1, y2, y3⟩ := hk.var.cell; obtain ⟨d0, d1, d2, d3, d4, d5, d6, d7⟩ := hcl _ hk.bel)
    | (go_at_call 45; refine (cx _ _ hk.bel hk.out ?_).mono ?_; (have := RM.out; simp only [List.length_append, List.length_cons, List.length_nil] at this ⊢; omega); rintro e w2 ⟨rfl, hO2, hC2⟩; have hk := hk.step hO2 hC2; obtain ⟨y0, y1, y2, y3⟩ := hk.var.cell; obtain ⟨d0, d1, d2, d3, d4, d5, d6, d7⟩ := hcl _ hk.bel))
  refine bodyPost_end (v := .tuple #[]) ?_ rfl ⟨rfl, ?_, hk.ch⟩
  · simp [results, Tryz.results111]
  · simpa [List.append_assoc] using hk.out

end Ty
end Go.Proofs.YtjdohfdkkppnpaaGreatDoor

