/-
  The specification's l9E at an op with two kids.
-/
import Derived.Test.YtjdohfdkkppnpaaGreatDoorQ33
import Derived.Test.YtjdohfdkkppnpaaGreatDoorQ34
import Derived.Deep.RegionHeld3
namespace Go.Proofs.YtjdohfdkkppnpaaGreatDoor
open Go.RowKit
namespace Ty
open Nd
set_option linter.unusedSimpArgs false
set_option linter.unusedVariables false

theorem below_drew1 {B : Nat} {W w : World} (h : Below B W w) : Below B W w.drew := Below.drew h
def sgnS : List (List UInt8) := [[32, 43, 32], [32, 45, 32], [32, 42, 32], [32, 47, 32], [32, 37, 32], [32], [32, 60, 32], [32, 60, 61, 32], [32, 62, 32], [32, 62, 61, 32], [32, 61, 61, 32], [32, 33, 61, 32], [32, 126, 32]]

set_option maxHeartbeats 8000000 in
set_option maxRecDepth 100000 in
theorem sE2 {t x y : Data} (hop : (9 ≤ opOf t ∧ opOf t ≤ 21) ∨ opOf t = 24 ∨ opOf t = 25 ∨ opOf t = 26 ∨ opOf t = 27) (hks : kidsOf t = [x, y]) (hx : STells 14 eT x) (hy : STells 14 eT y) (hxb : ((eT x).length : Int) ≤ 100000000) (hyb : ((eT y).length : Int) ≤ 100000000) : STells 14 eT t := by
  intro w a b c u hA
  have hnd := tree_nodes hA
  have hT : eT t = [40] ++ (eT x ++ midL (opOf t) ++ eT y) ++ [41] := by
    rw [hnd, eT_nd, hks]
    unfold eK
    rw [if_neg (by omega)]; rw [if_neg (by omega)]; rw [if_neg (by omega)]; rw [if_neg (by omega)]; rw [if_neg (by omega)]; rw [if_neg (by omega)]; rw [if_neg (by omega)]; rw [if_neg (by omega)]; rw [if_neg (by omega)]; rw [if_neg (by omega)]; rfl
  rw [hT]
  obtain ⟨ao, cap, rfl, rfl, rfl, rfl, hK, -⟩ := arg_open hA
  rw [hks] at hK
  obtain ⟨g, o, x0, x1, x2, x3, hao, hgl, c0, c1, c2, c3, hax⟩ := args_at hK (show [x, y][0]? = some x from rfl)
  obtain ⟨g', o', z0, z1, z2, z3, hao', hgl', e0, e1, e2, e3, hay⟩ := args_at hK (show [x, y][1]? = some y from rfl)
  subst hao
  simp only [Option.some.injEq, Addr.mk.injEq, and_true] at hao'
  obtain ⟨rfl, rfl⟩ := hao'
  simp only [Nat.zero_mul, Nat.add_zero, Nat.zero_add, Nat.one_mul] at c0 c1 c2 c3 e0 e1 e2 e3
  have hlen : (kidsOf t).length = 2 := by rw [hks]; rfl
  rw [hlen]
  have hb1 : ∀ o, Below w.heap.size w (w.alloc o) := fun o => (Below.refl _ w).alloc (Nat.le_refl _) _
  have hb2 : ∀ o o', Below w.heap.size w ((w.alloc o).alloc o') := fun o o' => (hb1 o).alloc (by simp) _
  obtain ⟨WB, hWB⟩ : ∃ WB, WB = (w.alloc (.cells #[.int .i64 (opOf t), .int .i64 (numOf t), .string ⟨(txtOf t).toArray⟩, .slice (some ⟨g, o, none⟩) 2 cap] 39)).alloc (.cells (sgnS.map strV).toArray 9) := ⟨_, rfl⟩
  have hbW : Below w.heap.size w WB := by rw [hWB]; exact hb2 _ _
  have hS : ∀ w', Below WB.heap.size WB w' → Below WB.heap.size WB w' ∧ w'.cell? ⟨w.heap.size, 3, none⟩ = some (.slice (some ⟨g, o, none⟩) 2 cap) ∧ w'.cell? ⟨g, o, none⟩ = some x0 ∧ w'.cell? ⟨g, o + 1, none⟩ = some x1 ∧ w'.cell? ⟨g, o + 2, none⟩ = some x2 ∧ w'.cell? ⟨g, o + 3, none⟩ = some x3 ∧ w'.cell? ⟨g, o + 4, none⟩ = some z0 ∧ w'.cell? ⟨g, o + 4 + 1, none⟩ = some z1 ∧ w'.cell? ⟨g, o + 4 + 2, none⟩ = some z2 ∧ w'.cell? ⟨g, o + 4 + 3, none⟩ = some z3 := fun w' h => by
    have hV : Var WB w.heap.size (.int .i64 (opOf t)) (.int .i64 (numOf t)) (.string ⟨(txtOf t).toArray⟩) (.slice (some ⟨g, o, none⟩) 2 cap) := by
      unfold Var
      rw [hWB, Below.heap_alloc _ _ _ (by simp)]
      exact heap_new _ _
    have hbw := hbW.trans (h.mono hbW.size)
    exact ⟨h, (hV.kept (h.block _ hV.lt)).cell.2.2.2, (hbw.cell (p := ⟨g, o, none⟩) hgl).trans c0, (hbw.cell (p := ⟨g, o + 1, none⟩) hgl).trans c1, (hbw.cell (p := ⟨g, o + 2, none⟩) hgl).trans c2, (hbw.cell (p := ⟨g, o + 3, none⟩) hgl).trans c3, (hbw.cell (p := ⟨g, o + 4, none⟩) hgl).trans e0, (hbw.cell (p := ⟨g, o + 4 + 1, none⟩) hgl).trans e1, (hbw.cell (p := ⟨g, o + 4 + 2, none⟩) hgl).trans e2, (hbw.cell (p := ⟨g, o + 4 + 3, none⟩) hgl).trans e3⟩
  have up : ∀ {z : Data} {q0 q1 q2 q3 : Value} (_ : STells 14 eT z) (_ : ArgIs w z [q0, q1, q2, q3]) (w' : World) (_ : Below WB.heap.size WB w'), Calls Tryz.prog 14 #[.agg #[q0, q1, q2, q3]] w' fun e w'' => e = .returned (.string ⟨(eT z).toArray⟩) ∧ Below WB.heap.size WB w'' := by
    intro z q0 q1 q2 q3 hz ha w' h
    have hbw := hbW.trans (h.mono hbW.size)
    refine (hz w' _ _ _ _ (arg_frame hbw _ _ ha)).mono ?_
    rintro e w'' ⟨rfl, hb3⟩
    exact ⟨rfl, h.trans (hb3.mono h.size)⟩
  have cx := up hx hax
  have cy := up hy hay
  obtain ⟨xao, xcap, rfl, rfl, rfl, rfl, -, -⟩ := arg_open hax
  obtain ⟨yao, ycap, rfl, rfl, rfl, rfl, -, -⟩ := arg_open hay
  have HW : Hid (WB = (w.alloc (.cells #[.int .i64 (opOf t), .int .i64 (numOf t), .string ⟨(txtOf t).toArray⟩, .slice (some ⟨g, o, none⟩) 2 cap] 39)).alloc (.cells (sgnS.map strV).toArray 9)) := hWB
  have hml := mid_len (opOf t)
  have n1 : (opOf t == 1) = false := beq_eq_false_iff_ne.2 (by omega)
  have n2 : (opOf t == 2) = false := beq_eq_false_iff_ne.2 (by omega)
  have n3 : (opOf t == 3) = false := beq_eq_false_iff_ne.2 (by omega)
  have n4 : (opOf t == 4) = false := beq_eq_false_iff_ne.2 (by omega)
  have n5 : (opOf t == 5) = false := beq_eq_false_iff_ne.2 (by omega)
  have n6 : (opOf t == 6) = false := beq_eq_false_iff_ne.2 (by omega)
  have n7 : (opOf t == 7) = false := beq_eq_false_iff_ne.2 (by omega)
  have n8 : (opOf t == 8) = false := beq_eq_false_iff_ne.2 (by omega)
  have n22 : (opOf t == 22) = false := beq_eq_false_iff_ne.2 (by omega)
  have n23 : (opOf t == 23) = false := beq_eq_false_iff_ne.2 (by omega)
  have n28 : (opOf t == 28) = false := beq_eq_false_iff_ne.2 (by omega)
  have HOP : Hid ((9 ≤ opOf t ∧ opOf t ≤ 21) ∨ opOf t = 24 ∨ opOf t = 25 ∨ opOf t = 26 ∨ opOf t = 27) := hop
  clear hA hnd hT hK hks hx hy hax hay c0 c1 c2 c3 e0 e1 e2 e3 hgl hgl' hlen hWB up hop
  generalize numOf t = n at *
  generalize txtOf t = s at *
  generalize opOf t = op at *
  generalize eT x = X at *
  generalize opOf x = xop at *
  generalize numOf x = xn at *
  generalize txtOf x = xs at *
  generalize (kidsOf x).length = xL at *
  generalize eT y = Y at *
  generalize opOf y = yop at *
  generalize numOf y = yn at *
  generalize txtOf y = ys at *
  generalize (kidsOf y).length = yL at *
  go_enter Tryz.func14, Tryz.ntmps14
  go_upto_block 1 with fail
  go_cut [4] (fun v wx => v = .string ⟨(midL op).toArray⟩ ∧ wx = WB)
  case first =>
    clear cx cy hS hbW
    have hw : op = 9 ∨ op = 10 ∨ op = 11 ∨ op = 12 ∨ op = 13 ∨ op = 14 ∨ op = 15 ∨ op = 16 ∨ op = 17 ∨ op = 18 ∨ op = 19 ∨ op = 20 ∨ op = 21 ∨ op = 24 ∨ op = 25 ∨ op = 26 ∨ op = 27 := by have := HOP.out; omega
    clear HOP
    rcases hw with rfl | rfl | rfl | rfl | rfl | rfl | rfl | rfl | rfl | rfl | rfl | rfl | rfl | rfl | rfl | rfl | rfl
    all_goals
      go_wp2_with fail
      go_meet
      exact ⟨rfl, HW.out.symm⟩
  case rest =>
    obtain ⟨rfl, hwx⟩ := hcut
    have hwx := hwx.symm
    subst hwx
    clear HW HOP
    generalize hMM : midL op = M at *
    have HMM : Hid (midL op = M) := hMM
    clear hMM
    have hS0 := hS _ (Below.refl _ _)
    have m1 : ¬ 9223372036854775807 < 1 + X.length := by omega
    have m2 : ¬ 9223372036854775807 < 1 + X.length + M.length := by omega
    have m3 : ¬ 9223372036854775807 < 1 + X.length + M.length + Y.length := by omega
    have m4 : ¬ 9223372036854775807 < 1 + X.length + M.length + Y.length + 1 := by omega
    go_upto_region 36 with fail
    go_region_held3 (fun w' => Below WB.heap.size WB w' ∧ w'.cell? ⟨w.heap.size, 3, none⟩ = some (.slice (some ⟨g, o, none⟩) 2 cap) ∧ w'.cell? ⟨g, o, none⟩ = some (.int .i64 xop) ∧ w'.cell? ⟨g, o + 1, none⟩ = some (.int .i64 xn) ∧ w'.cell? ⟨g, o + 2, none⟩ = some (.string ⟨xs.toArray⟩) ∧ w'.cell? ⟨g, o + 3, none⟩ = some (.slice xao xL xcap) ∧ w'.cell? ⟨g, o + 4, none⟩ = some (.int .i64 yop) ∧ w'.cell? ⟨g, o + 4 + 1, none⟩ = some (.int .i64 yn) ∧ w'.cell? ⟨g, o + 4 + 2, none⟩ = some (.string ⟨ys.toArray⟩) ∧ w'.cell? ⟨g, o + 4 + 3, none⟩ = some (.slice yao yL ycap)) (first | exact hS _ (by assumption) | exact hS _ (below_drew1 (by first | assumption | exact Below.refl _ _))) (first | (go_at_call 14; with_reducible refine (cx _ ?_).mono ?_; (first | assumption | exact And.left (by assumption)); rintro e w2 ⟨rfl, hb2⟩) | (go_at_call 14; with_reducible refine (cy _ ?_).mono ?_; (first | assumption | exact And.left (by assumption)); rintro e w2 ⟨rfl, hb2⟩))
    all_goals
      go_wp2_with fail
      go_ret
      exact ⟨by simp [ba_pre, ba_append, ba_one, HMM.out], hbW.trans (hb2.mono hbW.size)⟩

end Ty
end Go.Proofs.YtjdohfdkkppnpaaGreatDoor

