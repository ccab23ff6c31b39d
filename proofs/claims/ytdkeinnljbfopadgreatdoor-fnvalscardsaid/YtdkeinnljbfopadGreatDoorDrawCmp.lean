/-
  The draw of two values: DrawCompare.
-/
import Derived.Test.YtdkeinnljbfopadGreatDoorDrawVals
namespace Go.Proofs.YtdkeinnljbfopadGreatDoor
open Go.RowKit Go.Extern
set_option linter.unusedVariables false

theorem new_behind2 (sa : Option Addr) (len cap B : Nat) (w : World) (o o' : Obj) (hB : B ≤ w.heap.size) (hl : len ≤ 1048576) (hy : Bytes B w sa len) :
    Calls Tryz.prog 42 #[.slice sa len cap] ((w.alloc o).alloc o') fun e w' => ∃ P, P = w.heap.size + 1 + 1 ∧ e = .returned (.pointer (some ⟨P, 0, none⟩)) ∧ Below ((w.alloc o).alloc o').heap.size ((w.alloc o).alloc o') w' ∧ Cur B P w' := by
  have h := new_any sa len cap B ((w.alloc o).alloc o') (by simp; omega) hl (hy.below (((Below.refl _ _).alloc hB o).alloc (by simp; omega) o'))
  refine h.mono ?_
  rintro e w' ⟨he, hb, hC⟩
  exact ⟨_, by simp, he, hb, hC⟩
theorem below_drewQ {B : Nat} {W w : World} (h : Below B W w) : Below B W w.drew := below_drewN h 1
/-- cells that hold something, and may be written -/
def Free (b : Nat) (w : World) : Prop := ∃ x y z, w.cell? ⟨b, 0, none⟩ = some x ∧ w.cell? ⟨b, 1, none⟩ = some y ∧ w.cell? ⟨b, 2, none⟩ = some z ∧ w.frozen? ⟨b, 0, none⟩ = false ∧ w.frozen? ⟨b, 1, none⟩ = false ∧ w.frozen? ⟨b, 2, none⟩ = false
theorem Free.only {p b : Nat} {w w' : World} (h : Free b w) (ho : Only p w w') (hp : b ≠ p) (hb : b < w.heap.size) : Free b w' := by
  obtain ⟨x, y, z, h0, h1, h2, f0, f1, f2⟩ := h
  obtain ⟨q1, q2⟩ := ocell ho
  exact ⟨x, y, z, (q1 b 0 hp hb).trans h0, (q1 b 1 hp hb).trans h1, (q1 b 2 hp hb).trans h2, (q2 b 0 hp hb).trans f0, (q2 b 1 hp hb).trans f1, (q2 b 2 hp hb).trans f2⟩
theorem Free.below {B b : Nat} {w w' : World} (h : Free b w) (hb : Below B w w') (hB : b < B) : Free b w' := by
  obtain ⟨x, y, z, h0, h1, h2, f0, f1, f2⟩ := h
  exact ⟨x, y, z, (hb.cell (p := ⟨b, 0, none⟩) hB).trans h0, (hb.cell (p := ⟨b, 1, none⟩) hB).trans h1, (hb.cell (p := ⟨b, 2, none⟩) hB).trans h2, (hb.frozen (p := ⟨b, 0, none⟩) hB).trans f0, (hb.frozen (p := ⟨b, 1, none⟩) hB).trans f1, (hb.frozen (p := ⟨b, 2, none⟩) hB).trans f2⟩

set_option maxHeartbeats 1000000 in
set_option maxRecDepth 100000 in
theorem vDrawCompare (sa : Option Addr) (len cap B : Nat) (w : World) (hB : B ≤ w.heap.size) (hl : len ≤ 1048576) (hy : Bytes B w sa len) :
    Calls Tryz.prog 24 #[.slice sa len cap] w fun e w' => ∃ (k n : Int) (s : ByteArray) (k1 n1 : Int) (s1 : ByteArray), e = .returned (.tuple #[.agg #[.int .i64 k, .int .i64 n, .string s], .agg #[.int .i64 k1, .int .i64 n1, .string s1]]) ∧ (s.size : Int) ≤ 301 ∧ (s1.size : Int) ≤ 301 ∧ Below B w w' := by
  have hn := fun o o' => new_behind2 sa len cap B w o o' hB hl hy
  clear hy
  go_enter Tryz.func24, Tryz.ntmps24
  go_upto_region 3 with (first | (go_at_call 42; refine (hn _ _).mono ?_; rintro e w1 ⟨P, rfl, rfl, hb, hC⟩) | (go_at_call 69; refine (drawVal B _ _ hC).mono ?_; rintro e w2 ⟨k, n, s, rfl, hs, hO⟩))
  have F0 : Free w.heap.size w1 := Free.below (w := (w.alloc (.cells #[.int .i64 0, .int .i64 0, .string ⟨#[]⟩] 45)).alloc (.cells #[.int .i64 0, .int .i64 0, .string ⟨#[]⟩] 45)) ⟨.int .i64 0, .int .i64 0, .string ⟨#[]⟩, by simp, by simp, by simp, by simp, by simp, by simp⟩ hb (by simp; omega)
  have F1 : Free (w.heap.size + 1) w1 := Free.below (w := (w.alloc (.cells #[.int .i64 0, .int .i64 0, .string ⟨#[]⟩] 45)).alloc (.cells #[.int .i64 0, .int .i64 0, .string ⟨#[]⟩] 45)) ⟨.int .i64 0, .int .i64 0, .string ⟨#[]⟩, by simp, by simp, by simp, by simp, by simp, by simp⟩ hb (by simp)
  have hz1 : w.heap.size + 1 < w1.heap.size := by have := hb.size; simp at this; omega
  have F0 := F0.only hO.1 (by omega) (by omega)
  have F1 := F1.only hO.1 (by omega) hz1
  have hz2 : w1.heap.size ≤ w2.heap.size := hO.1.size
  have hb2 : Below B w w2 := ((((Below.refl _ _).alloc hB _).alloc (by simp; omega) _).trans (hb.mono (by simp; omega))).trans (hO.1.below (by omega) (by omega))
  have hC2 := hO.2
  have hlt2 := hC2.lt
  clear hn hb hC hO hz1
  go_upto_region 4 with (go_at_call 70; refine (once_small B _ 4 _ (hC2.alloc _) (by decide) (by decide)).mono ?_; rintro e w3 ⟨b, rfl, ho3, hC3⟩)
  all_goals
    have hne2 : w2.heap.size ≠ w.heap.size + 1 + 1 := by omega
    obtain ⟨v0, g0⟩ := new_cell ho3 hne2 0
    obtain ⟨v1, g1⟩ := new_cell ho3 hne2 1
    obtain ⟨v2, g2⟩ := new_cell ho3 hne2 2
    simp at v0 v1 v2
    have hz3 : w2.heap.size < w3.heap.size := by have := ho3.size; simp at this; omega
    have F0 := (F0.below ((Below.refl w2.heap.size w2).alloc (Nat.le_refl _) _) (by omega)).only ho3 (by omega) (by simp; omega)
    have F1 := (F1.below ((Below.refl w2.heap.size w2).alloc (Nat.le_refl _) _) (by omega)).only ho3 (by omega) (by simp; omega)
    have hb3 : Below B w w3 := (hb2.alloc (by omega) _).trans (ho3.below (by omega) (by simp; omega))
    have hlt3 := hC3.lt
  all_goals
    have d0 : w2.heap.size ≠ w.heap.size := by omega
    have d1 : w2.heap.size ≠ w.heap.size + 1 := by omega
    have d0' : w.heap.size ≠ w2.heap.size := by omega
    have d1' : w.heap.size + 1 ≠ w2.heap.size := by omega
    have dp0 : w.heap.size ≠ w.heap.size + 1 + 1 := by omega
    have dp1 : w.heap.size + 1 ≠ w.heap.size + 1 + 1 := by omega
    have l0 : w.heap.size < w3.heap.size := by omega
    have l1 : w.heap.size + 1 < w3.heap.size := by omega
  · obtain ⟨x0, y0, z0, a0, a1, a2, a3, a4, a5⟩ := F0
    obtain ⟨x1, y1, z1, b0, b1, b2, b3, b4, b5⟩ := F1
    clear ho3 hC2 hC3
    go_region_held3 (fun w' => w'.cell? ⟨w2.heap.size, 0, none⟩ = some (.int .i64 k) ∧ w'.cell? ⟨w2.heap.size, 1, none⟩ = some (.int .i64 n) ∧ w'.cell? ⟨w2.heap.size, 2, none⟩ = some (.string s)) (go_keep) (fail)
    all_goals
      go_wp2_with fail
      refine bodyPost_ret (v := .tuple #[.agg #[.int .i64 k, .int .i64 n, .string s], .agg #[.int .i64 k, .int .i64 n, .string s]]) (by simp [results, Tryz.results24, *, go_sem]) rfl ⟨_, _, _, _, _, _, rfl, hs, hs, ?_⟩
      repeat (first | with_reducible exact hb3 | with_reducible refine below_drewQ ?_ | with_reducible refine Below.setCell ?_ (by simp <;> omega) _)
  · have call := fun (wx : World) (h : Cur B (w.heap.size + 1 + 1) wx) => drawVal B (w.heap.size + 1 + 1) wx h
    clear hC2 ho3
    go_region_held3 (fun w' => w'.cell? ⟨w2.heap.size, 0, none⟩ = some (.int .i64 k) ∧ w'.cell? ⟨w2.heap.size, 1, none⟩ = some (.int .i64 n) ∧ w'.cell? ⟨w2.heap.size, 2, none⟩ = some (.string s)) (go_keep) (first | (go_at_call 69; refine (call _ (hC3.drewN 1)).mono ?_; rintro e w4 ⟨k1, n1, s1, rfl, hs1, hO4⟩; obtain ⟨x0, y0, z0, a0, a1, a2, a3, a4, a5⟩ := Free.only (w := w3.drew) F0 hO4.1 dp0 l0; obtain ⟨x1, y1, z1, b0, b1, b2, b3, b4, b5⟩ := Free.only (w := w3.drew) F1 hO4.1 dp1 l1; have v0' := (hO4.1.cell (a := ⟨w2.heap.size, 0, none⟩) hne2 hz3).trans v0; have v1' := (hO4.1.cell (a := ⟨w2.heap.size, 1, none⟩) hne2 hz3).trans v1; have v2' := (hO4.1.cell (a := ⟨w2.heap.size, 2, none⟩) hne2 hz3).trans v2))
    all_goals
      have hb4 : Below B w w4 := (below_drewQ hb3).trans (hO4.1.below (by omega) (show B ≤ w3.heap.size by omega))
      go_wp2_with fail
      refine bodyPost_ret (v := .tuple #[.agg #[.int .i64 k, .int .i64 n, .string s], .agg #[.int .i64 k1, .int .i64 n1, .string s1]]) (by simp [results, Tryz.results24, *, go_sem]) rfl ⟨_, _, _, _, _, _, rfl, hs, hs1, ?_⟩
      repeat (first | with_reducible exact hb4 | with_reducible refine below_drewQ ?_ | with_reducible refine Below.setCell ?_ (by simp <;> omega) _)
end Go.Proofs.YtdkeinnljbfopadGreatDoor
