/-
  The program's NfaOf at what is parsed: how many places it tells.
-/
import Derived.Test.YthagicpockpfjaiDoorRexOneOf
namespace Go.Proofs.YthagicpockpfjaiDoor
open Go.RowKit
namespace Rx

mutual
theorem nl_le : ∀ t : Data, nl t + 2 ≤ 5 * cnt t
  | .slice ks lab => by
    have h := nls_le ks
    have h2 := cnts_len ks
    rw [nl, cnt]
    split
    · omega
    · split
      · omega
      · split
        · omega
        · split
          · omega
          · split <;> omega
  | .lit _ => by simp [nl, cnt]
  | .nil => by simp [nl, cnt]
  | .ptr _ => by simp [nl, cnt]
  | .agg _ => by simp [nl, cnt]
  | .iface _ _ => by simp [nl, cnt]
theorem nls_le : ∀ ks : List Data, nls ks + 2 * ks.length ≤ 5 * cnts ks
  | [] => by simp [nls, cnts]
  | t :: ts => by
    have h1 := nl_le t
    have h2 := nls_le ts
    simp [nls, cnts]
    omega
end

set_option maxHeartbeats 2000000 in
set_option maxRecDepth 100000 in
theorem iNfaOf {W : World} (hSet : SetOk W) {t : Data} (hR : RightD 12 t) (hc : cnt t ≤ 1000) (w : World) (hW : Below W.heap.size W w) (S : Nat → Prop) (a b c d u : Value) (h : RexIs w t S [a, b, c, d, u]) (hS : ∀ k, S k → k < w.heap.size) :
    Calls Tryd.prog 8 #[.agg #[a, b, c, d, u]] w fun e w' => ∃ ao cap, e = .returned (.slice ao (nl t + 1) cap) ∧ Below w.heap.size w w' := by
  have hnl := nl_le t
  obtain ⟨op, cc, ss, no, ao, n, cap, rfl, rfl, rfl, rfl, rfl⟩ := rex_cells h
  obtain ⟨o1, ho1⟩ : ∃ o1, o1 = Obj.cells #[.int .i64 op, .int .i64 cc, .string ⟨ss.toArray⟩, .bool no, .slice ao n cap] 27 := ⟨_, rfl⟩
  have hb1 : Below w.heap.size w (w.alloc o1) := (Below.refl _ w).alloc (Nat.le_refl _) _
  have hV1 : Var (w.alloc o1) w.heap.size (.int .i64 op) (.int .i64 cc) (.string ⟨ss.toArray⟩) (.bool no) (.slice ao n cap) := by rw [ho1]; exact heap_alloc_last _ _
  have hW1 : Below W.heap.size W (w.alloc o1) := hW.alloc hW.size _
  have call1 := iRexOk hSet hR hc (w.alloc o1) hW1 S _ _ _ _ _ (rex_frame _ _ _ (fun k hk => hb1.block k (hS k hk)) h) (fun k hk => Nat.lt_of_lt_of_le (hS k hk) hb1.size)
  have k0 := hV1.cell.1
  have k1 := hV1.cell.2.1
  have k2 := hV1.cell.2.2.1
  have k3 := hV1.cell.2.2.2.1
  have k4 := hV1.cell.2.2.2.2
  have hz1 : (w.alloc o1).heap.size = w.heap.size + 1 := World.size_alloc _ _
  subst ho1
  go_enter Tryd.func8, Tryd.ntmps8
  go_wp2_with fail
  refine call1.mono ?_
  rintro e w2 ⟨rfl, hb2⟩
  have hz2 := hb2.size
  have hV2 := hV1.kept (hb2.block _ (by omega))
  have j0 := hV2.cell.1
  have j1 := hV2.cell.2.1
  have j2 := hV2.cell.2.2.1
  have j3 := hV2.cell.2.2.2.1
  have j4 := hV2.cell.2.2.2.2
  have hBw2 : Below w.heap.size w w2 := hb1.trans (hb2.mono (by omega))
  obtain ⟨o2, ho2⟩ : ∃ o2, o2 = Obj.cells #[.slice none 0 0] 55 := ⟨_, rfl⟩
  have hb3 : Below w.heap.size w (w2.alloc o2) := hBw2.alloc (by omega) _
  have hrow3 : (w2.alloc o2).heap[w2.heap.size]? = some (.cells #[.slice none 0 0] 55 (0, 0)) := by rw [ho2]; exact heap_alloc_last _ _
  have hz3 : (w2.alloc o2).heap.size = w2.heap.size + 1 := World.size_alloc _ _
  have call2 := iPatternOf hSet 12 t hR (by omega) (by omega) (w2.alloc o2) S _ _ _ _ _ (hW.trans (hb3.mono hW.size)) (rex_frame _ _ _ (fun k hk => hb3.block k (hS k hk)) h) (fun k hk => Nat.lt_of_lt_of_le (hS k hk) hb3.size)
  have hlt1 : w.heap.size < w2.heap.size := by omega
  subst ho2
  go_wp2_with fail
  refine call2.mono ?_
  rintro e w4 ⟨v, rfl, hv, hb4⟩
  have hz4 := hb4.size
  obtain ⟨Tv, yv, rfl⟩ := pat_iface hv
  have hrow4 := (hb4.block w2.heap.size (by omega)).trans hrow3
  have hPL : PL w4.heap.size w2.heap.size 0 w4 := ⟨none, 0, [], by rw [cell_of_row _ _ 0 _ _ (0, 0) hrow4]; rfl, by simp [World.frozen?, hrow4], World.ownsRow_nil _ _ _ _⟩
  have hp : w2.heap.size < w4.heap.size := by omega
  have call3 := iPutPattern hp (fun ks hl hk w n S u xs a1 a2 a3 a4 a5 a6 a7 => iPutOneOf hp ks hl hk w n S u xs a1 a2 a3 a4 a5 a6 a7) 12 t hR w4 0 _ _ hPL (Nat.le_refl _) hv (fun k hk => ⟨hk.2, by have := hk.1; omega⟩) (by omega)
  have hBw4 : Below w.heap.size w w4 := hb3.trans (hb4.mono (by omega))
  go_wp2_with fail
  refine call3.mono ?_
  rintro e w5 ⟨rfl, hP5, hC5⟩
  have hz5 := hC5.size
  go_wp2_with fail
  refine (iPut hP5 hp (by omega) (by omega) _ _ _ _ _ _).mono ?_
  rintro e w6 ⟨rfl, hP6, hC6⟩
  have hC := hC5.trans hC6
  obtain ⟨aq, cq, xq, c1, c2, c3⟩ := hP6
  rw [Nat.zero_add] at c1
  go_wp2_with fail
  go_ret
  refine ⟨aq, cq, rfl, hBw4.trans ⟨hC.os, hC.tape, hC.output, hC.size, fun k hk => hC.block k (by omega) (by omega)⟩⟩

end Rx
end Go.Proofs.YthagicpockpfjaiDoor
