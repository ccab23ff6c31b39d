/-
  FnExactRexParse's own walk.
-/
import Derived.Test.YtnbnbohhbflgaakDoorRexSpecFace
import Derived.Test.YtnbnbohhbflgaakDoorRexEq
import Derived.Test.YtnbnbohhbflgaakDoorRexMarks
namespace Go.Proofs.YtnbnbohhbflgaakDoor
open Go.RowKit
namespace Rx

/-- The Rex that is told, or the zero one. -/
def treeOf (r : Option Data) : Data := r.getD (nd 0 0 [] false [])

theorem tree_cnt (s : ByteArray) : cnt (treeOf (parseV s)) ≤ 1000 := by
  rcases h : parseV s with _ | t
  · simp [treeOf, cnt_nd, cnts]
  · unfold parseV at h
    split at h
    · simp at h
    · have := whole_cnt (fun i h => gOf_out h) h
      simp [treeOf]
      omega

/-- How a Rex and a flag come back. -/
def OutT (T : Data) (ok : Bool) (w : World) (e : Ending) (w' : World) : Prop :=
  ∃ a b c d u, e = .returned (.tuple #[.agg #[a, b, c, d, u], .bool ok]) ∧ Below w.heap.size w w' ∧ RexIs w' T (Iv w.heap.size w'.heap.size) [a, b, c, d, u]

theorem outT_of {r : Option Data} {w : World} {e : Ending} {w' : World} (h : RexOut r w e w') : OutT (treeOf r) r.isSome w e w' := by
  rcases r with _ | t
  · obtain ⟨rfl, hb⟩ := h
    exact ⟨_, _, _, _, _, rfl, hb, rex_leaf _ _ 0 0 [] false⟩
  · exact h

theorem rex_nd_cells {w : World} {op cc : Nat} {ss : List UInt8} {no : Bool} {ks : List Data} {S : Nat → Prop} {a b c d u : Value} (h : RexIs w (nd op cc ss no ks) S [a, b, c, d, u]) : ∃ ao n cap, a = .int .i64 op ∧ b = .int .i64 cc ∧ c = .string ⟨ss.toArray⟩ ∧ d = .bool no ∧ u = .slice ao n cap := by
  rw [rex_nd] at h
  obtain ⟨v, xs, he, ho, _⟩ := h
  simp at he
  obtain ⟨rfl, rfl, rfl, rfl, rfl⟩ := he
  obtain ⟨ao, cap, rfl⟩ := owns_slice ho
  exact ⟨ao, _, cap, rfl, rfl, rfl, rfl, rfl⟩

theorem iv_hi {lo hi k : Nat} (h : Iv lo hi k) : k < hi := h.2

theorem lEqT {T : Data} (hc : cnt T ≤ 100000) {w : World} {S1 S2 : Nat → Prop} {a b c d u a' b' c' d' u' : Value} (h1 : RexIs w T S1 [a, b, c, d, u]) (h2 : RexIs w T S2 [a', b', c', d', u']) (hS1 : ∀ k, S1 k → k < w.heap.size) (hS2 : ∀ k, S2 k → k < w.heap.size) :
    Calls Tryd.prog 16 #[.agg #[a, b, c, d, u], .agg #[a', b', c', d', u']] w fun e w' => e = .returned (.bool true) ∧ Below w.heap.size w w' := by
  have h := lEqRex _ T (Nat.le_refl _) hc
  unfold EqOk at h
  exact h w S1 S2 _ _ _ _ _ _ _ _ _ _ h1 h2 hS1 hS2

set_option maxHeartbeats 4000000 in
set_option maxRecDepth 100000 in
theorem lawTree {s : ByteArray} {T : Data} {ok : Bool} {w : World} (hlen : s.size ≤ 1048576) (hc : cnt T ≤ 1000) (hS : ∀ w1, Calls Tryd.prog 14 #[.string s] w1 fun e w' => OutT T ok w1 e w')
    (hI : ∀ w1, Below w.heap.size w w1 → Calls Tryd.prog 15 #[.string s] w1 fun e w' => OutT T ok w1 e w') :
    Calls Tryd.prog 6 #[.string s] w fun e w' => e = .returned (.bool true) ∧ Below w.heap.size w w' := by
  have e1 : decide ((1048576 : Int) < s.size) = false := decide_eq_false (by omega)
  have e2 : decide (1048576 < s.size) = false := decide_eq_false (by omega)
  go_enter Tryd.func6, Tryd.ntmps6
  go_wp2_with fail
  refine (hS w).mono ?_
  rintro e w1 ⟨a1, b1, c1, d1, u1, rfl, hB1, hX1⟩
  obtain ⟨op, cc, ss, no, ks, rfl⟩ := rex_node hX1
  rw [cnt_nd] at hc
  obtain ⟨ao1, n1, cap1, rfl, rfl, rfl, rfl, rfl⟩ := rex_nd_cells hX1
  have l1 := hB1.size
  have hV1 : Var (w1.alloc (.cells #[.int .i64 op, .int .i64 cc, .string ⟨ss.toArray⟩, .bool no, .slice ao1 n1 cap1] 31)) w1.heap.size (.int .i64 op) (.int .i64 cc) (.string ⟨ss.toArray⟩) (.bool no) (.slice ao1 n1 cap1) := heap_alloc_last _ _
  have hB1' : Below w.heap.size w (w1.alloc (.cells #[.int .i64 op, .int .i64 cc, .string ⟨ss.toArray⟩, .bool no, .slice ao1 n1 cap1] 31)) := hB1.alloc l1 _
  go_wp2_with fail
  with_reducible refine (hI (w1.alloc (.cells #[.int .i64 op, .int .i64 cc, .string ⟨ss.toArray⟩, .bool no, .slice ao1 n1 cap1] 31)) hB1').mono ?_
  rintro e w2 ⟨a2, b2, c2, d2, u2, rfl, hB2, hX2⟩
  obtain ⟨ao2, n2, cap2, rfl, rfl, rfl, rfl, rfl⟩ := rex_nd_cells hX2
  have l2 : w1.heap.size + 1 ≤ w2.heap.size := by simpa using hB2.size
  have l2' : w1.heap.size < w2.heap.size := l2
  have hV12 : Var w2 w1.heap.size (.int .i64 op) (.int .i64 cc) (.string ⟨ss.toArray⟩) (.bool no) (.slice ao1 n1 cap1) := hV1.kept (hB2.block _ (by simp))
  obtain ⟨z12_0, z12_1, z12_2, z12_3, z12_4⟩ := Var.cell hV12
  have hV2 : Var (w2.alloc (.cells #[.int .i64 op, .int .i64 cc, .string ⟨ss.toArray⟩, .bool no, .slice ao2 n2 cap2] 31)) w2.heap.size (.int .i64 op) (.int .i64 cc) (.string ⟨ss.toArray⟩) (.bool no) (.slice ao2 n2 cap2) := heap_alloc_last _ _
  have hV12' : Var (w2.alloc (.cells #[.int .i64 op, .int .i64 cc, .string ⟨ss.toArray⟩, .bool no, .slice ao2 n2 cap2] 31)) w1.heap.size (.int .i64 op) (.int .i64 cc) (.string ⟨ss.toArray⟩) (.bool no) (.slice ao1 n1 cap1) := hV12.kept (Below.heap_alloc _ _ _ (by omega))
  have hw2 : RexIs (w2.alloc (.cells #[.int .i64 op, .int .i64 cc, .string ⟨ss.toArray⟩, .bool no, .slice ao2 n2 cap2] 31)) (nd op cc ss no ks) (Iv w.heap.size w1.heap.size) [.int .i64 op, .int .i64 cc, .string ⟨ss.toArray⟩, .bool no, .slice ao1 n1 cap1] := rex_frame _ _ _ (fun k hk => (Below.heap_alloc _ _ _ (by have := iv_hi hk; omega)).trans ((hB2.block k (by have := iv_hi hk; simp; omega)).trans (Below.heap_alloc _ _ _ hk.2))) hX1
  have hg2 : RexIs (w2.alloc (.cells #[.int .i64 op, .int .i64 cc, .string ⟨ss.toArray⟩, .bool no, .slice ao2 n2 cap2] 31)) (nd op cc ss no ks) (Iv (w1.heap.size + 1) w2.heap.size) [.int .i64 op, .int .i64 cc, .string ⟨ss.toArray⟩, .bool no, .slice ao2 n2 cap2] := rex_mono (rex_frame _ _ _ (fun k hk => Below.heap_alloc _ _ _ hk.2) hX2) (fun k hk => ⟨by have := hk.1; simp at this; omega, hk.2⟩)
  have hB2' : Below w.heap.size w (w2.alloc (.cells #[.int .i64 op, .int .i64 cc, .string ⟨ss.toArray⟩, .bool no, .slice ao2 n2 cap2] 31)) := (hB1'.trans (hB2.mono (by simp; omega))).alloc (by omega) _
  go_wp2_with fail
  with_reducible refine (lEqT (T := nd op cc ss no ks) (by rw [cnt_nd]; omega) (w := w2.alloc (.cells #[.int .i64 op, .int .i64 cc, .string ⟨ss.toArray⟩, .bool no, .slice ao2 n2 cap2] 31)) hg2 hw2 (fun k hk => by have := iv_hi hk; simp; omega) (fun k hk => by have := iv_hi hk; simp; omega)).mono ?_
  rintro e w3 ⟨rfl, hB3⟩
  have l3 : w2.heap.size + 1 ≤ w3.heap.size := by simpa using hB3.size
  have hV13 : Var w3 w1.heap.size (.int .i64 op) (.int .i64 cc) (.string ⟨ss.toArray⟩) (.bool no) (.slice ao1 n1 cap1) := hV12'.kept (hB3.block _ (by simp; omega))
  have hV23 : Var w3 w2.heap.size (.int .i64 op) (.int .i64 cc) (.string ⟨ss.toArray⟩) (.bool no) (.slice ao2 n2 cap2) := hV2.kept (hB3.block _ (by simp))
  obtain ⟨z23_0, z23_1, z23_2, z23_3, z23_4⟩ := Var.cell hV23
  have hw3 : RexIs w3 (nd op cc ss no ks) (Iv w.heap.size w1.heap.size) [.int .i64 op, .int .i64 cc, .string ⟨ss.toArray⟩, .bool no, .slice ao1 n1 cap1] := rex_frame _ _ _ (fun k hk => hB3.block k (by have := iv_hi hk; simp; omega)) hw2
  have hg3 : RexIs w3 (nd op cc ss no ks) (Iv (w1.heap.size + 1) w2.heap.size) [.int .i64 op, .int .i64 cc, .string ⟨ss.toArray⟩, .bool no, .slice ao2 n2 cap2] := rex_frame _ _ _ (fun k hk => hB3.block k (by have := iv_hi hk; simp; omega)) hg2
  have hB3' : Below w.heap.size w w3 := hB2'.trans (hB3.mono (by simp; omega))
  go_wp2_with fail
  refine (lMarkRex (by omega) hg3 (fun k hk => by have := iv_hi hk; omega)).mono ?_
  rintro e w4 ⟨rfl, hg4, l4, ⟨o4, t4, p4⟩, hb4⟩
  have hV14 : Var w4 w1.heap.size (.int .i64 op) (.int .i64 cc) (.string ⟨ss.toArray⟩) (.bool no) (.slice ao1 n1 cap1) := hV13.kept (hb4 _ (by omega) (fun h => by have := h.1; omega))
  have hV24 : Var w4 w2.heap.size (.int .i64 op) (.int .i64 cc) (.string ⟨ss.toArray⟩) (.bool no) (.slice ao2 n2 cap2) := hV23.kept (hb4 _ (by omega) (fun h => by have := h.2; omega))
  obtain ⟨z24_0, z24_1, z24_2, z24_3, z24_4⟩ := Var.cell hV24
  have hw4 : RexIs w4 (nd op cc ss no ks) (Iv w.heap.size w1.heap.size) [.int .i64 op, .int .i64 cc, .string ⟨ss.toArray⟩, .bool no, .slice ao1 n1 cap1] := rex_frame _ _ _ (fun k hk => hb4 k (by have := iv_hi hk; omega) (fun h => by have := h.1; have := iv_hi hk; omega)) hw3
  have hB4' : Below w.heap.size w w4 := hB3'.trans ⟨o4, t4, p4, l4, fun k hk => hb4 k (by omega) (fun h => by have := h.1; omega)⟩
  go_wp2_with fail
  with_reducible refine (lHeldRex (w := w4) (by omega) hg4 (fun k hk => by have := iv_hi hk; omega)).mono ?_
  rintro e w5 ⟨rfl, hB5⟩
  have l5 := hB5.size
  have hV15 : Var w5 w1.heap.size (.int .i64 op) (.int .i64 cc) (.string ⟨ss.toArray⟩) (.bool no) (.slice ao1 n1 cap1) := hV14.kept (hB5.block _ (by omega))
  have hV25 : Var w5 w2.heap.size (.int .i64 op) (.int .i64 cc) (.string ⟨ss.toArray⟩) (.bool no) (.slice ao2 n2 cap2) := hV24.kept (hB5.block _ (by omega))
  have hw5 : RexIs w5 (nd op cc ss no ks) (Iv w.heap.size w1.heap.size) [.int .i64 op, .int .i64 cc, .string ⟨ss.toArray⟩, .bool no, .slice ao1 n1 cap1] := rex_frame _ _ _ (fun k hk => hB5.block k (by have := iv_hi hk; omega)) hw4
  have hg5 := rex_frame _ _ _ (fun k hk => hB5.block k (by have := iv_hi hk; omega)) hg4
  have hB5' : Below w.heap.size w w5 := hB4'.trans (hB5.mono (by omega))
  go_wp2_with fail
  with_reducible refine (hI w5 hB5').mono ?_
  rintro e w6 ⟨a6, b6, c6, d6, u6, rfl, hB6, hX6⟩
  obtain ⟨ao6, n6, cap6, rfl, rfl, rfl, rfl, rfl⟩ := rex_nd_cells hX6
  have l6 := hB6.size
  have l6' : w1.heap.size < w6.heap.size := by omega
  have l6'' : w2.heap.size < w6.heap.size := by omega
  have hV16 : Var w6 w1.heap.size (.int .i64 op) (.int .i64 cc) (.string ⟨ss.toArray⟩) (.bool no) (.slice ao1 n1 cap1) := hV15.kept (hB6.block _ (by omega))
  obtain ⟨z16_0, z16_1, z16_2, z16_3, z16_4⟩ := Var.cell hV16
  have hV26 : Var w6 w2.heap.size (.int .i64 op) (.int .i64 cc) (.string ⟨ss.toArray⟩) (.bool no) (.slice ao2 n2 cap2) := hV25.kept (hB6.block _ (by omega))
  have hV26' : Var (w6.alloc (.cells #[.int .i64 op, .int .i64 cc, .string ⟨ss.toArray⟩, .bool no, .slice ao6 n6 cap6] 31)) w2.heap.size (.int .i64 op) (.int .i64 cc) (.string ⟨ss.toArray⟩) (.bool no) (.slice ao2 n2 cap2) := hV26.kept (Below.heap_alloc _ _ _ (by omega))
  have hw6 : RexIs (w6.alloc (.cells #[.int .i64 op, .int .i64 cc, .string ⟨ss.toArray⟩, .bool no, .slice ao6 n6 cap6] 31)) (nd op cc ss no ks) (Iv w.heap.size w1.heap.size) [.int .i64 op, .int .i64 cc, .string ⟨ss.toArray⟩, .bool no, .slice ao1 n1 cap1] := rex_frame _ _ _ (fun k hk => (Below.heap_alloc _ _ _ (by have := iv_hi hk; omega)).trans (hB6.block k (by have := iv_hi hk; omega))) hw5
  have hg6 : RexIs (w6.alloc (.cells #[.int .i64 op, .int .i64 cc, .string ⟨ss.toArray⟩, .bool no, .slice ao6 n6 cap6] 31)) (nd op cc ss no (marksOf ks 1)) (Iv (w1.heap.size + 1) w2.heap.size) [.int .i64 op, .int .i64 cc, .string ⟨ss.toArray⟩, .bool no, .slice ao2 n2 cap2] := rex_frame _ _ _ (fun k hk => (Below.heap_alloc _ _ _ (by have := iv_hi hk; omega)).trans (hB6.block k (by have := iv_hi hk; omega))) hg5
  have hh6 : RexIs (w6.alloc (.cells #[.int .i64 op, .int .i64 cc, .string ⟨ss.toArray⟩, .bool no, .slice ao6 n6 cap6] 31)) (nd op cc ss no ks) (Iv w5.heap.size w6.heap.size) [.int .i64 op, .int .i64 cc, .string ⟨ss.toArray⟩, .bool no, .slice ao6 n6 cap6] := rex_frame _ _ _ (fun k hk => Below.heap_alloc _ _ _ hk.2) hX6
  have hB6' : Below w.heap.size w (w6.alloc (.cells #[.int .i64 op, .int .i64 cc, .string ⟨ss.toArray⟩, .bool no, .slice ao6 n6 cap6] 31)) := (hB5'.trans (hB6.mono (by omega))).alloc (by omega) _
  go_wp2_with fail
  with_reducible refine (lEqT (T := nd op cc ss no ks) (by rw [cnt_nd]; omega) (w := w6.alloc (.cells #[.int .i64 op, .int .i64 cc, .string ⟨ss.toArray⟩, .bool no, .slice ao6 n6 cap6] 31)) hh6 hw6 (fun k hk => by have := iv_hi hk; simp; omega) (fun k hk => by have := iv_hi hk; simp; omega)).mono ?_
  rintro e w7 ⟨rfl, hB7⟩
  have l7 : w6.heap.size + 1 ≤ w7.heap.size := by simpa using hB7.size
  have hV27 : Var w7 w2.heap.size (.int .i64 op) (.int .i64 cc) (.string ⟨ss.toArray⟩) (.bool no) (.slice ao2 n2 cap2) := hV26'.kept (hB7.block _ (by simp; omega))
  obtain ⟨z27_0, z27_1, z27_2, z27_3, z27_4⟩ := Var.cell hV27
  have hg7 := rex_frame _ _ _ (fun k hk => hB7.block k (by have := iv_hi hk; simp; omega)) hg6
  have hB7' : Below w.heap.size w w7 := hB6'.trans (hB7.mono (by simp; omega))
  go_wp2_with fail
  with_reducible refine (lHeldRex (w := w7) (by omega) hg7 (fun k hk => by have := iv_hi hk; omega)).mono ?_
  rintro e w8 ⟨rfl, hB8⟩
  have hB8' : Below w.heap.size w w8 := hB7'.trans (hB8.mono (by omega))
  go_wp2_with fail
  go_ret
  exact ⟨rfl, hB8'⟩

theorem lawRexParse (s : ByteArray) (ad : Addr) (w : World) (herr : w.cell? ⟨0, 0, none⟩ = some (.iface 183 (.pointer (some ad)))) :
    Calls Tryd.prog 6 #[.string s] w fun e w' => e = .returned (.bool true) ∧ Below w.heap.size w w' := by
  by_cases hlen : s.size ≤ 1048576
  · refine lawTree hlen (tree_cnt s) (fun w1 => (sRexParse s w1).mono fun _ _ h => outT_of h) (fun w1 hb => (iRexParse s ad w1 ?_ (by omega)).mono fun _ _ h => outT_of h)
    rw [hb.cell (p := ⟨0, 0, none⟩) (World.block_lt_of_cell? w _ herr)]
    exact herr
  · have e1 : decide ((1048576 : Int) < s.size) = true := decide_eq_true (by omega)
    have e2 : decide (1048576 < s.size) = true := decide_eq_true (by omega)
    go_enter Tryd.func6, Tryd.ntmps6
    go_wp2_with fail
    go_ret
    exact ⟨rfl, Below.refl _ _⟩

end Rx
end Go.Proofs.YtnbnbohhbflgaakDoor
