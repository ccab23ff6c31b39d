/-
  FnBrackets' own walk.
-/
import Derived.Test.YthagicpockpfjaiDoorBrkText
import Derived.Deep.RegionWith
namespace Go.Proofs.YthagicpockpfjaiDoor
open Go.RowKit
namespace Rx
namespace Bk

/-- The Rex that is told, or the zero one. -/
def tree (r : Option Data) : Data := r.getD (nd 0 0 [] false [])

/-- How a Rex and a flag come back. -/
def Out (T : Data) (ok : Bool) (w : World) (e : Ending) (w' : World) : Prop :=
  ∃ a b c d u, e = .returned (.tuple #[.agg #[a, b, c, d, u], .bool ok]) ∧ Below w.heap.size w w' ∧ RexIs w' T (Iv w.heap.size w'.heap.size) [a, b, c, d, u]

theorem out_of {r : Option Data} {w : World} {e : Ending} {w' : World} (h : RexOut r w e w') : Out (tree r) r.isSome w e w' := by
  rcases r with _ | t
  · obtain ⟨rfl, hb⟩ := h
    exact ⟨_, _, _, _, _, rfl, hb, rex_leaf _ _ 0 0 [] false⟩
  · exact h

theorem cells {w : World} {op cc : Nat} {ss : List UInt8} {no : Bool} {ks : List Data} {S : Nat → Prop} {a b c d u : Value} (h : RexIs w (nd op cc ss no ks) S [a, b, c, d, u]) : ∃ ao n cap, a = .int .i64 op ∧ b = .int .i64 cc ∧ c = .string ⟨ss.toArray⟩ ∧ d = .bool no ∧ u = .slice ao n cap := by
  rw [rex_nd] at h
  obtain ⟨v, xs, he, ho, _⟩ := h
  simp at he
  obtain ⟨rfl, rfl, rfl, rfl, rfl⟩ := he
  obtain ⟨ao, cap, rfl⟩ := owns_slice ho
  exact ⟨ao, _, cap, rfl, rfl, rfl, rfl, rfl⟩

set_option maxHeartbeats 4000000 in
set_option maxRecDepth 100000 in
theorem lawBrk (f : Data → Nat) (sa : Option Addr) (len cap : Nat) (w : World) (hl : len ≤ 1048576)
    (hD : Calls Tryd.prog 5 #[.slice sa len cap] w fun e w' => ∃ s : ByteArray, e = .returned (.string s) ∧ (s.size : Int) ≤ 80 ∧ Below w.heap.size w w')
    (hI : ∀ (s : ByteArray) w1, s.size ≤ 100 → Below w.heap.size w w1 → Calls Tryd.prog 6 #[.string s] w1 fun e w' => RexOut (parseV s) w1 e w')
    (hS : ∀ (s : ByteArray) w1, Calls Tryd.prog 7 #[.string s] w1 fun e w' => RexOut (parseV s) w1 e w')
    (hN : ∀ t w1 (S : Nat → Prop) a b c d u, RightD 12 t → cnt t ≤ 1000 → Below w.heap.size w w1 → RexIs w1 t S [a, b, c, d, u] → (∀ k, S k → k < w1.heap.size) → Calls Tryd.prog 8 #[.agg #[a, b, c, d, u]] w1 fun e w' => ∃ ao cap, e = .returned (.slice ao (f t) cap) ∧ Below w1.heap.size w1 w') :
    Calls Tryd.prog 3 #[.slice sa len cap] w fun e w' => e = .returned (.bool true) ∧ Below w.heap.size w w' := by
  have e1 : decide ((1048576 : Int) < len) = false := decide_eq_false (by omega)
  have e2 : decide (1048576 < len) = false := decide_eq_false (by omega)
  go_enter Tryd.func3, Tryd.ntmps3
  go_wp2_with (first | (go_at_call 4; go_in))
  refine hD.mono ?_
  rintro e w1 ⟨s, rfl, hs80, hB1⟩
  have l1 := hB1.size
  obtain ⟨T1, o1, hs0, hgood, hI1, hS1⟩ : ∃ (T1 : Data) (o1 : Bool), (o1 = false → 0 < s.size) ∧ (o1 = true → RightD 12 T1 ∧ cnt T1 ≤ 1000 ∧ (s.size ≤ 58 → parseV (brk s) = some T1)) ∧ (Calls Tryd.prog 6 #[.string s] w1 fun e w' => Out T1 o1 w1 e w') ∧ (∀ w1, Calls Tryd.prog 7 #[.string s] w1 fun e w' => Out T1 o1 w1 e w') := by
    refine ⟨tree (parseV s), (parseV s).isSome, ?_, ?_, (hI s w1 (by omega) hB1).mono (fun _ _ h => out_of h), fun w1 => (hS s w1).mono (fun _ _ h => out_of h)⟩
    · intro h
      rcases Nat.eq_zero_or_pos s.size with h0 | h0
      · have : s = ⟨#[]⟩ := ByteArray.ext (Array.eq_empty_of_size_eq_zero h0)
        rw [this, parse_empty] at h
        simp at h
      · exact h0
    · intro h
      obtain ⟨t, ht⟩ := Option.isSome_iff_exists.mp h
      rw [ht]
      exact ⟨(parse_right ht).1, (parse_right ht).2, fun h58 => parse_brk h58 ht⟩
  go_wp2_with fail
  refine hI1.mono ?_
  rintro e w2 ⟨a1, b1, c1, d1, u1, rfl, hB2, hX1⟩
  obtain ⟨op, cc, ss, no, ks, rfl⟩ := rex_node hX1
  obtain ⟨ao1, n1, cap1, rfl, rfl, rfl, rfl, rfl⟩ := cells hX1
  have l2 := hB2.size
  obtain ⟨w3, hw3⟩ : ∃ w3, w3 = w2.alloc (.cells #[.int .i64 op, .int .i64 cc, .string ⟨ss.toArray⟩, .bool no, .slice ao1 n1 cap1] 27) := ⟨_, rfl⟩
  have hV3 : Var w3 w2.heap.size (.int .i64 op) (.int .i64 cc) (.string ⟨ss.toArray⟩) (.bool no) (.slice ao1 n1 cap1) := by rw [hw3]; exact heap_alloc_last _ _
  have hB3 : Below w.heap.size w w3 := by rw [hw3]; exact (hB1.trans (hB2.mono l1)).alloc (by omega) _
  have l3 : w3.heap.size = w2.heap.size + 1 := by rw [hw3]; exact World.size_alloc _ _
  have hX3 : RexIs w3 (nd op cc ss no ks) (Iv w1.heap.size w2.heap.size) [.int .i64 op, .int .i64 cc, .string ⟨ss.toArray⟩, .bool no, .slice ao1 n1 cap1] := by
    rw [hw3]; exact rex_frame _ _ _ (fun k hk => Below.heap_alloc _ _ _ hk.2) hX1
  go_wp2_with fail
  rw [← hw3]
  refine (hS1 w3).mono ?_
  rintro e w4 ⟨a2, b2, c2, d2, u2, rfl, hB4, hX2⟩
  obtain ⟨ao2, n2, cap2, rfl, rfl, rfl, rfl, rfl⟩ := cells hX2
  have l4 := hB4.size
  obtain ⟨w5, hw5⟩ : ∃ w5, w5 = w4.alloc (.cells #[.int .i64 op, .int .i64 cc, .string ⟨ss.toArray⟩, .bool no, .slice ao2 n2 cap2] 27) := ⟨_, rfl⟩
  have l5 : w5.heap.size = w4.heap.size + 1 := by rw [hw5]; exact World.size_alloc _ _
  have hb5 : Below w3.heap.size w3 w5 := by rw [hw5]; exact hB4.alloc l4 _
  have hV5 : Var w5 w2.heap.size (.int .i64 op) (.int .i64 cc) (.string ⟨ss.toArray⟩) (.bool no) (.slice ao1 n1 cap1) := hV3.kept (hb5.block _ (by omega))
  have hB5 : Below w.heap.size w w5 := hB3.trans (hb5.mono (by omega))
  have hX5 : RexIs w5 (nd op cc ss no ks) (Iv w1.heap.size w2.heap.size) [.int .i64 op, .int .i64 cc, .string ⟨ss.toArray⟩, .bool no, .slice ao1 n1 cap1] := rex_frame _ _ _ (fun k hk => hb5.block k (by have := hk.2; omega)) hX3
  clear hX3 hX1 hX2 hV3 hI1 hS1
  have h63 : IntKind.i64.wrap ((s.size : Int) + 2) = (s.size : Int) + 2 := by rw [IntKind.wrap_i64]; omega
  have h63' : wrap64 ((s.size : Int) + 2) = (s.size : Int) + 2 := by unfold wrap64; omega
  by_cases h58 : 60 < s.size + 2
  · have e3 : decide ((60 : Int) < s.size + 2) = true := decide_eq_true (by omega)
    go_wp2_with fail
    all_goals (try rw [← hw5])
    all_goals go_ret
    all_goals exact ⟨by simp, hB5⟩
  have e3 : decide ((60 : Int) < s.size + 2) = false := decide_eq_false (by omega)
  obtain ⟨T2, o2, hT2, hI2⟩ : ∃ (T2 : Data) (o2 : Bool), (o1 = true → o2 = true ∧ T2 = nd op cc ss no ks) ∧ (Calls Tryd.prog 6 #[.string (brk s)] w5 fun e w' => Out T2 o2 w5 e w') := by
    refine ⟨tree (parseV (brk s)), (parseV (brk s)).isSome, ?_, (hI (brk s) w5 (by rw [brk_size]; omega) hB5).mono (fun _ _ h => out_of h)⟩
    intro h
    rw [(hgood h).2.2 (by omega)]
    exact ⟨rfl, rfl⟩
  go_wp2_with fail
  all_goals (try rw [← hw5])
  refine hI2.mono ?_
  rintro e w6 ⟨a3, b3, c3, d3, u3, rfl, hB6, hX6⟩
  clear hI2
  have l6 := hB6.size
  have hV6 : Var w6 w2.heap.size (.int .i64 op) (.int .i64 cc) (.string ⟨ss.toArray⟩) (.bool no) (.slice ao1 n1 cap1) := hV5.kept (hB6.block _ (by omega))
  have hX6r : RexIs w6 (nd op cc ss no ks) (Iv w1.heap.size w2.heap.size) [.int .i64 op, .int .i64 cc, .string ⟨ss.toArray⟩, .bool no, .slice ao1 n1 cap1] := rex_frame _ _ _ (fun k hk => hB6.block k (by have := hk.2; omega)) hX5
  have hB6' : Below w.heap.size w w6 := hB5.trans (hB6.mono (by omega))
  clear hw5 hw3 hX5 hV5
  cases o1 with
  | false =>
    obtain ⟨op3, cc3, ss3, no3, ks3, rfl⟩ := rex_node hX6
    obtain ⟨ao3, n3, cap3, rfl, rfl, rfl, rfl, rfl⟩ := cells hX6
    have e4 : decide ((0 : Int) < s.size) = true := decide_eq_true (by have := hs0 rfl; omega)
    have e5 : decide (0 < s.size) = true := decide_eq_true (hs0 rfl)
    have e6 : 0 < s.size := hs0 rfl
    go_wp2_with fail
    all_goals go_ret
    all_goals exact ⟨by simp, hB6'.alloc (by omega) _⟩
  | true =>
    obtain ⟨rfl, rfl⟩ := hT2 rfl
    obtain ⟨hr1, hr2, -⟩ := hgood rfl
    obtain ⟨ao3, n3, cap3, rfl, rfl, rfl, rfl, rfl⟩ := cells hX6
    clear hT2 hgood hs0
    obtain ⟨w7, hw7⟩ : ∃ w7, w7 = w6.alloc (.cells #[.int .i64 op, .int .i64 cc, .string ⟨ss.toArray⟩, .bool no, .slice ao3 n3 cap3] 27) := ⟨_, rfl⟩
    have l7 : w7.heap.size = w6.heap.size + 1 := by rw [hw7]; exact World.size_alloc _ _
    have hV7 : Var w7 w6.heap.size (.int .i64 op) (.int .i64 cc) (.string ⟨ss.toArray⟩) (.bool no) (.slice ao3 n3 cap3) := by rw [hw7]; exact heap_alloc_last _ _
    have hV7r : Var w7 w2.heap.size (.int .i64 op) (.int .i64 cc) (.string ⟨ss.toArray⟩) (.bool no) (.slice ao1 n1 cap1) := by rw [hw7]; exact hV6.kept (Below.heap_alloc _ _ _ (by omega))
    have hX7 : RexIs w7 (nd op cc ss no ks) (Iv w5.heap.size w6.heap.size) [.int .i64 op, .int .i64 cc, .string ⟨ss.toArray⟩, .bool no, .slice ao3 n3 cap3] := by rw [hw7]; exact rex_frame _ _ _ (fun k hk => Below.heap_alloc _ _ _ hk.2) hX6
    have hX7r : RexIs w7 (nd op cc ss no ks) (Iv w1.heap.size w2.heap.size) [.int .i64 op, .int .i64 cc, .string ⟨ss.toArray⟩, .bool no, .slice ao1 n1 cap1] := by rw [hw7]; exact rex_frame _ _ _ (fun k hk => Below.heap_alloc _ _ _ (by have := hk.2; omega)) hX6r
    have hB7 : Below w.heap.size w w7 := by rw [hw7]; exact hB6'.alloc (by omega) _
    have stq : ∀ wx, Below w7.heap.size w7 wx → Calls Tryd.prog 8 #[.agg #[.int .i64 op, .int .i64 cc, .string ⟨ss.toArray⟩, .bool no, .slice ao3 n3 cap3]] wx fun e w' => ∃ ao cap, e = .returned (.slice ao (f (nd op cc ss no ks)) cap) ∧ Below w7.heap.size w7 w' ∧ (w'.cell? ⟨w6.heap.size, 0, none⟩ = some (.int .i64 op) ∧ w'.cell? ⟨w6.heap.size, 1, none⟩ = some (.int .i64 cc) ∧ w'.cell? ⟨w6.heap.size, 2, none⟩ = some (.string ⟨ss.toArray⟩) ∧ w'.cell? ⟨w6.heap.size, 3, none⟩ = some (.bool no) ∧ w'.cell? ⟨w6.heap.size, 4, none⟩ = some (.slice ao3 n3 cap3)) ∧ (w'.cell? ⟨w2.heap.size, 0, none⟩ = some (.int .i64 op) ∧ w'.cell? ⟨w2.heap.size, 1, none⟩ = some (.int .i64 cc) ∧ w'.cell? ⟨w2.heap.size, 2, none⟩ = some (.string ⟨ss.toArray⟩) ∧ w'.cell? ⟨w2.heap.size, 3, none⟩ = some (.bool no) ∧ w'.cell? ⟨w2.heap.size, 4, none⟩ = some (.slice ao1 n1 cap1)) := by
      intro wx hx
      have lx := hx.size
      refine (hN _ wx _ _ _ _ _ _ hr1 hr2 (hB7.trans (hx.mono (by omega))) (rex_frame _ _ _ (fun k hk => hx.block k (by have := hk.2; omega)) hX7) (fun k hk => by have := hk.2; omega)).mono ?_
      rintro e w8 ⟨ao8, cap8, rfl, hB8⟩
      have hy := hx.trans (hB8.mono lx)
      exact ⟨ao8, cap8, rfl, hy, Var.cell (hV7.kept (hy.block _ (by omega))), Var.cell (hV7r.kept (hy.block _ (by omega)))⟩
    have str : ∀ wx, Below w7.heap.size w7 wx → Calls Tryd.prog 8 #[.agg #[.int .i64 op, .int .i64 cc, .string ⟨ss.toArray⟩, .bool no, .slice ao1 n1 cap1]] wx fun e w' => ∃ ao cap, e = .returned (.slice ao (f (nd op cc ss no ks)) cap) ∧ Below w7.heap.size w7 w' ∧ (w'.cell? ⟨w6.heap.size, 0, none⟩ = some (.int .i64 op) ∧ w'.cell? ⟨w6.heap.size, 1, none⟩ = some (.int .i64 cc) ∧ w'.cell? ⟨w6.heap.size, 2, none⟩ = some (.string ⟨ss.toArray⟩) ∧ w'.cell? ⟨w6.heap.size, 3, none⟩ = some (.bool no) ∧ w'.cell? ⟨w6.heap.size, 4, none⟩ = some (.slice ao3 n3 cap3)) ∧ (w'.cell? ⟨w2.heap.size, 0, none⟩ = some (.int .i64 op) ∧ w'.cell? ⟨w2.heap.size, 1, none⟩ = some (.int .i64 cc) ∧ w'.cell? ⟨w2.heap.size, 2, none⟩ = some (.string ⟨ss.toArray⟩) ∧ w'.cell? ⟨w2.heap.size, 3, none⟩ = some (.bool no) ∧ w'.cell? ⟨w2.heap.size, 4, none⟩ = some (.slice ao1 n1 cap1)) := by
      intro wx hx
      have lx := hx.size
      refine (hN _ wx _ _ _ _ _ _ hr1 hr2 (hB7.trans (hx.mono (by omega))) (rex_frame _ _ _ (fun k hk => hx.block k (by have := hk.2; omega)) hX7r) (fun k hk => by have := hk.2; omega)).mono ?_
      rintro e w8 ⟨ao8, cap8, rfl, hB8⟩
      have hy := hx.trans (hB8.mono lx)
      exact ⟨ao8, cap8, rfl, hy, Var.cell (hV7.kept (hy.block _ (by omega))), Var.cell (hV7r.kept (hy.block _ (by omega)))⟩
    obtain ⟨k0, k1, k2, k3, k4⟩ := Var.cell hV7
    obtain ⟨m0, m1, m2, m3, m4⟩ := Var.cell hV7r
    have hb7 : Below w7.heap.size w7 w7 := Below.refl _ _
    go_wp2_with fail
    rw [← hw7]
    clear hw7
    go_region_with (go_at_call 8; first | (with_reducible refine (stq _ ?_).mono ?_; (first | assumption | exact Below.drew (by assumption) | exact below_drewN (by assumption) _); rintro e w8 ⟨ao8, cap8, rfl, hb8, ⟨p0, p1, p2, p3, p4⟩, ⟨q0, q1, q2, q3, q4⟩⟩) | (with_reducible refine (str _ ?_).mono ?_; (first | assumption | exact Below.drew (by assumption) | exact below_drewN (by assumption) _); rintro e w9 ⟨ao9, cap9, rfl, hb9, ⟨p0', p1', p2', p3', p4'⟩, ⟨q0', q1', q2', q3', q4'⟩⟩))
    all_goals go_wp2_with fail
    all_goals go_ret
    all_goals first | exact ⟨by first | rfl | (simp; rfl), hB7.trans (hb9.mono (by omega))⟩ | exact ⟨by first | rfl | (simp; rfl), hB7.trans (hb8.mono (by omega))⟩ | exact ⟨by first | rfl | (simp; rfl), below_drewN (hB7.trans (hb9.mono (by omega))) _⟩ | exact ⟨by first | rfl | (simp; rfl), below_drewN (hB7.trans (hb8.mono (by omega))) _⟩

end Bk
end Rx
end Go.Proofs.YthagicpockpfjaiDoor
