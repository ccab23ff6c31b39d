/-
  The laws' eqNode: two nodes that tell the same; the specification's Deep.
-/
import Derived.Test.YtjdohfdkkppnpaaDoorNdCopy
namespace Go.Proofs.YtjdohfdkkppnpaaDoor
open Go.RowKit
namespace Nd

def EqOk (t : Data) : Prop := ∀ (w : World) (S1 S2 : Nat → Prop) (a b c u a' b' c' u' : Value), NodeIs w t S1 [a, b, c, u] → NodeIs w t S2 [a', b', c', u'] → (∀ k, S1 k → k < w.heap.size) → (∀ k, S2 k → k < w.heap.size) →
  Calls Tryd.prog 30 #[.agg #[a, b, c, u], .agg #[a', b', c', u']] w fun e w' => e = .returned (.bool true) ∧ Below w.heap.size w w'

theorem lEqNodeS {ks : List Data} (hk : ∀ t ∈ ks, EqOk t) (hn : ks.length ≤ 1048576) (w : World) (S1 S2 : Nat → Prop) (v v' : Value) (xs ys : List Value) (ho : w.ownsRow 0 37 4 v ks.length xs) (ho' : w.ownsRow 0 37 4 v' ks.length ys)
    (hx : NodesIs w ks S1 xs) (hy : NodesIs w ks S2 ys) (hS1 : ∀ k, S1 k → k < w.heap.size) (hS2 : ∀ k, S2 k → k < w.heap.size) :
    Calls Tryd.prog 40 #[v, v'] w fun e w' => e = .returned (.bool true) ∧ Below w.heap.size w w' := by
  obtain ⟨ao, cap, rfl⟩ := owns_slice ho
  obtain ⟨ao', cap', rfl⟩ := owns_slice ho'
  have hnI : (ks.length : Int) ≤ 1048576 := by omega
  clear hn
  go_enter Tryd.func40, Tryd.ntmps40
  go_wp2_with fail
  go_loopw [5] (fun i wr => ∃ k : Nat, k ≤ ks.length ∧ i = .int .i64 k ∧ Below w.heap.size w wr) (fun i _ => ks.length - (intOf i).toNat)
  case atStart => exact ⟨0, Nat.zero_le _, rfl, Below.refl _ _⟩
  case round =>
    obtain ⟨k, hkn, rfl, hb⟩ := hrel
    by_cases hkl : k < ks.length
    · have hki : ks[k]? = some ks[k] := List.getElem?_eq_getElem hkl
      obtain ⟨T1, a, b, c, u, x0, x1, x2, x3, hr1, hs1⟩ := nodes_at hx hki
      obtain ⟨T2, a', b', c', u', y0, y1, y2, y3, hr2, hs2⟩ := nodes_at hy hki
      obtain ⟨g, rfl, hg, hc⟩ := row_cells ho hkl
      obtain ⟨g', rfl, hg', hc'⟩ := row_cells ho' hkl
      have cc : ∀ j x, xs[j]? = some x → wr.cell? ⟨g, j, none⟩ = some x := fun j x hx => (hb.cell (p := ⟨g, j, none⟩) hg).trans (hc j x hx)
      have cc' : ∀ j x, ys[j]? = some x → wr.cell? ⟨g', j, none⟩ = some x := fun j x hx => (hb.cell (p := ⟨g', j, none⟩) hg').trans (hc' j x hx)
      have p0 := cc _ _ x0
      have p1 := cc _ _ x1
      have p2 := cc _ _ x2
      have p3 := cc _ _ x3
      have q0 := cc' _ _ y0
      have q1 := cc' _ _ y1
      have q2 := cc' _ _ y2
      have q3 := cc' _ _ y3
      have call := hk ks[k] (List.getElem_mem hkl) wr.drew T1 T2 a b c u a' b' c' u' (node_frame (w' := wr.drew) _ _ _ (fun j hj => hb.block j (hS1 j (hs1 j hj))) hr1) (node_frame (w' := wr.drew) _ _ _ (fun j hj => hb.block j (hS2 j (hs2 j hj))) hr2) (fun j hj => Nat.lt_of_lt_of_le (hS1 j (hs1 j hj)) hb.size) (fun j hj => Nat.lt_of_lt_of_le (hS2 j (hs2 j hj)) hb.size)
      clear x0 x1 x2 x3 y0 y1 y2 y3 hc hc' cc cc' hr1 hr2 hs1 hs2 hx hy ho ho' hki hk
      have bk : (k : Int) < ks.length := by omega
      go_wp2_with fail
      go_region_with (first | (go_at_call 30; refine call.mono ?_; rintro e w2 ⟨rfl, hb2⟩))
      all_goals go_wp2_with fail
      all_goals go_roundw
      all_goals try (simp only [intOf]; omega)
      all_goals exact ⟨k + 1, by omega, by go_num, hb.trans (Below.mono (w := wr) (B := wr.heap.size) ⟨hb2.os, hb2.tape, hb2.output, hb2.size, hb2.block⟩ hb.size)⟩
    · obtain rfl : k = ks.length := by omega
      go_wp2_with fail
      go_ret
      exact ⟨rfl, hb⟩

theorem lEqNode (t : Data) : cnts (kidsOf t) ≤ 1048576 → EqOk t := by
  induction t using tree_ind with
  | h1 t ht =>
    intro _ w S1 S2 a b c u a' b' c' u' h
    obtain ⟨op, n, s, ks, rfl⟩ := node_node h
    exact absurd rfl (ht _ _)
  | h ks lab ih =>
    intro hc w S1 S2 a b c u a' b' c' u' h h' hS1 hS2
    obtain ⟨op, n, s, ks', e⟩ := node_node h
    have e2 := congrArg kidsOf e
    simp only [kidsOf, nd] at e2
    subst e2
    rw [e] at h h'
    have hc : cnts ks ≤ 1048576 := hc
    rw [node_nd] at h h'
    obtain ⟨v, xs, he, ho, hg, hx⟩ := h
    obtain ⟨v', ys, he', ho', hg', hy⟩ := h'
    simp at he he'
    obtain ⟨rfl, rfl, rfl, rfl⟩ := he
    obtain ⟨rfl, rfl, rfl, rfl⟩ := he'
    have hlen := cnts_len ks
    have hkids : ∀ t ∈ ks, EqOk t := fun t ht => ih t ht (by have := cnts_mem ht; have := cnt_kids t; omega)
    obtain ⟨o1, ho1⟩ : ∃ o1, o1 = Obj.cells #[.int .i64 op, .int .i64 n, .string ⟨s.toArray⟩, u] 37 := ⟨_, rfl⟩
    obtain ⟨o2, ho2⟩ : ∃ o2, o2 = Obj.cells #[.int .i64 op, .int .i64 n, .string ⟨s.toArray⟩, u'] 37 := ⟨_, rfl⟩
    have hb : Below w.heap.size w ((w.alloc o1).alloc o2) := ((Below.refl _ w).alloc (Nat.le_refl _) _).alloc (by simp) _
    have call := lEqNodeS hkids (by omega) ((w.alloc o1).alloc o2) _ _ u u' xs ys (owns_same ho fun g h => hb.block g (ho.lt g h).2) (owns_same ho' fun g h => hb.block g (ho'.lt g h).2) (nodes_frame (fun j hj => hb.block j (hS1 j hj.1)) hx) (nodes_frame (fun j hj => hb.block j (hS2 j hj.1)) hy) (fun j hj => Nat.lt_of_lt_of_le (hS1 j hj.1) hb.size) (fun j hj => Nat.lt_of_lt_of_le (hS2 j hj.1) hb.size)
    obtain ⟨ao, cap, rfl⟩ := owns_slice ho
    obtain ⟨ao', cap', rfl⟩ := owns_slice ho'
    subst ho1 ho2
    clear ho ho' hx hy hkids ih e hlen hc
    go_enter Tryd.func30, Tryd.ntmps30
    go_wp2_with (go_at_call 40; refine call.mono ?_; rintro e w2 ⟨rfl, hb2⟩)
    go_ret
    exact ⟨rfl, hb.trans (hb2.mono hb.size)⟩

end Nd
end Go.Proofs.YtjdohfdkkppnpaaDoor
