/-
  The program's sameRex at two Rex that tell the same.
-/
import Derived.Test.YthagicpockpfjaiDoorRexEq
namespace Go.Proofs.YthagicpockpfjaiDoor
open Go.RowKit
namespace Rx

def SameOk (t : Data) : Prop := ∀ (w : World) (S1 S2 : Nat → Prop) (a b c d u a' b' c' d' u' : Value), RexIs w t S1 [a, b, c, d, u] → RexIs w t S2 [a', b', c', d', u'] → (∀ k, S1 k → k < w.heap.size) → (∀ k, S2 k → k < w.heap.size) →
  Calls Tryd.prog 33 #[.agg #[a, b, c, d, u], .agg #[a', b', c', d', u']] w fun e w' => e = .returned (.bool true) ∧ Below w.heap.size w w'

set_option maxRecDepth 100000 in
theorem iEqualFunc {ks : List Data} (hk : ∀ t ∈ ks, SameOk t) (hn : ks.length ≤ 100000) (w : World) (S1 S2 : Nat → Prop) (v v' : Value) (xs ys : List Value) (ho : w.ownsRow 0 27 5 v ks.length xs) (ho' : w.ownsRow 0 27 5 v' ks.length ys)
    (hx : RexsIs w ks S1 xs) (hy : RexsIs w ks S2 ys) (hS1 : ∀ k, S1 k → k < w.heap.size) (hS2 : ∀ k, S2 k → k < w.heap.size) :
    Calls Tryd.prog 44 #[v, v', .func (.func 33) #[] #[]] w fun e w' => e = .returned (.bool true) ∧ Below w.heap.size w w' := by
  obtain ⟨ao, cap, rfl⟩ := owns_slice ho
  obtain ⟨ao', cap', rfl⟩ := owns_slice ho'
  have hnI : (ks.length : Int) ≤ 100000 := by omega
  go_enter Tryd.func44, Tryd.ntmps44
  go_wp2_with fail
  go_loopw [17] (fun i wr => ∃ k : Nat, k ≤ ks.length ∧ i = .int .i64 k ∧ Below w.heap.size w wr) (fun i _ => ks.length - (intOf i).toNat)
  case atStart => exact ⟨0, Nat.zero_le _, rfl, Below.refl _ _⟩
  case round =>
    obtain ⟨k, hkn, rfl, hb⟩ := hrel
    have hsz := hb.size
    by_cases hkl : k < ks.length
    · have hki : ks[k]? = some ks[k] := List.getElem?_eq_getElem hkl
      obtain ⟨T1, a, b, c, d, u, x0, x1, x2, x3, x4, hr1, hs1⟩ := rexs_at hx hki
      obtain ⟨T2, a', b', c', d', u', y0, y1, y2, y3, y4, hr2, hs2⟩ := rexs_at hy hki
      obtain ⟨g, rfl, hg, hc⟩ := row_cells ho hkl
      obtain ⟨g', rfl, hg', hc'⟩ := row_cells ho' hkl
      have cc : ∀ j x, xs[j]? = some x → wr.cell? ⟨g, j, none⟩ = some x := fun j x hx => (hb.cell (p := ⟨g, j, none⟩) hg).trans (hc j x hx)
      have cc' : ∀ j x, ys[j]? = some x → wr.cell? ⟨g', j, none⟩ = some x := fun j x hx => (hb.cell (p := ⟨g', j, none⟩) hg').trans (hc' j x hx)
      have p0 := cc _ _ x0
      have p1 := cc _ _ x1
      have p2 := cc _ _ x2
      have p3 := cc _ _ x3
      have p4 := cc _ _ x4
      have q0 := cc' _ _ y0
      have q1 := cc' _ _ y1
      have q2 := cc' _ _ y2
      have q3 := cc' _ _ y3
      have q4 := cc' _ _ y4
      have hg2 : g < wr.heap.size := by omega
      have hg2' : g' < wr.heap.size := by omega
      obtain ⟨op, c1, ss, no, a1, n1, cap1, rfl, rfl, rfl, rfl, rfl⟩ := rex_cells hr1
      obtain ⟨op', c1', ss', no', a1', n1', cap1', rfl, rfl, rfl, rfl, rfl⟩ := rex_cells hr2
      obtain ⟨w2, hw2⟩ : ∃ w2, w2 = (wr.alloc (.cells #[.int .i64 op, .int .i64 c1, .string ⟨ss.toArray⟩, .bool no, .slice a1 n1 cap1] 27)).alloc (.cells #[.int .i64 op', .int .i64 c1', .string ⟨ss'.toArray⟩, .bool no', .slice a1' n1' cap1'] 27) := ⟨_, rfl⟩
      have hb2 : Below wr.heap.size wr w2 := by rw [hw2]; exact ((Below.refl _ wr).alloc (Nat.le_refl _) _).alloc (by simp) _
      have call := hk ks[k] (List.getElem_mem hkl) w2 T1 T2 _ _ _ _ _ _ _ _ _ _ (rex_frame (w' := w2) _ _ _ (fun j hj => (hb2.block j (by have := hS1 j (hs1 j hj); omega)).trans (hb.block j (hS1 j (hs1 j hj)))) hr1) (rex_frame (w' := w2) _ _ _ (fun j hj => (hb2.block j (by have := hS2 j (hs2 j hj); omega)).trans (hb.block j (hS2 j (hs2 j hj)))) hr2) (fun j hj => by have := hS1 j (hs1 j hj); have := hb2.size; omega) (fun j hj => by have := hS2 j (hs2 j hj); have := hb2.size; omega)
      subst hw2
      clear x0 x1 x2 x3 x4 y0 y1 y2 y3 y4 hc hc' cc cc' hr1 hr2 hs1 hs2 hx hy ho ho' hki hk
      go_wp2_with fail
      refine call.mono ?_
      rintro e w3 ⟨rfl, hb3⟩
      go_wp2_with fail
      go_roundw
      case rel => exact ⟨k + 1, by omega, by go_num, hb.trans ((hb2.trans (hb3.mono (by simp; omega))).mono hsz)⟩
      case measure => simp [intOf]; omega
    · obtain rfl : k = ks.length := by omega
      go_wp2_with fail
      go_ret
      exact ⟨rfl, hb⟩

theorem iSameRex : ∀ (n : Nat) (t : Data), dep t ≤ n → cnt t ≤ 100000 → SameOk t := by
  intro n
  induction n with
  | zero => intro t hd _ w S1 S2 a b c d u a' b' c' d' u' h; obtain ⟨op, c, s, no, ks, rfl⟩ := rex_node h; rw [dep_nd] at hd; omega
  | succ n ih =>
    intro t hd hc w S1 S2 a b c d u a' b' c' d' u' h h' hS1 hS2
    obtain ⟨op, cc, s, no, ks, rfl⟩ := rex_node h
    rw [dep_nd] at hd
    rw [cnt_nd] at hc
    rw [rex_nd] at h h'
    obtain ⟨v, xs, he, ho, hg, hx⟩ := h
    obtain ⟨v', ys, he', ho', hg', hy⟩ := h'
    simp at he he'
    obtain ⟨rfl, rfl, rfl, rfl, rfl⟩ := he
    obtain ⟨rfl, rfl, rfl, rfl, rfl⟩ := he'
    have hlen := cnts_len ks
    have hkids : ∀ t ∈ ks, SameOk t := fun t ht => ih t (by have := deps_mem ht; omega) (by have := cnts_mem ht; omega)
    obtain ⟨o1, ho1⟩ : ∃ o1, o1 = Obj.cells #[.int .i64 op, .int .i64 cc, .string ⟨s.toArray⟩, .bool no, u] 27 := ⟨_, rfl⟩
    obtain ⟨o2, ho2⟩ : ∃ o2, o2 = Obj.cells #[.int .i64 op, .int .i64 cc, .string ⟨s.toArray⟩, .bool no, u'] 27 := ⟨_, rfl⟩
    have hb : Below w.heap.size w ((w.alloc o1).alloc o2) := ((Below.refl _ w).alloc (Nat.le_refl _) _).alloc (by simp) _
    have call := iEqualFunc hkids (by omega) ((w.alloc o1).alloc o2) _ _ u u' xs ys (owns_same ho fun g h => hb.block g (ho.lt g h).2) (owns_same ho' fun g h => hb.block g (ho'.lt g h).2) (rexs_frame (fun j hj => hb.block j (hS1 j hj.1)) hx) (rexs_frame (fun j hj => hb.block j (hS2 j hj.1)) hy) (fun j hj => Nat.lt_of_lt_of_le (hS1 j hj.1) hb.size) (fun j hj => Nat.lt_of_lt_of_le (hS2 j hj.1) hb.size)
    obtain ⟨ao, cap, rfl⟩ := owns_slice ho
    obtain ⟨ao', cap', rfl⟩ := owns_slice ho'
    subst ho1 ho2
    clear ho ho' hx hy hkids ih
    go_enter Tryd.func33, Tryd.ntmps33
    go_wp2_with fail
    refine call.mono ?_
    rintro e w2 ⟨rfl, hb2⟩
    go_wp2_with fail
    go_ret
    exact ⟨rfl, hb.trans (hb2.mono hb.size)⟩

end Rx
end Go.Proofs.YthagicpockpfjaiDoor
