/-
  The laws' eqRex: two Rex that tell the same.
-/
import Derived.Test.YtnbnbohhbflgaakDoorRexFace
namespace Go.Proofs.YtnbnbohhbflgaakDoor
open Go.RowKit
namespace Rx

theorem rexs_at {w : World} : ∀ {ts : List Data} {S : Nat → Prop} {xs : List Value} {i : Nat} {t : Data}, RexsIs w ts S xs → ts[i]? = some t → ∃ (S1 : Nat → Prop) (a b c d u : Value), xs[i * 5]? = some a ∧ xs[i * 5 + 1]? = some b ∧ xs[i * 5 + 2]? = some c ∧ xs[i * 5 + 3]? = some d ∧ xs[i * 5 + 4]? = some u ∧ RexIs w t S1 [a, b, c, d, u] ∧ ∀ k, S1 k → S k
  | [], S, xs, i, t, h, hi => by simp at hi
  | t' :: ts, S, xs, 0, t, h, hi => by
    simp only [RexsIs] at h
    obtain ⟨S1, S2, c1, c2, rfl, h1, _, h3, _⟩ := h
    simp at hi
    subst hi
    have hl := rex_len h1
    match c1, hl with
    | [a, b, c, d, u], _ => exact ⟨S1, a, b, c, d, u, by simp, by simp, by simp, by simp, by simp, h1, fun k hk => (h3 k hk).1⟩
  | t' :: ts, S, xs, i + 1, t, h, hi => by
    simp only [RexsIs] at h
    obtain ⟨S1, S2, c1, c2, rfl, h1, h2, _, h4⟩ := h
    simp at hi
    have hl := rex_len h1
    obtain ⟨S3, a, b, c, d, u, e1, e2, e3, e4, e5, h5, h6⟩ := rexs_at h2 hi
    have sh : ∀ j, (c1 ++ c2)[(i + 1) * 5 + j]? = c2[i * 5 + j]? := fun j => by
      rw [List.getElem?_append_right (by omega)]
      congr 1
      omega
    exact ⟨S3, a, b, c, d, u, (sh 0).trans e1, (sh 1).trans e2, (sh 2).trans e3, (sh 3).trans e4, (sh 4).trans e5, h5, fun k hk => h4 k (h6 k hk)⟩

theorem row_cells {w : World} {B e n k cap : Nat} {ao : Option Addr} {xs : List Value} (ho : w.ownsRow B e 5 (.slice ao n cap) n xs) (hk : k < n) : ∃ g, ao = some ⟨g, 0, none⟩ ∧ g < w.heap.size ∧ ∀ j x, xs[j]? = some x → w.cell? ⟨g, j, none⟩ = some x := by
  rcases ho.2 with ⟨h, hn⟩ | ⟨g, cap', cur, h, _⟩
  · omega
  · simp only [Value.slice.injEq] at h
    obtain ⟨rfl, _, rfl⟩ := h
    refine ⟨g, rfl, (ho.lt g rfl).2, fun j x hx => ?_⟩
    have := ho.cells (g := g) rfl j x hx
    have hadd : (⟨g, 0, none⟩ : Addr).add j = ⟨g, j, none⟩ := by unfold Addr.add; split <;> simp_all
    rw [← hadd]
    exact this

def EqOk (t : Data) : Prop := ∀ (w : World) (S1 S2 : Nat → Prop) (a b c d u a' b' c' d' u' : Value), RexIs w t S1 [a, b, c, d, u] → RexIs w t S2 [a', b', c', d', u'] → (∀ k, S1 k → k < w.heap.size) → (∀ k, S2 k → k < w.heap.size) →
  Calls Tryd.prog 16 #[.agg #[a, b, c, d, u], .agg #[a', b', c', d', u']] w fun e w' => e = .returned (.bool true) ∧ Below w.heap.size w w'

theorem lEqRexS {ks : List Data} (hk : ∀ t ∈ ks, EqOk t) (hn : ks.length ≤ 100000) (w : World) (S1 S2 : Nat → Prop) (v v' : Value) (xs ys : List Value) (ho : w.ownsRow 0 31 5 v ks.length xs) (ho' : w.ownsRow 0 31 5 v' ks.length ys)
    (hx : RexsIs w ks S1 xs) (hy : RexsIs w ks S2 ys) (hS1 : ∀ k, S1 k → k < w.heap.size) (hS2 : ∀ k, S2 k → k < w.heap.size) :
    Calls Tryd.prog 39 #[v, v'] w fun e w' => e = .returned (.bool true) ∧ Below w.heap.size w w' := by
  obtain ⟨ao, cap, rfl⟩ := owns_slice ho
  obtain ⟨ao', cap', rfl⟩ := owns_slice ho'
  have hnI : (ks.length : Int) ≤ 100000 := by omega
  go_enter Tryd.func39, Tryd.ntmps39
  go_wp2_with fail
  go_loopw [5] (fun i wr => ∃ k : Nat, k ≤ ks.length ∧ i = .int .i64 k ∧ Below w.heap.size w wr) (fun i _ => ks.length - (intOf i).toNat)
  case atStart => exact ⟨0, Nat.zero_le _, rfl, Below.refl _ _⟩
  case round =>
    obtain ⟨k, hkn, rfl, hb⟩ := hrel
    by_cases hkl : k < ks.length
    · have hki : ks[k]? = some ks[k] := List.getElem?_eq_getElem hkl
      obtain ⟨T1, a, b, c, d, u, x0, x1, x2, x3, x4, hr1, hs1⟩ := rexs_at hx hki
      obtain ⟨T2, a', b', c', d', u', y0, y1, y2, y3, y4, hr2, hs2⟩ := rexs_at hy hki
      obtain ⟨g, rfl, hg, hc⟩ := row_cells ho hkl
      obtain ⟨g', rfl, hg', hc'⟩ := row_cells ho' hkl
      have cc : ∀ j x, xs[j]? = some x → wr.cell? ⟨g, j, none⟩ = some x := fun j x hx => (hb.cell (p := ⟨g, j, none⟩) hg).trans (hc j x hx)
      have cc' : ∀ j x, ys[j]? = some x → wr.cell? ⟨g', j, none⟩ = some x := fun j x hx => (hb.cell (p := ⟨g', j, none⟩) hg').trans (hc' j x hx)
      have p0 := cc _ _ x0
      have p1 := cc _ _ x1
      have p2 := cc _ _ x2
      have p3 := cc _ _ x3
      have p4 := cc _ _ x4
      have q0 := cc' _ _ y0
      have q1 := cc' _ _ y1
      have q2 := cc' _ _ y2
      have q3 := cc' _ _ y3
      have q4 := cc' _ _ y4
      have call := hk ks[k] (List.getElem_mem hkl) wr.drew T1 T2 a b c d u a' b' c' d' u' (rex_frame (w' := wr.drew) _ _ _ (fun j hj => hb.block j (hS1 j (hs1 j hj))) hr1) (rex_frame (w' := wr.drew) _ _ _ (fun j hj => hb.block j (hS2 j (hs2 j hj))) hr2) (fun j hj => Nat.lt_of_lt_of_le (hS1 j (hs1 j hj)) hb.size) (fun j hj => Nat.lt_of_lt_of_le (hS2 j (hs2 j hj)) hb.size)
      clear x0 x1 x2 x3 x4 y0 y1 y2 y3 y4 hc hc' cc cc' hr1 hr2 hs1 hs2 hx hy ho ho' hki hk
      go_wp2_with fail
      go_region_with (first | (go_at_call 16; refine call.mono ?_; rintro e w2 ⟨rfl, hb2⟩))
      all_goals go_wp2_with fail
      all_goals go_roundw
      all_goals try (simp only [intOf]; omega)
      all_goals exact ⟨k + 1, by omega, by go_num, hb.trans (Below.mono (w := wr) (B := wr.heap.size) ⟨hb2.os, hb2.tape, hb2.output, hb2.size, hb2.block⟩ hb.size)⟩
    · obtain rfl : k = ks.length := by omega
      go_wp2_with fail
      go_ret
      exact ⟨rfl, hb⟩

theorem lEqRex : ∀ (n : Nat) (t : Data), dep t ≤ n → cnt t ≤ 100000 → EqOk t := by
  intro n
  induction n with
  | zero => intro t hd _ w S1 S2 a b c d u a' b' c' d' u' h; obtain ⟨op, c, s, no, ks, rfl⟩ := rex_node h; rw [dep_nd] at hd; omega
  | succ n ih =>
    intro t hd hc w S1 S2 a b c d u a' b' c' d' u' h h' hS1 hS2
    obtain ⟨op, cc, s, no, ks, rfl⟩ := rex_node h
    rw [dep_nd] at hd
    rw [cnt_nd] at hc
    rw [rex_nd] at h h'
    obtain ⟨v, xs, he, ho, hg, hx⟩ := h
    obtain ⟨v', ys, he', ho', hg', hy⟩ := h'
    simp at he he'
    obtain ⟨rfl, rfl, rfl, rfl, rfl⟩ := he
    obtain ⟨rfl, rfl, rfl, rfl, rfl⟩ := he'
    have hlen := cnts_len ks
    have hkids : ∀ t ∈ ks, EqOk t := fun t ht => ih t (by have := deps_mem ht; omega) (by have := cnts_mem ht; omega)
    obtain ⟨o1, ho1⟩ : ∃ o1, o1 = Obj.cells #[.int .i64 op, .int .i64 cc, .string ⟨s.toArray⟩, .bool no, u] 31 := ⟨_, rfl⟩
    obtain ⟨o2, ho2⟩ : ∃ o2, o2 = Obj.cells #[.int .i64 op, .int .i64 cc, .string ⟨s.toArray⟩, .bool no, u'] 31 := ⟨_, rfl⟩
    have hb : Below w.heap.size w ((w.alloc o1).alloc o2) := ((Below.refl _ w).alloc (Nat.le_refl _) _).alloc (by simp) _
    have call := lEqRexS hkids (by omega) ((w.alloc o1).alloc o2) _ _ u u' xs ys (owns_same ho fun g h => hb.block g (ho.lt g h).2) (owns_same ho' fun g h => hb.block g (ho'.lt g h).2) (rexs_frame (fun j hj => hb.block j (hS1 j hj.1)) hx) (rexs_frame (fun j hj => hb.block j (hS2 j hj.1)) hy) (fun j hj => Nat.lt_of_lt_of_le (hS1 j hj.1) hb.size) (fun j hj => Nat.lt_of_lt_of_le (hS2 j hj.1) hb.size)
    obtain ⟨ao, cap, rfl⟩ := owns_slice ho
    obtain ⟨ao', cap', rfl⟩ := owns_slice ho'
    subst ho1 ho2
    clear ho ho' hx hy hkids ih
    go_enter Tryd.func16, Tryd.ntmps16
    go_wp2_with (go_at_call 39; refine call.mono ?_; rintro e w2 ⟨rfl, hb2⟩)
    go_ret
    exact ⟨rfl, hb.trans (hb2.mono hb.size)⟩

end Rx
end Go.Proofs.YtnbnbohhbflgaakDoor
