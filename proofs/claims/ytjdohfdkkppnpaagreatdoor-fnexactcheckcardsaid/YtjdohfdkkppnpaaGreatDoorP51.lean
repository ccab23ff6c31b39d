/-
  The laws' eqNode: two nodes that tell the same; the specification's Deep.
  Rules compared: eqRule, eqRuleS.
-/
import Derived.Test.YtjdohfdkkppnpaaGreatDoorP05
import Derived.Test.YtjdohfdkkppnpaaGreatDoorP20
namespace Go.Proofs.YtjdohfdkkppnpaaGreatDoor
open Go.RowKit
namespace Nd

def EqOk (t : Data) : Prop := ∀ (w : World) (S1 S2 : Nat → Prop) (a b c u a' b' c' u' : Value), NodeIs w t S1 [a, b, c, u] → NodeIs w t S2 [a', b', c', u'] → (∀ k, S1 k → k < w.heap.size) → (∀ k, S2 k → k < w.heap.size) →
  Calls Tryz.prog 47 #[.agg #[a, b, c, u], .agg #[a', b', c', u']] w fun e w' => e = .returned (.bool true) ∧ Below w.heap.size w w'

theorem lEqNodeS {ks : List Data} (hk : ∀ t ∈ ks, EqOk t) (hn : ks.length ≤ 1048576) (w : World) (S1 S2 : Nat → Prop) (v v' : Value) (xs ys : List Value) (ho : w.ownsRow 0 39 4 v ks.length xs) (ho' : w.ownsRow 0 39 4 v' ks.length ys)
    (hx : NodesIs w ks S1 xs) (hy : NodesIs w ks S2 ys) (hS1 : ∀ k, S1 k → k < w.heap.size) (hS2 : ∀ k, S2 k → k < w.heap.size) :
    Calls Tryz.prog 89 #[v, v'] w fun e w' => e = .returned (.bool true) ∧ Below w.heap.size w w' := by
  obtain ⟨ao, cap, rfl⟩ := owns_slice ho
  obtain ⟨ao', cap', rfl⟩ := owns_slice ho'
  have hnI : (ks.length : Int) ≤ 1048576 := by omega
  clear hn
  go_enter Tryz.func89, Tryz.ntmps89
  go_wp2_with fail
  go_loopw [5] (fun i wr => ∃ k : Nat, k ≤ ks.length ∧ i = .int .i64 k ∧ Below w.heap.size w wr) (fun i _ => ks.length - (intOf i).toNat)
  case atStart => exact ⟨0, Nat.zero_le _, rfl, Below.refl _ _⟩
  case round =>
    obtain ⟨k, hkn, rfl, hb⟩ := hrel
    by_cases hkl : k < ks.length
    · have hki : ks[k]? = some ks[k] := List.getElem?_eq_getElem hkl
      obtain ⟨T1, a, b, c, u, x0, x1, x2, x3, hr1, hs1⟩ := nodes_at hx hki
      obtain ⟨T2, a', b', c', u', y0, y1, y2, y3, hr2, hs2⟩ := nodes_at hy hki
      obtain ⟨g, rfl, hg, hc⟩ := row_cells ho hkl
      obtain ⟨g', rfl, hg', hc'⟩ := row_cells ho' hkl
      have cc : ∀ j x, xs[j]? = some x → wr.cell? ⟨g, j, none⟩ = some x := fun j x hx => (hb.cell (p := ⟨g, j, none⟩) hg).trans (hc j x hx)
      have cc' : ∀ j x, ys[j]? = some x → wr.cell? ⟨g', j, none⟩ = some x := fun j x hx => (hb.cell (p := ⟨g', j, none⟩) hg').trans (hc' j x hx)
      have p0 := cc _ _ x0
      have p1 := cc _ _ x1
      have p2 := cc _ _ x2
      have p3 := cc _ _ x3
      have q0 := cc' _ _ y0
      have q1 := cc' _ _ y1
      have q2 := cc' _ _ y2
      have q3 := cc' _ _ y3
      have call := hk ks[k] (List.getElem_mem hkl) wr.drew T1 T2 a b c u a' b' c' u' (node_frame (w' := wr.drew) _ _ _ (fun j hj => hb.block j (hS1 j (hs1 j hj))) hr1) (node_frame (w' := wr.drew) _ _ _ (fun j hj => hb.block j (hS2 j (hs2 j hj))) hr2) (fun j hj => Nat.lt_of_lt_of_le (hS1 j (hs1 j hj)) hb.size) (fun j hj => Nat.lt_of_lt_of_le (hS2 j (hs2 j hj)) hb.size)
      clear x0 x1 x2 x3 y0 y1 y2 y3 hc hc' cc cc' hr1 hr2 hs1 hs2 hx hy ho ho' hki hk
      have bk : (k : Int) < ks.length := by omega
      go_wp2_with fail
      go_region_with (first | (go_at_call 47; refine call.mono ?_; rintro e w2 ⟨rfl, hb2⟩))
      all_goals go_wp2_with fail
      all_goals go_roundw
      all_goals try (simp only [intOf]; omega)
      all_goals exact ⟨k + 1, by omega, by go_num, hb.trans (Below.mono (w := wr) (B := wr.heap.size) ⟨hb2.os, hb2.tape, hb2.output, hb2.size, hb2.block⟩ hb.size)⟩
    · obtain rfl : k = ks.length := by omega
      go_wp2_with fail
      go_ret
      exact ⟨rfl, hb⟩

theorem lEqNode (t : Data) : cnts (kidsOf t) ≤ 1048576 → EqOk t := by
  induction t using tree_ind with
  | h1 t ht =>
    intro _ w S1 S2 a b c u a' b' c' u' h
    obtain ⟨op, n, s, ks, rfl⟩ := node_node h
    exact absurd rfl (ht _ _)
  | h ks lab ih =>
    intro hc w S1 S2 a b c u a' b' c' u' h h' hS1 hS2
    obtain ⟨op, n, s, ks', e⟩ := node_node h
    have e2 := congrArg kidsOf e
    simp only [kidsOf, nd] at e2
    subst e2
    rw [e] at h h'
    have hc : cnts ks ≤ 1048576 := hc
    rw [node_nd] at h h'
    obtain ⟨v, xs, he, ho, hg, hx⟩ := h
    obtain ⟨v', ys, he', ho', hg', hy⟩ := h'
    simp at he he'
    obtain ⟨rfl, rfl, rfl, rfl⟩ := he
    obtain ⟨rfl, rfl, rfl, rfl⟩ := he'
    have hlen := cnts_len ks
    have hkids : ∀ t ∈ ks, EqOk t := fun t ht => ih t ht (by have := cnts_mem ht; have := cnt_kids t; omega)
    obtain ⟨o1, ho1⟩ : ∃ o1, o1 = Obj.cells #[.int .i64 op, .int .i64 n, .string ⟨s.toArray⟩, u] 39 := ⟨_, rfl⟩
    obtain ⟨o2, ho2⟩ : ∃ o2, o2 = Obj.cells #[.int .i64 op, .int .i64 n, .string ⟨s.toArray⟩, u'] 39 := ⟨_, rfl⟩
    have hb : Below w.heap.size w ((w.alloc o1).alloc o2) := ((Below.refl _ w).alloc (Nat.le_refl _) _).alloc (by simp) _
    have call := lEqNodeS hkids (by omega) ((w.alloc o1).alloc o2) _ _ u u' xs ys (owns_same ho fun g h => hb.block g (ho.lt g h).2) (owns_same ho' fun g h => hb.block g (ho'.lt g h).2) (nodes_frame (fun j hj => hb.block j (hS1 j hj.1)) hx) (nodes_frame (fun j hj => hb.block j (hS2 j hj.1)) hy) (fun j hj => Nat.lt_of_lt_of_le (hS1 j hj.1) hb.size) (fun j hj => Nat.lt_of_lt_of_le (hS2 j hj.1) hb.size)
    obtain ⟨ao, cap, rfl⟩ := owns_slice ho
    obtain ⟨ao', cap', rfl⟩ := owns_slice ho'
    subst ho1 ho2
    clear ho ho' hx hy hkids ih e hlen hc
    go_enter Tryz.func47, Tryz.ntmps47
    go_wp2_with (go_at_call 89; refine call.mono ?_; rintro e w2 ⟨rfl, hb2⟩)
    go_ret
    exact ⟨rfl, hb.trans (hb2.mono hb.size)⟩

end Nd
end Go.Proofs.YtjdohfdkkppnpaaGreatDoor

namespace Go.Proofs.YtjdohfdkkppnpaaGreatDoor
open Go.RowKit
namespace Ty
open Nd

set_option maxRecDepth 100000 in
theorem lEqRule {r : Ru} {w : World} {S1 S2 : Nat → Prop} {p0 p1 p2 p3 b0 b1 b2 b3 p0' p1' p2' p3' b0' b1' b2' b3' : Value} (hsp : siz r.2.1 ≤ 1048576) (hsb : siz r.2.2 ≤ 1048576) (hp : NodeIs w r.2.1 S1 [p0, p1, p2, p3]) (hb : NodeIs w r.2.2 S1 [b0, b1, b2, b3]) (hp' : NodeIs w r.2.1 S2 [p0', p1', p2', p3']) (hb' : NodeIs w r.2.2 S2 [b0', b1', b2', b3'])
    (l1 : ∀ k, S1 k → k < w.heap.size) (l2 : ∀ k, S2 k → k < w.heap.size) :
    Calls Tryz.prog 20 #[.agg #[.int .i64 r.1, p0, p1, p2, p3, b0, b1, b2, b3], .agg #[.int .i64 r.1, p0', p1', p2', p3', b0', b1', b2', b3']] w fun e w' => e = .returned (.bool true) ∧ Below w.heap.size w w' := by
  have cp := cnts_siz r.2.1
  have cb := cnts_siz r.2.2
  have eP := fun w' (h : Below w.heap.size w w') => lEqNode r.2.1 (by omega) w' S1 S2 p0 p1 p2 p3 p0' p1' p2' p3' (node_frame _ _ _ (fun k hk => h.block k (l1 k hk)) hp) (node_frame _ _ _ (fun k hk => h.block k (l2 k hk)) hp') (fun k hk => Nat.lt_of_lt_of_le (l1 k hk) h.size) (fun k hk => Nat.lt_of_lt_of_le (l2 k hk) h.size)
  have eB' := fun w' (h : Below w.heap.size w w') => lEqNode r.2.2 (by omega) w' S1 S2 b0 b1 b2 b3 b0' b1' b2' b3' (node_frame _ _ _ (fun k hk => h.block k (l1 k hk)) hb) (node_frame _ _ _ (fun k hk => h.block k (l2 k hk)) hb') (fun k hk => Nat.lt_of_lt_of_le (l1 k hk) h.size) (fun k hk => Nat.lt_of_lt_of_le (l2 k hk) h.size)
  obtain ⟨pao, pcap, rfl, rfl, rfl, rfl, -, -⟩ := arg_open (arg_of_node _ hsp _ _ hp)
  obtain ⟨bao, bcap, rfl, rfl, rfl, rfl, -, -⟩ := arg_open (arg_of_node _ hsb _ _ hb)
  obtain ⟨pao', pcap', rfl, rfl, rfl, rfl, -, -⟩ := arg_open (arg_of_node _ hsp _ _ hp')
  obtain ⟨bao', bcap', rfl, rfl, rfl, rfl, -, -⟩ := arg_open (arg_of_node _ hsb _ _ hb')
  clear hp hb hp' hb' l1 l2 cp cb hsp hsb
  generalize opOf r.2.1 = q1 at *
  generalize numOf r.2.1 = q2 at *
  generalize txtOf r.2.1 = q3 at *
  generalize (kidsOf r.2.1).length = q4 at *
  generalize opOf r.2.2 = q5 at *
  generalize numOf r.2.2 = q6 at *
  generalize txtOf r.2.2 = q7 at *
  generalize (kidsOf r.2.2).length = q8 at *
  generalize r.1 = kd at *
  obtain ⟨o1, ho1⟩ : ∃ o1, o1 = Obj.cells #[.int .i64 kd, .int .i64 q1, .int .i64 q2, .string ⟨q3.toArray⟩, .slice pao q4 pcap, .int .i64 q5, .int .i64 q6, .string ⟨q7.toArray⟩, .slice bao q8 bcap] 41 := ⟨_, rfl⟩
  obtain ⟨o2, ho2⟩ : ∃ o2, o2 = Obj.cells #[.int .i64 kd, .int .i64 q1, .int .i64 q2, .string ⟨q3.toArray⟩, .slice pao' q4 pcap', .int .i64 q5, .int .i64 q6, .string ⟨q7.toArray⟩, .slice bao' q8 bcap'] 41 := ⟨_, rfl⟩
  have hb2 : Below w.heap.size w ((w.alloc o1).alloc o2) := ((Below.refl _ w).alloc (Nat.le_refl _) _).alloc (by simp) _
  have v1 : Box9 ((w.alloc o1).alloc o2) w.heap.size (.int .i64 kd) (.int .i64 q1) (.int .i64 q2) (.string ⟨q3.toArray⟩) (.slice pao q4 pcap) (.int .i64 q5) (.int .i64 q6) (.string ⟨q7.toArray⟩) (.slice bao q8 bcap) := by
    have := heap_new w o1
    unfold Box9
    rw [Below.heap_alloc _ _ _ (by simp), this, ho1]
  have v2 : Box9 ((w.alloc o1).alloc o2) (w.heap.size + 1) (.int .i64 kd) (.int .i64 q1) (.int .i64 q2) (.string ⟨q3.toArray⟩) (.slice pao' q4 pcap') (.int .i64 q5) (.int .i64 q6) (.string ⟨q7.toArray⟩) (.slice bao' q8 bcap') := by
    have := heap_new (w.alloc o1) o2
    rw [World.size_alloc] at this
    unfold Box9
    rw [this, ho2]
  have call := eP _ hb2
  subst ho1 ho2
  go_enter Tryz.func20, Tryz.ntmps20
  go_wp2_with (first
    | (go_at_call 47; with_reducible refine (eB' _ hbw).mono ?_; rintro e w4 ⟨rfl, hb4⟩)
    | (go_at_call 47; refine call.mono ?_; rintro e w3 ⟨rfl, hb3⟩; have hbw := hb2.trans (hb3.mono hb2.size); obtain ⟨x0, x1, x2, x3, x4, x5, x6, x7, x8⟩ := (v1.kept (hb3.block _ v1.lt)).cell; obtain ⟨y0, y1, y2, y3, y4, y5, y6, y7, y8⟩ := (v2.kept (hb3.block _ v2.lt)).cell))
  go_ret
  exact ⟨rfl, hbw.trans (hb4.mono hbw.size)⟩

set_option maxHeartbeats 1000000 in
set_option maxRecDepth 100000 in
theorem lEqRuleS {rs : List Ru} {w : World} {S1 S2 : Nat → Prop} {v v' : Value} {xs ys : List Value} {B B' : Nat} (hsz : sizR rs ≤ 1048576) (ho : w.ownsRow B 41 9 v rs.length xs) (ho' : w.ownsRow B' 41 9 v' rs.length ys) (hx : RulesIs w S1 rs xs) (hy : RulesIs w S2 rs ys)
    (l1 : ∀ k, S1 k → k < w.heap.size) (l2 : ∀ k, S2 k → k < w.heap.size) :
    Calls Tryz.prog 9 #[v, v'] w fun e w' => e = .returned (.bool true) ∧ Below w.heap.size w w' := by
  obtain ⟨ao, cap, rfl⟩ := owns_slice ho
  obtain ⟨ao', cap', rfl⟩ := owns_slice ho'
  have hlen := sizR_len rs
  have hnI : (rs.length : Int) ≤ 1048576 := by omega
  clear hlen
  go_enter Tryz.func9, Tryz.ntmps9
  go_wp2_with fail
  go_loopw [5] (fun i wr => ∃ k : Nat, k ≤ rs.length ∧ i = .int .i64 k ∧ Below w.heap.size w wr) (fun i _ => rs.length - (intOf i).toNat)
  case atStart => exact ⟨0, Nat.zero_le _, rfl, Below.refl _ _⟩
  case round =>
    obtain ⟨k, hkn, rfl, hb⟩ := hrel
    by_cases hkl : k < rs.length
    · have hki : rs[k]? = some rs[k] := List.getElem?_eq_getElem hkl
      obtain ⟨p0, p1, p2, p3, b0, b1, b2, b3, e0, e1, e2, e3, e4, e5, e6, e7, e8, hp, hbd⟩ := rules_at hx hki
      obtain ⟨p0', p1', p2', p3', b0', b1', b2', b3', d0, d1, d2, d3, d4, d5, d6, d7, d8, hp', hbd'⟩ := rules_at hy hki
      obtain ⟨g, rfl, hg, hc⟩ := row_cells ho hkl
      obtain ⟨g', rfl, hg', hc'⟩ := row_cells ho' hkl
      have cc : ∀ j x, xs[j]? = some x → wr.cell? ⟨g, j, none⟩ = some x := fun j x hx => (hb.cell (p := ⟨g, j, none⟩) hg).trans (hc j x hx)
      have cc' : ∀ j x, ys[j]? = some x → wr.cell? ⟨g', j, none⟩ = some x := fun j x hx => (hb.cell (p := ⟨g', j, none⟩) hg').trans (hc' j x hx)
      have c0 := cc _ _ e0
      have c1 := cc _ _ e1
      have c2 := cc _ _ e2
      have c3 := cc _ _ e3
      have c4 := cc _ _ e4
      have c5 := cc _ _ e5
      have c6 := cc _ _ e6
      have c7 := cc _ _ e7
      have c8 := cc _ _ e8
      have q0 := cc' _ _ d0
      have q1 := cc' _ _ d1
      have q2 := cc' _ _ d2
      have q3 := cc' _ _ d3
      have q4 := cc' _ _ d4
      have q5 := cc' _ _ d5
      have q6 := cc' _ _ d6
      have q7 := cc' _ _ d7
      have q8 := cc' _ _ d8
      have hszr := sizR_mem (List.getElem_mem hkl)
      have call := lEqRule (r := rs[k]) (w := wr.drew) (S1 := S1) (S2 := S2) (by omega) (by omega) (node_frame (w' := wr.drew) _ _ _ (fun j hj => hb.block j (l1 j hj)) hp) (node_frame (w' := wr.drew) _ _ _ (fun j hj => hb.block j (l1 j hj)) hbd) (node_frame (w' := wr.drew) _ _ _ (fun j hj => hb.block j (l2 j hj)) hp') (node_frame (w' := wr.drew) _ _ _ (fun j hj => hb.block j (l2 j hj)) hbd') (fun j hj => Nat.lt_of_lt_of_le (l1 j hj) hb.size) (fun j hj => Nat.lt_of_lt_of_le (l2 j hj) hb.size)
      obtain ⟨pao, pcap, rfl, rfl, rfl, rfl, -, -⟩ := arg_open (arg_of_node _ (by omega) _ _ hp)
      obtain ⟨bao, bcap, rfl, rfl, rfl, rfl, -, -⟩ := arg_open (arg_of_node _ (by omega) _ _ hbd)
      obtain ⟨pao', pcap', rfl, rfl, rfl, rfl, -, -⟩ := arg_open (arg_of_node _ (by omega) _ _ hp')
      obtain ⟨bao', bcap', rfl, rfl, rfl, rfl, -, -⟩ := arg_open (arg_of_node _ (by omega) _ _ hbd')
      clear e0 e1 e2 e3 e4 e5 e6 e7 e8 d0 d1 d2 d3 d4 d5 d6 d7 d8 hc hc' cc cc' hp hbd hp' hbd' hx hy ho ho' hki hszr hsz l1 l2
      have bk : (k : Int) < rs.length := by omega
      generalize opOf rs[k].2.1 = m1 at *
      generalize numOf rs[k].2.1 = m2 at *
      generalize txtOf rs[k].2.1 = m3 at *
      generalize (kidsOf rs[k].2.1).length = m4 at *
      generalize opOf rs[k].2.2 = m5 at *
      generalize numOf rs[k].2.2 = m6 at *
      generalize txtOf rs[k].2.2 = m7 at *
      generalize (kidsOf rs[k].2.2).length = m8 at *
      generalize rs[k].1 = kd at *
      go_wp2_with fail
      go_region_with (first | (go_at_call 20; refine call.mono ?_; rintro e w2 ⟨rfl, hb2⟩))
      all_goals go_wp2_with fail
      all_goals go_roundw
      all_goals try (simp only [intOf]; omega)
      all_goals exact ⟨k + 1, by omega, by go_num, hb.trans (Below.mono (w := wr) (B := wr.heap.size) ⟨hb2.os, hb2.tape, hb2.output, hb2.size, hb2.block⟩ hb.size)⟩
    · obtain rfl : k = rs.length := by omega
      go_wp2_with fail
      go_ret
      exact ⟨rfl, hb⟩

end Ty
end Go.Proofs.YtjdohfdkkppnpaaGreatDoor

