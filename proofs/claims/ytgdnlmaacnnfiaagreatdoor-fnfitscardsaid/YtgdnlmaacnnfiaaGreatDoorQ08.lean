/-
  The program's sameRex at two Rex that tell the same.
  The program's RexOk at what is parsed.
  The program's list of places: next, put, putFork, forkHere: how many there are.
-/
import Derived.Test.YtgdnlmaacnnfiaaGreatDoorQ06
import Derived.Test.YtgdnlmaacnnfiaaGreatDoorQ07
namespace Go.Proofs.YtgdnlmaacnnfiaaGreatDoor
open Go.RowKit
namespace Rx

def SameOk (t : Data) : Prop := ∀ (w : World) (S1 S2 : Nat → Prop) (a b c d u a' b' c' d' u' : Value), RexIs w t S1 [a, b, c, d, u] → RexIs w t S2 [a', b', c', d', u'] → (∀ k, S1 k → k < w.heap.size) → (∀ k, S2 k → k < w.heap.size) →
  Calls Tryz.prog 31 #[.agg #[a, b, c, d, u], .agg #[a', b', c', d', u']] w fun e w' => e = .returned (.bool true) ∧ Below w.heap.size w w'

set_option maxRecDepth 100000 in
theorem iEqualFunc {ks : List Data} (hk : ∀ t ∈ ks, SameOk t) (hn : ks.length ≤ 100000) (w : World) (S1 S2 : Nat → Prop) (v v' : Value) (xs ys : List Value) (ho : w.ownsRow 0 26 5 v ks.length xs) (ho' : w.ownsRow 0 26 5 v' ks.length ys)
    (hx : RexsIs w ks S1 xs) (hy : RexsIs w ks S2 ys) (hS1 : ∀ k, S1 k → k < w.heap.size) (hS2 : ∀ k, S2 k → k < w.heap.size) :
    Calls Tryz.prog 63 #[v, v', .func (.func 31) #[] #[]] w fun e w' => e = .returned (.bool true) ∧ Below w.heap.size w w' := by
  obtain ⟨ao, cap, rfl⟩ := owns_slice ho
  obtain ⟨ao', cap', rfl⟩ := owns_slice ho'
  have hnI : (ks.length : Int) ≤ 100000 := by omega
  go_enter Tryz.func63, Tryz.ntmps63
  go_wp2_with fail
  go_loopw [17] (fun i wr => ∃ k : Nat, k ≤ ks.length ∧ i = .int .i64 k ∧ Below w.heap.size w wr) (fun i _ => ks.length - (intOf i).toNat)
  case atStart => exact ⟨0, Nat.zero_le _, rfl, Below.refl _ _⟩
  case round =>
    obtain ⟨k, hkn, rfl, hb⟩ := hrel
    have hsz := hb.size
    by_cases hkl : k < ks.length
    · have hki : ks[k]? = some ks[k] := List.getElem?_eq_getElem hkl
      obtain ⟨T1, a, b, c, d, u, x0, x1, x2, x3, x4, hr1, hs1⟩ := rexs_at hx hki
      obtain ⟨T2, a', b', c', d', u', y0, y1, y2, y3, y4, hr2, hs2⟩ := rexs_at hy hki
      obtain ⟨g, rfl, hg, hc⟩ := row_cells ho hkl
      obtain ⟨g', rfl, hg', hc'⟩ := row_cells ho' hkl
      have cc : ∀ j x, xs[j]? = some x → wr.cell? ⟨g, j, none⟩ = some x := fun j x hx => (hb.cell (p := ⟨g, j, none⟩) hg).trans (hc j x hx)
      have cc' : ∀ j x, ys[j]? = some x → wr.cell? ⟨g', j, none⟩ = some x := fun j x hx => (hb.cell (p := ⟨g', j, none⟩) hg').trans (hc' j x hx)
      have p0 := cc _ _ x0
      have p1 := cc _ _ x1
      have p2 := cc _ _ x2
      have p3 := cc _ _ x3
      have p4 := cc _ _ x4
      have q0 := cc' _ _ y0
      have q1 := cc' _ _ y1
      have q2 := cc' _ _ y2
      have q3 := cc' _ _ y3
      have q4 := cc' _ _ y4
      have hg2 : g < wr.heap.size := by omega
      have hg2' : g' < wr.heap.size := by omega
      obtain ⟨op, c1, ss, no, a1, n1, cap1, rfl, rfl, rfl, rfl, rfl⟩ := rex_cells hr1
      obtain ⟨op', c1', ss', no', a1', n1', cap1', rfl, rfl, rfl, rfl, rfl⟩ := rex_cells hr2
      obtain ⟨w2, hw2⟩ : ∃ w2, w2 = (wr.alloc (.cells #[.int .i64 op, .int .i64 c1, .string ⟨ss.toArray⟩, .bool no, .slice a1 n1 cap1] 26)).alloc (.cells #[.int .i64 op', .int .i64 c1', .string ⟨ss'.toArray⟩, .bool no', .slice a1' n1' cap1'] 26) := ⟨_, rfl⟩
      have hb2 : Below wr.heap.size wr w2 := by rw [hw2]; exact ((Below.refl _ wr).alloc (Nat.le_refl _) _).alloc (by simp) _
      have call := hk ks[k] (List.getElem_mem hkl) w2 T1 T2 _ _ _ _ _ _ _ _ _ _ (rex_frame (w' := w2) _ _ _ (fun j hj => (hb2.block j (by have := hS1 j (hs1 j hj); omega)).trans (hb.block j (hS1 j (hs1 j hj)))) hr1) (rex_frame (w' := w2) _ _ _ (fun j hj => (hb2.block j (by have := hS2 j (hs2 j hj); omega)).trans (hb.block j (hS2 j (hs2 j hj)))) hr2) (fun j hj => by have := hS1 j (hs1 j hj); have := hb2.size; omega) (fun j hj => by have := hS2 j (hs2 j hj); have := hb2.size; omega)
      subst hw2
      clear x0 x1 x2 x3 x4 y0 y1 y2 y3 y4 hc hc' cc cc' hr1 hr2 hs1 hs2 hx hy ho ho' hki hk
      go_wp2_with fail
      refine call.mono ?_
      rintro e w3 ⟨rfl, hb3⟩
      go_wp2_with fail
      go_roundw
      case rel => exact ⟨k + 1, by omega, by go_num, hb.trans ((hb2.trans (hb3.mono (by simp; omega))).mono hsz)⟩
      case measure => simp [intOf]; omega
    · obtain rfl : k = ks.length := by omega
      go_wp2_with fail
      go_ret
      exact ⟨rfl, hb⟩

theorem iSameRex : ∀ (n : Nat) (t : Data), dep t ≤ n → cnt t ≤ 100000 → SameOk t := by
  intro n
  induction n with
  | zero => intro t hd _ w S1 S2 a b c d u a' b' c' d' u' h; obtain ⟨op, c, s, no, ks, rfl⟩ := rex_node h; rw [dep_nd] at hd; omega
  | succ n ih =>
    intro t hd hc w S1 S2 a b c d u a' b' c' d' u' h h' hS1 hS2
    obtain ⟨op, cc, s, no, ks, rfl⟩ := rex_node h
    rw [dep_nd] at hd
    rw [cnt_nd] at hc
    rw [rex_nd] at h h'
    obtain ⟨v, xs, he, ho, hg, hx⟩ := h
    obtain ⟨v', ys, he', ho', hg', hy⟩ := h'
    simp at he he'
    obtain ⟨rfl, rfl, rfl, rfl, rfl⟩ := he
    obtain ⟨rfl, rfl, rfl, rfl, rfl⟩ := he'
    have hlen := cnts_len ks
    have hkids : ∀ t ∈ ks, SameOk t := fun t ht => ih t (by have := deps_mem ht; omega) (by have := cnts_mem ht; omega)
    obtain ⟨o1, ho1⟩ : ∃ o1, o1 = Obj.cells #[.int .i64 op, .int .i64 cc, .string ⟨s.toArray⟩, .bool no, u] 26 := ⟨_, rfl⟩
    obtain ⟨o2, ho2⟩ : ∃ o2, o2 = Obj.cells #[.int .i64 op, .int .i64 cc, .string ⟨s.toArray⟩, .bool no, u'] 26 := ⟨_, rfl⟩
    have hb : Below w.heap.size w ((w.alloc o1).alloc o2) := ((Below.refl _ w).alloc (Nat.le_refl _) _).alloc (by simp) _
    have call := iEqualFunc hkids (by omega) ((w.alloc o1).alloc o2) _ _ u u' xs ys (owns_same ho fun g h => hb.block g (ho.lt g h).2) (owns_same ho' fun g h => hb.block g (ho'.lt g h).2) (rexs_frame (fun j hj => hb.block j (hS1 j hj.1)) hx) (rexs_frame (fun j hj => hb.block j (hS2 j hj.1)) hy) (fun j hj => Nat.lt_of_lt_of_le (hS1 j hj.1) hb.size) (fun j hj => Nat.lt_of_lt_of_le (hS2 j hj.1) hb.size)
    obtain ⟨ao, cap, rfl⟩ := owns_slice ho
    obtain ⟨ao', cap', rfl⟩ := owns_slice ho'
    subst ho1 ho2
    clear ho ho' hx hy hkids ih
    go_enter Tryz.func31, Tryz.ntmps31
    go_wp2_with fail
    refine call.mono ?_
    rintro e w2 ⟨rfl, hb2⟩
    go_wp2_with fail
    go_ret
    exact ⟨rfl, hb.trans (hb2.mono hb.size)⟩

end Rx
end Go.Proofs.YtgdnlmaacnnfiaaGreatDoor

namespace Go.Proofs.YtgdnlmaacnnfiaaGreatDoor
open Go.RowKit
namespace Rx

theorem ok_idle (a : Value) (w : World) :
    CallsD Tryz.prog 30 #[a] .returning w fun e u' w' => e = .returned (.tuple #[]) ∧ u' = .returning ∧ w' = w := by
  refine callsD_of_wpS Tryz.func30 rfl fun c₀ cs hu => ?_
  apply wpS_seq
  apply wpS_region
  simp [wpOpsS, go_sem, recoverD, hu, Tryz.ntmps30, Exit.thenS]
  refine wpS_cond (t := false) (by simp [Act.eval, Array.replicate]) ?_
  simp only [Bool.false_eq_true, if_false]
  refine wpS_of_wp (wp_skip ?_)
  cases c₀
  simp_all [bodyPostS, results, Tryz.results30]

set_option maxHeartbeats 2000000 in
set_option maxRecDepth 100000 in
theorem iRexOk {W : World} (hSet : SetOk W) {t : Data} (hR : RightD 12 t) (hc : cnt t ≤ 1000) (w : World) (hW : Below W.heap.size W w) (S : Nat → Prop) (a b c d u : Value) (h : RexIs w t S [a, b, c, d, u]) (hS : ∀ k, S k → k < w.heap.size) :
    Calls Tryz.prog 11 #[.agg #[a, b, c, d, u]] w fun e w' => e = .returned (.bool true) ∧ Below w.heap.size w w' := by
  have hP : ∀ w1, Below w.heap.size w w1 → Calls Tryz.prog 22 #[.agg #[a, b, c, d, u], .int .i64 12] w1 fun e w' => PatRet t w1 e w' := fun w1 hb => iPatternOf hSet 12 t hR (by omega) (by omega) w1 S a b c d u (hW.trans (hb.mono hW.size)) (rex_frame _ _ _ (fun k hk => hb.block k (hS k hk)) h) (fun k hk => Nat.lt_of_lt_of_le (hS k hk) hb.size)
  have hO : ∀ w1 lo v, PatIs w1 t (Iv lo w1.heap.size) v → Calls Tryz.prog 32 #[v] w1 fun e w' => RexRet t w1 e w' := fun w1 lo v hv => iRexOf (dep t) t _ v w1 (Nat.le_refl _) (by omega) hv (fun k hk => hk.2)
  have hE : ∀ w1 lo a' b' c' d' u', Below w.heap.size w w1 → RexIs w1 t (Iv lo w1.heap.size) [a', b', c', d', u'] → Calls Tryz.prog 31 #[.agg #[a', b', c', d', u'], .agg #[a, b, c, d, u]] w1 fun e w' => e = .returned (.bool true) ∧ Below w1.heap.size w1 w' := by
    intro w1 lo a' b' c' d' u' hb hx
    have hs := iSameRex (dep t) t (Nat.le_refl _) (by omega)
    unfold SameOk at hs
    exact hs w1 _ S _ _ _ _ _ _ _ _ _ _ hx (rex_frame _ _ _ (fun k hk => hb.block k (hS k hk)) h) (fun k hk => hk.2) (fun k hk => Nat.lt_of_lt_of_le (hS k hk) hb.size)
  obtain ⟨op, cc, ss, no, ao, n, cap, rfl, rfl, rfl, rfl, rfl⟩ := rex_cells h
  clear h hR
  obtain ⟨o1, ho1⟩ : ∃ o1, o1 = Obj.cells #[.int .i64 op, .int .i64 cc, .string ⟨ss.toArray⟩, .bool no, .slice ao n cap] 26 := ⟨_, rfl⟩
  obtain ⟨o2, ho2⟩ : ∃ o2, o2 = Obj.cells #[.bool false] 4 := ⟨_, rfl⟩
  have hb0 : Below w.heap.size w ((w.alloc o1).alloc o2) := ((Below.refl _ w).alloc (Nat.le_refl _) _).alloc (by simp) _
  have hV0 : Var ((w.alloc o1).alloc o2) w.heap.size (.int .i64 op) (.int .i64 cc) (.string ⟨ss.toArray⟩) (.bool no) (.slice ao n cap) := by
    unfold Var
    rw [Below.heap_alloc _ _ _ (by simp), heap_alloc_last, ho1]
  have hF0 : Flag ((w.alloc o1).alloc o2) (w.heap.size + 1) false := by
    have := heap_alloc_last (w.alloc o1) o2
    unfold Flag
    rw [ho2] at this ⊢
    simpa using this
  have hz0 : ((w.alloc o1).alloc o2).heap.size = w.heap.size + 2 := by simp
  have hK : ∀ w1 : World, Below (w.heap.size + 2) ((w.alloc o1).alloc o2) w1 → Var w1 w.heap.size (.int .i64 op) (.int .i64 cc) (.string ⟨ss.toArray⟩) (.bool no) (.slice ao n cap) ∧ Flag w1 (w.heap.size + 1) false ∧ Below w.heap.size w w1 := fun w1 hb => ⟨hV0.kept (hb.block _ (by omega)), hF0.kept (hb.block _ (by omega)), hb0.trans (hb.mono (by omega))⟩
  obtain ⟨W2, hW2⟩ : ∃ W2, W2 = (w.alloc o1).alloc o2 := ⟨_, rfl⟩
  have k0 := hV0.cell.1
  have k1 := hV0.cell.2.1
  have k2 := hV0.cell.2.2.1
  have k3 := hV0.cell.2.2.2.1
  have k4 := hV0.cell.2.2.2.2
  subst ho1 ho2
  rw [← hW2] at hK hz0 hb0 k0 k1 k2 k3 k4
  go_enter_defers Tryz.func11, Tryz.ntmps11
  go_wp2_with fail
  rw [← hW2]
  clear hV0 hF0 hW2
  go_region_with (first | (go_at_call 22; refine (hP _ (by first | exact hb0 | exact hb0.drew | exact hb0.drew.drew | exact hb0.drew.drew.drew)).mono ?_; rintro e w1 ⟨v1, rfl, hv1, hb1⟩; obtain ⟨T1, y1, rfl⟩ := pat_iface hv1; have hq1 : Below (w.heap.size + 2) W2 w1 := ⟨hb1.os, hb1.tape, hb1.output, hb1.size, fun k hk => hb1.block k (by show k < W2.heap.size; omega)⟩; obtain ⟨hV1, hF1, hB1⟩ := hK w1 hq1; have m0 := hV1.cell.1; have m1 := hV1.cell.2.1; have m2 := hV1.cell.2.2.1; have m3 := hV1.cell.2.2.2.1; have m4 := hV1.cell.2.2.2.2) | (go_at_call 32; refine (hO _ _ _ (pat_frame (w := w1) (fun _ _ => rfl) (fun _ h => h) t _ hv1)).mono ?_; rintro e w2 ⟨a2, b2, c2, d2, u2, rfl, hb2, hx2⟩; obtain ⟨op2, cc2, ss2, no2, ao2, n2, cap2, rfl, rfl, rfl, rfl, rfl⟩ := rex_cells hx2; have hq2 : Below (w.heap.size + 2) W2 w2 := hq1.trans ⟨hb2.os, hb2.tape, hb2.output, hb2.size, fun k hk => hb2.block k (by show k < w1.heap.size; have := hq1.size; omega)⟩; obtain ⟨hV2, hF2, hB2⟩ := hK w2 hq2; have j0 := hV2.cell.1; have j1 := hV2.cell.2.1; have j2 := hV2.cell.2.2.1; have j3 := hV2.cell.2.2.2.1; have j4 := hV2.cell.2.2.2.2) | (go_at_call 31; refine (hE _ _ _ _ _ _ _ (by first | exact hB2 | exact hB2.drew | exact hB2.drew.drew | exact hB2.drew.drew.drew) (rex_frame (w := w2) t _ _ (fun _ _ => rfl) hx2)).mono ?_; rintro e w3 ⟨rfl, hb3⟩; have hq3 : Below (w.heap.size + 2) W2 w3 := hq2.trans ⟨hb3.os, hb3.tape, hb3.output, hb3.size, fun k hk => hb3.block k (by show k < w2.heap.size; have := hq2.size; omega)⟩; obtain ⟨hV3, hF3, hB3⟩ := hK w3 hq3; have i0 := hF3.cell; have i1 := hF3.frozen))
  all_goals go_wp2_with fail
  all_goals refine leaves_cons (f := 30) (args := #[.pointer (some ⟨w.heap.size + 1, 0, none⟩)]) (by simp) (by simp [go_sem]) ?_
  all_goals refine (ok_idle _ _).mono ?_
  all_goals rintro e u' w'' ⟨rfl, rfl, hw⟩
  all_goals subst hw
  all_goals have x5 := (hF3.set true).cell
  all_goals have HB : Hid (Below w.heap.size w (w3.setCell ⟨w.heap.size + 1, 0, none⟩ (.bool true))) := hB3.setCell (show w.heap.size ≤ w.heap.size + 1 by omega) _
  all_goals clear hV1 hV2 hV3 hF1 hF2 hF3 hP hO hE hK hB3
  all_goals simp [Leaves, settle, results, Tryz.results11, go_sem, x5]
  all_goals exact HB.out

end Rx
end Go.Proofs.YtgdnlmaacnnfiaaGreatDoor

namespace Go.Proofs.YtgdnlmaacnnfiaaGreatDoor
open Go.RowKit
namespace Rx

/-- The list at block p has n places; its row is at a block from B on. -/
def PL (B p n : Nat) (w : World) : Prop := ∃ (ao : Option Addr) (cap : Nat) (xs : List Value), w.cell? ⟨p, 0, none⟩ = some (.slice ao n cap) ∧ w.frozen? ⟨p, 0, none⟩ = false ∧ w.ownsRow B 67 6 (.slice ao n cap) n xs

/-- The row of the list at block p is at block k. -/
def RowAt (p : Nat) (w : World) (k : Nat) : Prop := ∃ (ao : Option Addr) (n cap : Nat), w.cell? ⟨p, 0, none⟩ = some (.slice ao n cap) ∧ Value.ownBlock (.slice ao n cap) = some k

/-- Nothing is turned but block p, and the row. -/
structure Ch (p B : Nat) (w w' : World) : Prop where
  os : w'.os = w.os
  tape : w'.tape = w.tape
  output : w'.output = w.output
  size : w.heap.size ≤ w'.heap.size
  block : ∀ k, k < B → k ≠ p → w'.heap[k]? = w.heap[k]?
  own : ∀ k, k < w.heap.size → k ≠ p → ¬ RowAt p w k → w'.heap[k]? = w.heap[k]? ∧ ¬ RowAt p w' k

theorem Ch.refl (p B : Nat) (w : World) : Ch p B w w := ⟨rfl, rfl, rfl, Nat.le_refl _, fun _ _ _ => rfl, fun _ _ _ h => ⟨rfl, h⟩⟩
theorem Ch.trans {p B : Nat} {a b c : World} (h : Ch p B a b) (k : Ch p B b c) : Ch p B a c :=
  ⟨k.os.trans h.os, k.tape.trans h.tape, k.output.trans h.output, Nat.le_trans h.size k.size, fun j h1 h2 => (k.block j h1 h2).trans (h.block j h1 h2), fun j h1 h2 h3 =>
    ⟨((k.own j (Nat.lt_of_lt_of_le h1 h.size) h2 (h.own j h1 h2 h3).2).1).trans (h.own j h1 h2 h3).1, (k.own j (Nat.lt_of_lt_of_le h1 h.size) h2 (h.own j h1 h2 h3).2).2⟩⟩
theorem rowAt_same {p k : Nat} {w w' : World} (h : w'.heap[p]? = w.heap[p]?) : RowAt p w' k ↔ RowAt p w k := by
  have hc : w'.cell? ⟨p, 0, none⟩ = w.cell? ⟨p, 0, none⟩ := World.cell?_of_block h
  unfold RowAt
  rw [hc]
theorem ch_below {p B : Nat} {w w' : World} (hp : p < w.heap.size) (hB : B ≤ w.heap.size) (h : Below w.heap.size w w') : Ch p B w w' :=
  ⟨h.os, h.tape, h.output, h.size, fun k hk _ => h.block k (by omega), fun k hk _ hr => ⟨h.block k hk, fun hr' => hr ((rowAt_same (h.block p hp)).1 hr')⟩⟩
theorem rowAt_is {p k : Nat} {w : World} {ao : Option Addr} {n cap : Nat} (h : w.cell? ⟨p, 0, none⟩ = some (.slice ao n cap)) : RowAt p w k ↔ Value.ownBlock (.slice ao n cap) = some k := by
  constructor
  · rintro ⟨ao', n', cap', h1, h2⟩
    rw [h] at h1
    simp at h1
    obtain ⟨rfl, rfl, rfl⟩ := h1
    exact h2
  · exact fun h2 => ⟨ao, n, cap, h, h2⟩
theorem PL.kept {B p n : Nat} {w w' : World} (h : PL B p n w) (hb : Below w.heap.size w w') : PL B p n w' := by
  obtain ⟨ao, cap, xs, h1, h2, h3⟩ := h
  have hl := World.block_lt_of_cell? w _ h1
  exact ⟨ao, cap, xs, (hb.cell (p := ⟨p, 0, none⟩) hl).trans h1, (hb.frozen (p := ⟨p, 0, none⟩) hl).trans h2, owns_same h3 fun g hg => hb.block g (h3.lt g hg).2⟩

theorem Tryz.infoPlacer : (Tryz.prog.info? 67).map (fun i => (i.zero, i.size, i.bytes)) = some (some (.agg #[.int .i64 0, .int .i64 0, .string ⟨#[]⟩, .bool false, .int .i64 0, .int .i64 0]), 6, 56) := by kernel_rfl

theorem iNext {B p n : Nat} {w : World} (h : PL B p n w) : Calls Tryz.prog 62 #[.pointer (some ⟨p, 0, none⟩)] w fun e w' => e = .returned (.int .i64 n) ∧ w' = w := by
  obtain ⟨ao, cap, xs, h1, h2, h3⟩ := h
  go_enter Tryz.func62, Tryz.ntmps62
  go_wp2_with fail
  go_ret
  exact ⟨rfl, rfl⟩

theorem cell_six_new (w : World) (a b c d u v : Value) : ∀ j x, [a, b, c, d, u, v][j]? = some x → (w.alloc (.cells #[a, b, c, d, u, v] 67)).cell? ((⟨w.heap.size, 0, none⟩ : Addr).add j) = some x := by
  intro j x hj
  have hadd : (⟨w.heap.size, 0, none⟩ : Addr).add j = ⟨w.heap.size, j, none⟩ := by unfold Addr.add; split <;> simp_all
  rw [hadd, cell_of_row _ _ j _ _ (0, 0) (heap_alloc_last w _)]
  simpa using hj

set_option maxHeartbeats 2000000 in
set_option maxRecDepth 100000 in
theorem iPut {B p n : Nat} {w : World} (h : PL B p n w) (hp : p < B) (hB : B ≤ w.heap.size) (hn : n ≤ 1000000) (op c a b : Int) (s : ByteArray) (no : Bool) :
    Calls Tryz.prog 29 #[.pointer (some ⟨p, 0, none⟩), .agg #[.int .i64 op, .int .i64 c, .string s, .bool no, .int .i64 a, .int .i64 b]] w fun e w' => e = .returned (.int .i64 n) ∧ PL B p (n + 1) w' ∧ Ch p B w w' := by
  obtain ⟨ao, cap, xs, h1, h2, h3⟩ := h
  obtain ⟨i0, hi0, hz0, hz1, hz2⟩ := info_parts Tryz.infoPlacer
  have hpl : p < w.heap.size := by omega
  have hnI : (n : Int) ≤ 1000000 := by omega
  have hk64 : Hid ((n + 1) * 56 ≤ 140737488355328) := by show _ ≤ _; omega
  have hkm : Hid (n + 1 ≤ maxLen) := by show _ ≤ _; unfold maxLen; omega
  have hownA : ∀ o o', (((w.alloc o).drew).alloc o').ownsRow B 67 6 (.slice ao n cap) n xs := fun o o' => ((h3.alloc o).drew).alloc o'
  have hownp : ∀ g, Value.ownBlock (.slice ao n cap) = some g → B ≤ g := fun g hg => (h3.lt g hg).1
  have hs1 : ((w.alloc (.cells #[.int .i64 op, .int .i64 c, .string s, .bool no, .int .i64 a, .int .i64 b] 67)).drew).heap.size = w.heap.size + 1 := World.size_alloc _ _
  have hc6 : ∀ j x, [.int .i64 op, .int .i64 c, .string s, .bool no, .int .i64 a, .int .i64 b][j]? = some x → (((w.alloc (.cells #[.int .i64 op, .int .i64 c, .string s, .bool no, .int .i64 a, .int .i64 b] 67)).drew).alloc (.cells #[.int .i64 op, .int .i64 c, .string s, .bool no, .int .i64 a, .int .i64 b] 67)).cell? ((⟨w.heap.size + 1, 0, none⟩ : Addr).add j) = some x := by
    intro j x hj
    have := cell_six_new ((w.alloc (.cells #[.int .i64 op, .int .i64 c, .string s, .bool no, .int .i64 a, .int .i64 b] 67)).drew) _ _ _ _ _ _ j x hj
    rwa [hs1] at this
  have hpb : ∀ w4, (((w.alloc (.cells #[.int .i64 op, .int .i64 c, .string s, .bool no, .int .i64 a, .int .i64 b] 67)).drew).alloc (.cells #[.int .i64 op, .int .i64 c, .string s, .bool no, .int .i64 a, .int .i64 b] 67)).grownBy w4 (Value.ownBlock (.slice ao n cap)) → w4.heap[p]? = w.heap[p]? := fun w4 hg => (hg.block p (by simp; omega) (fun e => by have := hownp p e.symm; omega)).trans ((Below.heap_alloc _ _ _ (by rw [hs1]; omega)).trans (Below.heap_alloc _ _ _ hpl))
  go_enter Tryz.func29, Tryz.ntmps29
  go_wp2_with fail
  go_region_law (first | (refine step_append_own rfl (.tmp 9) (.tmp 11) 32 rfl B 67 i0 _ 6 56 Tryz.underlying32 hi0 hz0 hz1 hz2 rfl (by decide) (.slice ao n cap) n xs (by simp [Act.eval]) (hownA _ _) ⟨w.heap.size + 1, 0, none⟩ 1 1 [.int .i64 op, .int .i64 c, .string s, .bool no, .int .i64 a, .int .i64 b] (by simp [Act.eval]) rfl hc6 (by simp [Value.oneCell']) hkm.out hk64.out (by simp; omega) ?_; intro v4 w4 hown4 hgr4 hb4; have c4 : w4.cell? ⟨p, 0, none⟩ = some (.slice ao n cap) := (World.cell?_of_block (hpb w4 hgr4)).trans h1; have f4 : w4.frozen? ⟨p, 0, none⟩ = false := (World.frozen?_of_block (hpb w4 hgr4)).trans h2; obtain ⟨ao4, cap4, rfl⟩ := owns_slice hown4))
  all_goals have hPL : PL B p (n + 1) (w4.setCell ⟨p, 0, none⟩ (.slice ao4 (n + 1) cap4)) := ⟨ao4, cap4, _, World.cell?_setCell_same _ _ _ c4, by simpa using f4, owns_same hown4 fun g hg => Below.heap_setCell _ _ _ _ (by have := (hown4.lt g hg).1; show g ≠ p; omega)⟩
  all_goals have hsame : ∀ k, k < w.heap.size → k ≠ p → Value.ownBlock (.slice ao n cap) ≠ some k → (w4.setCell ⟨p, 0, none⟩ (.slice ao4 (n + 1) cap4)).heap[k]? = w.heap[k]? := fun k h1 h2 h4 => (Below.heap_setCell _ ⟨p, 0, none⟩ _ _ h2).trans ((hgr4.block k (by simp; omega) (Ne.symm h4)).trans ((Below.heap_alloc _ _ _ (by first | (rw [hs1]; omega) | (simp; omega))).trans (Below.heap_alloc _ _ _ h1)))
  all_goals have HC : Hid (Ch p B w (w4.setCell ⟨p, 0, none⟩ (.slice ao4 (n + 1) cap4))) := ⟨hgr4.os, hgr4.tape, hgr4.output, Nat.le_trans (Nat.le_trans (by simp; omega) hgr4.size) (by simp), fun k h1 h2 => hsame k (by omega) h2 (fun e => by have := hownp k e; omega), fun k h1' h2' h3' => ⟨hsame k h1' h2' (fun e => h3' ((rowAt_is h1).2 e)), fun hr => by
    have hr2 := (rowAt_is (World.cell?_setCell_same _ _ _ c4)).1 hr
    rcases hb4 with e | e
    · rw [e] at hr2
      exact h3' ((rowAt_is h1).2 hr2)
    · rw [e] at hr2
      simp at hr2
      omega⟩⟩
  all_goals go_wp2_with fail
  all_goals refine (iNext hPL).mono ?_
  all_goals rintro e w5 ⟨rfl, hw⟩
  all_goals have hw := hw.symm
  all_goals subst hw
  all_goals go_wp2_with fail
  all_goals go_ret
  all_goals exact ⟨by simp, hPL, HC.out⟩

set_option maxRecDepth 100000 in
theorem iPutFork {B p n : Nat} {w : World} (h : PL B p n w) (hp : p < B) (hB : B ≤ w.heap.size) (hn : n ≤ 1000000) :
    Calls Tryz.prog 60 #[.pointer (some ⟨p, 0, none⟩)] w fun e w' => e = .returned (.int .i64 n) ∧ PL B p (n + 1) w' ∧ Ch p B w w' := by
  have hnI : (n : Int) ≤ 1000000 := by omega
  go_enter Tryz.func60, Tryz.ntmps60
  go_wp2_with fail
  refine (iNext h).mono ?_
  rintro e w5 ⟨rfl, hw⟩
  have hw := hw.symm
  subst hw
  go_wp2_with fail
  refine (iPut h hp hB hn _ _ _ _ _ _).mono ?_
  rintro e w6 ⟨rfl, hP, hC⟩
  go_wp2_with fail
  go_ret
  exact ⟨rfl, hP, hC⟩

theorem row_cell6 {w : World} {B n cap : Nat} {ao : Option Addr} {xs : List Value} (h : w.ownsRow B 67 6 (.slice ao n cap) n xs) {f : Nat} (hf : f < n) : ∃ g, ao = some ⟨g, 0, none⟩ ∧ B ≤ g ∧ g < w.heap.size ∧ ∀ j, j < 6 → ∃ v, w.cell? ⟨g, f * 6 + j, none⟩ = some v := by
  rcases h.2 with ⟨h0, hn⟩ | ⟨g, cap', cur, he, hg, _⟩
  · omega
  · simp at he
    obtain ⟨rfl, rfl⟩ := he
    refine ⟨g, rfl, hg, (h.lt g rfl).2, fun j hj => ?_⟩
    have hl : f * 6 + j < xs.length := by rw [h.1]; omega
    exact ⟨xs[f * 6 + j], by rw [h.cellAt _ (by omega)]; exact List.getElem?_eq_getElem hl⟩

set_option maxRecDepth 100000 in
theorem iForkHere {B p n f : Nat} {w : World} (h : PL B p n w) (hp : p < B) (hf : f < n) (hn : n ≤ 1000000) :
    Calls Tryz.prog 61 #[.pointer (some ⟨p, 0, none⟩), .int .i64 f] w fun e w' => e = .returned (.tuple #[]) ∧ PL B p n w' ∧ Ch p B w w' := by
  obtain ⟨ao, cap, xs, h1, h2, h3⟩ := h
  obtain ⟨g, rfl, hg, hgl, hcs⟩ := row_cell6 h3 hf
  obtain ⟨v5, q5⟩ := hcs 5 (by omega)
  have fz := h3.frozenAt (f * 6 + 5)
  have hfI : (f : Int) < n := by omega
  have hnI : (n : Int) ≤ 1000000 := by omega
  have call1 : Calls Tryz.prog 62 #[.pointer (some ⟨p, 0, none⟩)] w.drew fun e w' => e = .returned (.int .i64 n) ∧ w' = w.drew := iNext ⟨_, _, _, h1, h2, h3⟩
  have hPL : PL B p n ((w.setCell ⟨g, f * 6 + 5, none⟩ (.int .i64 n)).drew) := by
    refine ⟨_, _, _, (World.cell?_of_block (w := w) (Below.heap_setCell w ⟨g, f * 6 + 5, none⟩ (.int .i64 n) p (by show p ≠ g; omega))).trans h1, ?_, (h3.stored _ _).1⟩
    exact (World.frozen?_of_block (w := w) (Below.heap_setCell w ⟨g, f * 6 + 5, none⟩ (.int .i64 n) p (by show p ≠ g; omega))).trans h2
  have hpb : ((w.setCell ⟨g, f * 6 + 5, none⟩ (.int .i64 n)).drew).heap[p]? = w.heap[p]? := Below.heap_setCell w ⟨g, f * 6 + 5, none⟩ (.int .i64 n) p (by show p ≠ g; omega)
  have HC : Ch p B w ((w.setCell ⟨g, f * 6 + 5, none⟩ (.int .i64 n)).drew) := ⟨rfl, rfl, rfl, by show w.heap.size ≤ (w.setCell ⟨g, f * 6 + 5, none⟩ (.int .i64 n)).heap.size; simp, fun k h1 _ => Below.heap_setCell w ⟨g, f * 6 + 5, none⟩ (.int .i64 n) k (by show k ≠ g; omega), fun k hk1 hk2 hr => ⟨Below.heap_setCell w ⟨g, f * 6 + 5, none⟩ (.int .i64 n) k (fun e => hr ((rowAt_is h1).2 (by show some g = some k; rw [show k = g from e]))), fun hr' => hr ((rowAt_same hpb).1 hr')⟩⟩
  go_enter Tryz.func61, Tryz.ntmps61
  go_region_with (first | (go_at_call 62; refine call1.mono ?_; rintro e w2 ⟨rfl, hw⟩; have hw := hw.symm; subst hw))
  all_goals refine bodyPost_end (v := .tuple #[]) ?_ rfl ⟨rfl, hPL, HC⟩
  all_goals simp [results, Tryz.results61]

end Rx
end Go.Proofs.YtgdnlmaacnnfiaaGreatDoor

