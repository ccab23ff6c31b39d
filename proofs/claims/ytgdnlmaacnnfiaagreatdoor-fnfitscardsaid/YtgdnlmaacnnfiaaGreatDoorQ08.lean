/-
  The program's sameRex at two Rex that tell the same.
  The program's RexOk at what is parsed.
  A Rex in the heap, whatever its numbers are.
-/
import Derived.Test.YtgdnlmaacnnfiaaGreatDoorQ06
import Derived.Test.YtgdnlmaacnnfiaaGreatDoorQ07
namespace Go.Proofs.YtgdnlmaacnnfiaaGreatDoor
open Go.RowKit
namespace Rx

def SameOk (t : Data) : Prop := ∀ (w : World) (S1 S2 : Nat → Prop) (a b c d u a' b' c' d' u' : Value), RexIs w t S1 [a, b, c, d, u] → RexIs w t S2 [a', b', c', d', u'] → (∀ k, S1 k → k < w.heap.size) → (∀ k, S2 k → k < w.heap.size) →
  Calls Tryz.prog 31 #[.agg #[a, b, c, d, u], .agg #[a', b', c', d', u']] w fun e w' => e = .returned (.bool true) ∧ Below w.heap.size w w'

set_option maxRecDepth 100000 in
theorem iEqualFunc {ks : List Data} (hk : ∀ t ∈ ks, SameOk t) (hn : ks.length ≤ 100000) (w : World) (S1 S2 : Nat → Prop) (v v' : Value) (xs ys : List Value) (ho : w.ownsRow 0 26 5 v ks.length xs) (ho' : w.ownsRow 0 26 5 v' ks.length ys)
    (hx : RexsIs w ks S1 xs) (hy : RexsIs w ks S2 ys) (hS1 : ∀ k, S1 k → k < w.heap.size) (hS2 : ∀ k, S2 k → k < w.heap.size) :
    Calls Tryz.prog 63 #[v, v', .func (.func 31) #[] #[]] w fun e w' => e = .returned (.bool true) ∧ Below w.heap.size w w' := by
  obtain ⟨ao, cap, rfl⟩ := owns_slice ho
  obtain ⟨ao', cap', rfl⟩ := owns_slice ho'
  have hnI : (ks.length : Int) ≤ 100000 := by omega
  go_enter Tryz.func63, Tryz.ntmps63
  go_wp2_with fail
  go_loopw [17] (fun i wr => ∃ k : Nat, k ≤ ks.length ∧ i = .int .i64 k ∧ Below w.heap.size w wr) (fun i _ => ks.length - (intOf i).toNat)
  case atStart => exact ⟨0, Nat.zero_le _, rfl, Below.refl _ _⟩
  case round =>
    obtain ⟨k, hkn, rfl, hb⟩ := hrel
    have hsz := hb.size
    by_cases hkl : k < ks.length
    · have hki : ks[k]? = some ks[k] := List.getElem?_eq_getElem hkl
      obtain ⟨T1, a, b, c, d, u, x0, x1, x2, x3, x4, hr1, hs1⟩ := rexs_at hx hki
      obtain ⟨T2, a', b', c', d', u', y0, y1, y2, y3, y4, hr2, hs2⟩ := rexs_at hy hki
      obtain ⟨g, rfl, hg, hc⟩ := row_cells ho hkl
      obtain ⟨g', rfl, hg', hc'⟩ := row_cells ho' hkl
      have cc : ∀ j x, xs[j]? = some x → wr.cell? ⟨g, j, none⟩ = some x := fun j x hx => (hb.cell (p := ⟨g, j, none⟩) hg).trans (hc j x hx)
      have cc' : ∀ j x, ys[j]? = some x → wr.cell? ⟨g', j, none⟩ = some x := fun j x hx => (hb.cell (p := ⟨g', j, none⟩) hg').trans (hc' j x hx)
      have p0 := cc _ _ x0
      have p1 := cc _ _ x1
      have p2 := cc _ _ x2
      have p3 := cc _ _ x3
      have p4 := cc _ _ x4
      have q0 := cc' _ _ y0
      have q1 := cc' _ _ y1
      have q2 := cc' _ _ y2
      have q3 := cc' _ _ y3
      have q4 := cc' _ _ y4
      have hg2 : g < wr.heap.size := by omega
      have hg2' : g' < wr.heap.size := by omega
      obtain ⟨op, c1, ss, no, a1, n1, cap1, rfl, rfl, rfl, rfl, rfl⟩ := rex_cells hr1
      obtain ⟨op', c1', ss', no', a1', n1', cap1', rfl, rfl, rfl, rfl, rfl⟩ := rex_cells hr2
      obtain ⟨w2, hw2⟩ : ∃ w2, w2 = (wr.alloc (.cells #[.int .i64 op, .int .i64 c1, .string ⟨ss.toArray⟩, .bool no, .slice a1 n1 cap1] 26)).alloc (.cells #[.int .i64 op', .int .i64 c1', .string ⟨ss'.toArray⟩, .bool no', .slice a1' n1' cap1'] 26) := ⟨_, rfl⟩
      have hb2 : Below wr.heap.size wr w2 := by rw [hw2]; exact ((Below.refl _ wr).alloc (Nat.le_refl _) _).alloc (by simp) _
      have call := hk ks[k] (List.getElem_mem hkl) w2 T1 T2 _ _ _ _ _ _ _ _ _ _ (rex_frame (w' := w2) _ _ _ (fun j hj => (hb2.block j (by have := hS1 j (hs1 j hj); omega)).trans (hb.block j (hS1 j (hs1 j hj)))) hr1) (rex_frame (w' := w2) _ _ _ (fun j hj => (hb2.block j (by have := hS2 j (hs2 j hj); omega)).trans (hb.block j (hS2 j (hs2 j hj)))) hr2) (fun j hj => by have := hS1 j (hs1 j hj); have := hb2.size; omega) (fun j hj => by have := hS2 j (hs2 j hj); have := hb2.size; omega)
      subst hw2
      clear x0 x1 x2 x3 x4 y0 y1 y2 y3 y4 hc hc' cc cc' hr1 hr2 hs1 hs2 hx hy ho ho' hki hk
      go_wp2_with fail
      refine call.mono ?_
      rintro e w3 ⟨rfl, hb3⟩
      go_wp2_with fail
      go_roundw
      case rel => exact ⟨k + 1, by omega, by go_num, hb.trans ((hb2.trans (hb3.mono (by simp; omega))).mono hsz)⟩
      case measure => simp [intOf]; omega
    · obtain rfl : k = ks.length := by omega
      go_wp2_with fail
      go_ret
      exact ⟨rfl, hb⟩

theorem iSameRex : ∀ (n : Nat) (t : Data), dep t ≤ n → cnt t ≤ 100000 → SameOk t := by
  intro n
  induction n with
  | zero => intro t hd _ w S1 S2 a b c d u a' b' c' d' u' h; obtain ⟨op, c, s, no, ks, rfl⟩ := rex_node h; rw [dep_nd] at hd; omega
  | succ n ih =>
    intro t hd hc w S1 S2 a b c d u a' b' c' d' u' h h' hS1 hS2
    obtain ⟨op, cc, s, no, ks, rfl⟩ := rex_node h
    rw [dep_nd] at hd
    rw [cnt_nd] at hc
    rw [rex_nd] at h h'
    obtain ⟨v, xs, he, ho, hg, hx⟩ := h
    obtain ⟨v', ys, he', ho', hg', hy⟩ := h'
    simp at he he'
    obtain ⟨rfl, rfl, rfl, rfl, rfl⟩ := he
    obtain ⟨rfl, rfl, rfl, rfl, rfl⟩ := he'
    have hlen := cnts_len ks
    have hkids : ∀ t ∈ ks, SameOk t := fun t ht => ih t (by have := deps_mem ht; omega) (by have := cnts_mem ht; omega)
    obtain ⟨o1, ho1⟩ : ∃ o1, o1 = Obj.cells #[.int .i64 op, .int .i64 cc, .string ⟨s.toArray⟩, .bool no, u] 26 := ⟨_, rfl⟩
    obtain ⟨o2, ho2⟩ : ∃ o2, o2 = Obj.cells #[.int .i64 op, .int .i64 cc, .string ⟨s.toArray⟩, .bool no, u'] 26 := ⟨_, rfl⟩
    have hb : Below w.heap.size w ((w.alloc o1).alloc o2) := ((Below.refl _ w).alloc (Nat.le_refl _) _).alloc (by simp) _
    have call := iEqualFunc hkids (by omega) ((w.alloc o1).alloc o2) _ _ u u' xs ys (owns_same ho fun g h => hb.block g (ho.lt g h).2) (owns_same ho' fun g h => hb.block g (ho'.lt g h).2) (rexs_frame (fun j hj => hb.block j (hS1 j hj.1)) hx) (rexs_frame (fun j hj => hb.block j (hS2 j hj.1)) hy) (fun j hj => Nat.lt_of_lt_of_le (hS1 j hj.1) hb.size) (fun j hj => Nat.lt_of_lt_of_le (hS2 j hj.1) hb.size)
    obtain ⟨ao, cap, rfl⟩ := owns_slice ho
    obtain ⟨ao', cap', rfl⟩ := owns_slice ho'
    subst ho1 ho2
    clear ho ho' hx hy hkids ih
    go_enter Tryz.func31, Tryz.ntmps31
    go_wp2_with fail
    refine call.mono ?_
    rintro e w2 ⟨rfl, hb2⟩
    go_wp2_with fail
    go_ret
    exact ⟨rfl, hb.trans (hb2.mono hb.size)⟩

end Rx
end Go.Proofs.YtgdnlmaacnnfiaaGreatDoor

namespace Go.Proofs.YtgdnlmaacnnfiaaGreatDoor
open Go.RowKit
namespace Rx

theorem ok_idle (a : Value) (w : World) :
    CallsD Tryz.prog 30 #[a] .returning w fun e u' w' => e = .returned (.tuple #[]) ∧ u' = .returning ∧ w' = w := by
  refine callsD_of_wpS Tryz.func30 rfl fun c₀ cs hu => ?_
  apply wpS_seq
  apply wpS_region
  simp [wpOpsS, go_sem, recoverD, hu, Tryz.ntmps30, Exit.thenS]
  refine wpS_cond (t := false) (by simp [Act.eval, Array.replicate]) ?_
  simp only [Bool.false_eq_true, if_false]
  refine wpS_of_wp (wp_skip ?_)
  cases c₀
  simp_all [bodyPostS, results, Tryz.results30]

set_option maxHeartbeats 2000000 in
set_option maxRecDepth 100000 in
theorem iRexOk {W : World} (hSet : SetOk W) {t : Data} (hR : RightD 12 t) (hc : cnt t ≤ 1000) (w : World) (hW : Below W.heap.size W w) (S : Nat → Prop) (a b c d u : Value) (h : RexIs w t S [a, b, c, d, u]) (hS : ∀ k, S k → k < w.heap.size) :
    Calls Tryz.prog 11 #[.agg #[a, b, c, d, u]] w fun e w' => e = .returned (.bool true) ∧ Below w.heap.size w w' := by
  have hP : ∀ w1, Below w.heap.size w w1 → Calls Tryz.prog 22 #[.agg #[a, b, c, d, u], .int .i64 12] w1 fun e w' => PatRet t w1 e w' := fun w1 hb => iPatternOf hSet 12 t hR (by omega) (by omega) w1 S a b c d u (hW.trans (hb.mono hW.size)) (rex_frame _ _ _ (fun k hk => hb.block k (hS k hk)) h) (fun k hk => Nat.lt_of_lt_of_le (hS k hk) hb.size)
  have hO : ∀ w1 lo v, PatIs w1 t (Iv lo w1.heap.size) v → Calls Tryz.prog 32 #[v] w1 fun e w' => RexRet t w1 e w' := fun w1 lo v hv => iRexOf (dep t) t _ v w1 (Nat.le_refl _) (by omega) hv (fun k hk => hk.2)
  have hE : ∀ w1 lo a' b' c' d' u', Below w.heap.size w w1 → RexIs w1 t (Iv lo w1.heap.size) [a', b', c', d', u'] → Calls Tryz.prog 31 #[.agg #[a', b', c', d', u'], .agg #[a, b, c, d, u]] w1 fun e w' => e = .returned (.bool true) ∧ Below w1.heap.size w1 w' := by
    intro w1 lo a' b' c' d' u' hb hx
    have hs := iSameRex (dep t) t (Nat.le_refl _) (by omega)
    unfold SameOk at hs
    exact hs w1 _ S _ _ _ _ _ _ _ _ _ _ hx (rex_frame _ _ _ (fun k hk => hb.block k (hS k hk)) h) (fun k hk => hk.2) (fun k hk => Nat.lt_of_lt_of_le (hS k hk) hb.size)
  obtain ⟨op, cc, ss, no, ao, n, cap, rfl, rfl, rfl, rfl, rfl⟩ := rex_cells h
  clear h hR
  obtain ⟨o1, ho1⟩ : ∃ o1, o1 = Obj.cells #[.int .i64 op, .int .i64 cc, .string ⟨ss.toArray⟩, .bool no, .slice ao n cap] 26 := ⟨_, rfl⟩
  obtain ⟨o2, ho2⟩ : ∃ o2, o2 = Obj.cells #[.bool false] 4 := ⟨_, rfl⟩
  have hb0 : Below w.heap.size w ((w.alloc o1).alloc o2) := ((Below.refl _ w).alloc (Nat.le_refl _) _).alloc (by simp) _
  have hV0 : Var ((w.alloc o1).alloc o2) w.heap.size (.int .i64 op) (.int .i64 cc) (.string ⟨ss.toArray⟩) (.bool no) (.slice ao n cap) := by
    unfold Var
    rw [Below.heap_alloc _ _ _ (by simp), heap_alloc_last, ho1]
  have hF0 : Flag ((w.alloc o1).alloc o2) (w.heap.size + 1) false := by
    have := heap_alloc_last (w.alloc o1) o2
    unfold Flag
    rw [ho2] at this ⊢
    simpa using this
  have hz0 : ((w.alloc o1).alloc o2).heap.size = w.heap.size + 2 := by simp
  have hK : ∀ w1 : World, Below (w.heap.size + 2) ((w.alloc o1).alloc o2) w1 → Var w1 w.heap.size (.int .i64 op) (.int .i64 cc) (.string ⟨ss.toArray⟩) (.bool no) (.slice ao n cap) ∧ Flag w1 (w.heap.size + 1) false ∧ Below w.heap.size w w1 := fun w1 hb => ⟨hV0.kept (hb.block _ (by omega)), hF0.kept (hb.block _ (by omega)), hb0.trans (hb.mono (by omega))⟩
  obtain ⟨W2, hW2⟩ : ∃ W2, W2 = (w.alloc o1).alloc o2 := ⟨_, rfl⟩
  have k0 := hV0.cell.1
  have k1 := hV0.cell.2.1
  have k2 := hV0.cell.2.2.1
  have k3 := hV0.cell.2.2.2.1
  have k4 := hV0.cell.2.2.2.2
  subst ho1 ho2
  rw [← hW2] at hK hz0 hb0 k0 k1 k2 k3 k4
  go_enter_defers Tryz.func11, Tryz.ntmps11
  go_wp2_with fail
  rw [← hW2]
  clear hV0 hF0 hW2
  go_region_with (first | (go_at_call 22; refine (hP _ (by first | exact hb0 | exact hb0.drew | exact hb0.drew.drew | exact hb0.drew.drew.drew)).mono ?_; rintro e w1 ⟨v1, rfl, hv1, hb1⟩; obtain ⟨T1, y1, rfl⟩ := pat_iface hv1; have hq1 : Below (w.heap.size + 2) W2 w1 := ⟨hb1.os, hb1.tape, hb1.output, hb1.size, fun k hk => hb1.block k (by show k < W2.heap.size; omega)⟩; obtain ⟨hV1, hF1, hB1⟩ := hK w1 hq1; have m0 := hV1.cell.1; have m1 := hV1.cell.2.1; have m2 := hV1.cell.2.2.1; have m3 := hV1.cell.2.2.2.1; have m4 := hV1.cell.2.2.2.2) | (go_at_call 32; refine (hO _ _ _ (pat_frame (w := w1) (fun _ _ => rfl) (fun _ h => h) t _ hv1)).mono ?_; rintro e w2 ⟨a2, b2, c2, d2, u2, rfl, hb2, hx2⟩; obtain ⟨op2, cc2, ss2, no2, ao2, n2, cap2, rfl, rfl, rfl, rfl, rfl⟩ := rex_cells hx2; have hq2 : Below (w.heap.size + 2) W2 w2 := hq1.trans ⟨hb2.os, hb2.tape, hb2.output, hb2.size, fun k hk => hb2.block k (by show k < w1.heap.size; have := hq1.size; omega)⟩; obtain ⟨hV2, hF2, hB2⟩ := hK w2 hq2; have j0 := hV2.cell.1; have j1 := hV2.cell.2.1; have j2 := hV2.cell.2.2.1; have j3 := hV2.cell.2.2.2.1; have j4 := hV2.cell.2.2.2.2) | (go_at_call 31; refine (hE _ _ _ _ _ _ _ (by first | exact hB2 | exact hB2.drew | exact hB2.drew.drew | exact hB2.drew.drew.drew) (rex_frame (w := w2) t _ _ (fun _ _ => rfl) hx2)).mono ?_; rintro e w3 ⟨rfl, hb3⟩; have hq3 : Below (w.heap.size + 2) W2 w3 := hq2.trans ⟨hb3.os, hb3.tape, hb3.output, hb3.size, fun k hk => hb3.block k (by show k < w2.heap.size; have := hq2.size; omega)⟩; obtain ⟨hV3, hF3, hB3⟩ := hK w3 hq3; have i0 := hF3.cell; have i1 := hF3.frozen))
  all_goals go_wp2_with fail
  all_goals refine leaves_cons (f := 30) (args := #[.pointer (some ⟨w.heap.size + 1, 0, none⟩)]) (by simp) (by simp [go_sem]) ?_
  all_goals refine (ok_idle _ _).mono ?_
  all_goals rintro e u' w'' ⟨rfl, rfl, hw⟩
  all_goals subst hw
  all_goals have x5 := (hF3.set true).cell
  all_goals have HB : Hid (Below w.heap.size w (w3.setCell ⟨w.heap.size + 1, 0, none⟩ (.bool true))) := hB3.setCell (show w.heap.size ≤ w.heap.size + 1 by omega) _
  all_goals clear hV1 hV2 hV3 hF1 hF2 hF3 hP hO hE hK hB3
  all_goals simp [Leaves, settle, results, Tryz.results11, go_sem, x5]
  all_goals exact HB.out

end Rx
end Go.Proofs.YtgdnlmaacnnfiaaGreatDoor

namespace Go.Proofs.YtgdnlmaacnnfiaaGreatDoor
open Go.RowKit
namespace Rx

/-- A Rex of any numbers. -/
def ndZ (op c : Int) (set : List UInt8) (no : Bool) (kids : List Data) : Data := .slice kids [.lit (.int .i64 op), .lit (.int .i64 c), .lit (.string set), .lit (.bool no)]
theorem ndZ_inj {op c op' c' : Int} {s s' : List UInt8} {n n' : Bool} {k k' : List Data} (h : ndZ op c s n k = ndZ op' c' s' n' k') : op = op' ∧ c = c' ∧ s = s' ∧ n = n' ∧ k = k' := by
  simp only [ndZ, Data.slice.injEq, List.cons.injEq, Data.lit.injEq, Lit.int.injEq, Lit.string.injEq, Lit.bool.injEq, true_and, and_true] at h
  exact ⟨h.2.1, h.2.2.1, h.2.2.2.1, h.2.2.2.2, h.1⟩
theorem nd_Z (op c : Nat) (s : List UInt8) (no : Bool) (ks : List Data) : nd op c s no ks = ndZ op c s no ks := rfl

mutual
def RexZ (w : World) : Data → (Nat → Prop) → List Value → Prop
  | .slice ks lab, S, cs => ∃ (op c : Int) (s : List UInt8) (no : Bool) (v : Value) (xs : List Value), lab = [.lit (.int .i64 op), .lit (.int .i64 c), .lit (.string s), .lit (.bool no)] ∧
      cs = [.int .i64 op, .int .i64 c, .string ⟨s.toArray⟩, .bool no, v] ∧ w.ownsRow 0 26 5 v ks.length xs ∧ (∀ g, v.ownBlock = some g → S g) ∧ RexZs w ks (fun k => S k ∧ v.ownBlock ≠ some k) xs
  | _, _, _ => False
def RexZs (w : World) : List Data → (Nat → Prop) → List Value → Prop
  | [], _, xs => xs = []
  | t :: ts, S, xs => ∃ (S1 S2 : Nat → Prop) (c1 c2 : List Value), xs = c1 ++ c2 ∧ RexZ w t S1 c1 ∧ RexZs w ts S2 c2 ∧ (∀ k, S1 k → S k ∧ ¬ S2 k) ∧ (∀ k, S2 k → S k)
end

theorem rexZ_nd {w : World} {op c : Int} {s : List UInt8} {no : Bool} {ks : List Data} {S : Nat → Prop} {cs : List Value} :
    RexZ w (ndZ op c s no ks) S cs ↔ ∃ (v : Value) (xs : List Value), cs = [.int .i64 op, .int .i64 c, .string ⟨s.toArray⟩, .bool no, v] ∧ w.ownsRow 0 26 5 v ks.length xs ∧
      (∀ g, v.ownBlock = some g → S g) ∧ RexZs w ks (fun k => S k ∧ v.ownBlock ≠ some k) xs := by
  unfold ndZ
  rw [RexZ]
  constructor
  · rintro ⟨op', c', s', no', v, xs, hl, hc, h⟩
    have := ndZ_inj (show ndZ op c s no [] = ndZ op' c' s' no' [] by unfold ndZ; rw [hl])
    obtain ⟨rfl, rfl, rfl, rfl, _⟩ := this
    exact ⟨v, xs, hc, h⟩
  · rintro ⟨v, xs, hc, h⟩
    exact ⟨op, c, s, no, v, xs, rfl, hc, h⟩
theorem rexZ_node {w : World} {t : Data} {S : Nat → Prop} {cs : List Value} (h : RexZ w t S cs) : ∃ op c s no ks, t = ndZ op c s no ks := by
  cases t <;> simp only [RexZ] at h
  obtain ⟨op, c, s, no, v, xs, rfl, _⟩ := h
  exact ⟨op, c, s, no, _, rfl⟩
theorem rexZ_len {w : World} {t : Data} {S : Nat → Prop} {cs : List Value} (h : RexZ w t S cs) : cs.length = 5 := by
  obtain ⟨op, c, s, no, ks, rfl⟩ := rexZ_node h
  rw [rexZ_nd] at h
  obtain ⟨v, xs, rfl, _⟩ := h
  rfl
theorem rexZ_cells {w : World} {t : Data} {S : Nat → Prop} {a b c d u : Value} (h : RexZ w t S [a, b, c, d, u]) : ∃ (op cc : Int) (s : List UInt8) (no : Bool) (ao : Option Addr) (n cap : Nat), a = .int .i64 op ∧ b = .int .i64 cc ∧ c = .string ⟨s.toArray⟩ ∧ d = .bool no ∧ u = .slice ao n cap := by
  obtain ⟨op, c', s, no, ks, rfl⟩ := rexZ_node h
  rw [rexZ_nd] at h
  obtain ⟨v, xs, hc, ho, _⟩ := h
  simp at hc
  obtain ⟨rfl, rfl, rfl, rfl, rfl⟩ := hc
  obtain ⟨ao, cap, rfl⟩ := owns_slice ho
  exact ⟨op, c', s, no, ao, _, cap, rfl, rfl, rfl, rfl, rfl⟩
theorem rexZs_frame_of {w w' : World} : ∀ (ts : List Data) (S : Nat → Prop) (xs : List Value), (∀ t ∈ ts, ∀ (S : Nat → Prop) (cs : List Value), (∀ k, S k → w'.heap[k]? = w.heap[k]?) → RexZ w t S cs → RexZ w' t S cs) →
    (∀ k, S k → w'.heap[k]? = w.heap[k]?) → RexZs w ts S xs → RexZs w' ts S xs
  | [], S, xs, _, _, h => by simpa only [RexZs] using h
  | t :: ts, S, xs, hT, hS, h => by
    simp only [RexZs] at h ⊢
    obtain ⟨S1, S2, c1, c2, hx, h1, h2, h3, h4⟩ := h
    exact ⟨S1, S2, c1, c2, hx, hT t (by simp) S1 c1 (fun k hk => hS k (h3 k hk).1) h1, rexZs_frame_of ts S2 c2 (fun t ht => hT t (by simp [ht])) (fun k hk => hS k (h4 k hk)) h2, h3, h4⟩
theorem rexZ_frame {w w' : World} (t : Data) : ∀ (S : Nat → Prop) (cs : List Value), (∀ k, S k → w'.heap[k]? = w.heap[k]?) → RexZ w t S cs → RexZ w' t S cs := by
  induction t using rex_ind with
  | h ks lab ih =>
    intro S cs hS h
    rw [RexZ] at h ⊢
    obtain ⟨op, c, s, no, v, xs, hl, hc, ho, hg, hk⟩ := h
    exact ⟨op, c, s, no, v, xs, hl, hc, owns_same ho fun g h => hS g (hg g h), hg, rexZs_frame_of ks _ _ ih (fun k hk => hS k hk.1) hk⟩
  | h1 t ht =>
    intro S cs hS h
    obtain ⟨op, c, s, no, ks, rfl⟩ := rexZ_node h
    exact absurd rfl (ht _ _)
theorem rexZs_at {w : World} : ∀ {ts : List Data} {S : Nat → Prop} {xs : List Value} {i : Nat} {t : Data}, RexZs w ts S xs → ts[i]? = some t → ∃ (S1 : Nat → Prop) (a b c d u : Value), xs[i * 5]? = some a ∧ xs[i * 5 + 1]? = some b ∧ xs[i * 5 + 2]? = some c ∧ xs[i * 5 + 3]? = some d ∧ xs[i * 5 + 4]? = some u ∧ RexZ w t S1 [a, b, c, d, u] ∧ ∀ k, S1 k → S k
  | [], S, xs, i, t, h, hi => by simp at hi
  | t' :: ts, S, xs, 0, t, h, hi => by
    simp only [RexZs] at h
    obtain ⟨S1, S2, c1, c2, rfl, h1, _, h3, _⟩ := h
    simp at hi
    subst hi
    have hl := rexZ_len h1
    match c1, hl with
    | [a, b, c, d, u], _ => exact ⟨S1, a, b, c, d, u, by simp, by simp, by simp, by simp, by simp, h1, fun k hk => (h3 k hk).1⟩
  | t' :: ts, S, xs, i + 1, t, h, hi => by
    simp only [RexZs] at h
    obtain ⟨S1, S2, c1, c2, rfl, h1, h2, _, h4⟩ := h
    simp at hi
    have hl := rexZ_len h1
    obtain ⟨S3, a, b, c, d, u, e1, e2, e3, e4, e5, h5, h6⟩ := rexZs_at h2 hi
    have sh : ∀ j, (c1 ++ c2)[(i + 1) * 5 + j]? = c2[i * 5 + j]? := fun j => by
      rw [List.getElem?_append_right (by omega)]
      congr 1
      omega
    exact ⟨S3, a, b, c, d, u, (sh 0).trans e1, (sh 1).trans e2, (sh 2).trans e3, (sh 3).trans e4, (sh 4).trans e5, h5, fun k hk => h4 k (h6 k hk)⟩

theorem rexZs_of : ∀ {w : World} (ts : List Data), (∀ t ∈ ts, ∀ (S : Nat → Prop) (cs : List Value), RexIs w t S cs → RexZ w t S cs) → ∀ (S : Nat → Prop) (xs : List Value), RexsIs w ts S xs → RexZs w ts S xs
  | w, [], _, S, xs, h => by simpa only [RexsIs, RexZs] using h
  | w, t :: ts, hT, S, xs, h => by
    simp only [RexsIs] at h
    simp only [RexZs]
    obtain ⟨S1, S2, c1, c2, hx, h1, h2, h3, h4⟩ := h
    exact ⟨S1, S2, c1, c2, hx, hT t (by simp) S1 c1 h1, rexZs_of ts (fun t ht => hT t (by simp [ht])) S2 c2 h2, h3, h4⟩
theorem rexZ_of {w : World} (t : Data) : ∀ (S : Nat → Prop) (cs : List Value), RexIs w t S cs → RexZ w t S cs := by
  induction t using rex_ind with
  | h ks lab ih =>
    intro S cs h
    rw [RexIs] at h
    rw [RexZ]
    obtain ⟨op, c, s, no, v, xs, hl, hc, ho, hg, hk⟩ := h
    exact ⟨op, c, s, no, v, xs, hl, hc, ho, hg, rexZs_of ks ih _ _ hk⟩
  | h1 t ht =>
    intro S cs h
    obtain ⟨op, c, s, no, ks, rfl⟩ := rex_node h
    exact absurd rfl (ht _ _)

/-- A right tree's numbers are none below 0. -/
theorem rexs_ofZ {w : World} {d : Nat} (ih : ∀ t, RightD d t → ∀ (S : Nat → Prop) (cs : List Value), RexZ w t S cs → RexIs w t S cs) : ∀ (ts : List Data), (∀ t ∈ ts, RightD d t) → ∀ (S : Nat → Prop) (xs : List Value), RexZs w ts S xs → RexsIs w ts S xs
  | [], _, S, xs, h => by simpa only [RexsIs, RexZs] using h
  | t :: ts, hT, S, xs, h => by
    simp only [RexZs] at h
    simp only [RexsIs]
    obtain ⟨S1, S2, c1, c2, hx, h1, h2, h3, h4⟩ := h
    exact ⟨S1, S2, c1, c2, hx, ih t (hT t (by simp)) S1 c1 h1, rexs_ofZ ih ts (fun t ht => hT t (by simp [ht])) S2 c2 h2, h3, h4⟩
theorem rex_ofZ {w : World} : ∀ (d : Nat) (t : Data), RightD d t → ∀ (S : Nat → Prop) (cs : List Value), RexZ w t S cs → RexIs w t S cs := by
  intro d
  induction d with
  | zero => intro t h; exact h.elim
  | succ d ih =>
    intro t hR S cs h
    obtain ⟨op, c, ss, no, ks, ht, hk⟩ : ∃ (op c : Nat) (ss : List UInt8) (no : Bool) (ks : List Data), t = nd op c ss no ks ∧ ∀ k ∈ ks, RightD d k := by
      rw [RightD] at hR
      rcases hR with ⟨b, _, rfl⟩ | ⟨op, _, rfl⟩ | ⟨M, no, _, rfl⟩ | ⟨op, k, _, rfl, hk⟩ | ⟨op, ks, _, rfl, _, hk⟩
      · exact ⟨1, b, [], false, [], rfl, by simp⟩
      · exact ⟨op, 0, [], false, [], rfl, by simp⟩
      · exact ⟨3, 0, bytesOf M, no, [], rfl, by simp⟩
      · exact ⟨op, 0, [], false, [k], rfl, by simpa using hk⟩
      · exact ⟨op, 0, [], false, ks, rfl, hk⟩
    subst ht
    rw [nd_Z, rexZ_nd] at h
    rw [rex_nd]
    obtain ⟨v, xs, hc, ho, hg, hx⟩ := h
    exact ⟨v, xs, hc, ho, hg, rexs_ofZ ih ks hk _ _ hx⟩

end Rx
end Go.Proofs.YtgdnlmaacnnfiaaGreatDoor

