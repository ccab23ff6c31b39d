/-
  The laws' heldRexS: a tree that bears its marks.
-/
import Derived.Test.YtnbnbohhbflgaakDoorRexMark
namespace Go.Proofs.YtnbnbohhbflgaakDoor
open Go.RowKit
namespace Rx

theorem mark_rex {w : World} {t : Data} {k : Nat} {S : Nat → Prop} {cs : List Value} (h : RexIs w (mark t k) S cs) : ∃ (ks : List Data) (v : Value) (xs : List Value), cnt t = cnts ks + 1 ∧ deps ks + 1 = dep t ∧
    cs = [.int .i64 k, .int .i64 (k + 1 : Nat), .string (markT (k + 2)), .bool (decide ((k + 3) % 3 = 0)), v] ∧ w.ownsRow 0 31 5 v ks.length xs ∧ RexsIs w (marksOf ks (k + 4)) S xs := by
  cases t with
  | slice ks lab =>
    rw [mark, rex_nd] at h
    obtain ⟨v, xs, hc, ho, _, hx⟩ := h
    rw [marksOf_length] at ho
    refine ⟨ks, v, xs, by simp [cnt], by simp [dep], ?_, ho, rexs_mono hx fun _ h => h.1⟩
    rw [hc]
  | lit l => simp [mark, RexIs] at h
  | nil => simp [mark, RexIs] at h
  | ptr d => simp [mark, RexIs] at h
  | agg ps => simp [mark, RexIs] at h
  | iface s d => simp [mark, RexIs] at h

def HeldOk (ts : List Data) : Prop := ∀ (k : Nat) (w : World) (S : Nat → Prop) (v : Value) (xs : List Value), 1 ≤ k → k + 4 * cnts ts ≤ 900000 → w.ownsRow 0 31 5 v ts.length xs → RexsIs w (marksOf ts k) S xs → (∀ j, S j → j < w.heap.size) →
  Calls Tryd.prog 41 #[v, .int .i64 k] w fun e w' => e = .returned (.int .i64 (k + 4 * cnts ts : Nat)) ∧ Below w.heap.size w w'

set_option maxHeartbeats 1000000 in
set_option maxRecDepth 100000 in
theorem held_of {ts : List Data} (ih : ∀ ks, deps ks < deps ts → HeldOk ks) : HeldOk ts := by
  intro k w S v xs hk1 hk2 ho hx hS
  obtain ⟨ao, cap, rfl⟩ := owns_slice ho
  have hlen := cnts_len ts
  have hnI : (ts.length : Int) ≤ 900000 := by omega
  go_enter Tryd.func41, Tryd.ntmps41
  go_wp2_with fail
  go_loopw [1, 5] (fun kv i wr => ∃ j kj : Nat, j ≤ ts.length ∧ i = .int .i64 j ∧ kv = .int .i64 kj ∧ kj = k + 4 * cnts (ts.take j) ∧ Below w.heap.size w wr) (fun _ i _ => ts.length - (intOf i).toNat)
  case atStart => exact ⟨0, k, Nat.zero_le _, rfl, rfl, by simp [cnts], Below.refl _ _⟩
  case round =>
    obtain ⟨j, kj, hj, rfl, rfl, hkj, hb⟩ := hrel
    by_cases hjl : j < ts.length
    · have hji : ts[j]? = some ts[j] := List.getElem?_eq_getElem hjl
      have hmj := marksOf_at ts k j _ hji
      rw [← hkj] at hmj
      obtain ⟨T1, a, b, c, d, u, x0, x1, x2, x3, x4, hr1, hs1⟩ := rexs_at hx hmj
      obtain ⟨ks, v2, ys, hcn, hdn, he, ho2, hx2⟩ := mark_rex hr1
      simp at he
      obtain ⟨rfl, rfl, rfl, rfl, rfl⟩ := he
      obtain ⟨g, rfl, hg, hc⟩ := row_cells ho hjl
      have cc : ∀ j x, xs[j]? = some x → wr.cell? ⟨g, j, none⟩ = some x := fun j x hx => (hb.cell (p := ⟨g, j, none⟩) hg).trans (hc j x hx)
      have p0 := cc _ _ x0
      have p1 := cc _ _ x1
      have p2 := cc _ _ x2
      have p3 := cc _ _ x3
      have p4 := cc _ _ x4
      have hct := cnts_take ts j _ hji
      have hle := cnts_le ts (j + 1)
      have hdm := deps_mem (List.getElem_mem hjl)
      have hbig : kj + 4 + 4 * cnts ks ≤ 900000 := by omega
      have hS1 : ∀ i, T1 i → i < w.heap.size := fun i hi => hS i (hs1 i hi)
      have call := fun (w2 : World) (hb2 : Below w.heap.size w w2) => ih ks (by omega) (kj + 4) w2 T1 u ys (by omega) hbig (owns_same ho2 fun g h => hb2.block g (ho2.lt g h).2) (rexs_frame (fun i hi => hb2.block i (hS1 i hi)) hx2) (fun i hi => Nat.lt_of_lt_of_le (hS1 i hi) hb2.size)
      have hgw : g < wr.heap.size := Nat.lt_of_lt_of_le hg hb.size
      have hm3 : (((kj : Int) + 1 + 1 + 1) % 3 == 0) = decide (kj % 3 = 0) := by
        by_cases h3 : kj % 3 = 0
        · rw [decide_eq_true h3]; simp; omega
        · rw [decide_eq_false h3]; simp; omega
      have mt := lMarkText (kj + 2) (by omega) (by omega)
      have HK : Hid (kj + 4 + 4 * cnts ks = k + 4 * cnts (ts.take (j + 1))) := by show _ = _; omega
      have kb : (kj : Int) ≤ 900000 := by omega
      have kl : (1 : Int) ≤ kj := by omega
      obtain ⟨ao2, cap2, rfl⟩ := owns_slice ho2
      clear x0 x1 x2 x3 x4 hc cc hr1 hs1 hx ho hji hmj ih ho2 hx2 hcn hdn hct hle hdm hkj hk2 hlen hS hS1
      go_wp2_with fail
      have q2 : wr.drew.cell? ⟨g, j * 5 + 2, none⟩ = _ := p2
      go_region_with (first | (go_at_call 66; refine (mt _).mono ?_; rintro e w2 ⟨rfl, hb2⟩; have p2' := (hb2.cell (p := ⟨g, j * 5 + 2, none⟩) hgw).trans q2; have p3' := (hb2.cell (p := ⟨g, j * 5 + 3, none⟩) hgw).trans p3; have p4' := (hb2.cell (p := ⟨g, j * 5 + 4, none⟩) hgw).trans p4))
      all_goals go_wp2_with (first | (go_at_call 41; refine (call w2 (hb.trans (Below.mono (w := wr) (B := wr.heap.size) ⟨hb2.os, hb2.tape, hb2.output, hb2.size, hb2.block⟩ hb.size))).mono ?_; rintro e w3 ⟨rfl, hb3⟩))
      all_goals go_roundw
      all_goals try (simp only [intOf]; omega)
      all_goals exact ⟨j + 1, _, by omega, by go_num, by go_num, HK.out, (hb.trans (Below.mono (w := wr) (B := wr.heap.size) ⟨hb2.os, hb2.tape, hb2.output, hb2.size, hb2.block⟩ hb.size)).trans (hb3.mono (Nat.le_trans hb.size hb2.size))⟩
    · obtain rfl : j = ts.length := by omega
      rw [List.take_length] at hkj
      subst hkj
      go_wp2_with fail
      go_ret
      exact ⟨rfl, hb⟩


theorem lHeldS (ts : List Data) : HeldOk ts := by
  induction h : deps ts using Nat.strongRecOn generalizing ts with
  | ind n ih => exact held_of fun ks hk => ih (deps ks) (by omega) ks rfl

end Rx
end Go.Proofs.YtnbnbohhbflgaakDoor
