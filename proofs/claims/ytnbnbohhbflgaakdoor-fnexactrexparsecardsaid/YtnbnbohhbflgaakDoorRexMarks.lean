/-
  The laws' markRex and heldRex.
-/
import Derived.Test.YtnbnbohhbflgaakDoorRexMarkS
namespace Go.Proofs.YtnbnbohhbflgaakDoor
open Go.RowKit
namespace Rx

theorem lMarkRex {op c : Nat} {s : List UInt8} {no : Bool} {ks : List Data} {w : World} {S : Nat → Prop} {u : Value} (hc : cnts ks ≤ 100000) (h : RexIs w (nd op c s no ks) S [.int .i64 op, .int .i64 c, .string ⟨s.toArray⟩, .bool no, u]) (hS : ∀ j, S j → j < w.heap.size) :
    Calls Tryd.prog 17 #[.agg #[.int .i64 op, .int .i64 c, .string ⟨s.toArray⟩, .bool no, u], .int .i64 1] w fun e w' => e = .returned (.int .i64 (1 + 4 * cnts ks : Nat)) ∧
      RexIs w' (nd op c s no (marksOf ks 1)) S [.int .i64 op, .int .i64 c, .string ⟨s.toArray⟩, .bool no, u] ∧ w.heap.size ≤ w'.heap.size ∧ (w'.os = w.os ∧ w'.tape = w.tape ∧ w'.output = w.output) ∧ ∀ j, j < w.heap.size → ¬ S j → w'.heap[j]? = w.heap[j]? := by
  rw [rex_nd] at h
  obtain ⟨v, xs, he, ho, hg, hx⟩ := h
  simp at he
  subst he
  obtain ⟨ao, cap, rfl⟩ := owns_slice ho
  obtain ⟨o1, ho1⟩ : ∃ o1, o1 = Obj.cells #[.int .i64 op, .int .i64 c, .string ⟨s.toArray⟩, .bool no, .slice ao ks.length cap] 31 := ⟨_, rfl⟩
  have hb : Below w.heap.size w (w.alloc o1) := (Below.refl _ w).alloc (Nat.le_refl _) _
  have call := lMarkS ks 1 (w.alloc o1) _ _ xs (Nat.le_refl _) (by omega) (owns_same ho fun b h => hb.block b (ho.lt b h).2) (rexs_frame (fun b h => hb.block b (hS b h.1)) hx) (fun b h => ⟨Nat.lt_of_lt_of_le (hS b h.1) hb.size, h.2⟩)
  have hcI : (cnts ks : Int) ≤ 100000 := by omega
  subst ho1
  clear ho hx
  go_enter Tryd.func17, Tryd.ntmps17
  go_wp2_with (go_at_call 40; refine call.mono ?_; rintro e w2 ⟨rfl, zs, ho2, hx2, hT⟩)
  go_ret
  have hsz := hT.size
  simp at hsz
  refine ⟨rfl, ?_, by omega, ⟨hT.os, hT.tape, hT.output⟩, fun j hj hns => ?_⟩
  · rw [rex_nd]
    exact ⟨_, zs, rfl, by rw [marksOf_length]; exact ho2, hg, hx2⟩
  · exact (hT.block j (by simp; omega) (fun h => hns h.1) (fun h => hns (hg j h))).trans (hb.block j hj)

theorem lHeldRex {op c : Nat} {s : List UInt8} {no : Bool} {ks : List Data} {w : World} {S : Nat → Prop} {u : Value} (hc : cnts ks ≤ 100000) (h : RexIs w (nd op c s no (marksOf ks 1)) S [.int .i64 op, .int .i64 c, .string ⟨s.toArray⟩, .bool no, u]) (hS : ∀ j, S j → j < w.heap.size) :
    Calls Tryd.prog 18 #[.agg #[.int .i64 op, .int .i64 c, .string ⟨s.toArray⟩, .bool no, u], .int .i64 1] w fun e w' => e = .returned (.int .i64 (1 + 4 * cnts ks : Nat)) ∧ Below w.heap.size w w' := by
  rw [rex_nd] at h
  obtain ⟨v, xs, he, ho, hg, hx⟩ := h
  simp at he
  subst he
  rw [marksOf_length] at ho
  obtain ⟨ao, cap, rfl⟩ := owns_slice ho
  obtain ⟨o1, ho1⟩ : ∃ o1, o1 = Obj.cells #[.int .i64 op, .int .i64 c, .string ⟨s.toArray⟩, .bool no, .slice ao ks.length cap] 31 := ⟨_, rfl⟩
  have hb : Below w.heap.size w (w.alloc o1) := (Below.refl _ w).alloc (Nat.le_refl _) _
  have call := lHeldS ks 1 (w.alloc o1) _ _ xs (Nat.le_refl _) (by omega) (owns_same ho fun b h => hb.block b (ho.lt b h).2) (rexs_frame (fun b h => hb.block b (hS b h.1)) hx) (fun b h => Nat.lt_of_lt_of_le (hS b h.1) hb.size)
  have hcI : (cnts ks : Int) ≤ 100000 := by omega
  have hn : ¬ ((1 + 4 * cnts ks : Nat) : Int) < 0 := by omega
  subst ho1
  clear ho hx
  go_enter Tryd.func18, Tryd.ntmps18
  go_wp2_with (go_at_call 41; refine call.mono ?_; rintro e w2 ⟨rfl, hb2⟩)
  go_ret
  exact ⟨rfl, hb.trans (hb2.mono hb.size)⟩

end Rx
end Go.Proofs.YtnbnbohhbflgaakDoor
