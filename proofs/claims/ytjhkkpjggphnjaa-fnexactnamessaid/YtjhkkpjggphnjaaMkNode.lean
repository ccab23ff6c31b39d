/-
  The laws' markNodeS: a list of nodes gets its marks; nothing else turns.
-/
import Derived.Test.YtjhkkpjggphnjaaMkText
namespace Go.Proofs.Ytjhkkpjggphnjaa
open Go.RowKit
namespace Mk
open Nd

def MarkOk (ts : List Data) : Prop := ∀ (k : Nat) (w : World) (S : Nat → Prop) (v : Value) (xs : List Value), 1 ≤ k → k + 3 * cnts ts ≤ 9000000 → w.ownsRow 0 43 4 v ts.length xs → NodesIs w ts S xs → (∀ j, S j → j < w.heap.size ∧ v.ownBlock ≠ some j) →
  Calls Try.prog 23 #[v, .int .i64 k] w fun e w' => e = .returned (.int .i64 (k + 3 * cnts ts : Nat)) ∧ Turned S v w w'

set_option maxHeartbeats 1000000 in
set_option maxRecDepth 100000 in
theorem mark_of {ts : List Data} (ih : ∀ ks, deps ks < deps ts → MarkOk ks) : MarkOk ts := by
  intro k w S v xs hk1 hk2 ho hx hS
  obtain ⟨ao, cap, rfl⟩ := owns_slice ho
  have hlen := cnts_len ts
  have hnI : (ts.length : Int) ≤ 9000000 := by omega
  go_enter Try.func23, Try.ntmps23
  go_wp2_with fail
  go_loopw [1, 5] (fun kv i wr => ∃ (j kj : Nat) (xj : List Value) (Sj : Nat → Prop), j ≤ ts.length ∧ i = .int .i64 j ∧ kv = .int .i64 kj ∧ kj = k + 3 * cnts (ts.take j) ∧ wr.ownsRow 0 43 4 (.slice ao ts.length cap) ts.length xj ∧ NodesIs wr (ts.drop j) Sj (xj.drop (j * 4)) ∧ (∀ b, Sj b → S b) ∧ Turned S (.slice ao ts.length cap) w wr) (fun _ i _ => ts.length - (intOf i).toNat)
  case atStart => exact ⟨0, k, xs, S, Nat.zero_le _, rfl, rfl, by simp [cnts], ho, by simpa using hx, fun _ h => h, Turned.refl _ _ _⟩
  case round =>
    clear hx ho xs
    obtain ⟨j, kj, xj, Sj, hj, rfl, rfl, hkj, ho, hx, hSj, hT⟩ := hrel
    by_cases hjl : j < ts.length
    · have hji : ts[j]? = some ts[j] := List.getElem?_eq_getElem hjl
      have hdrop : ts.drop j = ts[j] :: ts.drop (j + 1) := List.drop_eq_getElem_cons hjl
      rw [hdrop] at hx
      obtain ⟨T1, T2, c1, c2, hxx, hr, hB, s1, s2⟩ := hx
      have hl1 := node_len hr
      have hc2 : c2 = xj.drop ((j + 1) * 4) := by
        have : (c1 ++ c2).drop 4 = c2 := by rw [← hl1]; exact List.drop_left
        rw [← this, ← hxx, List.drop_drop, show (j + 1) * 4 = j * 4 + 4 by omega]
      obtain ⟨g, rfl, hg, hc⟩ := row_cells ho hjl
      have hgS : ¬ S g := fun h => (hS g h).2 rfl
      match c1, hl1 with
      | [a0, a1, a2, a3], _ =>
      obtain ⟨op, n, s, ao2, cap2, ys, ht, rfl, rfl, rfl, rfl, ho2, hu, hy⟩ := node_form hr
      have hget : ∀ i x, [Value.int .i64 op, .int .i64 n, .string ⟨s.toArray⟩, .slice ao2 (kidsOf ts[j]).length cap2][i]? = some x → wr.cell? ⟨g, j * 4 + i, none⟩ = some x := fun i x hi => hc _ _ (by
        have : (xj.drop (j * 4))[i]? = some x := by rw [hxx, List.getElem?_append_left (by simpa using (List.getElem?_eq_some_iff.1 hi).1)]; exact hi
        simpa using this)
      have p0 : wr.cell? ⟨g, j * 4, none⟩ = some (.int .i64 op) := hget 0 _ rfl
      have p1 := hget 1 _ rfl
      have p2 := hget 2 _ rfl
      have p3 := hget 3 _ rfl
      obtain ⟨cs0, hrow⟩ := row_block ho
      have f0 := frozen_of_row hrow (j * 4)
      have f1 := frozen_of_row hrow (j * 4 + 1)
      have f2 := frozen_of_row hrow (j * 4 + 2)
      have hct := cnts_take ts j _ hji
      have hle := cnts_le ts (j + 1)
      have hdm := deps_mem (List.getElem_mem hjl)
      rw [cnt_kids] at hct
      rw [dep_kids] at hdm
      generalize hks : kidsOf ts[j] = ks at *
      have hbig : kj + 3 + 3 * cnts ks ≤ 9000000 := by omega
      have hSu : ∀ b, Value.ownBlock (.slice ao2 ks.length cap2) = some b → b ≠ g ∧ S b ∧ T1 b := fun b hb => ⟨fun e => hgS (e ▸ hSj b (s1 b (hu b hb)).1), hSj b (s1 b (hu b hb)).1, hu b hb⟩
      have hlt : ∀ b, T1 b → b < wr.heap.size ∧ b ≠ g := fun b hb => ⟨Nat.lt_of_lt_of_le (hS b (hSj b (s1 b hb).1)).1 hT.size, fun e => hgS (e ▸ hSj b (s1 b hb).1)⟩
      have call : ∀ w4 : World, (∀ b, b ≠ g → b < wr.heap.size → w4.heap[b]? = wr.heap[b]?) → wr.heap.size ≤ w4.heap.size → Calls Try.prog 23 #[.slice ao2 ks.length cap2, .int .i64 ((kj : Int) + 1 + 1 + 1)] w4 fun e w' => e = .returned (.int .i64 (kj + 3 + 3 * cnts ks : Nat)) ∧ Turned (fun b => T1 b ∧ Value.ownBlock (.slice ao2 ks.length cap2) ≠ some b) (.slice ao2 ks.length cap2) w4 w' := by
        intro w4 hw4 hs4
        rw [show ((kj : Int) + 1 + 1 + 1) = ((kj + 3 : Nat) : Int) by omega]
        exact ih ks (by omega) (kj + 3) w4 _ _ ys (by omega) hbig (owns_same ho2 fun b hb => hw4 b (hSu b hb).1 (ho2.lt b hb).2) (nodes_frame (fun b hb => hw4 b (hlt b hb.1).2 (hlt b hb.1).1) hy) (fun b hb => ⟨Nat.lt_of_lt_of_le (hlt b hb.1).1 hs4, hb.2⟩)
      have mt : ∀ w0 : World, Calls Try.prog 22 #[.int .i64 ((kj : Int) + 1 + 1)] w0 fun e w' => e = .returned (.string (markT (kj + 2))) ∧ Below w0.heap.size w0 w' := by
        intro w0
        rw [show ((kj : Int) + 1 + 1) = ((kj + 2 : Nat) : Int) by omega]
        exact lMarkText (kj + 2) (by omega) (by omega) w0
      have kb : (kj : Int) ≤ 9000000 := by omega
      have kl : (1 : Int) ≤ kj := by omega
      have b2 : ((wr.setCell ⟨g, j * 4, none⟩ (.int .i64 kj)).setCell ⟨g, j * 4 + 1, none⟩ (.int .i64 ((kj : Int) + 1))).cell? ⟨g, j * 4 + 2, none⟩ = some (.string ⟨s.toArray⟩) := by
        rw [World.cell?_setCell_other _ _ _ _ (by simp), World.cell?_setCell_other _ _ _ _ (by simp)]; exact p2
      have b3 : ((wr.setCell ⟨g, j * 4, none⟩ (.int .i64 kj)).setCell ⟨g, j * 4 + 1, none⟩ (.int .i64 ((kj : Int) + 1))).cell? ⟨g, j * 4 + 3, none⟩ = some (.slice ao2 ks.length cap2) := by
        rw [World.cell?_setCell_other _ _ _ _ (by simp), World.cell?_setCell_other _ _ _ _ (by simp)]; exact p3
      have d2 : ((wr.setCell ⟨g, j * 4, none⟩ (.int .i64 kj)).setCell ⟨g, j * 4 + 1, none⟩ (.int .i64 ((kj : Int) + 1))).frozen? ⟨g, j * 4 + 2, none⟩ = false := by simpa using f2
      have hgw : g < ((wr.setCell ⟨g, j * 4, none⟩ (.int .i64 kj)).setCell ⟨g, j * 4 + 1, none⟩ (.int .i64 ((kj : Int) + 1))).heap.size := by simpa using hg
      have HX : Hid (NodesIs wr (ts.drop (j + 1)) T2 c2) := hB
      have HJ : Hid (kj = k + 3 * cnts (ts.take j)) := hkj
      have HC : Hid (cnts (ts.take (j + 1)) = cnts (ts.take j) + (cnts ks + 1)) := hct
      have b1 : (wr.setCell ⟨g, j * 4, none⟩ (.int .i64 kj)).cell? ⟨g, j * 4 + 1, none⟩ = some (.int .i64 n) := by
        rw [World.cell?_setCell_other _ _ _ _ (by simp)]; exact p1
      have d1 : (wr.setCell ⟨g, j * 4, none⟩ (.int .i64 kj)).frozen? ⟨g, j * 4 + 1, none⟩ = false := by simpa using f1
      clear hB hc hget ih hy hdrop hji p1 p2 p3 hkj hct hle hdm hbig hlen hk2 hxx ht hr hks
      go_wp2_with (first | (go_at_call 22; with_reducible refine (mt _).mono ?_; rintro e w3 ⟨rfl, hb3⟩; have e2 := (hb3.cell (p := ⟨g, j * 4 + 2, none⟩) hgw).trans b2; have e3 := (hb3.cell (p := ⟨g, j * 4 + 3, none⟩) hgw).trans b3; have k2 := (hb3.frozen (p := ⟨g, j * 4 + 2, none⟩) hgw).trans d2; have e3' := fun x => (set_far w3 g x (show j * 4 + 3 ≠ j * 4 + 2 by omega)).trans e3) | (go_at_call 23; with_reducible refine Calls.mono (call _ ?_ ?_) ?_; rotate_left 2; rintro e w5 ⟨rfl, hT5⟩))
      case refine_1 =>
        intro b hb hlt
        rw [Below.heap_setCell _ _ _ _ hb, hb3.block b (by simpa using hlt), Below.heap_setCell _ _ _ _ hb, Below.heap_setCell _ _ _ _ hb]
      case refine_2 =>
        have := hb3.size
        simp at this ⊢
        exact this
      have hsz3 : wr.heap.size ≤ w3.heap.size := by have := hb3.size; simpa using this
      have hsz5 : w3.heap.size ≤ w5.heap.size := by have := hT5.size; simpa using this
      have same : ∀ b, b ≠ g → b < wr.heap.size → ¬ T1 b → w5.heap[b]? = wr.heap[b]? := by
        intro b hb hlt hst
        rw [hT5.block b (by simp; omega) (fun h => hst h.1) (fun h => hst (hSu b h).2.2), Below.heap_setCell _ _ _ _ hb, hb3.block b (by simpa using hlt), Below.heap_setCell _ _ _ _ hb, Below.heap_setCell _ _ _ _ hb]
      have h1 := owns_set (owns_set ho (j * 4) (.int .i64 kj)) (j * 4 + 1) (.int .i64 ((kj : Int) + 1))
      have h2 := owns_same (w' := w3) h1 fun b hb => by
        simp only [Value.ownBlock, Option.some.injEq] at hb
        subst hb
        exact hb3.block _ hgw
      have h3 := owns_set h2 (j * 4 + 2) (.string (markT (kj + 2)))
      have h4 := owns_same (w' := w5) h3 fun b hb => by
        simp only [Value.ownBlock, Option.some.injEq] at hb
        subst hb
        exact hT5.block _ (by simp; omega) (fun h => hgS (hSj _ (s1 _ h.1).1)) (fun h => (hSu _ h).1 rfl)
      have hrest : NodesIs w5 (ts.drop (j + 1)) T2 c2 := nodes_frame (fun b hb => same b (fun e => hgS (e ▸ hSj b (s2 b hb))) (Nat.lt_of_lt_of_le (hS b (hSj b (s2 b hb))).1 hT.size) (fun h => (s1 b h).2 hb)) HX.out
      rw [hc2] at hrest
      have hTT : Turned S (.slice (some ⟨g, 0, none⟩) ts.length cap) w w5 := by
        refine ⟨?_, ?_, ?_, Nat.le_trans hT.size (Nat.le_trans hsz3 hsz5), fun b hb hns hne => ?_⟩
        · exact hT5.os.trans (hb3.os.trans hT.os)
        · exact hT5.tape.trans (hb3.tape.trans hT.tape)
        · exact hT5.output.trans (hb3.output.trans hT.output)
        · exact (same b (fun e => hne (by rw [e]; rfl)) (Nat.lt_of_lt_of_le hb hT.size) (fun h => hns (hSj b (s1 b h).1))).trans (hT.block b hb hns hne)
      have HK : Hid (kj + 3 + 3 * cnts ks = k + 3 * cnts (ts.take (j + 1))) := by
        have := HJ.out
        have := HC.out
        show _ = _
        omega
      go_roundw
      case rel => exact ⟨j + 1, _, _, T2, by omega, by go_num, by go_num, HK.out, h4, by rw [List.drop_set, if_pos (by omega), List.drop_set, if_pos (by omega), List.drop_set, if_pos (by omega)]; exact hrest, fun b hb => hSj b (s2 b hb), hTT⟩
      case measure => simp [intOf]; omega
    · obtain rfl : j = ts.length := by omega
      rw [List.take_length] at hkj
      subst hkj
      clear hx
      go_wp2_with fail
      go_ret
      exact ⟨rfl, hT⟩

theorem lMarkS (ts : List Data) : MarkOk ts := by
  induction h : deps ts using Nat.strongRecOn generalizing ts with
  | ind n ih => exact mark_of fun ks hk => ih (deps ks) (by omega) ks rfl

end Mk
end Go.Proofs.Ytjhkkpjggphnjaa
