/-
  The laws' markRexS: a list of Rex gets its marks.
-/
import Derived.Test.YtnbnbohhbflgaakDoorRexSplit
namespace Go.Proofs.YtnbnbohhbflgaakDoor
open Go.RowKit
namespace Rx

theorem marksOf_append : ∀ (A B : List Data) (k : Nat), marksOf (A ++ B) k = marksOf A k ++ marksOf B (k + 4 * cnts A)
  | [], B, k => by simp [marksOf, cnts]
  | a :: A, B, k => by
    simp only [List.cons_append, marksOf, marksOf_append A, cnts]
    congr 3
    omega

theorem set4 {m : Nat} {xa xb : List Value} (h : xa.length = m) (a b c d u a' b' c' d' : Value) : ((((xa ++ ([a, b, c, d, u] ++ xb)).set m a').set (m + 1) b').set (m + 2) c').set (m + 3) d' = xa ++ ([a', b', c', d', u] ++ xb) := by
  subst h
  simp

theorem set_far (w : World) (g : Nat) (x : Value) {i j : Nat} (h : j ≠ i) : (w.setCell ⟨g, i, none⟩ x).cell? ⟨g, j, none⟩ = w.cell? ⟨g, j, none⟩ := World.cell?_setCell_other _ _ _ _ (by simp <;> omega)
theorem set_fz (w : World) (a : Addr) (x : Value) (b : Addr) : (w.setCell a x).frozen? b = w.frozen? b := by simp

/-- Only blocks of S, and the list's own, have turned. -/
structure Turned (S : Nat → Prop) (v : Value) (w w' : World) : Prop where
  os : w'.os = w.os
  tape : w'.tape = w.tape
  output : w'.output = w.output
  size : w.heap.size ≤ w'.heap.size
  block : ∀ j, j < w.heap.size → ¬ S j → v.ownBlock ≠ some j → w'.heap[j]? = w.heap[j]?

def MarkOk (ts : List Data) : Prop := ∀ (k : Nat) (w : World) (S : Nat → Prop) (v : Value) (xs : List Value), 1 ≤ k → k + 4 * cnts ts ≤ 900000 → w.ownsRow 0 31 5 v ts.length xs → RexsIs w ts S xs → (∀ j, S j → j < w.heap.size ∧ v.ownBlock ≠ some j) →
  Calls Tryd.prog 40 #[v, .int .i64 k] w fun e w' => e = .returned (.int .i64 (k + 4 * cnts ts : Nat)) ∧ ∃ xs', w'.ownsRow 0 31 5 v ts.length xs' ∧ RexsIs w' (marksOf ts k) S xs' ∧ Turned S v w w'

set_option maxHeartbeats 1000000 in
set_option maxRecDepth 100000 in
theorem mark_of {ts : List Data} (ih : ∀ ks, deps ks < deps ts → MarkOk ks) : MarkOk ts := by
  intro k w S v xs hk1 hk2 ho hx hS
  obtain ⟨ao, cap, rfl⟩ := owns_slice ho
  have hlen := cnts_len ts
  have hnI : (ts.length : Int) ≤ 900000 := by omega
  go_enter Tryd.func40, Tryd.ntmps40
  go_wp2_with fail
  go_loopw [1, 5] (fun kv i wr => ∃ (j kj : Nat) (xj : List Value), j ≤ ts.length ∧ i = .int .i64 j ∧ kv = .int .i64 kj ∧ kj = k + 4 * cnts (ts.take j) ∧ wr.ownsRow 0 31 5 (.slice ao ts.length cap) ts.length xj ∧ RexsIs wr (marksOf (ts.take j) k ++ ts.drop j) S xj ∧ Turned S (.slice ao ts.length cap) w wr) (fun _ i _ => ts.length - (intOf i).toNat)
  case atStart => exact ⟨0, k, xs, Nat.zero_le _, rfl, rfl, by simp [cnts], ho, by simpa [marksOf] using hx, ⟨rfl, rfl, rfl, Nat.le_refl _, fun _ _ _ _ => rfl⟩⟩
  case round =>
    clear hx ho xs
    obtain ⟨j, kj, xj, hj, rfl, rfl, hkj, ho, hx, hT⟩ := hrel
    by_cases hjl : j < ts.length
    · have hji : ts[j]? = some ts[j] := List.getElem?_eq_getElem hjl
      have hdrop : ts.drop j = ts[j] :: ts.drop (j + 1) := List.drop_eq_getElem_cons hjl
      rw [hdrop] at hx
      obtain ⟨SA, ST, SB, xa, c5, xb, rfl, hA, hr, hB, s1, s2, s3⟩ := rexs_split hx
      have hla : xa.length = j * 5 := by have := rexs_len hA; rw [marksOf_length] at this; simp at this; omega
      obtain ⟨op, cc, st, no, ks, ht⟩ := rex_node hr
      rw [ht, rex_nd] at hr
      obtain ⟨u, ys, rfl, ho2, hu, hy⟩ := hr
      obtain ⟨g, rfl, hg, hc⟩ := row_cells ho hjl
      have hgS : ¬ S g := fun h => (hS g h).2 rfl
      have hget : ∀ i x, [Value.int .i64 op, .int .i64 cc, .string ⟨st.toArray⟩, .bool no, u][i]? = some x → wr.cell? ⟨g, j * 5 + i, none⟩ = some x := fun i x hi => hc _ _ (by
        rw [List.getElem?_append_right (by omega), hla, show j * 5 + i - j * 5 = i by omega, List.getElem?_append_left (by have := (List.getElem?_eq_some_iff.1 hi).1; simpa using this)]
        exact hi)
      have p0 : wr.cell? ⟨g, j * 5, none⟩ = some (.int .i64 op) := hget 0 _ rfl
      have p1 := hget 1 _ rfl
      have p2 := hget 2 _ rfl
      have p3 := hget 3 _ rfl
      have p4 := hget 4 _ rfl
      have hrow : ∃ cs, wr.heap[g]? = some (.cells cs 31 (0, 0)) := by
        rcases ho.2 with ⟨h, _⟩ | ⟨g', cap', cur, h, _, h2, _⟩
        · simp at h
        · simp only [Value.slice.injEq, Option.some.injEq, Addr.mk.injEq] at h
          obtain ⟨⟨rfl, _, _⟩, _⟩ := h
          exact ⟨cur, h2⟩
      obtain ⟨cs0, hrow⟩ := hrow
      have f0 := frozen_of_row hrow (j * 5)
      have f1 := frozen_of_row hrow (j * 5 + 1)
      have f2 := frozen_of_row hrow (j * 5 + 2)
      have f3 := frozen_of_row hrow (j * 5 + 3)
      have hct := cnts_take ts j _ hji
      have hle := cnts_le ts (j + 1)
      have hdm := deps_mem (List.getElem_mem hjl)
      rw [ht, cnt_nd] at hct
      rw [ht, dep_nd] at hdm
      have hbig : kj + 4 + 4 * cnts ks ≤ 900000 := by omega
      obtain ⟨ao2, cap2, rfl⟩ := owns_slice ho2
      have hSu : ∀ b, Value.ownBlock (.slice ao2 ks.length cap2) = some b → b ≠ g ∧ S b ∧ ST b := fun b hb => ⟨fun e => hgS (e ▸ (s2 b (hu b hb)).1), (s2 b (hu b hb)).1, hu b hb⟩
      have call : ∀ w4 : World, (∀ b, b ≠ g → b < wr.heap.size → w4.heap[b]? = wr.heap[b]?) → wr.heap.size ≤ w4.heap.size → Calls Tryd.prog 40 #[.slice ao2 ks.length cap2, .int .i64 ((kj : Int) + 1 + 1 + 1 + 1)] w4 fun e w' => e = .returned (.int .i64 (kj + 4 + 4 * cnts ks : Nat)) ∧ ∃ xs', w'.ownsRow 0 31 5 (.slice ao2 ks.length cap2) ks.length xs' ∧ RexsIs w' (marksOf ks (kj + 4)) (fun b => ST b ∧ Value.ownBlock (.slice ao2 ks.length cap2) ≠ some b) xs' ∧ Turned (fun b => ST b ∧ Value.ownBlock (.slice ao2 ks.length cap2) ≠ some b) (.slice ao2 ks.length cap2) w4 w' := by
        intro w4 hw4 hs4
        rw [show ((kj : Int) + 1 + 1 + 1 + 1) = ((kj + 4 : Nat) : Int) by omega]
        have hlt : ∀ b, ST b → b < wr.heap.size ∧ b ≠ g := fun b hb => ⟨Nat.lt_of_lt_of_le (hS b (s2 b hb).1).1 hT.size, fun e => hgS (e ▸ (s2 b hb).1)⟩
        exact ih ks (by omega) (kj + 4) w4 _ _ ys (by omega) hbig (owns_same ho2 fun b hb => hw4 b (hSu b hb).1 (ho2.lt b hb).2) (rexs_frame (fun b hb => hw4 b (hlt b hb.1).2 (hlt b hb.1).1) hy) (fun b hb => ⟨Nat.lt_of_lt_of_le (hlt b hb.1).1 hs4, hb.2⟩)
      have mt : ∀ w0 : World, Calls Tryd.prog 66 #[.int .i64 ((kj : Int) + 1 + 1)] w0 fun e w' => e = .returned (.string (markT (kj + 2))) ∧ Below w0.heap.size w0 w' := by
        intro w0
        have e : ((kj : Int) + 1 + 1) = ((kj + 2 : Nat) : Int) := by omega
        rw [e]
        exact lMarkText (kj + 2) (by omega) (by omega) w0
      have hm3 : (((kj : Int) + 1 + 1 + 1) % 3 == 0) = decide ((kj + 3) % 3 = 0) := by
        by_cases h3 : (kj + 3) % 3 = 0
        · rw [decide_eq_true h3]; simp; omega
        · rw [decide_eq_false h3]; simp; omega
      have HM : Hid ((((kj : Int) + 1 + 1 + 1) % 3 == 0) = decide ((kj + 3) % 3 = 0)) := hm3
      have kb : (kj : Int) ≤ 900000 := by omega
      have kl : (1 : Int) ≤ kj := by omega
      have b2 : ((wr.setCell ⟨g, j * 5, none⟩ (.int .i64 kj)).setCell ⟨g, j * 5 + 1, none⟩ (.int .i64 ((kj : Int) + 1))).cell? ⟨g, j * 5 + 2, none⟩ = some (.string ⟨st.toArray⟩) := by
        rw [World.cell?_setCell_other _ _ _ _ (by simp), World.cell?_setCell_other _ _ _ _ (by simp)]; exact p2
      have b3 : ((wr.setCell ⟨g, j * 5, none⟩ (.int .i64 kj)).setCell ⟨g, j * 5 + 1, none⟩ (.int .i64 ((kj : Int) + 1))).cell? ⟨g, j * 5 + 3, none⟩ = some (.bool no) := by
        rw [World.cell?_setCell_other _ _ _ _ (by simp), World.cell?_setCell_other _ _ _ _ (by simp)]; exact p3
      have b4 : ((wr.setCell ⟨g, j * 5, none⟩ (.int .i64 kj)).setCell ⟨g, j * 5 + 1, none⟩ (.int .i64 ((kj : Int) + 1))).cell? ⟨g, j * 5 + 4, none⟩ = some (.slice ao2 ks.length cap2) := by
        rw [World.cell?_setCell_other _ _ _ _ (by simp), World.cell?_setCell_other _ _ _ _ (by simp)]; exact p4
      have d2 : ((wr.setCell ⟨g, j * 5, none⟩ (.int .i64 kj)).setCell ⟨g, j * 5 + 1, none⟩ (.int .i64 ((kj : Int) + 1))).frozen? ⟨g, j * 5 + 2, none⟩ = false := by simpa using f2
      have d3 : ((wr.setCell ⟨g, j * 5, none⟩ (.int .i64 kj)).setCell ⟨g, j * 5 + 1, none⟩ (.int .i64 ((kj : Int) + 1))).frozen? ⟨g, j * 5 + 3, none⟩ = false := by simpa using f3
      have hgw : g < ((wr.setCell ⟨g, j * 5, none⟩ (.int .i64 kj)).setCell ⟨g, j * 5 + 1, none⟩ (.int .i64 ((kj : Int) + 1))).heap.size := by simpa using hg
      have HX : Hid (RexsIs wr (marksOf (ts.take j) k) SA xa ∧ RexsIs wr (ts.drop (j + 1)) SB xb) := ⟨hA, hB⟩
      have HJ : Hid (kj = k + 4 * cnts (ts.take j)) := hkj
      have HC : Hid (cnts (ts.take (j + 1)) = cnts (ts.take j) + (cnts ks + 1)) := hct
      have b1 : (wr.setCell ⟨g, j * 5, none⟩ (.int .i64 kj)).cell? ⟨g, j * 5 + 1, none⟩ = some (.int .i64 cc) := by
        rw [World.cell?_setCell_other _ _ _ _ (by simp)]; exact p1
      have d1 : (wr.setCell ⟨g, j * 5, none⟩ (.int .i64 kj)).frozen? ⟨g, j * 5 + 1, none⟩ = false := by simpa using f1
      clear hx hA hB hc hget ih hy hm3 hdrop hji p1 p2 p3 p4 hkj hct hle hdm hbig hlen hk2
      go_wp2_with (first | (go_at_call 66; with_reducible refine (mt _).mono ?_; rintro e w3 ⟨rfl, hb3⟩; have e2 := (hb3.cell (p := ⟨g, j * 5 + 2, none⟩) hgw).trans b2; have e3 := (hb3.cell (p := ⟨g, j * 5 + 3, none⟩) hgw).trans b3; have e4 := (hb3.cell (p := ⟨g, j * 5 + 4, none⟩) hgw).trans b4; have k2 := (hb3.frozen (p := ⟨g, j * 5 + 2, none⟩) hgw).trans d2; have k3 := (hb3.frozen (p := ⟨g, j * 5 + 3, none⟩) hgw).trans d3; have e3' := fun x => (set_far w3 g x (show j * 5 + 3 ≠ j * 5 + 2 by omega)).trans e3; have k3' := fun x => (set_fz w3 ⟨g, j * 5 + 2, none⟩ x ⟨g, j * 5 + 3, none⟩).trans k3; have e4' := fun x y => (set_far (w3.setCell ⟨g, j * 5 + 2, none⟩ x) g y (show j * 5 + 4 ≠ j * 5 + 3 by omega)).trans ((set_far w3 g x (show j * 5 + 4 ≠ j * 5 + 2 by omega)).trans e4)) | (go_at_call 40; with_reducible refine Calls.mono (call _ ?_ ?_) ?_; rotate_left 2; rintro e w5 ⟨rfl, zs, ho5, hx5, hT5⟩))
      case refine_1 =>
        intro b hb hlt
        rw [Below.heap_setCell _ _ _ _ hb, Below.heap_setCell _ _ _ _ hb, hb3.block b (by simpa using hlt), Below.heap_setCell _ _ _ _ hb, Below.heap_setCell _ _ _ _ hb]
      case refine_2 =>
        have := hb3.size
        simp at this ⊢
        exact this
      have hsz3 : wr.heap.size ≤ w3.heap.size := by have := hb3.size; simpa using this
      have hsz5 : w3.heap.size ≤ w5.heap.size := by have := hT5.size; simpa using this
      have same : ∀ b, b ≠ g → b < wr.heap.size → ¬ ST b → w5.heap[b]? = wr.heap[b]? := by
        intro b hb hlt hst
        rw [hT5.block b (by simp; omega) (fun h => hst h.1) (fun h => hst (hSu b h).2.2), Below.heap_setCell _ _ _ _ hb, Below.heap_setCell _ _ _ _ hb, hb3.block b (by simpa using hlt), Below.heap_setCell _ _ _ _ hb, Below.heap_setCell _ _ _ _ hb]
      have h1 := owns_set (owns_set ho (j * 5) (.int .i64 kj)) (j * 5 + 1) (.int .i64 ((kj : Int) + 1))
      have h2 := owns_same (w' := w3) h1 fun b hb => by
        simp only [Value.ownBlock, Option.some.injEq] at hb
        subst hb
        exact hb3.block _ hgw
      have h3 := owns_set (owns_set h2 (j * 5 + 2) (.string (markT (kj + 2)))) (j * 5 + 3) (.bool (((kj : Int) + 1 + 1 + 1) % 3 == 0))
      have h4 := owns_same (w' := w5) h3 fun b hb => by
        simp only [Value.ownBlock, Option.some.injEq] at hb
        subst hb
        exact hT5.block _ (by simp; omega) (fun h => hgS (s2 _ h.1).1) (fun h => (hSu _ h).1 rfl)
      rw [set4 hla, HM.out] at h4
      have hlt : ∀ b, S b → b < wr.heap.size ∧ b ≠ g := fun b hb => ⟨Nat.lt_of_lt_of_le (hS b hb).1 hT.size, fun e => hgS (e ▸ hb)⟩
      have hlist : marksOf (ts.take (j + 1)) k ++ ts.drop (j + 1) = marksOf (ts.take j) k ++ mark ts[j] kj :: ts.drop (j + 1) := by
        rw [List.take_add_one, List.getElem?_eq_getElem hjl, marksOf_append, ← HJ.out]
        simp [marksOf]
      have hrex : RexIs w5 (mark ts[j] kj) ST [.int .i64 kj, .int .i64 ((kj : Int) + 1), .string (markT (kj + 2)), .bool (decide ((kj + 3) % 3 = 0)), .slice ao2 ks.length cap2] := by
        rw [ht, mark_nd, rex_nd]
        exact ⟨_, zs, by simp, by rw [marksOf_length]; exact ho5, hu, hx5⟩
      have hjoin := rexs_join (S := S) (rexs_frame (w' := w5) (fun b hb => same b (hlt b (s1 b hb).1).2 (hlt b (s1 b hb).1).1 (s1 b hb).2.1) HX.out.1) hrex (rexs_frame (w' := w5) (fun b hb => same b (hlt b (s3 b hb)).2 (hlt b (s3 b hb)).1 (fun h => (s2 b h).2 hb)) HX.out.2) s1 s2 s3
      rw [← hlist] at hjoin
      have hTT : Turned S (.slice (some ⟨g, 0, none⟩) ts.length cap) w w5 := by
        refine ⟨?_, ?_, ?_, Nat.le_trans hT.size (Nat.le_trans hsz3 hsz5), fun b hb hns hne => ?_⟩
        · exact hT5.os.trans (hb3.os.trans hT.os)
        · exact hT5.tape.trans (hb3.tape.trans hT.tape)
        · exact hT5.output.trans (hb3.output.trans hT.output)
        · exact (same b (fun e => hne (by rw [e]; rfl)) (Nat.lt_of_lt_of_le hb hT.size) (fun h => hns (s2 b h).1)).trans (hT.block b hb hns hne)
      have HK : Hid (kj + 4 + 4 * cnts ks = k + 4 * cnts (ts.take (j + 1))) := by
        have := HJ.out
        have := HC.out
        show _ = _
        omega
      go_roundw
      case rel => exact ⟨j + 1, _, _, by omega, by go_num, by go_num, HK.out, h4, hjoin, hTT⟩
      case measure => simp [intOf]; omega
    · obtain rfl : j = ts.length := by omega
      rw [List.take_length] at hkj hx
      rw [List.drop_length, List.append_nil] at hx
      subst hkj
      have HF : Hid (RexsIs wr (marksOf ts k) S xj) := hx
      clear hx
      go_wp2_with fail
      go_ret
      exact ⟨rfl, xj, ho, HF.out, hT⟩

theorem lMarkS (ts : List Data) : MarkOk ts := by
  induction h : deps ts using Nat.strongRecOn generalizing ts with
  | ind n ih => exact mark_of fun ks hk => ih (deps ks) (by omega) ks rfl

end Rx
end Go.Proofs.YtnbnbohhbflgaakDoor
