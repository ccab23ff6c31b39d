/-
  The program's putOneOf.
-/
import Derived.Test.YtgdnlmaacnnfiaaGreatDoorQ25
import Derived.Maps.AppendAt
namespace Go.Proofs.YtgdnlmaacnnfiaaGreatDoor
open Go.RowKit
namespace Rx

def nums (l : List Nat) : List Value := l.map fun (x : Nat) => Value.int .i64 x

theorem Tryz.infoIntr : (Tryz.prog.info? 3).map (fun i => (i.zero, i.size, i.bytes)) = some (some (.int .i64 0), 1, 8) := by kernel_rfl

theorem PL.grown {B p n : Nat} {w w' : World} {ob : Option Nat} (h : PL B p n w) (hg : w.grownBy w' ob) (h1 : ob ≠ some p) (h2 : ∀ k, ob = some k → ¬ RowAt p w k) : PL B p n w' := by
  obtain ⟨ao, cap, xs, c1, c2, c3⟩ := h
  have hl := World.block_lt_of_cell? w _ c1
  have hb := hg.block p hl (fun e => h1 e.symm)
  refine ⟨ao, cap, xs, (World.cell?_of_block hb).trans c1, (World.frozen?_of_block hb).trans c2, owns_same c3 fun g hgg => hg.block g (c3.lt g hgg).2 fun e => h2 g e.symm ((rowAt_is c1).2 hgg)⟩

theorem Ch.grown {B p : Nat} {w w1 w' : World} {ob : Option Nat} (h : Ch p B w w1) (hp : p < w.heap.size) (hB : B ≤ w.heap.size) (hg : w1.grownBy w' ob) (h1 : ∀ k, ob = some k → w.heap.size ≤ k) : Ch p B w w' := by
  have hb : ∀ k, k < w.heap.size → w'.heap[k]? = w1.heap[k]? := fun k hk => hg.block k (Nat.lt_of_lt_of_le hk h.size) fun e => by have := h1 k e.symm; omega
  refine ⟨hg.os.trans h.os, hg.tape.trans h.tape, hg.output.trans h.output, Nat.le_trans h.size hg.size, fun k h3 h4 => (hb k (by omega)).trans (h.block k h3 h4), fun k h3 h4 h5 => ⟨(hb k h3).trans (h.own k h3 h4 h5).1, fun hr => (h.own k h3 h4 h5).2 ((rowAt_same (hb p hp)).1 hr)⟩⟩

/-- The numbers of the jumps, in a row apart from the list's. -/
def Jumps (W p : Nat) (w : World) (v : Value) (js : List Nat) : Prop := w.ownsRow W 3 1 v js.length (nums js) ∧ ∀ k, v.ownBlock = some k → ¬ RowAt p w k

theorem Jumps.ch {W p B : Nat} {w w' : World} {v : Value} {js : List Nat} (h : Jumps W p w v js) (hp : p < W) (hc : Ch p B w w') : Jumps W p w' v js := by
  refine ⟨owns_same h.1 fun g hg => (hc.own g (h.1.lt g hg).2 (by have := (h.1.lt g hg).1; omega) (h.2 g hg)).1, fun k hk => (hc.own k (h.1.lt k hk).2 (by have := (h.1.lt k hk).1; omega) (h.2 k hk)).2⟩

set_option maxHeartbeats 4000000 in
set_option maxRecDepth 100000 in
theorem iPutOneOf {p B : Nat} (hp : p < B) (ks : List Data) (hl : 2 ≤ ks.length) (hk : ∀ t ∈ ks, PutOk p B t) (w : World) (n : Nat) (S : Nat → Prop) (u : Value) (xs : List Value) (hPL : PL B p n w) (hB : B ≤ w.heap.size) (hown : w.ownsRow 0 50 1 u ks.length xs) (hg : ∀ g, u.ownBlock = some g → S g) (hps : PatsIs w ks S xs) (hS : ∀ k, S k → k < B ∧ k ≠ p) (hn : n + nls ks + 2 * (ks.length - 1) ≤ 100000) :
    Calls Tryz.prog 59 #[.pointer (some ⟨p, 0, none⟩), u] w fun e w' => e = .returned (.tuple #[]) ∧ PL B p (n + nls ks + 2 * (ks.length - 1)) w' ∧ Ch p B w w' := by
  obtain ⟨i0, hi0, hi1, hi2, hi3⟩ := info_parts Tryz.infoIntr
  obtain ⟨ao, cap, rfl⟩ := owns_slice hown
  have hlenI : (ks.length : Int) ≤ 60000 := by omega
  obtain ⟨g, cap', he, hgl, hcap⟩ : ∃ g cap', (Value.slice ao ks.length cap) = .slice (some ⟨g, 0, none⟩) ks.length cap' ∧ g < w.heap.size ∧ ks.length ≤ cap' := by
    rcases hown.2 with ⟨_, h0⟩ | ⟨g, cap', cur, he, _, _, h1, _⟩
    · omega
    · exact ⟨g, cap', he, (hown.lt g (by rw [he]; rfl)).2, h1⟩
  simp at he
  obtain ⟨rfl, rfl⟩ := he
  have hgS := hg g rfl
  obtain ⟨m, hm⟩ : ∃ m, ks.length = m + 1 := ⟨ks.length - 1, by omega⟩
  have hmI : (ks.length : Int) - 1 = (m : Int) := by omega
  have h2I : (2 : Int) ≤ ks.length := by omega
  have hmI2 : (m : Int) ≤ 60000 := by omega
  have hmc : m ≤ cap := by omega
  have Hm : Hid (ks.length = m + 1) := hm
  clear hm
  go_enter Tryz.func59, Tryz.ntmps59
  go_wp2_with fail
  have hpW : p < w.heap.size := by omega
  have hnapp : ∀ (a b : List Data), nls (a ++ b) = nls a + nls b := by
    intro a b
    induction a with
    | nil => simp [nls]
    | cons c a ih => simp [nls, ih]; omega
  have hle : ∀ i, nls (ks.take i) ≤ nls ks := fun i => by
    have h2 := hnapp (ks.take i) (ks.drop i)
    rw [List.take_append_drop] at h2
    omega
  go_loopw [5, 19] (fun jv iv wr => ∃ (i : Nat) (js : List Nat), iv = .int .i64 i ∧ i ≤ m ∧ js.length = i ∧ PL B p (n + nls (ks.take i) + 2 * i) wr ∧ Ch p B w wr ∧ Jumps w.heap.size p wr jv js ∧ ∀ j ∈ js, j < n + nls (ks.take i) + 2 * i) (fun _ iv _ => m - (intOf iv).toNat)
  case atStart => exact ⟨0, [], rfl, Nat.zero_le _, rfl, by simpa [nls] using hPL, Ch.refl _ _ _, ⟨World.ownsRow_nil _ _ _ _, fun k hk => by simp [Value.ownBlock] at hk⟩, fun j hj => by simp at hj⟩
  case round =>
    obtain ⟨i, js, rfl, hi, hjl, hPi, hCi, hJ, hjs⟩ := hrel
    have hz := hCi.size
    have hHm := Hm.out
    by_cases him : i < m
    · have hil : i < ks.length := by omega
      obtain ⟨x, hx1, hx2⟩ := pats_at hps (List.getElem?_eq_getElem hil)
      obtain ⟨Tx, yx, rfl⟩ := pat_iface hx2
      have c1 : wr.cell? ⟨g, i, none⟩ = some (.iface Tx yx) := by
        rw [World.cell?_of_block (w := w) (hCi.block g (hS g hgS).1 (hS g hgS).2), hown.cellAt i (by omega)]
        exact hx1
      have hnt := nls_take ks hil
      have hl1 := hle (i + 1)
      have hm1 : ks[i] ∈ ks := List.getElem_mem hil
      obtain ⟨N, hN⟩ : ∃ N, N = n + nls (ks.take i) + 2 * i := ⟨_, rfl⟩
      rw [← hN] at hPi hjs
      have hNb : N + nl ks[i] + 2 ≤ 100000 := by omega
      have HN : Hid (N + nl ks[i] + 2 = n + nls (ks.take (i + 1)) + 2 * (i + 1)) := by show _ = _; omega
      obtain ⟨jo, jc, rfl⟩ := owns_slice hJ.1
      have hjo : ∀ k, Value.ownBlock (.slice jo js.length jc) = some k → w.heap.size ≤ k := fun k hk => (hJ.1.lt k hk).1
      have hk64 : Hid ((js.length + 1) * 8 ≤ 140737488355328) := by show _ ≤ _; omega
      have hkm : Hid (js.length + 1 ≤ maxLen) := by show _ ≤ _; unfold maxLen; omega
      have HJL : Hid (js.length = i) := hjl
      clear hN hnt hl1 hHm hle hnapp hjl
      go_wp2_with fail
      refine (iPutFork hPi hp (by omega) (by omega)).mono ?_
      rintro e w2 ⟨rfl, hP2, hC2⟩
      have hz2 := hC2.size
      go_wp2_with fail
      refine (hk ks[i] hm1 w2 (N + 1) S _ hP2 (by omega) (pat_ch (hCi.trans hC2) hx2 hS) hS (by omega)).mono ?_
      rintro e w3 ⟨rfl, hP3, hC3⟩
      have hz3 := hC3.size
      go_wp2_with fail
      refine (iPut hP3 hp (by omega) (by omega) _ _ _ _ _ _).mono ?_
      rintro e w4 ⟨rfl, hP4, hC4⟩
      have hz4 := hC4.size
      have hJ4 := ((hJ.ch hpW hC2).ch hpW hC3).ch hpW hC4
      obtain ⟨M, hM⟩ : ∃ M, M = N + 1 + nl ks[i] := ⟨_, rfl⟩
      rw [← hM] at hP4 ⊢
      have HM : Hid (M = N + 1 + nl ks[i]) := hM
      clear hM
      go_wp2_with (at_builtin; refine wpList_append_own_at _ rfl _ _ 29 rfl w.heap.size 3 i0 (.int .i64 0) 1 8 Tryz.underlying29 hi0 hi1 hi2 hi3 rfl (by decide) _ _ _ rfl (hJ4.1.alloc _) ⟨w4.heap.size, 0, none⟩ 1 1 [.int .i64 M] rfl rfl (cell_one_new _ _ _) (by simp [Value.oneCell']) hkm.out hk64.out (by simp; omega) ?_; intro v' w5 hown5 hgr5 _ hb5)
      have hrow4 : ∀ k, RowAt p (w4.alloc (.cells #[.int .i64 M] 3)) k ↔ RowAt p w4 k := fun k => rowAt_same (Below.heap_alloc _ _ _ (by omega))
      have hpj : Value.ownBlock (.slice jo js.length jc) ≠ some p := fun e => by have := hjo p e; omega
      have hp5 : w5.heap[p]? = (w4.alloc (.cells #[.int .i64 M] 3)).heap[p]? := hgr5.block p (by simp; omega) (fun e => hpj e.symm)
      have hP5 : PL B p (M + 1) w5 := (hP4.alloc _).grown hgr5 hpj (fun k hk hr => hJ4.2 k hk ((hrow4 k).1 hr))
      have hC5 : Ch p B w w5 := ((((hCi.trans hC2).trans hC3).trans hC4).trans (ch_alloc hp (by omega) _)).grown hpW hB hgr5 hjo
      have hz5 := hgr5.size
      simp at hz5
      have hJ5 : Jumps w.heap.size p w5 v' (js ++ [M]) := by
        refine ⟨by simpa [nums] using hown5, fun k hk hr => ?_⟩
        rw [rowAt_same hp5] at hr
        rcases hb5 with e | e
        · rw [e] at hk
          exact hJ4.2 k hk ((hrow4 k).1 hr)
        · rw [e] at hk
          simp at hk
          obtain ⟨ao4, cap4, xs4, q1, q2, q3⟩ := hP4.alloc (.cells #[.int .i64 M] 3)
          have := (q3.lt k ((rowAt_is q1).1 hr)).2
          simp at this
          omega
      refine (iForkHere (f := N) hP5 hp (by have := HM.out; omega) (by have := HM.out; omega)).mono ?_
      rintro e w6 ⟨rfl, hP6, hC6⟩
      have hJ6 := hJ5.ch hpW hC6
      go_wp2_with fail
      go_roundw
      case rel =>
        have e1 := HM.out
        have e2 := HN.out
        refine ⟨i + 1, js ++ [M], by go_num, him, by simp [HJL.out], ?_, hC5.trans hC6, hJ6, fun j hj => ?_⟩
        · rw [← e2, show N + nl ks[i] + 2 = M + 1 by omega]
          exact hP6
        · rw [← e2]
          rcases List.mem_append.1 hj with hj | hj
          · have := hjs j hj; omega
          · have : j = M := by simpa using hj
            omega
      case measure => simp [intOf]; omega
    · obtain rfl : i = m := by omega
      have hml : i < ks.length := by omega
      obtain ⟨x, hx1, hx2⟩ := pats_at hps (List.getElem?_eq_getElem hml)
      obtain ⟨Tx, yx, rfl⟩ := pat_iface hx2
      have c1 : wr.cell? ⟨g, i, none⟩ = some (.iface Tx yx) := by
        rw [World.cell?_of_block (w := w) (hCi.block g (hS g hgS).1 (hS g hgS).2), hown.cellAt i (by omega)]
        exact hx1
      have hnt := nls_take ks hml
      have hl1 := hle (i + 1)
      have hm1 : ks[i] ∈ ks := List.getElem_mem hml
      obtain ⟨N, hN⟩ : ∃ N, N = n + nls (ks.take i) + 2 * i := ⟨_, rfl⟩
      rw [← hN] at hPi hjs
      have hall : ks.take (i + 1) = ks := by rw [← hHm]; exact List.take_length
      rw [hall] at hnt
      have HN : Hid (N + nl ks[i] = n + nls ks + 2 * (ks.length - 1)) := by show _ = _; omega
      obtain ⟨jo, jc, rfl⟩ := owns_slice hJ.1
      have hjI : (js.length : Int) ≤ 60000 := by omega
      have hNb : N + nl ks[i] ≤ 100000 := by omega
      clear hN hnt hl1 hHm hle hnapp hall
      go_wp2_with fail
      refine (hk ks[i] hm1 wr N S _ hPi (by omega) (pat_ch hCi hx2 hS) hS (by omega)).mono ?_
      rintro e w3 ⟨rfl, hP3, hC3⟩
      have hJ3 := hJ.ch hpW hC3
      rw [HN.out] at hP3
      obtain ⟨Q, hQ⟩ : ∃ Q, Q = n + nls ks + 2 * (ks.length - 1) := ⟨_, rfl⟩
      have hQN : N ≤ Q := by have := HN.out; omega
      have hQb : Q ≤ 100000 := by have := HN.out; omega
      have hQI : (Q : Int) ≤ 100000 := by omega
      rw [← hQ] at hP3
      have HQ : Hid (Q = n + nls ks + 2 * (ks.length - 1)) := hQ
      clear hQ
      go_wp2_with fail
      go_loopw [46] (fun iv wq => ∃ k : Nat, iv = .int .i64 k ∧ k ≤ js.length ∧ PL B p Q wq ∧ Ch p B w wq ∧ Jumps w.heap.size p wq (.slice jo js.length jc) js) (fun iv _ => js.length - (intOf iv).toNat)
      case atStart => exact ⟨0, rfl, Nat.zero_le _, hP3, hCi.trans hC3, hJ3⟩
      case round =>
        obtain ⟨k, rfl, hkj, hPq, hCq, hJq⟩ := hrel
        by_cases hkl : k < js.length
        · have hjm : js[k] ∈ js := List.getElem_mem hkl
          have hjlt := hjs _ hjm
          have hPq2 := hPq
          obtain ⟨aq, cq, xq, h1, h2, h3⟩ := hPq
          obtain ⟨g5, rfl, hg5, hgl5, hcs⟩ := row_cell6 h3 (f := js[k]) (by omega)
          obtain ⟨v5, q5⟩ := hcs 4 (by omega)
          have fz := h3.frozenAt (js[k] * 6 + 4)
          obtain ⟨gj, capj, hej, hgj⟩ : ∃ gj capj, (Value.slice jo js.length jc) = .slice (some ⟨gj, 0, none⟩) js.length capj ∧ gj < wr.heap.size := by
            rcases hJq.1.2 with ⟨_, h0⟩ | ⟨gj, capj, cur, he, _⟩
            · omega
            · exact ⟨gj, capj, he, (hJq.1.lt gj (by rw [he]; rfl)).2⟩
          simp at hej
          obtain ⟨rfl, rfl⟩ := hej
          have cj : wr.cell? ⟨gj, k, none⟩ = some (.int .i64 js[k]) := by
            rw [hJq.1.cellAt k (by omega)]
            simp [nums, hkl]
          obtain ⟨J, hJe⟩ : ∃ J, J = js[k] := ⟨_, rfl⟩
          rw [← hJe] at q5 fz cj hjlt
          have hJI : (J : Int) < Q := by omega
          have call1 : Calls Tryz.prog 62 #[.pointer (some ⟨p, 0, none⟩)] wr.drew fun e w' => e = .returned (.int .i64 Q) ∧ w' = wr.drew := iNext ⟨_, _, _, h1, h2, h3⟩
          have hpb : ((wr.setCell ⟨g5, J * 6 + 4, none⟩ (.int .i64 Q)).drew).heap[p]? = wr.heap[p]? := Below.heap_setCell wr ⟨g5, J * 6 + 4, none⟩ (.int .i64 Q) p (by show p ≠ g5; omega)
          have hP5 : PL B p Q ((wr.setCell ⟨g5, J * 6 + 4, none⟩ (.int .i64 Q)).drew) := ⟨_, _, _, (World.cell?_of_block hpb).trans h1, (World.frozen?_of_block hpb).trans h2, (h3.stored _ _).1⟩
          have hC5 : Ch p B wr ((wr.setCell ⟨g5, J * 6 + 4, none⟩ (.int .i64 Q)).drew) := ⟨rfl, rfl, rfl, by show wr.heap.size ≤ (wr.setCell ⟨g5, J * 6 + 4, none⟩ (.int .i64 Q)).heap.size; simp, fun k h1 _ => Below.heap_setCell wr ⟨g5, J * 6 + 4, none⟩ (.int .i64 Q) k (by show k ≠ g5; omega), fun k hk1 hk2 hr => ⟨Below.heap_setCell wr ⟨g5, J * 6 + 4, none⟩ (.int .i64 Q) k (fun e => hr ((rowAt_is h1).2 (by show some g5 = some k; rw [show k = g5 from e]))), fun hr' => hr ((rowAt_same hpb).1 hr')⟩⟩
          have hJ5 := hJq.ch hpW hC5
          clear hJe
          go_wp2_with fail
          go_region_with (first | (go_at_call 62; refine call1.mono ?_; rintro e w2 ⟨rfl, hw⟩; have hw := hw.symm; subst hw))
          all_goals go_wp2_with fail
          all_goals go_roundw
          all_goals try (simp only [intOf]; omega)
          all_goals exact ⟨k + 1, by go_num, hkl, hP5, hCq.trans hC5, hJ5⟩
        · obtain rfl : k = js.length := by omega
          go_wp2_with fail
          refine bodyPost_end (v := .tuple #[]) ?_ rfl ⟨rfl, by rw [← HQ.out]; exact hPq, hCq⟩
          simp [results, Tryz.results59]

end Rx
end Go.Proofs.YtgdnlmaacnnfiaaGreatDoor

