/-
  The program's firstLongest from one place on, and MatchAt.
-/
import Derived.Test.YtgdnlmaacnnfiaaGreatDoorQ50
import Derived.WalkMore
import Derived.Deep.LoopGhost
namespace Go.Proofs.YtgdnlmaacnnfiaaGreatDoor
open Go.RowKit
namespace Nf
set_option linter.unusedVariables false
open Rx Clo

/-- The other row of pieces, emptied. -/
def Here (q : Nat) (w : World) (ha : Option Addr) (hc : Nat) : Prop := w.ownsRow 0 127 2 (.slice ha 0 hc) 0 [] ∧ ∀ b, Value.ownBlock (.slice ha 0 hc) = some b → q < b ∧ ¬ RowAt4 q w b
/-- A row of pieces beside the walk's own. -/
def RowIn (q : Nat) (w : World) (v : Value) (n : Nat) (xs : List Value) : Prop := w.ownsRow 0 127 2 v n xs ∧ ∀ b, Value.ownBlock v = some b → q < b ∧ ¬ RowAt4 q w b
theorem RowIn.ch {q n : Nat} {v : Value} {xs : List Value} {w w1 : World} (h : RowIn q w v n xs) (hC : Ch4 q w w1) : RowIn q w1 v n xs := by
  obtain ⟨h1, h2⟩ := h
  exact ⟨Rx.owns_same h1 fun b hb => (hC.own b (h1.lt b hb).2 (by have := (h2 b hb).1; omega) (h2 b hb).2).1, fun b hb => ⟨(h2 b hb).1, (hC.own b (h1.lt b hb).2 (by have := (h2 b hb).1; omega) (h2 b hb).2).2⟩⟩
theorem RowIn.cut {q n cp : Nat} {pa : Option Addr} {xs : List Value} {w : World} (h : RowIn q w (.slice pa n cp) n xs) : Here q w pa cp := by
  obtain ⟨h1, h2⟩ := h
  refine ⟨?_, fun b hb => h2 b (by cases pa with | none => simp [Value.ownBlock] at hb | some a => exact hb)⟩
  rcases h1.2 with ⟨he, h0⟩ | ⟨gg, cap, cur, he, hb, hg, a1, a2, a3, a4⟩
  · simp at he
    obtain ⟨rfl, _, rfl⟩ := he
    exact World.ownsRow_nil _ _ _ _
  · simp at he
    obtain ⟨rfl, rfl⟩ := he
    exact ⟨by simp, .inr ⟨gg, cp, cur, rfl, hb, hg, Nat.zero_le _, a2, a3, by simp⟩⟩
theorem RowIn.cells {q cp : Nat} {fr : Int} {pa : Option Addr} {L : List Nat} {w : World} (h : RowIn q w (.slice pa L.length cp) L.length (pcs fr L)) {s p : Nat} (hs : L[s]? = some p) : ∃ gp, pa = some ⟨gp, 0, none⟩ ∧ gp < w.heap.size ∧ w.cell? ⟨gp, s * 2, none⟩ = some (.int .i64 fr) ∧ w.cell? ⟨gp, s * 2 + 1, none⟩ = some (.int .i64 (p : Int)) := by
  have hl := (List.getElem?_eq_some_iff.1 hs).1
  have h1 := h.1
  obtain ⟨gp, rfl, hgl⟩ : ∃ gp, pa = some ⟨gp, 0, none⟩ ∧ gp < w.heap.size := by
    rcases h1.2 with ⟨_, h0⟩ | ⟨gg, cap, cur, he, _⟩
    · omega
    · simp at he
      obtain ⟨rfl, rfl⟩ := he
      exact ⟨gg, rfl, (h1.lt gg rfl).2⟩
  have hp := pcs_at fr L s p hs
  have hln := pcs_len fr L
  refine ⟨gp, rfl, hgl, ?_, ?_⟩
  · rw [h1.cellAt _ (by omega)]
    exact hp.1
  · rw [h1.cellAt _ (by omega)]
    exact hp.2
/-- Nothing ahead of the walk is turned. -/
structure Fq (q : Nat) (w w' : World) : Prop where
  os : w'.os = w.os
  tape : w'.tape = w.tape
  output : w'.output = w.output
  size : w.heap.size ≤ w'.heap.size
  low : ∀ b, b < q → w'.heap[b]? = w.heap[b]? ∧ ¬ RowAt4 q w' b
theorem Fq.ch {q : Nat} {w w1 w2 : World} (h : Fq q w w1) (hq : q < w1.heap.size) (hc : Ch4 q w1 w2) : Fq q w w2 :=
  ⟨hc.os.trans h.os, hc.tape.trans h.tape, hc.output.trans h.output, Nat.le_trans h.size hc.size, fun b hb =>
    have h1 := hc.own b (by omega) (by omega) (h.low b hb).2
    ⟨h1.1.trans (h.low b hb).1, h1.2⟩⟩
theorem Here.ch {q hc : Nat} {ha : Option Addr} {w w1 : World} (h : Here q w ha hc) (hC : Ch4 q w w1) : Here q w1 ha hc := by
  obtain ⟨h1, h2⟩ := h
  exact ⟨Rx.owns_same h1 fun b hb => (hC.own b (h1.lt b hb).2 (by have := (h2 b hb).1; omega) (h2 b hb).2).1, fun b hb => ⟨(h2 b hb).1, (hC.own b (h1.lt b hb).2 (by have := (h2 b hb).1; omega) (h2 b hb).2).2⟩⟩


def IsRun (P : Nat → Pl) (tg : Nat → Nat) (N k i : Nat) (H : Nat → Bool) : Prop := ∀ p, H p = true ↔ Run P tg N 0 k p i
/-- Behind s of the pieces at place i of the text. -/
structure Mid (P : Nat → Pl) (tg : Nat → Nat) (N k z i : Nat) (L : List Nat) (tt : Int) (s : Nat) (t2 : Int) (H : Nat → Bool) : Prop where
  seed : ∀ j p, j < s → L[j]? = some p → i < N → Takes (P p) (tg i) → H (p + 1) = true
  run : ∀ x, H x = true → Run P tg N 0 k x (i + 1)
  shut : Shut P N (i + 1) H
  best : ((∀ j, j < s → L[j]? ≠ some z) ∧ t2 = tt) ∨ ((∃ j, j < s ∧ L[j]? = some z) ∧ t2 = (i : Int))
section
variable {P : Nat → Pl} {tg : Nat → Nat} {N k z i : Nat} {L : List Nat} {tt t2 : Int} {s : Nat} {H : Nat → Bool}
theorem mid_start : Mid P tg N k z i L tt 0 tt (fun _ => false) :=
  ⟨fun j p hj => by omega, fun x h => by simp at h, fun x h => by simp at h, .inl ⟨fun j hj => by omega, rfl⟩⟩
theorem mid_done (h : Mid P tg N k z i L tt s t2 H) (hs : L[s]? = some z) (hd : P z = doneP) : Mid P tg N k z i L tt (s + 1) (i : Int) H := by
  refine ⟨fun j p hj hp hi ht => ?_, h.run, h.shut, .inr ⟨⟨s, by omega, hs⟩, rfl⟩⟩
  by_cases e : j = s
  · subst e
    rw [hs] at hp
    cases hp
    rw [hd] at ht
    simp [Takes, doneP] at ht
  · exact h.seed j p (by omega) hp hi ht
theorem mid_best (h : Mid P tg N k z i L tt s t2 H) {p : Nat} (hs : L[s]? = some p) (hz : p ≠ z) : ((∀ j, j < s + 1 → L[j]? ≠ some z) ∧ t2 = tt) ∨ ((∃ j, j < s + 1 ∧ L[j]? = some z) ∧ t2 = (i : Int)) := by
  rcases h.best with ⟨h1, h2⟩ | ⟨⟨j, h1, h2⟩, h3⟩
  · refine .inl ⟨fun j hj e => ?_, h2⟩
    by_cases c : j = s
    · subst c
      rw [hs] at e
      cases e
      exact hz rfl
    · exact h1 j (by omega) e
  · exact .inr ⟨⟨j, by omega, h2⟩, h3⟩
theorem mid_skip (h : Mid P tg N k z i L tt s t2 H) {p : Nat} (hs : L[s]? = some p) (hz : p ≠ z) (hno : ¬ (i < N ∧ Takes (P p) (tg i))) : Mid P tg N k z i L tt (s + 1) t2 H := by
  refine ⟨fun j p' hj hp hi ht => ?_, h.run, h.shut, mid_best h hs hz⟩
  by_cases e : j = s
  · subst e
    rw [hs] at hp
    cases hp
    exact absurd ⟨hi, ht⟩ hno
  · exact h.seed j p' (by omega) hp hi ht
theorem mid_enter (h : Mid P tg N k z i L tt s t2 H) {p : Nat} {H' : Nat → Bool} (hs : L[s]? = some p) (hz : p ≠ z) (hi : i < N) (ht : Takes (P p) (tg i)) (hr : Run P tg N 0 k p i) (hd : Dfs P tg N (i + 1) H (p + 1) H') : Mid P tg N k z i L tt (s + 1) t2 H' := by
  have hr' : Run P tg N 0 k (p + 1) (i + 1) := run_step hr (.inr ⟨hi, rfl, rfl, ht⟩)
  refine ⟨fun j p' hj hp hi' ht' => ?_, fun x hx => ?_, fun x hx y hy => ?_, mid_best h hs hz⟩
  · by_cases e : j = s
    · subst e
      rw [hs] at hp
      cases hp
      exact hd.new
    · exact hd.old _ (h.seed j p' (by omega) hp hi' ht')
  · rcases hd.run x hx with h1 | h1
    · exact h.run x h1
    · exact run_trans hr' h1
  · rcases hd.shut x hx with h1 | h1
    · exact hd.old y (h.shut x h1 y hy)
    · exact h1 y hy
theorem mid_end (h : Mid P tg N k z i L tt L.length t2 H) (hki : k ≤ i) (hL : ∀ p, p ∈ L ↔ Run P tg N 0 k p i) (hT : To P tg N k z i tt) : To P tg N k z (i + 1) t2 ∧ IsRun P tg N k (i + 1) H := by
  refine ⟨?_, fun p => ⟨h.run p, fun hr => next_all hki (fun x hx hi ht => ?_) h.shut hr⟩⟩
  · rcases h.best with ⟨h1, rfl⟩ | ⟨⟨j, h1, h2⟩, rfl⟩
    · refine to_out hT fun hr => ?_
      obtain ⟨j, hj, e⟩ := List.mem_iff_getElem.1 ((hL z).2 hr)
      exact h1 j hj (by rw [List.getElem?_eq_getElem hj, e])
    · exact to_in (tt := 0) ((hL z).1 (List.mem_of_getElem? h2))
  · obtain ⟨j, hj, e⟩ := List.mem_iff_getElem.1 ((hL x).2 hx)
    exact h.seed j x hj (by rw [List.getElem?_eq_getElem hj, e]) hi ht
end

theorem setCells_same (b : Nat) : ∀ (vs : List Value) (o : Nat) (w : World), (w.setCells b o vs).os = w.os ∧ (w.setCells b o vs).tape = w.tape ∧ (w.setCells b o vs).output = w.output ∧ (w.setCells b o vs).heap.size = w.heap.size ∧ ∀ k, k ≠ b → (w.setCells b o vs).heap[k]? = w.heap[k]?
  | [], o, w => ⟨rfl, rfl, rfl, rfl, fun _ _ => rfl⟩
  | v :: r, o, w => by
    obtain ⟨h1, h2, h3, h4, h5⟩ := setCells_same b r (o + 1) (w.setCell ⟨b, o, none⟩ v)
    rw [World.setCells]
    exact ⟨h1, h2, h3, by rw [h4, World.size_setCell], fun k hk => (h5 k hk).trans (Below.heap_setCell _ ⟨b, o, none⟩ _ _ hk)⟩

theorem open_none (n : Nat) : open' (fun _ => false) n = n := by
  unfold open'
  have h : (List.range n).filter (fun k => !(fun _ => false : Nat → Bool) k) = List.range n := List.filter_eq_self.2 (by intro a _; rfl)
  rw [h, List.length_range]
/-- The rows change places, and nothing is held any more. -/
theorem emptied {q g n cap hc m : Nat} {P : Nat → Pl} {txt : ByteArray} {fr : Int} {H : Nat → Bool} {L : List Nat} {w wc w2 : World} {ha pa : Option Addr} {pc : Nat} (hS : Sw q g n cap P txt fr H L wc) (hH : Here q wc ha hc) (hF : Fq q w wc) (hgq : g < q)
    (r1 : wc.cell? ⟨q, 402, none⟩ = some (.slice pa L.length pc)) (hw : w2 = ((wc.setCell ⟨q, 402, none⟩ (.slice ha 0 hc)).drewN m).setCells q 2 (bools (fun _ => false) 400).toList) :
    Sw q g n cap P txt fr (fun _ => false) [] w2 ∧ RowIn q w2 (.slice pa L.length pc) L.length (pcs fr L) ∧ Fq q w w2 := by
  have hq := hS.q_lt
  obtain ⟨pv, u1, u2, u3⟩ := hS.row
  rw [r1] at u1
  cases u1
  obtain ⟨h1, h2⟩ := hH
  obtain ⟨w1, hw1⟩ : ∃ w1, w1 = (wc.setCell ⟨q, 402, none⟩ (.slice ha 0 hc)).drewN m := ⟨_, rfl⟩
  rw [← hw1] at hw
  obtain ⟨s1, s2, s3, s4, s5⟩ := setCells_same q (bools (fun _ => false) 400).toList 2 w1
  rw [← hw] at s1 s2 s3 s4 s5
  have hl : (bools (fun _ => false) 400).toList.length = 400 := by rw [Array.length_toList, bools_size]
  have c1 : ∀ j, j ≠ 402 → w1.cell? ⟨q, j, none⟩ = wc.cell? ⟨q, j, none⟩ := fun j hj => by rw [hw1, World.cell?_drewN, World.cell?_setCell_other _ _ _ _ (fun e => hj (by cases e; rfl))]
  have c402 : w1.cell? ⟨q, 402, none⟩ = some (.slice ha 0 hc) := by rw [hw1, World.cell?_drewN]; exact World.cell?_setCell_same _ _ _ r1
  have b1 : ∀ k, k ≠ q → w1.heap[k]? = wc.heap[k]? := fun k hk => by rw [hw1]; exact Below.heap_setCell _ ⟨q, 402, none⟩ _ _ hk
  have z1 : w1.heap.size = wc.heap.size := by rw [hw1]; exact World.size_setCell _ _ _
  have bk : ∀ k, k ≠ q → w2.heap[k]? = wc.heap[k]? := fun k hk => (s5 k hk).trans (b1 k hk)
  have out : ∀ j, j < 2 ∨ 402 ≤ j → w2.cell? ⟨q, j, none⟩ = w1.cell? ⟨q, j, none⟩ := fun j hj => by rw [hw]; exact World.cell?_setCells_out q _ 2 w1 _ (fun _ _ => by rw [hl]; exact hj)
  have c4 : w2.cell? ⟨q, 402, none⟩ = some (.slice ha 0 hc) := (out 402 (by omega)).trans c402
  have hpv : ∀ b, Value.ownBlock (.slice pa L.length pc) = some b → q < b := fun b hb => by
    have h3 := (u3 b hb).1
    rcases Nat.lt_trichotomy b q with h | h | h
    · exact absurd ((rowAt4_is r1).2 hb) (hF.low b h).2
    · exact absurd h h3
    · exact h
  have hap : ∀ b, Value.ownBlock (.slice pa L.length pc) = some b → ¬ RowAt4 q w2 b := fun b hb hr => (h2 b ((rowAt4_is c4).1 hr)).2 ((rowAt4_is r1).2 hb)
  refine ⟨⟨hS.ne, (out 0 (by omega)).trans ((c1 0 (by omega)).trans hS.c0), (out 1 (by omega)).trans ((c1 1 (by omega)).trans hS.c1), fun k hk => ?_, ⟨_, c4, Rx.owns_same h1 fun k hk => bk k (by have := (h2 k hk).1; omega), fun k hk => ?_⟩, fun j => ?_, hS.pr.on (bk g (fun e => hS.ne e.symm)) (by have := hS.pr.1; omega), fun x hx => by simp, fun x hx => by simp at hx, ?_⟩, ⟨Rx.owns_same u2 fun k hk => bk k (u3 k hk).1, fun b hb => ⟨hpv b hb, hap b hb⟩⟩, ⟨s1.trans ?_, s2.trans ?_, s3.trans ?_, by have := hF.size; omega, fun b hb => ⟨(bk b (by omega)).trans (hF.low b hb).1, fun hr => ?_⟩⟩⟩
  · rw [hw]
    have := World.cell?_setCells_in q (bools (fun _ => false) 400).toList 2 w1 (fun j hj => by rw [c1 _ (by omega), hS.held j (by omega)]; rfl) k (by omega)
    rw [this]
    simp [bools]
  · have := (h2 k hk).1
    exact ⟨by omega, by omega⟩
  · rw [hw, World.frozen?_setCells, hw1]
    simpa using hS.fz j
  · rw [List.length_nil, Nat.zero_add]
    exact open_none 400
  · rw [hw1]; exact hF.os
  · rw [hw1]; exact hF.tape
  · rw [hw1]; exact hF.output
  · have := (h2 b ((rowAt4_is c4).1 hr)).1
    omega

set_option maxHeartbeats 4000000 in
set_option maxRecDepth 100000 in
theorem iLong {q g n cap : Nat} {P : Nat → Pl} {txt : ByteArray} (hn : n ≤ 400) (hn0 : 0 < n) (hcap : n ≤ cap) (hG : ∀ k, k + 1 < n → Good (n - 1) (P k)) (hD : P (n - 1) = doneP) (ht : txt.size ≤ 1000) (k : Nat) (hk : k ≤ txt.size) (w : World) (hgq : g < q)
    (hle : ∀ p j, Run P (gOf txt) txt.size 0 k p j → p < n)
    (hS : Sw q g n cap P txt (k : Int) (fun _ => false) [] w) (hF : Fq q w w) :
    Calls Tryz.prog 34 #[.pointer (some ⟨q, 0, none⟩), .int .i64 (k : Int), .int .i64 (k : Int)] w fun r w' => ∃ tt : Int, r = .returned (.tuple #[.int .i64 (k : Int), .int .i64 tt]) ∧ To P (gOf txt) txt.size k (n - 1) (txt.size + 1) tt ∧ Fq q w w' := by
  obtain ⟨N, HN⟩ : ∃ N, Hid (N = txt.size) := ⟨_, rfl⟩
  obtain ⟨tg, Htg⟩ : ∃ tg, Hid (tg = gOf txt) := ⟨_, rfl⟩
  have hNt : (txt.size : Int) = (N : Int) := by rw [HN.out]
  have hNN : N ≤ 1000 := by rw [HN.out]; exact ht
  have hkN : k ≤ N := by rw [HN.out]; exact hk
  have enter : ∀ (e p : Nat) (H : Nat → Bool) (L : List Nat) (wx : World), e ≤ N → p < n → Sw q g n cap P txt (k : Int) H L wx → Calls Tryz.prog 65 #[.pointer (some ⟨q, 0, none⟩), .agg #[.int .i64 (k : Int), .int .i64 (p : Int)], .int .i64 (e : Int)] wx fun r w' => r = .returned (.tuple #[]) ∧ (∃ H' L', Sw q g n cap P txt (k : Int) H' L' w' ∧ Dfs P tg N e H p H' ∧ L.length ≤ L'.length) ∧ Ch4 q wx w' := fun e p H L wx he hp hS => by
    rw [HN.out]
    exact iEnter (tg := tg) hn hcap hG hD ht e (by rw [← HN.out]; exact he) 400 p H L wx hp (open_le _ _) hS
  rw [← HN.out, ← Htg.out] at hle ⊢
  clear hcap ht hk
  go_enter Tryz.func34, Tryz.ntmps34
  go_wp2_with fail
  go_step3
  go_wp2_with fail
  go_step3
  go_wp2_with fail
  go_loopw [8, 9, 10, 11] (fun fv tv hv av wr => ∃ (i : Nat) (tt : Int) (H : Nat → Bool) (L : List Nat), fv = .int .i64 (k : Int) ∧ tv = .int .i64 tt ∧ av = .int .i64 (i : Int) ∧ k ≤ i ∧ i ≤ N + 1 ∧ Sw q g n cap P txt (k : Int) H L wr ∧ (∃ ha hl hc, hv = .slice ha hl hc ∧ Here q wr ha hc) ∧ To P tg N k (n - 1) i tt ∧ Fq q w wr ∧ ((i = k ∧ H = (fun _ => false)) ∨ (k < i ∧ (i ≤ N → IsRun P tg N k i H)))) (fun _ _ _ av _ => N + 1 - (intOf av).toNat)
  case atStart => exact ⟨k, -1, _, [], rfl, rfl, rfl, Nat.le_refl _, by omega, hS, ⟨none, 0, 0, rfl, World.ownsRow_nil _ _ _ _, fun b hb => by simp [Value.ownBlock] at hb⟩, to_start, hF, .inl ⟨rfl, rfl⟩⟩
  case round =>
    obtain ⟨i, tt, H, L, rfl, rfl, rfl, hki, hiN, hSi, ⟨ha, hl, hc, rfl, hHe⟩, hTo, hFi, hcase⟩ := hrel
    have c1 := hSi.c1
    have hkiI : (k : Int) ≤ i := by omega
    have hiNI : (i : Int) ≤ (N : Int) + 1 := by omega
    by_cases hi : i ≤ N
    · have hiI : (i : Int) ≤ N := by omega
      go_upto_if 28 with fail
      go_cut [] (fun wx => ∃ (H1 : Nat → Bool) (L1 : List Nat), Sw q g n cap P txt (k : Int) H1 L1 wx ∧ IsRun P tg N k i H1 ∧ Here q wx ha hc ∧ Fq q w wx)
      case first =>
        by_cases hik : i = k
        · have hcI : (i : Int) ≤ (k : Int) := by omega
          have hH : H = fun _ => false := by
            rcases hcase with h | h
            · exact h.2
            · omega
          have call : Calls Tryz.prog 65 #[.pointer (some ⟨q, 0, none⟩), .agg #[.int .i64 (i : Int), .int .i64 0], .int .i64 (i : Int)] wr fun r w' => r = .returned (.tuple #[]) ∧ (∃ H' L', Sw q g n cap P txt (k : Int) H' L' w' ∧ Dfs P tg N i H 0 H' ∧ L.length ≤ L'.length) ∧ Ch4 q wr w' := by
            have h := enter i 0 H L wr hi hn0 hSi
            have e : (Value.agg #[.int .i64 (k : Int), .int .i64 ((0 : Nat) : Int)]) = .agg #[.int .i64 (i : Int), .int .i64 0] := by rw [hik]; rfl
            rw [e] at h
            exact h
          have Hik : Hid (i = k) := hik
          have HH : Hid (H = fun _ => false) := hH
          clear hik hH hkiI
          go_wp2_with (go_at_call 65; refine call.mono ?_; rintro r w2 ⟨rfl, ⟨H2, L2, hS2, hD2, _⟩, hC2⟩)
          go_meet
          case rel =>
            have hik := Hik.out
            have hH := HH.out
            refine ⟨H2, L2, hS2, fun p => ⟨fun hp => ?_, fun hr => ?_⟩, hHe.ch hC2, hFi.ch hSi.q_lt hC2⟩
            · rcases hD2.run p hp with h | h
              · rw [hH] at h
                simp at h
              · rw [hik] at h ⊢
                exact h
            · rw [hik] at hr hD2
              refine first_all hD2.new (fun x hx y hy => ?_) hr
              rcases hD2.shut x hx with h | h
              · rw [hH] at h
                simp at h
              · exact h y hy
        · have hcI : (k : Int) < (i : Int) := by omega
          go_wp2_with fail
          go_meet
          case rel =>
            rcases hcase with h | h
            · omega
            · exact ⟨H, L, hSi, h.2 hi, hHe, hFi⟩
      case rest =>
        obtain ⟨H1, L1, hS1, hR1, hH1, hF1⟩ := hcut
        clear hSi hHe hFi hcase c1 H L
        have hrg : wc.rangeAt q 2 (bools H1 400).toList := fun j v hv => by
          have hj : j < 400 := by
            have := (List.getElem?_eq_some_iff.1 hv).1
            simpa [bools_size] using this
          rw [hS1.held j hj]
          rw [Array.getElem?_toList, bools_get H1 hj] at hv
          exact hv
        have hu : Tryz.prog.underlying 74 = some (.array 400 4) := by kernel_rfl
        have hsz : (Tryz.prog.info? 74).map (·.size) = some (bools H1 400).toList.length := by rw [Array.length_toList, bools_size]; kernel_rfl
        obtain ⟨bo, hbo⟩ : ∃ bo, bo = ((List.range' 0 400).all fun i => H1 i == false) := ⟨_, rfl⟩
        have heq : (Op.equalIn 10000 74 (.agg (bools H1 400)) (.agg Tryz.zeroCells74)).run Tryz.prog wc = .ok bo wc := by
          have hz : Tryz.zeroCells74 = bools (fun _ => false) 400 := by kernel_rfl
          rw [hz, hbo]
          exact run_eqArr 9998 400 _ _ H1 (fun _ => false) hu (by kernel_rfl) (by kernel_rfl) wc
        have Hbo : Hid (bo = ((List.range' 0 400).all fun i => H1 i == false)) := hbo
        clear hbo
        obtain ⟨pv, r1, r2, r3⟩ := hS1.row
        obtain ⟨pa, pc, rfl⟩ := Rx.owns_slice r2
        have f4 := hS1.fz 402
        cases bo with
        | true =>
          have hno : ∀ p, ¬ Run P tg N 0 k p i := fun p hr => by
            have h1 := (hR1 p).2 hr
            have hb := Hbo.out
            rw [eq_comm, List.all_eq_true] at hb
            have := hb p (by have := hle p i hr; simp; omega)
            rw [h1] at this
            simp at this
          go_wp2_with (first | (refine wpList_load_mid rfl 74 (.tmp 36) rfl q 2 (by simp [Act.eval]) (bools H1 400).toList (.array 400 4) hrg hu rfl hsz ?_))
          try rw [Exit.noGoto_ret]
          refine bodyPost_ret (v := .tuple #[.int .i64 (k : Int), .int .i64 tt]) (by simp [results, Tryz.results34]) rfl ⟨tt, rfl, to_far hki hTo hno hiN, hF1⟩
        | false =>
          go_upto_region 9 with (first | (refine wpList_load_mid rfl 74 (.tmp 36) rfl q 2 (by simp [Act.eval]) (bools H1 400).toList (.array 400 4) hrg hu rfl hsz ?_))
          clear heq hrg hsz
          have hthere : ∀ mm, ((wc.setCell ⟨q, 402, none⟩ (.slice ha 0 hc)).drewN mm).there q 2 Tryz.zeroCells74.size := fun mm j hj => by
            have hj : j < 400 := by
              have : Tryz.zeroCells74.size = 400 := by kernel_rfl
              omega
            refine ⟨?_, by simpa using hS1.fz (2 + j)⟩
            rw [World.cell?_drewN, World.cell?_setCell_other _ _ _ _ (fun e => by have := congrArg Addr.off e; simp at this; omega), hS1.held j hj]
            rfl
          have hz2 : (Tryz.prog.info? 74).map (·.size) = some Tryz.zeroCells74.size := by kernel_rfl
          have hone : Tryz.zeroCells74.all (·.oneCell') = true := by kernel_rfl
          have hform : ha = none ∨ ∃ gh, ha = some ⟨gh, 0, none⟩ := by
            rcases hH1.1.2 with ⟨he, _⟩ | ⟨gg, cp, cur, he, _⟩
            · simp at he
              exact .inl he.1
            · simp at he
              exact .inr ⟨gg, he.1⟩
          have hzz : Tryz.zeroCells74 = bools (fun _ => false) 400 := by kernel_rfl
          have hem := fun w2 hw => emptied (m := 1) (w2 := w2) hS1 hH1 hF1 hgq r1 hw
          rw [← hzz] at hem
          clear hzz
          have HR1 : Hid (IsRun P tg N k i H1) := hR1
          have Hmem : Hid (∀ p, p ∈ L1 ↔ Run P tg N 0 k p i) := fun p => by
            constructor
            · intro hp
              have := hS1.lt p hp
              exact (hR1 p).1 ((hS1.mem p (by omega)).2 hp)
            · intro hr
              have := hle p i hr
              exact (hS1.mem p (by omega)).1 ((hR1 p).2 hr)
          have hL1 : L1.length ≤ 400 := by have := hS1.cnt; omega
          have hlt1 := hS1.lt
          go_cut [10] (fun v wx => v = .slice pa L1.length pc ∧ wx = (wc.setCell ⟨q, 402, none⟩ (.slice ha 0 hc)).drew)
          case first =>
            rcases hform with rfl | ⟨gh, rfl⟩
            · go_region
              go_wp2_with fail
              go_meet
              case rel => exact ⟨rfl, rfl⟩
            · go_region
              go_wp2_with fail
              go_meet
              case rel => exact ⟨rfl, rfl⟩
          case rest =>
            obtain ⟨rfl, rfl⟩ := hcut
            go_upto_region 11 with (first | (refine wpList_store_mid rfl 74 (.tmp 52) (.tmp 50) rfl q 2 Tryz.zeroCells74 (by simp [Act.eval]) (by simp [Act.eval]) (hthere 1) hz2 hone ?_))
            obtain ⟨w2, hw2⟩ : ∃ w2, w2 = ((wc.setCell ⟨q, 402, none⟩ (.slice ha 0 hc)).drew).setCells q 2 Tryz.zeroCells74.toList := ⟨_, rfl⟩
            obtain ⟨hS2, hR2, hF2⟩ := hem w2 hw2
            rw [← hw2]
            clear hw2 hem hthere hz2 hone hS1 hH1 hF1 hR1 r1 r2 r3 f4 hform
            go_wp2_with fail
            go_loopw [8, 9, 55] (fun fv tv iv wr => ∃ (s : Nat) (t2 : Int) (H2 : Nat → Bool) (L2 : List Nat), fv = .int .i64 (k : Int) ∧ tv = .int .i64 t2 ∧ iv = .int .i64 (s : Int) ∧ s ≤ L1.length ∧ Sw q g n cap P txt (k : Int) H2 L2 wr ∧ RowIn q wr (.slice pa L1.length pc) L1.length (pcs (k : Int) L1) ∧ Fq q w wr ∧ Mid P tg N k (n - 1) i L1 tt s t2 H2) (fun _ _ iv _ => L1.length - (intOf iv).toNat)
            case atStart => exact ⟨0, tt, _, [], rfl, rfl, rfl, Nat.zero_le _, hS2, hR2, hF2, mid_start⟩
            case round =>
              obtain ⟨s, t2, H2, L2, rfl, rfl, rfl, hsL, hSr, hRr, hFr, hMr⟩ := hrel
              by_cases hs : s < L1.length
              · have hLs : L1[s]? = some L1[s] := List.getElem?_eq_getElem hs
                obtain ⟨p, hpe⟩ : ∃ p, p = L1[s] := ⟨_, rfl⟩
                rw [← hpe] at hLs
                have hpn : p < n := hlt1 p (List.mem_of_getElem? hLs)
                have hrun : Run P tg N 0 k p i := (Hmem.out p).1 (List.mem_of_getElem? hLs)
                obtain ⟨gp, hpa, hgpl, d0, d1⟩ := hRr.cells hLs
                obtain ⟨p0, p1, p2, p3, p4, p5⟩ := hSr.pr.cells hpn
                obtain ⟨op, c, ss, no, a, b, HP⟩ : ∃ op c ss no a b, Hid (P p = ⟨op, c, ss, no, a, b⟩) := ⟨_, _, _, _, _, _, rfl⟩
                rw [HP.out] at p0 p1 p2 p3 p4 p5
                dsimp only at p0 p1 p2 p3 p4 p5
                have hlq := hSr.q_lt
                have hlg := hSr.pr.1
                have hsI : (s : Int) < L1.length := by omega
                have hLI : (L1.length : Int) ≤ 400 := by omega
                have hpI : (p : Int) < n := by omega
                have hnI : (n : Int) ≤ 400 := by omega
                obtain ⟨bx, hbx⟩ : ∃ bx, bx = wr.heap.size := ⟨_, rfl⟩
                obtain ⟨w3, hw3⟩ : ∃ w3, w3 = wr.alloc (.cells #[.int .i64 (k : Int), .int .i64 (p : Int)] 127) := ⟨_, rfl⟩
                have hb3 : Below wr.heap.size wr w3 := by rw [hw3]; exact (Below.refl _ _).alloc (Nat.le_refl _) _
                have e0 : w3.cell? ⟨bx, 0, none⟩ = some (.int .i64 (k : Int)) := by rw [hw3, hbx, World.cell?_alloc_at _ _ _ _ rfl]; rfl
                have e1 : w3.cell? ⟨bx, 1, none⟩ = some (.int .i64 (p : Int)) := by rw [hw3, hbx, World.cell?_alloc_at _ _ _ _ rfl]; rfl
                have HMr : Hid (Mid P tg N k (n - 1) i L1 tt s t2 H2) := hMr
                have HLs : Hid (L1[s]? = some p) := hLs
                clear hpe hMr hLs
                subst hpa
                go_upto_region 14 with fail
                rw [← hw3, ← hbx]
                have hS3 := hSr.on hb3
                have hR3 := hRr.ch (ch4_below hlq hb3)
                have hF3 := hFr.ch hlq (ch4_below hlq hb3)
                have k0 := hS3.c0
                have k1 := hS3.c1
                have p0 := (hb3.cell (p := ⟨g, p * 6, none⟩) hlg).trans p0
                have p1 := (hb3.cell (p := ⟨g, p * 6 + 1, none⟩) hlg).trans p1
                have p2 := (hb3.cell (p := ⟨g, p * 6 + 2, none⟩) hlg).trans p2
                have p3 := (hb3.cell (p := ⟨g, p * 6 + 3, none⟩) hlg).trans p3
                have p4 := (hb3.cell (p := ⟨g, p * 6 + 4, none⟩) hlg).trans p4
                have p5 := (hb3.cell (p := ⟨g, p * 6 + 5, none⟩) hlg).trans p5
                clear hw3 hbx hSr hRr hFr d0 d1 hb3 hgpl hlq hlg
                have hlq := hS3.q_lt
                have hlg := hS3.pr.1
                have hlb : bx < w3.heap.size := World.block_lt_of_cell? w3 _ e0
                go_cut [14] (fun v wx => v = .pointer (some ⟨w3.heap.size, 0, none⟩) ∧ wx = (w3.alloc (.cells #[.int .i64 op, .int .i64 c, .string ss, .bool no, .int .i64 a, .int .i64 b] 67)).drew)
                case first =>
                  go_region
                  all_goals
                    go_wp2_with fail
                    go_meet
                    case rel => exact ⟨rfl, rfl⟩
                case rest =>
                  obtain ⟨rfl, rfl⟩ := hcut
                  obtain ⟨by4, hby4⟩ : ∃ by4, by4 = w3.heap.size := ⟨_, rfl⟩
                  obtain ⟨w4, hw4⟩ : ∃ w4, w4 = (w3.alloc (.cells #[.int .i64 op, .int .i64 c, .string ss, .bool no, .int .i64 a, .int .i64 b] 67)).drew := ⟨_, rfl⟩
                  have hb4 : Below w3.heap.size w3 w4 := by rw [hw4]; exact below_drew1 ((Below.refl _ _).alloc (Nat.le_refl _) _)
                  have hrow4 : w4.heap[by4]? = some (.cells #[.int .i64 op, .int .i64 c, .string ss, .bool no, .int .i64 a, .int .i64 b] 67 (0, 0)) := by rw [hw4, hby4]; exact heap_alloc_last w3 _
                  have y0 : w4.cell? ⟨by4, 0, none⟩ = some (.int .i64 op) := by rw [cell_of_row _ _ 0 _ _ (0, 0) hrow4]; rfl
                  have y1 : w4.cell? ⟨by4, 1, none⟩ = some (.int .i64 c) := by rw [cell_of_row _ _ 1 _ _ (0, 0) hrow4]; rfl
                  have y2 : w4.cell? ⟨by4, 2, none⟩ = some (.string ss) := by rw [cell_of_row _ _ 2 _ _ (0, 0) hrow4]; rfl
                  have y3 : w4.cell? ⟨by4, 3, none⟩ = some (.bool no) := by rw [cell_of_row _ _ 3 _ _ (0, 0) hrow4]; rfl
                  have y4 : w4.cell? ⟨by4, 4, none⟩ = some (.int .i64 a) := by rw [cell_of_row _ _ 4 _ _ (0, 0) hrow4]; rfl
                  have y5 : w4.cell? ⟨by4, 5, none⟩ = some (.int .i64 b) := by rw [cell_of_row _ _ 5 _ _ (0, 0) hrow4]; rfl
                  have e0 := (hb4.cell (p := ⟨bx, 0, none⟩) hlb).trans e0
                  have e1 := (hb4.cell (p := ⟨bx, 1, none⟩) hlb).trans e1
                  have hS4 := hS3.on hb4
                  have hR4 := hR3.ch (ch4_below hlq hb4)
                  have hF4 := hF3.ch hlq (ch4_below hlq hb4)
                  have k1 := hS4.c1
                  rw [← hw4, ← hby4]
                  clear hw4 hby4 hrow4 p0 p1 p2 p3 p4 p5 k0 hS3 hR3 hF3 hb4 hlq hlg hlb
                  have hlq := hS4.q_lt
                  have hlb : bx < w4.heap.size := World.block_lt_of_cell? w4 _ e0
                  have hly : by4 < w4.heap.size := World.block_lt_of_cell? w4 _ y0
                  by_cases hz : p = n - 1
                  · have hop : op = 8 := by
                      have h := HP.out
                      rw [hz, hD] at h
                      have := congrArg Pl.op h
                      simpa [doneP] using this.symm
                    subst hop
                    have HLz : Hid (L1[s]? = some (n - 1)) := by rw [← hz]; exact HLs.out
                    clear hz
                    go_wp2_with fail
                    refine ⟨⟨s + 1, (i : Int), H2, L2, rfl, rfl, by go_num, by omega, hS4, hR4, hF4, mid_done HMr.out HLz.out hD⟩, by simp [intOf]; omega⟩
                  · have hgood : Good (n - 1) (P p) := hG p (by omega)
                    have hop8 : (op == 8) = false := by
                      have h := HP.out
                      rw [h] at hgood
                      rcases hgood with ⟨c, e⟩ | e | ⟨s, no, e, _⟩ | e | e | ⟨a, _, e⟩ | ⟨a, b, _, _, e⟩ <;> (have := congrArg Pl.op e; simp [byteP, anyP, setP, startP, endP, jumpP, forkP] at this; subst this; rfl)
                    by_cases hi' : i < N
                    · have hiI' : (i : Int) < N := by omega
                      have hit : i < txt.size := by rw [← HN.out]; exact hi'
                      have callT := iTakes (E := n - 1) (P p) (.inl hgood) (txt[i].toNat) txt[i].toNat_lt w4.drew
                      obtain ⟨tb, HT⟩ : ∃ tb, Hid (tb = takesB (P p) (tg i)) := ⟨_, rfl⟩
                      have hgi : tg i = txt[i].toNat := by rw [Htg.out]; exact gOf_in hit
                      rw [← hgi, ← HT.out, hgi] at callT
                      unfold aggP at callT
                      rw [HP.out] at callT
                      dsimp only at callT
                      have hd4 : ∀ w5, Below w4.drew.heap.size w4.drew w5 → Below w4.heap.size w4 w5 := fun w5 h => (below_drew1 (Below.refl _ _)).trans h
                      clear hgi
                      cases tb with
                      | false =>
                        go_upto_region 18 with fail
                        go_region_held3 (fun w' => w'.cell? ⟨q, 1, none⟩ = some (.string txt) ∧ w'.cell? ⟨by4, 0, none⟩ = some (.int .i64 op) ∧ w'.cell? ⟨by4, 1, none⟩ = some (.int .i64 c) ∧ w'.cell? ⟨by4, 2, none⟩ = some (.string ss) ∧ w'.cell? ⟨by4, 3, none⟩ = some (.bool no) ∧ w'.cell? ⟨by4, 4, none⟩ = some (.int .i64 a) ∧ w'.cell? ⟨by4, 5, none⟩ = some (.int .i64 b)) (go_keep) (first | (go_at_call 66; with_reducible refine callT.mono ?_; rintro r w5 ⟨rfl, hb5⟩; have hb5 := hd4 w5 hb5; have k1' := (hb5.cell (p := ⟨q, 1, none⟩) hlq).trans k1; have e0' := (hb5.cell (p := ⟨bx, 0, none⟩) hlb).trans e0; have e1' := (hb5.cell (p := ⟨bx, 1, none⟩) hlb).trans e1; have y0' := (hb5.cell (p := ⟨by4, 0, none⟩) hly).trans y0; have y1' := (hb5.cell (p := ⟨by4, 1, none⟩) hly).trans y1; have y2' := (hb5.cell (p := ⟨by4, 2, none⟩) hly).trans y2; have y3' := (hb5.cell (p := ⟨by4, 3, none⟩) hly).trans y3; have y4' := (hb5.cell (p := ⟨by4, 4, none⟩) hly).trans y4; have y5' := (hb5.cell (p := ⟨by4, 5, none⟩) hly).trans y5))
                        all_goals go_wp2_with fail
                        refine ⟨⟨s + 1, t2, H2, L2, rfl, rfl, by go_num, by omega, hS4.on hb5, hR4.ch (ch4_below hlq hb5), hF4.ch hlq (ch4_below hlq hb5), mid_skip HMr.out HLs.out hz (fun h => ?_)⟩, by simp [intOf]; omega⟩
                        have := takesB_iff.2 h.2
                        rw [← HT.out] at this
                        simp at this
                      | true =>
                        have hen := fun w5 (hb5 : Below w4.heap.size w4 w5) => enter (i + 1) (p + 1) H2 L2 w5 hi' (by omega) (hS4.on hb5)
                        rw [show ((p + 1 : Nat) : Int) = (p : Int) + 1 by omega, show ((i + 1 : Nat) : Int) = (i : Int) + 1 by omega] at hen
                        go_upto_region 18 with fail
                        go_region_held3 (fun w' => w'.cell? ⟨q, 1, none⟩ = some (.string txt) ∧ w'.cell? ⟨by4, 0, none⟩ = some (.int .i64 op) ∧ w'.cell? ⟨by4, 1, none⟩ = some (.int .i64 c) ∧ w'.cell? ⟨by4, 2, none⟩ = some (.string ss) ∧ w'.cell? ⟨by4, 3, none⟩ = some (.bool no) ∧ w'.cell? ⟨by4, 4, none⟩ = some (.int .i64 a) ∧ w'.cell? ⟨by4, 5, none⟩ = some (.int .i64 b)) (go_keep) (first | (go_at_call 66; with_reducible refine callT.mono ?_; rintro r w5 ⟨rfl, hb5⟩; have hb5 := hd4 w5 hb5; have k1' := (hb5.cell (p := ⟨q, 1, none⟩) hlq).trans k1; have e0' := (hb5.cell (p := ⟨bx, 0, none⟩) hlb).trans e0; have e1' := (hb5.cell (p := ⟨bx, 1, none⟩) hlb).trans e1; have y0' := (hb5.cell (p := ⟨by4, 0, none⟩) hly).trans y0; have y1' := (hb5.cell (p := ⟨by4, 1, none⟩) hly).trans y1; have y2' := (hb5.cell (p := ⟨by4, 2, none⟩) hly).trans y2; have y3' := (hb5.cell (p := ⟨by4, 3, none⟩) hly).trans y3; have y4' := (hb5.cell (p := ⟨by4, 4, none⟩) hly).trans y4; have y5' := (hb5.cell (p := ⟨by4, 5, none⟩) hly).trans y5))
                        all_goals go_wp2_with (go_at_call 65; refine (hen w5 hb5).mono ?_; rintro r w6 ⟨rfl, ⟨H6, L6, hS6, hD6, _⟩, hC6⟩)
                        have hC5 := (ch4_below hlq hb5).trans hC6
                        refine ⟨⟨s + 1, t2, H6, L6, rfl, rfl, by go_num, by omega, hS6, hR4.ch hC5, hF4.ch hlq hC5, mid_enter HMr.out HLs.out hz hi' (takesB_iff.1 HT.out.symm) hrun hD6⟩, by simp [intOf]; omega⟩
                    · have dd1 : decide ((i : Int) < (N : Int)) = false := decide_eq_false (by omega)
                      have dd2 : decide (i < N) = false := decide_eq_false (by omega)
                      go_upto_region 18 with fail
                      go_quiet (fail)
                      all_goals go_wp2_with fail
                      have hb5 := below_drewK (Below.refl w4.heap.size w4) nq
                      refine ⟨⟨s + 1, t2, H2, L2, rfl, rfl, by go_num, by omega, hS4.on hb5, hR4.ch (ch4_below hlq hb5), hF4.ch hlq (ch4_below hlq hb5), mid_skip HMr.out HLs.out hz (fun h => by have := h.1; omega)⟩, by simp [intOf]; omega⟩
              · obtain rfl : s = L1.length := by omega
                obtain ⟨hT2, hI2⟩ := mid_end hMr hki Hmem.out hTo
                go_wp2_with fail
                refine ⟨⟨i + 1, t2, H2, L2, rfl, rfl, by go_num, by omega, by omega, hSr, ⟨_, _, _, rfl, hRr.cut⟩, hT2, hFr, .inr ⟨by omega, fun _ => hI2⟩⟩, by simp [intOf]; omega⟩
    · have hcond : decide ((i : Int) ≤ (N : Int)) = false := decide_eq_false (by omega)
      obtain rfl : i = N + 1 := by omega
      go_wp2_with fail
      try rw [Exit.noGoto_ret]
      refine bodyPost_ret (v := .tuple #[.int .i64 (k : Int), .int .i64 tt]) (by simp [results, Tryz.results34]) rfl ⟨tt, rfl, hTo, hFi⟩

end Nf
end Go.Proofs.YtgdnlmaacnnfiaaGreatDoor

