/-
  The program's enter: a piece is put to its place, and to all that it comes to from there without a byte.
  Chapter 5's specification: l5In, l5One, l5Join.
-/
import Derived.Test.YtgdnlmaacnnfiaaGreatDoorQ16
import Derived.Test.YtgdnlmaacnnfiaaGreatDoorQ09
import Derived.Test.YtgdnlmaacnnfiaaGreatDoorQ03
namespace Go.Proofs.YtgdnlmaacnnfiaaGreatDoor
open Go.RowKit
namespace Nf
set_option linter.unusedVariables false
open Rx Clo

theorem Tryz.infoPiecer : (Tryz.prog.info? 127).map (fun i => (i.zero, i.size, i.bytes)) = some (some (.agg #[.int .i64 0, .int .i64 0]), 2, 16) := by kernel_rfl

theorem below_drewK {B : Nat} {W w : World} (h : Below B W w) (n : Nat) : Below B W (w.drewN n) := ⟨h.os, h.tape, h.output, h.size, h.block⟩
section
variable (q g n cap : Nat) (P : Nat → Pl) (txt : ByteArray) (fr : Int) (tg : Nat → Nat)
def EnterOk (e m : Nat) : Prop := ∀ (p : Nat) (H : Nat → Bool) (L : List Nat) (w : World), p < n → open' H 400 ≤ m → Sw q g n cap P txt fr H L w →
  Calls Tryz.prog 65 #[.pointer (some ⟨q, 0, none⟩), .agg #[.int .i64 fr, .int .i64 (p : Int)], .int .i64 (e : Int)] w fun r w' => r = .returned (.tuple #[]) ∧ (∃ H' L', Sw q g n cap P txt fr H' L' w' ∧ Dfs P tg txt.size e H p H' ∧ L.length ≤ L'.length) ∧ Ch4 q w w'
end

set_option maxHeartbeats 2000000 in
set_option maxRecDepth 100000 in
theorem enter_held {q g n cap : Nat} {P : Nat → Pl} {txt : ByteArray} {fr : Int} {tg : Nat → Nat} (hn : n ≤ 400) (e p : Nat) (H : Nat → Bool) (L : List Nat) (w : World) (hp : p < n) (hS : Sw q g n cap P txt fr H L w) (hH : H p = true) :
  Calls Tryz.prog 65 #[.pointer (some ⟨q, 0, none⟩), .agg #[.int .i64 fr, .int .i64 (p : Int)], .int .i64 (e : Int)] w fun r w' => r = .returned (.tuple #[]) ∧ (∃ H' L', Sw q g n cap P txt fr H' L' w' ∧ Dfs P tg txt.size e H p H' ∧ L.length ≤ L'.length) ∧ Ch4 q w w' := by
  have hq := hS.q_lt
  have c := hS.held p (by omega)
  rw [hH] at c
  have hpI : (p : Int) < 400 := by omega
  have hb : ∀ o, Below w.heap.size w (w.alloc o) := fun o => (Below.refl _ w).alloc (Nat.le_refl _) o
  have fin : ∀ w', Below w.heap.size w w' → (∃ H' L', Sw q g n cap P txt fr H' L' w' ∧ Dfs P tg txt.size e H p H' ∧ L.length ≤ L'.length) ∧ Ch4 q w w' := fun w' h => ⟨⟨H, L, hS.on h, ⟨fun _ h => h, hH, fun _ h => .inl h, fun _ h => .inl h⟩, Nat.le_refl _⟩, ch4_below hq h⟩
  clear hS hH
  go_enter Tryz.func65, Tryz.ntmps65
  go_wp2_with fail
  go_quiet (fail)
  go_wp2_with fail
  refine bodyPost_ret (v := .tuple #[]) (by simp [results, Tryz.results65]) rfl ⟨rfl, fin _ (below_drewK (hb _) _)⟩

theorem pushed {q g n cap p : Nat} {P : Nat → Pl} {txt : ByteArray} {fr : Int} {H : Nat → Bool} {L : List Nat} {w w1 w4 : World} {pv pv' : Value} {o' : Obj} {box : Obj} (hS : Sw q g n cap P txt fr H L w) (hp : p < n) (hn : n ≤ 400) (hH : H p = false)
    (r1 : w.cell? ⟨q, 402, none⟩ = some pv) (r2 : w.ownsRow 0 127 2 pv L.length (pcs fr L)) (r3 : ∀ k, Value.ownBlock pv = some k → k ≠ q ∧ k ≠ g)
    (h1q : ∀ k, k ≠ q → k < w.heap.size → w1.heap[k]? = w.heap[k]?) (hs1 : w1.heap.size = w.heap.size + 1) (cq : ∀ j, j ≠ 2 + p → w1.cell? ⟨q, j, none⟩ = w.cell? ⟨q, j, none⟩) (cp : w1.cell? ⟨q, 2 + p, none⟩ = some (.bool true)) (fq1 : ∀ j, w1.frozen? ⟨q, j, none⟩ = false) (cb : w1.heap[w.heap.size]? = some box)
    (hos1 : w1.os = w.os) (hta1 : w1.tape = w.tape) (hou1 : w1.output = w.output)
    (hgr : ((w1.drew).alloc o').grownBy w4 (Value.ownBlock pv)) (hown4 : w4.ownsRow 0 127 2 pv' (L.length + 1) (pcs fr L ++ [.int .i64 fr, .int .i64 (p : Int)])) (hb4 : Value.ownBlock pv' = Value.ownBlock pv ∨ Value.ownBlock pv' = some ((w1.drew).alloc o').heap.size) :
    Sw q g n cap P txt fr (Clo.mark H p) (L ++ [p]) (w4.setCell ⟨q, 402, none⟩ pv') ∧ (w4.setCell ⟨q, 402, none⟩ pv').heap[w.heap.size]? = some box ∧ Ch4 q w (w4.setCell ⟨q, 402, none⟩ pv') ∧ ¬ RowAt4 q (w4.setCell ⟨q, 402, none⟩ pv') w.heap.size := by
  have hq := hS.q_lt
  have hg := hS.pr.1
  have hz : ((w1.drew).alloc o').heap.size = w.heap.size + 2 := by rw [World.size_alloc]; show w1.heap.size + 1 = _; omega
  have hz4 := hgr.size
  have b4 : ∀ k, k < w1.heap.size → Value.ownBlock pv ≠ some k → w4.heap[k]? = w1.heap[k]? := fun k hk hne => (hgr.block k (by omega) (fun e => hne e.symm)).trans (Below.heap_alloc w1.drew _ _ hk)
  have hnq : Value.ownBlock pv ≠ some q := fun e => (r3 q e).1 rfl
  have hng : Value.ownBlock pv ≠ some g := fun e => (r3 g e).2 rfl
  have hnb : Value.ownBlock pv ≠ some w.heap.size := fun e => by have := (r2.lt _ e).2; omega
  have q4 := b4 q (by omega) hnq
  have c4 : ∀ j, w4.cell? ⟨q, j, none⟩ = w1.cell? ⟨q, j, none⟩ := fun j => World.cell?_of_block q4
  have hne' : ∀ k, Value.ownBlock pv' = some k → k ≠ q ∧ k ≠ g := fun k hk => by
    rcases hb4 with e | e
    · exact r3 k (by rw [← e]; exact hk)
    · rw [e, hz] at hk
      cases hk
      omega
  have hst : ∀ k, k ≠ q → (w4.setCell ⟨q, 402, none⟩ pv').heap[k]? = w4.heap[k]? := fun k hk => Below.heap_setCell _ ⟨q, 402, none⟩ _ _ hk
  have hoth : ∀ j, j ≠ 402 → (w4.setCell ⟨q, 402, none⟩ pv').cell? ⟨q, j, none⟩ = w1.cell? ⟨q, j, none⟩ := fun j hj => by
    rw [World.cell?_setCell_other _ _ _ _ (fun e => hj (by cases e; rfl)), c4]
  have hsame : (w4.setCell ⟨q, 402, none⟩ pv').cell? ⟨q, 402, none⟩ = some pv' := World.cell?_setCell_same _ _ _ ((c4 402).trans ((cq 402 (by omega)).trans r1))
  refine ⟨hS.push hp hn hH (by rw [World.size_setCell]; omega) ((hoth 0 (by omega)).trans (cq 0 (by omega))) ((hoth 1 (by omega)).trans (cq 1 (by omega))) (fun k hk hkp => (hoth _ (by omega)).trans (cq _ (by omega))) ((hoth _ (by omega)).trans cp) hsame
    (Rx.owns_same hown4 fun k hk => hst k (hne' k hk).1) hne' (fun j => ?_) ?_, ?_, ?_, fun hr => ?_⟩
  · have h0 : w4.frozen? ⟨q, j, none⟩ = false := (World.frozen?_of_block q4).trans (fq1 j)
    simpa using h0
  · rw [hst g (fun e => hS.ne e.symm), b4 g (by omega) hng, h1q g (fun e => hS.ne e.symm) hg]
  · rw [hst _ (by omega), b4 _ (by omega) hnb]
    exact cb
  · refine ⟨hgr.os.trans hos1, hgr.tape.trans hta1, hgr.output.trans hou1, by rw [World.size_setCell]; omega, fun k hk hkq hr => ?_⟩
    have hro : Value.ownBlock pv ≠ some k := fun e => hr ((rowAt4_is r1).2 e)
    refine ⟨by rw [hst k hkq, b4 k (by omega) hro, h1q k hkq hk], fun hr' => ?_⟩
    have := (rowAt4_is hsame).1 hr'
    rcases hb4 with e | e
    · exact hro (by rw [← e]; exact this)
    · rw [e, hz] at this
      cases this
      omega
  · have := (rowAt4_is hsame).1 hr
    rcases hb4 with e | e
    · exact hnb (by rw [← e]; exact this)
    · rw [e, hz] at this
      simp at this

/-- Behind j of the ways on from p. -/
structure Dl (P : Nat → Pl) (tg : Nat → Nat) (N e : Nat) (H : Nat → Bool) (p : Nat) (l : List Int) (j : Nat) (Hj : Nat → Bool) : Prop where
  old : ∀ x, Clo.mark H p x = true → Hj x = true
  run : ∀ x, Hj x = true → Clo.mark H p x = true ∨ Run P tg N p e x e
  shut : ∀ x, Hj x = true → Clo.mark H p x = true ∨ ∀ y : Nat, (y : Int) ∈ nextV (P x).op (P x).a (P x).b x (decide (e = 0)) (decide (e = N)) → Hj y = true
  way : ∀ i (y : Nat), i < j → l[i]? = some (y : Int) → Hj y = true
theorem dl_start {P : Nat → Pl} {tg : Nat → Nat} {N e : Nat} {H : Nat → Bool} {p : Nat} {l : List Int} : Dl P tg N e H p l 0 (Clo.mark H p) :=
  ⟨fun _ h => h, fun _ h => .inl h, fun _ h => .inl h, fun i _ hi => by omega⟩
theorem dl_step {P : Nat → Pl} {tg : Nat → Nat} {N e : Nat} {H : Nat → Bool} {p : Nat} {l : List Int} {j : Nat} {Hj H' : Nat → Bool} {y : Nat} (h : Dl P tg N e H p l j Hj) (hl : l = nextV (P p).op (P p).a (P p).b p (decide (e = 0)) (decide (e = N))) (hy : l[j]? = some (y : Int)) (hd : Dfs P tg N e Hj y H') : Dl P tg N e H p l (j + 1) H' := by
  refine ⟨fun x hx => hd.old x (h.old x hx), fun x hx => ?_, fun x hx => ?_, fun i z hi hz => ?_⟩
  · rcases hd.run x hx with h1 | h1
    · exact h.run x h1
    · refine .inr (run_trans (run_one (.inl ⟨rfl, ?_⟩)) h1)
      rw [← hl]
      exact List.mem_of_getElem? hy
  · rcases hd.shut x hx with h1 | h1
    · rcases h.shut x h1 with h2 | h2
      · exact .inl h2
      · exact .inr fun z hz => hd.old z (h2 z hz)
    · exact .inr h1
  · by_cases e : i = j
    · subst e
      rw [hy] at hz
      have : y = z := by simp at hz; omega
      subst this
      exact hd.new
    · exact hd.old z (h.way i z (by omega) hz)
theorem dl_done {P : Nat → Pl} {tg : Nat → Nat} {N e : Nat} {H : Nat → Bool} {p : Nat} {l : List Int} {Hj : Nat → Bool} (h : Dl P tg N e H p l l.length Hj) (hl : l = nextV (P p).op (P p).a (P p).b p (decide (e = 0)) (decide (e = N))) : Dfs P tg N e H p Hj := by
  refine ⟨fun x hx => h.old x (Clo.mark_old hx), h.old p (Clo.mark_self H p), fun x hx => ?_, fun x hx => ?_⟩
  · rcases h.run x hx with h1 | h1
    · rcases Clo.mark_or h1 with h2 | rfl
      · exact .inl h2
      · exact .inr (run_refl _ _)
    · exact .inr h1
  · rcases h.shut x hx with h1 | h1
    · rcases Clo.mark_or h1 with h2 | rfl
      · exact .inl h2
      · refine .inr fun y hy => ?_
        rw [← hl] at hy
        obtain ⟨i, hi, he⟩ := List.mem_iff_getElem.1 hy
        exact h.way i y hi (by rw [List.getElem?_eq_getElem hi, he])
    · exact .inr h1

theorem newInts_form {B : Nat} {w : World} {v : Value} {l : List Int} (h : NewInts B w v l) : ∃ la ll lc, v = .slice la ll lc ∧ Hid (ll = l.length) ∧ Hid (∀ j y, l[j]? = some y → ∃ gl, la = some ⟨gl, 0, none⟩ ∧ B ≤ gl ∧ gl < w.heap.size ∧ w.cell? ⟨gl, j, none⟩ = some (.int .i64 y)) := by
  rcases h with ⟨rfl, rfl⟩ | ⟨_, gl, rfl, hB, hI⟩
  · exact ⟨_, _, _, rfl, rfl, fun j y hj => by simp at hj⟩
  · exact ⟨_, _, _, rfl, rfl, fun j y hj => ⟨gl, rfl, hB, hI.lt, is_cell hI hj⟩⟩
theorem next_done (p : Nat) (b f : Bool) : nextV doneP.op doneP.a doneP.b p b f = [] := by simp [nextV, doneP]

set_option maxHeartbeats 4000000 in
set_option maxRecDepth 100000 in
theorem enter_new {q g n cap : Nat} {P : Nat → Pl} {txt : ByteArray} {fr : Int} {tg : Nat → Nat} (hn : n ≤ 400) (hcap : n ≤ cap) (hG : ∀ k, k + 1 < n → Good (n - 1) (P k)) (hD : P (n - 1) = doneP) (ht : txt.size ≤ 1000) (e m p : Nat) (he : e ≤ txt.size) (ih : EnterOk q g n cap P txt fr tg e m) (H : Nat → Bool) (L : List Nat) (w : World) (hp : p < n) (hS : Sw q g n cap P txt fr H L w) (hH : H p = false) (hm : open' H 400 ≤ m + 1) :
  Calls Tryz.prog 65 #[.pointer (some ⟨q, 0, none⟩), .agg #[.int .i64 fr, .int .i64 (p : Int)], .int .i64 (e : Int)] w fun r w' => r = .returned (.tuple #[]) ∧ (∃ H' L', Sw q g n cap P txt fr H' L' w' ∧ Dfs P tg txt.size e H p H' ∧ L.length ≤ L'.length) ∧ Ch4 q w w' := by
  obtain ⟨i0, hi0, hz0, hz1, hz2⟩ := info_parts Tryz.infoPiecer
  have hq := hS.q_lt
  have c := hS.held p (by omega)
  rw [hH] at c
  have hpI : (p : Int) < 400 := by omega
  have fq := hS.fz
  have fp := fq (2 + p)
  have f4 := fq 402
  have hL : L.length ≤ 400 := by have := hS.cnt; omega
  obtain ⟨pv, r1, r2, r3⟩ := hS.row
  obtain ⟨pa, pc, rfl⟩ := Rx.owns_slice r2
  obtain ⟨bx, hbx⟩ : ∃ bx, bx = w.heap.size := ⟨_, rfl⟩
  go_enter Tryz.func65, Tryz.ntmps65
  go_wp2_with fail
  go_quiet (fail)
  go_wp2_with fail
  go_region
  all_goals go_wp2_with fail
  obtain ⟨w1, hw1⟩ : ∃ w1, w1 = ((w.alloc (.cells #[.int .i64 fr, .int .i64 (p : Int)] 127)).drewN (nq + 1)).setCell ⟨q, 2 + p, none⟩ (.bool true) := ⟨_, rfl⟩
  have h1q : ∀ k, k ≠ q → k < w.heap.size → w1.heap[k]? = w.heap[k]? := fun k hk hl => by rw [hw1, Below.heap_setCell _ ⟨q, 2 + p, none⟩ _ _ hk]; exact Below.heap_alloc _ _ _ hl
  have hs1 : w1.heap.size = bx + 1 := by rw [hw1, hbx]; simp
  have d1 : bx ≠ q := by omega
  have d2 : q ≠ bx := by omega
  have cA : ∀ j, (w.alloc (.cells #[.int .i64 fr, .int .i64 (p : Int)] 127)).cell? ⟨q, j, none⟩ = w.cell? ⟨q, j, none⟩ := fun j => World.cell?_of_block (Below.heap_alloc _ _ _ hq)
  have cq : ∀ j, j ≠ 2 + p → w1.cell? ⟨q, j, none⟩ = w.cell? ⟨q, j, none⟩ := fun j hj => by
    rw [hw1, World.cell?_setCell_other _ _ _ _ (fun e => hj (by cases e; rfl)), World.cell?_drewN, cA]
  have cp : w1.cell? ⟨q, 2 + p, none⟩ = some (.bool true) := by
    rw [hw1]
    exact World.cell?_setCell_same _ _ _ (by rw [World.cell?_drewN, cA]; exact c)
  have fq1 : ∀ j, w1.frozen? ⟨q, j, none⟩ = false := fun j => by
    have h0 : (w.alloc (.cells #[.int .i64 fr, .int .i64 (p : Int)] 127)).frozen? ⟨q, j, none⟩ = false := (World.frozen?_of_block (Below.heap_alloc _ _ _ hq)).trans (fq j)
    rw [hw1]
    simpa using h0
  have cb : w1.heap[bx]? = some (.cells #[.int .i64 fr, .int .i64 (p : Int)] 127 (0, 0)) := by
    rw [hw1, Below.heap_setCell _ ⟨q, 2 + p, none⟩ _ _ d1, hbx]
    exact heap_alloc_last w _
  have b0 : w1.cell? ⟨bx, 0, none⟩ = some (.int .i64 fr) := by rw [cell_of_row _ _ 0 _ _ (0, 0) cb]; rfl
  have b1 : w1.cell? ⟨bx, 1, none⟩ = some (.int .i64 (p : Int)) := by rw [cell_of_row _ _ 1 _ _ (0, 0) cb]; rfl
  have r1' : w1.cell? ⟨q, 402, none⟩ = some (.slice pa L.length pc) := (cq 402 (by omega)).trans r1
  have f4' := fq1 402
  have ho1 : w1.ownsRow 0 127 2 (.slice pa L.length pc) L.length (pcs fr L) := Rx.owns_same r2 fun k hk => h1q k (r3 k hk).1 (r2.lt k hk).2
  have hos1 : w1.os = w.os := by rw [hw1]; rfl
  have hta1 : w1.tape = w.tape := by rw [hw1]; rfl
  have hou1 : w1.output = w.output := by rw [hw1]; rfl
  rw [← hw1, ← hbx]
  clear hw1 cA c fp f4 fq
  have hk64 : Hid ((L.length + 1) * 16 ≤ 140737488355328) := by show _ ≤ _; omega
  have hkm : Hid (L.length + 1 ≤ maxLen) := by show _ ≤ _; unfold maxLen; omega
  have hownA : ∀ o', ((w1.drew).alloc o').ownsRow 0 127 2 (.slice pa L.length pc) L.length (pcs fr L) := fun o' => ho1.drew.alloc o'
  have hc2 : ∀ j x, [Value.int .i64 fr, .int .i64 (p : Int)][j]? = some x → ((w1.drew).alloc (.cells #[.int .i64 fr, .int .i64 (p : Int)] 127)).cell? ((⟨w1.heap.size, 0, none⟩ : Addr).add j) = some x := by
    intro j x hj
    have hadd : (⟨w1.heap.size, 0, none⟩ : Addr).add j = ⟨w1.heap.size, j, none⟩ := by unfold Addr.add; split <;> simp_all
    have hh : ((w1.drew).alloc (.cells #[.int .i64 fr, .int .i64 (p : Int)] 127)).heap[w1.heap.size]? = some (.cells #[.int .i64 fr, .int .i64 (p : Int)] 127 (0, 0)) := heap_alloc_last w1.drew _
    rw [hadd, cell_of_row _ _ j _ _ (0, 0) hh]
    simpa using hj
  have hqb : ∀ w4, ((w1.drew).alloc (.cells #[.int .i64 fr, .int .i64 (p : Int)] 127)).grownBy w4 (Value.ownBlock (.slice pa L.length pc)) → ∀ k, k < w1.heap.size → Value.ownBlock (.slice pa L.length pc) ≠ some k → w4.heap[k]? = w1.heap[k]? := fun w4 hg k hk hne => (hg.block k (by simp; omega) (fun e => hne e.symm)).trans (Below.heap_alloc w1.drew _ _ hk)
  have hnq : Value.ownBlock (.slice pa L.length pc) ≠ some q := fun e => (r3 q e).1 rfl
  have hq1 : q < w1.heap.size := by omega
  have Hs1 : Hid (w1.heap.size = bx + 1) := hs1
  have Hbx : Hid (bx = w.heap.size) := hbx
  clear hs1 hbx
  go_region_law (first | (refine step_append_own rfl (.tmp 25) (.tmp 27) 75 rfl 0 127 i0 _ 2 16 Tryz.underlying75 hi0 hz0 hz1 hz2 rfl (by decide) (.slice pa L.length pc) L.length (pcs fr L) (by simp [Act.eval]) (hownA _) ⟨w1.heap.size, 0, none⟩ 1 1 [.int .i64 fr, .int .i64 (p : Int)] (by simp [Act.eval]) rfl hc2 (by simp [Value.oneCell']) hkm.out hk64.out (Nat.zero_le _) ?_; intro v4 w4 hown4 hgr4 hb4; have c4 : w4.cell? ⟨q, 402, none⟩ = some (.slice pa L.length pc) := (World.cell?_of_block (hqb w4 hgr4 q hq1 hnq)).trans r1'; have f4 : w4.frozen? ⟨q, 402, none⟩ = false := (World.frozen?_of_block (hqb w4 hgr4 q hq1 hnq)).trans f4'; obtain ⟨ao4, cap4, rfl⟩ := Rx.owns_slice hown4))
  all_goals
    obtain ⟨hS5, cb5, hC5, hnr5⟩ := pushed hS hp hn hH r1 r2 r3 h1q (by rw [Hs1.out, Hbx.out]) cq cp fq1 (by rw [← Hbx.out]; exact cb) hos1 hta1 hou1 hgr4 hown4 hb4
    rw [← Hbx.out] at cb5 hnr5
    obtain ⟨w5, hw5⟩ : ∃ w5, w5 = w4.setCell ⟨q, 402, none⟩ (.slice ao4 (L.length + 1) cap4) := ⟨_, rfl⟩
    rw [← hw5] at hS5 cb5 hC5 hnr5 ⊢
    clear hw5 hown4 hgr4 hb4 c4 f4 r1' f4' ho1 hownA hc2 hqb hnq hq1 hos1 hta1 hou1 b0 b1 cb cq cp fq1 h1q
    have b0 : w5.cell? ⟨bx, 0, none⟩ = some (.int .i64 fr) := by rw [cell_of_row _ _ 0 _ _ (0, 0) cb5]; rfl
    have b1 : w5.cell? ⟨bx, 1, none⟩ = some (.int .i64 (p : Int)) := by rw [cell_of_row _ _ 1 _ _ (0, 0) cb5]; rfl
    have k0 := hS5.c0
    have k1 := hS5.c1
    obtain ⟨p0, p1, p2, p3, p4, p5⟩ := hS5.pr.cells hp
    obtain ⟨op, c, s, no, a, b, HP⟩ : ∃ op c s no a b, Hid (P p = ⟨op, c, s, no, a, b⟩) := ⟨_, _, _, _, _, _, rfl⟩
    rw [HP.out] at p0 p1 p2 p3 p4 p5
    dsimp only at p0 p1 p2 p3 p4 p5
    obtain ⟨f1, Hf1⟩ : ∃ f1, Hid (f1 = decide (e = 0)) := ⟨_, rfl⟩
    obtain ⟨f2, Hf2⟩ : ∃ f2, Hid (f2 = decide (e = txt.size)) := ⟨_, rfl⟩
    have g1 : ((e : Int) == 0) = f1 := by rw [Hf1.out, Bool.eq_iff_iff, beq_iff_eq, decide_eq_true_iff]; omega
    have g2 : ((e : Int) == (txt.size : Int)) = f2 := by rw [Hf2.out, Bool.eq_iff_iff, beq_iff_eq, decide_eq_true_iff]; omega
    have hpn : (p : Int) < n := by omega
    have hnI : (n : Int) ≤ 400 := by omega
    have call := iOnward op c s no a b p f1 f2 w5.drew (by omega)
    have hdb : Below w5.heap.size w5 w5.drew := below_drew1 (Below.refl _ _)
    have hlq := hS5.q_lt
    have hlb : bx < w5.heap.size := World.block_lt_of_cell? w5 _ b0
    have hlg := hS5.pr.1
    have hk6 : ∀ w6, Below w5.drew.heap.size w5.drew w6 → Below w5.heap.size w5 w6 := fun w6 h => hdb.trans h
    go_wp2_with fail
    go_region_held3 (fun w' => w'.cell? ⟨q, 0, none⟩ = some (.slice (some ⟨g, 0, none⟩) n cap) ∧ w'.cell? ⟨q, 1, none⟩ = some (.string txt) ∧ w'.cell? ⟨bx, 1, none⟩ = some (.int .i64 (p : Int)) ∧ w'.cell? ⟨g, p * 6, none⟩ = some (.int .i64 op) ∧ w'.cell? ⟨g, p * 6 + 1, none⟩ = some (.int .i64 c) ∧ w'.cell? ⟨g, p * 6 + 2, none⟩ = some (.string s) ∧ w'.cell? ⟨g, p * 6 + 3, none⟩ = some (.bool no) ∧ w'.cell? ⟨g, p * 6 + 4, none⟩ = some (.int .i64 a) ∧ w'.cell? ⟨g, p * 6 + 5, none⟩ = some (.int .i64 b)) (go_keep) (first | (go_at_call 86; with_reducible refine call.mono ?_; rintro r w6 ⟨v, rfl, hv, hb6⟩; have hb6 := hk6 w6 hb6; have k0' := (hb6.cell (p := ⟨q, 0, none⟩) hlq).trans k0; have k1' := (hb6.cell (p := ⟨q, 1, none⟩) hlq).trans k1; have b1' := (hb6.cell (p := ⟨bx, 1, none⟩) hlb).trans b1; have p0' := (hb6.cell (p := ⟨g, p * 6, none⟩) hlg).trans p0; have p1' := (hb6.cell (p := ⟨g, p * 6 + 1, none⟩) hlg).trans p1; have p2' := (hb6.cell (p := ⟨g, p * 6 + 2, none⟩) hlg).trans p2; have p3' := (hb6.cell (p := ⟨g, p * 6 + 3, none⟩) hlg).trans p3; have p4' := (hb6.cell (p := ⟨g, p * 6 + 4, none⟩) hlg).trans p4; have p5' := (hb6.cell (p := ⟨g, p * 6 + 5, none⟩) hlg).trans p5; obtain ⟨la, ll, lc, rfl, hll, hcl⟩ := newInts_form hv))
  all_goals
    have hS6 := hS5.on hb6
    have hC6 : Ch4 q w w6 := hC5.trans (ch4_below hlq hb6)
    have hq6 : w6.heap[q]? = w5.heap[q]? := hb6.block q hlq
    have hnb6 : ¬ RowAt4 q w6 bx := fun h => hnr5 ((rowAt4_same hq6).1 h)
    have hng6 : ∀ gl, w5.heap.size ≤ gl → ¬ RowAt4 q w6 gl := fun gl hgl h => by
      obtain ⟨pv5, u1, u2, u3⟩ := hS5.row
      have := (u2.lt gl ((rowAt4_is u1).1 ((rowAt4_same hq6).1 h))).2
      omega
    have b06 : w6.cell? ⟨bx, 0, none⟩ = some (.int .i64 fr) := (hb6.cell (p := ⟨bx, 0, none⟩) hlb).trans b0
    have hlb6 : bx < w6.heap.size := World.block_lt_of_cell? w6 _ b06
    obtain ⟨l, Hl⟩ : ∃ l, Hid (l = nextV op a b p f1 f2) := ⟨_, rfl⟩
    have Hl2 : Hid (l = nextV (P p).op (P p).a (P p).b p (decide (e = 0)) (decide (e = txt.size))) := by show l = _; rw [HP.out, ← Hf1.out, ← Hf2.out]; exact Hl.out
    have hll := hll.out
    have hcl := hcl.out
    rw [← Hl.out] at hll hcl
    have hl2 : l.length ≤ 2 := by rw [Hl.out]; exact nextV_len _ _ _ _ _ _
    have hyn : ∀ (j : Nat) (y : Int), l[j]? = some y → ∃ z : Nat, y = z ∧ z < n := fun j y hj => by
      have hm : y ∈ l := List.mem_of_getElem? hj
      rw [Hl2.out] at hm
      by_cases hpl : p + 1 < n
      · obtain ⟨z, h1, h2⟩ := next_lt (hG p hpl) p (by omega) _ _ y hm
        exact ⟨z, h1, by omega⟩
      · rw [show p = n - 1 by omega, hD, next_done] at hm
        simp at hm
    have hcnt := hS.cnt
    clear k0 k1 b0 b1 p0 p1 p2 p3 p4 p5 k0' k1' b1' p0' p1' p2' p3' p4' p5' g1 g2 call hb6 hk6 hdb
    have HSt : Hid (Sw q g n cap P txt fr (Clo.mark H p) (L ++ [p]) w6) := hS6
    clear hS6 hS5 hC5 hnr5 cb5 hq6
    subst hll
    go_wp2_with fail
    go_loopw [52] (fun iv wr => ∃ (j : Nat) (Hj : Nat → Bool) (Lj : List Nat), iv = .int .i64 j ∧ j ≤ l.length ∧ Sw q g n cap P txt fr Hj Lj wr ∧ Dl P tg txt.size e H p l j Hj ∧ L.length + 1 ≤ Lj.length ∧ Ch4 q w6 wr) (fun iv _ => l.length - (intOf iv).toNat)
    case atStart => exact ⟨0, _, _, rfl, Nat.zero_le _, HSt.out, dl_start, by simp, Ch4.refl _ _⟩
    case round =>
      obtain ⟨j, Hj, Lj, rfl, hj, hSj, hDj, hLj, hCj⟩ := hrel
      by_cases hjl : j < l.length
      · obtain ⟨z, hz, hzn⟩ := hyn j l[j] (List.getElem?_eq_getElem hjl)
        obtain ⟨gl, rfl, hg1, hg2, hg3⟩ := hcl j l[j] (List.getElem?_eq_getElem hjl)
        have hg1 : w5.heap.size ≤ gl := hg1
        rw [hz] at hg3
        have hjI : (j : Int) < l.length := by omega
        have hlI : (l.length : Int) ≤ 2 := by omega
        have cl : wr.cell? ⟨gl, j, none⟩ = some (.int .i64 (z : Int)) := (World.cell?_of_block (hCj.own gl hg2 (by omega) (hng6 gl hg1)).1).trans hg3
        have cb : wr.cell? ⟨bx, 0, none⟩ = some (.int .i64 fr) := (World.cell?_of_block (hCj.own bx hlb6 d1 hnb6).1).trans b06
        have hcj := hSj.cnt
        have call := ih z Hj Lj wr hzn (by omega) hSj
        have HDj : Hid (Dl P tg txt.size e H p l j Hj) := hDj
        have Hlz : Hid (l[j]? = some (z : Int)) := by show l[j]? = _; rw [List.getElem?_eq_getElem hjl, hz]
        clear hSj hDj hz
        go_wp2_with (go_at_call 65; refine call.mono ?_; rintro r w7 ⟨rfl, ⟨H7, L7, hS7, hD7, hL7⟩, hC7⟩)
        go_roundw
        case rel => exact ⟨j + 1, H7, L7, by go_num, hjl, hS7, dl_step HDj.out Hl2.out Hlz.out hD7, by omega, hCj.trans hC7⟩
        case measure => simp [intOf]; omega
      · obtain rfl : j = l.length := by omega
        go_wp2_with fail
        refine bodyPost_end (v := .tuple #[]) ?_ rfl ⟨rfl, ⟨Hj, Lj, hSj, dl_done hDj Hl2.out, by omega⟩, hC6.trans hCj⟩
        simp [results, Tryz.results65]

/-- enter, however many places are held. -/
theorem iEnter {q g n cap : Nat} {P : Nat → Pl} {txt : ByteArray} {fr : Int} {tg : Nat → Nat} (hn : n ≤ 400) (hcap : n ≤ cap) (hG : ∀ k, k + 1 < n → Good (n - 1) (P k)) (hD : P (n - 1) = doneP) (ht : txt.size ≤ 1000) (e : Nat) (he : e ≤ txt.size) : ∀ m, EnterOk q g n cap P txt fr tg e m := by
  intro m
  induction m with
  | zero =>
    intro p H L w hp hm hS
    cases hH : H p with
    | true => exact enter_held hn e p H L w hp hS hH
    | false =>
      have := open_mark (n := 400) (show p < 400 by omega) hH
      omega
  | succ m ih =>
    intro p H L w hp hm hS
    cases hH : H p with
    | true => exact enter_held hn e p H L w hp hS hH
    | false => exact enter_new hn hcap hG hD ht e m p he ih H L w hp hS hH hm

end Nf
end Go.Proofs.YtgdnlmaacnnfiaaGreatDoor

namespace Go.Proofs.YtgdnlmaacnnfiaaGreatDoor
open Go.RowKit
namespace Mt
open Rx Clo

theorem below_drewN {B : Nat} {W w : World} (h : Below B W w) (n : Nat) : Below B W (w.drewN n) := ⟨h.os, h.tape, h.output, h.size, h.block⟩

/-- A byte is in a text. -/
def inS (s : ByteArray) (b : Nat) : Bool := (List.range s.size).any fun i => decide (gOf s i = b)
theorem inS_iff {s : ByteArray} {b : Nat} : inS s b = true ↔ ∃ i, i < s.size ∧ gOf s i = b := by simp [inS]
theorem inS_no {s : ByteArray} {b : Nat} (h : ∀ i, i < s.size → gOf s i ≠ b) : inS s b = false := by
  rcases hb : inS s b with _ | _
  · rfl
  · obtain ⟨i, h1, h2⟩ := inS_iff.1 hb
    exact absurd h2 (h i h1)

set_option maxRecDepth 100000 in
theorem sIn (s : ByteArray) (b : Nat) (hs : (s.size : Int) < 9000000000000000000) (w : World) :
    Calls Tryz.prog 93 #[.string s, .int .u8 b] w fun e w' => e = .returned (.bool (inS s b)) ∧ w' = w := by
  go_enter Tryz.func93, Tryz.ntmps93
  go_wp2_with fail
  go_loopw [5] (fun i wr => ∃ k : Nat, k ≤ s.size ∧ i = .int .i64 k ∧ wr = w ∧ ∀ j, j < k → gOf s j ≠ b) (fun i _ => s.size - (intOf i).toNat)
  case atStart => exact ⟨0, by omega, rfl, rfl, fun j hj => by omega⟩
  case round =>
    obtain ⟨k, hk, rfl, rfl, hno⟩ := hrel
    by_cases hkl : k < s.size
    · have hg := gOf_in hkl
      by_cases hb : gOf s k = b
      · have H : Hid (inS s b = true) := inS_iff.2 ⟨k, hkl, hb⟩
        have e1 : ((s[k].toNat : Int) == (b : Int)) = true := by rw [← hg, hb]; simp
        have e2 : (s[k].toNat : Int) = (b : Int) := by rw [← hg, hb]
        go_wp2_with fail
        go_ret
        exact ⟨by rw [H.out]; rfl, rfl⟩
      · have e1 : ((s[k].toNat : Int) == (b : Int)) = false := by rw [← hg]; simp; omega
        have e2 : ¬ (s[k].toNat : Int) = (b : Int) := by rw [← hg]; omega
        go_wp2_with fail
        go_roundw
        case rel => exact ⟨k + 1, by omega, by go_num, by trivial, fun j hj => by
          rcases Nat.lt_or_ge j k with h | h
          · exact hno j h
          · have : j = k := by omega
            subst this; exact hb⟩
        case measure => simp [intOf]; omega
    · obtain rfl : k = s.size := by omega
      have H : Hid (inS s b = false) := inS_no hno
      go_wp2_with fail
      go_ret
      exact ⟨by rw [H.out]; rfl, rfl⟩

/-- A flag is put. -/
def putB (M : Nat → Bool) (k : Nat) (b : Bool) : Nat → Bool := fun j => if j = k then b else M j
theorem bs_put {q n : Nat} {M : Nat → Bool} {w : World} (h : Bs q n M w) (k : Nat) (b : Bool) : Bs q n (putB M k b) (w.setCell ⟨q, k, none⟩ (.bool b)) := by
  unfold Bs at h ⊢
  have hm : (bools M n).set! k (.bool b) = bools (putB M k b) n := by
    apply Array.ext_getElem?
    intro j
    rw [Array.set!_eq_setIfInBounds, Array.getElem?_setIfInBounds]
    by_cases hj : j < n
    · rw [bools_get _ hj, bools_get _ hj]
      by_cases e : k = j
      · subst e; simp [bools_size, hj, putB]
      · simp [putB, e, show ¬ j = k by omega]
    · have a1 : (bools M n)[j]? = none := Array.getElem?_eq_none (by rw [bools_size]; omega)
      have a2 : (bools (putB M k b) n)[j]? = none := Array.getElem?_eq_none (by rw [bools_size]; omega)
      rw [a1, a2]
      by_cases e : k = j
      · subst e; simp [bools_size, hj]
      · simp [e]
  rw [← hm]
  simp [World.setCell, Array.getElem?_modify, h]
theorem bs_eq {q n : Nat} {M M' : Nat → Bool} {w : World} (h : Bs q n M w) (he : ∀ k, k < n → M k = M' k) : Bs q n M' w := by
  unfold Bs at h ⊢
  rw [h]
  congr 2
  apply Array.ext_getElem?
  intro j
  by_cases hj : j < n
  · rw [bools_get _ hj, bools_get _ hj, he j hj]
  · rw [Array.getElem?_eq_none (by rw [bools_size]; omega), Array.getElem?_eq_none (by rw [bools_size]; omega)]

/-- Block q alone may have turned, of those that there were. -/
def But (q : Nat) (w w' : World) : Prop := w'.os = w.os ∧ w'.tape = w.tape ∧ w'.output = w.output ∧ w.heap.size ≤ w'.heap.size ∧ ∀ k, k ≠ q → k < w.heap.size → w'.heap[k]? = w.heap[k]?
theorem But.refl (q : Nat) (w : World) : But q w w := ⟨rfl, rfl, rfl, Nat.le_refl _, fun _ _ _ => rfl⟩
theorem But.set {q : Nat} {w w' : World} (h : But q w w') (k : Nat) (v : Value) : But q w (w'.setCell ⟨q, k, none⟩ v) := by
  obtain ⟨h1, h2, h3, h4, h5⟩ := h
  exact ⟨h1, h2, h3, by simpa using h4, fun j hj hl => (Below.heap_setCell _ _ _ _ hj).trans (h5 j hj hl)⟩
theorem But.below {q B : Nat} {W w w' : World} (h : But q w w') (hW : Below B W w) (hB : B ≤ q) (hs : B ≤ W.heap.size) : Below B W w' := by
  obtain ⟨h1, h2, h3, h4, h5⟩ := h
  have := hW.size
  exact ⟨h1.trans hW.os, h2.trans hW.tape, h3.trans hW.output, by omega, fun k hk => (h5 k (by omega) (by omega)).trans (hW.block k hk)⟩

set_option maxRecDepth 100000 in
theorem sJoin {q1 q2 n : Nat} {M1 M2 : Nat → Bool} {w : World} (h1 : Bs q1 n M1 w) (h2 : Bs q2 n M2 w) (hq : q1 ≠ q2) (hn : n ≤ 1048576) :
    Calls Tryz.prog 83 #[.slice (some ⟨q1, 0, none⟩) n n, .slice (some ⟨q2, 0, none⟩) n n] w fun e w' => e = .returned (.slice (some ⟨q1, 0, none⟩) n n) ∧ Bs q1 n (fun k => M1 k || M2 k) w' ∧ But q1 w w' := by
  have bn : (n : Int) ≤ 1048576 := by omega
  have l1 := h1.lt
  have l2 := h2.lt
  go_enter Tryz.func83, Tryz.ntmps83
  go_wp2_with fail
  go_loopw [5] (fun i wr => ∃ k : Nat, k ≤ n ∧ i = .int .i64 k ∧ Bs q1 n (fun j => if j < k then M1 j || M2 j else M1 j) wr ∧ But q1 w wr) (fun i _ => n - (intOf i).toNat)
  case atStart => exact ⟨0, by omega, rfl, bs_eq h1 (fun k _ => by simp), But.refl _ _⟩
  case round =>
    obtain ⟨k, hk, rfl, hB, hb⟩ := hrel
    by_cases hkl : k < n
    · have c1 : wr.cell? ⟨q1, k, none⟩ = some (.bool (M1 k)) := by simpa using bs_cell hB hkl
      have c2 : wr.cell? ⟨q2, k, none⟩ = some (.bool (M2 k)) := bs_cell (h2.kept (hb.2.2.2.2 q2 (Ne.symm hq) l2)) hkl
      have fz := bs_frozen hB k
      have hput : ∀ b, b = (M1 k || M2 k) → Bs q1 n (fun j => if j < k + 1 then M1 j || M2 j else M1 j) (wr.setCell ⟨q1, k, none⟩ (.bool b)) := fun b e => bs_eq (bs_put hB k b) (fun j _ => by
        unfold putB
        by_cases e1 : j = k
        · subst e1; simp [e]
        · by_cases e2 : j < k
          · simp [e1, e2, show j < k + 1 by omega]
          · simp [e1, e2, show ¬ j < k + 1 by omega])
      have hbut : ∀ b, But q1 w (wr.setCell ⟨q1, k, none⟩ (.bool b)) := fun b => hb.set k _
      rcases hm1 : M1 k with _ | _
      · rw [hm1] at c1
        go_wp2_with fail
        go_roundw
        case rel => exact ⟨k + 1, by omega, by go_num, hput _ (by simp [hm1]), hbut _⟩
        case measure => simp [intOf]; omega
      · rw [hm1] at c1
        go_wp2_with fail
        go_roundw
        case rel => exact ⟨k + 1, by omega, by go_num, hput _ (by simp [hm1]), hbut _⟩
        case measure => simp [intOf]; omega
    · obtain rfl : k = n := by omega
      go_wp2_with fail
      go_ret
      exact ⟨rfl, bs_eq hB (fun j hj => by simp [hj]), hb⟩

end Mt
end Go.Proofs.YtgdnlmaacnnfiaaGreatDoor

