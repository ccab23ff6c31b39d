/-
  The program's enter: a piece is put to its place, and to all that it comes to from there without a byte.
  Arrays of flags, by value: made, compared; the program's takes.
-/
import Derived.Test.YtgdnlmaacnnfiaaGreatDoorQ49
import Derived.Test.YtgdnlmaacnnfiaaGreatDoorQ12
import Derived.Test.YtgdnlmaacnnfiaaGreatDoorQ26
import Derived.Deep.MidRow
namespace Go.Proofs.YtgdnlmaacnnfiaaGreatDoor
open Go.RowKit
namespace Nf
set_option linter.unusedVariables false
open Rx Clo

theorem Tryz.infoPiecer : (Tryz.prog.info? 127).map (fun i => (i.zero, i.size, i.bytes)) = some (some (.agg #[.int .i64 0, .int .i64 0]), 2, 16) := by kernel_rfl

theorem below_drewK {B : Nat} {W w : World} (h : Below B W w) (n : Nat) : Below B W (w.drewN n) := ⟨h.os, h.tape, h.output, h.size, h.block⟩
section
variable (q g n cap : Nat) (P : Nat → Pl) (txt : ByteArray) (fr : Int) (tg : Nat → Nat)
def EnterOk (e m : Nat) : Prop := ∀ (p : Nat) (H : Nat → Bool) (L : List Nat) (w : World), p < n → open' H 400 ≤ m → Sw q g n cap P txt fr H L w →
  Calls Tryz.prog 65 #[.pointer (some ⟨q, 0, none⟩), .agg #[.int .i64 fr, .int .i64 (p : Int)], .int .i64 (e : Int)] w fun r w' => r = .returned (.tuple #[]) ∧ (∃ H' L', Sw q g n cap P txt fr H' L' w' ∧ Dfs P tg txt.size e H p H' ∧ L.length ≤ L'.length) ∧ Ch4 q w w'
end

set_option maxHeartbeats 2000000 in
set_option maxRecDepth 100000 in
theorem enter_held {q g n cap : Nat} {P : Nat → Pl} {txt : ByteArray} {fr : Int} {tg : Nat → Nat} (hn : n ≤ 400) (e p : Nat) (H : Nat → Bool) (L : List Nat) (w : World) (hp : p < n) (hS : Sw q g n cap P txt fr H L w) (hH : H p = true) :
  Calls Tryz.prog 65 #[.pointer (some ⟨q, 0, none⟩), .agg #[.int .i64 fr, .int .i64 (p : Int)], .int .i64 (e : Int)] w fun r w' => r = .returned (.tuple #[]) ∧ (∃ H' L', Sw q g n cap P txt fr H' L' w' ∧ Dfs P tg txt.size e H p H' ∧ L.length ≤ L'.length) ∧ Ch4 q w w' := by
  have hq := hS.q_lt
  have c := hS.held p (by omega)
  rw [hH] at c
  have hpI : (p : Int) < 400 := by omega
  have hb : ∀ o, Below w.heap.size w (w.alloc o) := fun o => (Below.refl _ w).alloc (Nat.le_refl _) o
  have fin : ∀ w', Below w.heap.size w w' → (∃ H' L', Sw q g n cap P txt fr H' L' w' ∧ Dfs P tg txt.size e H p H' ∧ L.length ≤ L'.length) ∧ Ch4 q w w' := fun w' h => ⟨⟨H, L, hS.on h, ⟨fun _ h => h, hH, fun _ h => .inl h, fun _ h => .inl h⟩, Nat.le_refl _⟩, ch4_below hq h⟩
  clear hS hH
  go_enter Tryz.func65, Tryz.ntmps65
  go_wp2_with fail
  go_quiet (fail)
  go_wp2_with fail
  refine bodyPost_ret (v := .tuple #[]) (by simp [results, Tryz.results65]) rfl ⟨rfl, fin _ (below_drewK (hb _) _)⟩

theorem pushed {q g n cap p : Nat} {P : Nat → Pl} {txt : ByteArray} {fr : Int} {H : Nat → Bool} {L : List Nat} {w w1 w4 : World} {pv pv' : Value} {o' : Obj} {box : Obj} (hS : Sw q g n cap P txt fr H L w) (hp : p < n) (hn : n ≤ 400) (hH : H p = false)
    (r1 : w.cell? ⟨q, 402, none⟩ = some pv) (r2 : w.ownsRow 0 127 2 pv L.length (pcs fr L)) (r3 : ∀ k, Value.ownBlock pv = some k → k ≠ q ∧ k ≠ g)
    (h1q : ∀ k, k ≠ q → k < w.heap.size → w1.heap[k]? = w.heap[k]?) (hs1 : w1.heap.size = w.heap.size + 1) (cq : ∀ j, j ≠ 2 + p → w1.cell? ⟨q, j, none⟩ = w.cell? ⟨q, j, none⟩) (cp : w1.cell? ⟨q, 2 + p, none⟩ = some (.bool true)) (fq1 : ∀ j, w1.frozen? ⟨q, j, none⟩ = false) (cb : w1.heap[w.heap.size]? = some box)
    (hos1 : w1.os = w.os) (hta1 : w1.tape = w.tape) (hou1 : w1.output = w.output)
    (hgr : ((w1.drew).alloc o').grownBy w4 (Value.ownBlock pv)) (hown4 : w4.ownsRow 0 127 2 pv' (L.length + 1) (pcs fr L ++ [.int .i64 fr, .int .i64 (p : Int)])) (hb4 : Value.ownBlock pv' = Value.ownBlock pv ∨ Value.ownBlock pv' = some ((w1.drew).alloc o').heap.size) :
    Sw q g n cap P txt fr (Clo.mark H p) (L ++ [p]) (w4.setCell ⟨q, 402, none⟩ pv') ∧ (w4.setCell ⟨q, 402, none⟩ pv').heap[w.heap.size]? = some box ∧ Ch4 q w (w4.setCell ⟨q, 402, none⟩ pv') ∧ ¬ RowAt4 q (w4.setCell ⟨q, 402, none⟩ pv') w.heap.size := by
  have hq := hS.q_lt
  have hg := hS.pr.1
  have hz : ((w1.drew).alloc o').heap.size = w.heap.size + 2 := by rw [World.size_alloc]; show w1.heap.size + 1 = _; omega
  have hz4 := hgr.size
  have b4 : ∀ k, k < w1.heap.size → Value.ownBlock pv ≠ some k → w4.heap[k]? = w1.heap[k]? := fun k hk hne => (hgr.block k (by omega) (fun e => hne e.symm)).trans (Below.heap_alloc w1.drew _ _ hk)
  have hnq : Value.ownBlock pv ≠ some q := fun e => (r3 q e).1 rfl
  have hng : Value.ownBlock pv ≠ some g := fun e => (r3 g e).2 rfl
  have hnb : Value.ownBlock pv ≠ some w.heap.size := fun e => by have := (r2.lt _ e).2; omega
  have q4 := b4 q (by omega) hnq
  have c4 : ∀ j, w4.cell? ⟨q, j, none⟩ = w1.cell? ⟨q, j, none⟩ := fun j => World.cell?_of_block q4
  have hne' : ∀ k, Value.ownBlock pv' = some k → k ≠ q ∧ k ≠ g := fun k hk => by
    rcases hb4 with e | e
    · exact r3 k (by rw [← e]; exact hk)
    · rw [e, hz] at hk
      cases hk
      omega
  have hst : ∀ k, k ≠ q → (w4.setCell ⟨q, 402, none⟩ pv').heap[k]? = w4.heap[k]? := fun k hk => Below.heap_setCell _ ⟨q, 402, none⟩ _ _ hk
  have hoth : ∀ j, j ≠ 402 → (w4.setCell ⟨q, 402, none⟩ pv').cell? ⟨q, j, none⟩ = w1.cell? ⟨q, j, none⟩ := fun j hj => by
    rw [World.cell?_setCell_other _ _ _ _ (fun e => hj (by cases e; rfl)), c4]
  have hsame : (w4.setCell ⟨q, 402, none⟩ pv').cell? ⟨q, 402, none⟩ = some pv' := World.cell?_setCell_same _ _ _ ((c4 402).trans ((cq 402 (by omega)).trans r1))
  refine ⟨hS.push hp hn hH (by rw [World.size_setCell]; omega) ((hoth 0 (by omega)).trans (cq 0 (by omega))) ((hoth 1 (by omega)).trans (cq 1 (by omega))) (fun k hk hkp => (hoth _ (by omega)).trans (cq _ (by omega))) ((hoth _ (by omega)).trans cp) hsame
    (Rx.owns_same hown4 fun k hk => hst k (hne' k hk).1) hne' (fun j => ?_) ?_, ?_, ?_, fun hr => ?_⟩
  · have h0 : w4.frozen? ⟨q, j, none⟩ = false := (World.frozen?_of_block q4).trans (fq1 j)
    simpa using h0
  · rw [hst g (fun e => hS.ne e.symm), b4 g (by omega) hng, h1q g (fun e => hS.ne e.symm) hg]
  · rw [hst _ (by omega), b4 _ (by omega) hnb]
    exact cb
  · refine ⟨hgr.os.trans hos1, hgr.tape.trans hta1, hgr.output.trans hou1, by rw [World.size_setCell]; omega, fun k hk hkq hr => ?_⟩
    have hro : Value.ownBlock pv ≠ some k := fun e => hr ((rowAt4_is r1).2 e)
    refine ⟨by rw [hst k hkq, b4 k (by omega) hro, h1q k hkq hk], fun hr' => ?_⟩
    have := (rowAt4_is hsame).1 hr'
    rcases hb4 with e | e
    · exact hro (by rw [← e]; exact this)
    · rw [e, hz] at this
      cases this
      omega
  · have := (rowAt4_is hsame).1 hr
    rcases hb4 with e | e
    · exact hnb (by rw [← e]; exact this)
    · rw [e, hz] at this
      simp at this

/-- Behind j of the ways on from p. -/
structure Dl (P : Nat → Pl) (tg : Nat → Nat) (N e : Nat) (H : Nat → Bool) (p : Nat) (l : List Int) (j : Nat) (Hj : Nat → Bool) : Prop where
  old : ∀ x, Clo.mark H p x = true → Hj x = true
  run : ∀ x, Hj x = true → Clo.mark H p x = true ∨ Run P tg N p e x e
  shut : ∀ x, Hj x = true → Clo.mark H p x = true ∨ ∀ y : Nat, (y : Int) ∈ nextV (P x).op (P x).a (P x).b x (decide (e = 0)) (decide (e = N)) → Hj y = true
  way : ∀ i (y : Nat), i < j → l[i]? = some (y : Int) → Hj y = true
theorem dl_start {P : Nat → Pl} {tg : Nat → Nat} {N e : Nat} {H : Nat → Bool} {p : Nat} {l : List Int} : Dl P tg N e H p l 0 (Clo.mark H p) :=
  ⟨fun _ h => h, fun _ h => .inl h, fun _ h => .inl h, fun i _ hi => by omega⟩
theorem dl_step {P : Nat → Pl} {tg : Nat → Nat} {N e : Nat} {H : Nat → Bool} {p : Nat} {l : List Int} {j : Nat} {Hj H' : Nat → Bool} {y : Nat} (h : Dl P tg N e H p l j Hj) (hl : l = nextV (P p).op (P p).a (P p).b p (decide (e = 0)) (decide (e = N))) (hy : l[j]? = some (y : Int)) (hd : Dfs P tg N e Hj y H') : Dl P tg N e H p l (j + 1) H' := by
  refine ⟨fun x hx => hd.old x (h.old x hx), fun x hx => ?_, fun x hx => ?_, fun i z hi hz => ?_⟩
  · rcases hd.run x hx with h1 | h1
    · exact h.run x h1
    · refine .inr (run_trans (run_one (.inl ⟨rfl, ?_⟩)) h1)
      rw [← hl]
      exact List.mem_of_getElem? hy
  · rcases hd.shut x hx with h1 | h1
    · rcases h.shut x h1 with h2 | h2
      · exact .inl h2
      · exact .inr fun z hz => hd.old z (h2 z hz)
    · exact .inr h1
  · by_cases e : i = j
    · subst e
      rw [hy] at hz
      have : y = z := by simp at hz; omega
      subst this
      exact hd.new
    · exact hd.old z (h.way i z (by omega) hz)
theorem dl_done {P : Nat → Pl} {tg : Nat → Nat} {N e : Nat} {H : Nat → Bool} {p : Nat} {l : List Int} {Hj : Nat → Bool} (h : Dl P tg N e H p l l.length Hj) (hl : l = nextV (P p).op (P p).a (P p).b p (decide (e = 0)) (decide (e = N))) : Dfs P tg N e H p Hj := by
  refine ⟨fun x hx => h.old x (Clo.mark_old hx), h.old p (Clo.mark_self H p), fun x hx => ?_, fun x hx => ?_⟩
  · rcases h.run x hx with h1 | h1
    · rcases Clo.mark_or h1 with h2 | rfl
      · exact .inl h2
      · exact .inr (run_refl _ _)
    · exact .inr h1
  · rcases h.shut x hx with h1 | h1
    · rcases Clo.mark_or h1 with h2 | rfl
      · exact .inl h2
      · refine .inr fun y hy => ?_
        rw [← hl] at hy
        obtain ⟨i, hi, he⟩ := List.mem_iff_getElem.1 hy
        exact h.way i y hi (by rw [List.getElem?_eq_getElem hi, he])
    · exact .inr h1

theorem newInts_form {B : Nat} {w : World} {v : Value} {l : List Int} (h : NewInts B w v l) : ∃ la ll lc, v = .slice la ll lc ∧ Hid (ll = l.length) ∧ Hid (∀ j y, l[j]? = some y → ∃ gl, la = some ⟨gl, 0, none⟩ ∧ B ≤ gl ∧ gl < w.heap.size ∧ w.cell? ⟨gl, j, none⟩ = some (.int .i64 y)) := by
  rcases h with ⟨rfl, rfl⟩ | ⟨_, gl, rfl, hB, hI⟩
  · exact ⟨_, _, _, rfl, rfl, fun j y hj => by simp at hj⟩
  · exact ⟨_, _, _, rfl, rfl, fun j y hj => ⟨gl, rfl, hB, hI.lt, is_cell hI hj⟩⟩
theorem next_done (p : Nat) (b f : Bool) : nextV doneP.op doneP.a doneP.b p b f = [] := by simp [nextV, doneP]

set_option maxHeartbeats 4000000 in
set_option maxRecDepth 100000 in
theorem enter_new {q g n cap : Nat} {P : Nat → Pl} {txt : ByteArray} {fr : Int} {tg : Nat → Nat} (hn : n ≤ 400) (hcap : n ≤ cap) (hG : ∀ k, k + 1 < n → Good (n - 1) (P k)) (hD : P (n - 1) = doneP) (ht : txt.size ≤ 1000) (e m p : Nat) (he : e ≤ txt.size) (ih : EnterOk q g n cap P txt fr tg e m) (H : Nat → Bool) (L : List Nat) (w : World) (hp : p < n) (hS : Sw q g n cap P txt fr H L w) (hH : H p = false) (hm : open' H 400 ≤ m + 1) :
  Calls Tryz.prog 65 #[.pointer (some ⟨q, 0, none⟩), .agg #[.int .i64 fr, .int .i64 (p : Int)], .int .i64 (e : Int)] w fun r w' => r = .returned (.tuple #[]) ∧ (∃ H' L', Sw q g n cap P txt fr H' L' w' ∧ Dfs P tg txt.size e H p H' ∧ L.length ≤ L'.length) ∧ Ch4 q w w' := by
  obtain ⟨i0, hi0, hz0, hz1, hz2⟩ := info_parts Tryz.infoPiecer
  have hq := hS.q_lt
  have c := hS.held p (by omega)
  rw [hH] at c
  have hpI : (p : Int) < 400 := by omega
  have fq := hS.fz
  have fp := fq (2 + p)
  have f4 := fq 402
  have hL : L.length ≤ 400 := by have := hS.cnt; omega
  obtain ⟨pv, r1, r2, r3⟩ := hS.row
  obtain ⟨pa, pc, rfl⟩ := Rx.owns_slice r2
  obtain ⟨bx, hbx⟩ : ∃ bx, bx = w.heap.size := ⟨_, rfl⟩
  go_enter Tryz.func65, Tryz.ntmps65
  go_wp2_with fail
  go_quiet (fail)
  go_wp2_with fail
  go_region
  all_goals go_wp2_with fail
  obtain ⟨w1, hw1⟩ : ∃ w1, w1 = ((w.alloc (.cells #[.int .i64 fr, .int .i64 (p : Int)] 127)).drewN (nq + 1)).setCell ⟨q, 2 + p, none⟩ (.bool true) := ⟨_, rfl⟩
  have h1q : ∀ k, k ≠ q → k < w.heap.size → w1.heap[k]? = w.heap[k]? := fun k hk hl => by rw [hw1, Below.heap_setCell _ ⟨q, 2 + p, none⟩ _ _ hk]; exact Below.heap_alloc _ _ _ hl
  have hs1 : w1.heap.size = bx + 1 := by rw [hw1, hbx]; simp
  have d1 : bx ≠ q := by omega
  have d2 : q ≠ bx := by omega
  have cA : ∀ j, (w.alloc (.cells #[.int .i64 fr, .int .i64 (p : Int)] 127)).cell? ⟨q, j, none⟩ = w.cell? ⟨q, j, none⟩ := fun j => World.cell?_of_block (Below.heap_alloc _ _ _ hq)
  have cq : ∀ j, j ≠ 2 + p → w1.cell? ⟨q, j, none⟩ = w.cell? ⟨q, j, none⟩ := fun j hj => by
    rw [hw1, World.cell?_setCell_other _ _ _ _ (fun e => hj (by cases e; rfl)), World.cell?_drewN, cA]
  have cp : w1.cell? ⟨q, 2 + p, none⟩ = some (.bool true) := by
    rw [hw1]
    exact World.cell?_setCell_same _ _ _ (by rw [World.cell?_drewN, cA]; exact c)
  have fq1 : ∀ j, w1.frozen? ⟨q, j, none⟩ = false := fun j => by
    have h0 : (w.alloc (.cells #[.int .i64 fr, .int .i64 (p : Int)] 127)).frozen? ⟨q, j, none⟩ = false := (World.frozen?_of_block (Below.heap_alloc _ _ _ hq)).trans (fq j)
    rw [hw1]
    simpa using h0
  have cb : w1.heap[bx]? = some (.cells #[.int .i64 fr, .int .i64 (p : Int)] 127 (0, 0)) := by
    rw [hw1, Below.heap_setCell _ ⟨q, 2 + p, none⟩ _ _ d1, hbx]
    exact heap_alloc_last w _
  have b0 : w1.cell? ⟨bx, 0, none⟩ = some (.int .i64 fr) := by rw [cell_of_row _ _ 0 _ _ (0, 0) cb]; rfl
  have b1 : w1.cell? ⟨bx, 1, none⟩ = some (.int .i64 (p : Int)) := by rw [cell_of_row _ _ 1 _ _ (0, 0) cb]; rfl
  have r1' : w1.cell? ⟨q, 402, none⟩ = some (.slice pa L.length pc) := (cq 402 (by omega)).trans r1
  have f4' := fq1 402
  have ho1 : w1.ownsRow 0 127 2 (.slice pa L.length pc) L.length (pcs fr L) := Rx.owns_same r2 fun k hk => h1q k (r3 k hk).1 (r2.lt k hk).2
  have hos1 : w1.os = w.os := by rw [hw1]; rfl
  have hta1 : w1.tape = w.tape := by rw [hw1]; rfl
  have hou1 : w1.output = w.output := by rw [hw1]; rfl
  rw [← hw1, ← hbx]
  clear hw1 cA c fp f4 fq
  have hk64 : Hid ((L.length + 1) * 16 ≤ 140737488355328) := by show _ ≤ _; omega
  have hkm : Hid (L.length + 1 ≤ maxLen) := by show _ ≤ _; unfold maxLen; omega
  have hownA : ∀ o', ((w1.drew).alloc o').ownsRow 0 127 2 (.slice pa L.length pc) L.length (pcs fr L) := fun o' => ho1.drew.alloc o'
  have hc2 : ∀ j x, [Value.int .i64 fr, .int .i64 (p : Int)][j]? = some x → ((w1.drew).alloc (.cells #[.int .i64 fr, .int .i64 (p : Int)] 127)).cell? ((⟨w1.heap.size, 0, none⟩ : Addr).add j) = some x := by
    intro j x hj
    have hadd : (⟨w1.heap.size, 0, none⟩ : Addr).add j = ⟨w1.heap.size, j, none⟩ := by unfold Addr.add; split <;> simp_all
    have hh : ((w1.drew).alloc (.cells #[.int .i64 fr, .int .i64 (p : Int)] 127)).heap[w1.heap.size]? = some (.cells #[.int .i64 fr, .int .i64 (p : Int)] 127 (0, 0)) := heap_alloc_last w1.drew _
    rw [hadd, cell_of_row _ _ j _ _ (0, 0) hh]
    simpa using hj
  have hqb : ∀ w4, ((w1.drew).alloc (.cells #[.int .i64 fr, .int .i64 (p : Int)] 127)).grownBy w4 (Value.ownBlock (.slice pa L.length pc)) → ∀ k, k < w1.heap.size → Value.ownBlock (.slice pa L.length pc) ≠ some k → w4.heap[k]? = w1.heap[k]? := fun w4 hg k hk hne => (hg.block k (by simp; omega) (fun e => hne e.symm)).trans (Below.heap_alloc w1.drew _ _ hk)
  have hnq : Value.ownBlock (.slice pa L.length pc) ≠ some q := fun e => (r3 q e).1 rfl
  have hq1 : q < w1.heap.size := by omega
  have Hs1 : Hid (w1.heap.size = bx + 1) := hs1
  have Hbx : Hid (bx = w.heap.size) := hbx
  clear hs1 hbx
  go_region_law (first | (refine step_append_own rfl (.tmp 25) (.tmp 27) 75 rfl 0 127 i0 _ 2 16 Tryz.underlying75 hi0 hz0 hz1 hz2 rfl (by decide) (.slice pa L.length pc) L.length (pcs fr L) (by simp [Act.eval]) (hownA _) ⟨w1.heap.size, 0, none⟩ 1 1 [.int .i64 fr, .int .i64 (p : Int)] (by simp [Act.eval]) rfl hc2 (by simp [Value.oneCell']) hkm.out hk64.out (Nat.zero_le _) ?_; intro v4 w4 hown4 hgr4 hb4; have c4 : w4.cell? ⟨q, 402, none⟩ = some (.slice pa L.length pc) := (World.cell?_of_block (hqb w4 hgr4 q hq1 hnq)).trans r1'; have f4 : w4.frozen? ⟨q, 402, none⟩ = false := (World.frozen?_of_block (hqb w4 hgr4 q hq1 hnq)).trans f4'; obtain ⟨ao4, cap4, rfl⟩ := Rx.owns_slice hown4))
  all_goals
    obtain ⟨hS5, cb5, hC5, hnr5⟩ := pushed hS hp hn hH r1 r2 r3 h1q (by rw [Hs1.out, Hbx.out]) cq cp fq1 (by rw [← Hbx.out]; exact cb) hos1 hta1 hou1 hgr4 hown4 hb4
    rw [← Hbx.out] at cb5 hnr5
    obtain ⟨w5, hw5⟩ : ∃ w5, w5 = w4.setCell ⟨q, 402, none⟩ (.slice ao4 (L.length + 1) cap4) := ⟨_, rfl⟩
    rw [← hw5] at hS5 cb5 hC5 hnr5 ⊢
    clear hw5 hown4 hgr4 hb4 c4 f4 r1' f4' ho1 hownA hc2 hqb hnq hq1 hos1 hta1 hou1 b0 b1 cb cq cp fq1 h1q
    have b0 : w5.cell? ⟨bx, 0, none⟩ = some (.int .i64 fr) := by rw [cell_of_row _ _ 0 _ _ (0, 0) cb5]; rfl
    have b1 : w5.cell? ⟨bx, 1, none⟩ = some (.int .i64 (p : Int)) := by rw [cell_of_row _ _ 1 _ _ (0, 0) cb5]; rfl
    have k0 := hS5.c0
    have k1 := hS5.c1
    obtain ⟨p0, p1, p2, p3, p4, p5⟩ := hS5.pr.cells hp
    obtain ⟨op, c, s, no, a, b, HP⟩ : ∃ op c s no a b, Hid (P p = ⟨op, c, s, no, a, b⟩) := ⟨_, _, _, _, _, _, rfl⟩
    rw [HP.out] at p0 p1 p2 p3 p4 p5
    dsimp only at p0 p1 p2 p3 p4 p5
    obtain ⟨f1, Hf1⟩ : ∃ f1, Hid (f1 = decide (e = 0)) := ⟨_, rfl⟩
    obtain ⟨f2, Hf2⟩ : ∃ f2, Hid (f2 = decide (e = txt.size)) := ⟨_, rfl⟩
    have g1 : ((e : Int) == 0) = f1 := by rw [Hf1.out, Bool.eq_iff_iff, beq_iff_eq, decide_eq_true_iff]; omega
    have g2 : ((e : Int) == (txt.size : Int)) = f2 := by rw [Hf2.out, Bool.eq_iff_iff, beq_iff_eq, decide_eq_true_iff]; omega
    have hpn : (p : Int) < n := by omega
    have hnI : (n : Int) ≤ 400 := by omega
    have call := iOnward op c s no a b p f1 f2 w5.drew (by omega)
    have hdb : Below w5.heap.size w5 w5.drew := below_drew1 (Below.refl _ _)
    have hlq := hS5.q_lt
    have hlb : bx < w5.heap.size := World.block_lt_of_cell? w5 _ b0
    have hlg := hS5.pr.1
    have hk6 : ∀ w6, Below w5.drew.heap.size w5.drew w6 → Below w5.heap.size w5 w6 := fun w6 h => hdb.trans h
    go_wp2_with fail
    go_region_held3 (fun w' => w'.cell? ⟨q, 0, none⟩ = some (.slice (some ⟨g, 0, none⟩) n cap) ∧ w'.cell? ⟨q, 1, none⟩ = some (.string txt) ∧ w'.cell? ⟨bx, 1, none⟩ = some (.int .i64 (p : Int)) ∧ w'.cell? ⟨g, p * 6, none⟩ = some (.int .i64 op) ∧ w'.cell? ⟨g, p * 6 + 1, none⟩ = some (.int .i64 c) ∧ w'.cell? ⟨g, p * 6 + 2, none⟩ = some (.string s) ∧ w'.cell? ⟨g, p * 6 + 3, none⟩ = some (.bool no) ∧ w'.cell? ⟨g, p * 6 + 4, none⟩ = some (.int .i64 a) ∧ w'.cell? ⟨g, p * 6 + 5, none⟩ = some (.int .i64 b)) (go_keep) (first | (go_at_call 86; with_reducible refine call.mono ?_; rintro r w6 ⟨v, rfl, hv, hb6⟩; have hb6 := hk6 w6 hb6; have k0' := (hb6.cell (p := ⟨q, 0, none⟩) hlq).trans k0; have k1' := (hb6.cell (p := ⟨q, 1, none⟩) hlq).trans k1; have b1' := (hb6.cell (p := ⟨bx, 1, none⟩) hlb).trans b1; have p0' := (hb6.cell (p := ⟨g, p * 6, none⟩) hlg).trans p0; have p1' := (hb6.cell (p := ⟨g, p * 6 + 1, none⟩) hlg).trans p1; have p2' := (hb6.cell (p := ⟨g, p * 6 + 2, none⟩) hlg).trans p2; have p3' := (hb6.cell (p := ⟨g, p * 6 + 3, none⟩) hlg).trans p3; have p4' := (hb6.cell (p := ⟨g, p * 6 + 4, none⟩) hlg).trans p4; have p5' := (hb6.cell (p := ⟨g, p * 6 + 5, none⟩) hlg).trans p5; obtain ⟨la, ll, lc, rfl, hll, hcl⟩ := newInts_form hv))
  all_goals
    have hS6 := hS5.on hb6
    have hC6 : Ch4 q w w6 := hC5.trans (ch4_below hlq hb6)
    have hq6 : w6.heap[q]? = w5.heap[q]? := hb6.block q hlq
    have hnb6 : ¬ RowAt4 q w6 bx := fun h => hnr5 ((rowAt4_same hq6).1 h)
    have hng6 : ∀ gl, w5.heap.size ≤ gl → ¬ RowAt4 q w6 gl := fun gl hgl h => by
      obtain ⟨pv5, u1, u2, u3⟩ := hS5.row
      have := (u2.lt gl ((rowAt4_is u1).1 ((rowAt4_same hq6).1 h))).2
      omega
    have b06 : w6.cell? ⟨bx, 0, none⟩ = some (.int .i64 fr) := (hb6.cell (p := ⟨bx, 0, none⟩) hlb).trans b0
    have hlb6 : bx < w6.heap.size := World.block_lt_of_cell? w6 _ b06
    obtain ⟨l, Hl⟩ : ∃ l, Hid (l = nextV op a b p f1 f2) := ⟨_, rfl⟩
    have Hl2 : Hid (l = nextV (P p).op (P p).a (P p).b p (decide (e = 0)) (decide (e = txt.size))) := by show l = _; rw [HP.out, ← Hf1.out, ← Hf2.out]; exact Hl.out
    have hll := hll.out
    have hcl := hcl.out
    rw [← Hl.out] at hll hcl
    have hl2 : l.length ≤ 2 := by rw [Hl.out]; exact nextV_len _ _ _ _ _ _
    have hyn : ∀ (j : Nat) (y : Int), l[j]? = some y → ∃ z : Nat, y = z ∧ z < n := fun j y hj => by
      have hm : y ∈ l := List.mem_of_getElem? hj
      rw [Hl2.out] at hm
      by_cases hpl : p + 1 < n
      · obtain ⟨z, h1, h2⟩ := next_lt (hG p hpl) p (by omega) _ _ y hm
        exact ⟨z, h1, by omega⟩
      · rw [show p = n - 1 by omega, hD, next_done] at hm
        simp at hm
    have hcnt := hS.cnt
    clear k0 k1 b0 b1 p0 p1 p2 p3 p4 p5 k0' k1' b1' p0' p1' p2' p3' p4' p5' g1 g2 call hb6 hk6 hdb
    have HSt : Hid (Sw q g n cap P txt fr (Clo.mark H p) (L ++ [p]) w6) := hS6
    clear hS6 hS5 hC5 hnr5 cb5 hq6
    subst hll
    go_wp2_with fail
    go_loopw [52] (fun iv wr => ∃ (j : Nat) (Hj : Nat → Bool) (Lj : List Nat), iv = .int .i64 j ∧ j ≤ l.length ∧ Sw q g n cap P txt fr Hj Lj wr ∧ Dl P tg txt.size e H p l j Hj ∧ L.length + 1 ≤ Lj.length ∧ Ch4 q w6 wr) (fun iv _ => l.length - (intOf iv).toNat)
    case atStart => exact ⟨0, _, _, rfl, Nat.zero_le _, HSt.out, dl_start, by simp, Ch4.refl _ _⟩
    case round =>
      obtain ⟨j, Hj, Lj, rfl, hj, hSj, hDj, hLj, hCj⟩ := hrel
      by_cases hjl : j < l.length
      · obtain ⟨z, hz, hzn⟩ := hyn j l[j] (List.getElem?_eq_getElem hjl)
        obtain ⟨gl, rfl, hg1, hg2, hg3⟩ := hcl j l[j] (List.getElem?_eq_getElem hjl)
        have hg1 : w5.heap.size ≤ gl := hg1
        rw [hz] at hg3
        have hjI : (j : Int) < l.length := by omega
        have hlI : (l.length : Int) ≤ 2 := by omega
        have cl : wr.cell? ⟨gl, j, none⟩ = some (.int .i64 (z : Int)) := (World.cell?_of_block (hCj.own gl hg2 (by omega) (hng6 gl hg1)).1).trans hg3
        have cb : wr.cell? ⟨bx, 0, none⟩ = some (.int .i64 fr) := (World.cell?_of_block (hCj.own bx hlb6 d1 hnb6).1).trans b06
        have hcj := hSj.cnt
        have call := ih z Hj Lj wr hzn (by omega) hSj
        have HDj : Hid (Dl P tg txt.size e H p l j Hj) := hDj
        have Hlz : Hid (l[j]? = some (z : Int)) := by show l[j]? = _; rw [List.getElem?_eq_getElem hjl, hz]
        clear hSj hDj hz
        go_wp2_with (go_at_call 65; refine call.mono ?_; rintro r w7 ⟨rfl, ⟨H7, L7, hS7, hD7, hL7⟩, hC7⟩)
        go_roundw
        case rel => exact ⟨j + 1, H7, L7, by go_num, hjl, hS7, dl_step HDj.out Hl2.out Hlz.out hD7, by omega, hCj.trans hC7⟩
        case measure => simp [intOf]; omega
      · obtain rfl : j = l.length := by omega
        go_wp2_with fail
        refine bodyPost_end (v := .tuple #[]) ?_ rfl ⟨rfl, ⟨Hj, Lj, hSj, dl_done hDj Hl2.out, by omega⟩, hC6.trans hCj⟩
        simp [results, Tryz.results65]

/-- enter, however many places are held. -/
theorem iEnter {q g n cap : Nat} {P : Nat → Pl} {txt : ByteArray} {fr : Int} {tg : Nat → Nat} (hn : n ≤ 400) (hcap : n ≤ cap) (hG : ∀ k, k + 1 < n → Good (n - 1) (P k)) (hD : P (n - 1) = doneP) (ht : txt.size ≤ 1000) (e : Nat) (he : e ≤ txt.size) : ∀ m, EnterOk q g n cap P txt fr tg e m := by
  intro m
  induction m with
  | zero =>
    intro p H L w hp hm hS
    cases hH : H p with
    | true => exact enter_held hn e p H L w hp hS hH
    | false =>
      have := open_mark (n := 400) (show p < 400 by omega) hH
      omega
  | succ m ih =>
    intro p H L w hp hm hS
    cases hH : H p with
    | true => exact enter_held hn e p H L w hp hS hH
    | false => exact enter_new hn hcap hG hD ht e m p he ih H L w hp hS hH hm

end Nf
end Go.Proofs.YtgdnlmaacnnfiaaGreatDoor

namespace Go.Proofs.YtgdnlmaacnnfiaaGreatDoor
open Go.RowKit
namespace Nf
set_option linter.unusedVariables false
open Rx Clo

theorem run_eqArr {P : Program} (d n : Nat) (t e : TypeId) (M M' : Nat → Bool) (ht : P.underlying t = some (.array n e)) (he : P.underlying e = some .bool) (hs : (P.info? e).map (·.size) = some 1) (w : World) :
    (Op.equalIn (d + 2) t (.agg (bools M n)) (.agg (bools M' n))).run P w = .ok ((List.range' 0 n).all fun i => M i == M' i) w := by
  have hsz : (sizeOf e).run P w = .ok 1 w := by
    cases hq : P.info? e with
    | none => simp [hq] at hs
    | some i =>
      have : i.size = 1 := by simpa [hq] using hs
      simp [sizeOf, typeInfo, hq, this]
  have hag : (isAgg e).run P w = .ok false w := by
    unfold isAgg
    rw [Sem.run_bind, run_underlying he w]
    simp
  have hp : ∀ (X : Nat → Bool) (i : Nat), i < n → (part e (bools X n) (i * 1)).run P w = .ok (.bool (X i)) w := fun X i hi => by
    unfold part
    rw [Sem.run_bind, hag]
    simp [bools_get X hi]
  have heq : ∀ a b : Bool, (Op.equalIn (d + 1) e (.bool a) (.bool b)).run P w = .ok (a == b) w := fun a b => run_equalIn_bool w d e a b he
  have key : ∀ (K : Option Bool × Unit → World → Result Bool), K (some false, ()) w = .ok false w → K (none, ()) w = .ok true w → ∀ l : List Nat, (∀ i ∈ l, i < n) → (Sem.run P (forIn l ((none, ()) : Option Bool × Unit) fun i __s => do
            let a ← part e (bools M n) (i * 1)
            let b ← part e (bools M' n) (i * 1)
            let r ← Op.equalIn (d + 1) e a b
            if (!r) = true then pure (ForInStep.done (some false, ())) else pure (ForInStep.yield (none, ()))) w).andThen K = .ok (l.all fun i => M i == M' i) w := by
    intro K hK1 hK2 l
    induction l with
    | nil => intro _; simp [hK2]
    | cons x l ih =>
      intro h
      have h1 := hp M x (h x (by simp))
      have h2 := hp M' x (h x (by simp))
      have ih := ih fun i hi => h i (by simp [hi])
      simp only [List.forIn_cons, Sem.run_bind, h1, h2, heq, Result.andThen_ok, Sem.run_ite]
      cases hx : M x == M' x with
      | false => simp [hx, hK1]
      | true =>
        simp only [Bool.not_true, Bool.false_eq_true, if_false, Sem.run_pure, Result.andThen_ok, List.all_cons, hx, Bool.true_and]
        exact ih
  rw [Op.equalIn, Sem.run_bind, run_underlying ht w, Result.andThen_ok]
  simp only [Sem.run_bind, hsz, Result.andThen_ok]
  rw [Std.Legacy.Range.forIn_eq_forIn_range']
  have hn : [:n].size = n := by simp [Std.Legacy.Range.size]
  rw [hn]
  refine key _ ?_ ?_ (List.range' 0 n) (fun i hi => by simpa using hi)
  · rfl
  · rfl

noncomputable def takesB (x : Pl) (b : Nat) : Bool := @decide (Takes x b) (Classical.propDecidable _)
theorem takesB_iff {x : Pl} {b : Nat} : takesB x b = true ↔ Takes x b := by
  unfold takesB
  exact @decide_eq_true_iff _ (Classical.propDecidable _)
theorem takesB_is {x : Pl} {b : Nat} {r : Bool} (h : r = true ↔ Takes x b) : takesB x b = r := by
  rw [Bool.eq_iff_iff, takesB_iff, h]

set_option maxRecDepth 100000 in
set_option maxHeartbeats 1000000 in
theorem iTakes {E : Nat} (x : Pl) (h : Good E x ∨ x = doneP) (b : Nat) (hb : b < 256) (w : World) :
    Calls Tryz.prog 66 #[aggP x, .int .u8 (b : Int)] w fun e w' => e = .returned (.bool (takesB x b)) ∧ Below w.heap.size w w' := by
  have hB : ∀ o, Below w.heap.size w (w.alloc o) := fun o => (Below.refl _ w).alloc (Nat.le_refl _) o
  have hbI : (b : Int) < 256 := by omega
  rcases h with h | rfl
  · rcases h with ⟨c, rfl⟩ | rfl | ⟨s, no, rfl, hs⟩ | rfl | rfl | ⟨a, ha, rfl⟩ | ⟨a, b', ha, hb', rfl⟩
    · by_cases hc : c = b
      · subst hc
        rw [takesB_is (r := true) (by simp [Takes, byteP])]
        unfold aggP byteP
        go_enter Tryz.func66, Tryz.ntmps66
        go_wp2_with fail
        go_ret
        exact ⟨by simp, hB _⟩
      · rw [takesB_is (r := false) (by simp [Takes, byteP]; omega)]
        have hcI : ((c : Int) == (b : Int)) = false := by simp; omega
        unfold aggP byteP
        go_enter Tryz.func66, Tryz.ntmps66
        go_wp2_with fail
        go_ret
        exact ⟨by first | rfl | simp [hcI] | (simp; omega), hB _⟩
    · rw [takesB_is (r := true) (by simp [Takes, anyP])]
      unfold aggP anyP
      go_enter Tryz.func66, Tryz.ntmps66
      go_wp2_with fail
      go_ret
      exact ⟨rfl, hB _⟩
    · have hT : takesB (setP s no) b = ((s.any fun x => decide (x.toNat = b)) != no) := takesB_is (by
        unfold Takes setP
        simp only [show ((3 : Int) = 1) = False by simp, show ((3 : Int) = 2) = False by simp, false_and, false_or, true_and]
        have : (s.any fun x => decide (x.toNat = b)) = true ↔ ∃ y, y ∈ s ∧ y.toNat = b := by simp [List.any_eq_true]
        rw [← this]
        generalize (s.any fun x => decide (x.toNat = b)) = q
        cases q <;> cases no <;> simp)
      rw [hT]
      have call := Mt.iSetTakes s no b hb
      generalize ((s.any fun x => decide (x.toNat = b)) != no) = r at call
      unfold aggP setP
      go_enter Tryz.func66, Tryz.ntmps66
      go_wp2_with (go_at_call 87; refine (call _).mono ?_; rintro e w2 ⟨rfl, hw⟩; have hw := hw.symm; subst hw)
      go_ret
      exact ⟨rfl, hB _⟩
    · rw [takesB_is (r := false) (by simp [Takes, startP])]
      unfold aggP startP
      go_enter Tryz.func66, Tryz.ntmps66
      go_wp2_with fail
      go_ret
      exact ⟨rfl, hB _⟩
    · rw [takesB_is (r := false) (by simp [Takes, endP])]
      unfold aggP endP
      go_enter Tryz.func66, Tryz.ntmps66
      go_wp2_with fail
      go_ret
      exact ⟨rfl, hB _⟩
    · rw [takesB_is (r := false) (by simp [Takes, jumpP])]
      unfold aggP jumpP
      go_enter Tryz.func66, Tryz.ntmps66
      go_wp2_with fail
      go_ret
      exact ⟨rfl, hB _⟩
    · rw [takesB_is (r := false) (by simp [Takes, forkP])]
      unfold aggP forkP
      go_enter Tryz.func66, Tryz.ntmps66
      go_wp2_with fail
      go_ret
      exact ⟨rfl, hB _⟩
  · rw [takesB_is (r := false) (by simp [Takes, doneP])]
    unfold aggP doneP
    go_enter Tryz.func66, Tryz.ntmps66
    go_wp2_with fail
    go_ret
    exact ⟨rfl, hB _⟩

/-! What the walk is at, by the ways there are -/
section
variable {P : Nat → Pl} {tg : Nat → Nat} {N k : Nat}
theorem run_from {p j : Nat} (h : Run P tg N 0 k p j) : k ≤ j := h (fun _ j => k ≤ j) (Nat.le_refl _) fun a b c d hb hs => by
  rcases hs with ⟨rfl, _⟩ | ⟨_, rfl, _⟩ <;> omega
theorem run_to (hk : k ≤ N) {p j : Nat} (h : Run P tg N 0 k p j) : j ≤ N := h (fun _ j => j ≤ N) hk fun a b c d hb hs => by
  rcases hs with ⟨rfl, _⟩ | ⟨_, rfl, _⟩ <;> omega
/-- What is reached far off is reached over each place ahead of it. -/
theorem run_over {p j i : Nat} (hk : k ≤ i) (h : Run P tg N 0 k p j) (hi : i ≤ j) : ∃ p', Run P tg N 0 k p' i := by
  have key := h (fun p j => Run P tg N 0 k p j ∧ (i ≤ j → ∃ p', Run P tg N 0 k p' i)) ⟨run_refl _ _, fun hi => ⟨0, by rw [show i = k by omega]; exact run_refl _ _⟩⟩ fun a b c d hb hs => by
    refine ⟨run_step hb.1 hs, fun hi => ?_⟩
    rcases hs with ⟨rfl, _⟩ | ⟨h1, rfl, h3⟩
    · exact hb.2 hi
    · by_cases e : i ≤ b
      · exact hb.2 e
      · obtain rfl : i = b + 1 := by omega
        exact ⟨c, run_step hb.1 (.inr ⟨h1, rfl, h3⟩)⟩
  exact key.2 hi
/-- Closed under the ways without a byte. -/
def Shut (P : Nat → Pl) (N i : Nat) (H : Nat → Bool) : Prop := ∀ x, H x = true → ∀ y : Nat, (y : Int) ∈ nextV (P x).op (P x).a (P x).b x (decide (i = 0)) (decide (i = N)) → H y = true
theorem first_all {H : Nat → Bool} (h0 : H 0 = true) (hs : Shut P N k H) {p : Nat} (h : Run P tg N 0 k p k) : H p = true := by
  have key := h (fun p j => Run P tg N 0 k p j ∧ (j = k → H p = true)) ⟨run_refl _ _, fun _ => h0⟩ fun a b c d hb hst => by
    refine ⟨run_step hb.1 hst, fun e => ?_⟩
    rcases hst with ⟨rfl, h2⟩ | ⟨h1, rfl, _⟩
    · subst e
      exact hs a (hb.2 rfl) c h2
    · have := run_from hb.1
      omega
  exact key.2 rfl
theorem next_all {i : Nat} {H : Nat → Bool} (hki : k ≤ i) (hseed : ∀ x, Run P tg N 0 k x i → i < N → Takes (P x) (tg i) → H (x + 1) = true) (hs : Shut P N (i + 1) H) {p : Nat} (h : Run P tg N 0 k p (i + 1)) : H p = true := by
  have key := h (fun p j => Run P tg N 0 k p j ∧ (j = i + 1 → H p = true)) ⟨run_refl _ _, fun e => by omega⟩ fun a b c d hb hst => by
    refine ⟨run_step hb.1 hst, fun e => ?_⟩
    rcases hst with ⟨rfl, h2⟩ | ⟨h1, rfl, rfl, h4⟩
    · subst e
      exact hs a (hb.2 rfl) c h2
    · obtain rfl : b = i := by omega
      exact hseed a hb.1 h1 h4
  exact key.2 rfl

/-- Where the longest piece so far ends. -/
def To (P : Nat → Pl) (tg : Nat → Nat) (N k z i : Nat) (tt : Int) : Prop := (tt = -1 ∧ ∀ j, j < i → ¬ Run P tg N 0 k z j) ∨ ∃ j : Nat, tt = j ∧ j < i ∧ Run P tg N 0 k z j ∧ ∀ j', j < j' → j' < i → ¬ Run P tg N 0 k z j'
theorem to_start {z : Nat} : To P tg N k z k (-1) := .inl ⟨rfl, fun j hj h => by have := run_from h; omega⟩
theorem to_in {z i : Nat} {tt : Int} (h : Run P tg N 0 k z i) : To P tg N k z (i + 1) (i : Int) := .inr ⟨i, rfl, by omega, h, fun j' h1 h2 => by omega⟩
theorem to_out {z i : Nat} {tt : Int} (ht : To P tg N k z i tt) (h : ¬ Run P tg N 0 k z i) : To P tg N k z (i + 1) tt := by
  rcases ht with ⟨h1, h2⟩ | ⟨j, h1, h2, h3, h4⟩
  · refine .inl ⟨h1, fun j hj hr => ?_⟩
    by_cases e : j = i
    · subst e; exact h hr
    · exact h2 j (by omega) hr
  · refine .inr ⟨j, h1, by omega, h3, fun j' a b hr => ?_⟩
    by_cases e : j' = i
    · subst e; exact h hr
    · exact h4 j' a (by omega) hr
theorem to_far {z i m : Nat} {tt : Int} (hk : k ≤ i) (ht : To P tg N k z i tt) (h : ∀ p, ¬ Run P tg N 0 k p i) (hm : i ≤ m) : To P tg N k z m tt := by
  have hn : ∀ j, i ≤ j → ¬ Run P tg N 0 k z j := fun j hj hr => by
    obtain ⟨p', hp'⟩ := run_over hk hr hj
    exact h p' hp'
  rcases ht with ⟨h1, h2⟩ | ⟨j, h1, h2, h3, h4⟩
  · refine .inl ⟨h1, fun j hj hr => ?_⟩
    by_cases e : j < i
    · exact h2 j e hr
    · exact hn j (by omega) hr
  · refine .inr ⟨j, h1, by omega, h3, fun j' a b hr => ?_⟩
    by_cases e : j' < i
    · exact h4 j' a e hr
    · exact hn j' (by omega) hr
end

end Nf
end Go.Proofs.YtgdnlmaacnnfiaaGreatDoor

