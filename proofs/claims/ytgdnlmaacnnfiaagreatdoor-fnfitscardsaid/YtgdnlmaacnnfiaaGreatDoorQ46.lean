/-
  The program's list of places, what stands in it: put, putFork, forkHere.
  The program's putPattern: what stands in the list.
-/
import Derived.Test.YtgdnlmaacnnfiaaGreatDoorQ24
import Derived.Test.YtgdnlmaacnnfiaaGreatDoorQ45
import Derived.Test.YtgdnlmaacnnfiaaGreatDoorQ25
namespace Go.Proofs.YtgdnlmaacnnfiaaGreatDoor
open Go.RowKit
namespace Nf
set_option linter.unusedVariables false
open Rx Clo

def upd (P : Nat → Pl) (k : Nat) (x : Pl) : Nat → Pl := fun i => if i = k then x else P i
theorem upd_same (P : Nat → Pl) (k : Nat) (x : Pl) : upd P k x k = x := by simp [upd]
theorem upd_other (P : Nat → Pl) {k i : Nat} (x : Pl) (h : i ≠ k) : upd P k x i = P i := by simp [upd, h]

def setA (x : Pl) (a : Int) : Pl := ⟨x.op, x.c, x.set, x.no, a, x.b⟩
def setB (x : Pl) (b : Int) : Pl := ⟨x.op, x.c, x.set, x.no, x.a, b⟩

/-- The cells xs are the places P, n of them. -/
def Cs6 (xs : List Value) (P : Nat → Pl) (n : Nat) : Prop := ∀ k j, k < n → j < 6 → xs[k * 6 + j]? = some (cellP (P k) j)
theorem cs6_put {xs : List Value} {P : Nat → Pl} {n : Nat} (h : Cs6 xs P n) (hl : xs.length = n * 6) (x : Pl) : Cs6 (xs ++ [.int .i64 x.op, .int .i64 x.c, .string x.set, .bool x.no, .int .i64 x.a, .int .i64 x.b]) (upd P n x) (n + 1) := by
  intro k j hk hj
  by_cases e : k = n
  · subst e
    rw [upd_same, List.getElem?_append_right (by omega), hl, show k * 6 + j - k * 6 = j by omega]
    match j, hj with
    | 0, _ => rfl
    | 1, _ => rfl
    | 2, _ => rfl
    | 3, _ => rfl
    | 4, _ => rfl
    | 5, _ => rfl
  · rw [upd_other _ _ e, List.getElem?_append_left (by omega)]
    exact h k j (by omega) hj
theorem cs6_b {xs : List Value} {P : Nat → Pl} {n : Nat} (h : Cs6 xs P n) (hl : xs.length = n * 6) {f : Nat} (hf : f < n) (b : Int) : Cs6 (xs.set (f * 6 + 5) (.int .i64 b)) (upd P f (setB (P f) b)) n := by
  intro k j hk hj
  rw [List.getElem?_set]
  by_cases e : k = f
  · subst e
    rw [upd_same]
    by_cases e5 : j = 5
    · subst e5
      rw [if_pos rfl, if_pos (by omega)]
      rfl
    · rw [if_neg (by omega), h k j hk hj]
      match j, hj, e5 with
      | 0, _, _ => rfl
      | 1, _, _ => rfl
      | 2, _, _ => rfl
      | 3, _, _ => rfl
      | 4, _, _ => rfl
      | 5, _, e => exact absurd rfl e
  · rw [if_neg (by omega), upd_other _ _ e]
    exact h k j hk hj
theorem cs6_a {xs : List Value} {P : Nat → Pl} {n : Nat} (h : Cs6 xs P n) (hl : xs.length = n * 6) {f : Nat} (hf : f < n) (a : Int) : Cs6 (xs.set (f * 6 + 4) (.int .i64 a)) (upd P f (setA (P f) a)) n := by
  intro k j hk hj
  rw [List.getElem?_set]
  by_cases e : k = f
  · subst e
    rw [upd_same]
    by_cases e5 : j = 4
    · subst e5
      rw [if_pos rfl, if_pos (by omega)]
      rfl
    · rw [if_neg (by omega), h k j hk hj]
      match j, hj, e5 with
      | 0, _, _ => rfl
      | 1, _, _ => rfl
      | 2, _, _ => rfl
      | 3, _, _ => rfl
      | 4, _, e => exact absurd rfl e
      | 5, _, _ => rfl
  · rw [if_neg (by omega), upd_other _ _ e]
    exact h k j hk hj

/-- The list at block p has the places P, n of them; its row is at a block from B on. -/
def PC (B p n : Nat) (P : Nat → Pl) (w : World) : Prop := ∃ (ao : Option Addr) (cap : Nat) (xs : List Value), w.cell? ⟨p, 0, none⟩ = some (.slice ao n cap) ∧ w.frozen? ⟨p, 0, none⟩ = false ∧ w.ownsRow B 67 6 (.slice ao n cap) n xs ∧ Cs6 xs P n
theorem PC.pl {B p n : Nat} {P : Nat → Pl} {w : World} (h : PC B p n P w) : PL B p n w := by
  obtain ⟨ao, cap, xs, h1, h2, h3, _⟩ := h
  exact ⟨ao, cap, xs, h1, h2, h3⟩
theorem PC.kept {B p n : Nat} {P : Nat → Pl} {w w' : World} (h : PC B p n P w) (hb : Below w.heap.size w w') : PC B p n P w' := by
  obtain ⟨ao, cap, xs, h1, h2, h3, h4⟩ := h
  have hl := World.block_lt_of_cell? w _ h1
  exact ⟨ao, cap, xs, (hb.cell (p := ⟨p, 0, none⟩) hl).trans h1, (hb.frozen (p := ⟨p, 0, none⟩) hl).trans h2, Rx.owns_same h3 fun g hg => hb.block g (h3.lt g hg).2, h4⟩
theorem PC.alloc {B p n : Nat} {P : Nat → Pl} {w : World} (h : PC B p n P w) (o : Obj) : PC B p n P (w.alloc o) := h.kept ((Below.refl _ w).alloc (Nat.le_refl _) o)
theorem PC.same {B p n : Nat} {P P' : Nat → Pl} {w : World} (h : PC B p n P w) (hp : ∀ i, i < n → P' i = P i) : PC B p n P' w := by
  obtain ⟨ao, cap, xs, h1, h2, h3, h4⟩ := h
  exact ⟨ao, cap, xs, h1, h2, h3, fun k j hk hj => by rw [hp k hk]; exact h4 k j hk hj⟩

set_option maxHeartbeats 2000000 in
set_option maxRecDepth 100000 in
theorem iPutC {B p n : Nat} {P : Nat → Pl} {w : World} (h : PC B p n P w) (hp : p < B) (hB : B ≤ w.heap.size) (hn : n ≤ 1000000) (op c a b : Int) (s : ByteArray) (no : Bool) :
    Calls Tryz.prog 29 #[.pointer (some ⟨p, 0, none⟩), .agg #[.int .i64 op, .int .i64 c, .string s, .bool no, .int .i64 a, .int .i64 b]] w fun e w' => e = .returned (.int .i64 n) ∧ PC B p (n + 1) (upd P n ⟨op, c, s, no, a, b⟩) w' ∧ Ch p B w w' := by
  obtain ⟨ao, cap, xs, h1, h2, h3, h6⟩ := h
  have h7 := cs6_put h6 h3.1 ⟨op, c, s, no, a, b⟩
  obtain ⟨i0, hi0, hz0, hz1, hz2⟩ := info_parts Tryz.infoPlacer
  have hpl : p < w.heap.size := by omega
  have hnI : (n : Int) ≤ 1000000 := by omega
  have hk64 : Hid ((n + 1) * 56 ≤ 140737488355328) := by show _ ≤ _; omega
  have hkm : Hid (n + 1 ≤ maxLen) := by show _ ≤ _; unfold maxLen; omega
  have hownA : ∀ o o', (((w.alloc o).drew).alloc o').ownsRow B 67 6 (.slice ao n cap) n xs := fun o o' => ((h3.alloc o).drew).alloc o'
  have hownp : ∀ g, Value.ownBlock (.slice ao n cap) = some g → B ≤ g := fun g hg => (h3.lt g hg).1
  have hs1 : ((w.alloc (.cells #[.int .i64 op, .int .i64 c, .string s, .bool no, .int .i64 a, .int .i64 b] 67)).drew).heap.size = w.heap.size + 1 := World.size_alloc _ _
  have hc6 : ∀ j x, [.int .i64 op, .int .i64 c, .string s, .bool no, .int .i64 a, .int .i64 b][j]? = some x → (((w.alloc (.cells #[.int .i64 op, .int .i64 c, .string s, .bool no, .int .i64 a, .int .i64 b] 67)).drew).alloc (.cells #[.int .i64 op, .int .i64 c, .string s, .bool no, .int .i64 a, .int .i64 b] 67)).cell? ((⟨w.heap.size + 1, 0, none⟩ : Addr).add j) = some x := by
    intro j x hj
    have := cell_six_new ((w.alloc (.cells #[.int .i64 op, .int .i64 c, .string s, .bool no, .int .i64 a, .int .i64 b] 67)).drew) _ _ _ _ _ _ j x hj
    rwa [hs1] at this
  have hpb : ∀ w4, (((w.alloc (.cells #[.int .i64 op, .int .i64 c, .string s, .bool no, .int .i64 a, .int .i64 b] 67)).drew).alloc (.cells #[.int .i64 op, .int .i64 c, .string s, .bool no, .int .i64 a, .int .i64 b] 67)).grownBy w4 (Value.ownBlock (.slice ao n cap)) → w4.heap[p]? = w.heap[p]? := fun w4 hg => (hg.block p (by simp; omega) (fun e => by have := hownp p e.symm; omega)).trans ((Below.heap_alloc _ _ _ (by rw [hs1]; omega)).trans (Below.heap_alloc _ _ _ hpl))
  clear h6
  have H7 : Hid (Cs6 (xs ++ [.int .i64 op, .int .i64 c, .string s, .bool no, .int .i64 a, .int .i64 b]) (upd P n ⟨op, c, s, no, a, b⟩) (n + 1)) := h7
  clear h7
  go_enter Tryz.func29, Tryz.ntmps29
  go_wp2_with fail
  go_region_law (first | (refine step_append_own rfl (.tmp 9) (.tmp 11) 32 rfl B 67 i0 _ 6 56 Tryz.underlying32 hi0 hz0 hz1 hz2 rfl (by decide) (.slice ao n cap) n xs (by simp [Act.eval]) (hownA _ _) ⟨w.heap.size + 1, 0, none⟩ 1 1 [.int .i64 op, .int .i64 c, .string s, .bool no, .int .i64 a, .int .i64 b] (by simp [Act.eval]) rfl hc6 (by simp [Value.oneCell']) hkm.out hk64.out (by simp; omega) ?_; intro v4 w4 hown4 hgr4 hb4; have c4 : w4.cell? ⟨p, 0, none⟩ = some (.slice ao n cap) := (World.cell?_of_block (hpb w4 hgr4)).trans h1; have f4 : w4.frozen? ⟨p, 0, none⟩ = false := (World.frozen?_of_block (hpb w4 hgr4)).trans h2; obtain ⟨ao4, cap4, rfl⟩ := owns_slice hown4))
  all_goals have hPC : PC B p (n + 1) (upd P n ⟨op, c, s, no, a, b⟩) (w4.setCell ⟨p, 0, none⟩ (.slice ao4 (n + 1) cap4)) := ⟨ao4, cap4, _, World.cell?_setCell_same _ _ _ c4, by simpa using f4, Rx.owns_same hown4 fun g hg => Below.heap_setCell _ _ _ _ (by have := (hown4.lt g hg).1; show g ≠ p; omega), H7.out⟩
  all_goals have hPL := hPC.pl
  all_goals have HPC : Hid (PC B p (n + 1) (upd P n ⟨op, c, s, no, a, b⟩) (w4.setCell ⟨p, 0, none⟩ (.slice ao4 (n + 1) cap4))) := hPC
  all_goals clear hPC
  all_goals have hsame : ∀ k, k < w.heap.size → k ≠ p → Value.ownBlock (.slice ao n cap) ≠ some k → (w4.setCell ⟨p, 0, none⟩ (.slice ao4 (n + 1) cap4)).heap[k]? = w.heap[k]? := fun k h1 h2 h4 => (Below.heap_setCell _ ⟨p, 0, none⟩ _ _ h2).trans ((hgr4.block k (by simp; omega) (Ne.symm h4)).trans ((Below.heap_alloc _ _ _ (by first | (rw [hs1]; omega) | (simp; omega))).trans (Below.heap_alloc _ _ _ h1)))
  all_goals have HC : Hid (Ch p B w (w4.setCell ⟨p, 0, none⟩ (.slice ao4 (n + 1) cap4))) := ⟨hgr4.os, hgr4.tape, hgr4.output, Nat.le_trans (Nat.le_trans (by simp; omega) hgr4.size) (by simp), fun k h1 h2 => hsame k (by omega) h2 (fun e => by have := hownp k e; omega), fun k h1' h2' h3' => ⟨hsame k h1' h2' (fun e => h3' ((rowAt_is h1).2 e)), fun hr => by
    have hr2 := (rowAt_is (World.cell?_setCell_same _ _ _ c4)).1 hr
    rcases hb4 with e | e
    · rw [e] at hr2
      exact h3' ((rowAt_is h1).2 hr2)
    · rw [e] at hr2
      simp at hr2
      omega⟩⟩
  all_goals go_wp2_with fail
  all_goals refine (iNext hPL).mono ?_
  all_goals rintro e w5 ⟨rfl, hw⟩
  all_goals have hw := hw.symm
  all_goals subst hw
  all_goals go_wp2_with fail
  all_goals go_ret
  all_goals exact ⟨by simp, HPC.out, HC.out⟩


set_option maxRecDepth 100000 in
theorem iPutForkC {B p n : Nat} {P : Nat → Pl} {w : World} (h : PC B p n P w) (hp : p < B) (hB : B ≤ w.heap.size) (hn : n ≤ 1000000) :
    Calls Tryz.prog 60 #[.pointer (some ⟨p, 0, none⟩)] w fun e w' => e = .returned (.int .i64 n) ∧ PC B p (n + 1) (upd P n ⟨7, 0, ⟨#[]⟩, false, (n : Int) + 1, 0⟩) w' ∧ Ch p B w w' := by
  have hnI : (n : Int) ≤ 1000000 := by omega
  go_enter Tryz.func60, Tryz.ntmps60
  go_wp2_with fail
  refine (iNext h.pl).mono ?_
  rintro e w5 ⟨rfl, hw⟩
  have hw := hw.symm
  subst hw
  go_wp2_with fail
  refine (iPutC h hp hB hn _ _ _ _ _ _).mono ?_
  rintro e w6 ⟨rfl, hP, hC⟩
  go_wp2_with fail
  go_ret
  exact ⟨rfl, hP, hC⟩


set_option maxRecDepth 100000 in
theorem iForkHereC {B p n f : Nat} {P : Nat → Pl} {w : World} (h : PC B p n P w) (hp : p < B) (hf : f < n) (hn : n ≤ 1000000) :
    Calls Tryz.prog 61 #[.pointer (some ⟨p, 0, none⟩), .int .i64 f] w fun e w' => e = .returned (.tuple #[]) ∧ PC B p n (upd P f (setB (P f) (n : Int))) w' ∧ Ch p B w w' := by
  obtain ⟨ao, cap, xs, h1, h2, h3, h6⟩ := h
  have h7 := cs6_b h6 h3.1 hf (n : Int)
  clear h6
  obtain ⟨g, rfl, hg, hgl, hcs⟩ := row_cell6 h3 hf
  obtain ⟨v5, q5⟩ := hcs 5 (by omega)
  have fz := h3.frozenAt (f * 6 + 5)
  have hfI : (f : Int) < n := by omega
  have hnI : (n : Int) ≤ 1000000 := by omega
  have call1 : Calls Tryz.prog 62 #[.pointer (some ⟨p, 0, none⟩)] w.drew fun e w' => e = .returned (.int .i64 n) ∧ w' = w.drew := iNext ⟨_, _, _, h1, h2, h3⟩
  have hPL : PC B p n (upd P f (setB (P f) (n : Int))) ((w.setCell ⟨g, f * 6 + 5, none⟩ (.int .i64 n)).drew) := by
    refine ⟨_, _, _, (World.cell?_of_block (w := w) (Below.heap_setCell w ⟨g, f * 6 + 5, none⟩ (.int .i64 n) p (by show p ≠ g; omega))).trans h1, ?_, (h3.stored _ _).1, h7⟩
    exact (World.frozen?_of_block (w := w) (Below.heap_setCell w ⟨g, f * 6 + 5, none⟩ (.int .i64 n) p (by show p ≠ g; omega))).trans h2
  have hpb : ((w.setCell ⟨g, f * 6 + 5, none⟩ (.int .i64 n)).drew).heap[p]? = w.heap[p]? := Below.heap_setCell w ⟨g, f * 6 + 5, none⟩ (.int .i64 n) p (by show p ≠ g; omega)
  have HC : Ch p B w ((w.setCell ⟨g, f * 6 + 5, none⟩ (.int .i64 n)).drew) := ⟨rfl, rfl, rfl, by show w.heap.size ≤ (w.setCell ⟨g, f * 6 + 5, none⟩ (.int .i64 n)).heap.size; simp, fun k h1 _ => Below.heap_setCell w ⟨g, f * 6 + 5, none⟩ (.int .i64 n) k (by show k ≠ g; omega), fun k hk1 hk2 hr => ⟨Below.heap_setCell w ⟨g, f * 6 + 5, none⟩ (.int .i64 n) k (fun e => hr ((rowAt_is h1).2 (by show some g = some k; rw [show k = g from e]))), fun hr' => hr ((rowAt_same hpb).1 hr')⟩⟩
  have HPL : Hid (PC B p n (upd P f (setB (P f) (n : Int))) ((w.setCell ⟨g, f * 6 + 5, none⟩ (.int .i64 n)).drew)) := hPL
  clear hPL h7
  go_enter Tryz.func61, Tryz.ntmps61
  go_region_with (first | (go_at_call 62; refine call1.mono ?_; rintro e w2 ⟨rfl, hw⟩; have hw := hw.symm; subst hw))
  all_goals refine bodyPost_end (v := .tuple #[]) ?_ rfl ⟨rfl, HPL.out, HC⟩
  all_goals simp [results, Tryz.results61]


end Nf
end Go.Proofs.YtgdnlmaacnnfiaaGreatDoor

namespace Go.Proofs.YtgdnlmaacnnfiaaGreatDoor
open Go.RowKit
namespace Nf
set_option linter.unusedVariables false
open Rx Clo

/-- What putPattern leaves: the places that were there, and behind them those of t. -/
def More (d : Nat) (t : Data) (n : Nat) (P P' : Nat → Pl) : Prop := (∀ i, i < n → P' i = P i) ∧ At P' d t n
def PutC (p B d : Nat) (t : Data) : Prop := ∀ (w : World) (n : Nat) (P : Nat → Pl) (S : Nat → Prop) (v : Value), PC B p n P w → B ≤ w.heap.size → PatIs w t S v → (∀ k, S k → k < B ∧ k ≠ p) → n + nl t ≤ 100000 →
  Calls Tryz.prog 28 #[.pointer (some ⟨p, 0, none⟩), v] w fun e w' => e = .returned (.tuple #[]) ∧ (∃ P', PC B p (n + nl t) P' w' ∧ More d t n P P') ∧ Ch p B w w'
def MoreOr (d : Nat) (ks : List Data) (n : Nat) (P P' : Nat → Pl) : Prop := (∀ i, i < n → P' i = P i) ∧ OrAt P' (At P' d) ks n (n + (nls ks + 2 * (ks.length - 1)))

theorem catAt_snoc {F : Data → Nat → Prop} : ∀ (ks : List Data) (t : Data) (o : Nat), CatAt F ks o → F t (o + nls ks) → CatAt F (ks ++ [t]) o
  | [], t, o, _, h => by simpa [CatAt, nls] using h
  | k :: ks, t, o, h, ht => by
    rw [List.cons_append]
    refine ⟨h.1, catAt_snoc ks t _ h.2 ?_⟩
    rw [nls] at ht
    rwa [Nat.add_assoc]
theorem upd_lt {P : Nat → Pl} {n i : Nat} {x : Pl} (h : i < n) : upd P n x i = P i := upd_other _ _ (by omega)

theorem star_more {d n : Nat} {k : Data} {P P3 : Nat → Pl} {E : Int} (h : More d k (n + 1) (upd P n ⟨7, 0, ⟨#[]⟩, false, (n : Int) + 1, 0⟩) P3) (hE : E = (n : Int) + (nl k + 2)) : More (d + 1) (Rx.one 8 k) n P (upd (upd P3 (n + 1 + nl k) ⟨6, 0, ⟨#[]⟩, false, (n : Int), 0⟩) n (setB (upd P3 (n + 1 + nl k) ⟨6, 0, ⟨#[]⟩, false, (n : Int), 0⟩ n) E)) := by
  have e3 : P3 n = ⟨7, 0, ⟨#[]⟩, false, (n : Int) + 1, 0⟩ := by rw [h.1 n (by omega), upd_same]
  refine ⟨fun i hi => ?_, ?_⟩
  · rw [upd_other _ _ (by omega), upd_other _ _ (by omega), h.1 i (by omega), upd_other _ _ (by omega)]
  · rw [At]
    refine .inr (.inr (.inr (.inr (.inr (.inr (.inl ⟨k, rfl, ?_, at_congr d k _ h.2 fun i a b => ?_, ?_⟩))))))
    · rw [upd_same, upd_other _ _ (by omega), e3]
      simp [forkP, setB]
      omega
    · rw [upd_other _ _ (by omega), upd_other _ _ (by omega)]
    · rw [upd_other _ _ (by omega), upd_same]
      rfl
theorem plus_more {d n : Nat} {k : Data} {P P3 : Nat → Pl} (h : More d k n P P3) : More (d + 1) (Rx.one 9 k) n P (upd P3 (n + nl k) ⟨7, 0, ⟨#[]⟩, false, (n : Int), ((n + nl k : Nat) : Int) + 1⟩) := by
  refine ⟨fun i hi => ?_, ?_⟩
  · rw [upd_other _ _ (by omega), h.1 i hi]
  · rw [At]
    refine .inr (.inr (.inr (.inr (.inr (.inr (.inr (.inl ⟨k, rfl, at_congr d k _ h.2 fun i a b => ?_, ?_⟩)))))))
    · rw [upd_other _ _ (by omega)]
    · rw [upd_same]
      simp [forkP]
theorem may_more {d n : Nat} {k : Data} {P P3 : Nat → Pl} {E : Int} (h : More d k (n + 1) (upd P n ⟨7, 0, ⟨#[]⟩, false, (n : Int) + 1, 0⟩) P3) (hE : E = (n : Int) + (nl k + 1)) : More (d + 1) (Rx.one 10 k) n P (upd P3 n (setB (P3 n) E)) := by
  have e3 : P3 n = ⟨7, 0, ⟨#[]⟩, false, (n : Int) + 1, 0⟩ := by rw [h.1 n (by omega), upd_same]
  refine ⟨fun i hi => ?_, ?_⟩
  · rw [upd_other _ _ (by omega), h.1 i (by omega), upd_other _ _ (by omega)]
  · rw [At]
    refine .inr (.inr (.inr (.inr (.inr (.inr (.inr (.inr (.inl ⟨k, rfl, ?_, at_congr d k _ h.2 fun i a b => ?_⟩))))))))
    · rw [upd_same, e3]
      simp [forkP, setB]
      omega
    · rw [upd_other _ _ (by omega)]
theorem leaf_more {d n : Nat} {t : Data} {P : Nat → Pl} {x : Pl} (h : At (upd P n x) (d + 1) t n) : More (d + 1) t n P (upd P n x) := ⟨fun i hi => upd_lt hi, h⟩

set_option maxHeartbeats 4000000 in
set_option maxRecDepth 100000 in
theorem iPutPatternC {p B : Nat} (hp : p < B) (hOr : ∀ (d : Nat) (ks : List Data), 2 ≤ ks.length → (∀ t ∈ ks, PutC p B d t) → ∀ (w : World) (n : Nat) (P : Nat → Pl) (S : Nat → Prop) (u : Value) (xs : List Value), PC B p n P w → B ≤ w.heap.size → w.ownsRow 0 50 1 u ks.length xs → (∀ g, u.ownBlock = some g → S g) → PatsIs w ks S xs → (∀ k, S k → k < B ∧ k ≠ p) → n + nls ks + 2 * (ks.length - 1) ≤ 100000 →
      Calls Tryz.prog 59 #[.pointer (some ⟨p, 0, none⟩), u] w fun e w' => e = .returned (.tuple #[]) ∧ (∃ P', PC B p (n + nls ks + 2 * (ks.length - 1)) P' w' ∧ MoreOr d ks n P P') ∧ Ch p B w w') :
    ∀ (d : Nat) (t : Data), RightD d t → PutC p B d t := by
  intro d
  induction d with
  | zero => intro t h; exact h.elim
  | succ d ih =>
    intro t hR w n P S v hPC hB hv hS hn
    have hPL := hPC.pl
    rw [RightD] at hR
    rcases hR with ⟨b', hb', rfl⟩ | ⟨op, ho, rfl⟩ | ⟨M, no, hM, rfl⟩ | ⟨op, k, ho, rfl, hk⟩ | ⟨op, ks, ho, rfl, hl, hk⟩
    · have hnl : nl (chr b') = 1 := by unfold chr; rw [nl_nd]; simp
      rw [hnl] at hn ⊢
      have hv' : v = .iface 108 (.int .u8 b') := by
        rcases leaf_of hv (by omega) with h | h | h | h | h | h
        · exact h.2.2.2.2
        all_goals (have := h.1; omega)
      subst hv'
      have h_oneByte := hit_oneByte
      go_enter Tryz.func28, Tryz.ntmps28
      go_wp2_with fail
      refine (iPutC hPC hp hB (by omega) _ _ _ _ _ _).mono ?_
      rintro e w2 ⟨rfl, hP2, hC2⟩
      go_wp2_with fail
      refine bodyPost_end (v := .tuple #[]) ?_ rfl ⟨rfl, ⟨_, hP2, leaf_more (by rw [At]; exact .inl ⟨b', rfl, upd_same _ _ _⟩)⟩, hC2⟩
      simp [results, Tryz.results28]
    · rcases ho with rfl | rfl | rfl | rfl
      · have hnl : nl (leaf 2) = 1 := by unfold leaf; rw [nl_nd]; simp
        rw [hnl] at hn ⊢
        have hv' : v = .iface 109 (.agg #[]) := by
          rcases leaf_of hv (by omega) with h | h | h | h | h | h
          · have := h.1; omega
          · exact h.2.2.2.2
          · have := h.1; omega
          · have := h.1; omega
          · have := h.1; omega
          · have := h.1; omega
        subst hv'
        have m_oneByte := miss_oneByte 109 (by decide)
        have h_anyByte := hit_anyByte
        obtain ⟨o1, ho1⟩ : ∃ o1, o1 = Obj.cells #[] 109 := ⟨_, rfl⟩
        have hPa := hPC.alloc o1
        have hCa := ch_alloc hp hB o1
        subst ho1
        go_enter Tryz.func28, Tryz.ntmps28
        go_wp2_with fail
        refine (iPutC hPa hp (by simp; omega) (by omega) _ _ _ _ _ _).mono ?_
        rintro e w2 ⟨rfl, hP2, hC2⟩
        go_wp2_with fail
        refine bodyPost_end (v := .tuple #[]) ?_ rfl ⟨rfl, ⟨_, hP2, leaf_more (by rw [At]; exact .inr (.inl ⟨rfl, upd_same _ _ _⟩))⟩, hCa.trans hC2⟩
        simp [results, Tryz.results28]
      · have hnl : nl (leaf 4) = 1 := by unfold leaf; rw [nl_nd]; simp
        rw [hnl] at hn ⊢
        have hv' : v = .iface 90 (.agg #[]) := by
          rcases leaf_of hv (by omega) with h | h | h | h | h | h
          · have := h.1; omega
          · have := h.1; omega
          · have := h.1; omega
          · exact h.2.2.2.2
          · have := h.1; omega
          · have := h.1; omega
        subst hv'
        have m_oneByte := miss_oneByte 90 (by decide)
        have m_anyByte := miss_anyByte 90 (by decide)
        have m_byteSet := miss_byteSet 90 (by decide)
        have h_textStart := hit_textStart
        obtain ⟨o1, ho1⟩ : ∃ o1, o1 = Obj.cells #[] 90 := ⟨_, rfl⟩
        have hPa := hPC.alloc o1
        have hCa := ch_alloc hp hB o1
        subst ho1
        go_enter Tryz.func28, Tryz.ntmps28
        go_wp2_with fail
        refine (iPutC hPa hp (by simp; omega) (by omega) _ _ _ _ _ _).mono ?_
        rintro e w2 ⟨rfl, hP2, hC2⟩
        go_wp2_with fail
        refine bodyPost_end (v := .tuple #[]) ?_ rfl ⟨rfl, ⟨_, hP2, leaf_more (by rw [At]; exact .inr (.inr (.inl ⟨rfl, upd_same _ _ _⟩)))⟩, hCa.trans hC2⟩
        simp [results, Tryz.results28]
      · have hnl : nl (leaf 5) = 1 := by unfold leaf; rw [nl_nd]; simp
        rw [hnl] at hn ⊢
        have hv' : v = .iface 92 (.agg #[]) := by
          rcases leaf_of hv (by omega) with h | h | h | h | h | h
          · have := h.1; omega
          · have := h.1; omega
          · have := h.1; omega
          · have := h.1; omega
          · exact h.2.2.2.2
          · have := h.1; omega
        subst hv'
        have m_oneByte := miss_oneByte 92 (by decide)
        have m_anyByte := miss_anyByte 92 (by decide)
        have m_byteSet := miss_byteSet 92 (by decide)
        have m_textStart := miss_textStart 92 (by decide)
        have h_textEnd := hit_textEnd
        obtain ⟨o1, ho1⟩ : ∃ o1, o1 = Obj.cells #[] 92 := ⟨_, rfl⟩
        have hPa := hPC.alloc o1
        have hCa := ch_alloc hp hB o1
        subst ho1
        go_enter Tryz.func28, Tryz.ntmps28
        go_wp2_with fail
        refine (iPutC hPa hp (by simp; omega) (by omega) _ _ _ _ _ _).mono ?_
        rintro e w2 ⟨rfl, hP2, hC2⟩
        go_wp2_with fail
        refine bodyPost_end (v := .tuple #[]) ?_ rfl ⟨rfl, ⟨_, hP2, leaf_more (by rw [At]; exact .inr (.inr (.inr (.inl ⟨rfl, upd_same _ _ _⟩))))⟩, hCa.trans hC2⟩
        simp [results, Tryz.results28]
      · have hnl : nl (leaf 11) = 0 := by unfold leaf; rw [nl_nd]; simp
        rw [hnl] at hn ⊢
        have hv' : v = .iface 104 (.agg #[]) := by
          rcases leaf_of hv (by omega) with h | h | h | h | h | h
          · have := h.1; omega
          · have := h.1; omega
          · have := h.1; omega
          · have := h.1; omega
          · have := h.1; omega
          · exact h.2.2.2.2
        subst hv'
        have m_oneByte := miss_oneByte 104 (by decide)
        have m_anyByte := miss_anyByte 104 (by decide)
        have m_byteSet := miss_byteSet 104 (by decide)
        have m_textStart := miss_textStart 104 (by decide)
        have m_textEnd := miss_textEnd 104 (by decide)
        have m_inRow := miss_inRow 104 (by decide)
        have m_oneOf := miss_oneOf 104 (by decide)
        have m_anyOften := miss_anyOften 104 (by decide)
        have m_onceOften := miss_onceOften 104 (by decide)
        have m_onceMost := miss_onceMost 104 (by decide)
        go_enter Tryz.func28, Tryz.ntmps28
        go_wp2_with fail
        refine bodyPost_end (v := .tuple #[]) ?_ rfl ⟨rfl, ⟨_, hPC, fun i _ => rfl, by rw [At]; exact .inr (.inr (.inr (.inr (.inl rfl))))⟩, Ch.refl _ _ _⟩
        simp [results, Tryz.results28]
    · have hnl : nl (setOf M no) = 1 := by unfold setOf; rw [nl_nd]; simp
      rw [hnl] at hn ⊢
      have hv' : v = .iface 119 (.agg #[.string ⟨(bytesOf M).toArray⟩, .bool no]) := by
        rcases leaf_of hv (by omega) with h | h | h | h | h | h
        · have := h.1; omega
        · have := h.1; omega
        · exact h.2.2
        · have := h.1; omega
        · have := h.1; omega
        · have := h.1; omega
      subst hv'
      have m_oneByte := miss_oneByte 119 (by decide)
      have m_anyByte := miss_anyByte 119 (by decide)
      have h_byteSet := hit_byteSet
      obtain ⟨o1, ho1⟩ : ∃ o1, o1 = Obj.cells #[.string ⟨(bytesOf M).toArray⟩, .bool no] 119 := ⟨_, rfl⟩
      have hPa := hPC.alloc o1
      have hCa := ch_alloc hp hB o1
      subst ho1
      go_enter Tryz.func28, Tryz.ntmps28
      go_wp2_with fail
      refine (iPutC hPa hp (by simp; omega) (by omega) _ _ _ _ _ _).mono ?_
      rintro e w2 ⟨rfl, hP2, hC2⟩
      go_wp2_with fail
      refine bodyPost_end (v := .tuple #[]) ?_ rfl ⟨rfl, ⟨_, hP2, leaf_more (by rw [At]; exact .inr (.inr (.inr (.inr (.inr (.inl ⟨M, no, rfl, upd_same _ _ _⟩)))))) ⟩, hCa.trans hC2⟩
      simp [results, Tryz.results28]
    · obtain ⟨x, hx, hv'⟩ := one_inv hv ho
      obtain ⟨Tx, yx, rfl⟩ := pat_iface hx
      have hqp : w.heap.size ≠ p := by omega
      rcases hv' with ⟨rfl, rfl⟩ | ⟨rfl, rfl⟩ | ⟨rfl, rfl⟩
      · have hnl : nl (Rx.one 8 k) = nl k + 2 := by unfold Rx.one; rw [nl_nd]; simp [nls]
        rw [hnl] at hn ⊢
        clear hv
        have m_oneByte := miss_oneByte 100 (by decide)
        have m_anyByte := miss_anyByte 100 (by decide)
        have m_byteSet := miss_byteSet 100 (by decide)
        have m_textStart := miss_textStart 100 (by decide)
        have m_textEnd := miss_textEnd 100 (by decide)
        have m_inRow := miss_inRow 100 (by decide)
        have m_oneOf := miss_oneOf 100 (by decide)
        have h_anyOften := hit_anyOften
        obtain ⟨o1, ho1⟩ : ∃ o1, o1 = Obj.cells #[.iface Tx yx] 100 := ⟨_, rfl⟩
        have hPa := hPC.alloc o1
        have hCa := ch_alloc hp hB o1
        have hq := hPL.norow o1
        have c1 : (w.alloc o1).cell? ⟨w.heap.size, 0, none⟩ = some (.iface Tx yx) := by rw [cell_of_row _ _ 0 _ _ (0, 0) (by rw [ho1]; exact heap_alloc_last _ _)]; rfl
        have hBa : B ≤ (w.alloc o1).heap.size := by simp; omega
        have hqa : w.heap.size < (w.alloc o1).heap.size := by simp
        subst ho1
        go_enter Tryz.func28, Tryz.ntmps28
        go_wp2_with fail
        refine (iPutForkC hPa hp hBa (by omega)).mono ?_
        rintro e w2 ⟨rfl, hP2, hC2⟩
        have c2 := (World.cell?_of_block (hC2.own _ hqa hqp hq).1).trans c1
        have hz2 := hC2.size
        go_wp2_with fail
        refine (ih k hk w2 (n + 1) _ S _ hP2 (by omega) (pat_ch (hCa.trans hC2) hx hS) hS (by omega)).mono ?_
        rintro e w3 ⟨rfl, ⟨P3, hP3, hM3⟩, hC3⟩
        have hz3 := hC3.size
        go_wp2_with fail
        refine (iPutC hP3 hp (by omega) (by omega) _ _ _ _ _ _).mono ?_
        rintro e w4 ⟨rfl, hP4, hC4⟩
        go_wp2_with fail
        refine (iForkHereC (f := n) hP4 hp (by omega) (by omega)).mono ?_
        rintro e w5 ⟨rfl, hP5, hC5⟩
        go_wp2_with fail
        rw [show n + 1 + nl k + 1 = n + (nl k + 2) by omega] at hP5
        refine bodyPost_end (v := .tuple #[]) ?_ rfl ⟨rfl, ⟨_, hP5, star_more hM3 (by omega)⟩, ((((hCa.trans hC2).trans hC3).trans hC4).trans hC5)⟩
        simp [results, Tryz.results28]
      · have hnl : nl (Rx.one 9 k) = nl k + 1 := by unfold Rx.one; rw [nl_nd]; simp [nls]
        rw [hnl] at hn ⊢
        clear hv
        have m_oneByte := miss_oneByte 102 (by decide)
        have m_anyByte := miss_anyByte 102 (by decide)
        have m_byteSet := miss_byteSet 102 (by decide)
        have m_textStart := miss_textStart 102 (by decide)
        have m_textEnd := miss_textEnd 102 (by decide)
        have m_inRow := miss_inRow 102 (by decide)
        have m_oneOf := miss_oneOf 102 (by decide)
        have m_anyOften := miss_anyOften 102 (by decide)
        have h_onceOften := hit_onceOften
        obtain ⟨o1, ho1⟩ : ∃ o1, o1 = Obj.cells #[.iface Tx yx] 102 := ⟨_, rfl⟩
        have hPa := hPC.alloc o1
        have hCa := ch_alloc hp hB o1
        have hq := hPL.norow o1
        have c1 : (w.alloc o1).cell? ⟨w.heap.size, 0, none⟩ = some (.iface Tx yx) := by rw [cell_of_row _ _ 0 _ _ (0, 0) (by rw [ho1]; exact heap_alloc_last _ _)]; rfl
        have hBa : B ≤ (w.alloc o1).heap.size := by simp; omega
        have hqa : w.heap.size < (w.alloc o1).heap.size := by simp
        subst ho1
        go_enter Tryz.func28, Tryz.ntmps28
        go_wp2_with fail
        refine (iNext hPa.pl).mono ?_
        rintro e w2 ⟨rfl, hw⟩
        have hw := hw.symm
        subst hw
        go_wp2_with fail
        refine (ih k hk _ n _ S _ hPa hBa (pat_ch hCa hx hS) hS (by omega)).mono ?_
        rintro e w3 ⟨rfl, ⟨P3, hP3, hM3⟩, hC3⟩
        have hz3 := hC3.size
        have hnk : ((n + nl k : Nat) : Int) ≤ 100000 := by omega
        go_wp2_with fail
        refine (iNext hP3.pl).mono ?_
        rintro e w4 ⟨rfl, hw⟩
        have hw := hw.symm
        subst hw
        go_wp2_with fail
        refine (iPutC hP3 hp (by omega) (by omega) _ _ _ _ _ _).mono ?_
        rintro e w5 ⟨rfl, hP5, hC5⟩
        go_wp2_with fail
        rw [show n + nl k + 1 = n + (nl k + 1) by omega] at hP5
        refine bodyPost_end (v := .tuple #[]) ?_ rfl ⟨rfl, ⟨_, hP5, plus_more hM3⟩, ((hCa.trans hC3).trans hC5)⟩
        simp [results, Tryz.results28]
      · have hnl : nl (Rx.one 10 k) = nl k + 1 := by unfold Rx.one; rw [nl_nd]; simp [nls]
        rw [hnl] at hn ⊢
        clear hv
        have m_oneByte := miss_oneByte 103 (by decide)
        have m_anyByte := miss_anyByte 103 (by decide)
        have m_byteSet := miss_byteSet 103 (by decide)
        have m_textStart := miss_textStart 103 (by decide)
        have m_textEnd := miss_textEnd 103 (by decide)
        have m_inRow := miss_inRow 103 (by decide)
        have m_oneOf := miss_oneOf 103 (by decide)
        have m_anyOften := miss_anyOften 103 (by decide)
        have m_onceOften := miss_onceOften 103 (by decide)
        have h_onceMost := hit_onceMost
        obtain ⟨o1, ho1⟩ : ∃ o1, o1 = Obj.cells #[.iface Tx yx] 103 := ⟨_, rfl⟩
        have hPa := hPC.alloc o1
        have hCa := ch_alloc hp hB o1
        have hq := hPL.norow o1
        have c1 : (w.alloc o1).cell? ⟨w.heap.size, 0, none⟩ = some (.iface Tx yx) := by rw [cell_of_row _ _ 0 _ _ (0, 0) (by rw [ho1]; exact heap_alloc_last _ _)]; rfl
        have hBa : B ≤ (w.alloc o1).heap.size := by simp; omega
        have hqa : w.heap.size < (w.alloc o1).heap.size := by simp
        subst ho1
        go_enter Tryz.func28, Tryz.ntmps28
        go_wp2_with fail
        refine (iPutForkC hPa hp hBa (by omega)).mono ?_
        rintro e w2 ⟨rfl, hP2, hC2⟩
        have c2 := (World.cell?_of_block (hC2.own _ hqa hqp hq).1).trans c1
        have hz2 := hC2.size
        go_wp2_with fail
        refine (ih k hk w2 (n + 1) _ S _ hP2 (by omega) (pat_ch (hCa.trans hC2) hx hS) hS (by omega)).mono ?_
        rintro e w3 ⟨rfl, ⟨P3, hP3, hM3⟩, hC3⟩
        go_wp2_with fail
        refine (iForkHereC (f := n) hP3 hp (by omega) (by omega)).mono ?_
        rintro e w5 ⟨rfl, hP5, hC5⟩
        go_wp2_with fail
        rw [show n + 1 + nl k = n + (nl k + 1) by omega] at hP5
        refine bodyPost_end (v := .tuple #[]) ?_ rfl ⟨rfl, ⟨_, hP5, may_more hM3 (by omega)⟩, (((hCa.trans hC2).trans hC3).trans hC5)⟩
        simp [results, Tryz.results28]
    · obtain ⟨u, xs, hown, hg, hps, hv'⟩ := row_inv hv ho hl
      rcases hv' with ⟨rfl, rfl⟩ | ⟨rfl, rfl⟩
      · have hnl : nl (nd 6 0 [] false ks) = nls ks := by rw [nl_nd]; simp
        rw [hnl] at hn ⊢
        clear hv
        have m_oneByte := miss_oneByte 94 (by decide)
        have m_anyByte := miss_anyByte 94 (by decide)
        have m_byteSet := miss_byteSet 94 (by decide)
        have m_textStart := miss_textStart 94 (by decide)
        have m_textEnd := miss_textEnd 94 (by decide)
        have h_inRow := hit_inRow
        obtain ⟨ao, cap, rfl⟩ := owns_slice hown
        have hlenI : (ks.length : Int) ≤ 9223372036854775807 := by
          rcases hown.2 with ⟨_, h0⟩ | ⟨g, cap', cur, he, _, _, h1, h2, _⟩
          · omega
          · unfold maxLen at h2; omega
        obtain ⟨g, cap', he, hgl⟩ : ∃ g cap', (Value.slice ao ks.length cap) = .slice (some ⟨g, 0, none⟩) ks.length cap' ∧ g < w.heap.size := by
          rcases hown.2 with ⟨_, h0⟩ | ⟨g, cap', cur, he, _⟩
          · omega
          · exact ⟨g, cap', he, (hown.lt g (by rw [he]; rfl)).2⟩
        simp at he
        obtain ⟨rfl, rfl⟩ := he
        have hgS := hg g rfl
        go_enter Tryz.func28, Tryz.ntmps28
        go_wp2_with fail
        go_loopw [61] (fun iv wr => ∃ i : Nat, iv = .int .i64 i ∧ i ≤ ks.length ∧ (∃ Pi, PC B p (n + nls (ks.take i)) Pi wr ∧ (∀ j, j < n → Pi j = P j) ∧ CatAt (At Pi d) (ks.take i) n) ∧ Ch p B w wr) (fun iv _ => ks.length - (intOf iv).toNat)
        case atStart => exact ⟨0, rfl, Nat.zero_le _, ⟨P, by simpa [nls] using hPC, fun _ _ => rfl, by simp [CatAt]⟩, Ch.refl _ _ _⟩
        case round =>
          obtain ⟨i, rfl, hi, ⟨Pi, hPi, hsame, hcat⟩, hCi⟩ := hrel
          by_cases hil : i < ks.length
          · obtain ⟨x, hx1, hx2⟩ := pats_at hps (List.getElem?_eq_getElem hil)
            obtain ⟨Tx, yx, rfl⟩ := pat_iface hx2
            have c1 : wr.cell? ⟨g, i, none⟩ = some (.iface Tx yx) := by
              rw [World.cell?_of_block (w := w) (hCi.block g (hS g hgS).1 (hS g hgS).2), hown.cellAt i (by omega)]
              exact hx1
            have hz := hCi.size
            have hle : nls (ks.take (i + 1)) ≤ nls ks := by
              have : ∀ (a b : List Data), nls (a ++ b) = nls a + nls b := by
                intro a b
                induction a with
                | nil => simp [nls]
                | cons c a ih => simp [nls, ih]; omega
              have h2 := this (ks.take (i + 1)) (ks.drop (i + 1))
              rw [List.take_append_drop] at h2
              omega
            have hnt := nls_take ks hil
            have hm : ks[i] ∈ ks := List.getElem_mem hil
            have hiI : (i : Int) < ks.length := by omega
            go_wp2_with fail
            refine (ih ks[i] (hk _ hm) wr (n + nls (ks.take i)) _ S _ hPi (by omega) (pat_ch hCi hx2 hS) hS (by omega)).mono ?_
            rintro e w3 ⟨rfl, ⟨P3, hP3, hM3⟩, hC3⟩
            go_wp2_with fail
            go_roundw
            case rel =>
              refine ⟨i + 1, by go_num, hil, ⟨P3, by rw [hnt, ← Nat.add_assoc]; exact hP3, fun j hj => (hM3.1 j (by omega)).trans (hsame j hj), ?_⟩, hCi.trans hC3⟩
              rw [List.take_add_one, List.getElem?_eq_getElem hil, Option.toList_some]
              exact catAt_snoc _ _ _ (cat_congr (fun t o h hp => at_congr d t o h hp) _ _ hcat fun j a b => hM3.1 j b) hM3.2
            case measure => simp [intOf]; omega
          · obtain rfl : i = ks.length := by omega
            rw [List.take_length] at hPi hcat
            go_wp2_with fail
            refine bodyPost_end (v := .tuple #[]) ?_ rfl ⟨rfl, ⟨_, hPi, hsame, by rw [At]; exact .inr (.inr (.inr (.inr (.inr (.inr (.inr (.inr (.inr (.inl ⟨ks, rfl, hcat⟩)))))))))⟩, hCi⟩
            simp [results, Tryz.results28]
      · have hnl : nl (nd 7 0 [] false ks) = nls ks + 2 * (ks.length - 1) := by rw [nl_nd]; simp
        rw [hnl, ← Nat.add_assoc] at hn ⊢
        clear hv
        have m_oneByte := miss_oneByte 98 (by decide)
        have m_anyByte := miss_anyByte 98 (by decide)
        have m_byteSet := miss_byteSet 98 (by decide)
        have m_textStart := miss_textStart 98 (by decide)
        have m_textEnd := miss_textEnd 98 (by decide)
        have m_inRow := miss_inRow 98 (by decide)
        have h_oneOf := hit_oneOf
        have call := hOr d ks hl (fun t ht => ih t (hk t ht)) w n P S u xs hPC hB hown hg hps hS hn
        obtain ⟨ao, cap, rfl⟩ := owns_slice hown
        go_enter Tryz.func28, Tryz.ntmps28
        go_wp2_with fail
        refine call.mono ?_
        rintro e w2 ⟨rfl, ⟨P2, hP2, hM2⟩, hC2⟩
        go_wp2_with fail
        refine bodyPost_end (v := .tuple #[]) ?_ rfl ⟨rfl, ⟨_, hP2, hM2.1, by rw [At]; exact .inr (.inr (.inr (.inr (.inr (.inr (.inr (.inr (.inr (.inr ⟨ks, rfl, hM2.2⟩)))))))))⟩, hC2⟩
        simp [results, Tryz.results28]


end Nf
end Go.Proofs.YtgdnlmaacnnfiaaGreatDoor

