/-
  A drawn Rex in a variable of its own, of which one node is turned.
  A drawn Rex that is put within another one; a row of kids that has grown by one.
-/
import Derived.Test.YtgdnlmaacnnfiaaGreatDoorP41
import Derived.Test.YtgdnlmaacnnfiaaGreatDoorP28
namespace Go.Proofs.YtgdnlmaacnnfiaaGreatDoor
open Go.RowKit Go.Extern
namespace Dr
set_option linter.unusedVariables false
open Rx (RexZ RexZs ndZ SetsZ SetsZs SetZ cnt cnts Var)

theorem rexZs_mono_of {w : World} : ∀ (ts : List Data) (S S' : Nat → Prop) (xs : List Value), (∀ k, S k → S' k) → RexZs w ts S xs → RexZs w ts S' xs
  | [], S, S', xs, _, h => by simpa only [RexZs] using h
  | t :: ts, S, S', xs, hS, h => by
    simp only [RexZs] at h ⊢
    obtain ⟨S1, S2, c1, c2, hx, h1, h2, h3, h4⟩ := h
    exact ⟨S1, S2, c1, c2, hx, h1, h2, fun k hk => ⟨hS k (h3 k hk).1, (h3 k hk).2⟩, fun k hk => hS k (h4 k hk)⟩
theorem rexZ_mono {w : World} {t : Data} {S S' : Nat → Prop} {cs : List Value} (hS : ∀ k, S k → S' k) (h : RexZ w t S cs) : RexZ w t S' cs := by
  obtain ⟨op, c, s, no, ks, rfl⟩ := Rx.rexZ_node h
  rw [Rx.rexZ_nd] at h ⊢
  obtain ⟨v, xs, he, ho, hg, hx⟩ := h
  exact ⟨v, xs, he, ho, fun g hg' => hS g (hg g hg'), rexZs_mono_of _ _ _ _ (fun k hk => ⟨hS k hk.1, hk.2⟩) hx⟩
theorem cnts_set : ∀ {ks : List Data} {i : Nat} {t t' : Data}, ks[i]? = some t → cnt t' = cnt t → cnts (ks.set i t') = cnts ks
  | [], i, t, t', h, _ => by simp at h
  | t0 :: ts, 0, t, t', h, e => by
    simp at h
    subst h
    simp [cnts, e]
  | t0 :: ts, i + 1, t, t', h, e => by
    simp at h
    simp [cnts, cnts_set h e]
theorem cnt_z (op c : Int) (s : List UInt8) (no : Bool) (ks : List Data) : cnt (ndZ op c s no ks) = cnts ks + 1 := by simp [ndZ, cnt]

/-- A tree in the variable rb, its rows in blocks from W's end on; the answer's own cells are still nothing. -/
def Core (B p rb N : Nat) (W w : World) (op c : Int) (s : List UInt8) (no : Bool) (ks : List Data) (ao : Option Addr) (cap : Nat) (S : Nat → Prop) : Prop :=
  Var w rb (.int .i64 op) (.int .i64 c) (.string ⟨s.toArray⟩) (.bool no) (.slice ao ks.length cap) ∧ RexZ w (ndZ op c s no ks) S [.int .i64 op, .int .i64 c, .string ⟨s.toArray⟩, .bool no, .slice ao ks.length cap] ∧
  (∀ k, S k → W.heap.size < k ∧ k < w.heap.size ∧ k ≠ rb) ∧ W.heap.size < rb ∧ Var w W.heap.size (.int .i64 0) (.int .i64 0) (.string ⟨#[]⟩) (.bool false) (.slice none 0 0) ∧
  SetsZ (ndZ op c s no ks) ∧ cnt (ndZ op c s no ks) ≤ N ∧ Only p W w ∧ Cur B p w ∧ p < W.heap.size
def Tree (B p rb N : Nat) (W w : World) : Prop := ∃ op c s no ks ao cap S, Core B p rb N W w op c s no ks ao cap S
/-- .. and a place that points at its root or at one of the root's kids -/
def TreeP (B p rb N : Nat) (W w : World) (b o : Nat) : Prop := ∃ op c s no ks ao cap S, Core B p rb N W w op c s no ks ao cap S ∧ ((b = rb ∧ o = 0) ∨ ∃ i, i < ks.length ∧ ao = some ⟨b, 0, none⟩ ∧ o = i * 5)

theorem Core.only {B p rb N : Nat} {W w w' : World} {op c : Int} {s : List UInt8} {no : Bool} {ks : List Data} {ao : Option Addr} {cap : Nat} {S : Nat → Prop} (h : Core B p rb N W w op c s no ks ao cap S) (ho : Only p w w') (hC : Cur B p w') : Core B p rb N W w' op c s no ks ao cap S := by
  obtain ⟨h1, h2, h3, h4, h5, h6, h7, h8, h9, h10⟩ := h
  have hr := h1.lt
  exact ⟨h1.kept (ho.block rb (by omega) hr), Rx.rexZ_frame _ _ _ (fun k hk => ho.block k (by have := h3 k hk; omega) (h3 k hk).2.1) h2, fun k hk => ⟨(h3 k hk).1, Nat.lt_of_lt_of_le (h3 k hk).2.1 ho.size, (h3 k hk).2.2⟩, h4, h5.kept (ho.block _ (by omega) h5.lt), h6, h7, h8.trans ho, hC, h10⟩
theorem Tree.only {B p rb N : Nat} {W w w' : World} (h : Tree B p rb N W w) (ho : Only p w w') (hC : Cur B p w') : Tree B p rb N W w' := by
  obtain ⟨op, c, s, no, ks, ao, cap, S, h⟩ := h
  exact ⟨op, c, s, no, ks, ao, cap, S, h.only ho hC⟩
theorem TreeP.only {B p rb N b o : Nat} {W w w' : World} (h : TreeP B p rb N W w b o) (ho : Only p w w') (hC : Cur B p w') : TreeP B p rb N W w' b o := by
  obtain ⟨op, c, s, no, ks, ao, cap, S, h, hp⟩ := h
  exact ⟨op, c, s, no, ks, ao, cap, S, h.only ho hC, hp⟩
theorem TreeP.tree {B p rb N b o : Nat} {W w : World} (h : TreeP B p rb N W w b o) : Tree B p rb N W w := by
  obtain ⟨op, c, s, no, ks, ao, cap, S, h, _⟩ := h
  exact ⟨op, c, s, no, ks, ao, cap, S, h⟩
theorem TreeP.cur {B p rb N b o : Nat} {W w : World} (h : TreeP B p rb N W w b o) : Cur B p w := by
  obtain ⟨op, c, s, no, ks, ao, cap, S, h, _⟩ := h
  exact h.2.2.2.2.2.2.2.2.1

/-- The root's own cells are written. -/
theorem Core.root {B p rb N : Nat} {W w : World} {op c : Int} {s : List UInt8} {no : Bool} {ks : List Data} {ao : Option Addr} {cap : Nat} {S : Nat → Prop} (h : Core B p rb N W w op c s no ks ao cap S) {j : Nat} {x : Value} {op' c' : Int} {s' : List UInt8} {no' : Bool}
    (hv : Var (w.setCell ⟨rb, j, none⟩ x) rb (.int .i64 op') (.int .i64 c') (.string ⟨s'.toArray⟩) (.bool no') (.slice ao ks.length cap))
    (hx : ∀ w, RexZ w (ndZ op c s no ks) S [.int .i64 op, .int .i64 c, .string ⟨s.toArray⟩, .bool no, .slice ao ks.length cap] → RexZ w (ndZ op' c' s' no' ks) S [.int .i64 op', .int .i64 c', .string ⟨s'.toArray⟩, .bool no', .slice ao ks.length cap])
    (hz : SetZ s' no') : Core B p rb N W (w.setCell ⟨rb, j, none⟩ x) op' c' s' no' ks ao cap S := by
  obtain ⟨h1, h2, h3, h4, h5, h6, h7, h8, h9, h10⟩ := h
  obtain ⟨hO, hC⟩ := only_set h8 h9 (Nat.le_of_lt h4) h10 j x
  have hk : ∀ k, k ≠ rb → (w.setCell ⟨rb, j, none⟩ x).heap[k]? = w.heap[k]? := fun k hk => Below.heap_setCell _ _ _ _ hk
  exact ⟨hv, hx _ (Rx.rexZ_frame _ _ _ (fun k hk' => hk k (h3 k hk').2.2) h2), fun k hk' => ⟨(h3 k hk').1, by simpa using (h3 k hk').2.1, (h3 k hk').2.2⟩, h4, h5.kept (hk _ (by omega)), Rx.setsZ_mk (Rx.setsZ_nd h6).1 hz, by rw [cnt_z] at h7 ⊢; exact h7, hO, hC, h10⟩
/-- A kid's cell is written. -/
theorem Core.kid {B p rb N : Nat} {W w : World} {op c : Int} {s : List UInt8} {no : Bool} {ks : List Data} {g : Nat} {cap : Nat} {S : Nat → Prop} (h : Core B p rb N W w op c s no ks (some ⟨g, 0, none⟩) cap S) {i j : Nat} {x : Value} {t t' : Data} (hj : j < 5)
    (hi : ks[i]? = some t) (hf : ∀ (w : World) (S1 : Nat → Prop) (cs : List Value), RexZ w t S1 cs → RexZ w t' S1 (cs.set j x)) (hz : SetsZ t') (hc : cnt t' = cnt t) :
    Core B p rb N W (w.setCell ⟨g, i * 5 + j, none⟩ x) op c s no (ks.set i t') (some ⟨g, 0, none⟩) cap S := by
  obtain ⟨h1, h2, h3, h4, h5, h6, h7, h8, h9, h10⟩ := h
  have hg : S g := by
    rw [Rx.rexZ_nd] at h2
    obtain ⟨v, xs, he, ho, hg, hx⟩ := h2
    simp at he
    exact hg g (by rw [← he]; rfl)
  have hgg := h3 g hg
  obtain ⟨hO, hC⟩ := only_set h8 h9 (Nat.le_of_lt hgg.1) h10 (i * 5 + j) x
  have hk : ∀ k, k ≠ g → (w.setCell ⟨g, i * 5 + j, none⟩ x).heap[k]? = w.heap[k]? := fun k hk => Below.heap_setCell _ _ _ _ hk
  obtain ⟨hzk, hzs⟩ := Rx.setsZ_nd h6
  have hx := Rx.rexZ_kid hj h2 hi hf
  refine ⟨by rw [List.length_set]; exact h1.kept (hk rb (Ne.symm hgg.2.2)), by rw [List.length_set]; exact hx, fun k hk' => ⟨(h3 k hk').1, by simpa using (h3 k hk').2.1, (h3 k hk').2.2⟩, h4, h5.kept (hk _ (by omega)), Rx.setsZ_mk (Rx.setsZs_set hzk hz) hzs, ?_, hO, hC, h10⟩
  rw [cnt_z] at h7 ⊢
  rw [cnts_set hi hc]
  exact h7

/-- What lies at the place: a node's five cells. -/
theorem TreeP.cells {B p rb N b o : Nat} {W w : World} (h : TreeP B p rb N W w b o) : ∃ op c s no ao n cap, w.cell? ⟨b, o, none⟩ = some (.int .i64 op) ∧ w.cell? ⟨b, o + 1, none⟩ = some (.int .i64 c) ∧ w.cell? ⟨b, o + 2, none⟩ = some (.string s) ∧ w.cell? ⟨b, o + 3, none⟩ = some (.bool no) ∧ w.cell? ⟨b, o + 4, none⟩ = some (.slice ao n cap) ∧ ∀ j, w.frozen? ⟨b, o + j, none⟩ = false := by
  obtain ⟨op, c, s, no, ks, ao, cap, S, ⟨h1, h2, h3, h4, h5, h6, h7, h8, h9, h10⟩, hp⟩ := h
  rcases hp with ⟨rfl, rfl⟩ | ⟨i, hi, rfl, rfl⟩
  · obtain ⟨c0, c1, c2, c3, c4⟩ := h1.cell
    exact ⟨_, _, _, _, _, _, _, c0, c1, c2, c3, c4, fun j => by simpa using h1.frozen j⟩
  · rw [Rx.rexZ_nd] at h2
    obtain ⟨v, xs, he, ho, hg, hx⟩ := h2
    simp at he
    subst he
    have hki : ks[i]? = some ks[i] := List.getElem?_eq_getElem hi
    obtain ⟨S1, a, bb, cc, d, u, x0, x1, x2, x3, x4, hr, _⟩ := Rx.rexZs_at hx hki
    obtain ⟨g, hgg, hgl, hc⟩ := Rx.row_cells ho hi
    simp at hgg
    subst hgg
    obtain ⟨op1, c1, s1, no1, ao1, n1, cap1, rfl, rfl, rfl, rfl, rfl⟩ := Rx.rexZ_cells hr
    exact ⟨_, _, _, _, _, _, _, hc _ _ x0, hc _ _ x1, hc _ _ x2, hc _ _ x3, hc _ _ x4, fun j => ho.frozenAt _⟩

theorem TreeP.kid {B p rb N b o : Nat} {W w : World} (h : TreeP B p rb N W w b o) (P : World → Prop)
    (hroot : ∀ op c s no ks ao cap S, Core B p rb N W w op c s no ks ao cap S → b = rb → o = 0 → P w)
    (hkid : ∀ op c s no ks cap S i op1 c1 s1 no1 ks1, Core B p rb N W w op c s no ks (some ⟨b, 0, none⟩) cap S → ks[i]? = some (ndZ op1 c1 s1 no1 ks1) → SetsZ (ndZ op1 c1 s1 no1 ks1) → o = i * 5 → P w) : P w := by
  obtain ⟨op, c, s, no, ks, ao, cap, S, h, hp⟩ := h
  rcases hp with ⟨rfl, rfl⟩ | ⟨i, hi, rfl, rfl⟩
  · exact hroot _ _ _ _ _ _ _ _ h rfl rfl
  · have hki : ks[i]? = some ks[i] := List.getElem?_eq_getElem hi
    have h2 := h.2.1
    rw [Rx.rexZ_nd] at h2
    obtain ⟨v, xs, he, ho, hg, hx⟩ := h2
    obtain ⟨S1, a, bb, cc, d, u, x0, x1, x2, x3, x4, hr, _⟩ := Rx.rexZs_at hx hki
    obtain ⟨op1, c1, s1, no1, ks1, he1⟩ := Rx.rexZ_node hr
    have hs := Rx.setsZs_mem (Rx.setsZ_nd h.2.2.2.2.2.1).1 (List.getElem_mem hi)
    rw [he1] at hki hs
    exact hkid _ _ _ _ _ _ _ _ _ _ _ _ _ h hki hs rfl

theorem TreeP.op {B p rb N b o : Nat} {W w : World} (h : TreeP B p rb N W w b o) (x : Int) : Tree B p rb N W (w.setCell ⟨b, o, none⟩ (.int .i64 x)) := by
  refine h.kid (fun w => Tree B p rb N W (w.setCell ⟨b, o, none⟩ (.int .i64 x))) ?_ ?_
  · rintro op c s no ks ao cap S hC rfl rfl
    exact ⟨_, _, _, _, _, _, _, _, hC.root (j := 0) (hC.1.set0 _) (fun w h => Rx.rexZ_op h) (Rx.setsZ_nd hC.2.2.2.2.2.1).2⟩
  · rintro op c s no ks cap S i op1 c1 s1 no1 ks1 hC hi hz rfl
    exact ⟨_, _, _, _, _, _, _, _, hC.kid (j := 0) (by omega) hi (fun w S1 cs h => Rx.rexZ_op h) (Rx.setsZ_mk (Rx.setsZ_nd hz).1 (Rx.setsZ_nd hz).2) (by rw [cnt_z, cnt_z])⟩
theorem TreeP.c {B p rb N b o : Nat} {W w : World} (h : TreeP B p rb N W w b o) (x : Int) : Tree B p rb N W (w.setCell ⟨b, o + 1, none⟩ (.int .i64 x)) := by
  refine h.kid (fun w => Tree B p rb N W (w.setCell ⟨b, o + 1, none⟩ (.int .i64 x))) ?_ ?_
  · rintro op c s no ks ao cap S hC rfl rfl
    exact ⟨_, _, _, _, _, _, _, _, hC.root (j := 1) (hC.1.set1 _) (fun w h => Rx.rexZ_c h) (Rx.setsZ_nd hC.2.2.2.2.2.1).2⟩
  · rintro op c s no ks cap S i op1 c1 s1 no1 ks1 hC hi hz rfl
    exact ⟨_, _, _, _, _, _, _, _, hC.kid (j := 1) (by omega) hi (fun w S1 cs h => Rx.rexZ_c h) (Rx.setsZ_mk (Rx.setsZ_nd hz).1 (Rx.setsZ_nd hz).2) (by rw [cnt_z, cnt_z])⟩
theorem TreeP.set {B p rb N b o : Nat} {W w : World} (h : TreeP B p rb N W w b o) (x : List UInt8) (hx : ∀ no, SetZ x no) : Tree B p rb N W (w.setCell ⟨b, o + 2, none⟩ (.string ⟨x.toArray⟩)) := by
  refine h.kid (fun w => Tree B p rb N W (w.setCell ⟨b, o + 2, none⟩ (.string ⟨x.toArray⟩))) ?_ ?_
  · rintro op c s no ks ao cap S hC rfl rfl
    exact ⟨_, _, _, _, _, _, _, _, hC.root (j := 2) (hC.1.set2 _) (fun w h => Rx.rexZ_set h) (hx _)⟩
  · rintro op c s no ks cap S i op1 c1 s1 no1 ks1 hC hi hz rfl
    exact ⟨_, _, _, _, _, _, _, _, hC.kid (j := 2) (by omega) hi (fun w S1 cs h => Rx.rexZ_set h) (Rx.setsZ_mk (Rx.setsZ_nd hz).1 (hx _)) (by rw [cnt_z, cnt_z])⟩
theorem TreeP.no {B p rb N b o : Nat} {W w : World} (h : TreeP B p rb N W w b o) : Tree B p rb N W (w.setCell ⟨b, o + 3, none⟩ (.bool true)) := by
  refine h.kid (fun w => Tree B p rb N W (w.setCell ⟨b, o + 3, none⟩ (.bool true))) ?_ ?_
  · rintro op c s no ks ao cap S hC rfl rfl
    exact ⟨_, _, _, _, _, _, _, _, hC.root (j := 3) (hC.1.set3 _) (fun w h => Rx.rexZ_no h) (Rx.setZ_not (Rx.setsZ_nd hC.2.2.2.2.2.1).2)⟩
  · rintro op c s no ks cap S i op1 c1 s1 no1 ks1 hC hi hz rfl
    exact ⟨_, _, _, _, _, _, _, _, hC.kid (j := 3) (by omega) hi (fun w S1 cs h => Rx.rexZ_no h) (Rx.setsZ_mk (Rx.setsZ_nd hz).1 (Rx.setZ_not (Rx.setsZ_nd hz).2)) (by rw [cnt_z, cnt_z])⟩

end Dr
end Go.Proofs.YtgdnlmaacnnfiaaGreatDoor

namespace Go.Proofs.YtgdnlmaacnnfiaaGreatDoor
open Go.RowKit Go.Extern
namespace Dr
set_option linter.unusedVariables false
open Rx (RexZ RexZs ndZ SetsZ SetsZs SetZ cnt cnts Var)

theorem setsZ_one {t : Data} (h : SetsZ t) : SetsZs [t] := by simp [SetsZs, h]

/-- r = Rex with op 10 and the kid r -/
theorem Core.wrap {B p rb N : Nat} {W w : World} {op c : Int} {s : List UInt8} {no : Bool} {ks : List Data} {ao : Option Addr} {cap : Nat} {S : Nat → Prop} (h : Core B p rb N W w op c s no ks ao cap S) (o1 : Obj) :
    Tree B p rb (N + 1) W (set5 ((w.alloc o1).alloc (.cells #[.int .i64 op, .int .i64 c, .string ⟨s.toArray⟩, .bool no, .slice ao ks.length cap] 26)) rb (.int .i64 10) (.int .i64 0) (.string ⟨#[]⟩) (.bool false) (.slice (some ⟨w.heap.size + 1, 0, none⟩) 1 1)) := by
  obtain ⟨h1, h2, h3, h4, h5, h6, h7, h8, h9, h10⟩ := h
  have hr := h1.lt
  have hq := h5.lt
  have hz : (w.alloc o1).heap.size = w.heap.size + 1 := by simp
  obtain ⟨w1, hw1⟩ : ∃ w1, w1 = (w.alloc o1).alloc (.cells #[.int .i64 op, .int .i64 c, .string ⟨s.toArray⟩, .bool no, .slice ao ks.length cap] 26) := ⟨_, rfl⟩
  have hz1 : w1.heap.size = w.heap.size + 2 := by rw [hw1]; simp
  have hk : ∀ k, k < w.heap.size → w1.heap[k]? = w.heap[k]? := fun k hk => by rw [hw1, Below.heap_alloc _ _ _ (by rw [hz]; omega), Below.heap_alloc _ _ _ hk]
  have hx := Rx.rexZ_wrap (w := w.alloc o1) 10 (Rx.rexZ_frame _ _ _ (fun k hk => Below.heap_alloc _ _ _ (h3 k hk).2.1) h2) (fun k hk => by have := (h3 k hk).2.1; rw [hz]; omega)
  rw [hz, ← hw1] at hx
  rw [← hw1]
  have hO1 : Only p W w1 := by rw [hw1]; exact (h8.alloc _).alloc _
  have hC1 : Cur B p w1 := by rw [hw1]; exact (h9.alloc _).alloc _
  obtain ⟨hO, hC⟩ := set5_only hO1 hC1 (Nat.le_of_lt h4) h10 (.int .i64 10) (.int .i64 0) (.string ⟨#[]⟩) (.bool false) (.slice (some ⟨w.heap.size + 1, 0, none⟩) 1 1)
  refine ⟨10, 0, [], false, [ndZ op c s no ks], some ⟨w.heap.size + 1, 0, none⟩, 1, (fun k => S k ∨ k = w.heap.size + 1), set5_var (h1.kept (hk rb hr)), Rx.rexZ_frame _ _ _ (fun k hk' => set5_block _ _ _ ?_ _ _ _ _ _) hx, ?_, h4, (h5.kept (hk _ hq)).kept (set5_block _ _ _ (by omega) _ _ _ _ _), Rx.setsZ_mk (setsZ_one h6) (.inr (.inl rfl)), ?_, hO, hC, h10⟩
  · rcases hk' with h | rfl
    · exact (h3 k h).2.2
    · omega
  · intro k hk'
    rw [set5_size, hz1]
    rcases hk' with h | rfl
    · have := h3 k h
      exact ⟨this.1, by omega, this.2.2⟩
    · have := h8.size
      exact ⟨by omega, by omega, by omega⟩
  · rw [cnt_z]
    simp [cnts]
    omega

theorem rexZs_snoc {w : World} {t : Data} {cs : List Value} (ht : RexZ w t (fun _ => False) cs) : ∀ {ks : List Data} {S : Nat → Prop} {xs : List Value}, RexZs w ks S xs → RexZs w (ks ++ [t]) S (xs ++ cs)
  | [], S, xs, h => by
    simp only [RexZs] at h
    subst h
    simp only [List.nil_append, RexZs]
    exact ⟨fun _ => False, fun _ => False, cs, [], by simp, ht, rfl, fun _ h => h.elim, fun _ h => h.elim⟩
  | t0 :: ts, S, xs, h => by
    simp only [RexZs] at h
    obtain ⟨S1, S2, c1, c2, rfl, h1, h2, h3, h4⟩ := h
    simp only [List.cons_append, RexZs]
    exact ⟨S1, S2, c1, c2 ++ cs, by simp, h1, rexZs_snoc ht h2, h3, h4⟩

/-- One kid of a row is another one, in blocks of its own and new ones. -/
theorem rexZs_grow {w w' : World} {x : Value} {nb T : Nat → Prop} {t t' : Data} : ∀ {ks : List Data} {S : Nat → Prop} {xs : List Value} {i : Nat}, RexZs w ks S xs → ks[i]? = some t → (∀ k, nb k → ¬ S k) →
    (∀ k, S k → ¬ T k → w'.heap[k]? = w.heap[k]?) → (∀ (S1 : Nat → Prop) (cs : List Value), RexZ w t S1 cs → cs[4]? = xs[i * 5 + 4]? → (∀ k, S1 k → S k) → (∀ k, T k → S1 k) ∧ RexZ w' t' (fun k => S1 k ∨ nb k) (cs.set 4 x)) →
    RexZs w' (ks.set i t') (fun k => S k ∨ nb k) (xs.set (i * 5 + 4) x)
  | [], S, xs, i, h, hi, hn, hfr, hk => by simp at hi
  | t0 :: ts, S, xs, 0, h, hi, hn, hfr, hk => by
    simp only [RexZs] at h
    obtain ⟨S1, S2, c1, c2, rfl, h1, h2, h3, h4⟩ := h
    simp at hi
    subst hi
    have hl := Rx.rexZ_len h1
    obtain ⟨hT, hx⟩ := hk S1 c1 h1 (by rw [Nat.zero_mul, Nat.zero_add, List.getElem?_append_left (by omega)]) (fun k hk => (h3 k hk).1)
    rw [List.set_cons_zero, RexZs, Nat.zero_mul, Nat.zero_add, List.set_append_left _ _ (by omega)]
    refine ⟨fun k => S1 k ∨ nb k, S2, c1.set 4 x, c2, rfl, hx, Rx.rexZs_frame_of _ _ _ (fun t _ => Rx.rexZ_frame t) (fun k hk => hfr k (h4 k hk) fun ht => (h3 k (hT k ht)).2 hk) h2, ?_, fun k hk => .inl (h4 k hk)⟩
    rintro k (hk | hk)
    · exact ⟨.inl (h3 k hk).1, (h3 k hk).2⟩
    · exact ⟨.inr hk, fun h => hn k hk (h4 k h)⟩
  | t0 :: ts, S, xs, i + 1, h, hi, hn, hfr, hk => by
    simp only [RexZs] at h
    obtain ⟨S1, S2, c1, c2, rfl, h1, h2, h3, h4⟩ := h
    simp at hi
    have hl := Rx.rexZ_len h1
    have hpos : ∀ cs : List Value, cs[4]? = c2[i * 5 + 4]? → cs[4]? = (c1 ++ c2)[(i + 1) * 5 + 4]? := fun cs e => by
      rw [e, List.getElem?_append_right (by omega), show (i + 1) * 5 + 4 - c1.length = i * 5 + 4 by omega]
    obtain ⟨Sk, a, b, c, d, u, x0, x1, x2, x3, x4, hr, hsub⟩ := Rx.rexZs_at h2 hi
    have hT2 : ∀ k, T k → S2 k := fun k ht => hsub k ((hk Sk _ hr (hpos _ (by rw [x4]; rfl)) (fun k hk => h4 k (hsub k hk))).1 k ht)
    have ih := rexZs_grow (w' := w') (x := x) (nb := nb) (T := T) (t' := t') h2 hi (fun k hk h => hn k hk (h4 k h)) (fun k hk ht => hfr k (h4 k hk) ht) (fun S1 cs h1 e hs => hk S1 cs h1 (hpos cs e) (fun k hk => h4 k (hs k hk)))
    rw [List.set_cons_succ, RexZs, List.set_append_right _ _ (by omega), show (i + 1) * 5 + 4 - c1.length = i * 5 + 4 by omega]
    refine ⟨S1, fun k => S2 k ∨ nb k, c1, c2.set (i * 5 + 4) x, rfl, Rx.rexZ_frame _ _ _ (fun k hk => hfr k (h3 k hk).1 fun ht => (h3 k hk).2 (hT2 k ht)) h1, ih, ?_, ?_⟩
    · intro k hk
      refine ⟨.inl (h3 k hk).1, ?_⟩
      rintro (h | h)
      · exact (h3 k hk).2 h
      · exact hn k h (h3 k hk).1
    · rintro k (h | h)
      · exact .inl (h4 k h)
      · exact .inr h

/-- A node whose row of kids has grown by Rex of op 2. -/
theorem rexZ_more {w w4 : World} {op c : Int} {s : List UInt8} {no : Bool} {ks : List Data} {S : Nat → Prop} {v v4 : Value} {xs : List Value}
    (hg : ∀ g, v.ownBlock = some g → S g) (hxs : RexZs w ks (fun k => S k ∧ v.ownBlock ≠ some k) xs) (hS : ∀ k, S k → k < w.heap.size)
    (ho : w4.ownsRow 0 26 5 v4 (ks.length + 1) (xs ++ [.int .i64 2, .int .i64 0, .string ⟨#[]⟩, .bool false, .slice none 0 0]))
    (hfr : ∀ k, k < w.heap.size → v.ownBlock ≠ some k → w4.heap[k]? = w.heap[k]?) (hv : v4.ownBlock = v.ownBlock ∨ ∃ k, v4.ownBlock = some k ∧ w.heap.size ≤ k) :
    RexZ w4 (ndZ op c s no (ks ++ [ndZ 2 0 [] false []])) (fun k => S k ∨ (v4.ownBlock = some k ∧ w.heap.size ≤ k)) [.int .i64 op, .int .i64 c, .string ⟨s.toArray⟩, .bool no, v4] := by
  rw [Rx.rexZ_nd]
  refine ⟨v4, _, rfl, by rw [List.length_append]; exact ho, ?_, ?_⟩
  · intro g hg4
    rcases hv with e | ⟨k, e, hk⟩
    · exact .inl (hg g (by rw [← e]; exact hg4))
    · exact .inr ⟨hg4, by rw [e] at hg4; cases hg4; exact hk⟩
  · have h1 : RexZs w4 ks (fun k => S k ∧ v.ownBlock ≠ some k) xs := Rx.rexZs_frame_of _ _ _ (fun t _ => Rx.rexZ_frame t) (fun k hk => hfr k (hS k hk.1) hk.2) hxs
    refine rexZs_snoc (cs := [.int .i64 2, .int .i64 0, .string ⟨#[]⟩, .bool false, .slice none 0 0]) ?_ (rexZs_mono_of _ _ _ _ ?_ h1)
    · rw [Rx.rexZ_nd]
      exact ⟨_, [], rfl, World.ownsRow_nil _ _ _ _, fun g hg => by simp [Value.ownBlock] at hg, by simp only [RexZs]⟩
    · intro k hk
      refine ⟨.inl hk.1, ?_⟩
      rcases hv with e | ⟨k', e, hk'⟩
      · rw [e]; exact hk.2
      · rw [e]
        intro e2
        cases e2
        have := hS _ hk.1
        omega

end Dr
end Go.Proofs.YtgdnlmaacnnfiaaGreatDoor

