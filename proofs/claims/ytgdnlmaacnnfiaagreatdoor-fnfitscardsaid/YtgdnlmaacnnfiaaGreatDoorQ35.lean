/-
  The draw of a right Rex: l3DrawRight.
  A drawn Rex in a variable of its own, of which one node is turned.
-/
import Derived.Test.YtgdnlmaacnnfiaaGreatDoorQ34
import Derived.Test.YtgdnlmaacnnfiaaGreatDoorQ23
namespace Go.Proofs.YtgdnlmaacnnfiaaGreatDoor
open Go.RowKit Go.Extern
namespace Dr
set_option linter.unusedVariables false

/-- What the specification's RexParse answers. -/
def ParseOk : Prop := ∀ (s : ByteArray) (w : World), Calls Tryz.prog 67 #[.string s] w fun e w' => Rx.RexOut (Rx.parseV s) w e w'
/-- Some right Rex of its own. -/
def RightRet (B p : Nat) (w : World) (e : Ending) (w' : World) : Prop := ∃ t a b c d u, e = .returned (.agg #[a, b, c, d, u]) ∧ Rx.RightD 12 t ∧ Rx.cnt t ≤ 121 ∧ Rx.RexIs w' t (Rx.Iv w.heap.size w'.heap.size) [a, b, c, d, u] ∧ Only p w w' ∧ Cur B p w'

theorem only_set {B p b : Nat} {W w : World} (h : Only p W w) (hC : Cur B p w) (hb : W.heap.size ≤ b) (hp : p < W.heap.size) (j : Nat) (v : Value) : Only p W (w.setCell ⟨b, j, none⟩ v) ∧ Cur B p (w.setCell ⟨b, j, none⟩ v) := by
  have hB := hC.le
  refine ⟨?_, hC.frame (q := b) ((Only.refl b w).setCell j v) (by omega) (by omega)⟩
  have hs := (Below.refl b w).setCell (p := ⟨b, j, none⟩) (Nat.le_refl _) v
  exact ⟨hs.os.trans h.os, hs.tape.trans h.tape, hs.output.trans h.output, Nat.le_trans h.size hs.size, fun k hk hl => (Below.heap_setCell w ⟨b, j, none⟩ v k (show k ≠ b by omega)).trans (h.block k hk hl)⟩
/-- five cells written in a row -/
def set5 (w : World) (q : Nat) (a b c d u : Value) : World := ((((w.setCell ⟨q, 0, none⟩ a).setCell ⟨q, 1, none⟩ b).setCell ⟨q, 2, none⟩ c).setCell ⟨q, 3, none⟩ d).setCell ⟨q, 4, none⟩ u
theorem set5_only {B p q : Nat} {W w : World} (h : Only p W w) (hC : Cur B p w) (hb : W.heap.size ≤ q) (hp : p < W.heap.size) (a b c d u : Value) : Only p W (set5 w q a b c d u) ∧ Cur B p (set5 w q a b c d u) := by
  unfold set5
  obtain ⟨h1, c1⟩ := only_set h hC hb hp 0 a
  obtain ⟨h2, c2⟩ := only_set h1 c1 hb hp 1 b
  obtain ⟨h3, c3⟩ := only_set h2 c2 hb hp 2 c
  obtain ⟨h4, c4⟩ := only_set h3 c3 hb hp 3 d
  exact only_set h4 c4 hb hp 4 u
theorem set5_var {w : World} {q : Nat} {a b c d u a' b' c' d' u' : Value} (h : Rx.Var w q a b c d u) : Rx.Var (set5 w q a' b' c' d' u') q a' b' c' d' u' := ((((h.set0 a').set1 b').set2 c').set3 d').set4 u'
theorem set5_block (w : World) (q k : Nat) (hk : k ≠ q) (a b c d u : Value) : (set5 w q a b c d u).heap[k]? = w.heap[k]? := by
  unfold set5
  rw [Below.heap_setCell _ ⟨q, 4, none⟩ _ _ hk, Below.heap_setCell _ ⟨q, 3, none⟩ _ _ hk, Below.heap_setCell _ ⟨q, 2, none⟩ _ _ hk, Below.heap_setCell _ ⟨q, 1, none⟩ _ _ hk, Below.heap_setCell _ ⟨q, 0, none⟩ _ _ hk]
theorem set5_size (w : World) (q : Nat) (a b c d u : Value) : (set5 w q a b c d u).heap.size = w.heap.size := by simp [set5]

/-- A Rex and a flag come back; where the flag is set the Rex is right. -/
def ParseRet (w : World) (e : Ending) (w' : World) : Prop := ∃ T ok op cc ss no ao n cap, e = .returned (.tuple #[.agg #[.int .i64 op, .int .i64 cc, .string ss, .bool no, .slice ao n cap], .bool ok]) ∧ Below w.heap.size w w' ∧ Rx.RexIs w' T (Rx.Iv w.heap.size w'.heap.size) [.int .i64 op, .int .i64 cc, .string ss, .bool no, .slice ao n cap] ∧ (ok = true → Rx.RightD 12 T ∧ Rx.cnt T ≤ 121)
theorem parse_small {s : ByteArray} {t : Data} (h : Rx.parseV s = some t) : Rx.RightD 12 t ∧ Rx.cnt t ≤ 121 := by
  refine ⟨(Rx.parse_right h).1, ?_⟩
  unfold Rx.parseV at h
  split at h
  · simp at h
  · have := Rx.whole_cnt (fun i h => Rx.gOf_out h) h
    omega
theorem parse_ret {s : ByteArray} {w : World} {e : Ending} {w' : World} (h : Rx.RexOut (Rx.parseV s) w e w') : ParseRet w e w' := by
  rcases hr : Rx.parseV s with _ | t
  · rw [hr] at h
    obtain ⟨rfl, hb⟩ := h
    exact ⟨_, _, _, _, _, _, _, _, _, rfl, hb, Rx.rex_leaf _ _ 0 0 [] false, fun h => by simp at h⟩
  · rw [hr] at h
    obtain ⟨a, b, c, d, u, rfl, hb, hx⟩ := h
    obtain ⟨op, c', ss, no, a', n', cap', rfl, rfl, rfl, rfl, rfl⟩ := Rx.rex_cells hx
    exact ⟨t, true, _, _, _, _, _, _, _, rfl, hb, hx, fun _ => parse_small hr⟩

set_option maxHeartbeats 2000000 in
set_option maxRecDepth 100000 in
theorem drawRight (hP : ParseOk) (B p : Nat) (w : World) (hC : Cur B p w) :
    Calls Tryz.prog 36 #[.pointer (some ⟨p, 0, none⟩)] w fun e w' => RightRet B p w e w' := by
  have hlt := hC.lt
  have hne : w.heap.size ≠ p := by omega
  obtain ⟨W1, hW1⟩ : ∃ W1, W1 = w.alloc (.cells #[.int .i64 0, .int .i64 0, .string ⟨#[]⟩, .bool false, .slice none 0 0] 26) := ⟨_, rfl⟩
  have hV : Rx.Var W1 w.heap.size (.int .i64 0) (.int .i64 0) (.string ⟨#[]⟩) (.bool false) (.slice none 0 0) := by rw [hW1]; exact heap_alloc_last _ _
  have hO1 : Only p w W1 := by rw [hW1]; exact (Only.refl _ _).alloc _
  have hC1 : Cur B p W1 := by rw [hW1]; exact hC.alloc _
  have hz1 : W1.heap.size = w.heap.size + 1 := by rw [hW1]; simp
  go_enter Tryz.func36, Tryz.ntmps36
  go_wp2_with fail
  rw [← hW1]
  clear hW1 hC
  go_loopw [3] (fun i wr => ∃ k : Nat, i = .int .i64 k ∧ k ≤ 6 ∧ Only p W1 wr ∧ Cur B p wr) (fun i _ => 6 - (intOf i).toNat)
  case atStart => exact ⟨0, rfl, by omega, Only.refl _ _, hC1⟩
  case round =>
    obtain ⟨k, rfl, hk, ho, hCr⟩ := hrel
    have hkI : (k : Int) ≤ 6 := by omega
    have hVr := hV.kept (ho.block w.heap.size hne (by omega))
    have hzr := ho.size
    by_cases hk6 : k < 6
    · have hk6I : (k : Int) < 6 := by omega
      go_upto_region 5 with (first | (go_at_call 69; refine (drawText B p _ hCr).mono ?_; rintro e w2 ⟨s, rfl, hs, ho2, hC2⟩) | (go_at_call 68; refine (dent B p s hs _ hC2).mono ?_; rintro e w3 ⟨s3, rfl, hs3, ho3, hC3⟩; have call := (hP s3 w3).mono (fun _ _ h => parse_ret h)) | (go_at_call 67; refine call.mono ?_; rintro e w4 ⟨T, ok, op, cc, ss, no, ao, n, cap, rfl, hb4, hx4, hok⟩))
      have hz2 := ho2.size
      have hz3 := ho3.size
      have hz4 := hb4.size
      obtain ⟨w5, hw5⟩ : ∃ w5, w5 = w4.alloc (.cells #[.int .i64 op, .int .i64 cc, .string ss, .bool no, .slice ao n cap] 26) := ⟨_, rfl⟩
      have hz5 : w5.heap.size = w4.heap.size + 1 := by rw [hw5]; simp
      have hV5 : Rx.Var w5 w4.heap.size (.int .i64 op) (.int .i64 cc) (.string ss) (.bool no) (.slice ao n cap) := by rw [hw5]; exact heap_alloc_last _ _
      have hk5 : ∀ j, j < w4.heap.size → w5.heap[j]? = w4.heap[j]? := fun j hj => by rw [hw5]; exact Below.heap_alloc _ _ _ hj
      have hO5 : Only p W1 w5 := by rw [hw5]; exact (((ho.trans ho2).trans ho3).trans (only_below hb4)).alloc _
      have hC5 : Cur B p w5 := by rw [hw5]; exact (cur_grown hC3 hb4).alloc _
      have hVz : Rx.Var w5 w.heap.size (.int .i64 0) (.int .i64 0) (.string ⟨#[]⟩) (.bool false) (.slice none 0 0) := hV.kept (hO5.block w.heap.size hne (by omega))
      rw [← hw5]
      clear call hP
      cases ok with
      | false =>
        clear hVr hV5 hk5 hVz hok hw5
        go_wp2_with fail
        go_roundw
        case rel => exact ⟨k + 1, by go_num, by omega, hO5, hC5⟩
        case measure => simp [intOf]; omega
      | true =>
        obtain ⟨hT1, hT2⟩ := hok rfl
        obtain ⟨v0, v1, v2, v3, v4⟩ := hV5.cell
        obtain ⟨z0, z1, z2, z3, z4⟩ := hVz.cell
        have y0 := hVz.frozen 0
        have y1 := hVz.frozen 1
        have y2 := hVz.frozen 2
        have y3 := hVz.frozen 3
        have y4 := hVz.frozen 4
        have HR : Hid (RightRet B p w (.returned (.agg #[.int .i64 op, .int .i64 cc, .string ss, .bool no, .slice ao n cap])) (set5 w5 w.heap.size (.int .i64 op) (.int .i64 cc) (.string ss) (.bool no) (.slice ao n cap))) := by
          obtain ⟨h1, h2⟩ := set5_only (hO1.trans hO5) hC5 (Nat.le_refl _) hlt (.int .i64 op) (.int .i64 cc) (.string ss) (.bool no) (.slice ao n cap)
          refine ⟨T, _, _, _, _, _, rfl, hT1, hT2, ?_, h1, h2⟩
          refine Rx.rex_mono (Rx.rex_frame _ _ _ (fun j hj => ?_) hx4) (fun j hj => ⟨by have := hj.1; omega, by have := hj.2; rw [set5_size]; omega⟩)
          have j1 := hj.1
          rw [set5_block _ _ _ (by omega), hk5 j hj.2]
        have hVf := set5_var (a' := .int .i64 op) (b' := .int .i64 cc) (c' := .string ss) (d' := .bool no) (u' := .slice ao n cap) hVz
        obtain ⟨x0, x1, x2, x3, x4⟩ := hVf.cell
        unfold set5 at x0 x1 x2 x3 x4
        clear hVr hV5 hk5 hVz hok hw5 hVf hx4 hT1 hT2
        go_wp2_with fail
        refine bodyPost_ret (v := .agg #[.int .i64 op, .int .i64 cc, .string ss, .bool no, .slice ao n cap]) (by simp [results, Tryz.results36, x0, x1, x2, x3, x4, go_sem]) rfl ?_
        exact HR.out
    · obtain rfl : k = 6 := by omega
      obtain ⟨z0, z1, z2, z3, z4⟩ := hVr.cell
      have y0 := hVr.frozen 0
      have y1 := hVr.frozen 1
      have y2 := hVr.frozen 2
      have y3 := hVr.frozen 3
      have y4 := hVr.frozen 4
      have HR : Hid (RightRet B p w (.returned (.agg #[.int .i64 11, .int .i64 0, .string ⟨#[]⟩, .bool false, .slice none 0 0])) (set5 wr w.heap.size (.int .i64 11) (.int .i64 0) (.string ⟨#[]⟩) (.bool false) (.slice none 0 0))) := by
        obtain ⟨h1, h2⟩ := set5_only (hO1.trans ho) hCr (Nat.le_refl _) hlt (.int .i64 11) (.int .i64 0) (.string ⟨#[]⟩) (.bool false) (.slice none 0 0)
        exact ⟨Rx.leaf 11, _, _, _, _, _, rfl, .inr (.inl ⟨11, .inr (.inr (.inr rfl)), rfl⟩), by decide, Rx.rex_leaf _ _ 11 0 [] false, h1, h2⟩
      have hVf := set5_var (a' := .int .i64 11) (b' := .int .i64 0) (c' := .string ⟨#[]⟩) (d' := .bool false) (u' := .slice none 0 0) hVr
      obtain ⟨x0, x1, x2, x3, x4⟩ := hVf.cell
      unfold set5 at x0 x1 x2 x3 x4
      clear hVf hVr hP
      go_wp2_with fail
      refine bodyPost_ret (v := .agg #[.int .i64 11, .int .i64 0, .string ⟨#[]⟩, .bool false, .slice none 0 0]) (by simp [results, Tryz.results36, x0, x1, x2, x3, x4, go_sem]) rfl ?_
      exact HR.out

end Dr
end Go.Proofs.YtgdnlmaacnnfiaaGreatDoor

namespace Go.Proofs.YtgdnlmaacnnfiaaGreatDoor
open Go.RowKit Go.Extern
namespace Dr
set_option linter.unusedVariables false
open Rx (RexZ RexZs ndZ SetsZ SetsZs SetZ cnt cnts Var)

theorem rexZs_mono_of {w : World} : ∀ (ts : List Data) (S S' : Nat → Prop) (xs : List Value), (∀ k, S k → S' k) → RexZs w ts S xs → RexZs w ts S' xs
  | [], S, S', xs, _, h => by simpa only [RexZs] using h
  | t :: ts, S, S', xs, hS, h => by
    simp only [RexZs] at h ⊢
    obtain ⟨S1, S2, c1, c2, hx, h1, h2, h3, h4⟩ := h
    exact ⟨S1, S2, c1, c2, hx, h1, h2, fun k hk => ⟨hS k (h3 k hk).1, (h3 k hk).2⟩, fun k hk => hS k (h4 k hk)⟩
theorem rexZ_mono {w : World} {t : Data} {S S' : Nat → Prop} {cs : List Value} (hS : ∀ k, S k → S' k) (h : RexZ w t S cs) : RexZ w t S' cs := by
  obtain ⟨op, c, s, no, ks, rfl⟩ := Rx.rexZ_node h
  rw [Rx.rexZ_nd] at h ⊢
  obtain ⟨v, xs, he, ho, hg, hx⟩ := h
  exact ⟨v, xs, he, ho, fun g hg' => hS g (hg g hg'), rexZs_mono_of _ _ _ _ (fun k hk => ⟨hS k hk.1, hk.2⟩) hx⟩
theorem cnts_set : ∀ {ks : List Data} {i : Nat} {t t' : Data}, ks[i]? = some t → cnt t' = cnt t → cnts (ks.set i t') = cnts ks
  | [], i, t, t', h, _ => by simp at h
  | t0 :: ts, 0, t, t', h, e => by
    simp at h
    subst h
    simp [cnts, e]
  | t0 :: ts, i + 1, t, t', h, e => by
    simp at h
    simp [cnts, cnts_set h e]
theorem cnt_z (op c : Int) (s : List UInt8) (no : Bool) (ks : List Data) : cnt (ndZ op c s no ks) = cnts ks + 1 := by simp [ndZ, cnt]

/-- A tree in the variable rb, its rows in blocks from W's end on; the answer's own cells are still nothing. -/
def Core (B p rb N : Nat) (W w : World) (op c : Int) (s : List UInt8) (no : Bool) (ks : List Data) (ao : Option Addr) (cap : Nat) (S : Nat → Prop) : Prop :=
  Var w rb (.int .i64 op) (.int .i64 c) (.string ⟨s.toArray⟩) (.bool no) (.slice ao ks.length cap) ∧ RexZ w (ndZ op c s no ks) S [.int .i64 op, .int .i64 c, .string ⟨s.toArray⟩, .bool no, .slice ao ks.length cap] ∧
  (∀ k, S k → W.heap.size < k ∧ k < w.heap.size ∧ k ≠ rb) ∧ W.heap.size < rb ∧ Var w W.heap.size (.int .i64 0) (.int .i64 0) (.string ⟨#[]⟩) (.bool false) (.slice none 0 0) ∧
  SetsZ (ndZ op c s no ks) ∧ cnt (ndZ op c s no ks) ≤ N ∧ Only p W w ∧ Cur B p w ∧ p < W.heap.size
def Tree (B p rb N : Nat) (W w : World) : Prop := ∃ op c s no ks ao cap S, Core B p rb N W w op c s no ks ao cap S
/-- .. and a place that points at its root or at one of the root's kids -/
def TreeP (B p rb N : Nat) (W w : World) (b o : Nat) : Prop := ∃ op c s no ks ao cap S, Core B p rb N W w op c s no ks ao cap S ∧ ((b = rb ∧ o = 0) ∨ ∃ i, i < ks.length ∧ ao = some ⟨b, 0, none⟩ ∧ o = i * 5)

theorem Core.only {B p rb N : Nat} {W w w' : World} {op c : Int} {s : List UInt8} {no : Bool} {ks : List Data} {ao : Option Addr} {cap : Nat} {S : Nat → Prop} (h : Core B p rb N W w op c s no ks ao cap S) (ho : Only p w w') (hC : Cur B p w') : Core B p rb N W w' op c s no ks ao cap S := by
  obtain ⟨h1, h2, h3, h4, h5, h6, h7, h8, h9, h10⟩ := h
  have hr := h1.lt
  exact ⟨h1.kept (ho.block rb (by omega) hr), Rx.rexZ_frame _ _ _ (fun k hk => ho.block k (by have := h3 k hk; omega) (h3 k hk).2.1) h2, fun k hk => ⟨(h3 k hk).1, Nat.lt_of_lt_of_le (h3 k hk).2.1 ho.size, (h3 k hk).2.2⟩, h4, h5.kept (ho.block _ (by omega) h5.lt), h6, h7, h8.trans ho, hC, h10⟩
theorem Tree.only {B p rb N : Nat} {W w w' : World} (h : Tree B p rb N W w) (ho : Only p w w') (hC : Cur B p w') : Tree B p rb N W w' := by
  obtain ⟨op, c, s, no, ks, ao, cap, S, h⟩ := h
  exact ⟨op, c, s, no, ks, ao, cap, S, h.only ho hC⟩
theorem TreeP.only {B p rb N b o : Nat} {W w w' : World} (h : TreeP B p rb N W w b o) (ho : Only p w w') (hC : Cur B p w') : TreeP B p rb N W w' b o := by
  obtain ⟨op, c, s, no, ks, ao, cap, S, h, hp⟩ := h
  exact ⟨op, c, s, no, ks, ao, cap, S, h.only ho hC, hp⟩
theorem TreeP.tree {B p rb N b o : Nat} {W w : World} (h : TreeP B p rb N W w b o) : Tree B p rb N W w := by
  obtain ⟨op, c, s, no, ks, ao, cap, S, h, _⟩ := h
  exact ⟨op, c, s, no, ks, ao, cap, S, h⟩
theorem TreeP.cur {B p rb N b o : Nat} {W w : World} (h : TreeP B p rb N W w b o) : Cur B p w := by
  obtain ⟨op, c, s, no, ks, ao, cap, S, h, _⟩ := h
  exact h.2.2.2.2.2.2.2.2.1

/-- The root's own cells are written. -/
theorem Core.root {B p rb N : Nat} {W w : World} {op c : Int} {s : List UInt8} {no : Bool} {ks : List Data} {ao : Option Addr} {cap : Nat} {S : Nat → Prop} (h : Core B p rb N W w op c s no ks ao cap S) {j : Nat} {x : Value} {op' c' : Int} {s' : List UInt8} {no' : Bool}
    (hv : Var (w.setCell ⟨rb, j, none⟩ x) rb (.int .i64 op') (.int .i64 c') (.string ⟨s'.toArray⟩) (.bool no') (.slice ao ks.length cap))
    (hx : ∀ w, RexZ w (ndZ op c s no ks) S [.int .i64 op, .int .i64 c, .string ⟨s.toArray⟩, .bool no, .slice ao ks.length cap] → RexZ w (ndZ op' c' s' no' ks) S [.int .i64 op', .int .i64 c', .string ⟨s'.toArray⟩, .bool no', .slice ao ks.length cap])
    (hz : SetZ s' no') : Core B p rb N W (w.setCell ⟨rb, j, none⟩ x) op' c' s' no' ks ao cap S := by
  obtain ⟨h1, h2, h3, h4, h5, h6, h7, h8, h9, h10⟩ := h
  obtain ⟨hO, hC⟩ := only_set h8 h9 (Nat.le_of_lt h4) h10 j x
  have hk : ∀ k, k ≠ rb → (w.setCell ⟨rb, j, none⟩ x).heap[k]? = w.heap[k]? := fun k hk => Below.heap_setCell _ _ _ _ hk
  exact ⟨hv, hx _ (Rx.rexZ_frame _ _ _ (fun k hk' => hk k (h3 k hk').2.2) h2), fun k hk' => ⟨(h3 k hk').1, by simpa using (h3 k hk').2.1, (h3 k hk').2.2⟩, h4, h5.kept (hk _ (by omega)), Rx.setsZ_mk (Rx.setsZ_nd h6).1 hz, by rw [cnt_z] at h7 ⊢; exact h7, hO, hC, h10⟩
/-- A kid's cell is written. -/
theorem Core.kid {B p rb N : Nat} {W w : World} {op c : Int} {s : List UInt8} {no : Bool} {ks : List Data} {g : Nat} {cap : Nat} {S : Nat → Prop} (h : Core B p rb N W w op c s no ks (some ⟨g, 0, none⟩) cap S) {i j : Nat} {x : Value} {t t' : Data} (hj : j < 5)
    (hi : ks[i]? = some t) (hf : ∀ (w : World) (S1 : Nat → Prop) (cs : List Value), RexZ w t S1 cs → RexZ w t' S1 (cs.set j x)) (hz : SetsZ t') (hc : cnt t' = cnt t) :
    Core B p rb N W (w.setCell ⟨g, i * 5 + j, none⟩ x) op c s no (ks.set i t') (some ⟨g, 0, none⟩) cap S := by
  obtain ⟨h1, h2, h3, h4, h5, h6, h7, h8, h9, h10⟩ := h
  have hg : S g := by
    rw [Rx.rexZ_nd] at h2
    obtain ⟨v, xs, he, ho, hg, hx⟩ := h2
    simp at he
    exact hg g (by rw [← he]; rfl)
  have hgg := h3 g hg
  obtain ⟨hO, hC⟩ := only_set h8 h9 (Nat.le_of_lt hgg.1) h10 (i * 5 + j) x
  have hk : ∀ k, k ≠ g → (w.setCell ⟨g, i * 5 + j, none⟩ x).heap[k]? = w.heap[k]? := fun k hk => Below.heap_setCell _ _ _ _ hk
  obtain ⟨hzk, hzs⟩ := Rx.setsZ_nd h6
  have hx := Rx.rexZ_kid hj h2 hi hf
  refine ⟨by rw [List.length_set]; exact h1.kept (hk rb (Ne.symm hgg.2.2)), by rw [List.length_set]; exact hx, fun k hk' => ⟨(h3 k hk').1, by simpa using (h3 k hk').2.1, (h3 k hk').2.2⟩, h4, h5.kept (hk _ (by omega)), Rx.setsZ_mk (Rx.setsZs_set hzk hz) hzs, ?_, hO, hC, h10⟩
  rw [cnt_z] at h7 ⊢
  rw [cnts_set hi hc]
  exact h7

/-- What lies at the place: a node's five cells. -/
theorem TreeP.cells {B p rb N b o : Nat} {W w : World} (h : TreeP B p rb N W w b o) : ∃ op c s no ao n cap, w.cell? ⟨b, o, none⟩ = some (.int .i64 op) ∧ w.cell? ⟨b, o + 1, none⟩ = some (.int .i64 c) ∧ w.cell? ⟨b, o + 2, none⟩ = some (.string s) ∧ w.cell? ⟨b, o + 3, none⟩ = some (.bool no) ∧ w.cell? ⟨b, o + 4, none⟩ = some (.slice ao n cap) ∧ ∀ j, w.frozen? ⟨b, o + j, none⟩ = false := by
  obtain ⟨op, c, s, no, ks, ao, cap, S, ⟨h1, h2, h3, h4, h5, h6, h7, h8, h9, h10⟩, hp⟩ := h
  rcases hp with ⟨rfl, rfl⟩ | ⟨i, hi, rfl, rfl⟩
  · obtain ⟨c0, c1, c2, c3, c4⟩ := h1.cell
    exact ⟨_, _, _, _, _, _, _, c0, c1, c2, c3, c4, fun j => by simpa using h1.frozen j⟩
  · rw [Rx.rexZ_nd] at h2
    obtain ⟨v, xs, he, ho, hg, hx⟩ := h2
    simp at he
    subst he
    have hki : ks[i]? = some ks[i] := List.getElem?_eq_getElem hi
    obtain ⟨S1, a, bb, cc, d, u, x0, x1, x2, x3, x4, hr, _⟩ := Rx.rexZs_at hx hki
    obtain ⟨g, hgg, hgl, hc⟩ := Rx.row_cells ho hi
    simp at hgg
    subst hgg
    obtain ⟨op1, c1, s1, no1, ao1, n1, cap1, rfl, rfl, rfl, rfl, rfl⟩ := Rx.rexZ_cells hr
    exact ⟨_, _, _, _, _, _, _, hc _ _ x0, hc _ _ x1, hc _ _ x2, hc _ _ x3, hc _ _ x4, fun j => ho.frozenAt _⟩

theorem TreeP.kid {B p rb N b o : Nat} {W w : World} (h : TreeP B p rb N W w b o) (P : World → Prop)
    (hroot : ∀ op c s no ks ao cap S, Core B p rb N W w op c s no ks ao cap S → b = rb → o = 0 → P w)
    (hkid : ∀ op c s no ks cap S i op1 c1 s1 no1 ks1, Core B p rb N W w op c s no ks (some ⟨b, 0, none⟩) cap S → ks[i]? = some (ndZ op1 c1 s1 no1 ks1) → SetsZ (ndZ op1 c1 s1 no1 ks1) → o = i * 5 → P w) : P w := by
  obtain ⟨op, c, s, no, ks, ao, cap, S, h, hp⟩ := h
  rcases hp with ⟨rfl, rfl⟩ | ⟨i, hi, rfl, rfl⟩
  · exact hroot _ _ _ _ _ _ _ _ h rfl rfl
  · have hki : ks[i]? = some ks[i] := List.getElem?_eq_getElem hi
    have h2 := h.2.1
    rw [Rx.rexZ_nd] at h2
    obtain ⟨v, xs, he, ho, hg, hx⟩ := h2
    obtain ⟨S1, a, bb, cc, d, u, x0, x1, x2, x3, x4, hr, _⟩ := Rx.rexZs_at hx hki
    obtain ⟨op1, c1, s1, no1, ks1, he1⟩ := Rx.rexZ_node hr
    have hs := Rx.setsZs_mem (Rx.setsZ_nd h.2.2.2.2.2.1).1 (List.getElem_mem hi)
    rw [he1] at hki hs
    exact hkid _ _ _ _ _ _ _ _ _ _ _ _ _ h hki hs rfl

theorem TreeP.op {B p rb N b o : Nat} {W w : World} (h : TreeP B p rb N W w b o) (x : Int) : Tree B p rb N W (w.setCell ⟨b, o, none⟩ (.int .i64 x)) := by
  refine h.kid (fun w => Tree B p rb N W (w.setCell ⟨b, o, none⟩ (.int .i64 x))) ?_ ?_
  · rintro op c s no ks ao cap S hC rfl rfl
    exact ⟨_, _, _, _, _, _, _, _, hC.root (j := 0) (hC.1.set0 _) (fun w h => Rx.rexZ_op h) (Rx.setsZ_nd hC.2.2.2.2.2.1).2⟩
  · rintro op c s no ks cap S i op1 c1 s1 no1 ks1 hC hi hz rfl
    exact ⟨_, _, _, _, _, _, _, _, hC.kid (j := 0) (by omega) hi (fun w S1 cs h => Rx.rexZ_op h) (Rx.setsZ_mk (Rx.setsZ_nd hz).1 (Rx.setsZ_nd hz).2) (by rw [cnt_z, cnt_z])⟩
theorem TreeP.c {B p rb N b o : Nat} {W w : World} (h : TreeP B p rb N W w b o) (x : Int) : Tree B p rb N W (w.setCell ⟨b, o + 1, none⟩ (.int .i64 x)) := by
  refine h.kid (fun w => Tree B p rb N W (w.setCell ⟨b, o + 1, none⟩ (.int .i64 x))) ?_ ?_
  · rintro op c s no ks ao cap S hC rfl rfl
    exact ⟨_, _, _, _, _, _, _, _, hC.root (j := 1) (hC.1.set1 _) (fun w h => Rx.rexZ_c h) (Rx.setsZ_nd hC.2.2.2.2.2.1).2⟩
  · rintro op c s no ks cap S i op1 c1 s1 no1 ks1 hC hi hz rfl
    exact ⟨_, _, _, _, _, _, _, _, hC.kid (j := 1) (by omega) hi (fun w S1 cs h => Rx.rexZ_c h) (Rx.setsZ_mk (Rx.setsZ_nd hz).1 (Rx.setsZ_nd hz).2) (by rw [cnt_z, cnt_z])⟩
theorem TreeP.set {B p rb N b o : Nat} {W w : World} (h : TreeP B p rb N W w b o) (x : List UInt8) (hx : ∀ no, SetZ x no) : Tree B p rb N W (w.setCell ⟨b, o + 2, none⟩ (.string ⟨x.toArray⟩)) := by
  refine h.kid (fun w => Tree B p rb N W (w.setCell ⟨b, o + 2, none⟩ (.string ⟨x.toArray⟩))) ?_ ?_
  · rintro op c s no ks ao cap S hC rfl rfl
    exact ⟨_, _, _, _, _, _, _, _, hC.root (j := 2) (hC.1.set2 _) (fun w h => Rx.rexZ_set h) (hx _)⟩
  · rintro op c s no ks cap S i op1 c1 s1 no1 ks1 hC hi hz rfl
    exact ⟨_, _, _, _, _, _, _, _, hC.kid (j := 2) (by omega) hi (fun w S1 cs h => Rx.rexZ_set h) (Rx.setsZ_mk (Rx.setsZ_nd hz).1 (hx _)) (by rw [cnt_z, cnt_z])⟩
theorem TreeP.no {B p rb N b o : Nat} {W w : World} (h : TreeP B p rb N W w b o) : Tree B p rb N W (w.setCell ⟨b, o + 3, none⟩ (.bool true)) := by
  refine h.kid (fun w => Tree B p rb N W (w.setCell ⟨b, o + 3, none⟩ (.bool true))) ?_ ?_
  · rintro op c s no ks ao cap S hC rfl rfl
    exact ⟨_, _, _, _, _, _, _, _, hC.root (j := 3) (hC.1.set3 _) (fun w h => Rx.rexZ_no h) (Rx.setZ_not (Rx.setsZ_nd hC.2.2.2.2.2.1).2)⟩
  · rintro op c s no ks cap S i op1 c1 s1 no1 ks1 hC hi hz rfl
    exact ⟨_, _, _, _, _, _, _, _, hC.kid (j := 3) (by omega) hi (fun w S1 cs h => Rx.rexZ_no h) (Rx.setsZ_mk (Rx.setsZ_nd hz).1 (Rx.setZ_not (Rx.setsZ_nd hz).2)) (by rw [cnt_z, cnt_z])⟩

end Dr
end Go.Proofs.YtgdnlmaacnnfiaaGreatDoor

