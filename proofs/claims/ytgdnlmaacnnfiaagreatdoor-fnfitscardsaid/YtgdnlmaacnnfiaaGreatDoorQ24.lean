/-
  The program's MatchAt at the places of a pattern: the longest piece is the longest that the pattern fits.
  A Rex in the heap, whatever its numbers are.
  A Rex of any numbers as the program's pattern: it panics, or tells a pattern that is right: setOf, manyOf, onlyOf.
-/
import Derived.Test.YtgdnlmaacnnfiaaGreatDoorQ23
import Derived.Test.YtgdnlmaacnnfiaaGreatDoorQ06
import Derived.Test.YtgdnlmaacnnfiaaGreatDoorQ07
namespace Go.Proofs.YtgdnlmaacnnfiaaGreatDoor
open Go.RowKit
namespace Nf
set_option linter.unusedVariables false
open Rx Clo

/-- A walk that has not begun. -/
def wk0 (lv : Value) (txt : ByteArray) : Array Value := #[lv, .string txt] ++ bools (fun _ => false) 400 ++ #[.slice none 0 0]
theorem wk0_is (ao : Option Addr) (n cap : Nat) (txt : ByteArray) : wk0 (.slice ao n cap) txt = (Tryz.zeroCells77.setIfInBounds 0 (.slice ao n cap)).setIfInBounds 1 (.string txt) := by
  kernel_rfl
theorem wk0_size (lv : Value) (txt : ByteArray) : (wk0 lv txt).size = 403 := by simp [wk0, bools_size]
theorem wk0_held (lv : Value) (txt : ByteArray) {k : Nat} (hk : k < 400) : (wk0 lv txt)[2 + k]? = some (.bool false) := by
  unfold wk0
  rw [Array.getElem?_append_left (by simp [bools_size]; omega), Array.getElem?_append_right (by simp)]
  simp only [List.size_toArray, List.length_cons, List.length_nil]
  rw [show 2 + k - (0 + 1 + 1) = k by omega]
  exact bools_get _ hk
theorem wk0_402 (lv : Value) (txt : ByteArray) : (wk0 lv txt)[402]? = some (.slice none 0 0) := by
  unfold wk0
  rw [Array.getElem?_append_right (by simp [bools_size])]
  simp [bools_size]
theorem wk0_0 (lv : Value) (txt : ByteArray) : (wk0 lv txt)[0]? = some lv := by
  unfold wk0
  rw [Array.getElem?_append_left (by simp; omega), Array.getElem?_append_left (by simp)]
  rfl
theorem wk0_1 (lv : Value) (txt : ByteArray) : (wk0 lv txt)[1]? = some (.string txt) := by
  unfold wk0
  rw [Array.getElem?_append_left (by simp; omega), Array.getElem?_append_left (by simp)]
  rfl

theorem walk_new {g n cap : Nat} {P : Nat → Pl} {txt : ByteArray} (fr : Int) {w : World} (hp : Pr g n P w) : Sw w.heap.size g n cap P txt fr (fun _ => false) [] (w.alloc (.cells (wk0 (.slice (some ⟨g, 0, none⟩) n cap) txt) 77)) ∧ Fq w.heap.size (w.alloc (.cells (wk0 (.slice (some ⟨g, 0, none⟩) n cap) txt) 77)) (w.alloc (.cells (wk0 (.slice (some ⟨g, 0, none⟩) n cap) txt) 77)) := by
  have hrow := heap_alloc_last w (.cells (wk0 (.slice (some ⟨g, 0, none⟩) n cap) txt) 77 (0, 0))
  have hc := fun j => cell_of_row _ _ j _ _ (0, 0) hrow
  have hg := hp.1
  refine ⟨⟨by omega, (hc 0).trans (wk0_0 _ _), (hc 1).trans (wk0_1 _ _), fun k hk => (hc _).trans (wk0_held _ _ hk), ⟨_, (hc 402).trans (wk0_402 _ _), World.ownsRow_nil _ _ _ _, fun k hk => by simp [Value.ownBlock] at hk⟩, fun j => ?_, hp.below ((Below.refl _ _).alloc (Nat.le_refl _) _), fun x hx => by simp, fun x hx => by simp at hx, ?_⟩, ⟨rfl, rfl, rfl, Nat.le_refl _, fun b hb => ⟨rfl, fun hr => ?_⟩⟩⟩
  · exact World.frozen?_alloc_at _ _ _ _ rfl
  · rw [List.length_nil, Nat.zero_add]
    exact open_none 400
  · have := (rowAt4_is ((hc 402).trans (wk0_402 _ _))).1 hr
    simp [Value.ownBlock] at this

set_option maxHeartbeats 2000000 in
set_option maxRecDepth 100000 in
theorem iMatchAt {g M cap : Nat} {P : Nat → Pl} {txt : ByteArray} (hM : M + 1 ≤ 400) (hcap : M + 1 ≤ cap) (hG : ∀ k, k < M → Good M (P k)) (hD : P M = doneP) (ht : txt.size ≤ 1000) (k : Int) (w : World) (hp : Pr g (M + 1) P w)
    (hle : ∀ i p j, Run P (gOf txt) txt.size 0 i p j → p ≤ M) :
    Calls Tryz.prog 13 #[.slice (some ⟨g, 0, none⟩) (M + 1) cap, .string txt, .int .i64 k] w fun r w' => ∃ tt : Int, r = .returned (.int .i64 tt) ∧ ((¬ (0 ≤ k ∧ k ≤ txt.size) ∧ tt = -1) ∨ ∃ i : Nat, k = i ∧ i ≤ txt.size ∧ To P (gOf txt) txt.size i M (txt.size + 1) tt) ∧ Below w.heap.size w w' := by
  have call1 := iNfaOkC hM hcap hG hD w hp
  have htI : (txt.size : Int) ≤ 1000 := by omega
  by_cases hk : 0 ≤ k ∧ k ≤ (txt.size : Int)
  · obtain ⟨i, rfl⟩ : ∃ i : Nat, k = i := ⟨k.toNat, by omega⟩
    have hi : i ≤ txt.size := by omega
    have d1 : decide ((0 : Int) ≤ i) = true := decide_eq_true (by omega)
    have d2 : decide ((i : Int) < (txt.size : Int) + 1) = true := decide_eq_true (by omega)
    have hiI : (i : Int) < (txt.size : Int) + 1 := by omega
    have HM : Hid (M + 1 - 1 = M) := Nat.add_sub_cancel _ _
    have call2 := fun w1 (hb : Below w.heap.size w w1) => iLong (q := w1.heap.size) (g := g) (n := M + 1) (cap := cap) (P := P) (txt := txt) hM (by omega) hcap (fun k hk => by rw [HM.out]; exact hG k (by omega)) (by rw [HM.out]; exact hD) ht i hi (w1.alloc (.cells (wk0 (.slice (some ⟨g, 0, none⟩) (M + 1) cap) txt) 77)) (by have := hb.size; have := hp.1; omega) (fun p j hr => by have := hle i p j hr; omega) (walk_new (i : Int) (hp.below hb)).1 (walk_new (i : Int) (hp.below hb)).2
    rw [HM.out] at call2
    obtain ⟨n1, hn1⟩ : ∃ n1, n1 = M + 1 := ⟨_, rfl⟩
    rw [← hn1] at call1 call2 ⊢
    clear hn1 HM
    go_enter Tryz.func13, Tryz.ntmps13
    go_upto_region 3 with (first | (go_at_call 12; refine call1.mono ?_; rintro r w1 ⟨rfl, hb1⟩) | (go_at_call 20; go_in) | (go_at_call 41; go_in))
    have call3 := call2 w1 hb1
    rw [wk0_is] at call3
    go_wp2_with (first | (go_at_call 34; refine call3.mono ?_; rintro r w2 ⟨tt, rfl, hTo, hF2⟩))
    go_ret
    have hz := hF2.size
    simp at hz
    refine ⟨tt, rfl, .inr ⟨i, rfl, hi, hTo⟩, hb1.trans ⟨hF2.os, hF2.tape, hF2.output, by omega, fun b hb => ?_⟩⟩
    have hs := hb1.size
    rw [(hF2.low b (by omega)).1]
    exact Below.heap_alloc _ _ _ (by omega)
  · by_cases h0 : 0 ≤ k
    · have d1 : decide (0 ≤ k) = true := decide_eq_true h0
      have d2 : decide (k < (txt.size : Int) + 1) = false := decide_eq_false (by omega)
      go_enter Tryz.func13, Tryz.ntmps13
      go_wp2_with (first | (go_at_call 12; refine call1.mono ?_; rintro r w1 ⟨rfl, hb1⟩) | (go_at_call 20; go_in) | (go_at_call 41; go_in))
      go_ret
      exact ⟨-1, rfl, .inl ⟨hk, rfl⟩, hb1⟩
    · have d1 : decide (0 ≤ k) = false := decide_eq_false h0
      go_enter Tryz.func13, Tryz.ntmps13
      go_wp2_with (first | (go_at_call 12; refine call1.mono ?_; rintro r w1 ⟨rfl, hb1⟩) | (go_at_call 20; go_in) | (go_at_call 41; go_in))
      go_ret
      exact ⟨-1, rfl, .inl ⟨hk, rfl⟩, hb1⟩

end Nf
end Go.Proofs.YtgdnlmaacnnfiaaGreatDoor

namespace Go.Proofs.YtgdnlmaacnnfiaaGreatDoor
open Go.RowKit
namespace Rx

/-- A Rex of any numbers. -/
def ndZ (op c : Int) (set : List UInt8) (no : Bool) (kids : List Data) : Data := .slice kids [.lit (.int .i64 op), .lit (.int .i64 c), .lit (.string set), .lit (.bool no)]
theorem ndZ_inj {op c op' c' : Int} {s s' : List UInt8} {n n' : Bool} {k k' : List Data} (h : ndZ op c s n k = ndZ op' c' s' n' k') : op = op' ∧ c = c' ∧ s = s' ∧ n = n' ∧ k = k' := by
  simp only [ndZ, Data.slice.injEq, List.cons.injEq, Data.lit.injEq, Lit.int.injEq, Lit.string.injEq, Lit.bool.injEq, true_and, and_true] at h
  exact ⟨h.2.1, h.2.2.1, h.2.2.2.1, h.2.2.2.2, h.1⟩
theorem nd_Z (op c : Nat) (s : List UInt8) (no : Bool) (ks : List Data) : nd op c s no ks = ndZ op c s no ks := rfl

mutual
def RexZ (w : World) : Data → (Nat → Prop) → List Value → Prop
  | .slice ks lab, S, cs => ∃ (op c : Int) (s : List UInt8) (no : Bool) (v : Value) (xs : List Value), lab = [.lit (.int .i64 op), .lit (.int .i64 c), .lit (.string s), .lit (.bool no)] ∧
      cs = [.int .i64 op, .int .i64 c, .string ⟨s.toArray⟩, .bool no, v] ∧ w.ownsRow 0 26 5 v ks.length xs ∧ (∀ g, v.ownBlock = some g → S g) ∧ RexZs w ks (fun k => S k ∧ v.ownBlock ≠ some k) xs
  | _, _, _ => False
def RexZs (w : World) : List Data → (Nat → Prop) → List Value → Prop
  | [], _, xs => xs = []
  | t :: ts, S, xs => ∃ (S1 S2 : Nat → Prop) (c1 c2 : List Value), xs = c1 ++ c2 ∧ RexZ w t S1 c1 ∧ RexZs w ts S2 c2 ∧ (∀ k, S1 k → S k ∧ ¬ S2 k) ∧ (∀ k, S2 k → S k)
end

theorem rexZ_nd {w : World} {op c : Int} {s : List UInt8} {no : Bool} {ks : List Data} {S : Nat → Prop} {cs : List Value} :
    RexZ w (ndZ op c s no ks) S cs ↔ ∃ (v : Value) (xs : List Value), cs = [.int .i64 op, .int .i64 c, .string ⟨s.toArray⟩, .bool no, v] ∧ w.ownsRow 0 26 5 v ks.length xs ∧
      (∀ g, v.ownBlock = some g → S g) ∧ RexZs w ks (fun k => S k ∧ v.ownBlock ≠ some k) xs := by
  unfold ndZ
  rw [RexZ]
  constructor
  · rintro ⟨op', c', s', no', v, xs, hl, hc, h⟩
    have := ndZ_inj (show ndZ op c s no [] = ndZ op' c' s' no' [] by unfold ndZ; rw [hl])
    obtain ⟨rfl, rfl, rfl, rfl, _⟩ := this
    exact ⟨v, xs, hc, h⟩
  · rintro ⟨v, xs, hc, h⟩
    exact ⟨op, c, s, no, v, xs, rfl, hc, h⟩
theorem rexZ_node {w : World} {t : Data} {S : Nat → Prop} {cs : List Value} (h : RexZ w t S cs) : ∃ op c s no ks, t = ndZ op c s no ks := by
  cases t <;> simp only [RexZ] at h
  obtain ⟨op, c, s, no, v, xs, rfl, _⟩ := h
  exact ⟨op, c, s, no, _, rfl⟩
theorem rexZ_len {w : World} {t : Data} {S : Nat → Prop} {cs : List Value} (h : RexZ w t S cs) : cs.length = 5 := by
  obtain ⟨op, c, s, no, ks, rfl⟩ := rexZ_node h
  rw [rexZ_nd] at h
  obtain ⟨v, xs, rfl, _⟩ := h
  rfl
theorem rexZ_cells {w : World} {t : Data} {S : Nat → Prop} {a b c d u : Value} (h : RexZ w t S [a, b, c, d, u]) : ∃ (op cc : Int) (s : List UInt8) (no : Bool) (ao : Option Addr) (n cap : Nat), a = .int .i64 op ∧ b = .int .i64 cc ∧ c = .string ⟨s.toArray⟩ ∧ d = .bool no ∧ u = .slice ao n cap := by
  obtain ⟨op, c', s, no, ks, rfl⟩ := rexZ_node h
  rw [rexZ_nd] at h
  obtain ⟨v, xs, hc, ho, _⟩ := h
  simp at hc
  obtain ⟨rfl, rfl, rfl, rfl, rfl⟩ := hc
  obtain ⟨ao, cap, rfl⟩ := owns_slice ho
  exact ⟨op, c', s, no, ao, _, cap, rfl, rfl, rfl, rfl, rfl⟩
theorem rexZs_frame_of {w w' : World} : ∀ (ts : List Data) (S : Nat → Prop) (xs : List Value), (∀ t ∈ ts, ∀ (S : Nat → Prop) (cs : List Value), (∀ k, S k → w'.heap[k]? = w.heap[k]?) → RexZ w t S cs → RexZ w' t S cs) →
    (∀ k, S k → w'.heap[k]? = w.heap[k]?) → RexZs w ts S xs → RexZs w' ts S xs
  | [], S, xs, _, _, h => by simpa only [RexZs] using h
  | t :: ts, S, xs, hT, hS, h => by
    simp only [RexZs] at h ⊢
    obtain ⟨S1, S2, c1, c2, hx, h1, h2, h3, h4⟩ := h
    exact ⟨S1, S2, c1, c2, hx, hT t (by simp) S1 c1 (fun k hk => hS k (h3 k hk).1) h1, rexZs_frame_of ts S2 c2 (fun t ht => hT t (by simp [ht])) (fun k hk => hS k (h4 k hk)) h2, h3, h4⟩
theorem rexZ_frame {w w' : World} (t : Data) : ∀ (S : Nat → Prop) (cs : List Value), (∀ k, S k → w'.heap[k]? = w.heap[k]?) → RexZ w t S cs → RexZ w' t S cs := by
  induction t using rex_ind with
  | h ks lab ih =>
    intro S cs hS h
    rw [RexZ] at h ⊢
    obtain ⟨op, c, s, no, v, xs, hl, hc, ho, hg, hk⟩ := h
    exact ⟨op, c, s, no, v, xs, hl, hc, owns_same ho fun g h => hS g (hg g h), hg, rexZs_frame_of ks _ _ ih (fun k hk => hS k hk.1) hk⟩
  | h1 t ht =>
    intro S cs hS h
    obtain ⟨op, c, s, no, ks, rfl⟩ := rexZ_node h
    exact absurd rfl (ht _ _)
theorem rexZs_at {w : World} : ∀ {ts : List Data} {S : Nat → Prop} {xs : List Value} {i : Nat} {t : Data}, RexZs w ts S xs → ts[i]? = some t → ∃ (S1 : Nat → Prop) (a b c d u : Value), xs[i * 5]? = some a ∧ xs[i * 5 + 1]? = some b ∧ xs[i * 5 + 2]? = some c ∧ xs[i * 5 + 3]? = some d ∧ xs[i * 5 + 4]? = some u ∧ RexZ w t S1 [a, b, c, d, u] ∧ ∀ k, S1 k → S k
  | [], S, xs, i, t, h, hi => by simp at hi
  | t' :: ts, S, xs, 0, t, h, hi => by
    simp only [RexZs] at h
    obtain ⟨S1, S2, c1, c2, rfl, h1, _, h3, _⟩ := h
    simp at hi
    subst hi
    have hl := rexZ_len h1
    match c1, hl with
    | [a, b, c, d, u], _ => exact ⟨S1, a, b, c, d, u, by simp, by simp, by simp, by simp, by simp, h1, fun k hk => (h3 k hk).1⟩
  | t' :: ts, S, xs, i + 1, t, h, hi => by
    simp only [RexZs] at h
    obtain ⟨S1, S2, c1, c2, rfl, h1, h2, _, h4⟩ := h
    simp at hi
    have hl := rexZ_len h1
    obtain ⟨S3, a, b, c, d, u, e1, e2, e3, e4, e5, h5, h6⟩ := rexZs_at h2 hi
    have sh : ∀ j, (c1 ++ c2)[(i + 1) * 5 + j]? = c2[i * 5 + j]? := fun j => by
      rw [List.getElem?_append_right (by omega)]
      congr 1
      omega
    exact ⟨S3, a, b, c, d, u, (sh 0).trans e1, (sh 1).trans e2, (sh 2).trans e3, (sh 3).trans e4, (sh 4).trans e5, h5, fun k hk => h4 k (h6 k hk)⟩

theorem rexZs_of : ∀ {w : World} (ts : List Data), (∀ t ∈ ts, ∀ (S : Nat → Prop) (cs : List Value), RexIs w t S cs → RexZ w t S cs) → ∀ (S : Nat → Prop) (xs : List Value), RexsIs w ts S xs → RexZs w ts S xs
  | w, [], _, S, xs, h => by simpa only [RexsIs, RexZs] using h
  | w, t :: ts, hT, S, xs, h => by
    simp only [RexsIs] at h
    simp only [RexZs]
    obtain ⟨S1, S2, c1, c2, hx, h1, h2, h3, h4⟩ := h
    exact ⟨S1, S2, c1, c2, hx, hT t (by simp) S1 c1 h1, rexZs_of ts (fun t ht => hT t (by simp [ht])) S2 c2 h2, h3, h4⟩
theorem rexZ_of {w : World} (t : Data) : ∀ (S : Nat → Prop) (cs : List Value), RexIs w t S cs → RexZ w t S cs := by
  induction t using rex_ind with
  | h ks lab ih =>
    intro S cs h
    rw [RexIs] at h
    rw [RexZ]
    obtain ⟨op, c, s, no, v, xs, hl, hc, ho, hg, hk⟩ := h
    exact ⟨op, c, s, no, v, xs, hl, hc, ho, hg, rexZs_of ks ih _ _ hk⟩
  | h1 t ht =>
    intro S cs h
    obtain ⟨op, c, s, no, ks, rfl⟩ := rex_node h
    exact absurd rfl (ht _ _)

/-- A right tree's numbers are none below 0. -/
theorem rexs_ofZ {w : World} {d : Nat} (ih : ∀ t, RightD d t → ∀ (S : Nat → Prop) (cs : List Value), RexZ w t S cs → RexIs w t S cs) : ∀ (ts : List Data), (∀ t ∈ ts, RightD d t) → ∀ (S : Nat → Prop) (xs : List Value), RexZs w ts S xs → RexsIs w ts S xs
  | [], _, S, xs, h => by simpa only [RexsIs, RexZs] using h
  | t :: ts, hT, S, xs, h => by
    simp only [RexZs] at h
    simp only [RexsIs]
    obtain ⟨S1, S2, c1, c2, hx, h1, h2, h3, h4⟩ := h
    exact ⟨S1, S2, c1, c2, hx, ih t (hT t (by simp)) S1 c1 h1, rexs_ofZ ih ts (fun t ht => hT t (by simp [ht])) S2 c2 h2, h3, h4⟩
theorem rex_ofZ {w : World} : ∀ (d : Nat) (t : Data), RightD d t → ∀ (S : Nat → Prop) (cs : List Value), RexZ w t S cs → RexIs w t S cs := by
  intro d
  induction d with
  | zero => intro t h; exact h.elim
  | succ d ih =>
    intro t hR S cs h
    obtain ⟨op, c, ss, no, ks, ht, hk⟩ : ∃ (op c : Nat) (ss : List UInt8) (no : Bool) (ks : List Data), t = nd op c ss no ks ∧ ∀ k ∈ ks, RightD d k := by
      rw [RightD] at hR
      rcases hR with ⟨b, _, rfl⟩ | ⟨op, _, rfl⟩ | ⟨M, no, _, rfl⟩ | ⟨op, k, _, rfl, hk⟩ | ⟨op, ks, _, rfl, _, hk⟩
      · exact ⟨1, b, [], false, [], rfl, by simp⟩
      · exact ⟨op, 0, [], false, [], rfl, by simp⟩
      · exact ⟨3, 0, bytesOf M, no, [], rfl, by simp⟩
      · exact ⟨op, 0, [], false, [k], rfl, by simpa using hk⟩
      · exact ⟨op, 0, [], false, ks, rfl, hk⟩
    subst ht
    rw [nd_Z, rexZ_nd] at h
    rw [rex_nd]
    obtain ⟨v, xs, hc, ho, hg, hx⟩ := h
    exact ⟨v, xs, hc, ho, hg, rexs_ofZ ih ks hk _ _ hx⟩

end Rx
end Go.Proofs.YtgdnlmaacnnfiaaGreatDoor

namespace Go.Proofs.YtgdnlmaacnnfiaaGreatDoor
open Go.RowKit
namespace Rx

/-- A set that some text tells, or one of two that none tells. -/
def SetZ (s : List UInt8) (no : Bool) : Prop := (∃ M, okSet M no ∧ s = bytesOf M) ∨ s = [] ∨ s = [98, 97]
def labSet (lab : List Data) : Prop := match lab with
  | [_, _, .lit (.string s), .lit (.bool no)] => SetZ s no
  | _ => True
mutual
/-- Every set is such a one. -/
def SetsZ : Data → Prop
  | .slice ks lab => SetsZs ks ∧ labSet lab
  | _ => True
def SetsZs : List Data → Prop
  | [] => True
  | t :: ts => SetsZ t ∧ SetsZs ts
end
theorem setsZs_mem : ∀ {ts : List Data} {t : Data}, SetsZs ts → t ∈ ts → SetsZ t
  | t' :: ts, t, h, hm => by
    simp only [SetsZs] at h
    rcases List.mem_cons.1 hm with rfl | hm
    · exact h.1
    · exact setsZs_mem h.2 hm
theorem setsZ_nd {op c : Int} {s : List UInt8} {no : Bool} {ks : List Data} (h : SetsZ (ndZ op c s no ks)) : SetsZs ks ∧ SetZ s no := by
  unfold ndZ at h
  rw [SetsZ] at h
  exact h

/-- A panic with errNoPattern; what was there stays. -/
def NoPat (ad : Addr) (w : World) (e : Ending) (w' : World) : Prop := e = .panicked [{ v := errV ad, recovered := false }] ∧ Below w.heap.size w w'
def PatRetZ (ad : Addr) (room n : Nat) (w : World) (e : Ending) (w' : World) : Prop :=
  (∃ t v, e = .returned v ∧ RightD room t ∧ cnt t ≤ n ∧ PatIs w' t (Iv w.heap.size w'.heap.size) v ∧ Below w.heap.size w w') ∨ NoPat ad w e w'
def PatOkZ (W : World) (ad : Addr) (room : Nat) (t : Data) : Prop := ∀ (w : World) (S : Nat → Prop) (a b c d u : Value), Below W.heap.size W w → RexZ w t S [a, b, c, d, u] → (∀ k, S k → k < w.heap.size) →
  Calls Tryz.prog 22 #[.agg #[a, b, c, d, u], .int .i64 room] w fun e w' => PatRetZ ad room (cnt t) w e w'
def ErrAt (ad : Addr) (w : World) : Prop := w.cell? ⟨0, 0, none⟩ = some (.iface 183 (.pointer (some ad)))
theorem ErrAt.on {ad : Addr} {W w : World} (h : ErrAt ad W) (hb : Below W.heap.size W w) : ErrAt ad w :=
  (hb.cell (p := ⟨0, 0, none⟩) (World.block_lt_of_cell? W _ h)).trans h

theorem below_drewP {B : Nat} {W w : World} (h : Below B W w) (n : Nat) : Below B W (w.drewN n) := ⟨h.os, h.tape, h.output, h.size, h.block⟩

set_option maxRecDepth 100000 in
theorem iSetNone (ad : Addr) (no : Bool) (w : World) (he : ErrAt ad w) :
    Calls Tryz.prog 53 #[.string ⟨#[]⟩, .bool no] w fun e w' => NoPat ad w e w' := by
  unfold ErrAt at he
  go_enter Tryz.func53, Tryz.ntmps53
  go_wp2_with fail
  exact ⟨rfl, rfl, Below.refl _ _⟩

set_option maxRecDepth 100000 in
theorem iAscBa (w : World) : Calls Tryz.prog 78 #[.string ⟨#[98, 97]⟩] w fun e w' => e = .returned (.bool false) ∧ ∃ n, w' = w.drewN n := by
  go_enter Tryz.func78, Tryz.ntmps78
  go_wp2_with fail
  go_loopw [3] (fun iv wr => iv = .int .i64 1 ∧ wr = w) (fun _ _ => 0)
  case atStart => exact ⟨rfl, rfl⟩
  case round =>
    obtain ⟨rfl, rfl⟩ := hrel
    go_wp2_with fail
    go_quiet (fail)
    go_wp2_with fail
    go_ret
    exact ⟨rfl, _, rfl⟩

set_option maxRecDepth 100000 in
theorem iSetBa (ad : Addr) (no : Bool) (w : World) (he : ErrAt ad w) :
    Calls Tryz.prog 53 #[.string ⟨#[98, 97]⟩, .bool no] w fun e w' => NoPat ad w e w' := by
  unfold ErrAt at he
  go_enter Tryz.func53, Tryz.ntmps53
  go_wp2_with (go_at_call 78; refine (iAscBa _).mono ?_; rintro e w' ⟨rfl, n, rfl⟩)
  exact ⟨rfl, rfl, below_drewP (Below.refl _ _) n⟩

set_option maxHeartbeats 1000000 in
set_option maxRecDepth 100000 in
theorem iManyOfZ {W : World} {ad : Addr} {room : Nat} {ks : List Data} (hroom : room ≤ 1000) (hk : ∀ t ∈ ks, PatOkZ W ad room t) (hn : ks.length ≤ 100000) (h2 : 2 ≤ ks.length) (w : World) (hW : Below W.heap.size W w) (S : Nat → Prop) (u : Value) (xs : List Value) (ho : w.ownsRow 0 26 5 u ks.length xs)
    (hx : RexZs w ks S xs) (hS : ∀ k, S k → k < w.heap.size) :
    Calls Tryz.prog 54 #[u, .int .i64 room] w fun e w' => (∃ ts v, e = .returned v ∧ 2 ≤ ts.length ∧ (∀ t ∈ ts, RightD room t) ∧ cnts ts ≤ cnts ks ∧ Pats w' w.heap.size ts v ∧ Below w.heap.size w w') ∨ NoPat ad w e w' := by
  obtain ⟨ao, cap, rfl⟩ := owns_slice ho
  have hnI : (ks.length : Int) ≤ 100000 := by omega
  have h2I : (2 : Int) ≤ ks.length := by omega
  have hrI : (room : Int) ≤ 1000 := by omega
  have hmk := run_make_row' (P := Tryz.prog) 93 50 .nilIface 16 Tryz.underlying93 Tryz.info50r rfl .i64 .i64 ks.length (by omega) (by omega)
  have hown0 : (w.alloc (.cells (madeCells #[.nilIface] ks.length) 50)).ownsRow w.heap.size 50 1 (.slice (some ⟨w.heap.size, 0, none⟩) ks.length ks.length) ks.length (List.replicate ks.length .nilIface) :=
    ⟨by simp, .inr ⟨w.heap.size, ks.length, madeCells #[.nilIface] ks.length, rfl, Nat.le_refl _, heap_alloc_last _ _, Nat.le_refl _, by unfold maxLen; omega, by rw [size_madeCells]; omega, by rw [toList_madeCells_one, Nat.mul_one]; simp⟩⟩
  go_enter Tryz.func54, Tryz.ntmps54
  go_wp2_with fail
  go_loopw [17] (fun iv wr => ∃ (i : Nat) (ys : List Value) (ts : List Data), iv = .int .i64 i ∧ i ≤ ks.length ∧ ys.length = i ∧ ts.length = i ∧ (∀ t ∈ ts, RightD room t) ∧ cnts ts ≤ cnts (ks.take i) ∧ PatsIs wr ts (Iv (w.heap.size + 1) wr.heap.size) ys ∧ wr.ownsRow w.heap.size 50 1 (.slice (some ⟨w.heap.size, 0, none⟩) ks.length ks.length) ks.length (ys ++ List.replicate (ks.length - i) .nilIface) ∧ Below w.heap.size w wr) (fun iv _ => ks.length - (intOf iv).toNat)
  case atStart => exact ⟨0, [], [], rfl, Nat.zero_le _, rfl, rfl, by simp, by simp [cnts], by simp only [PatsIs], by simpa using hown0, (Below.refl _ w).alloc (Nat.le_refl _) _⟩
  case round =>
    clear hown0 hmk
    obtain ⟨i, ys, ts, rfl, hi, hys, hts, hrt, hct, hps, hrow, hb⟩ := hrel
    have hsz := hb.size
    have hql := (hrow.lt w.heap.size rfl).2
    by_cases hil : i < ks.length
    · have hki : ks[i]? = some ks[i] := List.getElem?_eq_getElem hil
      obtain ⟨T1, a, b, c, d, v, x0, x1, x2, x3, x4, hr1, hs1⟩ := rexZs_at hx hki
      obtain ⟨g, rfl, hg, hc⟩ := row_cells ho hil
      have cc : ∀ j x, xs[j]? = some x → wr.cell? ⟨g, j, none⟩ = some x := fun j x hx => (hb.cell (p := ⟨g, j, none⟩) hg).trans (hc j x hx)
      have p0 := cc _ _ x0
      have p1 := cc _ _ x1
      have p2 := cc _ _ x2
      have p3 := cc _ _ x3
      have p4 := cc _ _ x4
      obtain ⟨op, c', ss, no, a', n', cap', rfl, rfl, rfl, rfl, rfl⟩ := rexZ_cells hr1
      have hWr : Below W.heap.size W wr := hW.trans (hb.mono hW.size)
      have hr2 : RexZ (wr.alloc (.cells #[.int .i64 op, .int .i64 c', .string ⟨ss.toArray⟩, .bool no, .slice a' n' cap'] 26)) ks[i] T1 [.int .i64 op, .int .i64 c', .string ⟨ss.toArray⟩, .bool no, .slice a' n' cap'] :=
        rexZ_frame _ _ _ (fun j hj => (Below.heap_alloc _ _ _ (by have := hS j (hs1 j hj); omega)).trans (hb.block j (hS j (hs1 j hj)))) hr1
      have call := hk ks[i] (List.getElem_mem hil) (wr.alloc (.cells #[.int .i64 op, .int .i64 c', .string ⟨ss.toArray⟩, .bool no, .slice a' n' cap'] 26)) T1 _ _ _ _ _ (hWr.alloc (by have := hW.size; omega) _) hr2 (fun j hj => by have := hS j (hs1 j hj); simp; omega)
      clear x0 x1 x2 x3 x4 hc cc hr1 hs1 hr2
      go_wp2_with fail
      refine call.mono ?_
      rintro e w2 (⟨t2, v2, rfl, hR2, hc2, hv2, hb2⟩ | ⟨rfl, hb2⟩)
      rotate_left
      · exact ⟨rfl, .inr ⟨rfl, hb.trans ((((Below.refl _ wr).alloc (Nat.le_refl _) _).trans (hb2.mono (by simp))).mono hsz)⟩⟩
      obtain ⟨T2, y2, rfl⟩ := pat_iface hv2
      have hsz2 : wr.heap.size + 1 ≤ w2.heap.size := by simpa using hb2.size
      have hrow2 : w2.ownsRow w.heap.size 50 1 (.slice (some ⟨w.heap.size, 0, none⟩) ks.length ks.length) ks.length (ys ++ List.replicate (ks.length - i) .nilIface) := owns_same hrow fun b hb' => by
        cases hb'
        exact (hb2.block _ (by simp; omega)).trans (Below.heap_alloc _ _ _ hql)
      have q0 : w2.cell? ⟨w.heap.size, i, none⟩ = some .nilIface := by
        rw [hrow2.cellAt i (by omega), List.getElem?_append_right (by omega), List.getElem?_replicate, if_pos (by omega)]
      have fz := hrow2.frozenAt i
      go_wp2_with fail
      go_roundw
      case rel =>
        refine ⟨i + 1, ys ++ [.iface T2 y2], ts ++ [t2], by go_num, hil, by simp [hys], by simp [hts], ?_, ?_, ?_, ?_, ?_⟩
        · intro t ht
          rcases List.mem_append.1 ht with h | h
          · exact hrt t h
          · rw [List.mem_singleton.1 h]; exact hR2
        · rw [List.take_add_one, hki, Option.toList_some, cnts_snoc, cnts_snoc]
          omega
        · refine pats_snoc ?_ ?_
          · refine pats_frame (fun k hk => ?_) (fun k hk => ?_) hps
            · have k1 := hk.1
              have k2 := hk.2
              rw [Below.heap_setCell _ _ _ _ (show k ≠ w.heap.size by omega), hb2.block k (by simp; omega), Below.heap_alloc _ _ _ k2]
            · exact ⟨hk.1, by have := hk.2; simp; omega⟩
          · refine pat_frame (fun k hk => ?_) (fun k hk => ?_) _ _ hv2
            · have k1 := hk.1
              simp at k1
              exact Below.heap_setCell _ _ _ _ (show k ≠ w.heap.size by omega)
            · have k1 := hk.1
              simp at k1
              exact ⟨by omega, by simpa using hk.2⟩
        · have := owns_put hrow2 i (.iface T2 y2)
          obtain ⟨m, hm⟩ : ∃ m, ks.length - i = m + 1 := ⟨ks.length - i - 1, by omega⟩
          rw [hm] at this
          rw [show ks.length - (i + 1) = m by omega, ← set_mid, hys]
          exact this
        · exact (hb.trans (((Below.refl _ wr).alloc (Nat.le_refl _) _).trans (hb2.mono (by simp)) |>.mono hsz)).setCell (Nat.le_refl _) _
      case measure => simp [intOf]; omega
    · obtain rfl : i = ks.length := by omega
      go_wp2_with fail
      go_ret
      rw [List.take_length] at hct
      rw [Nat.sub_self, List.replicate_zero, List.append_nil] at hrow
      refine .inl ⟨ts, _, rfl, by omega, hrt, hct, ⟨ys, Iv (w.heap.size + 1) wr.heap.size, by rw [hts]; exact hrow, hps, fun k hk => ⟨by have := hk.1; omega, hk.2, fun e => ?_⟩⟩, hb⟩
      simp [Value.ownBlock] at e
      have := hk.1
      omega


set_option maxRecDepth 100000 in
theorem iManyFew {ad : Addr} {n : Nat} (room : Nat) (u : Value) (w : World) (xs : List Value) (he : ErrAt ad w) (hn : n < 2) (ho : w.ownsRow 0 26 5 u n xs) :
    Calls Tryz.prog 54 #[u, .int .i64 room] w fun e w' => NoPat ad w e w' := by
  obtain ⟨ao, cap, rfl⟩ := owns_slice ho
  have hnI : (n : Int) < 2 := by omega
  unfold ErrAt at he
  clear ho
  go_enter Tryz.func54, Tryz.ntmps54
  go_wp2_with fail
  exact ⟨rfl, rfl, Below.refl _ _⟩
set_option maxRecDepth 100000 in
theorem iOnlyNot {ad : Addr} {n : Nat} (room : Nat) (u : Value) (w : World) (xs : List Value) (he : ErrAt ad w) (hn : n ≠ 1) (ho : w.ownsRow 0 26 5 u n xs) :
    Calls Tryz.prog 55 #[u, .int .i64 room] w fun e w' => NoPat ad w e w' := by
  obtain ⟨ao, cap, rfl⟩ := owns_slice ho
  have hnI : ((n : Int) != 1) = true := by simp; omega
  unfold ErrAt at he
  clear ho
  go_enter Tryz.func55, Tryz.ntmps55
  go_wp2_with fail
  exact ⟨rfl, rfl, Below.refl _ _⟩
set_option maxRecDepth 100000 in
theorem iOnlyOfZ {W : World} {ad : Addr} {room : Nat} {k : Data} (hroom : room ≤ 1000) (hk : PatOkZ W ad room k) (w : World) (hW : Below W.heap.size W w) (S : Nat → Prop) (u : Value) (xs : List Value) (ho : w.ownsRow 0 26 5 u 1 xs)
    (hx : RexZs w [k] S xs) (hS : ∀ k, S k → k < w.heap.size) : Calls Tryz.prog 55 #[u, .int .i64 room] w fun e w' => PatRetZ ad room (cnt k) w e w' := by
  obtain ⟨ao, cap, rfl⟩ := owns_slice ho
  have hrI : (room : Int) ≤ 1000 := by omega
  obtain ⟨T1, a, b, c, d, v, x0, x1, x2, x3, x4, hr1, hs1⟩ := rexZs_at (i := 0) (t := k) hx rfl
  obtain ⟨g, rfl, hg, cc⟩ := row_cells ho (show 0 < 1 by omega)
  have p0 := cc _ _ x0
  have p1 := cc _ _ x1
  have p2 := cc _ _ x2
  have p3 := cc _ _ x3
  have p4 := cc _ _ x4
  simp only [Nat.zero_mul, Nat.zero_add] at p0 p1 p2 p3 p4
  obtain ⟨op, c', ss, no, a', n', cap', rfl, rfl, rfl, rfl, rfl⟩ := rexZ_cells hr1
  have call := hk w T1 _ _ _ _ _ hW hr1 (fun j hj => hS j (hs1 j hj))
  clear x0 x1 x2 x3 x4 cc hr1 hs1
  go_enter Tryz.func55, Tryz.ntmps55
  go_wp2_with fail
  refine call.mono ?_
  rintro e w2 (⟨t2, v2, rfl, hR2, hc2, hv2, hb2⟩ | ⟨rfl, hb2⟩)
  · go_wp2_with fail
    go_ret
    exact .inl ⟨t2, v2, rfl, hR2, hc2, hv2, hb2⟩
  · exact ⟨rfl, .inr ⟨rfl, hb2⟩⟩
end Rx
end Go.Proofs.YtgdnlmaacnnfiaaGreatDoor

