/-
  The specification's parser: lists of Kids that are being made.
-/
import Derived.Test.YtcaaanbajmlcjaaGreatDoorRexSpecPc
namespace Go.Proofs.YtcaaanbajmlcjaaGreatDoor
open Go.RowKit
namespace Rx

theorem kids_append {wr w2 w3 : World} {B p : Nat} {ts : List Data} {t : Data} {v v' : Value} {xs cs : List Value} {S : Nat → Prop} {o : Obj} (hown : wr.ownsRow B 52 5 v ts.length xs) (hks : RexsIs wr ts S xs) (hS : ∀ k, S k → B ≤ k ∧ k < wr.heap.size ∧ v.ownBlock ≠ some k)
    (hB : B ≤ wr.heap.size) (hp : p < B) (hg : wr.grownBy w2 (some p)) (hv : RexIs w2 t (Iv wr.heap.size w2.heap.size) cs) (hown3 : w3.ownsRow B 52 5 v' (ts.length + 1) (xs ++ cs))
    (hgr : (w2.alloc o).grownBy w3 v.ownBlock) (hb : v'.ownBlock = v.ownBlock ∨ v'.ownBlock = some (w2.alloc o).heap.size) : Kids w3 B (ts ++ [t]) v' := by
  refine kids_snoc (w := wr) (w1 := w2) hks hS hB hv hg.size (fun k h1 h2 _ => hg.block k h2 (by simp; omega)) (fun k hk => (hown.lt k hk).2) hown3 (Nat.le_trans (by simp) hgr.size) (fun k h1 h2 => ?_) ?_
  · exact (hgr.block k (by simp; omega) (Ne.symm h2)).trans (Below.heap_alloc _ _ _ h1)
  · rcases hb with h | h
    · exact .inl h
    · exact .inr ⟨_, h, by simp⟩

theorem kids_made (w : World) {B : Nat} (hB : B ≤ w.heap.size) : Kids (w.alloc (.cells #[] 52)) B [] (.slice (some ⟨w.heap.size, 0, none⟩) 0 0) :=
  ⟨[], fun _ => False, World.ownsRow_made w #[] 0 hB (by unfold maxLen; omega) rfl, by simp only [RexsIs], fun _ h => h.elim⟩

theorem kids_first {w : World} {B : Nat} {t : Data} {a b c d u : Value} (hB : B ≤ w.heap.size) (hx : RexIs w t (Iv B w.heap.size) [a, b, c, d, u]) : Kids (w.alloc (.cells #[a, b, c, d, u] 52)) B [t] (.slice (some ⟨w.heap.size, 0, none⟩) 1 1) := by
  refine ⟨[a, b, c, d, u], Iv B w.heap.size, World.ownsRow_lit w #[a, b, c, d, u] 1 hB (by unfold maxLen; omega) rfl, rexs_one (rex_frame t _ _ (fun k hk => Below.heap_alloc _ _ _ hk.2) hx) (fun _ h => h), fun k hk => ?_⟩
  have h1 := hk.1
  have h2 := hk.2
  refine ⟨h1, by simp; omega, fun e => ?_⟩
  simp [Value.ownBlock] at e
  omega

theorem kids_kept {w w' : World} {B : Nat} {ts : List Data} {v : Value} (h : Kids w B ts v) (hg : ∀ k, B ≤ k → k < w.heap.size → w'.heap[k]? = w.heap[k]?) (hs : w.heap.size ≤ w'.heap.size) : Kids w' B ts v := by
  obtain ⟨xs, S, ho, hk, hS⟩ := h
  refine ⟨xs, S, owns_same ho fun g hv => hg g (ho.lt g hv).1 (ho.lt g hv).2, rexs_frame (fun k hk => hg k (hS k hk).1 (hS k hk).2.1) hk, fun k hk => ⟨(hS k hk).1, by have := (hS k hk).2.1; omega, (hS k hk).2.2⟩⟩

theorem owns_head {w : World} {B : Nat} {v a b c d u : Value} (h : w.ownsRow B 52 5 v 1 [a, b, c, d, u]) : ∃ g cap, v = .slice (some ⟨g, 0, none⟩) 1 cap ∧ B ≤ g ∧ w.cell? ⟨g, 0, none⟩ = some a ∧ w.cell? ⟨g, 1, none⟩ = some b ∧ w.cell? ⟨g, 2, none⟩ = some c ∧ w.cell? ⟨g, 3, none⟩ = some d ∧ w.cell? ⟨g, 4, none⟩ = some u := by
  rcases h.2 with ⟨_, h0⟩ | ⟨g, cap, cur, rfl, hg, _⟩
  · omega
  · refine ⟨g, cap, rfl, hg, ?_, ?_, ?_, ?_, ?_⟩
    · rw [h.cellAt 0 (by omega)]; rfl
    · rw [h.cellAt 1 (by omega)]; rfl
    · rw [h.cellAt 2 (by omega)]; rfl
    · rw [h.cellAt 3 (by omega)]; rfl
    · rw [h.cellAt 4 (by omega)]; rfl

theorem kids_head {w : World} {B : Nat} {t : Data} {v : Value} (h : Kids w B [t] v) : ∃ g cap a b c d u, v = .slice (some ⟨g, 0, none⟩) 1 cap ∧ B ≤ g ∧ RexIs w t (Iv B w.heap.size) [a, b, c, d, u] ∧ w.cell? ⟨g, 0, none⟩ = some a ∧ w.cell? ⟨g, 1, none⟩ = some b ∧ w.cell? ⟨g, 2, none⟩ = some c ∧ w.cell? ⟨g, 3, none⟩ = some d ∧ w.cell? ⟨g, 4, none⟩ = some u := by
  obtain ⟨xs, S, ho, hk, hS⟩ := h
  simp only [RexsIs] at hk
  obtain ⟨A, B', c1, c2, rfl, h1, h2, h3, h4⟩ := hk
  simp only [List.append_nil, h2] at ho
  have hl := rex_len h1
  obtain ⟨a, b, c, d, u, rfl⟩ : ∃ a b c d u, c1 = [a, b, c, d, u] := by
    match c1, hl with
    | [a, b, c, d, u], _ => exact ⟨a, b, c, d, u, rfl⟩
  obtain ⟨g, cap, hv, hB, hc⟩ := owns_head ho
  exact ⟨g, cap, a, b, c, d, u, hv, hB, rex_mono h1 fun k hk => ⟨(hS k (h3 k hk).1).1, (hS k (h3 k hk).1).2.1⟩, hc⟩

theorem kids_len' {w : World} {B : Nat} {ts : List Data} {v : Value} (h : Kids w B ts v) : ∃ ao cap, v = .slice ao ts.length cap := by
  obtain ⟨xs, S, ho, _⟩ := h
  rcases ho.2 with ⟨rfl, hn⟩ | ⟨g, cap, cur, rfl, _⟩
  · rw [hn]; exact ⟨_, _, rfl⟩
  · exact ⟨_, _, rfl⟩

theorem owns_len' {w : World} {B n : Nat} {v : Value} {xs : List Value} (h : w.ownsRow B 52 5 v n xs) : ∃ ao cap, v = .slice ao n cap := by
  rcases h.2 with ⟨rfl, hn⟩ | ⟨g, cap, cur, rfl, _⟩
  · rw [hn]; exact ⟨_, _, rfl⟩
  · exact ⟨_, _, rfl⟩

/-- A list that was made of what is none. -/
def KBad (p : Nat) (s : ByteArray) (w : World) (v : Value) (W : World) : Prop :=
  ∃ (k : Int) (n : Nat) (xs : List Value), At p s w k true W ∧ W.ownsRow (w.heap.size + 1) 52 5 v n xs ∧ 1 ≤ n ∧ (n = 1 → ∃ a b c d u, xs = [a, b, c, d, u] ∧ Five a b c d u)

/-- How a list comes out. -/
def KEnd (p : Nat) (s : ByteArray) (w : World) (RS : Option (List Data × Nat)) (v : Value) (W : World) : Prop :=
  (∃ (k : Nat) (ts : List Data), RS = some (ts, k) ∧ k ≤ s.size ∧ At p s w k false W ∧ Kids W (w.heap.size + 1) ts v) ∨ (RS = none ∧ KBad p s w v W)

/-- How much is left. -/
def left (p N : Nat) (w : World) : Nat := match w.cell? ⟨p, 2, none⟩ with
  | some (.bool false) => N + 1 - posC p w
  | _ => 0
theorem left_good {p N : Nat} {s : ByteArray} {i : Nat} {w : World} (h : Cs p s i false w) : left p N w = N + 1 - i := by unfold left; rw [h.bad, posC_is h]
theorem left_bad {p N : Nat} {s : ByteArray} {i : Int} {w : World} (h : Cs p s i true w) : left p N w = 0 := by unfold left; rw [h.bad]
theorem left_lt {p N : Nat} {s : ByteArray} {i j : Nat} {w W : World} (h : Cs p s i false w) (h' : Cs p s j false W) (hi : i ≤ N) (hj : i < j) : left p N W < left p N w := by rw [left_good h, left_good h']; omega
theorem left_lt_bad {p N : Nat} {s : ByteArray} {i : Nat} {j : Int} {w W : World} (h : Cs p s i false w) (h' : Cs p s j true W) (hi : i ≤ N) : left p N W < left p N w := by rw [left_good h, left_bad h']; omega

end Rx
end Go.Proofs.YtcaaanbajmlcjaaGreatDoor
