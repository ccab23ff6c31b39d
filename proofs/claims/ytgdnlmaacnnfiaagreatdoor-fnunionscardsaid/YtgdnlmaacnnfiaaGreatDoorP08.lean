/-
  How many Rex a pattern of so many bytes has.
  RexParse of the program, and what it defers.
  The laws' eqRex: two Rex that tell the same.
-/
import Derived.Test.YtgdnlmaacnnfiaaGreatDoorP03
import Derived.Test.YtgdnlmaacnnfiaaGreatDoorP07
import Derived.Defers
import Derived.Recover
namespace Go.Proofs.YtgdnlmaacnnfiaaGreatDoor
namespace Rx

theorem cnts_snoc (ts : List Data) (t : Data) : cnts (ts ++ [t]) = cnts ts + cnt t := by
  induction ts with
  | nil => simp [cnts]
  | cons a ts ih => simp [cnts, ih]; omega

theorem cnt_one (op : Nat) (t : Data) : cnt (one op t) = cnt t + 1 := by unfold one; rw [cnt_nd]; simp [cnts]

section
variable {g : Nat → Nat} {N : Nat}

theorem stars_cnt : ∀ (f : Nat) (t : Data) (i : Nat), cnt (stars g f t i).1 + i ≤ cnt t + (stars g f t i).2 := by
  intro f
  induction f with
  | zero => intro t i; simp [stars]
  | succ f ih =>
    intro t i
    rw [stars]
    have a := fun op => ih (one op t) (i + 1)
    simp only [cnt_one] at a
    split
    · have := a 8; omega
    split
    · have := a 9; omega
    split
    · have := a 10; omega
    · exact Nat.le_refl _

theorem setAt_cnt {i k : Nat} {t : Data} (h : setAt g N i = some (t, k)) : cnt t = 1 := by
  unfold setAt setEnd at h
  split at h
  · simp at h
  · split at h
    · simp at h
    · simp at h
      rw [← h.1]
      unfold setOf
      rw [cnt_nd]; simp [cnts]

theorem atomAt_cnt (hg : ∀ i, N ≤ i → g i = 256) {F : Nat → Option (Data × Nat)} (hF : ∀ i t j, F i = some (t, j) → i ≤ j ∧ cnt t + 2 * i ≤ 2 * j + 1) {i k : Nat} {t : Data} (h : atomAt g N F i = some (t, k)) : cnt t + 1 + 2 * i ≤ 2 * k := by
  have leaf1 : ∀ op, cnt (leaf op) = 1 := fun op => by unfold leaf; rw [cnt_nd]; simp [cnts]
  have chr1 : ∀ b, cnt (chr b) = 1 := fun op => by unfold chr; rw [cnt_nd]; simp [cnts]
  unfold atomAt at h
  split at h
  · simp at h
  split at h
  · unfold shut at h
    split at h
    · simp at h
    · rename_i t' j' h2
      have := hF _ _ _ h2
      split at h
      · simp at h
        obtain ⟨rfl, rfl⟩ := h
        omega
      · simp at h
  split at h
  · simp at h; obtain ⟨rfl, rfl⟩ := h; rw [leaf1]; omega
  split at h
  · simp at h; obtain ⟨rfl, rfl⟩ := h; rw [leaf1]; omega
  split at h
  · simp at h; obtain ⟨rfl, rfl⟩ := h; rw [leaf1]; omega
  split at h
  · have := setAt_cnt h; have := setAt_in hg h; omega
  split at h
  · split at h
    · simp at h
    · simp at h; obtain ⟨rfl, rfl⟩ := h; rw [chr1]; omega
  split at h
  · simp at h
  · simp at h; obtain ⟨rfl, rfl⟩ := h; rw [chr1]; omega

theorem piece_cnt (hg : ∀ i, N ≤ i → g i = 256) {A : Nat → Option (Data × Nat)} (hA : ∀ i t j, A i = some (t, j) → cnt t + 1 + 2 * i ≤ 2 * j) {i j : Nat} {t : Data} (h : pieceAt g N A i = some (t, j)) : cnt t + 1 + 2 * i ≤ 2 * j := by
  unfold pieceAt at h
  split at h
  · simp at h
  · rename_i t' j' h1
    have := hA _ _ _ h1
    have a := stars_cnt (g := g) (N + 1) t' j'
    have b := (stars_in hg (N + 1) t' j').1
    simp at h
    rw [h] at a b
    simp at a b
    omega

theorem partLoop_cnt (hg : ∀ i, N ≤ i → g i = 256) {A : Nat → Option (Data × Nat)} (hA : ∀ i t j, A i = some (t, j) → cnt t + 1 + 2 * i ≤ 2 * j) : ∀ (f i : Nat) (ts us : List Data) (j : Nat), partLoop g N A f i ts = some (us, j) → cnts us + us.length + 2 * i ≤ cnts ts + ts.length + 2 * j := by
  intro f
  induction f with
  | zero => intro i ts us j h; simp [partLoop] at h
  | succ f ih =>
    intro i ts us j h
    rw [partLoop] at h
    split at h
    · simp at h; obtain ⟨rfl, rfl⟩ := h; omega
    split at h
    · simp at h
    · rename_i t j' h1
      have := piece_cnt hg hA h1
      have := ih _ _ _ _ h
      rw [cnts_snoc] at this
      simp at this
      omega

theorem part_cnt (hg : ∀ i, N ≤ i → g i = 256) {A : Nat → Option (Data × Nat)} (hin : ∀ i t j, A i = some (t, j) → i < j ∧ j ≤ N) (hA : ∀ i t j, A i = some (t, j) → cnt t + 1 + 2 * i ≤ 2 * j) {i j : Nat} {t : Data} (h : partAt g N A i = some (t, j)) : cnt t + 2 * i ≤ 2 * j + 1 := by
  have hij := (partAt_in hg hin h).1
  unfold partAt partEnd at h
  split at h
  · simp at h
  · rename_i ts j' h1
    have := partLoop_cnt hg hA _ _ _ _ _ h1
    simp [cnts] at this
    simp at h
    obtain ⟨rfl, rfl⟩ := h
    unfold catOf
    split
    · unfold leaf; rw [cnt_nd]; simp [cnts]; omega
    · simp [cnts] at this; omega
    · rename_i h3 h4
      rw [cnt_nd]
      have : 2 ≤ ts.length := by
        rcases ts with _ | ⟨a, _ | ⟨b, ts⟩⟩
        · exact (h3 rfl).elim
        · exact (h4 a rfl).elim
        · simp
      omega

theorem patLoop_cnt (hg : ∀ i, N ≤ i → g i = 256) {A : Nat → Option (Data × Nat)} (hin : ∀ i t j, A i = some (t, j) → i < j ∧ j ≤ N) (hA : ∀ i t j, A i = some (t, j) → cnt t + 1 + 2 * i ≤ 2 * j) : ∀ (f i : Nat) (ts us : List Data) (j : Nat), patLoop g N A f i ts = some (us, j) → cnts us + us.length + 2 * i ≤ cnts ts + ts.length + 2 * j ∧ ts.length ≤ us.length := by
  intro f
  induction f with
  | zero => intro i ts us j h; simp [patLoop] at h
  | succ f ih =>
    intro i ts us j h
    rw [patLoop] at h
    split at h
    · split at h
      · simp at h
      · rename_i t j' h1
        have := part_cnt hg hin hA h1
        have := ih _ _ _ _ h
        rw [cnts_snoc] at this
        simp at this
        omega
    · simp at h; obtain ⟨rfl, rfl⟩ := h; omega

theorem pat_cnt (hg : ∀ i, N ≤ i → g i = 256) {A : Nat → Option (Data × Nat)} (hin : ∀ i t j, A i = some (t, j) → i < j ∧ j ≤ N) (hA : ∀ i t j, A i = some (t, j) → cnt t + 1 + 2 * i ≤ 2 * j) {i j : Nat} {t : Data} (h : patAt g N A i = some (t, j)) : cnt t + 2 * i ≤ 2 * j + 1 := by
  unfold patAt patEnd at h
  split at h
  · simp at h
  · rename_i t' j' h1
    have := part_cnt hg hin hA h1
    split at h
    · simp at h
    · rename_i us k h2
      have a := patLoop_cnt hg hin hA _ _ _ _ _ h2
      simp [cnts] at a
      simp at h
      obtain ⟨rfl, rfl⟩ := h
      unfold orOf
      split
      · simp [cnts] at a; omega
      · rename_i h3
        rw [cnt_nd]
        have : 2 ≤ us.length := by
          rcases us with _ | ⟨a', _ | ⟨b, us⟩⟩
          · simp at a
          · exact (h3 a' rfl).elim
          · simp
        omega

theorem atomN_cnt (hg : ∀ i, N ≤ i → g i = 256) : ∀ (n i : Nat) (t : Data) (j : Nat), atomN g N n i = some (t, j) → cnt t + 1 + 2 * i ≤ 2 * j := by
  intro n
  induction n with
  | zero => intro i t j h; simp [atomN] at h
  | succ n ih =>
    intro i t j h
    rw [atomN] at h
    exact atomAt_cnt hg (fun _ _ _ h => ⟨(patAt_in hg (atomN_in hg n) h).1, pat_cnt hg (atomN_in hg n) ih h⟩) h

theorem patN_cnt (hg : ∀ i, N ≤ i → g i = 256) {n i j : Nat} {t : Data} (h : patN g N n i = some (t, j)) : cnt t + 2 * i ≤ 2 * j + 1 := pat_cnt hg (atomN_in hg n) (atomN_cnt hg n) h

theorem whole_cnt (hg : ∀ i, N ≤ i → g i = 256) {n : Nat} {t : Data} (h : wholeV g N n = some t) : cnt t ≤ 2 * N + 1 := by
  unfold wholeV at h
  split at h
  · simp at h
  · rename_i t' j h1
    have := patN_cnt hg h1
    split at h
    · simp at h; subst h; omega
    · simp at h

end
end Rx
end Go.Proofs.YtgdnlmaacnnfiaaGreatDoor

namespace Go.Proofs.YtgdnlmaacnnfiaaGreatDoor
open Go.RowKit
namespace Rx

/-- The second result's variable. -/
def Flag (w : World) (q : Nat) (b : Bool) : Prop := w.heap[q]? = some (.cells #[.bool b] 4 (0, 0))
theorem Flag.cell {w : World} {q : Nat} {b : Bool} (h : Flag w q b) : w.cell? ⟨q, 0, none⟩ = some (.bool b) := by
  rw [cell_of_row w q _ _ _ _ h]; rfl
theorem Flag.frozen {w : World} {q : Nat} {b : Bool} (h : Flag w q b) : w.frozen? ⟨q, 0, none⟩ = false := by
  unfold Flag at h
  simp [World.frozen?, h]
theorem Flag.set {w : World} {q : Nat} {b : Bool} (h : Flag w q b) (x : Bool) : Flag (w.setCell ⟨q, 0, none⟩ (.bool x)) q x := by
  unfold Flag at h ⊢
  simp [World.setCell, Array.getElem?_modify, h]
theorem Flag.kept {w w' : World} {q : Nat} {b : Bool} (h : Flag w q b) (hw : w'.heap[q]? = w.heap[q]?) : Flag w' q b := hw.trans h

theorem frozen_of_row {w : World} {q : Nat} {cs : Array Value} {t : TypeId} (h : w.heap[q]? = some (.cells cs t (0, 0))) (k : Nat) : w.frozen? ⟨q, k, none⟩ = false := by simp [World.frozen?, h]

def Zero (w : World) (q : Nat) : Prop := Var w q (.int .i64 0) (.int .i64 0) (.string ⟨#[]⟩) (.bool false) (.slice none 0 0)

/-- What RexParse answers. -/
def parseV (s : ByteArray) : Option Data := if 60 < s.size then none else wholeV (gOf s) s.size 61

def RexOut (r : Option Data) (w : World) (e : Ending) (w' : World) : Prop := match r with
  | none => e = .returned (.tuple #[.agg #[.int .i64 0, .int .i64 0, .string ⟨#[]⟩, .bool false, .slice none 0 0], .bool false]) ∧ Below w.heap.size w w'
  | some t => ∃ a b c d u, e = .returned (.tuple #[.agg #[a, b, c, d, u], .bool true]) ∧ Below w.heap.size w w' ∧ RexIs w' t (Iv w.heap.size w'.heap.size) [a, b, c, d, u]

end Rx
end Go.Proofs.YtgdnlmaacnnfiaaGreatDoor

namespace Go.Proofs.YtgdnlmaacnnfiaaGreatDoor
open Go.RowKit
namespace Rx

theorem rexs_at {w : World} : ∀ {ts : List Data} {S : Nat → Prop} {xs : List Value} {i : Nat} {t : Data}, RexsIs w ts S xs → ts[i]? = some t → ∃ (S1 : Nat → Prop) (a b c d u : Value), xs[i * 5]? = some a ∧ xs[i * 5 + 1]? = some b ∧ xs[i * 5 + 2]? = some c ∧ xs[i * 5 + 3]? = some d ∧ xs[i * 5 + 4]? = some u ∧ RexIs w t S1 [a, b, c, d, u] ∧ ∀ k, S1 k → S k
  | [], S, xs, i, t, h, hi => by simp at hi
  | t' :: ts, S, xs, 0, t, h, hi => by
    simp only [RexsIs] at h
    obtain ⟨S1, S2, c1, c2, rfl, h1, _, h3, _⟩ := h
    simp at hi
    subst hi
    have hl := rex_len h1
    match c1, hl with
    | [a, b, c, d, u], _ => exact ⟨S1, a, b, c, d, u, by simp, by simp, by simp, by simp, by simp, h1, fun k hk => (h3 k hk).1⟩
  | t' :: ts, S, xs, i + 1, t, h, hi => by
    simp only [RexsIs] at h
    obtain ⟨S1, S2, c1, c2, rfl, h1, h2, _, h4⟩ := h
    simp at hi
    have hl := rex_len h1
    obtain ⟨S3, a, b, c, d, u, e1, e2, e3, e4, e5, h5, h6⟩ := rexs_at h2 hi
    have sh : ∀ j, (c1 ++ c2)[(i + 1) * 5 + j]? = c2[i * 5 + j]? := fun j => by
      rw [List.getElem?_append_right (by omega)]
      congr 1
      omega
    exact ⟨S3, a, b, c, d, u, (sh 0).trans e1, (sh 1).trans e2, (sh 2).trans e3, (sh 3).trans e4, (sh 4).trans e5, h5, fun k hk => h4 k (h6 k hk)⟩

theorem row_cells {w : World} {B e n k cap : Nat} {ao : Option Addr} {xs : List Value} (ho : w.ownsRow B e 5 (.slice ao n cap) n xs) (hk : k < n) : ∃ g, ao = some ⟨g, 0, none⟩ ∧ g < w.heap.size ∧ ∀ j x, xs[j]? = some x → w.cell? ⟨g, j, none⟩ = some x := by
  rcases ho.2 with ⟨h, hn⟩ | ⟨g, cap', cur, h, _⟩
  · omega
  · simp only [Value.slice.injEq] at h
    obtain ⟨rfl, _, rfl⟩ := h
    refine ⟨g, rfl, (ho.lt g rfl).2, fun j x hx => ?_⟩
    have := ho.cells (g := g) rfl j x hx
    have hadd : (⟨g, 0, none⟩ : Addr).add j = ⟨g, j, none⟩ := by unfold Addr.add; split <;> simp_all
    rw [← hadd]
    exact this


end Rx
end Go.Proofs.YtgdnlmaacnnfiaaGreatDoor

