/-
  How many Rex a pattern of so many bytes has.
-/
import Derived.Test.YtkpgdlbcckmpkaaGreatDoorP27
namespace Go.Proofs.YtkpgdlbcckmpkaaGreatDoor
namespace Rx

theorem cnts_snoc (ts : List Data) (t : Data) : cnts (ts ++ [t]) = cnts ts + cnt t := by
  induction ts with
  | nil => simp [cnts]
  | cons a ts ih => simp [cnts, ih]; omega

theorem cnt_one (op : Nat) (t : Data) : cnt (one op t) = cnt t + 1 := by unfold one; rw [cnt_nd]; simp [cnts]

section
variable {g : Nat → Nat} {N : Nat}

theorem stars_cnt : ∀ (f : Nat) (t : Data) (i : Nat), cnt (stars g f t i).1 + i ≤ cnt t + (stars g f t i).2 := by
  intro f
  induction f with
  | zero => intro t i; simp [stars]
  | succ f ih =>
    intro t i
    rw [stars]
    have a := fun op => ih (one op t) (i + 1)
    simp only [cnt_one] at a
    split
    · have := a 8; omega
    split
    · have := a 9; omega
    split
    · have := a 10; omega
    · exact Nat.le_refl _

theorem setAt_cnt {i k : Nat} {t : Data} (h : setAt g N i = some (t, k)) : cnt t = 1 := by
  unfold setAt setEnd at h
  split at h
  · simp at h
  · split at h
    · simp at h
    · simp at h
      rw [← h.1]
      unfold setOf
      rw [cnt_nd]; simp [cnts]

theorem atomAt_cnt (hg : ∀ i, N ≤ i → g i = 256) {F : Nat → Option (Data × Nat)} (hF : ∀ i t j, F i = some (t, j) → i ≤ j ∧ cnt t + 2 * i ≤ 2 * j + 1) {i k : Nat} {t : Data} (h : atomAt g N F i = some (t, k)) : cnt t + 1 + 2 * i ≤ 2 * k := by
  have leaf1 : ∀ op, cnt (leaf op) = 1 := fun op => by unfold leaf; rw [cnt_nd]; simp [cnts]
  have chr1 : ∀ b, cnt (chr b) = 1 := fun op => by unfold chr; rw [cnt_nd]; simp [cnts]
  unfold atomAt at h
  split at h
  · simp at h
  split at h
  · unfold shut at h
    split at h
    · simp at h
    · rename_i t' j' h2
      have := hF _ _ _ h2
      split at h
      · simp at h
        obtain ⟨rfl, rfl⟩ := h
        omega
      · simp at h
  split at h
  · simp at h; obtain ⟨rfl, rfl⟩ := h; rw [leaf1]; omega
  split at h
  · simp at h; obtain ⟨rfl, rfl⟩ := h; rw [leaf1]; omega
  split at h
  · simp at h; obtain ⟨rfl, rfl⟩ := h; rw [leaf1]; omega
  split at h
  · have := setAt_cnt h; have := setAt_in hg h; omega
  split at h
  · split at h
    · simp at h
    · simp at h; obtain ⟨rfl, rfl⟩ := h; rw [chr1]; omega
  split at h
  · simp at h
  · simp at h; obtain ⟨rfl, rfl⟩ := h; rw [chr1]; omega

theorem piece_cnt (hg : ∀ i, N ≤ i → g i = 256) {A : Nat → Option (Data × Nat)} (hA : ∀ i t j, A i = some (t, j) → cnt t + 1 + 2 * i ≤ 2 * j) {i j : Nat} {t : Data} (h : pieceAt g N A i = some (t, j)) : cnt t + 1 + 2 * i ≤ 2 * j := by
  unfold pieceAt at h
  split at h
  · simp at h
  · rename_i t' j' h1
    have := hA _ _ _ h1
    have a := stars_cnt (g := g) (N + 1) t' j'
    have b := (stars_in hg (N + 1) t' j').1
    simp at h
    rw [h] at a b
    simp at a b
    omega

theorem partLoop_cnt (hg : ∀ i, N ≤ i → g i = 256) {A : Nat → Option (Data × Nat)} (hA : ∀ i t j, A i = some (t, j) → cnt t + 1 + 2 * i ≤ 2 * j) : ∀ (f i : Nat) (ts us : List Data) (j : Nat), partLoop g N A f i ts = some (us, j) → cnts us + us.length + 2 * i ≤ cnts ts + ts.length + 2 * j := by
  intro f
  induction f with
  | zero => intro i ts us j h; simp [partLoop] at h
  | succ f ih =>
    intro i ts us j h
    rw [partLoop] at h
    split at h
    · simp at h; obtain ⟨rfl, rfl⟩ := h; omega
    split at h
    · simp at h
    · rename_i t j' h1
      have := piece_cnt hg hA h1
      have := ih _ _ _ _ h
      rw [cnts_snoc] at this
      simp at this
      omega

theorem part_cnt (hg : ∀ i, N ≤ i → g i = 256) {A : Nat → Option (Data × Nat)} (hin : ∀ i t j, A i = some (t, j) → i < j ∧ j ≤ N) (hA : ∀ i t j, A i = some (t, j) → cnt t + 1 + 2 * i ≤ 2 * j) {i j : Nat} {t : Data} (h : partAt g N A i = some (t, j)) : cnt t + 2 * i ≤ 2 * j + 1 := by
  have hij := (partAt_in hg hin h).1
  unfold partAt partEnd at h
  split at h
  · simp at h
  · rename_i ts j' h1
    have := partLoop_cnt hg hA _ _ _ _ _ h1
    simp [cnts] at this
    simp at h
    obtain ⟨rfl, rfl⟩ := h
    unfold catOf
    split
    · unfold leaf; rw [cnt_nd]; simp [cnts]; omega
    · simp [cnts] at this; omega
    · rename_i h3 h4
      rw [cnt_nd]
      have : 2 ≤ ts.length := by
        rcases ts with _ | ⟨a, _ | ⟨b, ts⟩⟩
        · exact (h3 rfl).elim
        · exact (h4 a rfl).elim
        · simp
      omega

theorem patLoop_cnt (hg : ∀ i, N ≤ i → g i = 256) {A : Nat → Option (Data × Nat)} (hin : ∀ i t j, A i = some (t, j) → i < j ∧ j ≤ N) (hA : ∀ i t j, A i = some (t, j) → cnt t + 1 + 2 * i ≤ 2 * j) : ∀ (f i : Nat) (ts us : List Data) (j : Nat), patLoop g N A f i ts = some (us, j) → cnts us + us.length + 2 * i ≤ cnts ts + ts.length + 2 * j ∧ ts.length ≤ us.length := by
  intro f
  induction f with
  | zero => intro i ts us j h; simp [patLoop] at h
  | succ f ih =>
    intro i ts us j h
    rw [patLoop] at h
    split at h
    · split at h
      · simp at h
      · rename_i t j' h1
        have := part_cnt hg hin hA h1
        have := ih _ _ _ _ h
        rw [cnts_snoc] at this
        simp at this
        omega
    · simp at h; obtain ⟨rfl, rfl⟩ := h; omega

theorem pat_cnt (hg : ∀ i, N ≤ i → g i = 256) {A : Nat → Option (Data × Nat)} (hin : ∀ i t j, A i = some (t, j) → i < j ∧ j ≤ N) (hA : ∀ i t j, A i = some (t, j) → cnt t + 1 + 2 * i ≤ 2 * j) {i j : Nat} {t : Data} (h : patAt g N A i = some (t, j)) : cnt t + 2 * i ≤ 2 * j + 1 := by
  unfold patAt patEnd at h
  split at h
  · simp at h
  · rename_i t' j' h1
    have := part_cnt hg hin hA h1
    split at h
    · simp at h
    · rename_i us k h2
      have a := patLoop_cnt hg hin hA _ _ _ _ _ h2
      simp [cnts] at a
      simp at h
      obtain ⟨rfl, rfl⟩ := h
      unfold orOf
      split
      · simp [cnts] at a; omega
      · rename_i h3
        rw [cnt_nd]
        have : 2 ≤ us.length := by
          rcases us with _ | ⟨a', _ | ⟨b, us⟩⟩
          · simp at a
          · exact (h3 a' rfl).elim
          · simp
        omega

theorem atomN_cnt (hg : ∀ i, N ≤ i → g i = 256) : ∀ (n i : Nat) (t : Data) (j : Nat), atomN g N n i = some (t, j) → cnt t + 1 + 2 * i ≤ 2 * j := by
  intro n
  induction n with
  | zero => intro i t j h; simp [atomN] at h
  | succ n ih =>
    intro i t j h
    rw [atomN] at h
    exact atomAt_cnt hg (fun _ _ _ h => ⟨(patAt_in hg (atomN_in hg n) h).1, pat_cnt hg (atomN_in hg n) ih h⟩) h

theorem patN_cnt (hg : ∀ i, N ≤ i → g i = 256) {n i j : Nat} {t : Data} (h : patN g N n i = some (t, j)) : cnt t + 2 * i ≤ 2 * j + 1 := pat_cnt hg (atomN_in hg n) (atomN_cnt hg n) h

theorem whole_cnt (hg : ∀ i, N ≤ i → g i = 256) {n : Nat} {t : Data} (h : wholeV g N n = some t) : cnt t ≤ 2 * N + 1 := by
  unfold wholeV at h
  split at h
  · simp at h
  · rename_i t' j h1
    have := patN_cnt hg h1
    split at h
    · simp at h; subst h; omega
    · simp at h

end
end Rx
end Go.Proofs.YtkpgdlbcckmpkaaGreatDoor

