/-
  Places of a pattern fit where the pattern does: plain mathematics (chapters 4 and 5).
-/
import Derived.Test.YtgdnlmaacnnfiaaGreatDoorQ11
import Derived.Test.YtgdnlmaacnnfiaaGreatDoorQ12
import Derived.Test.YtgdnlmaacnnfiaaGreatDoorQ25
namespace Go.Proofs.YtgdnlmaacnnfiaaGreatDoor
namespace Nf
set_option linter.unusedVariables false
open Rx Clo

def byteP (c : Nat) : Pl := ⟨1, c, ⟨#[]⟩, false, 0, 0⟩
def anyP : Pl := ⟨2, 0, ⟨#[]⟩, false, 0, 0⟩
def setP (s : List UInt8) (no : Bool) : Pl := ⟨3, 0, ⟨s.toArray⟩, no, 0, 0⟩
def startP : Pl := ⟨4, 0, ⟨#[]⟩, false, 0, 0⟩
def endP : Pl := ⟨5, 0, ⟨#[]⟩, false, 0, 0⟩
def jumpP (a : Nat) : Pl := ⟨6, 0, ⟨#[]⟩, false, a, 0⟩
def forkP (a b : Nat) : Pl := ⟨7, 0, ⟨#[]⟩, false, a, b⟩
def doneP : Pl := ⟨8, 0, ⟨#[]⟩, false, 0, 0⟩

def CatAt (F : Data → Nat → Prop) : List Data → Nat → Prop
  | [], _ => True
  | t :: ts, o => F t o ∧ CatAt F ts (o + nl t)
def OrAt (P : Nat → Pl) (F : Data → Nat → Prop) : List Data → Nat → Nat → Prop
  | [], _, _ => False
  | t :: ts, o, E => (ts = [] ∧ F t o ∧ E = o + nl t) ∨ (ts ≠ [] ∧ P o = forkP (o + 1) (o + 2 + nl t) ∧ F t (o + 1) ∧ P (o + 1 + nl t) = jumpP E ∧ OrAt P F ts (o + 2 + nl t) E)
/-- The places of a pattern stand from o on. -/
def At (P : Nat → Pl) : Nat → Data → Nat → Prop
  | 0, _, _ => False
  | d + 1, t, o => (∃ b, t = chr b ∧ P o = byteP b) ∨ (t = leaf 2 ∧ P o = anyP) ∨ (t = leaf 4 ∧ P o = startP) ∨ (t = leaf 5 ∧ P o = endP) ∨ t = leaf 11 ∨ (∃ M no, t = setOf M no ∧ P o = setP (bytesOf M) no) ∨
      (∃ k, t = Rx.one 8 k ∧ P o = forkP (o + 1) (o + 2 + nl k) ∧ At P d k (o + 1) ∧ P (o + 1 + nl k) = jumpP o) ∨
      (∃ k, t = Rx.one 9 k ∧ At P d k o ∧ P (o + nl k) = forkP o (o + nl k + 1)) ∨
      (∃ k, t = Rx.one 10 k ∧ P o = forkP (o + 1) (o + 1 + nl k) ∧ At P d k (o + 1)) ∨
      (∃ ks, t = nd 6 0 [] false ks ∧ CatAt (At P d) ks o) ∨
      (∃ ks, t = nd 7 0 [] false ks ∧ OrAt P (At P d) ks o (o + (nls ks + 2 * (ks.length - 1))))

theorem nl_chr (b : Nat) : nl (chr b) = 1 := by unfold chr; rw [nl_nd]; simp
theorem nl_l2 : nl (leaf 2) = 1 := by unfold leaf; rw [nl_nd]; simp
theorem nl_l4 : nl (leaf 4) = 1 := by unfold leaf; rw [nl_nd]; simp
theorem nl_l5 : nl (leaf 5) = 1 := by unfold leaf; rw [nl_nd]; simp
theorem nl_l11 : nl (leaf 11) = 0 := by unfold leaf; rw [nl_nd]; simp
theorem nl_set (M : Nat → Bool) (no : Bool) : nl (setOf M no) = 1 := by unfold setOf; rw [nl_nd]; simp
theorem nl_8 (k : Data) : nl (Rx.one 8 k) = nl k + 2 := by unfold Rx.one; rw [nl_nd]; simp [nls]
theorem nl_9 (k : Data) : nl (Rx.one 9 k) = nl k + 1 := by unfold Rx.one; rw [nl_nd]; simp [nls]
theorem nl_10 (k : Data) : nl (Rx.one 10 k) = nl k + 1 := by unfold Rx.one; rw [nl_nd]; simp [nls]
theorem nl_6 (ks : List Data) : nl (nd 6 0 [] false ks) = nls ks := by rw [nl_nd]; simp
theorem nl_7 (ks : List Data) : nl (nd 7 0 [] false ks) = nls ks + 2 * (ks.length - 1) := by rw [nl_nd]; simp

/-! The places hang on their own numbers alone -/
theorem cat_congr {P P' : Nat → Pl} {F F' : Data → Nat → Prop} (hF : ∀ t o, F t o → (∀ i, o ≤ i → i < o + nl t → P' i = P i) → F' t o) : ∀ (ks : List Data) (o : Nat), CatAt F ks o → (∀ i, o ≤ i → i < o + nls ks → P' i = P i) → CatAt F' ks o
  | [], o, _, _ => trivial
  | t :: ts, o, h, hp => by
    rw [nls] at hp
    exact ⟨hF t o h.1 fun i h1 h2 => hp i h1 (by omega), cat_congr hF ts (o + nl t) h.2 fun i h1 h2 => hp i (by omega) (by omega)⟩
theorem or_congr {P P' : Nat → Pl} {F F' : Data → Nat → Prop} (hF : ∀ t o, F t o → (∀ i, o ≤ i → i < o + nl t → P' i = P i) → F' t o) : ∀ (ks : List Data) (o E : Nat), OrAt P F ks o E → (∀ i, o ≤ i → i < o + (nls ks + 2 * (ks.length - 1)) → P' i = P i) → OrAt P' F' ks o E
  | [], o, E, h, _ => h.elim
  | t :: ts, o, E, h, hp => by
    rw [nls] at hp
    simp only [List.length_cons] at hp
    rcases h with ⟨h1, h2, h3⟩ | ⟨h1, h2, h3, h4, h5⟩
    · subst h1
      exact .inl ⟨rfl, hF t o h2 fun i h1 h2 => hp i h1 (by simp [nls]; omega), h3⟩
    · have hl : 0 < ts.length := List.length_pos_iff.2 h1
      refine .inr ⟨h1, (hp o (by omega) (by omega)).trans h2, hF t _ h3 fun i a b => hp i (by omega) (by omega), (hp _ (by omega) (by omega)).trans h4, or_congr hF ts _ E h5 fun i a b => hp i (by omega) (by omega)⟩
theorem at_congr {P P' : Nat → Pl} : ∀ (d : Nat) (t : Data) (o : Nat), At P d t o → (∀ i, o ≤ i → i < o + nl t → P' i = P i) → At P' d t o := by
  intro d
  induction d with
  | zero => intro t o h; exact h.elim
  | succ d ih =>
    intro t o h hp
    rw [At] at h
    rw [At]
    rcases h with ⟨b, rfl, h⟩ | ⟨rfl, h⟩ | ⟨rfl, h⟩ | ⟨rfl, h⟩ | rfl | ⟨M, no, rfl, h⟩ | ⟨k, rfl, h1, h2, h3⟩ | ⟨k, rfl, h1, h2⟩ | ⟨k, rfl, h1, h2⟩ | ⟨ks, rfl, h⟩ | ⟨ks, rfl, h⟩
    · rw [nl_chr] at hp
      exact .inl ⟨b, rfl, (hp o (by omega) (by omega)).trans h⟩
    · rw [nl_l2] at hp
      exact .inr (.inl ⟨rfl, (hp o (by omega) (by omega)).trans h⟩)
    · rw [nl_l4] at hp
      exact .inr (.inr (.inl ⟨rfl, (hp o (by omega) (by omega)).trans h⟩))
    · rw [nl_l5] at hp
      exact .inr (.inr (.inr (.inl ⟨rfl, (hp o (by omega) (by omega)).trans h⟩)))
    · exact .inr (.inr (.inr (.inr (.inl rfl))))
    · rw [nl_set] at hp
      exact .inr (.inr (.inr (.inr (.inr (.inl ⟨M, no, rfl, (hp o (by omega) (by omega)).trans h⟩)))))
    · rw [nl_8] at hp
      exact .inr (.inr (.inr (.inr (.inr (.inr (.inl ⟨k, rfl, (hp o (by omega) (by omega)).trans h1, ih k _ h2 fun i a b => hp i (by omega) (by omega), (hp _ (by omega) (by omega)).trans h3⟩))))))
    · rw [nl_9] at hp
      exact .inr (.inr (.inr (.inr (.inr (.inr (.inr (.inl ⟨k, rfl, ih k _ h1 fun i a b => hp i (by omega) (by omega), (hp _ (by omega) (by omega)).trans h2⟩)))))))
    · rw [nl_10] at hp
      exact .inr (.inr (.inr (.inr (.inr (.inr (.inr (.inr (.inl ⟨k, rfl, (hp o (by omega) (by omega)).trans h1, ih k _ h2 fun i a b => hp i (by omega) (by omega)⟩))))))))
    · rw [nl_6] at hp
      exact .inr (.inr (.inr (.inr (.inr (.inr (.inr (.inr (.inr (.inl ⟨ks, rfl, cat_congr ih ks o h hp⟩)))))))))
    · rw [nl_7] at hp
      exact .inr (.inr (.inr (.inr (.inr (.inr (.inr (.inr (.inr (.inr ⟨ks, rfl, or_congr ih ks o _ h hp⟩)))))))))

/-! Each of them is right -/
/-- One of a list's places, ahead of its end. -/
def Good (E : Nat) (x : Pl) : Prop := (∃ c, x = byteP c) ∨ x = anyP ∨ (∃ s no, x = setP s no ∧ s.length ≤ 256) ∨ x = startP ∨ x = endP ∨ (∃ a, a ≤ E ∧ x = jumpP a) ∨ (∃ a b, a ≤ E ∧ b ≤ E ∧ x = forkP a b)
theorem Good.mono {E E' : Nat} {x : Pl} (h : Good E x) (hE : E ≤ E') : Good E' x := by
  rcases h with h | h | h | h | h | ⟨a, h1, h2⟩ | ⟨a, b, h1, h2, h3⟩
  · exact .inl h
  · exact .inr (.inl h)
  · exact .inr (.inr (.inl h))
  · exact .inr (.inr (.inr (.inl h)))
  · exact .inr (.inr (.inr (.inr (.inl h))))
  · exact .inr (.inr (.inr (.inr (.inr (.inl ⟨a, by omega, h2⟩)))))
  · exact .inr (.inr (.inr (.inr (.inr (.inr ⟨a, b, by omega, by omega, h3⟩)))))
theorem good_fork {E a b : Nat} (h1 : a ≤ E) (h2 : b ≤ E) : Good E (forkP a b) := .inr (.inr (.inr (.inr (.inr (.inr ⟨a, b, h1, h2, rfl⟩)))))
theorem good_jump {E a : Nat} (h1 : a ≤ E) : Good E (jumpP a) := .inr (.inr (.inr (.inr (.inr (.inl ⟨a, h1, rfl⟩)))))
theorem cat_good {P : Nat → Pl} {F : Data → Nat → Prop} (hF : ∀ t o, F t o → ∀ p, o ≤ p → p < o + nl t → Good (o + nl t) (P p)) : ∀ (ks : List Data) (o : Nat), CatAt F ks o → ∀ p, o ≤ p → p < o + nls ks → Good (o + nls ks) (P p)
  | [], o, _, p, h1, h2 => by simp [nls] at h2; omega
  | t :: ts, o, h, p, h1, h2 => by
    rw [nls] at h2 ⊢
    by_cases hp : p < o + nl t
    · exact (hF t o h.1 p h1 hp).mono (by omega)
    · exact (cat_good hF ts _ h.2 p (by omega) (by omega)).mono (by omega)
theorem or_end {P : Nat → Pl} {F : Data → Nat → Prop} : ∀ (ks : List Data) (o E : Nat), OrAt P F ks o E → E = o + (nls ks + 2 * (ks.length - 1))
  | [], o, E, h => h.elim
  | t :: ts, o, E, h => by
    rw [nls, List.length_cons]
    rcases h with ⟨rfl, _, h3⟩ | ⟨h1, _, _, _, h5⟩
    · simp [nls]; omega
    · have hl : 0 < ts.length := List.length_pos_iff.2 h1
      have := or_end ts _ E h5
      omega
theorem or_good {P : Nat → Pl} {F : Data → Nat → Prop} (hF : ∀ t o, F t o → ∀ p, o ≤ p → p < o + nl t → Good (o + nl t) (P p)) : ∀ (ks : List Data) (o E : Nat), OrAt P F ks o E → ∀ p, o ≤ p → p < E → Good E (P p)
  | [], o, E, h, _, _, _ => h.elim
  | t :: ts, o, E, h, p, a, b => by
    have hE := or_end _ _ _ h
    rw [nls, List.length_cons] at hE
    rcases h with ⟨rfl, h2, h3⟩ | ⟨h1, h2, h3, h4, h5⟩
    · subst h3
      exact hF t o h2 p a b
    · have hl : 0 < ts.length := List.length_pos_iff.2 h1
      by_cases p0 : p = o
      · subst p0
        rw [h2]
        exact good_fork (by omega) (by omega)
      · by_cases p1 : p < o + 1 + nl t
        · exact (hF t _ h3 p (by omega) p1).mono (by omega)
        · by_cases p2 : p = o + 1 + nl t
          · subst p2
            rw [h4]
            exact good_jump (by omega)
          · exact or_good hF ts _ E h5 p (by omega) b
theorem bytes_short (M : Nat → Bool) : (bytesOf M).length ≤ 256 := by
  unfold bytesOf
  rw [List.length_map]
  have := List.length_filter_le M (List.range 256)
  simpa using this
theorem at_good {P : Nat → Pl} : ∀ (d : Nat) (t : Data) (o : Nat), At P d t o → ∀ p, o ≤ p → p < o + nl t → Good (o + nl t) (P p) := by
  intro d
  induction d with
  | zero => intro t o h; exact h.elim
  | succ d ih =>
    intro t o h p a b
    rw [At] at h
    rcases h with ⟨c, rfl, h⟩ | ⟨rfl, h⟩ | ⟨rfl, h⟩ | ⟨rfl, h⟩ | rfl | ⟨M, no, rfl, h⟩ | ⟨k, rfl, h1, h2, h3⟩ | ⟨k, rfl, h1, h2⟩ | ⟨k, rfl, h1, h2⟩ | ⟨ks, rfl, h⟩ | ⟨ks, rfl, h⟩
    · rw [nl_chr] at b
      obtain rfl : p = o := by omega
      rw [h]
      exact .inl ⟨c, rfl⟩
    · rw [nl_l2] at b
      obtain rfl : p = o := by omega
      rw [h]
      exact .inr (.inl rfl)
    · rw [nl_l4] at b
      obtain rfl : p = o := by omega
      rw [h]
      exact .inr (.inr (.inr (.inl rfl)))
    · rw [nl_l5] at b
      obtain rfl : p = o := by omega
      rw [h]
      exact .inr (.inr (.inr (.inr (.inl rfl))))
    · rw [nl_l11] at b
      omega
    · rw [nl_set] at b
      obtain rfl : p = o := by omega
      rw [h]
      exact .inr (.inr (.inl ⟨_, _, rfl, bytes_short M⟩))
    · rw [nl_8] at b ⊢
      by_cases p0 : p = o
      · subst p0
        rw [h1]
        exact good_fork (by omega) (by omega)
      · by_cases p1 : p < o + 1 + nl k
        · exact (ih k _ h2 p (by omega) p1).mono (by omega)
        · obtain rfl : p = o + 1 + nl k := by omega
          rw [h3]
          exact good_jump (by omega)
    · rw [nl_9] at b ⊢
      by_cases p1 : p < o + nl k
      · exact (ih k _ h1 p (by omega) p1).mono (by omega)
      · obtain rfl : p = o + nl k := by omega
        rw [h2]
        exact good_fork (by omega) (by omega)
    · rw [nl_10] at b ⊢
      by_cases p0 : p = o
      · subst p0
        rw [h1]
        exact good_fork (by omega) (by omega)
      · exact (ih k _ h2 p (by omega) (by omega)).mono (by omega)
    · rw [nl_6] at b ⊢
      exact cat_good ih ks o h p a b
    · rw [nl_7] at b ⊢
      exact or_good ih ks o _ h p a b

/-! Going along places -/
def Takes (x : Pl) (b : Nat) : Prop := (x.op = 1 ∧ x.c = b) ∨ x.op = 2 ∨ (x.op = 3 ∧ ((∃ y, y ∈ x.set.data.toList ∧ y.toNat = b) ↔ x.no = false))
section
variable (P : Nat → Pl) (g : Nat → Nat) (n : Nat)
def Step (p i p' i' : Nat) : Prop := (i' = i ∧ (p' : Int) ∈ nextV (P p).op (P p).a (P p).b p (decide (i = 0)) (decide (i = n))) ∨ (i < n ∧ i' = i + 1 ∧ p' = p + 1 ∧ Takes (P p) (g i))
def Run (p i q j : Nat) : Prop := ∀ Q : Nat → Nat → Prop, Q p i → (∀ a b c d, Q a b → Step P g n a b c d → Q c d) → Q q j
end
section
variable {P : Nat → Pl} {g : Nat → Nat} {n : Nat}
theorem run_refl (p i : Nat) : Run P g n p i p i := fun _ h _ => h
theorem run_step {p i q j q' j' : Nat} (h : Run P g n p i q j) (hs : Step P g n q j q' j') : Run P g n p i q' j' := fun Q h1 h2 => h2 _ _ _ _ (h Q h1 h2) hs
theorem run_trans {p i q j r k : Nat} (h : Run P g n p i q j) (h' : Run P g n q j r k) : Run P g n p i r k := fun Q h1 h2 => h' Q (h Q h1 h2) h2
theorem run_one {p i q j : Nat} (hs : Step P g n p i q j) : Run P g n p i q j := run_step (run_refl p i) hs

theorem step_byte {p i p' i' c : Nat} (h : P p = byteP c) : Step P g n p i p' i' ↔ i < n ∧ i' = i + 1 ∧ p' = p + 1 ∧ g i = c := by
  unfold Step Takes nextV
  rw [h]
  simp [byteP]
  omega
theorem step_any {p i p' i' : Nat} (h : P p = anyP) : Step P g n p i p' i' ↔ i < n ∧ i' = i + 1 ∧ p' = p + 1 := by
  unfold Step Takes nextV
  rw [h]
  simp [anyP]
theorem step_set {p i p' i' : Nat} {s : List UInt8} {no : Bool} (h : P p = setP s no) : Step P g n p i p' i' ↔ i < n ∧ i' = i + 1 ∧ p' = p + 1 ∧ ((∃ y, y ∈ s ∧ y.toNat = g i) ↔ no = false) := by
  unfold Step Takes nextV
  rw [h]
  simp [setP]
theorem step_start {p i p' i' : Nat} (h : P p = startP) : Step P g n p i p' i' ↔ i' = i ∧ i = 0 ∧ p' = p + 1 := by
  unfold Step Takes nextV
  rw [h]
  simp [startP]
  by_cases h0 : i = 0 <;> simp [h0] <;> omega
theorem step_end {p i p' i' : Nat} (h : P p = endP) : Step P g n p i p' i' ↔ i' = i ∧ i = n ∧ p' = p + 1 := by
  unfold Step Takes nextV
  rw [h]
  simp [endP]
  by_cases h0 : i = n <;> simp [h0] <;> omega
theorem step_jump {p i p' i' a : Nat} (h : P p = jumpP a) : Step P g n p i p' i' ↔ i' = i ∧ p' = a := by
  unfold Step Takes nextV
  rw [h]
  simp [jumpP]
  omega
theorem step_fork {p i p' i' a b : Nat} (h : P p = forkP a b) : Step P g n p i p' i' ↔ i' = i ∧ (p' = a ∨ p' = b) := by
  unfold Step Takes nextV
  rw [h]
  simp [forkP]
  omega
theorem step_done {p i p' i' : Nat} (h : P p = doneP) : ¬ Step P g n p i p' i' := by
  unfold Step Takes nextV
  rw [h]
  simp [doneP]

/-! What the pattern fits, the places go -/
theorem cat_comp {F : Data → Nat → Prop} (hF : ∀ t o, F t o → ∀ i j, Fit g n t i j → Run P g n o i (o + nl t) j) : ∀ (ks : List Data) (o : Nat), CatAt F ks o → ∀ i j, FitCat g n ks i j → Run P g n o i (o + nls ks) j
  | [], o, _, i, j, h => by
    rw [FitCat] at h
    subst h
    simpa [nls] using run_refl o j
  | t :: ts, o, h, i, j, hf => by
    rw [FitCat] at hf
    obtain ⟨m, h1, h2⟩ := hf
    rw [nls, ← Nat.add_assoc]
    exact run_trans (hF t o h.1 i m h1) (cat_comp hF ts _ h.2 m j h2)
theorem or_comp {F : Data → Nat → Prop} (hF : ∀ t o, F t o → ∀ i j, Fit g n t i j → Run P g n o i (o + nl t) j) : ∀ (ks : List Data) (o E : Nat), OrAt P F ks o E → ∀ i j, FitOr g n ks i j → Run P g n o i E j
  | [], o, E, h, _, _, _ => h.elim
  | t :: ts, o, E, h, i, j, hf => by
    rw [FitOr] at hf
    rcases h with ⟨rfl, h2, rfl⟩ | ⟨h1, h2, h3, h4, h5⟩
    · rcases hf with hf | hf
      · exact hF t o h2 i j hf
      · simp [FitOr] at hf
    · rcases hf with hf | hf
      · exact run_step (run_trans (run_one ((step_fork h2).2 ⟨rfl, .inl rfl⟩)) (hF t _ h3 i j hf)) ((step_jump h4).2 ⟨rfl, rfl⟩)
      · exact run_trans (run_one ((step_fork h2).2 ⟨rfl, .inr rfl⟩)) (or_comp hF ts _ E h5 i j hf)
theorem at_comp : ∀ (d : Nat) (t : Data) (o : Nat), At P d t o → ∀ i j, Fit g n t i j → Run P g n o i (o + nl t) j := by
  intro d
  induction d with
  | zero => intro t o h; exact h.elim
  | succ d ih =>
    intro t o h i j hf
    rw [At] at h
    rcases h with ⟨c, rfl, h⟩ | ⟨rfl, h⟩ | ⟨rfl, h⟩ | ⟨rfl, h⟩ | rfl | ⟨M, no, rfl, h⟩ | ⟨k, rfl, h1, h2, h3⟩ | ⟨k, rfl, h1, h2⟩ | ⟨k, rfl, h1, h2⟩ | ⟨ks, rfl, h⟩ | ⟨ks, rfl, h⟩
    · obtain ⟨a, b, c⟩ := fit_chr.1 hf
      rw [nl_chr]
      exact run_one ((step_byte h).2 ⟨a, b, rfl, c⟩)
    · obtain ⟨a, b⟩ := fit_any.1 hf
      rw [nl_l2]
      exact run_one ((step_any h).2 ⟨a, b, rfl⟩)
    · obtain ⟨a, b⟩ := fit_start.1 hf
      rw [nl_l4]
      exact run_one ((step_start h).2 ⟨b, a, rfl⟩)
    · obtain ⟨a, b⟩ := fit_end.1 hf
      rw [nl_l5]
      exact run_one ((step_end h).2 ⟨b, a, rfl⟩)
    · have := fit_none.1 hf
      subst this
      rw [nl_l11]
      exact run_refl _ _
    · obtain ⟨a, b, c⟩ := fit_set.1 hf
      rw [nl_set]
      exact run_one ((step_set h).2 ⟨a, b, rfl, c⟩)
    · have hs := fit_star.1 hf
      have hr : Run P g n o i o j := hs (fun x => Run P g n o i o x) (run_refl _ _) fun a b ha hab => run_step (run_trans (run_trans ha (run_one ((step_fork h1).2 ⟨rfl, .inl rfl⟩))) (ih k _ h2 a b hab)) ((step_jump h3).2 ⟨rfl, rfl⟩)
      rw [nl_8]
      exact run_step hr ((step_fork h1).2 ⟨rfl, .inr (by omega)⟩)
    · obtain ⟨m, hf1, hs⟩ := fit_plus.1 hf
      have hr : Run P g n o i (o + nl k) j := hs (fun x => Run P g n o i (o + nl k) x) (ih k _ h1 i m hf1) fun a b ha hab => run_trans (run_step ha ((step_fork h2).2 ⟨rfl, .inl rfl⟩)) (ih k _ h1 a b hab)
      rw [nl_9]
      exact run_step hr ((step_fork h2).2 ⟨rfl, .inr (by omega)⟩)
    · rw [nl_10]
      rcases fit_may.1 hf with rfl | hf
      · exact run_one ((step_fork h1).2 ⟨rfl, .inr (by omega)⟩)
      · have := run_trans (run_one (g := g) (n := n) ((step_fork h1).2 ⟨rfl, .inl rfl⟩)) (ih k _ h2 i j hf)
        rwa [show o + 1 + nl k = o + (nl k + 1) by omega] at this
    · rw [nl_6]
      exact cat_comp ih ks o h i j (fit_cat.1 hf)
    · rw [nl_7]
      exact or_comp ih ks o _ h i j (fit_or.1 hf)

/-! What the places go, the pattern fits -/
/-- From where what is behind is reached: one predicate on places and numbers. -/
def Back (P : Nat → Pl) (g : Nat → Nat) (n : Nat) (F : Nat → Nat → Prop) (o e : Nat) (K : Nat → Prop) : Prop :=
  ∃ A : Nat → Nat → Prop, (∀ i, A o i → ∃ j, F i j ∧ K j) ∧ (∀ i, A e i ↔ K i) ∧ ∀ p i p' i', o ≤ p → p < e → Step P g n p i p' i' → o ≤ p' ∧ p' ≤ e ∧ (A p' i' → A p i)

theorem back_leaf {o : Nat} {F : Nat → Nat → Prop} {K : Nat → Prop} (hs : ∀ i p' i', Step P g n o i p' i' → p' = o + 1 ∧ F i i') : Back P g n F o (o + 1) K := by
  refine ⟨fun p i => if p = o then ∃ j, F i j ∧ K j else K i, fun i h => by simpa using h, fun i => by simp, fun p i p' i' h1 h2 h => ?_⟩
  obtain rfl : p = o := by omega
  obtain ⟨rfl, hf⟩ := hs i p' i' h
  exact ⟨by omega, by omega, fun h => by simpa using ⟨i', hf, by simpa using h⟩⟩

theorem cat_back {F : Data → Nat → Prop} (hF : ∀ t o, F t o → ∀ K, Back P g n (Fit g n t) o (o + nl t) K) : ∀ (ks : List Data) (o : Nat), CatAt F ks o → ∀ K, Back P g n (FitCat g n ks) o (o + nls ks) K
  | [], o, _, K => by
    refine ⟨fun _ i => K i, fun i h => ⟨i, by simp [FitCat], h⟩, fun i => Iff.rfl, fun p i p' i' h1 h2 => ?_⟩
    simp [nls] at h2
    omega
  | t :: ts, o, h, K => by
    obtain ⟨A2, b1, b2, b3⟩ := cat_back hF ts _ h.2 K
    obtain ⟨A1, a1, a2, a3⟩ := hF t o h.1 (fun i => ∃ j, FitCat g n ts i j ∧ K j)
    refine ⟨fun p i => if p < o + nl t then A1 p i else A2 p i, fun i hi => ?_, fun i => ?_, fun p i p' i' h1 h2 hs => ?_⟩
    · dsimp only at hi
      have hA : A1 o i := by
        by_cases hz : o < o + nl t
        · simpa [hz] using hi
        · have e : o + nl t = o := by omega
          rw [if_neg hz] at hi
          rw [e] at b1 a2
          exact (a2 i).2 (b1 i hi)
      obtain ⟨m, hm, j, hj, hk⟩ := a1 i hA
      exact ⟨j, by rw [FitCat]; exact ⟨m, hm, hj⟩, hk⟩
    · dsimp only
      rw [nls, if_neg (by omega), ← Nat.add_assoc]
      exact b2 i
    · dsimp only
      rw [nls, ← Nat.add_assoc] at h2 ⊢
      by_cases hp : p < o + nl t
      · obtain ⟨c1, c2, c3⟩ := a3 p i p' i' h1 hp hs
        refine ⟨c1, by omega, fun hA => ?_⟩
        rw [if_pos hp]
        by_cases hp' : p' < o + nl t
        · rw [if_pos hp'] at hA
          exact c3 hA
        · obtain rfl : p' = o + nl t := by omega
          rw [if_neg hp'] at hA
          exact c3 ((a2 i').2 (b1 i' hA))
      · obtain ⟨c1, c2, c3⟩ := b3 p i p' i' (by omega) h2 hs
        refine ⟨by omega, c2, fun hA => ?_⟩
        rw [if_neg (by omega)] at hA
        rw [if_neg hp]
        exact c3 hA

theorem or_back {F : Data → Nat → Prop} (hF : ∀ t o, F t o → ∀ K, Back P g n (Fit g n t) o (o + nl t) K) : ∀ (ks : List Data) (o E : Nat), OrAt P F ks o E → ∀ K, Back P g n (FitOr g n ks) o E K
  | [], o, E, h, _ => h.elim
  | t :: ts, o, E, h, K => by
    have hE := or_end _ _ _ h
    rw [nls, List.length_cons] at hE
    rcases h with ⟨rfl, h2, rfl⟩ | ⟨h1, h2, h3, h4, h5⟩
    · obtain ⟨A1, a1, a2, a3⟩ := hF t o h2 K
      exact ⟨A1, fun i hi => by obtain ⟨j, hj, hk⟩ := a1 i hi; exact ⟨j, by rw [FitOr]; exact .inl hj, hk⟩, a2, a3⟩
    · have hl : 0 < ts.length := List.length_pos_iff.2 h1
      obtain ⟨A2, b1, b2, b3⟩ := or_back hF ts _ E h5 K
      obtain ⟨A1, a1, a2, a3⟩ := hF t _ h3 K
      refine ⟨fun p i => if p = o then ∃ j, FitOr g n (t :: ts) i j ∧ K j else if p < o + 2 + nl t then A1 p i else A2 p i, fun i hi => by simpa using hi, fun i => ?_, fun p i p' i' c1 c2 hs => ?_⟩
      · dsimp only
        rw [if_neg (by omega), if_neg (by omega)]
        exact b2 i
      · dsimp only
        by_cases p0 : p = o
        · subst p0
          obtain ⟨rfl, hp⟩ := (step_fork h2).1 hs
          rw [if_pos rfl]
          rcases hp with rfl | rfl
          · refine ⟨by omega, by omega, fun hA => ?_⟩
            rw [if_neg (by omega), if_pos (by omega)] at hA
            obtain ⟨j, hj, hk⟩ := a1 _ hA
            exact ⟨j, by rw [FitOr]; exact .inl hj, hk⟩
          · refine ⟨by omega, by omega, fun hA => ?_⟩
            rw [if_neg (by omega), if_neg (by omega)] at hA
            obtain ⟨j, hj, hk⟩ := b1 _ hA
            exact ⟨j, by rw [FitOr]; exact .inr hj, hk⟩
        · rw [if_neg p0]
          by_cases p1 : p < o + 1 + nl t
          · obtain ⟨d1, d2, d3⟩ := a3 p i p' i' (by omega) p1 hs
            refine ⟨by omega, by omega, fun hA => ?_⟩
            rw [if_neg (by omega), if_pos (by omega)] at hA
            rw [if_pos (by omega)]
            exact d3 hA
          · by_cases p2 : p = o + 1 + nl t
            · subst p2
              obtain ⟨rfl, rfl⟩ := (step_jump h4).1 hs
              refine ⟨by omega, Nat.le_refl _, fun hA => ?_⟩
              rw [if_neg (by omega), if_neg (by omega)] at hA
              rw [if_pos (by omega)]
              exact (a2 _).2 ((b2 _).1 hA)
            · obtain ⟨d1, d2, d3⟩ := b3 p i p' i' (by omega) c2 hs
              refine ⟨by omega, d2, fun hA => ?_⟩
              rw [if_neg (by omega), if_neg (by omega)] at hA
              rw [if_neg (by omega)]
              exact d3 hA

theorem at_back : ∀ (d : Nat) (t : Data) (o : Nat), At P d t o → ∀ K, Back P g n (Fit g n t) o (o + nl t) K := by
  intro d
  induction d with
  | zero => intro t o h; exact h.elim
  | succ d ih =>
    intro t o h K
    rw [At] at h
    rcases h with ⟨c, rfl, h⟩ | ⟨rfl, h⟩ | ⟨rfl, h⟩ | ⟨rfl, h⟩ | rfl | ⟨M, no, rfl, h⟩ | ⟨k, rfl, h1, h2, h3⟩ | ⟨k, rfl, h1, h2⟩ | ⟨k, rfl, h1, h2⟩ | ⟨ks, rfl, h⟩ | ⟨ks, rfl, h⟩
    · rw [nl_chr]
      refine back_leaf fun i p' i' hs => ?_
      obtain ⟨a, b, c, d⟩ := (step_byte h).1 hs
      exact ⟨c, fit_chr.2 ⟨a, b, d⟩⟩
    · rw [nl_l2]
      refine back_leaf fun i p' i' hs => ?_
      obtain ⟨a, b, c⟩ := (step_any h).1 hs
      exact ⟨c, fit_any.2 ⟨a, b⟩⟩
    · rw [nl_l4]
      refine back_leaf fun i p' i' hs => ?_
      obtain ⟨a, b, c⟩ := (step_start h).1 hs
      exact ⟨c, fit_start.2 ⟨b, a⟩⟩
    · rw [nl_l5]
      refine back_leaf fun i p' i' hs => ?_
      obtain ⟨a, b, c⟩ := (step_end h).1 hs
      exact ⟨c, fit_end.2 ⟨b, a⟩⟩
    · rw [nl_l11]
      exact ⟨fun _ i => K i, fun i h => ⟨i, fit_none.2 rfl, h⟩, fun i => Iff.rfl, fun p i p' i' h1 h2 => by omega⟩
    · rw [nl_set]
      refine back_leaf fun i p' i' hs => ?_
      obtain ⟨a, b, c, d⟩ := (step_set h).1 hs
      exact ⟨c, fit_set.2 ⟨a, b, d⟩⟩
    · obtain ⟨A1, a1, a2, a3⟩ := ih k _ h2 (fun i => ∃ j, Star (Fit g n k) i j ∧ K j)
      rw [nl_8]
      refine ⟨fun p i => if p = o then ∃ j, Star (Fit g n k) i j ∧ K j else if p < o + 2 + nl k then A1 p i else K i, fun i hi => ?_, fun i => ?_, fun p i p' i' c1 c2 hs => ?_⟩
      · dsimp only at hi
        rw [if_pos rfl] at hi
        obtain ⟨j, hj, hk⟩ := hi
        exact ⟨j, fit_star.2 hj, hk⟩
      · dsimp only
        rw [if_neg (by omega), if_neg (by omega)]
      · dsimp only
        by_cases p0 : p = o
        · subst p0
          obtain ⟨rfl, hp⟩ := (step_fork h1).1 hs
          rw [if_pos rfl]
          rcases hp with rfl | rfl
          · refine ⟨by omega, by omega, fun hA => ?_⟩
            rw [if_neg (by omega), if_pos (by omega)] at hA
            obtain ⟨m, hm, j, hj, hk⟩ := a1 _ hA
            exact ⟨j, star_head hm hj, hk⟩
          · refine ⟨by omega, by omega, fun hA => ?_⟩
            rw [if_neg (by omega), if_neg (by omega)] at hA
            exact ⟨_, star_refl _ _, hA⟩
        · rw [if_neg p0]
          by_cases p1 : p < o + 1 + nl k
          · obtain ⟨d1, d2, d3⟩ := a3 p i p' i' (by omega) p1 hs
            refine ⟨by omega, by omega, fun hA => ?_⟩
            rw [if_neg (by omega), if_pos (by omega)] at hA
            rw [if_pos (by omega)]
            exact d3 hA
          · obtain rfl : p = o + 1 + nl k := by omega
            obtain ⟨rfl, rfl⟩ := (step_jump h3).1 hs
            refine ⟨by omega, by omega, fun hA => ?_⟩
            rw [if_pos rfl] at hA
            rw [if_pos (by omega)]
            exact (a2 _).2 hA
    · obtain ⟨A1, a1, a2, a3⟩ := ih k _ h1 (fun i => ∃ j, Star (Fit g n k) i j ∧ K j)
      rw [nl_9]
      refine ⟨fun p i => if p < o + nl k + 1 then A1 p i else K i, fun i hi => ?_, fun i => ?_, fun p i p' i' c1 c2 hs => ?_⟩
      · dsimp only at hi
        rw [if_pos (by omega)] at hi
        obtain ⟨m, hm, j, hj, hk⟩ := a1 _ hi
        exact ⟨j, fit_plus.2 ⟨m, hm, hj⟩, hk⟩
      · dsimp only
        rw [if_neg (by omega)]
      · dsimp only
        by_cases p1 : p < o + nl k
        · obtain ⟨d1, d2, d3⟩ := a3 p i p' i' (by omega) p1 hs
          refine ⟨by omega, by omega, fun hA => ?_⟩
          rw [if_pos (by omega)] at hA ⊢
          exact d3 hA
        · obtain rfl : p = o + nl k := by omega
          obtain ⟨rfl, hp⟩ := (step_fork h2).1 hs
          rcases hp with rfl | rfl
          · refine ⟨by omega, by omega, fun hA => ?_⟩
            rw [if_pos (by omega)] at hA
            rw [if_pos (by omega)]
            obtain ⟨m, hm, j, hj, hk⟩ := a1 _ hA
            exact (a2 _).2 ⟨j, star_head hm hj, hk⟩
          · refine ⟨by omega, by omega, fun hA => ?_⟩
            rw [if_neg (by omega)] at hA
            rw [if_pos (by omega)]
            exact (a2 _).2 ⟨_, star_refl _ _, hA⟩
    · obtain ⟨A1, a1, a2, a3⟩ := ih k _ h2 K
      rw [nl_10]
      refine ⟨fun p i => if p = o then K i ∨ ∃ j, Fit g n k i j ∧ K j else A1 p i, fun i hi => ?_, fun i => ?_, fun p i p' i' c1 c2 hs => ?_⟩
      · dsimp only at hi
        rw [if_pos rfl] at hi
        rcases hi with hk | ⟨j, hj, hk⟩
        · exact ⟨i, fit_may.2 (.inl rfl), hk⟩
        · exact ⟨j, fit_may.2 (.inr hj), hk⟩
      · dsimp only
        rw [if_neg (by omega), show o + (nl k + 1) = o + 1 + nl k by omega]
        exact a2 i
      · dsimp only
        by_cases p0 : p = o
        · subst p0
          obtain ⟨rfl, hp⟩ := (step_fork h1).1 hs
          rw [if_pos rfl]
          rcases hp with rfl | rfl
          · refine ⟨by omega, by omega, fun hA => ?_⟩
            rw [if_neg (by omega)] at hA
            exact .inr (a1 _ hA)
          · refine ⟨by omega, by omega, fun hA => ?_⟩
            rw [if_neg (by omega)] at hA
            exact .inl ((a2 _).1 hA)
        · obtain ⟨d1, d2, d3⟩ := a3 p i p' i' (by omega) (by omega) hs
          refine ⟨by omega, by omega, fun hA => ?_⟩
          rw [if_neg (by omega)] at hA
          rw [if_neg p0]
          exact d3 hA
    · rw [nl_6]
      obtain ⟨A, a1, a2, a3⟩ := cat_back ih ks o h K
      exact ⟨A, fun i hi => by obtain ⟨j, hj, hk⟩ := a1 i hi; exact ⟨j, fit_cat.2 hj, hk⟩, a2, a3⟩
    · rw [nl_7]
      obtain ⟨A, a1, a2, a3⟩ := or_back ih ks o _ h K
      exact ⟨A, fun i hi => by obtain ⟨j, hj, hk⟩ := a1 i hi; exact ⟨j, fit_or.2 hj, hk⟩, a2, a3⟩

/-- PLACES FIT WHERE THE PATTERN DOES. -/
theorem run_iff {d : Nat} {t : Data} (h : At P d t 0) (hd : P (nl t) = doneP) (i j : Nat) : Run P g n 0 i (nl t) j ↔ Fit g n t i j := by
  constructor
  · intro hr
    obtain ⟨A, a1, a2, a3⟩ := at_back (g := g) (n := n) d t 0 h (fun x => x = j)
    rw [Nat.zero_add] at a2 a3
    have key := hr (fun p x => p ≤ nl t ∧ ((A p x → A 0 i) ∨ nl t < p)) ⟨by omega, .inl id⟩ fun a b c e hQ hs => by
      obtain ⟨q1, q2⟩ := hQ
      by_cases ha : a < nl t
      · obtain ⟨d1, d2, d3⟩ := a3 a b c e (by omega) ha hs
        refine ⟨d2, .inl fun hA => ?_⟩
        rcases q2 with q2 | q2
        · exact q2 (d3 hA)
        · omega
      · obtain rfl : a = nl t := by omega
        exact absurd hs (step_done hd)
    rcases key.2 with k | k
    · obtain ⟨j', hj, rfl⟩ := a1 i (k ((a2 j).2 rfl))
      exact hj
    · omega
  · intro hf
    have := at_comp d t 0 h i j hf
    rwa [Nat.zero_add] at this
/-- No way leads behind the end. -/
theorem run_le {d : Nat} {t : Data} (h : At P d t 0) (hd : P (nl t) = doneP) {i p j : Nat} (hr : Run P g n 0 i p j) : p ≤ nl t := by
  obtain ⟨A, a1, a2, a3⟩ := at_back (g := g) (n := n) d t 0 h (fun x => x = j)
  rw [Nat.zero_add] at a3
  refine hr (fun p _ => p ≤ nl t) (by omega) fun a b c e hQ hs => ?_
  by_cases ha : a < nl t
  · exact (a3 a b c e (by omega) ha hs).2.1
  · obtain rfl : a = nl t := by omega
    exact absurd hs (step_done hd)
end
end Nf
end Go.Proofs.YtgdnlmaacnnfiaaGreatDoor

