/-
  A list of Rex, parted at one place and joined again; a store into one.
-/
import Derived.Test.YtnbnbohhbflgaakDoorRexHeld
namespace Go.Proofs.YtnbnbohhbflgaakDoor
open Go.RowKit
namespace Rx

theorem rexs_split {w : World} : ∀ {A B : List Data} {t : Data} {S : Nat → Prop} {xs : List Value}, RexsIs w (A ++ t :: B) S xs → ∃ (SA ST SB : Nat → Prop) (xa c xb : List Value), xs = xa ++ (c ++ xb) ∧ RexsIs w A SA xa ∧ RexIs w t ST c ∧ RexsIs w B SB xb ∧
    (∀ k, SA k → S k ∧ ¬ ST k ∧ ¬ SB k) ∧ (∀ k, ST k → S k ∧ ¬ SB k) ∧ (∀ k, SB k → S k)
  | [], B, t, S, xs, h => by
    simp only [List.nil_append, RexsIs] at h
    obtain ⟨S1, S2, c1, c2, rfl, h1, h2, h3, h4⟩ := h
    exact ⟨fun _ => False, S1, S2, [], c1, c2, rfl, by simp only [RexsIs], h1, h2, fun k hk => hk.elim, h3, h4⟩
  | a :: A, B, t, S, xs, h => by
    simp only [List.cons_append, RexsIs] at h
    obtain ⟨S1, S2, c1, c2, rfl, h1, h2, h3, h4⟩ := h
    obtain ⟨SA, ST, SB, xa, c, xb, rfl, k1, k2, k3, k4, k5, k6⟩ := rexs_split h2
    refine ⟨fun k => S1 k ∨ SA k, ST, SB, c1 ++ xa, c, xb, by simp, ?_, k2, k3, ?_, fun k hk => ⟨h4 k (k5 k hk).1, (k5 k hk).2⟩, fun k hk => h4 k (k6 k hk)⟩
    · simp only [RexsIs]
      exact ⟨S1, SA, c1, xa, rfl, h1, k1, fun k hk => ⟨.inl hk, fun hs => (h3 k hk).2 (k4 k hs).1⟩, fun k hk => .inr hk⟩
    · intro k hk
      rcases hk with hk | hk
      · exact ⟨(h3 k hk).1, fun hs => (h3 k hk).2 (k5 k hs).1, fun hs => (h3 k hk).2 (k6 k hs)⟩
      · exact ⟨h4 k (k4 k hk).1, (k4 k hk).2.1, (k4 k hk).2.2⟩

theorem rexs_join {w : World} : ∀ {A B : List Data} {t : Data} {S SA ST SB : Nat → Prop} {xa c xb : List Value}, RexsIs w A SA xa → RexIs w t ST c → RexsIs w B SB xb →
    (∀ k, SA k → S k ∧ ¬ ST k ∧ ¬ SB k) → (∀ k, ST k → S k ∧ ¬ SB k) → (∀ k, SB k → S k) → RexsIs w (A ++ t :: B) S (xa ++ (c ++ xb))
  | [], B, t, S, SA, ST, SB, xa, c, xb, h1, h2, h3, h4, h5, h6 => by
    simp only [RexsIs] at h1
    subst h1
    simp only [List.nil_append, RexsIs]
    exact ⟨ST, SB, c, xb, rfl, h2, h3, h5, h6⟩
  | a :: A, B, t, S, SA, ST, SB, xa, c, xb, h1, h2, h3, h4, h5, h6 => by
    simp only [RexsIs] at h1
    obtain ⟨S1, S2, c1, c2, rfl, a1, a2, a3, a4⟩ := h1
    simp only [List.cons_append, RexsIs]
    refine ⟨S1, fun k => S2 k ∨ ST k ∨ SB k, c1, c2 ++ (c ++ xb), by simp, a1, rexs_join (S := fun k => S2 k ∨ ST k ∨ SB k) a2 h2 h3 (fun k hk => ⟨.inl hk, (h4 k (a4 k hk)).2⟩) (fun k hk => ⟨.inr (.inl hk), (h5 k hk).2⟩) (fun k hk => .inr (.inr hk)), ?_, ?_⟩
    · intro k hk
      have h := h4 k (a3 k hk).1
      exact ⟨h.1, fun hs => hs.elim (a3 k hk).2 fun hs => hs.elim h.2.1 h.2.2⟩
    · intro k hk
      rcases hk with hk | hk | hk
      · exact (h4 k (a4 k hk)).1
      · exact (h5 k hk).1
      · exact h6 k hk

theorem owns_set {w : World} {e size n cap g : Nat} {xs : List Value} (h : w.ownsRow 0 e size (.slice (some ⟨g, 0, none⟩) n cap) n xs) (i : Nat) (x : Value) : (w.setCell ⟨g, i, none⟩ x).ownsRow 0 e size (.slice (some ⟨g, 0, none⟩) n cap) n (xs.set i x) := by
  refine ⟨by simpa using h.1, .inr ?_⟩
  rcases h.2 with ⟨hv, _⟩ | ⟨g', cap', cur, hv, _, hg, h1, h2, h3, h4⟩
  · simp at hv
  · simp only [Value.slice.injEq, Option.some.injEq, Addr.mk.injEq] at hv
    obtain ⟨⟨rfl, _, _⟩, _, rfl⟩ := hv
    refine ⟨g, cap, cur.set! i x, rfl, Nat.zero_le _, ?_, h1, h2, by simpa using h3, ?_⟩
    · simp [World.setCell, Array.getElem?_modify, hg]
    · rw [← h4]
      simp [Array.set!_eq_setIfInBounds, List.take_set]

end Rx
end Go.Proofs.YtnbnbohhbflgaakDoor
