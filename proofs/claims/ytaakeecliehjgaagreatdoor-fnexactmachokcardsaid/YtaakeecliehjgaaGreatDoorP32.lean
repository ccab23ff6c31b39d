/-
  Atoms of chapter 3.
-/
import Derived.Test.YtaakeecliehjgaaGreatDoorP31
namespace Go.Proofs.YtaakeecliehjgaaGreatDoor
open Go.RowKit
namespace Rx

/-- From place m on, the function F of the reader reads as r tells. -/
def Parses (F : Nat) (p : Nat) (s : ByteArray) (a : Addr) (m : Nat) (r : Nat → Option (Data × Nat)) : Prop :=
  ∀ (i : Nat) (w : World), Rd p s a i w → i ≤ s.size → m ≤ i → Calls Tryz.prog F #[.pointer (some ⟨p, 0, none⟩)] w fun e w' => Reads p s a w (r i) e w'

theorem reads_none {p : Nat} {s : ByteArray} {a : Addr} {w w' : World} {r : Option (Data × Nat)} {e : Ending} (h : Reads p s a w r e w') (hr : r = none) : e = .panicked [{ v := errV a, recovered := false }] ∧ w.grownBy w' (some p) := by
  rw [hr] at h; exact h
theorem reads_some {p : Nat} {s : ByteArray} {a : Addr} {w w' : World} {r : Option (Data × Nat)} {e : Ending} {t : Data} {j : Nat} (h : Reads p s a w r e w') (hr : r = some (t, j)) :
    ∃ v, e = .returned v ∧ PatIs w' t (Iv w.heap.size w'.heap.size) v ∧ Rd p s a j w' ∧ w.grownBy w' (some p) := by
  rw [hr] at h; exact h

/-- What was read stays, where only the reader turns. -/
theorem pat_grown {p : Nat} {w w' : World} {lo hi lo' hi' : Nat} {t : Data} {v : Value} (h : PatIs w t (Iv lo hi) v) (hg : w.grownBy w' (some p)) (hp : p < lo) (h1 : hi ≤ w.heap.size) (h2 : lo' ≤ lo) (h3 : hi ≤ hi') : PatIs w' t (Iv lo' hi') v :=
  pat_frame (fun k hk => hg.block k (by have := hk.2; omega) (by have := hk.1; simp; omega)) (fun k hk => ⟨by have := hk.1; omega, by have := hk.2; omega⟩) t v h

theorem iBracketed {p : Nat} {s : ByteArray} {a : Addr} {m : Nat} {r : Nat → Option (Data × Nat)} (hs : s.size ≤ 1000) (hr : ∀ i t j, r i = some (t, j) → i ≤ j ∧ (i ≤ s.size → j ≤ s.size))
    (hP : Parses 125 p s a m r) : Parses 164 p s a m fun i => shut (gOf s) (r i) := by
  intro i w h hi hm
  obtain ⟨R, hR⟩ : ∃ R, R = shut (gOf s) (r i) := ⟨_, rfl⟩
  show Calls _ _ _ _ fun e w' => Reads p s a w (shut (gOf s) (r i)) e w'
  rw [← hR]
  rcases hq : r i with _ | ⟨t, j⟩
  · have HR : Hid (R = none) := by show R = none; rw [hR, hq]; rfl
    clear hR
    go_enter Tryz.func164, Tryz.ntmps164
    go_wp2_with (go_at_call 125; refine (hP i w h hi hm).mono ?_; intro e w1 h1; obtain ⟨rfl, hg1⟩ := reads_none h1 hq)
    refine ⟨rfl, ?_⟩
    rw [HR.out]
    exact ⟨rfl, hg1⟩
  · have hj := (hr i t j hq).2 hi
    by_cases h41 : gOf s j = 41
    · have HR : Hid (R = some (t, j + 1)) := by show _ = _; rw [hR, hq]; simp [shut, h41]
      clear hR
      have e1 : decide (gOf s j = 41) = true := decide_eq_true h41
      go_enter Tryz.func164, Tryz.ntmps164
      go_wp2_with (first | (go_at_call 125; refine (hP i w h hi hm).mono ?_; intro e w1 h1; obtain ⟨v, rfl, hv, h2, hg1⟩ := reads_some h1 hq) | (go_at_call 140; refine (iTakeIf h2 hj hs 41 (by omega)).mono ?_; rintro e w2 ⟨rfl, h3, hg2⟩; rw [if_pos h41] at h3))
      go_ret
      rw [HR.out]
      exact ⟨v, rfl, pat_grown hv hg2 h.lt (Nat.le_refl _) (Nat.le_refl _) hg2.size, h3, hg1.trans hg2⟩
    · have HR : Hid (R = none) := by show _ = _; rw [hR, hq]; simp [shut, h41]
      clear hR
      have e1 : decide (gOf s j = 41) = false := decide_eq_false h41
      go_enter Tryz.func164, Tryz.ntmps164
      go_wp2_with (first | (go_at_call 125; refine (hP i w h hi hm).mono ?_; intro e w1 h1; obtain ⟨v, rfl, hv, h2, hg1⟩ := reads_some h1 hq) | (go_at_call 140; refine (iTakeIf h2 hj hs 41 (by omega)).mono ?_; rintro e w2 ⟨rfl, h3, hg2⟩; have c3 := h3.err))
      refine ⟨rfl, ?_⟩
      rw [HR.out]
      exact ⟨rfl, hg1.trans hg2⟩

theorem reads_left {p : Nat} {s : ByteArray} {a : Addr} {w w1 w' : World} {r : Option (Data × Nat)} {e : Ending} (hg : w.grownBy w1 (some p)) (h : Reads p s a w1 r e w') : Reads p s a w r e w' := by
  rcases r with _ | ⟨t, j⟩
  · exact ⟨h.1, hg.trans h.2⟩
  · obtain ⟨v, h1, h2, h3, h4⟩ := h
    exact ⟨v, h1, pat_frame (fun _ _ => rfl) (fun k hk => ⟨Nat.le_trans hg.size hk.1, hk.2⟩) t v h2, h3, hg.trans h4⟩

theorem pat_leaf {w : World} {S : Nat → Prop} {op c : Nat} {s : List UInt8} {no : Bool} {v : Value} (h : Leaf op c s no v) : PatIs w (nd op c s no []) S v := by
  rw [pat_nd]
  exact .inl ⟨rfl, h⟩

set_option maxHeartbeats 1000000 in
theorem iAtom {p : Nat} {s : ByteArray} {a : Addr} {m : Nat} {r : Nat → Option (Data × Nat)} (hs : s.size ≤ 1000) (hr : ∀ i t j, r i = some (t, j) → i ≤ j ∧ (i ≤ s.size → j ≤ s.size))
    (hP : Parses 125 p s a (m + 1) r) : Parses 155 p s a m (atomAt (gOf s) s.size r) := by
  intro i w h hi hm
  obtain ⟨R, hR⟩ : ∃ R, R = atomAt (gOf s) s.size r i := ⟨_, rfl⟩
  rw [← hR]
  unfold atomAt at hR
  rcases Nat.lt_or_ge i s.size with hq | hq
  · have hlt := gOf_lt hq
    rw [if_neg (show gOf s i ≠ 256 by omega)] at hR
    by_cases h40 : gOf s i = 40
    · rw [if_pos h40] at hR
      have HR : Hid (R = shut (gOf s) (r (i + 1))) := hR
      clear hR
      rcases hq2 : shut (gOf s) (r (i + 1)) with _ | ⟨t, j⟩
      · go_enter Tryz.func155, Tryz.ntmps155
        go_wp2_with (first | (go_at_call 163; with_reducible refine (iTake h hq hs).mono ?_; rintro e w1 ⟨rfl, h1, hg1⟩; simp only [h40]) | (go_at_call 164; refine (iBracketed hs hr hP (i + 1) w1 h1 (by omega) (by omega)).mono ?_; intro e w2 h2; obtain ⟨rfl, hg2⟩ := reads_none h2 hq2))
        refine ⟨rfl, ?_⟩
        rw [HR.out, hq2]
        exact ⟨rfl, hg1.trans hg2⟩
      · go_enter Tryz.func155, Tryz.ntmps155
        go_wp2_with (first | (go_at_call 163; with_reducible refine (iTake h hq hs).mono ?_; rintro e w1 ⟨rfl, h1, hg1⟩; simp only [h40]) | (go_at_call 164; refine (iBracketed hs hr hP (i + 1) w1 h1 (by omega) (by omega)).mono ?_; intro e w2 h2; obtain ⟨v, rfl, hv, h3, hg2⟩ := reads_some h2 hq2))
        go_ret
        rw [HR.out, hq2]
        exact reads_left hg1 ⟨v, rfl, hv, h3, hg2⟩
    rw [if_neg h40] at hR
    by_cases h46 : gOf s i = 46
    · rw [if_pos h46] at hR
      have HR : Hid (R = some (leaf 2, i + 1)) := hR
      clear hR
      go_enter Tryz.func155, Tryz.ntmps155
      go_wp2_with (go_at_call 163; with_reducible refine (iTake h hq hs).mono ?_; rintro e w1 ⟨rfl, h1, hg1⟩; simp only [h46])
      go_ret
      rw [HR.out]
      exact ⟨_, rfl, pat_leaf (.inr (.inl ⟨rfl, rfl, rfl, rfl, rfl⟩)), h1, hg1⟩
    rw [if_neg h46] at hR
    by_cases h94 : gOf s i = 94
    · rw [if_pos h94] at hR
      have HR : Hid (R = some (leaf 4, i + 1)) := hR
      clear hR
      go_enter Tryz.func155, Tryz.ntmps155
      go_wp2_with (go_at_call 163; with_reducible refine (iTake h hq hs).mono ?_; rintro e w1 ⟨rfl, h1, hg1⟩; simp only [h94])
      go_ret
      rw [HR.out]
      exact ⟨_, rfl, pat_leaf (.inr (.inr (.inr (.inl ⟨rfl, rfl, rfl, rfl, rfl⟩)))), h1, hg1⟩
    rw [if_neg h94] at hR
    by_cases h36 : gOf s i = 36
    · rw [if_pos h36] at hR
      have HR : Hid (R = some (leaf 5, i + 1)) := hR
      clear hR
      go_enter Tryz.func155, Tryz.ntmps155
      go_wp2_with (go_at_call 163; with_reducible refine (iTake h hq hs).mono ?_; rintro e w1 ⟨rfl, h1, hg1⟩; simp only [h36])
      go_ret
      rw [HR.out]
      exact ⟨_, rfl, pat_leaf (.inr (.inr (.inr (.inr (.inl ⟨rfl, rfl, rfl, rfl, rfl⟩))))), h1, hg1⟩
    rw [if_neg h36] at hR
    by_cases h91 : gOf s i = 91
    · rw [if_pos h91] at hR
      have HR : Hid (R = setAt (gOf s) s.size (i + 1)) := hR
      clear hR
      rcases hq2 : setAt (gOf s) s.size (i + 1) with _ | ⟨t, j⟩
      · go_enter Tryz.func155, Tryz.ntmps155
        go_wp2_with (first | (go_at_call 163; with_reducible refine (iTake h hq hs).mono ?_; rintro e w1 ⟨rfl, h1, hg1⟩; simp only [h91]) | (go_at_call 165; refine (iSet h1 hq hs).mono ?_; intro e w2 h2; obtain ⟨rfl, hg2⟩ := reads_none h2 hq2))
        refine ⟨rfl, ?_⟩
        rw [HR.out, hq2]
        exact ⟨rfl, hg1.trans hg2⟩
      · go_enter Tryz.func155, Tryz.ntmps155
        go_wp2_with (first | (go_at_call 163; with_reducible refine (iTake h hq hs).mono ?_; rintro e w1 ⟨rfl, h1, hg1⟩; simp only [h91]) | (go_at_call 165; refine (iSet h1 hq hs).mono ?_; intro e w2 h2; obtain ⟨v, rfl, hv, h3, hg2⟩ := reads_some h2 hq2))
        go_ret
        rw [HR.out, hq2]
        exact reads_left hg1 ⟨v, rfl, hv, h3, hg2⟩
    rw [if_neg h91] at hR
    by_cases h92 : gOf s i = 92
    · rw [if_pos h92] at hR
      rcases Nat.lt_or_ge (i + 1) s.size with hq2 | hq2
      · have hlt2 := gOf_lt hq2
        rw [if_neg (show gOf s (i + 1) ≠ 256 by omega)] at hR
        have HR : Hid (R = some (chr (gOf s (i + 1)), i + 2)) := hR
        clear hR
        go_enter Tryz.func155, Tryz.ntmps155
        go_wp2_with (first | (go_at_call 163; with_reducible refine (iTake h hq hs).mono ?_; rintro e w1 ⟨rfl, h1, hg1⟩; simp only [h92]) | (go_at_call 163; with_reducible refine (iTake h1 hq2 hs).mono ?_; rintro e w2 ⟨rfl, h2, hg2⟩))
        go_ret
        rw [HR.out]
        exact ⟨_, rfl, pat_leaf (.inl ⟨rfl, hlt2, rfl, rfl, rfl⟩), h2, hg1.trans hg2⟩
      · rw [if_pos (gOf_out hq2)] at hR
        have HR : Hid (R = none) := hR
        clear hR
        go_enter Tryz.func155, Tryz.ntmps155
        go_wp2_with (first | (go_at_call 163; with_reducible refine (iTake h hq hs).mono ?_; rintro e w1 ⟨rfl, h1, hg1⟩; simp only [h92]) | (go_at_call 163; with_reducible refine (iTakeEnd h1 (by omega)).mono ?_; rintro e w2 ⟨rfl, hg2⟩))
        refine ⟨rfl, ?_⟩
        rw [HR.out]
        exact ⟨rfl, hg1.trans hg2⟩
    rw [if_neg h92] at hR
    by_cases hst : gOf s i = 42 ∨ gOf s i = 43 ∨ gOf s i = 63
    · rw [if_pos hst] at hR
      have HR : Hid (R = none) := hR
      clear hR
      rcases hst with h0 | h0 | h0
      · go_enter Tryz.func155, Tryz.ntmps155
        go_wp2_with (go_at_call 163; with_reducible refine (iTake h hq hs).mono ?_; rintro e w1 ⟨rfl, h1, hg1⟩; simp only [h0]; have c1 := h1.err)
        refine ⟨rfl, ?_⟩
        rw [HR.out]
        exact ⟨rfl, hg1⟩
      · go_enter Tryz.func155, Tryz.ntmps155
        go_wp2_with (go_at_call 163; with_reducible refine (iTake h hq hs).mono ?_; rintro e w1 ⟨rfl, h1, hg1⟩; simp only [h0]; have c1 := h1.err)
        refine ⟨rfl, ?_⟩
        rw [HR.out]
        exact ⟨rfl, hg1⟩
      · go_enter Tryz.func155, Tryz.ntmps155
        go_wp2_with (go_at_call 163; with_reducible refine (iTake h hq hs).mono ?_; rintro e w1 ⟨rfl, h1, hg1⟩; simp only [h0]; have c1 := h1.err)
        refine ⟨rfl, ?_⟩
        rw [HR.out]
        exact ⟨rfl, hg1⟩
    · rw [if_neg hst] at hR
      have HR : Hid (R = some (chr (gOf s i), i + 1)) := hR
      clear hR
      have n40 : ((gOf s i : Int) == 40) = false := by simp; omega
      have n46 : ((gOf s i : Int) == 46) = false := by simp; omega
      have n94 : ((gOf s i : Int) == 94) = false := by simp; omega
      have n36 : ((gOf s i : Int) == 36) = false := by simp; omega
      have n91 : ((gOf s i : Int) == 91) = false := by simp; omega
      have n92 : ((gOf s i : Int) == 92) = false := by simp; omega
      have n42 : ((gOf s i : Int) == 42) = false := by simp; omega
      have n43 : ((gOf s i : Int) == 43) = false := by simp; omega
      have n63 : ((gOf s i : Int) == 63) = false := by simp; omega
      go_enter Tryz.func155, Tryz.ntmps155
      go_wp2_with (go_at_call 163; with_reducible refine (iTake h hq hs).mono ?_; rintro e w1 ⟨rfl, h1, hg1⟩)
      go_ret
      rw [HR.out]
      exact ⟨_, rfl, pat_leaf (.inl ⟨rfl, hlt, rfl, rfl, rfl⟩), h1, hg1⟩
  · rw [if_pos (gOf_out hq)] at hR
    have HR : Hid (R = none) := hR
    clear hR
    go_enter Tryz.func155, Tryz.ntmps155
    go_wp2_with (go_at_call 163; with_reducible refine (iTakeEnd h (by omega)).mono ?_; rintro e w1 ⟨rfl, hg1⟩)
    refine ⟨rfl, ?_⟩
    rw [HR.out]
    exact ⟨rfl, hg1⟩

end Rx
end Go.Proofs.YtaakeecliehjgaaGreatDoor
