/-
  The sets of chapter 3: HasPrefix, span.
-/
import Derived.Test.YtkpgdlbcckmpkaaGreatDoorP29
namespace Go.Proofs.YtkpgdlbcckmpkaaGreatDoor
open Go.RowKit
namespace Rx

/-- Whether a text begins with '-' and ']'. -/
def minusShut (t : ByteArray) : Bool := decide (gOf t 0 = 45 ∧ gOf t 1 = 93)

theorem minusShut_is {t : ByteArray} (h : 2 ≤ t.size) : ((t.extract 0 2).toList == [45, 93]) = minusShut t := by
  have e0 := gOf_in (s := t) (i := 0) (by omega)
  have e1 := gOf_in (s := t) (i := 1) (by omega)
  have e : (t.extract 0 2).toList = [t[0], t[1]] := by
    rw [ByteArray.toList_eq]
    apply List.ext_getElem
    · simp; omega
    · intro k h1 h2
      simp at h2
      rcases Nat.lt_or_ge k 1 with h3 | h3
      · obtain rfl : k = 0 := by omega
        simp [ByteArray.data_extract]; rfl
      · obtain rfl : k = 1 := by omega
        simp [ByteArray.data_extract]; rfl
  unfold minusShut
  rw [e, e0, e1]
  have k : ∀ (x : UInt8) (n : Nat), n < 256 → (x == UInt8.ofNat n) = decide (x.toNat = n) := by
    intro x n hn
    by_cases h : x.toNat = n
    · subst h; simp
    · rw [decide_eq_false h]
      simp
      intro h2
      apply h
      rw [h2]
      simp; omega
  have k45 := k t[0] 45 (by omega)
  have k93 := k t[1] 93 (by omega)
  show ((t[0] == 45) && ((t[1] == 93) && true)) = _
  rw [show (45 : UInt8) = UInt8.ofNat 45 from rfl, show (93 : UInt8) = UInt8.ofNat 93 from rfl, k45, k93]
  simp [Bool.decide_and]

theorem gOf_extract {s : ByteArray} {i : Nat} (h : i ≤ s.size) (k : Nat) : gOf (s.extract i s.size) k = gOf s (i + k) := by
  have hs : (s.extract i s.size).size = s.size - i := by simp [ByteArray.size_extract]
  rcases Nat.lt_or_ge (i + k) s.size with h1 | h1
  · rw [gOf_in h1, gOf_in (by omega)]
    simp [ByteArray.getElem_extract]
  · rw [gOf_out h1, gOf_out (by omega)]

theorem minusShut_at {s : ByteArray} {i : Nat} (h : i ≤ s.size) : minusShut (s.extract i s.size) = decide (gOf s i = 45 ∧ gOf s (i + 1) = 93) := by
  unfold minusShut
  rw [gOf_extract h, gOf_extract h]
  rfl

theorem iHas (t : ByteArray) (w : World) (ht : t.size ≤ 1000) :
    Calls Tryz.prog 104 #[.string t, .string ⟨#[45, 93]⟩] w fun e w' => e = .returned (.bool (minusShut t)) ∧ w' = w := by
  rcases Nat.lt_or_ge t.size 2 with h | h
  · have e : minusShut t = false := by
      unfold minusShut
      rw [gOf_out (s := t) (i := 1) (by omega)]
      simp
    rw [e]
    go_enter Tryz.func104, Tryz.ntmps104
    go_wp2
    go_ret
    exact ⟨rfl, rfl⟩
  · have e := minusShut_is h
    have H : Hid (((t.extract 0 2).toList == [45, 93]) = minusShut t) := e
    clear e
    go_enter Tryz.func104, Tryz.ntmps104
    go_wp2
    go_ret
    exact ⟨by rw [← H.out]; rfl, rfl⟩

/-- A byte of a set, or a row of them. -/
def spanAt (g : Nat → Nat) (i : Nat) : Option (Nat × Nat × Nat) :=
  if g i = 256 then none
  else if g (i + 1) = 45 ∧ g (i + 2) ≠ 93 then (if g (i + 2) = 256 ∨ g (i + 2) < g i then none else some (g i, g (i + 2), i + 3))
  else some (g i, g i, i + 1)

def SpanIs (p : Nat) (s : ByteArray) (a : Addr) (w : World) (r : Option (Nat × Nat × Nat)) (e : Ending) (w' : World) : Prop := match r with
  | none => e = .panicked [{ v := errV a, recovered := false }] ∧ w.grownBy w' (some p)
  | some (lo, hi, j) => e = .returned (.tuple #[.int .u8 lo, .int .u8 hi]) ∧ Rd p s a j w' ∧ w.grownBy w' (some p)

theorem grown_drewN_left {w w' : World} {row : Option Nat} {n : Nat} (h : (w.drewN n).grownBy w' row) : w.grownBy w' row := ⟨h.os, h.tape, h.output, h.size, h.block⟩

theorem iSpan {p : Nat} {s : ByteArray} {a : Addr} {i : Nat} {w : World} (h : Rd p s a i w) (hi : i ≤ s.size) (hs : s.size ≤ 1000) :
    Calls Tryz.prog 102 #[.pointer (some ⟨p, 0, none⟩)] w fun e w' => SpanIs p s a w (spanAt (gOf s) i) e w' := by
  rcases Nat.lt_or_ge i s.size with hq | hq
  · have hlt := gOf_lt hq
    unfold spanAt
    rw [if_neg (by omega)]
    by_cases h1 : gOf s (i + 1) = 45
    · have hq1 : i + 1 < s.size := in_of (by omega)
      have e1 : decide (gOf s (i + 1) = 45) = true := decide_eq_true h1
      have hms := minusShut_at (s := s) (i := i + 1) (by omega)
      by_cases h2 : gOf s (i + 2) = 93
      · have e2 : minusShut (s.extract (i + 1) s.size) = true := by rw [hms]; simp [h1, h2]
        rw [if_neg (by simp [h2])]
        go_enter Tryz.func102, Tryz.ntmps102
        go_wp2_with (go_at_call 99; refine (iTake h hq hs).mono ?_; rintro e w1 ⟨rfl, h', hg⟩)
        have c1 := h'.text
        have c2 := h'.pos
        go_quiet (first | (go_at_call 95; exact Calls.quiet_of (iSees (h'.drewN _) hq 45 (by omega))) | (go_at_call 104; exact Calls.quiet_of_same (iHas _ _ (by simp; omega))))
        go_wp2_with fail
        go_ret2
        exact ⟨rfl, h'.drewN _, grown_drewN hg _⟩
      · have e2 : minusShut (s.extract (i + 1) s.size) = false := by rw [hms]; simp [h2]
        rw [if_pos ⟨h1, h2⟩]
        rcases Nat.lt_or_ge (i + 2) s.size with hq2 | hq2
        · have hlt2 := gOf_lt hq2
          by_cases h3 : gOf s (i + 2) < gOf s i
          · have h3' : (gOf s (i + 2) : Int) < gOf s i := by omega
            have c3 := h.err
            rw [if_pos (.inr h3)]
            go_enter Tryz.func102, Tryz.ntmps102
            go_wp2_with (go_at_call 99; refine (iTake h hq hs).mono ?_; rintro e w1 ⟨rfl, h', hg⟩)
            have c1 := h'.text
            have c2 := h'.pos
            go_quiet (first | (go_at_call 95; exact Calls.quiet_of (iSees (h'.drewN _) hq 45 (by omega))) | (go_at_call 104; exact Calls.quiet_of_same (iHas _ _ (by simp; omega))))
            go_wp2_with (first | (go_at_call 99; with_reducible refine (iTake (h'.drewN _) hq1 hs).mono ?_; rintro e w2 ⟨rfl, h2', hg2⟩; have c4 := h2'.err) | (go_at_call 99; with_reducible refine (iTake h2' hq2 hs).mono ?_; rintro e w3 ⟨rfl, h3', hg3⟩; have c5 := h3'.err))
            exact ⟨rfl, rfl, (hg.trans (grown_drewN_left hg2)).trans hg3⟩
          · have h3' : (gOf s i : Int) ≤ gOf s (i + 2) := by omega
            rw [if_neg (by omega)]
            go_enter Tryz.func102, Tryz.ntmps102
            go_wp2_with (go_at_call 99; refine (iTake h hq hs).mono ?_; rintro e w1 ⟨rfl, h', hg⟩)
            have c1 := h'.text
            have c2 := h'.pos
            go_quiet (first | (go_at_call 95; exact Calls.quiet_of (iSees (h'.drewN _) hq 45 (by omega))) | (go_at_call 104; exact Calls.quiet_of_same (iHas _ _ (by simp; omega))))
            go_wp2_with (first | (go_at_call 99; with_reducible refine (iTake (h'.drewN _) hq1 hs).mono ?_; rintro e w2 ⟨rfl, h2', hg2⟩) | (go_at_call 99; with_reducible refine (iTake h2' hq2 hs).mono ?_; rintro e w3 ⟨rfl, h3', hg3⟩))
            go_ret2
            exact ⟨rfl, h3', (hg.trans (grown_drewN_left hg2)).trans hg3⟩
        · rw [if_pos (.inl (gOf_out hq2))]
          go_enter Tryz.func102, Tryz.ntmps102
          go_wp2_with (go_at_call 99; refine (iTake h hq hs).mono ?_; rintro e w1 ⟨rfl, h', hg⟩)
          have c1 := h'.text
          have c2 := h'.pos
          go_quiet (first | (go_at_call 95; exact Calls.quiet_of (iSees (h'.drewN _) hq 45 (by omega))) | (go_at_call 104; exact Calls.quiet_of_same (iHas _ _ (by simp; omega))))
          go_wp2_with (first | (go_at_call 99; with_reducible refine (iTake (h'.drewN _) hq1 hs).mono ?_; rintro e w2 ⟨rfl, h2', hg2⟩) | (go_at_call 99; with_reducible refine (iTakeEnd h2' (by omega)).mono ?_; rintro e w3 ⟨rfl, hg3⟩))
          exact ⟨rfl, rfl, (hg.trans (grown_drewN_left hg2)).trans hg3⟩
    · have e1 : decide (gOf s (i + 1) = 45) = false := decide_eq_false h1
      rw [if_neg (by simp [h1])]
      go_enter Tryz.func102, Tryz.ntmps102
      go_wp2_with (go_at_call 99; refine (iTake h hq hs).mono ?_; rintro e w1 ⟨rfl, h', hg⟩)
      go_quiet (first | (go_at_call 95; exact Calls.quiet_of (iSees (h'.drewN _) hq 45 (by omega))))
      go_wp2_with fail
      go_ret2
      exact ⟨rfl, h'.drewN _, grown_drewN hg _⟩
  · have e1 : gOf s i = 256 := gOf_out hq
    unfold spanAt
    rw [if_pos e1]
    go_enter Tryz.func102, Tryz.ntmps102
    go_wp2_with (go_at_call 99; refine (iTakeEnd h (by omega)).mono ?_; rintro e w1 ⟨rfl, hg⟩)
    exact ⟨rfl, rfl, hg⟩

end Rx
end Go.Proofs.YtkpgdlbcckmpkaaGreatDoor

