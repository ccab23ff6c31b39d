/-
  The reader of chapter 3: atEnd, sees, take, takeIf.
  The sets of chapter 3: HasPrefix, span.
-/
import Derived.Test.YtaakeecliehjgaaGreatDoorProg
import Derived.Test.YtaakeecliehjgaaGreatDoorP29
import Derived.WalkKit
import Derived.WalkLawsBesides
import Derived.Deep.QuietTactic
import Derived.BigQuiet
import Derived.Deep.RegionWith
namespace Go.Proofs.YtaakeecliehjgaaGreatDoor
open Go.RowKit
namespace Rx

/-- A text as a function. -/
def gOf (s : ByteArray) (i : Nat) : Nat := if h : i < s.size then s[i].toNat else 256

theorem gOf_in {s : ByteArray} {i : Nat} (h : i < s.size) : gOf s i = s[i].toNat := by unfold gOf; rw [dif_pos h]
theorem gOf_out {s : ByteArray} {i : Nat} (h : s.size ≤ i) : gOf s i = 256 := by unfold gOf; rw [dif_neg (by omega)]
theorem gOf_lt {s : ByteArray} {i : Nat} (h : i < s.size) : gOf s i < 256 := by rw [gOf_in h]; exact s[i].toNat_lt
theorem gOf_end {s : ByteArray} : ∀ i, s.size ≤ i → gOf s i = 256 := fun _ h => gOf_out h
theorem in_of {s : ByteArray} {i : Nat} (h : gOf s i ≠ 256) : i < s.size := lt_of_some gOf_end h

/-- What the package's sentinel holds. -/
def errV (a : Addr) : Value := .iface 254 (.pointer (some a))

/-- The reader at block p, at place i of s. -/
structure Rd (p : Nat) (s : ByteArray) (a : Addr) (i : Nat) (w : World) : Prop where
  text : w.cell? ⟨p, 0, none⟩ = some (.string s)
  pos : w.cell? ⟨p, 1, none⟩ = some (.int .i64 i)
  fr : w.frozen? ⟨p, 1, none⟩ = false
  err : w.cell? ⟨0, 0, none⟩ = some (.iface 254 (.pointer (some a)))
  ne : 0 ≠ p

theorem Rd.lt {p : Nat} {s : ByteArray} {a : Addr} {i : Nat} {w : World} (h : Rd p s a i w) : p < w.heap.size := World.block_lt_of_cell? w _ h.text
theorem Rd.elt {p : Nat} {s : ByteArray} {a : Addr} {i : Nat} {w : World} (h : Rd p s a i w) : 0 < w.heap.size := World.block_lt_of_cell? w _ h.err

/-- What turns no block of the reader's leaves it. -/
theorem Rd.kept {p : Nat} {s : ByteArray} {a : Addr} {i : Nat} {w w' : World} (h : Rd p s a i w) (h1 : w'.heap[p]? = w.heap[p]?) (h2 : w'.heap[0]? = w.heap[0]?) : Rd p s a i w' :=
  ⟨(World.cell?_of_block h1).trans h.text, (World.cell?_of_block h1).trans h.pos, (World.frozen?_of_block h1).trans h.fr, (World.cell?_of_block h2).trans h.err, h.ne⟩

theorem Rd.below {p : Nat} {s : ByteArray} {a : Addr} {i B : Nat} {w w' : World} (h : Rd p s a i w) (hb : Below B w w') (hp : p < B) (he : 0 < B) : Rd p s a i w' := h.kept (hb.block _ hp) (hb.block _ he)

theorem Rd.grown {p : Nat} {s : ByteArray} {a : Addr} {i : Nat} {w w' : World} {row : Option Nat} (h : Rd p s a i w) (hg : w.grownBy w' row) (h1 : row ≠ some p) (h2 : row ≠ some 0) : Rd p s a i w' :=
  h.kept (hg.block _ h.lt fun e => h1 e.symm) (hg.block _ h.elt fun e => h2 e.symm)

theorem grown_of_below {w w' : World} (h : Below w.heap.size w w') (row : Option Nat) : w.grownBy w' row := ⟨h.os, h.tape, h.output, h.size, fun k hk _ => h.block k hk⟩

theorem Rd.set {p : Nat} {s : ByteArray} {a : Addr} {i : Nat} {w : World} (h : Rd p s a i w) (j : Nat) : Rd p s a j (w.setCell ⟨p, 1, none⟩ (.int .i64 j)) := by
  have he : (w.setCell ⟨p, 1, none⟩ (.int .i64 j)).heap[0]? = w.heap[0]? := Below.heap_setCell _ _ _ _ h.ne
  refine ⟨?_, ?_, ?_, (World.cell?_of_block he).trans h.err, h.ne⟩
  · rw [World.cell?_setCell_other _ _ _ _ (by simp)]; exact h.text
  · exact World.cell?_setCell_same _ _ _ h.pos
  · simpa using h.fr

theorem grown_set (w : World) (a : Addr) (v : Value) : w.grownBy (w.setCell a v) (some a.block) :=
  ⟨rfl, rfl, rfl, by simp, fun k _ hne => Below.heap_setCell _ _ _ _ fun e => hne (by rw [e])⟩

theorem Rd.drewN {p : Nat} {s : ByteArray} {a : Addr} {i : Nat} {w : World} (h : Rd p s a i w) (n : Nat) : Rd p s a i (w.drewN n) := ⟨h.text, h.pos, h.fr, h.err, h.ne⟩

theorem at_is {s : ByteArray} {i : Nat} (h : i ≤ s.size) : ((i : Int) == (s.size : Int)) = decide (gOf s i = 256) := by
  rcases Nat.lt_or_ge i s.size with h1 | h1
  · have := gOf_lt h1
    rw [decide_eq_false (by omega)]
    simp; omega
  · rw [decide_eq_true (gOf_out h1)]
    simp; omega

theorem Rd.next {p : Nat} {s : ByteArray} {a : Addr} {i : Nat} {w : World} (h : Rd p s a i w) : Rd p s a (i + 1) (w.setCell ⟨p, 1, none⟩ (.int .i64 ((i : Int) + 1))) := h.set (i + 1)
theorem grown_drewN {w w' : World} {row : Option Nat} (h : w.grownBy w' row) (n : Nat) : w.grownBy (w'.drewN n) row := ⟨h.os, h.tape, h.output, h.size, h.block⟩

theorem iAtEnd {p : Nat} {s : ByteArray} {a : Addr} {i : Nat} {w : World} (h : Rd p s a i w) (hi : i ≤ s.size) :
    Calls Tryz.prog 126 #[.pointer (some ⟨p, 0, none⟩)] w fun e w' => e = .returned (.bool (decide (gOf s i = 256))) ∧ ∃ n, w' = w.drewN n := by
  have h1 := h.text
  have h2 := h.pos
  have H : Hid (((i : Int) == (s.size : Int)) = decide (gOf s i = 256)) := at_is hi
  go_enter Tryz.func126, Tryz.ntmps126
  go_wp2
  go_quiet (fail)
  go_wp2
  go_ret
  exact ⟨by rw [← H.out]; rfl, _, rfl⟩

theorem nat_eqb (a b : Nat) : ((a : Int) == (b : Int)) = decide (a = b) := by
  by_cases h : a = b
  · subst h; simp
  · rw [decide_eq_false h]; simp; omega

theorem iSees {p : Nat} {s : ByteArray} {a : Addr} {i : Nat} {w : World} (h : Rd p s a i w) (hi : i ≤ s.size) (b : Nat) (hb : b < 256) :
    Calls Tryz.prog 148 #[.pointer (some ⟨p, 0, none⟩), .int .u8 b] w fun e w' => e = .returned (.bool (decide (gOf s i = b))) ∧ ∃ n, w' = w.drewN n := by
  have h1 := h.text
  have h2 := h.pos
  rcases Nat.lt_or_ge i s.size with hq | hq
  · have hlt := gOf_lt hq
    have e1 : decide (gOf s i = 256) = false := decide_eq_false (by omega)
    have H : Hid (gOf s i = s[i].toNat) := gOf_in hq
    go_enter Tryz.func148, Tryz.ntmps148
    go_wp2
    go_quiet (first | (go_at_call 126; exact Calls.quiet_of (iAtEnd (h.drewN _) hi)))
    go_wp2
    go_ret
    exact ⟨by rw [H.out]; exact congrArg (fun x => Ending.returned (Value.bool x)) (nat_eqb _ _), _, rfl⟩
  · have e1 : gOf s i = 256 := gOf_out hq
    have e2 : decide (256 = b) = false := decide_eq_false (by omega)
    rw [e1, e2]
    go_enter Tryz.func148, Tryz.ntmps148
    go_wp2
    go_quiet (first | (go_at_call 126; exact Calls.quiet_of (iAtEnd (h.drewN _) hi)))
    go_wp2
    go_ret
    exact ⟨rfl, _, rfl⟩

/-- The text ends here: no pattern. -/
theorem iTakeEnd {p : Nat} {s : ByteArray} {a : Addr} {i : Nat} {w : World} (h : Rd p s a i w) (hi : i = s.size) :
    Calls Tryz.prog 163 #[.pointer (some ⟨p, 0, none⟩)] w fun e w' => e = .panicked [{ v := errV a, recovered := false }] ∧ w.grownBy w' (some p) := by
  have h1 := h.text
  have h2 := h.pos
  have h3 := h.err
  have e1 : gOf s i = 256 := gOf_out (by omega)
  go_enter Tryz.func163, Tryz.ntmps163
  go_wp2_with (go_at_call 126; refine (iAtEnd h (by omega)).mono ?_; rintro e w' ⟨rfl, n, rfl⟩; simp only [e1])
  exact ⟨rfl, rfl, grown_drewN (World.grownBy.refl _ _) _⟩

theorem iTake {p : Nat} {s : ByteArray} {a : Addr} {i : Nat} {w : World} (h : Rd p s a i w) (hi : i < s.size) (hs : s.size ≤ 1000) :
    Calls Tryz.prog 163 #[.pointer (some ⟨p, 0, none⟩)] w fun e w' => e = .returned (.int .u8 (gOf s i)) ∧ Rd p s a (i + 1) w' ∧ w.grownBy w' (some p) := by
  have h1 := h.text
  have h2 := h.pos
  have h3 := h.fr
  have hlt := gOf_lt hi
  have e1 : decide (gOf s i = 256) = false := decide_eq_false (by omega)
  have H : Hid (gOf s i = s[i].toNat) := gOf_in hi
  go_enter Tryz.func163, Tryz.ntmps163
  go_wp2_with (go_at_call 126; refine (iAtEnd h (by omega)).mono ?_; rintro e w' ⟨rfl, n, rfl⟩)
  go_quiet (fail)
  go_wp2_with fail
  go_ret
  refine ⟨by rw [H.out]; rfl, ?_, ?_⟩
  · exact (h.next).drewN _
  · exact grown_drewN (grown_set w ⟨p, 1, none⟩ _) _

theorem iTakeIf {p : Nat} {s : ByteArray} {a : Addr} {i : Nat} {w : World} (h : Rd p s a i w) (hi : i ≤ s.size) (hs : s.size ≤ 1000) (b : Nat) (hb : b < 256) :
    Calls Tryz.prog 140 #[.pointer (some ⟨p, 0, none⟩), .int .u8 b] w fun e w' => e = .returned (.bool (decide (gOf s i = b))) ∧ Rd p s a (if gOf s i = b then i + 1 else i) w' ∧ w.grownBy w' (some p) := by
  by_cases hq : gOf s i = b
  · have e1 : decide (gOf s i = b) = true := decide_eq_true hq
    have h1 := h.pos
    have h2 := h.fr
    rw [if_pos hq]
    go_enter Tryz.func140, Tryz.ntmps140
    go_wp2_with (go_at_call 148; refine (iSees h hi b hb).mono ?_; rintro e w' ⟨rfl, n, rfl⟩)
    go_ret
    refine ⟨by rw [e1]; rfl, ?_, ?_⟩
    · exact (h.next).drewN _
    · exact grown_drewN (grown_set w ⟨p, 1, none⟩ _) _
  · have e1 : decide (gOf s i = b) = false := decide_eq_false hq
    rw [if_neg hq]
    go_enter Tryz.func140, Tryz.ntmps140
    go_wp2_with (go_at_call 148; refine (iSees h hi b hb).mono ?_; rintro e w' ⟨rfl, n, rfl⟩)
    go_ret
    exact ⟨by rw [e1]; rfl, h.drewN _, grown_drewN (World.grownBy.refl _ _) _⟩

/-- The same, the byte as it stands in a call. -/
theorem iTakeIfC {p : Nat} {s : ByteArray} {a : Addr} {i : Nat} {w : World} (h : Rd p s a i w) (hi : i ≤ s.size) (hs : s.size ≤ 1000) (b : Nat) (c : Int) (hb : b < 256) (hc : c = b) :
    Calls Tryz.prog 140 #[.pointer (some ⟨p, 0, none⟩), .int .u8 c] w fun e w' => e = .returned (.bool (decide (gOf s i = b))) ∧ Rd p s a (if gOf s i = b then i + 1 else i) w' ∧ w.grownBy w' (some p) := by
  subst hc; exact iTakeIf h hi hs b hb
theorem iSeesC {p : Nat} {s : ByteArray} {a : Addr} {i : Nat} {w : World} (h : Rd p s a i w) (hi : i ≤ s.size) (b : Nat) (c : Int) (hb : b < 256) (hc : c = b) :
    Calls Tryz.prog 148 #[.pointer (some ⟨p, 0, none⟩), .int .u8 c] w fun e w' => e = .returned (.bool (decide (gOf s i = b))) ∧ ∃ n, w' = w.drewN n := by
  subst hc; exact iSees h hi b hb

end Rx
end Go.Proofs.YtaakeecliehjgaaGreatDoor
namespace Go.Proofs.YtaakeecliehjgaaGreatDoor
open Go.RowKit
namespace Rx

/-- Whether a text begins with '-' and ']'. -/
def minusShut (t : ByteArray) : Bool := decide (gOf t 0 = 45 ∧ gOf t 1 = 93)

theorem minusShut_is {t : ByteArray} (h : 2 ≤ t.size) : ((t.extract 0 2).toList == [45, 93]) = minusShut t := by
  have e0 := gOf_in (s := t) (i := 0) (by omega)
  have e1 := gOf_in (s := t) (i := 1) (by omega)
  have e : (t.extract 0 2).toList = [t[0], t[1]] := by
    rw [ByteArray.toList_eq]
    apply List.ext_getElem
    · simp; omega
    · intro k h1 h2
      simp at h2
      rcases Nat.lt_or_ge k 1 with h3 | h3
      · obtain rfl : k = 0 := by omega
        simp [ByteArray.data_extract]; rfl
      · obtain rfl : k = 1 := by omega
        simp [ByteArray.data_extract]; rfl
  unfold minusShut
  rw [e, e0, e1]
  have k : ∀ (x : UInt8) (n : Nat), n < 256 → (x == UInt8.ofNat n) = decide (x.toNat = n) := by
    intro x n hn
    by_cases h : x.toNat = n
    · subst h; simp
    · rw [decide_eq_false h]
      simp
      intro h2
      apply h
      rw [h2]
      simp; omega
  have k45 := k t[0] 45 (by omega)
  have k93 := k t[1] 93 (by omega)
  show ((t[0] == 45) && ((t[1] == 93) && true)) = _
  rw [show (45 : UInt8) = UInt8.ofNat 45 from rfl, show (93 : UInt8) = UInt8.ofNat 93 from rfl, k45, k93]
  simp [Bool.decide_and]

theorem gOf_extract {s : ByteArray} {i : Nat} (h : i ≤ s.size) (k : Nat) : gOf (s.extract i s.size) k = gOf s (i + k) := by
  have hs : (s.extract i s.size).size = s.size - i := by simp [ByteArray.size_extract]
  rcases Nat.lt_or_ge (i + k) s.size with h1 | h1
  · rw [gOf_in h1, gOf_in (by omega)]
    simp [ByteArray.getElem_extract]
  · rw [gOf_out h1, gOf_out (by omega)]

theorem minusShut_at {s : ByteArray} {i : Nat} (h : i ≤ s.size) : minusShut (s.extract i s.size) = decide (gOf s i = 45 ∧ gOf s (i + 1) = 93) := by
  unfold minusShut
  rw [gOf_extract h, gOf_extract h]
  rfl

theorem iHas (t : ByteArray) (w : World) (ht : t.size ≤ 1000) :
    Calls Tryz.prog 158 #[.string t, .string ⟨#[45, 93]⟩] w fun e w' => e = .returned (.bool (minusShut t)) ∧ w' = w := by
  rcases Nat.lt_or_ge t.size 2 with h | h
  · have e : minusShut t = false := by
      unfold minusShut
      rw [gOf_out (s := t) (i := 1) (by omega)]
      simp
    rw [e]
    go_enter Tryz.func158, Tryz.ntmps158
    go_wp2
    go_ret
    exact ⟨rfl, rfl⟩
  · have e := minusShut_is h
    have H : Hid (((t.extract 0 2).toList == [45, 93]) = minusShut t) := e
    clear e
    go_enter Tryz.func158, Tryz.ntmps158
    go_wp2
    go_ret
    exact ⟨by rw [← H.out]; rfl, rfl⟩

/-- A byte of a set, or a row of them. -/
def spanAt (g : Nat → Nat) (i : Nat) : Option (Nat × Nat × Nat) :=
  if g i = 256 then none
  else if g (i + 1) = 45 ∧ g (i + 2) ≠ 93 then (if g (i + 2) = 256 ∨ g (i + 2) < g i then none else some (g i, g (i + 2), i + 3))
  else some (g i, g i, i + 1)

def SpanIs (p : Nat) (s : ByteArray) (a : Addr) (w : World) (r : Option (Nat × Nat × Nat)) (e : Ending) (w' : World) : Prop := match r with
  | none => e = .panicked [{ v := errV a, recovered := false }] ∧ w.grownBy w' (some p)
  | some (lo, hi, j) => e = .returned (.tuple #[.int .u8 lo, .int .u8 hi]) ∧ Rd p s a j w' ∧ w.grownBy w' (some p)

theorem grown_drewN_left {w w' : World} {row : Option Nat} {n : Nat} (h : (w.drewN n).grownBy w' row) : w.grownBy w' row := ⟨h.os, h.tape, h.output, h.size, h.block⟩

theorem iSpan {p : Nat} {s : ByteArray} {a : Addr} {i : Nat} {w : World} (h : Rd p s a i w) (hi : i ≤ s.size) (hs : s.size ≤ 1000) :
    Calls Tryz.prog 170 #[.pointer (some ⟨p, 0, none⟩)] w fun e w' => SpanIs p s a w (spanAt (gOf s) i) e w' := by
  rcases Nat.lt_or_ge i s.size with hq | hq
  · have hlt := gOf_lt hq
    unfold spanAt
    rw [if_neg (by omega)]
    by_cases h1 : gOf s (i + 1) = 45
    · have hq1 : i + 1 < s.size := in_of (by omega)
      have e1 : decide (gOf s (i + 1) = 45) = true := decide_eq_true h1
      have hms := minusShut_at (s := s) (i := i + 1) (by omega)
      by_cases h2 : gOf s (i + 2) = 93
      · have e2 : minusShut (s.extract (i + 1) s.size) = true := by rw [hms]; simp [h1, h2]
        rw [if_neg (by simp [h2])]
        go_enter Tryz.func170, Tryz.ntmps170
        go_wp2_with (go_at_call 163; refine (iTake h hq hs).mono ?_; rintro e w1 ⟨rfl, h', hg⟩)
        have c1 := h'.text
        have c2 := h'.pos
        go_quiet (first | (go_at_call 148; exact Calls.quiet_of (iSees (h'.drewN _) hq 45 (by omega))) | (go_at_call 158; exact Calls.quiet_of_same (iHas _ _ (by simp; omega))))
        go_wp2_with fail
        go_ret2
        exact ⟨rfl, h'.drewN _, grown_drewN hg _⟩
      · have e2 : minusShut (s.extract (i + 1) s.size) = false := by rw [hms]; simp [h2]
        rw [if_pos ⟨h1, h2⟩]
        rcases Nat.lt_or_ge (i + 2) s.size with hq2 | hq2
        · have hlt2 := gOf_lt hq2
          by_cases h3 : gOf s (i + 2) < gOf s i
          · have h3' : (gOf s (i + 2) : Int) < gOf s i := by omega
            have c3 := h.err
            rw [if_pos (.inr h3)]
            go_enter Tryz.func170, Tryz.ntmps170
            go_wp2_with (go_at_call 163; refine (iTake h hq hs).mono ?_; rintro e w1 ⟨rfl, h', hg⟩)
            have c1 := h'.text
            have c2 := h'.pos
            go_quiet (first | (go_at_call 148; exact Calls.quiet_of (iSees (h'.drewN _) hq 45 (by omega))) | (go_at_call 158; exact Calls.quiet_of_same (iHas _ _ (by simp; omega))))
            go_wp2_with (first | (go_at_call 163; with_reducible refine (iTake (h'.drewN _) hq1 hs).mono ?_; rintro e w2 ⟨rfl, h2', hg2⟩; have c4 := h2'.err) | (go_at_call 163; with_reducible refine (iTake h2' hq2 hs).mono ?_; rintro e w3 ⟨rfl, h3', hg3⟩; have c5 := h3'.err))
            exact ⟨rfl, rfl, (hg.trans (grown_drewN_left hg2)).trans hg3⟩
          · have h3' : (gOf s i : Int) ≤ gOf s (i + 2) := by omega
            rw [if_neg (by omega)]
            go_enter Tryz.func170, Tryz.ntmps170
            go_wp2_with (go_at_call 163; refine (iTake h hq hs).mono ?_; rintro e w1 ⟨rfl, h', hg⟩)
            have c1 := h'.text
            have c2 := h'.pos
            go_quiet (first | (go_at_call 148; exact Calls.quiet_of (iSees (h'.drewN _) hq 45 (by omega))) | (go_at_call 158; exact Calls.quiet_of_same (iHas _ _ (by simp; omega))))
            go_wp2_with (first | (go_at_call 163; with_reducible refine (iTake (h'.drewN _) hq1 hs).mono ?_; rintro e w2 ⟨rfl, h2', hg2⟩) | (go_at_call 163; with_reducible refine (iTake h2' hq2 hs).mono ?_; rintro e w3 ⟨rfl, h3', hg3⟩))
            go_ret2
            exact ⟨rfl, h3', (hg.trans (grown_drewN_left hg2)).trans hg3⟩
        · rw [if_pos (.inl (gOf_out hq2))]
          go_enter Tryz.func170, Tryz.ntmps170
          go_wp2_with (go_at_call 163; refine (iTake h hq hs).mono ?_; rintro e w1 ⟨rfl, h', hg⟩)
          have c1 := h'.text
          have c2 := h'.pos
          go_quiet (first | (go_at_call 148; exact Calls.quiet_of (iSees (h'.drewN _) hq 45 (by omega))) | (go_at_call 158; exact Calls.quiet_of_same (iHas _ _ (by simp; omega))))
          go_wp2_with (first | (go_at_call 163; with_reducible refine (iTake (h'.drewN _) hq1 hs).mono ?_; rintro e w2 ⟨rfl, h2', hg2⟩) | (go_at_call 163; with_reducible refine (iTakeEnd h2' (by omega)).mono ?_; rintro e w3 ⟨rfl, hg3⟩))
          exact ⟨rfl, rfl, (hg.trans (grown_drewN_left hg2)).trans hg3⟩
    · have e1 : decide (gOf s (i + 1) = 45) = false := decide_eq_false h1
      rw [if_neg (by simp [h1])]
      go_enter Tryz.func170, Tryz.ntmps170
      go_wp2_with (go_at_call 163; refine (iTake h hq hs).mono ?_; rintro e w1 ⟨rfl, h', hg⟩)
      go_quiet (first | (go_at_call 148; exact Calls.quiet_of (iSees (h'.drewN _) hq 45 (by omega))))
      go_wp2_with fail
      go_ret2
      exact ⟨rfl, h'.drewN _, grown_drewN hg _⟩
  · have e1 : gOf s i = 256 := gOf_out hq
    unfold spanAt
    rw [if_pos e1]
    go_enter Tryz.func170, Tryz.ntmps170
    go_wp2_with (go_at_call 163; refine (iTakeEnd h (by omega)).mono ?_; rintro e w1 ⟨rfl, hg⟩)
    exact ⟨rfl, rfl, hg⟩

end Rx
end Go.Proofs.YtaakeecliehjgaaGreatDoor
