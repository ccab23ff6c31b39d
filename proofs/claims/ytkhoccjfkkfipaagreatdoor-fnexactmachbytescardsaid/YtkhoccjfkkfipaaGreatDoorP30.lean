/-
  The reader of chapter 3: atEnd, sees, take, takeIf.
  The sets of chapter 3: HasPrefix, span.
  The bytes of a set, listed.
-/
import Derived.Test.YtkhoccjfkkfipaaGreatDoorProg
import Derived.Test.YtkhoccjfkkfipaaGreatDoorP29
import Derived.WalkKit
import Derived.WalkLawsBesides
import Derived.Deep.QuietTactic
import Derived.BigQuiet
import Derived.Deep.RegionWith
import Derived.Deep.WholeRow
namespace Go.Proofs.YtkhoccjfkkfipaaGreatDoor
open Go.RowKit
namespace Rx

/-- A text as a function. -/
def gOf (s : ByteArray) (i : Nat) : Nat := if h : i < s.size then s[i].toNat else 256

theorem gOf_in {s : ByteArray} {i : Nat} (h : i < s.size) : gOf s i = s[i].toNat := by unfold gOf; rw [dif_pos h]
theorem gOf_out {s : ByteArray} {i : Nat} (h : s.size ≤ i) : gOf s i = 256 := by unfold gOf; rw [dif_neg (by omega)]
theorem gOf_lt {s : ByteArray} {i : Nat} (h : i < s.size) : gOf s i < 256 := by rw [gOf_in h]; exact s[i].toNat_lt
theorem gOf_end {s : ByteArray} : ∀ i, s.size ≤ i → gOf s i = 256 := fun _ h => gOf_out h
theorem in_of {s : ByteArray} {i : Nat} (h : gOf s i ≠ 256) : i < s.size := lt_of_some gOf_end h

/-- What the package's sentinel holds. -/
def errV (a : Addr) : Value := .iface 273 (.pointer (some a))

/-- The reader at block p, at place i of s. -/
structure Rd (p : Nat) (s : ByteArray) (a : Addr) (i : Nat) (w : World) : Prop where
  text : w.cell? ⟨p, 0, none⟩ = some (.string s)
  pos : w.cell? ⟨p, 1, none⟩ = some (.int .i64 i)
  fr : w.frozen? ⟨p, 1, none⟩ = false
  err : w.cell? ⟨0, 0, none⟩ = some (.iface 273 (.pointer (some a)))
  ne : 0 ≠ p

theorem Rd.lt {p : Nat} {s : ByteArray} {a : Addr} {i : Nat} {w : World} (h : Rd p s a i w) : p < w.heap.size := World.block_lt_of_cell? w _ h.text
theorem Rd.elt {p : Nat} {s : ByteArray} {a : Addr} {i : Nat} {w : World} (h : Rd p s a i w) : 0 < w.heap.size := World.block_lt_of_cell? w _ h.err

/-- What turns no block of the reader's leaves it. -/
theorem Rd.kept {p : Nat} {s : ByteArray} {a : Addr} {i : Nat} {w w' : World} (h : Rd p s a i w) (h1 : w'.heap[p]? = w.heap[p]?) (h2 : w'.heap[0]? = w.heap[0]?) : Rd p s a i w' :=
  ⟨(World.cell?_of_block h1).trans h.text, (World.cell?_of_block h1).trans h.pos, (World.frozen?_of_block h1).trans h.fr, (World.cell?_of_block h2).trans h.err, h.ne⟩

theorem Rd.below {p : Nat} {s : ByteArray} {a : Addr} {i B : Nat} {w w' : World} (h : Rd p s a i w) (hb : Below B w w') (hp : p < B) (he : 0 < B) : Rd p s a i w' := h.kept (hb.block _ hp) (hb.block _ he)

theorem Rd.grown {p : Nat} {s : ByteArray} {a : Addr} {i : Nat} {w w' : World} {row : Option Nat} (h : Rd p s a i w) (hg : w.grownBy w' row) (h1 : row ≠ some p) (h2 : row ≠ some 0) : Rd p s a i w' :=
  h.kept (hg.block _ h.lt fun e => h1 e.symm) (hg.block _ h.elt fun e => h2 e.symm)

theorem grown_of_below {w w' : World} (h : Below w.heap.size w w') (row : Option Nat) : w.grownBy w' row := ⟨h.os, h.tape, h.output, h.size, fun k hk _ => h.block k hk⟩

theorem Rd.set {p : Nat} {s : ByteArray} {a : Addr} {i : Nat} {w : World} (h : Rd p s a i w) (j : Nat) : Rd p s a j (w.setCell ⟨p, 1, none⟩ (.int .i64 j)) := by
  have he : (w.setCell ⟨p, 1, none⟩ (.int .i64 j)).heap[0]? = w.heap[0]? := Below.heap_setCell _ _ _ _ h.ne
  refine ⟨?_, ?_, ?_, (World.cell?_of_block he).trans h.err, h.ne⟩
  · rw [World.cell?_setCell_other _ _ _ _ (by simp)]; exact h.text
  · exact World.cell?_setCell_same _ _ _ h.pos
  · simpa using h.fr

theorem grown_set (w : World) (a : Addr) (v : Value) : w.grownBy (w.setCell a v) (some a.block) :=
  ⟨rfl, rfl, rfl, by simp, fun k _ hne => Below.heap_setCell _ _ _ _ fun e => hne (by rw [e])⟩

theorem Rd.drewN {p : Nat} {s : ByteArray} {a : Addr} {i : Nat} {w : World} (h : Rd p s a i w) (n : Nat) : Rd p s a i (w.drewN n) := ⟨h.text, h.pos, h.fr, h.err, h.ne⟩

theorem at_is {s : ByteArray} {i : Nat} (h : i ≤ s.size) : ((i : Int) == (s.size : Int)) = decide (gOf s i = 256) := by
  rcases Nat.lt_or_ge i s.size with h1 | h1
  · have := gOf_lt h1
    rw [decide_eq_false (by omega)]
    simp; omega
  · rw [decide_eq_true (gOf_out h1)]
    simp; omega

theorem Rd.next {p : Nat} {s : ByteArray} {a : Addr} {i : Nat} {w : World} (h : Rd p s a i w) : Rd p s a (i + 1) (w.setCell ⟨p, 1, none⟩ (.int .i64 ((i : Int) + 1))) := h.set (i + 1)
theorem grown_drewN {w w' : World} {row : Option Nat} (h : w.grownBy w' row) (n : Nat) : w.grownBy (w'.drewN n) row := ⟨h.os, h.tape, h.output, h.size, h.block⟩

theorem iAtEnd {p : Nat} {s : ByteArray} {a : Addr} {i : Nat} {w : World} (h : Rd p s a i w) (hi : i ≤ s.size) :
    Calls Tryz.prog 152 #[.pointer (some ⟨p, 0, none⟩)] w fun e w' => e = .returned (.bool (decide (gOf s i = 256))) ∧ ∃ n, w' = w.drewN n := by
  have h1 := h.text
  have h2 := h.pos
  have H : Hid (((i : Int) == (s.size : Int)) = decide (gOf s i = 256)) := at_is hi
  go_enter Tryz.func152, Tryz.ntmps152
  go_wp2
  go_quiet (fail)
  go_wp2
  go_ret
  exact ⟨by rw [← H.out]; rfl, _, rfl⟩

theorem nat_eqb (a b : Nat) : ((a : Int) == (b : Int)) = decide (a = b) := by
  by_cases h : a = b
  · subst h; simp
  · rw [decide_eq_false h]; simp; omega

theorem iSees {p : Nat} {s : ByteArray} {a : Addr} {i : Nat} {w : World} (h : Rd p s a i w) (hi : i ≤ s.size) (b : Nat) (hb : b < 256) :
    Calls Tryz.prog 174 #[.pointer (some ⟨p, 0, none⟩), .int .u8 b] w fun e w' => e = .returned (.bool (decide (gOf s i = b))) ∧ ∃ n, w' = w.drewN n := by
  have h1 := h.text
  have h2 := h.pos
  rcases Nat.lt_or_ge i s.size with hq | hq
  · have hlt := gOf_lt hq
    have e1 : decide (gOf s i = 256) = false := decide_eq_false (by omega)
    have H : Hid (gOf s i = s[i].toNat) := gOf_in hq
    go_enter Tryz.func174, Tryz.ntmps174
    go_wp2
    go_quiet (first | (go_at_call 152; exact Calls.quiet_of (iAtEnd (h.drewN _) hi)))
    go_wp2
    go_ret
    exact ⟨by rw [H.out]; exact congrArg (fun x => Ending.returned (Value.bool x)) (nat_eqb _ _), _, rfl⟩
  · have e1 : gOf s i = 256 := gOf_out hq
    have e2 : decide (256 = b) = false := decide_eq_false (by omega)
    rw [e1, e2]
    go_enter Tryz.func174, Tryz.ntmps174
    go_wp2
    go_quiet (first | (go_at_call 152; exact Calls.quiet_of (iAtEnd (h.drewN _) hi)))
    go_wp2
    go_ret
    exact ⟨rfl, _, rfl⟩

/-- The text ends here: no pattern. -/
theorem iTakeEnd {p : Nat} {s : ByteArray} {a : Addr} {i : Nat} {w : World} (h : Rd p s a i w) (hi : i = s.size) :
    Calls Tryz.prog 189 #[.pointer (some ⟨p, 0, none⟩)] w fun e w' => e = .panicked [{ v := errV a, recovered := false }] ∧ w.grownBy w' (some p) := by
  have h1 := h.text
  have h2 := h.pos
  have h3 := h.err
  have e1 : gOf s i = 256 := gOf_out (by omega)
  go_enter Tryz.func189, Tryz.ntmps189
  go_wp2_with (go_at_call 152; refine (iAtEnd h (by omega)).mono ?_; rintro e w' ⟨rfl, n, rfl⟩; simp only [e1])
  exact ⟨rfl, rfl, grown_drewN (World.grownBy.refl _ _) _⟩

theorem iTake {p : Nat} {s : ByteArray} {a : Addr} {i : Nat} {w : World} (h : Rd p s a i w) (hi : i < s.size) (hs : s.size ≤ 1000) :
    Calls Tryz.prog 189 #[.pointer (some ⟨p, 0, none⟩)] w fun e w' => e = .returned (.int .u8 (gOf s i)) ∧ Rd p s a (i + 1) w' ∧ w.grownBy w' (some p) := by
  have h1 := h.text
  have h2 := h.pos
  have h3 := h.fr
  have hlt := gOf_lt hi
  have e1 : decide (gOf s i = 256) = false := decide_eq_false (by omega)
  have H : Hid (gOf s i = s[i].toNat) := gOf_in hi
  go_enter Tryz.func189, Tryz.ntmps189
  go_wp2_with (go_at_call 152; refine (iAtEnd h (by omega)).mono ?_; rintro e w' ⟨rfl, n, rfl⟩)
  go_quiet (fail)
  go_wp2_with fail
  go_ret
  refine ⟨by rw [H.out]; rfl, ?_, ?_⟩
  · exact (h.next).drewN _
  · exact grown_drewN (grown_set w ⟨p, 1, none⟩ _) _

theorem iTakeIf {p : Nat} {s : ByteArray} {a : Addr} {i : Nat} {w : World} (h : Rd p s a i w) (hi : i ≤ s.size) (hs : s.size ≤ 1000) (b : Nat) (hb : b < 256) :
    Calls Tryz.prog 166 #[.pointer (some ⟨p, 0, none⟩), .int .u8 b] w fun e w' => e = .returned (.bool (decide (gOf s i = b))) ∧ Rd p s a (if gOf s i = b then i + 1 else i) w' ∧ w.grownBy w' (some p) := by
  by_cases hq : gOf s i = b
  · have e1 : decide (gOf s i = b) = true := decide_eq_true hq
    have h1 := h.pos
    have h2 := h.fr
    rw [if_pos hq]
    go_enter Tryz.func166, Tryz.ntmps166
    go_wp2_with (go_at_call 174; refine (iSees h hi b hb).mono ?_; rintro e w' ⟨rfl, n, rfl⟩)
    go_ret
    refine ⟨by rw [e1]; rfl, ?_, ?_⟩
    · exact (h.next).drewN _
    · exact grown_drewN (grown_set w ⟨p, 1, none⟩ _) _
  · have e1 : decide (gOf s i = b) = false := decide_eq_false hq
    rw [if_neg hq]
    go_enter Tryz.func166, Tryz.ntmps166
    go_wp2_with (go_at_call 174; refine (iSees h hi b hb).mono ?_; rintro e w' ⟨rfl, n, rfl⟩)
    go_ret
    exact ⟨by rw [e1]; rfl, h.drewN _, grown_drewN (World.grownBy.refl _ _) _⟩

/-- The same, the byte as it stands in a call. -/
theorem iTakeIfC {p : Nat} {s : ByteArray} {a : Addr} {i : Nat} {w : World} (h : Rd p s a i w) (hi : i ≤ s.size) (hs : s.size ≤ 1000) (b : Nat) (c : Int) (hb : b < 256) (hc : c = b) :
    Calls Tryz.prog 166 #[.pointer (some ⟨p, 0, none⟩), .int .u8 c] w fun e w' => e = .returned (.bool (decide (gOf s i = b))) ∧ Rd p s a (if gOf s i = b then i + 1 else i) w' ∧ w.grownBy w' (some p) := by
  subst hc; exact iTakeIf h hi hs b hb
theorem iSeesC {p : Nat} {s : ByteArray} {a : Addr} {i : Nat} {w : World} (h : Rd p s a i w) (hi : i ≤ s.size) (b : Nat) (c : Int) (hb : b < 256) (hc : c = b) :
    Calls Tryz.prog 174 #[.pointer (some ⟨p, 0, none⟩), .int .u8 c] w fun e w' => e = .returned (.bool (decide (gOf s i = b))) ∧ ∃ n, w' = w.drewN n := by
  subst hc; exact iSees h hi b hb

end Rx
end Go.Proofs.YtkhoccjfkkfipaaGreatDoor
namespace Go.Proofs.YtkhoccjfkkfipaaGreatDoor
open Go.RowKit
namespace Rx

/-- Whether a text begins with '-' and ']'. -/
def minusShut (t : ByteArray) : Bool := decide (gOf t 0 = 45 ∧ gOf t 1 = 93)

theorem minusShut_is {t : ByteArray} (h : 2 ≤ t.size) : ((t.extract 0 2).toList == [45, 93]) = minusShut t := by
  have e0 := gOf_in (s := t) (i := 0) (by omega)
  have e1 := gOf_in (s := t) (i := 1) (by omega)
  have e : (t.extract 0 2).toList = [t[0], t[1]] := by
    rw [ByteArray.toList_eq]
    apply List.ext_getElem
    · simp; omega
    · intro k h1 h2
      simp at h2
      rcases Nat.lt_or_ge k 1 with h3 | h3
      · obtain rfl : k = 0 := by omega
        simp [ByteArray.data_extract]; rfl
      · obtain rfl : k = 1 := by omega
        simp [ByteArray.data_extract]; rfl
  unfold minusShut
  rw [e, e0, e1]
  have k : ∀ (x : UInt8) (n : Nat), n < 256 → (x == UInt8.ofNat n) = decide (x.toNat = n) := by
    intro x n hn
    by_cases h : x.toNat = n
    · subst h; simp
    · rw [decide_eq_false h]
      simp
      intro h2
      apply h
      rw [h2]
      simp; omega
  have k45 := k t[0] 45 (by omega)
  have k93 := k t[1] 93 (by omega)
  show ((t[0] == 45) && ((t[1] == 93) && true)) = _
  rw [show (45 : UInt8) = UInt8.ofNat 45 from rfl, show (93 : UInt8) = UInt8.ofNat 93 from rfl, k45, k93]
  simp [Bool.decide_and]

theorem gOf_extract {s : ByteArray} {i : Nat} (h : i ≤ s.size) (k : Nat) : gOf (s.extract i s.size) k = gOf s (i + k) := by
  have hs : (s.extract i s.size).size = s.size - i := by simp [ByteArray.size_extract]
  rcases Nat.lt_or_ge (i + k) s.size with h1 | h1
  · rw [gOf_in h1, gOf_in (by omega)]
    simp [ByteArray.getElem_extract]
  · rw [gOf_out h1, gOf_out (by omega)]

theorem minusShut_at {s : ByteArray} {i : Nat} (h : i ≤ s.size) : minusShut (s.extract i s.size) = decide (gOf s i = 45 ∧ gOf s (i + 1) = 93) := by
  unfold minusShut
  rw [gOf_extract h, gOf_extract h]
  rfl

theorem iHas (t : ByteArray) (w : World) (ht : t.size ≤ 1000) :
    Calls Tryz.prog 184 #[.string t, .string ⟨#[45, 93]⟩] w fun e w' => e = .returned (.bool (minusShut t)) ∧ w' = w := by
  rcases Nat.lt_or_ge t.size 2 with h | h
  · have e : minusShut t = false := by
      unfold minusShut
      rw [gOf_out (s := t) (i := 1) (by omega)]
      simp
    rw [e]
    go_enter Tryz.func184, Tryz.ntmps184
    go_wp2
    go_ret
    exact ⟨rfl, rfl⟩
  · have e := minusShut_is h
    have H : Hid (((t.extract 0 2).toList == [45, 93]) = minusShut t) := e
    clear e
    go_enter Tryz.func184, Tryz.ntmps184
    go_wp2
    go_ret
    exact ⟨by rw [← H.out]; rfl, rfl⟩

/-- A byte of a set, or a row of them. -/
def spanAt (g : Nat → Nat) (i : Nat) : Option (Nat × Nat × Nat) :=
  if g i = 256 then none
  else if g (i + 1) = 45 ∧ g (i + 2) ≠ 93 then (if g (i + 2) = 256 ∨ g (i + 2) < g i then none else some (g i, g (i + 2), i + 3))
  else some (g i, g i, i + 1)

def SpanIs (p : Nat) (s : ByteArray) (a : Addr) (w : World) (r : Option (Nat × Nat × Nat)) (e : Ending) (w' : World) : Prop := match r with
  | none => e = .panicked [{ v := errV a, recovered := false }] ∧ w.grownBy w' (some p)
  | some (lo, hi, j) => e = .returned (.tuple #[.int .u8 lo, .int .u8 hi]) ∧ Rd p s a j w' ∧ w.grownBy w' (some p)

theorem grown_drewN_left {w w' : World} {row : Option Nat} {n : Nat} (h : (w.drewN n).grownBy w' row) : w.grownBy w' row := ⟨h.os, h.tape, h.output, h.size, h.block⟩

theorem iSpan {p : Nat} {s : ByteArray} {a : Addr} {i : Nat} {w : World} (h : Rd p s a i w) (hi : i ≤ s.size) (hs : s.size ≤ 1000) :
    Calls Tryz.prog 196 #[.pointer (some ⟨p, 0, none⟩)] w fun e w' => SpanIs p s a w (spanAt (gOf s) i) e w' := by
  rcases Nat.lt_or_ge i s.size with hq | hq
  · have hlt := gOf_lt hq
    unfold spanAt
    rw [if_neg (by omega)]
    by_cases h1 : gOf s (i + 1) = 45
    · have hq1 : i + 1 < s.size := in_of (by omega)
      have e1 : decide (gOf s (i + 1) = 45) = true := decide_eq_true h1
      have hms := minusShut_at (s := s) (i := i + 1) (by omega)
      by_cases h2 : gOf s (i + 2) = 93
      · have e2 : minusShut (s.extract (i + 1) s.size) = true := by rw [hms]; simp [h1, h2]
        rw [if_neg (by simp [h2])]
        go_enter Tryz.func196, Tryz.ntmps196
        go_wp2_with (go_at_call 189; refine (iTake h hq hs).mono ?_; rintro e w1 ⟨rfl, h', hg⟩)
        have c1 := h'.text
        have c2 := h'.pos
        go_quiet (first | (go_at_call 174; exact Calls.quiet_of (iSees (h'.drewN _) hq 45 (by omega))) | (go_at_call 184; exact Calls.quiet_of_same (iHas _ _ (by simp; omega))))
        go_wp2_with fail
        go_ret2
        exact ⟨rfl, h'.drewN _, grown_drewN hg _⟩
      · have e2 : minusShut (s.extract (i + 1) s.size) = false := by rw [hms]; simp [h2]
        rw [if_pos ⟨h1, h2⟩]
        rcases Nat.lt_or_ge (i + 2) s.size with hq2 | hq2
        · have hlt2 := gOf_lt hq2
          by_cases h3 : gOf s (i + 2) < gOf s i
          · have h3' : (gOf s (i + 2) : Int) < gOf s i := by omega
            have c3 := h.err
            rw [if_pos (.inr h3)]
            go_enter Tryz.func196, Tryz.ntmps196
            go_wp2_with (go_at_call 189; refine (iTake h hq hs).mono ?_; rintro e w1 ⟨rfl, h', hg⟩)
            have c1 := h'.text
            have c2 := h'.pos
            go_quiet (first | (go_at_call 174; exact Calls.quiet_of (iSees (h'.drewN _) hq 45 (by omega))) | (go_at_call 184; exact Calls.quiet_of_same (iHas _ _ (by simp; omega))))
            go_wp2_with (first | (go_at_call 189; with_reducible refine (iTake (h'.drewN _) hq1 hs).mono ?_; rintro e w2 ⟨rfl, h2', hg2⟩; have c4 := h2'.err) | (go_at_call 189; with_reducible refine (iTake h2' hq2 hs).mono ?_; rintro e w3 ⟨rfl, h3', hg3⟩; have c5 := h3'.err))
            exact ⟨rfl, rfl, (hg.trans (grown_drewN_left hg2)).trans hg3⟩
          · have h3' : (gOf s i : Int) ≤ gOf s (i + 2) := by omega
            rw [if_neg (by omega)]
            go_enter Tryz.func196, Tryz.ntmps196
            go_wp2_with (go_at_call 189; refine (iTake h hq hs).mono ?_; rintro e w1 ⟨rfl, h', hg⟩)
            have c1 := h'.text
            have c2 := h'.pos
            go_quiet (first | (go_at_call 174; exact Calls.quiet_of (iSees (h'.drewN _) hq 45 (by omega))) | (go_at_call 184; exact Calls.quiet_of_same (iHas _ _ (by simp; omega))))
            go_wp2_with (first | (go_at_call 189; with_reducible refine (iTake (h'.drewN _) hq1 hs).mono ?_; rintro e w2 ⟨rfl, h2', hg2⟩) | (go_at_call 189; with_reducible refine (iTake h2' hq2 hs).mono ?_; rintro e w3 ⟨rfl, h3', hg3⟩))
            go_ret2
            exact ⟨rfl, h3', (hg.trans (grown_drewN_left hg2)).trans hg3⟩
        · rw [if_pos (.inl (gOf_out hq2))]
          go_enter Tryz.func196, Tryz.ntmps196
          go_wp2_with (go_at_call 189; refine (iTake h hq hs).mono ?_; rintro e w1 ⟨rfl, h', hg⟩)
          have c1 := h'.text
          have c2 := h'.pos
          go_quiet (first | (go_at_call 174; exact Calls.quiet_of (iSees (h'.drewN _) hq 45 (by omega))) | (go_at_call 184; exact Calls.quiet_of_same (iHas _ _ (by simp; omega))))
          go_wp2_with (first | (go_at_call 189; with_reducible refine (iTake (h'.drewN _) hq1 hs).mono ?_; rintro e w2 ⟨rfl, h2', hg2⟩) | (go_at_call 189; with_reducible refine (iTakeEnd h2' (by omega)).mono ?_; rintro e w3 ⟨rfl, hg3⟩))
          exact ⟨rfl, rfl, (hg.trans (grown_drewN_left hg2)).trans hg3⟩
    · have e1 : decide (gOf s (i + 1) = 45) = false := decide_eq_false h1
      rw [if_neg (by simp [h1])]
      go_enter Tryz.func196, Tryz.ntmps196
      go_wp2_with (go_at_call 189; refine (iTake h hq hs).mono ?_; rintro e w1 ⟨rfl, h', hg⟩)
      go_quiet (first | (go_at_call 174; exact Calls.quiet_of (iSees (h'.drewN _) hq 45 (by omega))))
      go_wp2_with fail
      go_ret2
      exact ⟨rfl, h'.drewN _, grown_drewN hg _⟩
  · have e1 : gOf s i = 256 := gOf_out hq
    unfold spanAt
    rw [if_pos e1]
    go_enter Tryz.func196, Tryz.ntmps196
    go_wp2_with (go_at_call 189; refine (iTakeEnd h (by omega)).mono ?_; rintro e w1 ⟨rfl, hg⟩)
    exact ⟨rfl, rfl, hg⟩

end Rx
end Go.Proofs.YtkhoccjfkkfipaaGreatDoor
namespace Go.Proofs.YtkhoccjfkkfipaaGreatDoor
open Go.RowKit
namespace Rx

/-- Which bytes are in, as an array of bools. -/
def marks (M : Nat → Bool) : Array Value := (Array.range 256).map fun b => .bool (M b)
theorem marks_size (M : Nat → Bool) : (marks M).size = 256 := by simp [marks]
theorem marks_get (M : Nat → Bool) {k : Nat} (h : k < 256) : (marks M)[k]? = some (.bool (M k)) := by simp [marks, h]

/-- Of the first k bytes those that are in. -/
def upTo (M : Nat → Bool) (k : Nat) : List Nat := (List.range k).filter M
theorem upTo_in {M : Nat → Bool} {k : Nat} (h : M k = true) : upTo M (k + 1) = upTo M k ++ [k] := by simp [upTo, List.range_succ, h]
theorem upTo_out {M : Nat → Bool} {k : Nat} (h : M k = false) : upTo M (k + 1) = upTo M k := by simp [upTo, List.range_succ, h]
theorem upTo_len (M : Nat → Bool) (k : Nat) : (upTo M k).length ≤ k := by have := List.length_filter_le M (List.range k); simpa [upTo] using this

def u8s (l : List Nat) : List Value := l.map fun (b : Nat) => Value.int .u8 b

/-! three operations on a whole array, as steps of their own -/
section
variable {P : Program} {ops : Array Oper} {rest : List Oper} {o : Oper} {a : Act} {Q : Exit → Act → World → Prop} {w : World}

theorem wpList_load_whole (hgd : o.guard = none) (t : TypeId) (s : Operand) (ho : o.op = .load t s) (x : Value) (hr : (Instr.loadAt t (a.eval s)).run P w = .ok x w)
    (h : wpList P ops Q rest (a.put o.dst x) w) : wpList P ops Q (o :: rest) a w := by
  refine wpList_plain hgd fun K hK => ?_
  unfold Oper.wp execOp
  simp only [ho, Sem.run_bind, Sem.run_pure, Result.andThen_ok, hr]
  exact hK _ _ h

theorem wpList_box_whole (hgd : o.guard = none) (t : TypeId) (s : Operand) (ho : o.op = .box t s) (x : Value) (w' : World) (hr : (Instr.box t (a.eval s)).run P w = .ok x w')
    (h : wpList P ops Q rest (a.put o.dst x) w') : wpList P ops Q (o :: rest) a w := by
  refine wpList_plain hgd fun K hK => ?_
  unfold Oper.wp execOp
  simp only [ho, Sem.run_bind, Sem.run_pure, Result.andThen_ok, hr]
  exact hK _ _ h

theorem wpList_alloc_whole (hgd : o.guard = none) (t : TypeId) (ho : o.op = .alloc t) (x : Value) (w' : World) (hr : (Instr.alloc t true (.tuple #[])).run P w = .ok x w')
    (h : wpList P ops Q rest (a.put o.dst x) w') : wpList P ops Q (o :: rest) a w := by
  refine wpList_plain hgd fun K hK => ?_
  unfold Oper.wp execOp
  simp only [ho, Sem.run_bind, Sem.run_pure, Result.andThen_ok, hr]
  exact hK _ _ h
end

theorem box_whole (M : Nat → Bool) (w : World) : (Instr.box 267 (.agg (marks M))).run Tryz.prog w = .ok (.pointer (some ⟨w.heap.size, 0, none⟩)) (w.alloc (.cells (marks M) 267)) := by
  rfl

theorem alloc_whole (w : World) : (Instr.alloc 267 true (.tuple #[])).run Tryz.prog w = .ok (.pointer (some ⟨w.heap.size, 0, none⟩)) (w.alloc (.cells (marks fun _ => false) 267)) := by
  kernel_rfl

theorem index_whole (M : Nat → Bool) {k : Nat} (h : k < 256) (w : World) : (Instr.index 267 (.agg (marks M)) (.int .i64 k)).run Tryz.prog w = .ok (.bool (M k)) w := by
  have hu : Tryz.prog.underlying 267 = some (.array 256 4) := by kernel_rfl
  have hk : (0 : Int) ≤ k ∧ (k : Int) < 256 := by omega
  simp [Instr.index, run_underlying hu, asIntOf, hk, go_sem, marks_get M h]
  intro h'
  omega

theorem Tryz.info5r : (Tryz.prog.info? 5).map (fun i => (i.zero, i.size, i.bytes)) = some (some (.int .u8 0), 1, 1) := by kernel_rfl

theorem conv_owned {w : World} {B : Nat} {v : Value} {l : List Nat} (h : w.ownsRow B 5 1 v l.length (u8s l)) (hl : ∀ b ∈ l, b < 256) :
    (convert 35 9 v).run Tryz.prog w = .ok (.string ⟨(l.map UInt8.ofNat).toArray⟩) w := by
  rcases h.2 with ⟨rfl, hn⟩ | ⟨g, cap, cur, rfl, _⟩
  · have : l = [] := List.length_eq_zero_iff.1 hn
    subst this
    rw [run_convert_bytes_string w 35 9 5 none 0 0 Tryz.underlying35 Tryz.underlying5 Tryz.underlying9]
    rfl
  · have hc := h.cells (g := g) rfl
    have := run_convert_bytes_back (P := Tryz.prog) w 35 9 5 ⟨g, 0, none⟩ cap (l.map UInt8.ofNat) Tryz.underlying35 Tryz.underlying5 Tryz.underlying9 (by
      intro j hj
      simp only [List.length_map] at hj
      refine hc j _ ?_
      have hb := hl l[j] (List.getElem_mem hj)
      simp only [u8s, List.getElem?_map, List.getElem?_eq_getElem hj, Option.map_some, List.getElem_map, UInt8.toNat_ofNat']
      rw [Nat.mod_eq_of_lt (by omega)])
    simpa using this

set_option maxRecDepth 100000 in
theorem iListed (M : Nat → Bool) (w : World) :
    Calls Tryz.prog 197 #[.agg (marks M)] w fun e w' => e = .returned (.string ⟨(bytesOf M).toArray⟩) ∧ Below w.heap.size w w' := by
  have hl := run_loadAt_new (P := Tryz.prog) w 267 (marks M) 256 4 (by kernel_rfl) (by rw [marks_size]; kernel_rfl)
  go_enter Tryz.func197, Tryz.ntmps197
  go_wp2_with (first | (refine wpList_box_whole rfl 267 (.tmp 0) rfl _ _ (box_whole M w) ?_) | (refine wpList_load_whole rfl 267 (.tmp 1) rfl _ hl ?_))
  obtain ⟨i0, hi, hz0, hz1, hz2⟩ := info_parts Tryz.info5r
  go_loopw [3, 7] (fun v i wr => ∃ k : Nat, k ≤ 256 ∧ i = .int .i64 k ∧ wr.ownsRow w.heap.size 5 1 v (upTo M k).length (u8s (upTo M k)) ∧ Below w.heap.size w wr) (fun _ i _ => 256 - (intOf i).toNat)
  case atStart => exact ⟨0, by omega, rfl, World.ownsRow_nil _ _ _ _, (Below.refl _ w).alloc (Nat.le_refl _) _⟩
  case round =>
    obtain ⟨k, hk, rfl, hown, hnx⟩ := hrel
    have hlen := upTo_len M k
    by_cases hkl : k < 256
    · have hmk := index_whole M hkl
      by_cases hM : M k = true
      · go_wp2_with (first | (at_builtin; refine wpList_append_own_at _ rfl _ _ 35 rfl w.heap.size 5 i0 (.int .u8 0) 1 1 Tryz.underlying35 hi hz0 hz1 hz2 rfl (by decide) _ _ _ rfl (hown.alloc _) ⟨wr.heap.size, 0, none⟩ 1 1 [.int .u8 k] rfl rfl (cell_one_new _ _ _) (by simp [Value.oneCell']) (by unfold maxLen; omega) (by omega) (by have := hnx.size; simp; omega) ?_; intro v' w1 hown' hgrow _ _))
        rw [← List.length_singleton (a := Value.int .u8 (k : Int))] at hown'
        go_roundw
        case rel =>
          refine ⟨k + 1, by omega, by go_num, ?_, ?_⟩
          · rw [upTo_in hM]
            simpa [u8s] using hown'
          · exact (hnx.alloc (by have := hnx.size; omega) _).grown hgrow (by have := hnx.size; simp; omega) (fun b hb => (hown.lt b hb).1)
        case measure => simp [intOf]; omega
      · have hM : M k = false := by simpa using hM
        go_wp2_with fail
        go_roundw
        case rel => exact ⟨k + 1, by omega, by go_num, by rw [upTo_out hM]; exact hown, hnx⟩
        case measure => simp [intOf]; omega
    · obtain rfl : k = 256 := by omega
      have hcv := conv_owned hown (fun b hb => List.mem_range.1 (List.mem_filter.1 hb).1)
      have H : Hid ((upTo M 256).map UInt8.ofNat = bytesOf M) := rfl
      go_wp2_with fail
      go_ret
      exact ⟨by rw [← H.out]; rfl, hnx⟩

end Rx
end Go.Proofs.YtkhoccjfkkfipaaGreatDoor
