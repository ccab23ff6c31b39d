/-
  The reader of chapter 3: atEnd, sees, take, takeIf.
-/
import Derived.Test.YtkpgdlbcckmpkaaGreatDoorProg
import Derived.Test.YtkpgdlbcckmpkaaGreatDoorP28
import Derived.WalkKit
import Derived.WalkLawsBesides
import Derived.Deep.QuietTactic
import Derived.BigQuiet
import Derived.Deep.RegionWith
namespace Go.Proofs.YtkpgdlbcckmpkaaGreatDoor
open Go.RowKit
namespace Rx

/-- A text as a function. -/
def gOf (s : ByteArray) (i : Nat) : Nat := if h : i < s.size then s[i].toNat else 256

theorem gOf_in {s : ByteArray} {i : Nat} (h : i < s.size) : gOf s i = s[i].toNat := by unfold gOf; rw [dif_pos h]
theorem gOf_out {s : ByteArray} {i : Nat} (h : s.size ≤ i) : gOf s i = 256 := by unfold gOf; rw [dif_neg (by omega)]
theorem gOf_lt {s : ByteArray} {i : Nat} (h : i < s.size) : gOf s i < 256 := by rw [gOf_in h]; exact s[i].toNat_lt
theorem gOf_end {s : ByteArray} : ∀ i, s.size ≤ i → gOf s i = 256 := fun _ h => gOf_out h
theorem in_of {s : ByteArray} {i : Nat} (h : gOf s i ≠ 256) : i < s.size := lt_of_some gOf_end h

/-- What the package's sentinel holds. -/
def errV (a : Addr) : Value := .iface 171 (.pointer (some a))

/-- The reader at block p, at place i of s. -/
structure Rd (p : Nat) (s : ByteArray) (a : Addr) (i : Nat) (w : World) : Prop where
  text : w.cell? ⟨p, 0, none⟩ = some (.string s)
  pos : w.cell? ⟨p, 1, none⟩ = some (.int .i64 i)
  fr : w.frozen? ⟨p, 1, none⟩ = false
  err : w.cell? ⟨0, 0, none⟩ = some (.iface 171 (.pointer (some a)))
  ne : 0 ≠ p

theorem Rd.lt {p : Nat} {s : ByteArray} {a : Addr} {i : Nat} {w : World} (h : Rd p s a i w) : p < w.heap.size := World.block_lt_of_cell? w _ h.text
theorem Rd.elt {p : Nat} {s : ByteArray} {a : Addr} {i : Nat} {w : World} (h : Rd p s a i w) : 0 < w.heap.size := World.block_lt_of_cell? w _ h.err

/-- What turns no block of the reader's leaves it. -/
theorem Rd.kept {p : Nat} {s : ByteArray} {a : Addr} {i : Nat} {w w' : World} (h : Rd p s a i w) (h1 : w'.heap[p]? = w.heap[p]?) (h2 : w'.heap[0]? = w.heap[0]?) : Rd p s a i w' :=
  ⟨(World.cell?_of_block h1).trans h.text, (World.cell?_of_block h1).trans h.pos, (World.frozen?_of_block h1).trans h.fr, (World.cell?_of_block h2).trans h.err, h.ne⟩

theorem Rd.below {p : Nat} {s : ByteArray} {a : Addr} {i B : Nat} {w w' : World} (h : Rd p s a i w) (hb : Below B w w') (hp : p < B) (he : 0 < B) : Rd p s a i w' := h.kept (hb.block _ hp) (hb.block _ he)

theorem Rd.grown {p : Nat} {s : ByteArray} {a : Addr} {i : Nat} {w w' : World} {row : Option Nat} (h : Rd p s a i w) (hg : w.grownBy w' row) (h1 : row ≠ some p) (h2 : row ≠ some 0) : Rd p s a i w' :=
  h.kept (hg.block _ h.lt fun e => h1 e.symm) (hg.block _ h.elt fun e => h2 e.symm)

theorem grown_of_below {w w' : World} (h : Below w.heap.size w w') (row : Option Nat) : w.grownBy w' row := ⟨h.os, h.tape, h.output, h.size, fun k hk _ => h.block k hk⟩

theorem Rd.set {p : Nat} {s : ByteArray} {a : Addr} {i : Nat} {w : World} (h : Rd p s a i w) (j : Nat) : Rd p s a j (w.setCell ⟨p, 1, none⟩ (.int .i64 j)) := by
  have he : (w.setCell ⟨p, 1, none⟩ (.int .i64 j)).heap[0]? = w.heap[0]? := Below.heap_setCell _ _ _ _ h.ne
  refine ⟨?_, ?_, ?_, (World.cell?_of_block he).trans h.err, h.ne⟩
  · rw [World.cell?_setCell_other _ _ _ _ (by simp)]; exact h.text
  · exact World.cell?_setCell_same _ _ _ h.pos
  · simpa using h.fr

theorem grown_set (w : World) (a : Addr) (v : Value) : w.grownBy (w.setCell a v) (some a.block) :=
  ⟨rfl, rfl, rfl, by simp, fun k _ hne => Below.heap_setCell _ _ _ _ fun e => hne (by rw [e])⟩

theorem Rd.drewN {p : Nat} {s : ByteArray} {a : Addr} {i : Nat} {w : World} (h : Rd p s a i w) (n : Nat) : Rd p s a i (w.drewN n) := ⟨h.text, h.pos, h.fr, h.err, h.ne⟩

theorem at_is {s : ByteArray} {i : Nat} (h : i ≤ s.size) : ((i : Int) == (s.size : Int)) = decide (gOf s i = 256) := by
  rcases Nat.lt_or_ge i s.size with h1 | h1
  · have := gOf_lt h1
    rw [decide_eq_false (by omega)]
    simp; omega
  · rw [decide_eq_true (gOf_out h1)]
    simp; omega

theorem Rd.next {p : Nat} {s : ByteArray} {a : Addr} {i : Nat} {w : World} (h : Rd p s a i w) : Rd p s a (i + 1) (w.setCell ⟨p, 1, none⟩ (.int .i64 ((i : Int) + 1))) := h.set (i + 1)
theorem grown_drewN {w w' : World} {row : Option Nat} (h : w.grownBy w' row) (n : Nat) : w.grownBy (w'.drewN n) row := ⟨h.os, h.tape, h.output, h.size, h.block⟩

theorem iAtEnd {p : Nat} {s : ByteArray} {a : Addr} {i : Nat} {w : World} (h : Rd p s a i w) (hi : i ≤ s.size) :
    Calls Tryz.prog 81 #[.pointer (some ⟨p, 0, none⟩)] w fun e w' => e = .returned (.bool (decide (gOf s i = 256))) ∧ ∃ n, w' = w.drewN n := by
  have h1 := h.text
  have h2 := h.pos
  have H : Hid (((i : Int) == (s.size : Int)) = decide (gOf s i = 256)) := at_is hi
  go_enter Tryz.func81, Tryz.ntmps81
  go_wp2
  go_quiet (fail)
  go_wp2
  go_ret
  exact ⟨by rw [← H.out]; rfl, _, rfl⟩

theorem nat_eqb (a b : Nat) : ((a : Int) == (b : Int)) = decide (a = b) := by
  by_cases h : a = b
  · subst h; simp
  · rw [decide_eq_false h]; simp; omega

theorem iSees {p : Nat} {s : ByteArray} {a : Addr} {i : Nat} {w : World} (h : Rd p s a i w) (hi : i ≤ s.size) (b : Nat) (hb : b < 256) :
    Calls Tryz.prog 95 #[.pointer (some ⟨p, 0, none⟩), .int .u8 b] w fun e w' => e = .returned (.bool (decide (gOf s i = b))) ∧ ∃ n, w' = w.drewN n := by
  have h1 := h.text
  have h2 := h.pos
  rcases Nat.lt_or_ge i s.size with hq | hq
  · have hlt := gOf_lt hq
    have e1 : decide (gOf s i = 256) = false := decide_eq_false (by omega)
    have H : Hid (gOf s i = s[i].toNat) := gOf_in hq
    go_enter Tryz.func95, Tryz.ntmps95
    go_wp2
    go_quiet (first | (go_at_call 81; exact Calls.quiet_of (iAtEnd (h.drewN _) hi)))
    go_wp2
    go_ret
    exact ⟨by rw [H.out]; exact congrArg (fun x => Ending.returned (Value.bool x)) (nat_eqb _ _), _, rfl⟩
  · have e1 : gOf s i = 256 := gOf_out hq
    have e2 : decide (256 = b) = false := decide_eq_false (by omega)
    rw [e1, e2]
    go_enter Tryz.func95, Tryz.ntmps95
    go_wp2
    go_quiet (first | (go_at_call 81; exact Calls.quiet_of (iAtEnd (h.drewN _) hi)))
    go_wp2
    go_ret
    exact ⟨rfl, _, rfl⟩

/-- The text ends here: no pattern. -/
theorem iTakeEnd {p : Nat} {s : ByteArray} {a : Addr} {i : Nat} {w : World} (h : Rd p s a i w) (hi : i = s.size) :
    Calls Tryz.prog 99 #[.pointer (some ⟨p, 0, none⟩)] w fun e w' => e = .panicked [{ v := errV a, recovered := false }] ∧ w.grownBy w' (some p) := by
  have h1 := h.text
  have h2 := h.pos
  have h3 := h.err
  have e1 : gOf s i = 256 := gOf_out (by omega)
  go_enter Tryz.func99, Tryz.ntmps99
  go_wp2_with (go_at_call 81; refine (iAtEnd h (by omega)).mono ?_; rintro e w' ⟨rfl, n, rfl⟩; simp only [e1])
  exact ⟨rfl, rfl, grown_drewN (World.grownBy.refl _ _) _⟩

theorem iTake {p : Nat} {s : ByteArray} {a : Addr} {i : Nat} {w : World} (h : Rd p s a i w) (hi : i < s.size) (hs : s.size ≤ 1000) :
    Calls Tryz.prog 99 #[.pointer (some ⟨p, 0, none⟩)] w fun e w' => e = .returned (.int .u8 (gOf s i)) ∧ Rd p s a (i + 1) w' ∧ w.grownBy w' (some p) := by
  have h1 := h.text
  have h2 := h.pos
  have h3 := h.fr
  have hlt := gOf_lt hi
  have e1 : decide (gOf s i = 256) = false := decide_eq_false (by omega)
  have H : Hid (gOf s i = s[i].toNat) := gOf_in hi
  go_enter Tryz.func99, Tryz.ntmps99
  go_wp2_with (go_at_call 81; refine (iAtEnd h (by omega)).mono ?_; rintro e w' ⟨rfl, n, rfl⟩)
  go_quiet (fail)
  go_wp2_with fail
  go_ret
  refine ⟨by rw [H.out]; rfl, ?_, ?_⟩
  · exact (h.next).drewN _
  · exact grown_drewN (grown_set w ⟨p, 1, none⟩ _) _

theorem iTakeIf {p : Nat} {s : ByteArray} {a : Addr} {i : Nat} {w : World} (h : Rd p s a i w) (hi : i ≤ s.size) (hs : s.size ≤ 1000) (b : Nat) (hb : b < 256) :
    Calls Tryz.prog 92 #[.pointer (some ⟨p, 0, none⟩), .int .u8 b] w fun e w' => e = .returned (.bool (decide (gOf s i = b))) ∧ Rd p s a (if gOf s i = b then i + 1 else i) w' ∧ w.grownBy w' (some p) := by
  by_cases hq : gOf s i = b
  · have e1 : decide (gOf s i = b) = true := decide_eq_true hq
    have h1 := h.pos
    have h2 := h.fr
    rw [if_pos hq]
    go_enter Tryz.func92, Tryz.ntmps92
    go_wp2_with (go_at_call 95; refine (iSees h hi b hb).mono ?_; rintro e w' ⟨rfl, n, rfl⟩)
    go_ret
    refine ⟨by rw [e1]; rfl, ?_, ?_⟩
    · exact (h.next).drewN _
    · exact grown_drewN (grown_set w ⟨p, 1, none⟩ _) _
  · have e1 : decide (gOf s i = b) = false := decide_eq_false hq
    rw [if_neg hq]
    go_enter Tryz.func92, Tryz.ntmps92
    go_wp2_with (go_at_call 95; refine (iSees h hi b hb).mono ?_; rintro e w' ⟨rfl, n, rfl⟩)
    go_ret
    exact ⟨by rw [e1]; rfl, h.drewN _, grown_drewN (World.grownBy.refl _ _) _⟩

/-- The same, the byte as it stands in a call. -/
theorem iTakeIfC {p : Nat} {s : ByteArray} {a : Addr} {i : Nat} {w : World} (h : Rd p s a i w) (hi : i ≤ s.size) (hs : s.size ≤ 1000) (b : Nat) (c : Int) (hb : b < 256) (hc : c = b) :
    Calls Tryz.prog 92 #[.pointer (some ⟨p, 0, none⟩), .int .u8 c] w fun e w' => e = .returned (.bool (decide (gOf s i = b))) ∧ Rd p s a (if gOf s i = b then i + 1 else i) w' ∧ w.grownBy w' (some p) := by
  subst hc; exact iTakeIf h hi hs b hb
theorem iSeesC {p : Nat} {s : ByteArray} {a : Addr} {i : Nat} {w : World} (h : Rd p s a i w) (hi : i ≤ s.size) (b : Nat) (c : Int) (hb : b < 256) (hc : c = b) :
    Calls Tryz.prog 95 #[.pointer (some ⟨p, 0, none⟩), .int .u8 c] w fun e w' => e = .returned (.bool (decide (gOf s i = b))) ∧ ∃ n, w' = w.drewN n := by
  subst hc; exact iSees h hi b hb

end Rx
end Go.Proofs.YtkpgdlbcckmpkaaGreatDoor

