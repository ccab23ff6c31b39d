/-
  The specification's cursor over a pattern: l3Now.
-/
import Derived.Test.YtcaaanbajmlcjaaGreatDoorRexFace
namespace Go.Proofs.YtcaaanbajmlcjaaGreatDoor
open Go.RowKit
namespace Rx

/-- The cursor at block p, at place i of s; whether it is none. -/
structure Cs (p : Nat) (s : ByteArray) (i : Int) (bad : Bool) (w : World) : Prop where
  text : w.cell? ⟨p, 0, none⟩ = some (.string s)
  pos : w.cell? ⟨p, 1, none⟩ = some (.int .i64 i)
  bad : w.cell? ⟨p, 2, none⟩ = some (.bool bad)
  fr1 : w.frozen? ⟨p, 1, none⟩ = false
  fr2 : w.frozen? ⟨p, 2, none⟩ = false

theorem Cs.lt {p : Nat} {s : ByteArray} {i : Int} {b : Bool} {w : World} (h : Cs p s i b w) : p < w.heap.size := World.block_lt_of_cell? w _ h.text
theorem Cs.kept {p : Nat} {s : ByteArray} {i : Int} {b : Bool} {w w' : World} (h : Cs p s i b w) (h1 : w'.heap[p]? = w.heap[p]?) : Cs p s i b w' :=
  ⟨(World.cell?_of_block h1).trans h.text, (World.cell?_of_block h1).trans h.pos, (World.cell?_of_block h1).trans h.bad, (World.frozen?_of_block h1).trans h.fr1, (World.frozen?_of_block h1).trans h.fr2⟩
theorem Cs.grown {p : Nat} {s : ByteArray} {i : Int} {b : Bool} {w w' : World} {row : Option Nat} (h : Cs p s i b w) (hg : w.grownBy w' row) (h1 : row ≠ some p) : Cs p s i b w' := h.kept (hg.block _ h.lt fun e => h1 e.symm)
theorem Cs.drewN {p : Nat} {s : ByteArray} {i : Int} {b : Bool} {w : World} (h : Cs p s i b w) (n : Nat) : Cs p s i b (w.drewN n) := ⟨h.text, h.pos, h.bad, h.fr1, h.fr2⟩
theorem Cs.alloc {p : Nat} {s : ByteArray} {i : Int} {b : Bool} {w : World} (h : Cs p s i b w) (o : Obj) : Cs p s i b (w.alloc o) := h.grown (World.grownBy_alloc _ _ none) (by simp)
theorem Cs.set {p : Nat} {s : ByteArray} {i : Int} {b : Bool} {w : World} (h : Cs p s i b w) (j : Int) : Cs p s j b (w.setCell ⟨p, 1, none⟩ (.int .i64 j)) := by
  refine ⟨?_, ?_, ?_, ?_, ?_⟩
  · rw [World.cell?_setCell_other _ _ _ _ (by simp)]; exact h.text
  · exact World.cell?_setCell_same _ _ _ h.pos
  · rw [World.cell?_setCell_other _ _ _ _ (by simp)]; exact h.bad
  · simpa using h.fr1
  · simpa using h.fr2
theorem Cs.spoil {p : Nat} {s : ByteArray} {i : Int} {b : Bool} {w : World} (h : Cs p s i b w) (x : Bool) : Cs p s i x (w.setCell ⟨p, 2, none⟩ (.bool x)) := by
  refine ⟨?_, ?_, ?_, ?_, ?_⟩
  · rw [World.cell?_setCell_other _ _ _ _ (by simp)]; exact h.text
  · rw [World.cell?_setCell_other _ _ _ _ (by simp)]; exact h.pos
  · exact World.cell?_setCell_same _ _ _ h.bad
  · simpa using h.fr1
  · simpa using h.fr2

/-- What l3Now answers. -/
def nowV (s : ByteArray) (i : Int) (bad : Bool) (b : Nat) : Bool := !bad && (decide (0 ≤ i) && decide (gOf s i.toNat = b))

theorem nowV_bad (s : ByteArray) (i : Int) (b : Nat) : nowV s i true b = false := rfl
theorem nowV_good (s : ByteArray) (i b : Nat) : nowV s i false b = decide (gOf s i = b) := by simp [nowV]

theorem sNow {p : Nat} {s : ByteArray} {i : Nat} {w : World} (h : Cs p s i false w) (hi : i ≤ s.size) (b : Nat) (c : Int) (hb : b < 256) (hc : c = b) :
    Calls Tryz.prog 46 #[.pointer (some ⟨p, 0, none⟩), .int .u8 c] w fun e w' => e = .returned (.bool (decide (gOf s i = b))) ∧ ∃ n, w' = w.drewN n := by
  subst hc
  have h1 := h.text
  have h2 := h.pos
  have h3 := h.bad
  rcases Nat.lt_or_ge i s.size with hq | hq
  · have H : Hid (gOf s i = s[i].toNat) := gOf_in hq
    go_enter Tryz.func46, Tryz.ntmps46
    go_wp2
    go_quiet (fail)
    go_wp2
    go_ret
    exact ⟨by rw [H.out]; exact congrArg (fun x => Ending.returned (Value.bool x)) (nat_eqb _ _), _, rfl⟩
  · have e1 : gOf s i = 256 := gOf_out hq
    have e2 : decide (256 = b) = false := decide_eq_false (by omega)
    have e3 : decide ((i : Int) < s.size) = false := decide_eq_false (by omega)
    have e4 : decide (i < s.size) = false := decide_eq_false (by omega)
    have e5 : ¬ i < s.size := by omega
    rw [e1, e2]
    clear e1 e2 hq
    go_enter Tryz.func46, Tryz.ntmps46
    go_wp2
    go_quiet (fail)
    go_wp2
    go_ret
    exact ⟨rfl, _, rfl⟩

theorem sNowBad {p : Nat} {s : ByteArray} {i : Int} {w : World} (h : Cs p s i true w) (c : Int) :
    Calls Tryz.prog 46 #[.pointer (some ⟨p, 0, none⟩), .int .u8 c] w fun e w' => e = .returned (.bool false) ∧ ∃ n, w' = w.drewN n := by
  have h3 := h.bad
  go_enter Tryz.func46, Tryz.ntmps46
  go_wp2
  go_quiet (fail)
  go_wp2
  go_ret
  exact ⟨rfl, _, rfl⟩

end Rx
end Go.Proofs.YtcaaanbajmlcjaaGreatDoor
