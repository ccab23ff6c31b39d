/-
  The specification's cursor over a pattern: l3Now.
  The specification's parser: how it tells a pattern; an atom of a cursor that is bad already.
-/
import Derived.Test.YtkpgdlbcckmpkaaGreatDoorP39
import Derived.Test.YtkpgdlbcckmpkaaGreatDoorP40
namespace Go.Proofs.YtkpgdlbcckmpkaaGreatDoor
open Go.RowKit
namespace Rx

/-- The cursor at block p, at place i of s; whether it is none. -/
structure Cs (p : Nat) (s : ByteArray) (i : Int) (bad : Bool) (w : World) : Prop where
  text : w.cell? ⟨p, 0, none⟩ = some (.string s)
  pos : w.cell? ⟨p, 1, none⟩ = some (.int .i64 i)
  bad : w.cell? ⟨p, 2, none⟩ = some (.bool bad)
  fr1 : w.frozen? ⟨p, 1, none⟩ = false
  fr2 : w.frozen? ⟨p, 2, none⟩ = false

theorem Cs.lt {p : Nat} {s : ByteArray} {i : Int} {b : Bool} {w : World} (h : Cs p s i b w) : p < w.heap.size := World.block_lt_of_cell? w _ h.text
theorem Cs.kept {p : Nat} {s : ByteArray} {i : Int} {b : Bool} {w w' : World} (h : Cs p s i b w) (h1 : w'.heap[p]? = w.heap[p]?) : Cs p s i b w' :=
  ⟨(World.cell?_of_block h1).trans h.text, (World.cell?_of_block h1).trans h.pos, (World.cell?_of_block h1).trans h.bad, (World.frozen?_of_block h1).trans h.fr1, (World.frozen?_of_block h1).trans h.fr2⟩
theorem Cs.grown {p : Nat} {s : ByteArray} {i : Int} {b : Bool} {w w' : World} {row : Option Nat} (h : Cs p s i b w) (hg : w.grownBy w' row) (h1 : row ≠ some p) : Cs p s i b w' := h.kept (hg.block _ h.lt fun e => h1 e.symm)
theorem Cs.drewN {p : Nat} {s : ByteArray} {i : Int} {b : Bool} {w : World} (h : Cs p s i b w) (n : Nat) : Cs p s i b (w.drewN n) := ⟨h.text, h.pos, h.bad, h.fr1, h.fr2⟩
theorem Cs.alloc {p : Nat} {s : ByteArray} {i : Int} {b : Bool} {w : World} (h : Cs p s i b w) (o : Obj) : Cs p s i b (w.alloc o) := h.grown (World.grownBy_alloc _ _ none) (by simp)
theorem Cs.set {p : Nat} {s : ByteArray} {i : Int} {b : Bool} {w : World} (h : Cs p s i b w) (j : Int) : Cs p s j b (w.setCell ⟨p, 1, none⟩ (.int .i64 j)) := by
  refine ⟨?_, ?_, ?_, ?_, ?_⟩
  · rw [World.cell?_setCell_other _ _ _ _ (by simp)]; exact h.text
  · exact World.cell?_setCell_same _ _ _ h.pos
  · rw [World.cell?_setCell_other _ _ _ _ (by simp)]; exact h.bad
  · simpa using h.fr1
  · simpa using h.fr2
theorem Cs.spoil {p : Nat} {s : ByteArray} {i : Int} {b : Bool} {w : World} (h : Cs p s i b w) (x : Bool) : Cs p s i x (w.setCell ⟨p, 2, none⟩ (.bool x)) := by
  refine ⟨?_, ?_, ?_, ?_, ?_⟩
  · rw [World.cell?_setCell_other _ _ _ _ (by simp)]; exact h.text
  · rw [World.cell?_setCell_other _ _ _ _ (by simp)]; exact h.pos
  · exact World.cell?_setCell_same _ _ _ h.bad
  · simpa using h.fr1
  · simpa using h.fr2

/-- What l3Now answers. -/
def nowV (s : ByteArray) (i : Int) (bad : Bool) (b : Nat) : Bool := !bad && (decide (0 ≤ i) && decide (gOf s i.toNat = b))

theorem nowV_bad (s : ByteArray) (i : Int) (b : Nat) : nowV s i true b = false := rfl
theorem nowV_good (s : ByteArray) (i b : Nat) : nowV s i false b = decide (gOf s i = b) := by simp [nowV]

theorem sNow {p : Nat} {s : ByteArray} {i : Nat} {w : World} (h : Cs p s i false w) (hi : i ≤ s.size) (b : Nat) (c : Int) (hb : b < 256) (hc : c = b) :
    Calls Tryz.prog 66 #[.pointer (some ⟨p, 0, none⟩), .int .u8 c] w fun e w' => e = .returned (.bool (decide (gOf s i = b))) ∧ ∃ n, w' = w.drewN n := by
  subst hc
  have h1 := h.text
  have h2 := h.pos
  have h3 := h.bad
  rcases Nat.lt_or_ge i s.size with hq | hq
  · have H : Hid (gOf s i = s[i].toNat) := gOf_in hq
    go_enter Tryz.func66, Tryz.ntmps66
    go_wp2
    go_quiet (fail)
    go_wp2
    go_ret
    exact ⟨by rw [H.out]; exact congrArg (fun x => Ending.returned (Value.bool x)) (nat_eqb _ _), _, rfl⟩
  · have e1 : gOf s i = 256 := gOf_out hq
    have e2 : decide (256 = b) = false := decide_eq_false (by omega)
    have e3 : decide ((i : Int) < s.size) = false := decide_eq_false (by omega)
    have e4 : decide (i < s.size) = false := decide_eq_false (by omega)
    have e5 : ¬ i < s.size := by omega
    rw [e1, e2]
    clear e1 e2 hq
    go_enter Tryz.func66, Tryz.ntmps66
    go_wp2
    go_quiet (fail)
    go_wp2
    go_ret
    exact ⟨rfl, _, rfl⟩

theorem sNowBad {p : Nat} {s : ByteArray} {i : Int} {w : World} (h : Cs p s i true w) (c : Int) :
    Calls Tryz.prog 66 #[.pointer (some ⟨p, 0, none⟩), .int .u8 c] w fun e w' => e = .returned (.bool false) ∧ ∃ n, w' = w.drewN n := by
  have h3 := h.bad
  go_enter Tryz.func66, Tryz.ntmps66
  go_wp2
  go_quiet (fail)
  go_wp2
  go_ret
  exact ⟨rfl, _, rfl⟩

end Rx
end Go.Proofs.YtkpgdlbcckmpkaaGreatDoor

namespace Go.Proofs.YtkpgdlbcckmpkaaGreatDoor
open Go.RowKit
namespace Rx

/-- Five cells of a Rex, whatever they hold. -/
def Five (a b c d u : Value) : Prop := ∃ (x y : Int) (z : ByteArray) (f : Bool) (ao : Option Addr) (n cap : Nat), a = .int .i64 x ∧ b = .int .i64 y ∧ c = .string z ∧ d = .bool f ∧ u = .slice ao n cap

theorem five_of {w : World} {t : Data} {S : Nat → Prop} {a b c d u : Value} (h : RexIs w t S [a, b, c, d, u]) : Five a b c d u := by
  obtain ⟨op, cc, s, no, ao, n, cap, h⟩ := rex_cells h
  exact ⟨op, cc, ⟨s.toArray⟩, no, ao, n, cap, h⟩

/-- How the specification's functions tell: what is none leaves a bad cursor. -/
def Tells (p : Nat) (s : ByteArray) (w : World) (r : Option (Data × Nat)) (e : Ending) (w' : World) : Prop := match r with
  | none => ∃ (a b c d u : Value) (i : Int), e = .returned (.agg #[a, b, c, d, u]) ∧ Five a b c d u ∧ Cs p s i true w' ∧ w.grownBy w' (some p)
  | some (t, j) => ∃ a b c d u, e = .returned (.agg #[a, b, c, d, u]) ∧ RexIs w' t (Iv w.heap.size w'.heap.size) [a, b, c, d, u] ∧ Cs p s j false w' ∧ w.grownBy w' (some p)

theorem Five.zero : Five (.int .i64 0) (.int .i64 0) (.string ⟨#[]⟩) (.bool false) (.slice none 0 0) := ⟨0, 0, _, false, none, 0, 0, rfl, rfl, rfl, rfl, rfl⟩

/-- A Rex put into a result's variable. -/
def put5 (W : World) (B : Nat) (a b c d u : Value) : World := ((((W.setCell ⟨B, 0, none⟩ a).setCell ⟨B, 1, none⟩ b).setCell ⟨B, 2, none⟩ c).setCell ⟨B, 3, none⟩ d).setCell ⟨B, 4, none⟩ u
theorem put5_var {W : World} {B : Nat} {a0 b0 c0 d0 u0 : Value} (h : Var W B a0 b0 c0 d0 u0) (a b c d u : Value) : Var (put5 W B a b c d u) B a b c d u := ((((h.set0 a).set1 b).set2 c).set3 d).set4 u
theorem put5_block (W : World) {B j : Nat} (h : j ≠ B) (a b c d u : Value) : (put5 W B a b c d u).heap[j]? = W.heap[j]? := by
  unfold put5
  rw [Below.heap_setCell _ _ _ _ h, Below.heap_setCell _ _ _ _ h, Below.heap_setCell _ _ _ _ h, Below.heap_setCell _ _ _ _ h, Below.heap_setCell _ _ _ _ h]
theorem put5_size (W : World) (B : Nat) (a b c d u : Value) : (put5 W B a b c d u).heap.size = W.heap.size := by simp [put5]
theorem put5_grown {w W : World} {B : Nat} {row : Option Nat} (h : w.grownBy W row) (hB : w.heap.size ≤ B) (a b c d u : Value) : w.grownBy (put5 W B a b c d u) row :=
  grown_set_new (grown_set_new (grown_set_new (grown_set_new (grown_set_new h (x := ⟨B, 0, none⟩) hB a) (x := ⟨B, 1, none⟩) hB b) (x := ⟨B, 2, none⟩) hB c) (x := ⟨B, 3, none⟩) hB d) (x := ⟨B, 4, none⟩) hB u

/-- A cursor that is bad stays so. -/
theorem sAtomBad {p : Nat} {s : ByteArray} {i : Int} {w : World} (h : Cs p s i true w) (deep : Int) :
    Calls Tryz.prog 93 #[.pointer (some ⟨p, 0, none⟩), .int .i64 deep] w fun e w' => Tells p s w none e w' := by
  obtain ⟨o1, ho1⟩ : ∃ o1, o1 = Obj.cells #[.int .i64 0, .int .i64 0, .string ⟨#[]⟩, .bool false, .slice none 0 0] 74 := ⟨_, rfl⟩
  have hV : Var (w.alloc o1) w.heap.size (.int .i64 0) (.int .i64 0) (.string ⟨#[]⟩) (.bool false) (.slice none 0 0) := by rw [ho1]; exact heap_alloc_last _ _
  have h1 := h.alloc o1
  have c2 := h1.bad
  have f2 := h1.fr2
  have hp := h.lt
  subst ho1
  go_enter Tryz.func93, Tryz.ntmps93
  go_wp2_with fail
  go_quiet (fail)
  go_wp2_with fail
  have hg : w.grownBy (((w.alloc (.cells #[.int .i64 0, .int .i64 0, .string ⟨#[]⟩, .bool false, .slice none 0 0] 74)).drewN nq).setCell ⟨p, 2, none⟩ (.bool true)) (some p) := (grown_drewN (World.grownBy_alloc w _ _) nq).trans (grown_set _ ⟨p, 2, none⟩ _)
  have hC : Cs p s i true (((w.alloc (.cells #[.int .i64 0, .int .i64 0, .string ⟨#[]⟩, .bool false, .slice none 0 0] 74)).drewN nq).setCell ⟨p, 2, none⟩ (.bool true)) := (h1.drewN nq).spoil true
  have hV2 : Var (((w.alloc (.cells #[.int .i64 0, .int .i64 0, .string ⟨#[]⟩, .bool false, .slice none 0 0] 74)).drewN nq).setCell ⟨p, 2, none⟩ (.bool true)) w.heap.size _ _ _ _ _ := Var.kept (w := w.alloc _) hV (Below.heap_setCell _ ⟨p, 2, none⟩ _ _ (show w.heap.size ≠ p by omega))
  have hF := (put5_var hV2 (.int .i64 0) (.int .i64 0) (.string ⟨#[]⟩) (.bool false) (.slice none 0 0)).cell
  refine bodyPost_ret (v := .agg #[.int .i64 0, .int .i64 0, .string ⟨#[]⟩, .bool false, .slice none 0 0]) ?_ rfl ⟨_, _, _, _, _, i, rfl, Five.zero, hC.kept (put5_block _ (by omega) _ _ _ _ _), put5_grown hg (Nat.le_refl _) _ _ _ _ _⟩
  have x0 := hF.1
  have x1 := hF.2.1
  have x2 := hF.2.2.1
  have x3 := hF.2.2.2.1
  have x4 := hF.2.2.2.2
  clear hF hC hV2 hg hV h1 c2 f2
  unfold put5 at x0 x1 x2 x3 x4
  simp [results, Tryz.results93, go_sem, x0, x1, x2, x3, x4]

end Rx
end Go.Proofs.YtkpgdlbcckmpkaaGreatDoor

