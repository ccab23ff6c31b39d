/-
  The specification's parser: how it tells a pattern; an atom of a cursor that is bad already.
-/
import Derived.Test.YtcaaanbajmlcjaaGreatDoorRexDeep
import Derived.Test.YtcaaanbajmlcjaaGreatDoorRexCur
namespace Go.Proofs.YtcaaanbajmlcjaaGreatDoor
open Go.RowKit
namespace Rx

/-- Five cells of a Rex, whatever they hold. -/
def Five (a b c d u : Value) : Prop := ∃ (x y : Int) (z : ByteArray) (f : Bool) (ao : Option Addr) (n cap : Nat), a = .int .i64 x ∧ b = .int .i64 y ∧ c = .string z ∧ d = .bool f ∧ u = .slice ao n cap

theorem five_of {w : World} {t : Data} {S : Nat → Prop} {a b c d u : Value} (h : RexIs w t S [a, b, c, d, u]) : Five a b c d u := by
  obtain ⟨op, cc, s, no, ao, n, cap, h⟩ := rex_cells h
  exact ⟨op, cc, ⟨s.toArray⟩, no, ao, n, cap, h⟩

/-- How the specification's functions tell: what is none leaves a bad cursor. -/
def Tells (p : Nat) (s : ByteArray) (w : World) (r : Option (Data × Nat)) (e : Ending) (w' : World) : Prop := match r with
  | none => ∃ (a b c d u : Value) (i : Int), e = .returned (.agg #[a, b, c, d, u]) ∧ Five a b c d u ∧ Cs p s i true w' ∧ w.grownBy w' (some p)
  | some (t, j) => ∃ a b c d u, e = .returned (.agg #[a, b, c, d, u]) ∧ RexIs w' t (Iv w.heap.size w'.heap.size) [a, b, c, d, u] ∧ Cs p s j false w' ∧ w.grownBy w' (some p)

theorem Five.zero : Five (.int .i64 0) (.int .i64 0) (.string ⟨#[]⟩) (.bool false) (.slice none 0 0) := ⟨0, 0, _, false, none, 0, 0, rfl, rfl, rfl, rfl, rfl⟩

/-- A Rex put into a result's variable. -/
def put5 (W : World) (B : Nat) (a b c d u : Value) : World := ((((W.setCell ⟨B, 0, none⟩ a).setCell ⟨B, 1, none⟩ b).setCell ⟨B, 2, none⟩ c).setCell ⟨B, 3, none⟩ d).setCell ⟨B, 4, none⟩ u
theorem put5_var {W : World} {B : Nat} {a0 b0 c0 d0 u0 : Value} (h : Var W B a0 b0 c0 d0 u0) (a b c d u : Value) : Var (put5 W B a b c d u) B a b c d u := ((((h.set0 a).set1 b).set2 c).set3 d).set4 u
theorem put5_block (W : World) {B j : Nat} (h : j ≠ B) (a b c d u : Value) : (put5 W B a b c d u).heap[j]? = W.heap[j]? := by
  unfold put5
  rw [Below.heap_setCell _ _ _ _ h, Below.heap_setCell _ _ _ _ h, Below.heap_setCell _ _ _ _ h, Below.heap_setCell _ _ _ _ h, Below.heap_setCell _ _ _ _ h]
theorem put5_size (W : World) (B : Nat) (a b c d u : Value) : (put5 W B a b c d u).heap.size = W.heap.size := by simp [put5]
theorem put5_grown {w W : World} {B : Nat} {row : Option Nat} (h : w.grownBy W row) (hB : w.heap.size ≤ B) (a b c d u : Value) : w.grownBy (put5 W B a b c d u) row :=
  grown_set_new (grown_set_new (grown_set_new (grown_set_new (grown_set_new h (x := ⟨B, 0, none⟩) hB a) (x := ⟨B, 1, none⟩) hB b) (x := ⟨B, 2, none⟩) hB c) (x := ⟨B, 3, none⟩) hB d) (x := ⟨B, 4, none⟩) hB u

/-- A cursor that is bad stays so. -/
theorem sAtomBad {p : Nat} {s : ByteArray} {i : Int} {w : World} (h : Cs p s i true w) (deep : Int) :
    Calls Tryz.prog 72 #[.pointer (some ⟨p, 0, none⟩), .int .i64 deep] w fun e w' => Tells p s w none e w' := by
  obtain ⟨o1, ho1⟩ : ∃ o1, o1 = Obj.cells #[.int .i64 0, .int .i64 0, .string ⟨#[]⟩, .bool false, .slice none 0 0] 52 := ⟨_, rfl⟩
  have hV : Var (w.alloc o1) w.heap.size (.int .i64 0) (.int .i64 0) (.string ⟨#[]⟩) (.bool false) (.slice none 0 0) := by rw [ho1]; exact heap_alloc_last _ _
  have h1 := h.alloc o1
  have c2 := h1.bad
  have f2 := h1.fr2
  have hp := h.lt
  subst ho1
  go_enter Tryz.func72, Tryz.ntmps72
  go_wp2_with fail
  go_quiet (fail)
  go_wp2_with fail
  have hg : w.grownBy (((w.alloc (.cells #[.int .i64 0, .int .i64 0, .string ⟨#[]⟩, .bool false, .slice none 0 0] 52)).drewN nq).setCell ⟨p, 2, none⟩ (.bool true)) (some p) := (grown_drewN (World.grownBy_alloc w _ _) nq).trans (grown_set _ ⟨p, 2, none⟩ _)
  have hC : Cs p s i true (((w.alloc (.cells #[.int .i64 0, .int .i64 0, .string ⟨#[]⟩, .bool false, .slice none 0 0] 52)).drewN nq).setCell ⟨p, 2, none⟩ (.bool true)) := (h1.drewN nq).spoil true
  have hV2 : Var (((w.alloc (.cells #[.int .i64 0, .int .i64 0, .string ⟨#[]⟩, .bool false, .slice none 0 0] 52)).drewN nq).setCell ⟨p, 2, none⟩ (.bool true)) w.heap.size _ _ _ _ _ := Var.kept (w := w.alloc _) hV (Below.heap_setCell _ ⟨p, 2, none⟩ _ _ (show w.heap.size ≠ p by omega))
  have hF := (put5_var hV2 (.int .i64 0) (.int .i64 0) (.string ⟨#[]⟩) (.bool false) (.slice none 0 0)).cell
  refine bodyPost_ret (v := .agg #[.int .i64 0, .int .i64 0, .string ⟨#[]⟩, .bool false, .slice none 0 0]) ?_ rfl ⟨_, _, _, _, _, i, rfl, Five.zero, hC.kept (put5_block _ (by omega) _ _ _ _ _), put5_grown hg (Nat.le_refl _) _ _ _ _ _⟩
  have x0 := hF.1
  have x1 := hF.2.1
  have x2 := hF.2.2.1
  have x3 := hF.2.2.2.1
  have x4 := hF.2.2.2.2
  clear hF hC hV2 hg hV h1 c2 f2
  unfold put5 at x0 x1 x2 x3 x4
  simp [results, Tryz.results72, go_sem, x0, x1, x2, x3, x4]

end Rx
end Go.Proofs.YtcaaanbajmlcjaaGreatDoor
