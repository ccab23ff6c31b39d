/-
  What is read of a text, by the program and by the specification, at every text; the laws' own copies of a value.
-/
import Derived.Test.YtdkeinnljbfopanGreatDoorValWalks
namespace Go.Proofs.YtdkeinnljbfopanGreatDoor
open Go.RowKit Go.Extern.Stop Go.Stop Go.Extern
set_option linter.unusedVariables false

theorem extract_all (s : ByteArray) : s.extract 0 s.size = s := by
  cases s; simp [ByteArray.extract, ByteArray.size, ByteArray.copySlice]
/-- the laws' own copy of a value -/
theorem toVal_any (k n : Int) (s : ByteArray) (w : World) :
    Calls Tryz.prog 6 #[.agg #[.int .i64 k, .int .i64 n, .string s]] w fun e w' => e = .returned (.agg #[.int .i64 k, .int .i64 n, .string s]) ∧ Below w.heap.size w w' := by
  go_enter Tryz.func6, Tryz.ntmps6
  go_wp2
  refine bodyPost_ret (v := .agg #[.int .i64 k, .int .i64 n, .string s]) (by simp [results, Tryz.results6, go_sem]) rfl ⟨rfl, ?_⟩
  repeat (first | refine Below.setCell ?_ (by simp <;> omega) _ | refine Below.alloc ?_ (by simp <;> omega) _)
  exact Below.refl _ _
theorem szVal_far (k n : Int) (s : ByteArray) (l : Int) (w : World) (hl : l < (s.size : Int)) (h1 : -9223372036854775808 ≤ l - (s.size : Int)) (h2 : l ≤ 9223372036854775807) :
    Calls Tryz.prog 4 #[.agg #[.int .i64 k, .int .i64 n, .string s], .int .i64 l] w fun e w' => e = .returned (.int .i64 (-1)) ∧ Below w.heap.size w w' := by
  have hl' : l - (s.size : Int) < 0 := by omega
  go_enter Tryz.func4, Tryz.ntmps4
  go_wp2
  go_ret
  exact ⟨rfl, below_box (Below.refl _ _) _⟩
theorem szVal_near (k n : Int) (s : ByteArray) (l : Int) (w : World) (hl : (s.size : Int) ≤ l) (h2 : l ≤ 9223372036854775807) :
    Calls Tryz.prog 4 #[.agg #[.int .i64 k, .int .i64 n, .string s], .int .i64 l] w fun e w' => e = .returned (.int .i64 (l - s.size)) ∧ Below w.heap.size w w' := by
  have hl' : 0 ≤ l - (s.size : Int) := by omega
  have hl2 : l - (s.size : Int) ≤ 9223372036854775807 := by omega
  go_enter Tryz.func4, Tryz.ntmps4
  go_wp2
  go_ret
  exact ⟨rfl, below_box (Below.refl _ _) _⟩

end Go.Proofs.YtdkeinnljbfopanGreatDoor
