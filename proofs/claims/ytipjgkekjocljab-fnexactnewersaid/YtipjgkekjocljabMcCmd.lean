/-
  Commands of clients: what is right of them, on both sides; the law FnExactCmdOk at every command.
-/
import Derived.Test.YtipjgkekjocljabTyWordD
import Derived.Test.YtipjgkekjocljabNumFront
namespace Go.Proofs.Ytipjgkekjocljab
open Go.RowKit
namespace Mc

/-- Whether a command is right. -/
def cmdB (who seq : Int) (s : ByteArray) : Bool :=
  if who = -1 then decide (seq = 0) && decide (s.size = 0)
  else decide (0 ≤ who ∧ who < 3) && (decide (1 ≤ seq ∧ seq ≤ 100000) && (decide ((s.size : Int) ≤ 60) && Ty.lineB s.data.toList))

theorem below_box (w : World) (o : Obj) : Below w.heap.size w (w.alloc o) := (Below.refl _ w).alloc (Nat.le_refl _) o

theorem toCmd_any (k n : Int) (s : ByteArray) (w : World) :
    Calls Try.prog 20 #[.agg #[.int .i64 k, .int .i64 n, .string s]] w fun e w' => e = .returned (.agg #[.int .i64 k, .int .i64 n, .string s]) ∧ Below w.heap.size w w' := by
  go_enter Try.func20, Try.ntmps20
  go_wp2
  refine bodyPost_ret (v := .agg #[.int .i64 k, .int .i64 n, .string s]) (by simp [results, Try.results20, go_sem]) rfl ⟨rfl, ?_⟩
  repeat (first | refine Below.setCell ?_ (by simp <;> omega) _ | refine Below.alloc ?_ (by simp <;> omega) _)
  exact Below.refl _ _
theorem szCmd_far (k n : Int) (s : ByteArray) (l : Int) (w : World) (hl : l < (s.size : Int)) (h1 : -9223372036854775808 ≤ l - (s.size : Int)) (_ : l ≤ 9223372036854775807) :
    Calls Try.prog 19 #[.agg #[.int .i64 k, .int .i64 n, .string s], .int .i64 l] w fun e w' => e = .returned (.int .i64 (-1)) ∧ Below w.heap.size w w' := by
  have hl' : l - (s.size : Int) < 0 := by omega
  go_enter Try.func19, Try.ntmps19
  go_wp2
  go_ret
  exact ⟨rfl, below_box _ _⟩
theorem szCmd_near (k n : Int) (s : ByteArray) (l : Int) (w : World) (hl : (s.size : Int) ≤ l) (h2 : l ≤ 9223372036854775807) :
    Calls Try.prog 19 #[.agg #[.int .i64 k, .int .i64 n, .string s], .int .i64 l] w fun e w' => e = .returned (.int .i64 (l - s.size)) ∧ Below w.heap.size w w' := by
  have hl' : 0 ≤ l - (s.size : Int) := by omega
  have hl2 : l - (s.size : Int) ≤ 9223372036854775807 := by omega
  go_enter Try.func19, Try.ntmps19
  go_wp2
  go_ret
  exact ⟨rfl, below_box _ _⟩

end Mc
end Go.Proofs.Ytipjgkekjocljab
