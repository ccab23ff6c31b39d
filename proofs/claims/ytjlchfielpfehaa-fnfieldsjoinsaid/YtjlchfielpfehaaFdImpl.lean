/-
  Fields, the program's.
-/
import Derived.Test.YtjlchfielpfehaaFdSpec
namespace Go.Proofs.Ytjlchfielpfehaa
open Go.RowKit
namespace Fd
open Go.Lib

theorem pays (w : World) : PredAtRunes Try.prog 27 #[] is32 w := fun W x hx hb => by
  show Calls Try.prog 27 #[.int .i32 (x : Int)] W _
  by_cases h : x = 32
  · subst h
    go_enter Try.func27, Try.ntmps27
    go_wp2_with fail
    go_ret
    exact ⟨rfl, 0, rfl⟩
  · have h1 : ((x : Int) == 32) = false := by simp; omega
    have h2 : is32 x = false := by simp [is32, h]
    rw [h2]
    go_enter Try.func27, Try.ntmps27
    go_wp2_with fail
    go_ret
    exact ⟨rfl, 0, rfl⟩

set_option maxRecDepth 100000 in
theorem iFields {s : ByteArray} (hs : s.size ≤ 1048576) (w : World) :
    Calls Try.prog 9 #[.string s] w fun e w' => ∃ v, e = .returned v ∧ w'.ownsRow w.heap.size 9 1 v (fieldsV s.data.toList).length ((fieldsV s.data.toList).map encStr) ∧ Below w.heap.size w w' := by
  have c := fun w => Try.strings_FieldsFunc_runes 27 #[] (enters_of Try.func27 (by kernel_rfl) rfl) is32 s w (by omega) (pays w)
  simp only [go_fields, go_fields_len] at c
  generalize fieldsV s.data.toList = F at c ⊢
  go_enter Try.func9, Try.ntmps9
  go_wp2_with (go_at_call 26; refine (c _).mono ?_; rintro e w1 ⟨A, rfl, hA, ho, hb⟩)
  go_ret
  exact ⟨_, rfl, ho, hb⟩

end Fd
end Go.Proofs.Ytjlchfielpfehaa
