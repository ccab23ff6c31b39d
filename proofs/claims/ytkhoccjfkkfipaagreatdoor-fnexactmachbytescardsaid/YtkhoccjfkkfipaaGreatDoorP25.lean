/-
  Chapter 6: each function of the program and of the specification at every argument: a value as a number, right values, what is read of a text.
-/
import Derived.Test.YtkhoccjfkkfipaaGreatDoorP22
import Derived.Test.YtkhoccjfkkfipaaGreatDoorP24
namespace Go.Proofs.YtkhoccjfkkfipaaGreatDoor
open Go.RowKit Go.Extern.Stop Go.Stop Go.Extern
set_option linter.unusedVariables false

theorem vFront (s : ByteArray) (a : Addr) (W w : World) (hc : W.cell? ⟨1, 0, none⟩ = some (.iface 273 (.pointer (some a)))) (hb : Below W.heap.size W w) (hs : (s.size : Int) ≤ 1048576) :
    Calls Tryz.prog 134 #[.string s] w fun r w' => r = .returned (.tuple #[.int .i64 (Num.frontV s.data.toList), .int .i64 (Num.frontN s.data.toList)]) ∧ Below W.heap.size W w' := by
  refine (iDecFront s a w (sent_later hc hb) (by unfold maxLen; omega)).mono ?_
  rintro r w' ⟨rfl, hb'⟩
  exact ⟨rfl, hb.trans (hb'.mono hb.size)⟩
theorem vLooks (s : ByteArray) (a : Addr) (W w : World) (hc : W.cell? ⟨1, 0, none⟩ = some (.iface 273 (.pointer (some a)))) (hb : Below W.heap.size W w) (hs : (s.size : Int) ≤ 1048576) :
    Calls Tryz.prog 118 #[.string s] w fun r w' => r = .returned (.tuple #[.int .i64 (Num.looksV s.data.toList), .bool (Num.looksB s.data.toList)]) ∧ Below W.heap.size W w' := by
  refine (iDecLooks s a w (sent_later hc hb) (by unfold maxLen; omega)).mono ?_
  rintro r w' ⟨rfl, hb'⟩
  exact ⟨rfl, hb.trans (hb'.mono hb.size)⟩
theorem below_box {W w : World} (hb : Below W.heap.size W w) (o : Obj) : Below W.heap.size W (w.alloc o) := hb.alloc hb.size _

theorem iLooksLike (s : ByteArray) (n : Int) (a : Addr) (w : World) (hc : w.cell? ⟨1, 0, none⟩ = some (.iface 273 (.pointer (some a)))) (hs : (s.size : Int) ≤ 1048576) :
    Calls Tryz.prog 99 #[.string s, .int .i64 n] w fun e w' => e = .returned (.bool (Num.looksB s.data.toList && Num.looksV s.data.toList == n)) ∧ Below w.heap.size w w' := by
  have call := vLooks s a w w hc (Below.refl _ _) hs
  generalize Num.looksV s.data.toList = V at *
  generalize Num.looksB s.data.toList = B at *
  cases B <;>
  · go_enter Tryz.func99, Tryz.ntmps99
    go_wp2_with (go_at_call 118; refine call.mono ?_; rintro e w' ⟨rfl, hb'⟩)
    go_ret
    exact ⟨by simp, hb'⟩

set_option maxRecDepth 100000 in
theorem iValOk_bad (k n : Int) (s : ByteArray) (a : Addr) (w : World) (hc : w.cell? ⟨1, 0, none⟩ = some (.iface 273 (.pointer (some a)))) (hs : (s.size : Int) ≤ 1048576) (hn : Dec.okB n = false) :
    Calls Tryz.prog 79 #[.agg #[.int .i64 k, .int .i64 n, .string s]] w fun e w' => e = .returned (.bool false) ∧ Below w.heap.size w w' := by
  by_cases h0 : k = 0
  · subst h0
    go_enter Tryz.func79, Tryz.ntmps79
    go_wp2_with (first | (go_at_call 98; refine (iDecOk n a _ (sent_later hc (below_box (Below.refl _ _) _))).mono ?_; rintro e w' ⟨rfl, m, rfl⟩) | (go_at_call 99; refine (iLooksLike s n a _ (sent_later hc (below_drewN (below_box (Below.refl _ _) _) _)) hs).mono ?_; rintro e w2 ⟨rfl, hb2⟩))
    go_ret
    first | exact ⟨rfl, below_drewN (below_box (Below.refl _ _) _) _⟩ | exact ⟨rfl, (below_drewN (below_box (Below.refl _ _) _) _).trans (hb2.mono (below_drewN (below_box (Below.refl _ _) _) _).size)⟩ | exact ⟨by simp [Vl.mtB], below_drewN (below_box (Below.refl _ _) _) _⟩
  by_cases h1 : k = 1
  · subst h1
    go_enter Tryz.func79, Tryz.ntmps79
    go_wp2_with (first | (go_at_call 98; refine (iDecOk n a _ (sent_later hc (below_box (Below.refl _ _) _))).mono ?_; rintro e w' ⟨rfl, m, rfl⟩) | (go_at_call 99; refine (iLooksLike s n a _ (sent_later hc (below_drewN (below_box (Below.refl _ _) _) _)) hs).mono ?_; rintro e w2 ⟨rfl, hb2⟩))
    go_ret
    first | exact ⟨rfl, below_drewN (below_box (Below.refl _ _) _) _⟩ | exact ⟨rfl, (below_drewN (below_box (Below.refl _ _) _) _).trans (hb2.mono (below_drewN (below_box (Below.refl _ _) _) _).size)⟩ | exact ⟨by simp [Vl.mtB], below_drewN (below_box (Below.refl _ _) _) _⟩
  by_cases h2 : k = 2
  · subst h2
    go_enter Tryz.func79, Tryz.ntmps79
    go_wp2_with (first | (go_at_call 98; refine (iDecOk n a _ (sent_later hc (below_box (Below.refl _ _) _))).mono ?_; rintro e w' ⟨rfl, m, rfl⟩) | (go_at_call 99; refine (iLooksLike s n a _ (sent_later hc (below_drewN (below_box (Below.refl _ _) _) _)) hs).mono ?_; rintro e w2 ⟨rfl, hb2⟩))
    go_ret
    first | exact ⟨rfl, below_drewN (below_box (Below.refl _ _) _) _⟩ | exact ⟨rfl, (below_drewN (below_box (Below.refl _ _) _) _).trans (hb2.mono (below_drewN (below_box (Below.refl _ _) _) _).size)⟩ | exact ⟨by simp [Vl.mtB], below_drewN (below_box (Below.refl _ _) _) _⟩
  by_cases h3 : k = 3
  · subst h3
    go_enter Tryz.func79, Tryz.ntmps79
    go_wp2_with (first | (go_at_call 98; refine (iDecOk n a _ (sent_later hc (below_box (Below.refl _ _) _))).mono ?_; rintro e w' ⟨rfl, m, rfl⟩) | (go_at_call 99; refine (iLooksLike s n a _ (sent_later hc (below_drewN (below_box (Below.refl _ _) _) _)) hs).mono ?_; rintro e w2 ⟨rfl, hb2⟩))
    go_ret
    first | exact ⟨rfl, below_drewN (below_box (Below.refl _ _) _) _⟩ | exact ⟨rfl, (below_drewN (below_box (Below.refl _ _) _) _).trans (hb2.mono (below_drewN (below_box (Below.refl _ _) _) _).size)⟩ | exact ⟨by simp [Vl.mtB], below_drewN (below_box (Below.refl _ _) _) _⟩
  have e0 : (k == 0) = false := by simp [h0]
  have e1 : (k == 1) = false := by simp [h1]
  have e2 : (k == 2) = false := by simp [h2]
  have e3 : (k == 3) = false := by simp [h3]
  clear h0 h1 h2 h3
  go_enter Tryz.func79, Tryz.ntmps79
  go_wp2_with (first | (go_at_call 98; refine (iDecOk n a _ (sent_later hc (below_box (Below.refl _ _) _))).mono ?_; rintro e w' ⟨rfl, m, rfl⟩) | (go_at_call 99; refine (iLooksLike s n a _ (sent_later hc (below_drewN (below_box (Below.refl _ _) _) _)) hs).mono ?_; rintro e w2 ⟨rfl, hb2⟩))
  go_ret
  first | exact ⟨rfl, below_drewN (below_box (Below.refl _ _) _) _⟩ | exact ⟨rfl, (below_drewN (below_box (Below.refl _ _) _) _).trans (hb2.mono (below_drewN (below_box (Below.refl _ _) _) _).size)⟩ | exact ⟨by simp [Vl.mtB], below_drewN (below_box (Below.refl _ _) _) _⟩

set_option maxRecDepth 100000 in
theorem iValOk_long (k n : Int) (s : ByteArray) (a : Addr) (w : World) (hc : w.cell? ⟨1, 0, none⟩ = some (.iface 273 (.pointer (some a)))) (hs : (s.size : Int) ≤ 1048576) (hn : Dec.okB n = true) (hl : (300 : Int) < s.size) :
    Calls Tryz.prog 79 #[.agg #[.int .i64 k, .int .i64 n, .string s]] w fun e w' => e = .returned (.bool false) ∧ Below w.heap.size w w' := by
  by_cases h0 : k = 0
  · subst h0
    go_enter Tryz.func79, Tryz.ntmps79
    go_wp2_with (first | (go_at_call 98; refine (iDecOk n a _ (sent_later hc (below_box (Below.refl _ _) _))).mono ?_; rintro e w' ⟨rfl, m, rfl⟩) | (go_at_call 99; refine (iLooksLike s n a _ (sent_later hc (below_drewN (below_box (Below.refl _ _) _) _)) hs).mono ?_; rintro e w2 ⟨rfl, hb2⟩))
    go_ret
    first | exact ⟨rfl, below_drewN (below_box (Below.refl _ _) _) _⟩ | exact ⟨rfl, (below_drewN (below_box (Below.refl _ _) _) _).trans (hb2.mono (below_drewN (below_box (Below.refl _ _) _) _).size)⟩ | exact ⟨by simp [Vl.mtB], below_drewN (below_box (Below.refl _ _) _) _⟩
  by_cases h1 : k = 1
  · subst h1
    go_enter Tryz.func79, Tryz.ntmps79
    go_wp2_with (first | (go_at_call 98; refine (iDecOk n a _ (sent_later hc (below_box (Below.refl _ _) _))).mono ?_; rintro e w' ⟨rfl, m, rfl⟩) | (go_at_call 99; refine (iLooksLike s n a _ (sent_later hc (below_drewN (below_box (Below.refl _ _) _) _)) hs).mono ?_; rintro e w2 ⟨rfl, hb2⟩))
    go_ret
    first | exact ⟨rfl, below_drewN (below_box (Below.refl _ _) _) _⟩ | exact ⟨rfl, (below_drewN (below_box (Below.refl _ _) _) _).trans (hb2.mono (below_drewN (below_box (Below.refl _ _) _) _).size)⟩ | exact ⟨by simp [Vl.mtB], below_drewN (below_box (Below.refl _ _) _) _⟩
  by_cases h2 : k = 2
  · subst h2
    go_enter Tryz.func79, Tryz.ntmps79
    go_wp2_with (first | (go_at_call 98; refine (iDecOk n a _ (sent_later hc (below_box (Below.refl _ _) _))).mono ?_; rintro e w' ⟨rfl, m, rfl⟩) | (go_at_call 99; refine (iLooksLike s n a _ (sent_later hc (below_drewN (below_box (Below.refl _ _) _) _)) hs).mono ?_; rintro e w2 ⟨rfl, hb2⟩))
    go_ret
    first | exact ⟨rfl, below_drewN (below_box (Below.refl _ _) _) _⟩ | exact ⟨rfl, (below_drewN (below_box (Below.refl _ _) _) _).trans (hb2.mono (below_drewN (below_box (Below.refl _ _) _) _).size)⟩ | exact ⟨by simp [Vl.mtB], below_drewN (below_box (Below.refl _ _) _) _⟩
  by_cases h3 : k = 3
  · subst h3
    go_enter Tryz.func79, Tryz.ntmps79
    go_wp2_with (first | (go_at_call 98; refine (iDecOk n a _ (sent_later hc (below_box (Below.refl _ _) _))).mono ?_; rintro e w' ⟨rfl, m, rfl⟩) | (go_at_call 99; refine (iLooksLike s n a _ (sent_later hc (below_drewN (below_box (Below.refl _ _) _) _)) hs).mono ?_; rintro e w2 ⟨rfl, hb2⟩))
    go_ret
    first | exact ⟨rfl, below_drewN (below_box (Below.refl _ _) _) _⟩ | exact ⟨rfl, (below_drewN (below_box (Below.refl _ _) _) _).trans (hb2.mono (below_drewN (below_box (Below.refl _ _) _) _).size)⟩ | exact ⟨by simp [Vl.mtB], below_drewN (below_box (Below.refl _ _) _) _⟩
  have e0 : (k == 0) = false := by simp [h0]
  have e1 : (k == 1) = false := by simp [h1]
  have e2 : (k == 2) = false := by simp [h2]
  have e3 : (k == 3) = false := by simp [h3]
  clear h0 h1 h2 h3
  go_enter Tryz.func79, Tryz.ntmps79
  go_wp2_with (first | (go_at_call 98; refine (iDecOk n a _ (sent_later hc (below_box (Below.refl _ _) _))).mono ?_; rintro e w' ⟨rfl, m, rfl⟩) | (go_at_call 99; refine (iLooksLike s n a _ (sent_later hc (below_drewN (below_box (Below.refl _ _) _) _)) hs).mono ?_; rintro e w2 ⟨rfl, hb2⟩))
  go_ret
  first | exact ⟨rfl, below_drewN (below_box (Below.refl _ _) _) _⟩ | exact ⟨rfl, (below_drewN (below_box (Below.refl _ _) _) _).trans (hb2.mono (below_drewN (below_box (Below.refl _ _) _) _).size)⟩ | exact ⟨by simp [Vl.mtB], below_drewN (below_box (Below.refl _ _) _) _⟩

set_option maxRecDepth 100000 in
theorem iValOk_fine (k n : Int) (s : ByteArray) (a : Addr) (w : World) (hc : w.cell? ⟨1, 0, none⟩ = some (.iface 273 (.pointer (some a)))) (hs : (s.size : Int) ≤ 1048576) (hn : Dec.okB n = true) (hl : (s.size : Int) ≤ 300) :
    Calls Tryz.prog 79 #[.agg #[.int .i64 k, .int .i64 n, .string s]] w fun e w' => e = .returned (.bool (Vl.kindB k n s)) ∧ Below w.heap.size w w' := by
  by_cases h0 : k = 0
  · subst h0
    rw [Vl.kind0]
    cases hz : (n == 0) with
    | true =>
      go_enter Tryz.func79, Tryz.ntmps79
      go_wp2_with (first | (go_at_call 98; refine (iDecOk n a _ (sent_later hc (below_box (Below.refl _ _) _))).mono ?_; rintro e w' ⟨rfl, m, rfl⟩) | (go_at_call 99; refine (iLooksLike s n a _ (sent_later hc (below_drewN (below_box (Below.refl _ _) _) _)) hs).mono ?_; rintro e w2 ⟨rfl, hb2⟩))
      go_ret
      first | exact ⟨rfl, below_drewN (below_box (Below.refl _ _) _) _⟩ | exact ⟨rfl, (below_drewN (below_box (Below.refl _ _) _) _).trans (hb2.mono (below_drewN (below_box (Below.refl _ _) _) _).size)⟩ | exact ⟨by simp [Vl.mtB], below_drewN (below_box (Below.refl _ _) _) _⟩
    | false =>
      go_enter Tryz.func79, Tryz.ntmps79
      go_wp2_with (first | (go_at_call 98; refine (iDecOk n a _ (sent_later hc (below_box (Below.refl _ _) _))).mono ?_; rintro e w' ⟨rfl, m, rfl⟩) | (go_at_call 99; refine (iLooksLike s n a _ (sent_later hc (below_drewN (below_box (Below.refl _ _) _) _)) hs).mono ?_; rintro e w2 ⟨rfl, hb2⟩))
      go_ret
      first | exact ⟨rfl, below_drewN (below_box (Below.refl _ _) _) _⟩ | exact ⟨rfl, (below_drewN (below_box (Below.refl _ _) _) _).trans (hb2.mono (below_drewN (below_box (Below.refl _ _) _) _).size)⟩ | exact ⟨by simp [Vl.mtB], below_drewN (below_box (Below.refl _ _) _) _⟩
  by_cases h1 : k = 1
  · subst h1
    rw [Vl.kind1]
    go_enter Tryz.func79, Tryz.ntmps79
    go_wp2_with (first | (go_at_call 98; refine (iDecOk n a _ (sent_later hc (below_box (Below.refl _ _) _))).mono ?_; rintro e w' ⟨rfl, m, rfl⟩) | (go_at_call 99; refine (iLooksLike s n a _ (sent_later hc (below_drewN (below_box (Below.refl _ _) _) _)) hs).mono ?_; rintro e w2 ⟨rfl, hb2⟩))
    go_ret
    first | exact ⟨rfl, below_drewN (below_box (Below.refl _ _) _) _⟩ | exact ⟨rfl, (below_drewN (below_box (Below.refl _ _) _) _).trans (hb2.mono (below_drewN (below_box (Below.refl _ _) _) _).size)⟩ | exact ⟨by simp [Vl.mtB], below_drewN (below_box (Below.refl _ _) _) _⟩
  by_cases h2 : k = 2
  · subst h2
    rw [Vl.kind2]
    go_enter Tryz.func79, Tryz.ntmps79
    go_wp2_with (first | (go_at_call 98; refine (iDecOk n a _ (sent_later hc (below_box (Below.refl _ _) _))).mono ?_; rintro e w' ⟨rfl, m, rfl⟩) | (go_at_call 99; refine (iLooksLike s n a _ (sent_later hc (below_drewN (below_box (Below.refl _ _) _) _)) hs).mono ?_; rintro e w2 ⟨rfl, hb2⟩))
    go_ret
    first | exact ⟨rfl, below_drewN (below_box (Below.refl _ _) _) _⟩ | exact ⟨rfl, (below_drewN (below_box (Below.refl _ _) _) _).trans (hb2.mono (below_drewN (below_box (Below.refl _ _) _) _).size)⟩ | exact ⟨by simp [Vl.mtB], below_drewN (below_box (Below.refl _ _) _) _⟩
  by_cases h3 : k = 3
  · subst h3
    rw [Vl.kind3]
    go_enter Tryz.func79, Tryz.ntmps79
    go_wp2_with (first | (go_at_call 98; refine (iDecOk n a _ (sent_later hc (below_box (Below.refl _ _) _))).mono ?_; rintro e w' ⟨rfl, m, rfl⟩) | (go_at_call 99; refine (iLooksLike s n a _ (sent_later hc (below_drewN (below_box (Below.refl _ _) _) _)) hs).mono ?_; rintro e w2 ⟨rfl, hb2⟩))
    go_ret
    first | exact ⟨rfl, below_drewN (below_box (Below.refl _ _) _) _⟩ | exact ⟨rfl, (below_drewN (below_box (Below.refl _ _) _) _).trans (hb2.mono (below_drewN (below_box (Below.refl _ _) _) _).size)⟩ | exact ⟨by simp [Vl.mtB], below_drewN (below_box (Below.refl _ _) _) _⟩
  rw [Vl.kind9 h0 h1 h2 h3]
  have e0 : (k == 0) = false := by simp [h0]
  have e1 : (k == 1) = false := by simp [h1]
  have e2 : (k == 2) = false := by simp [h2]
  have e3 : (k == 3) = false := by simp [h3]
  clear h0 h1 h2 h3
  go_enter Tryz.func79, Tryz.ntmps79
  go_wp2_with (first | (go_at_call 98; refine (iDecOk n a _ (sent_later hc (below_box (Below.refl _ _) _))).mono ?_; rintro e w' ⟨rfl, m, rfl⟩) | (go_at_call 99; refine (iLooksLike s n a _ (sent_later hc (below_drewN (below_box (Below.refl _ _) _) _)) hs).mono ?_; rintro e w2 ⟨rfl, hb2⟩))
  go_ret
  first | exact ⟨rfl, below_drewN (below_box (Below.refl _ _) _) _⟩ | exact ⟨rfl, (below_drewN (below_box (Below.refl _ _) _) _).trans (hb2.mono (below_drewN (below_box (Below.refl _ _) _) _).size)⟩ | exact ⟨by simp [Vl.mtB], below_drewN (below_box (Below.refl _ _) _) _⟩

theorem iValOk (k n : Int) (s : ByteArray) (a : Addr) (w : World) (hc : w.cell? ⟨1, 0, none⟩ = some (.iface 273 (.pointer (some a)))) (hs : (s.size : Int) ≤ 1048576)  :
    Calls Tryz.prog 79 #[.agg #[.int .i64 k, .int .i64 n, .string s]] w fun e w' => e = .returned (.bool (Vl.okV k n s)) ∧ Below w.heap.size w w' := by
  cases hn : Dec.okB n with
  | false => rw [Vl.ok_num hn]; exact iValOk_bad k n s a w hc hs hn
  | true =>
    by_cases hl : (300 : Int) < s.size
    · rw [Vl.ok_long hl]; exact iValOk_long k n s a w hc hs hn hl
    · rw [Vl.ok_kind hn (by omega)]; exact iValOk_fine k n s a w hc hs hn (by omega)

set_option maxRecDepth 100000 in
theorem sValOk_bad (k n : Int) (s : ByteArray) (w : World) (hs : (s.size : Int) ≤ 1048576) (hn : Dec.okB n = false) :
    Calls Tryz.prog 69 #[.agg #[.int .i64 k, .int .i64 n, .string s]] w fun e w' => e = .returned (.bool false) ∧ Below w.heap.size w w' := by
  have hs' : (s.size : Int) ≤ 9223372036854775806 := by omega
  by_cases h0 : k = 0
  · subst h0
    go_enter Tryz.func69, Tryz.ntmps69
    go_wp2_with (first | (go_at_call 45; go_in) | (go_at_call 86; refine (sDecOk n _).mono ?_; rintro e w' ⟨rfl, hw'⟩; have hw' := hw'.symm; subst hw') | (go_at_call 87; refine (sDecLooks s _ hs').mono ?_; rintro e w2 ⟨rfl, hw'⟩; have hw' := hw'.symm; subst hw'))
    go_ret
    exact ⟨by first | rfl | simp [Vl.mtB], below_box (Below.refl _ _) _⟩
  by_cases h1 : k = 1
  · subst h1
    go_enter Tryz.func69, Tryz.ntmps69
    go_wp2_with (first | (go_at_call 45; go_in) | (go_at_call 86; refine (sDecOk n _).mono ?_; rintro e w' ⟨rfl, hw'⟩; have hw' := hw'.symm; subst hw') | (go_at_call 87; refine (sDecLooks s _ hs').mono ?_; rintro e w2 ⟨rfl, hw'⟩; have hw' := hw'.symm; subst hw'))
    go_ret
    exact ⟨by first | rfl | simp [Vl.mtB], below_box (Below.refl _ _) _⟩
  by_cases h2 : k = 2
  · subst h2
    go_enter Tryz.func69, Tryz.ntmps69
    go_wp2_with (first | (go_at_call 45; go_in) | (go_at_call 86; refine (sDecOk n _).mono ?_; rintro e w' ⟨rfl, hw'⟩; have hw' := hw'.symm; subst hw') | (go_at_call 87; refine (sDecLooks s _ hs').mono ?_; rintro e w2 ⟨rfl, hw'⟩; have hw' := hw'.symm; subst hw'))
    go_ret
    exact ⟨by first | rfl | simp [Vl.mtB], below_box (Below.refl _ _) _⟩
  by_cases h3 : k = 3
  · subst h3
    go_enter Tryz.func69, Tryz.ntmps69
    go_wp2_with (first | (go_at_call 45; go_in) | (go_at_call 86; refine (sDecOk n _).mono ?_; rintro e w' ⟨rfl, hw'⟩; have hw' := hw'.symm; subst hw') | (go_at_call 87; refine (sDecLooks s _ hs').mono ?_; rintro e w2 ⟨rfl, hw'⟩; have hw' := hw'.symm; subst hw'))
    go_ret
    exact ⟨by first | rfl | simp [Vl.mtB], below_box (Below.refl _ _) _⟩
  have e0 : (k == 0) = false := by simp [h0]
  have e1 : (k == 1) = false := by simp [h1]
  have e2 : (k == 2) = false := by simp [h2]
  have e3 : (k == 3) = false := by simp [h3]
  by_cases hk : k < 0
  · clear h0 h1 h2 h3
    go_enter Tryz.func69, Tryz.ntmps69
    go_wp2_with (first | (go_at_call 45; go_in) | (go_at_call 86; refine (sDecOk n _).mono ?_; rintro e w' ⟨rfl, hw'⟩; have hw' := hw'.symm; subst hw') | (go_at_call 87; refine (sDecLooks s _ hs').mono ?_; rintro e w2 ⟨rfl, hw'⟩; have hw' := hw'.symm; subst hw'))
    go_ret
    exact ⟨by first | rfl | simp [Vl.mtB], below_box (Below.refl _ _) _⟩
  · have hk3 : 3 < k := by omega
    have hk0 : 0 ≤ k := by omega
    clear h0 h1 h2 h3
    go_enter Tryz.func69, Tryz.ntmps69
    go_wp2_with (first | (go_at_call 45; go_in) | (go_at_call 86; refine (sDecOk n _).mono ?_; rintro e w' ⟨rfl, hw'⟩; have hw' := hw'.symm; subst hw') | (go_at_call 87; refine (sDecLooks s _ hs').mono ?_; rintro e w2 ⟨rfl, hw'⟩; have hw' := hw'.symm; subst hw'))
    go_ret
    exact ⟨by first | rfl | simp [Vl.mtB], below_box (Below.refl _ _) _⟩

set_option maxRecDepth 100000 in
theorem sValOk_long (k n : Int) (s : ByteArray) (w : World) (hs : (s.size : Int) ≤ 1048576) (hn : Dec.okB n = true) (hl : (300 : Int) < s.size) :
    Calls Tryz.prog 69 #[.agg #[.int .i64 k, .int .i64 n, .string s]] w fun e w' => e = .returned (.bool false) ∧ Below w.heap.size w w' := by
  have hs' : (s.size : Int) ≤ 9223372036854775806 := by omega
  by_cases h0 : k = 0
  · subst h0
    go_enter Tryz.func69, Tryz.ntmps69
    go_wp2_with (first | (go_at_call 45; go_in) | (go_at_call 86; refine (sDecOk n _).mono ?_; rintro e w' ⟨rfl, hw'⟩; have hw' := hw'.symm; subst hw') | (go_at_call 87; refine (sDecLooks s _ hs').mono ?_; rintro e w2 ⟨rfl, hw'⟩; have hw' := hw'.symm; subst hw'))
    go_ret
    exact ⟨by first | rfl | simp [Vl.mtB], below_box (Below.refl _ _) _⟩
  by_cases h1 : k = 1
  · subst h1
    go_enter Tryz.func69, Tryz.ntmps69
    go_wp2_with (first | (go_at_call 45; go_in) | (go_at_call 86; refine (sDecOk n _).mono ?_; rintro e w' ⟨rfl, hw'⟩; have hw' := hw'.symm; subst hw') | (go_at_call 87; refine (sDecLooks s _ hs').mono ?_; rintro e w2 ⟨rfl, hw'⟩; have hw' := hw'.symm; subst hw'))
    go_ret
    exact ⟨by first | rfl | simp [Vl.mtB], below_box (Below.refl _ _) _⟩
  by_cases h2 : k = 2
  · subst h2
    go_enter Tryz.func69, Tryz.ntmps69
    go_wp2_with (first | (go_at_call 45; go_in) | (go_at_call 86; refine (sDecOk n _).mono ?_; rintro e w' ⟨rfl, hw'⟩; have hw' := hw'.symm; subst hw') | (go_at_call 87; refine (sDecLooks s _ hs').mono ?_; rintro e w2 ⟨rfl, hw'⟩; have hw' := hw'.symm; subst hw'))
    go_ret
    exact ⟨by first | rfl | simp [Vl.mtB], below_box (Below.refl _ _) _⟩
  by_cases h3 : k = 3
  · subst h3
    go_enter Tryz.func69, Tryz.ntmps69
    go_wp2_with (first | (go_at_call 45; go_in) | (go_at_call 86; refine (sDecOk n _).mono ?_; rintro e w' ⟨rfl, hw'⟩; have hw' := hw'.symm; subst hw') | (go_at_call 87; refine (sDecLooks s _ hs').mono ?_; rintro e w2 ⟨rfl, hw'⟩; have hw' := hw'.symm; subst hw'))
    go_ret
    exact ⟨by first | rfl | simp [Vl.mtB], below_box (Below.refl _ _) _⟩
  have e0 : (k == 0) = false := by simp [h0]
  have e1 : (k == 1) = false := by simp [h1]
  have e2 : (k == 2) = false := by simp [h2]
  have e3 : (k == 3) = false := by simp [h3]
  by_cases hk : k < 0
  · clear h0 h1 h2 h3
    go_enter Tryz.func69, Tryz.ntmps69
    go_wp2_with (first | (go_at_call 45; go_in) | (go_at_call 86; refine (sDecOk n _).mono ?_; rintro e w' ⟨rfl, hw'⟩; have hw' := hw'.symm; subst hw') | (go_at_call 87; refine (sDecLooks s _ hs').mono ?_; rintro e w2 ⟨rfl, hw'⟩; have hw' := hw'.symm; subst hw'))
    go_ret
    exact ⟨by first | rfl | simp [Vl.mtB], below_box (Below.refl _ _) _⟩
  · have hk3 : 3 < k := by omega
    have hk0 : 0 ≤ k := by omega
    clear h0 h1 h2 h3
    go_enter Tryz.func69, Tryz.ntmps69
    go_wp2_with (first | (go_at_call 45; go_in) | (go_at_call 86; refine (sDecOk n _).mono ?_; rintro e w' ⟨rfl, hw'⟩; have hw' := hw'.symm; subst hw') | (go_at_call 87; refine (sDecLooks s _ hs').mono ?_; rintro e w2 ⟨rfl, hw'⟩; have hw' := hw'.symm; subst hw'))
    go_ret
    exact ⟨by first | rfl | simp [Vl.mtB], below_box (Below.refl _ _) _⟩

set_option maxRecDepth 100000 in
theorem sValOk_fine (k n : Int) (s : ByteArray) (w : World) (hs : (s.size : Int) ≤ 1048576) (hn : Dec.okB n = true) (hl : (s.size : Int) ≤ 300) :
    Calls Tryz.prog 69 #[.agg #[.int .i64 k, .int .i64 n, .string s]] w fun e w' => e = .returned (.bool (Vl.kindB k n s)) ∧ Below w.heap.size w w' := by
  have hs' : (s.size : Int) ≤ 9223372036854775806 := by omega
  by_cases h0 : k = 0
  · subst h0
    rw [Vl.kind0]
    cases hz : (n == 0) with
    | true =>
      go_enter Tryz.func69, Tryz.ntmps69
      go_wp2_with (first | (go_at_call 45; go_in) | (go_at_call 86; refine (sDecOk n _).mono ?_; rintro e w' ⟨rfl, hw'⟩; have hw' := hw'.symm; subst hw') | (go_at_call 87; refine (sDecLooks s _ hs').mono ?_; rintro e w2 ⟨rfl, hw'⟩; have hw' := hw'.symm; subst hw'))
      go_ret
      exact ⟨by first | rfl | simp [Vl.mtB], below_box (Below.refl _ _) _⟩
    | false =>
      go_enter Tryz.func69, Tryz.ntmps69
      go_wp2_with (first | (go_at_call 45; go_in) | (go_at_call 86; refine (sDecOk n _).mono ?_; rintro e w' ⟨rfl, hw'⟩; have hw' := hw'.symm; subst hw') | (go_at_call 87; refine (sDecLooks s _ hs').mono ?_; rintro e w2 ⟨rfl, hw'⟩; have hw' := hw'.symm; subst hw'))
      go_ret
      exact ⟨by first | rfl | simp [Vl.mtB], below_box (Below.refl _ _) _⟩
  by_cases h1 : k = 1
  · subst h1
    rw [Vl.kind1]
    go_enter Tryz.func69, Tryz.ntmps69
    go_wp2_with (first | (go_at_call 45; go_in) | (go_at_call 86; refine (sDecOk n _).mono ?_; rintro e w' ⟨rfl, hw'⟩; have hw' := hw'.symm; subst hw') | (go_at_call 87; refine (sDecLooks s _ hs').mono ?_; rintro e w2 ⟨rfl, hw'⟩; have hw' := hw'.symm; subst hw'))
    go_ret
    exact ⟨by first | rfl | simp [Vl.mtB], below_box (Below.refl _ _) _⟩
  by_cases h2 : k = 2
  · subst h2
    rw [Vl.kind2]
    go_enter Tryz.func69, Tryz.ntmps69
    go_wp2_with (first | (go_at_call 45; go_in) | (go_at_call 86; refine (sDecOk n _).mono ?_; rintro e w' ⟨rfl, hw'⟩; have hw' := hw'.symm; subst hw') | (go_at_call 87; refine (sDecLooks s _ hs').mono ?_; rintro e w2 ⟨rfl, hw'⟩; have hw' := hw'.symm; subst hw'))
    go_ret
    exact ⟨by first | rfl | simp [Vl.mtB], below_box (Below.refl _ _) _⟩
  by_cases h3 : k = 3
  · subst h3
    rw [Vl.kind3]
    have call := fun w => sDecLooks s w hs'
    generalize Num.looksV s.data.toList = V at *
    generalize Num.looksB s.data.toList = B at *
    cases B <;>
    · go_enter Tryz.func69, Tryz.ntmps69
      go_wp2_with (first | (go_at_call 45; go_in) | (go_at_call 86; refine (sDecOk n _).mono ?_; rintro e w' ⟨rfl, hw'⟩; have hw' := hw'.symm; subst hw') | (go_at_call 87; refine (call _).mono ?_; rintro e w2 ⟨rfl, hw'⟩; have hw' := hw'.symm; subst hw'))
      go_ret
      exact ⟨by first | rfl | simp [Vl.mtB], below_box (Below.refl _ _) _⟩
  rw [Vl.kind9 h0 h1 h2 h3]
  have e0 : (k == 0) = false := by simp [h0]
  have e1 : (k == 1) = false := by simp [h1]
  have e2 : (k == 2) = false := by simp [h2]
  have e3 : (k == 3) = false := by simp [h3]
  by_cases hk : k < 0
  · clear h0 h1 h2 h3
    go_enter Tryz.func69, Tryz.ntmps69
    go_wp2_with (first | (go_at_call 45; go_in) | (go_at_call 86; refine (sDecOk n _).mono ?_; rintro e w' ⟨rfl, hw'⟩; have hw' := hw'.symm; subst hw') | (go_at_call 87; refine (sDecLooks s _ hs').mono ?_; rintro e w2 ⟨rfl, hw'⟩; have hw' := hw'.symm; subst hw'))
    go_ret
    exact ⟨by first | rfl | simp [Vl.mtB], below_box (Below.refl _ _) _⟩
  · have hk3 : 3 < k := by omega
    have hk0 : 0 ≤ k := by omega
    clear h0 h1 h2 h3
    go_enter Tryz.func69, Tryz.ntmps69
    go_wp2_with (first | (go_at_call 45; go_in) | (go_at_call 86; refine (sDecOk n _).mono ?_; rintro e w' ⟨rfl, hw'⟩; have hw' := hw'.symm; subst hw') | (go_at_call 87; refine (sDecLooks s _ hs').mono ?_; rintro e w2 ⟨rfl, hw'⟩; have hw' := hw'.symm; subst hw'))
    go_ret
    exact ⟨by first | rfl | simp [Vl.mtB], below_box (Below.refl _ _) _⟩

theorem sValOk (k n : Int) (s : ByteArray) (w : World) (hs : (s.size : Int) ≤ 1048576)  :
    Calls Tryz.prog 69 #[.agg #[.int .i64 k, .int .i64 n, .string s]] w fun e w' => e = .returned (.bool (Vl.okV k n s)) ∧ Below w.heap.size w w' := by
  cases hn : Dec.okB n with
  | false => rw [Vl.ok_num hn]; exact sValOk_bad k n s w hs hn
  | true =>
    by_cases hl : (300 : Int) < s.size
    · rw [Vl.ok_long hl]; exact sValOk_long k n s w hs hn hl
    · rw [Vl.ok_kind hn (by omega)]; exact sValOk_fine k n s w hs hn (by omega)

end Go.Proofs.YtkhoccjfkkfipaaGreatDoor
