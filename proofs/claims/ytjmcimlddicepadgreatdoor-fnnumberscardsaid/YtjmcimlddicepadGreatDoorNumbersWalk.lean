/-
  The walk of FnNumbers: whatever the bytes, it returns true; what was there stays.
-/
import Derived.Test.YtjmcimlddicepadGreatDoorNumWorth
import Derived.Test.YtjmcimlddicepadGreatDoorNumSpecEnd
import Derived.Test.YtjmcimlddicepadGreatDoorDrawText
namespace Go.Proofs.YtjmcimlddicepadGreatDoor
open Go.RowKit Go.Extern.Stop Go.Stop Go.Extern
set_option linter.unusedVariables false

/-- what is read of a number's text -/
def shownV (x : Int) : Int := Num.looksV (Num.decTextL x)
theorem shown_is {x : Int} (h : Dec.okB x = true) : shownV x = x := Num.looks_value h
def frV (s : ByteArray) : Int := Num.frontV s.data.toList
def frN (s : ByteArray) : Nat := Num.frontN s.data.toList
def lkV (s : ByteArray) : Int := Num.looksV s.data.toList
def lkB (s : ByteArray) : Bool := Num.looksB s.data.toList
def txt (x : Int) : ByteArray := ⟨(Num.decTextL x).toArray⟩
theorem txt_size (x : Int) : ((txt x).size : Int) ≤ 40 := by unfold txt; rw [Lib.size_mk]; exact text_len x
theorem frN_le (s : ByteArray) : (frN s : Int) ≤ (s.size : Int) := by
  have h := Num.frontN_le s.data.toList
  have e : s.data.toList.length = s.size := by simp
  unfold frN; omega
theorem lkV_txt (x : Int) : lkV (txt x) = shownV x := rfl
theorem lkB_txt (x : Int) : lkB (txt x) = Dec.okB x := Num.looks_shown x

theorem lDecText (x : Int) (a : Addr) (W w : World) (hc : W.cell? ⟨0, 0, none⟩ = some (.iface 135 (.pointer (some a)))) (hT : Lib.TabIs Tryz.prog W "internal/strconv.uint64pow10" .u64 Lib.pow10Tab) (hb : Below W.heap.size W w) :
    Calls Tryz.prog 6 #[.int .i64 x] w fun r w' => r = .returned (.string (txt x)) ∧ Below W.heap.size W w' := by
  refine (iDecText x a w (sent_later hc hb) (tab_later hT hb)).mono ?_
  rintro r w' ⟨rfl, hb'⟩
  exact ⟨rfl, hb.trans (hb'.mono hb.size)⟩
theorem lsDecText (x : Int) (a : Addr) (W w : World) (hc : W.cell? ⟨0, 0, none⟩ = some (.iface 135 (.pointer (some a)))) (hT : Lib.TabIs Tryz.prog W "internal/strconv.uint64pow10" .u64 Lib.pow10Tab) (hb : Below W.heap.size W w) :
    Calls Tryz.prog 8 #[.int .i64 x] w fun r w' => r = .returned (.string (txt x)) ∧ Below W.heap.size W w' := by
  refine (sDecText x w).mono ?_
  rintro r w' ⟨rfl, hb'⟩
  exact ⟨rfl, hb.trans (hb'.mono hb.size)⟩
theorem lDecFront (s : ByteArray) (a : Addr) (W w : World) (hc : W.cell? ⟨0, 0, none⟩ = some (.iface 135 (.pointer (some a)))) (hT : Lib.TabIs Tryz.prog W "internal/strconv.uint64pow10" .u64 Lib.pow10Tab) (hb : Below W.heap.size W w) (hs : (s.size : Int) ≤ 200) :
    Calls Tryz.prog 13 #[.string s] w fun r w' => r = .returned (.tuple #[.int .i64 (frV s), .int .i64 (frN s)]) ∧ Below W.heap.size W w' := by
  refine (iDecFront s a w (sent_later hc hb) (by unfold maxLen; omega)).mono ?_
  rintro r w' ⟨rfl, hb'⟩
  exact ⟨rfl, hb.trans (hb'.mono hb.size)⟩
theorem lDecLooks (s : ByteArray) (a : Addr) (W w : World) (hc : W.cell? ⟨0, 0, none⟩ = some (.iface 135 (.pointer (some a)))) (hT : Lib.TabIs Tryz.prog W "internal/strconv.uint64pow10" .u64 Lib.pow10Tab) (hb : Below W.heap.size W w) (hs : (s.size : Int) ≤ 200) :
    Calls Tryz.prog 7 #[.string s] w fun r w' => r = .returned (.tuple #[.int .i64 (lkV s), .bool (lkB s)]) ∧ Below W.heap.size W w' := by
  refine (iDecLooks s a w (sent_later hc hb) (by unfold maxLen; omega)).mono ?_
  rintro r w' ⟨rfl, hb'⟩
  exact ⟨rfl, hb.trans (hb'.mono hb.size)⟩
theorem lLooksText (x : Int) (a : Addr) (W w : World) (hc : W.cell? ⟨0, 0, none⟩ = some (.iface 135 (.pointer (some a)))) (hT : Lib.TabIs Tryz.prog W "internal/strconv.uint64pow10" .u64 Lib.pow10Tab) (hb : Below W.heap.size W w) :
    Calls Tryz.prog 7 #[.string (txt x)] w fun r w' => r = .returned (.tuple #[.int .i64 (shownV x), .bool (Dec.okB x)]) ∧ Below W.heap.size W w' := by
  have := lDecLooks (txt x) a W w hc hT hb (by have := txt_size x; omega)
  rw [lkV_txt, lkB_txt] at this
  exact this
theorem lsDecFront (s : ByteArray) (w : World) (hs : (s.size : Int) ≤ 200) :
    Calls Tryz.prog 14 #[.string s] w fun r w' => r = .returned (.tuple #[.int .i64 (frV s), .int .i64 (frN s)]) ∧ w' = w := sDecFront s w (by omega)
theorem lsDecLooks (s : ByteArray) (w : World) (hs : (s.size : Int) ≤ 200) :
    Calls Tryz.prog 11 #[.string s] w fun r w' => r = .returned (.tuple #[.int .i64 (lkV s), .bool (lkB s)]) ∧ w' = w := sDecLooks s w (by omega)
theorem lDrawDecText (sa : Option Addr) (len cap : Nat) (W w : World) (hl : len ≤ 1048576) (hy : Bytes W.heap.size W sa len) (hb : Below W.heap.size W w) :
    Calls Tryz.prog 5 #[.slice sa len cap] w fun e w' => ∃ x, e = .returned (.int .i64 x) ∧ I64 x ∧ Below W.heap.size W w' := by
  refine (DrawDecText sa len cap W.heap.size w hb.size hl (hy.below hb)).mono ?_
  rintro e w' ⟨x, rfl, hx, hb'⟩
  exact ⟨x, rfl, hx, hb.trans hb'⟩
theorem lDrawDecFront (sa : Option Addr) (len cap : Nat) (W w : World) (hl : len ≤ 1048576) (hy : Bytes W.heap.size W sa len) (hb : Below W.heap.size W w) :
    Calls Tryz.prog 12 #[.slice sa len cap] w fun e w' => ∃ s : ByteArray, e = .returned (.string s) ∧ (s.size : Int) ≤ 200 ∧ Below W.heap.size W w' := by
  refine (DrawDecFront sa len cap W.heap.size w hb.size hl (hy.below hb)).mono ?_
  rintro e w' ⟨x, rfl, hx, hb'⟩
  exact ⟨x, rfl, hx, hb.trans hb'⟩
theorem lDrawDecLooks (sa : Option Addr) (len cap : Nat) (W w : World) (hl : len ≤ 1048576) (hy : Bytes W.heap.size W sa len) (hb : Below W.heap.size W w) :
    Calls Tryz.prog 10 #[.slice sa len cap] w fun e w' => ∃ s : ByteArray, e = .returned (.string s) ∧ (s.size : Int) ≤ 200 ∧ Below W.heap.size W w' := by
  refine (DrawDecLooks sa len cap W.heap.size w hb.size hl (hy.below hb)).mono ?_
  rintro e w' ⟨x, rfl, hx, hb'⟩
  exact ⟨x, rfl, hx, hb.trans hb'⟩

theorem numbers_big (sa : Option Addr) (len cap : Nat) (w : World) (hl : (1048576 : Int) < (len : Int)) :
    Calls Tryz.prog 3 #[.slice sa len cap] w fun e w' => e = .returned (.bool true) ∧ Below w.heap.size w w' := by
  go_enter Tryz.func3, Tryz.ntmps3
  go_wp2
  go_ret
  exact ⟨rfl, Below.refl _ _⟩

set_option maxRecDepth 100000 in
set_option maxHeartbeats 4000000 in
theorem numbers_small (sa : Option Addr) (len cap : Nat) (a : Addr) (W w : World) (hc : W.cell? ⟨0, 0, none⟩ = some (.iface 135 (.pointer (some a)))) (hT : Lib.TabIs Tryz.prog W "internal/strconv.uint64pow10" .u64 Lib.pow10Tab) (hl : len ≤ 1048576) (_ : (len : Int) ≤ 1048576) (hy : Bytes W.heap.size W sa len) (hb : Below W.heap.size W w) :
    Calls Tryz.prog 3 #[.slice sa len cap] w fun e w' => e = .returned (.bool true) ∧ Below W.heap.size W w' := by
  have f1 : ∀ x, Dec.okB x = true → shownV x = x := fun x h => shown_is h
  have f2 : ∀ s, Dec.okB (frV s) = true := fun s => Num.frontV_ok _
  have f3 : ∀ s, Dec.okB (lkV s) = true := fun s => Num.looksV_ok _
  have f4 : ∀ s, frN s ≤ s.size := fun s => by have := frN_le s; omega
  have f5 : ∀ s, decide ((s.size : Int) < (frN s : Int)) = false := fun s => by have := frN_le s; simp; omega
  have f6 : ∀ s, decide (s.size < frN s) = false := fun s => by have := frN_le s; simp; omega
  go_enter Tryz.func3, Tryz.ntmps3
  go_wp2_with (first | (go_at_call 5; refine (lDrawDecText sa len cap W _ hl hy ?_).mono ?_; assumption; rintro e w' ⟨x, rfl, hx, hb'⟩) | (go_at_call 12; refine (lDrawDecFront sa len cap W _ hl hy ?_).mono ?_; assumption; rintro e w' ⟨x, rfl, hx, hb'⟩) | (go_at_call 10; refine (lDrawDecLooks sa len cap W _ hl hy ?_).mono ?_; assumption; rintro e w' ⟨x, rfl, hx, hb'⟩) | (go_at_call 6; refine (lDecText _ a W _ hc hT ?_).mono ?_; assumption; rintro e w' ⟨rfl, hb'⟩) | (go_at_call 8; refine (lsDecText _ a W _ hc hT ?_).mono ?_; assumption; rintro e w' ⟨rfl, hb'⟩) | (go_at_call 7; with_reducible refine (lLooksText _ a W _ hc hT ?_).mono ?_; assumption; rintro e w' ⟨rfl, hb'⟩) | (go_at_call 7; with_reducible refine (lDecLooks _ a W _ hc hT ?_ ?_).mono ?_; assumption; assumption; rintro e w' ⟨rfl, hb'⟩) | (go_at_call 11; refine (lsDecLooks _ _ ?_).mono ?_; assumption; rintro e w' ⟨rfl, rfl⟩) | (go_at_call 13; refine (lDecFront _ a W _ hc hT ?_ ?_).mono ?_; assumption; assumption; rintro e w' ⟨rfl, hb'⟩) | (go_at_call 14; refine (lsDecFront _ _ ?_).mono ?_; assumption; rintro e w' ⟨rfl, rfl⟩) | (go_at_call 9; refine (lDecOk _ a W _ hc ?_).mono ?_; assumption; rintro e w' ⟨rfl, hb'⟩) | (go_at_call 4; go_in))
  all_goals go_ret
  all_goals exact ⟨rfl, by assumption⟩

theorem lawNumbers (sa : Option Addr) (len cap : Nat) (a : Addr) (w : World) (hc : w.cell? ⟨0, 0, none⟩ = some (.iface 135 (.pointer (some a)))) (hT : Lib.TabIs Tryz.prog w "internal/strconv.uint64pow10" .u64 Lib.pow10Tab) (hy : Bytes w.heap.size w sa len) :
    Calls Tryz.prog 3 #[.slice sa len cap] w fun e w' => e = .returned (.bool true) ∧ Below w.heap.size w w' := by
  by_cases h : len ≤ 1048576
  · exact numbers_small sa len cap a w w hc hT h (by omega) hy (Below.refl _ _)
  · exact numbers_big sa len cap w (by omega)
end Go.Proofs.YtjmcimlddicepadGreatDoor
