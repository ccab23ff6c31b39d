/-
  The laws FnExactPutNum, FnExactPutInt, FnExactPutText at every argument.
-/
import Derived.Test.YtmhmoopijfhhbaaBtPut
import Derived.Test.YtmhmoopijfhhbaaBtMark
namespace Go.Proofs.Ytmhmoopijfhhbaa
open Go.RowKit
namespace Bt
set_option linter.unusedSimpArgs false
set_option linter.unusedVariables false

set_option maxHeartbeats 2000000 in
set_option maxRecDepth 100000 in
theorem lawPutNum (n : Int) (w : World) : Calls Try.prog 3 #[.int .i64 n] w fun e w' => e = .returned (.bool true) ∧ Below w.heap.size w w' := by
  have c1 := fun w => sPutNum n w
  have c2 := fun w => iPutNum n w
  have hV : (putV n).length ≤ 1048600 := Nat.le_trans (putV_len n) (by decide)
  generalize (putV n) = V at c1 c2 hV
  have HV : Hid (V.length ≤ 4000000) := by show _ ≤ _; omega
  clear hV
  go_enter Try.func3, Try.ntmps3
  go_wp2_with (first
    | (go_at_call 9; refine (c1 _).mono ?_; rintro e w1 ⟨a1, cap1, rfl, hr1, hb1⟩; clear c1)
    | (go_at_call 10; refine (c2 _).mono ?_; first
        | (have q4' := q4; rintro e w6 ⟨a6, cap6, rfl, hr6, hb6⟩; have q6 := (show Rd (w4.drewN n5) a1 V from q4).below hb6 (Nat.le_refl _); have r6 := (show Rd (w4.drewN n5) a2 (marks 1 V.length) from hr4.rd).below hb6 (Nat.le_refl _))
        | (rintro e w2 ⟨a2, cap2, rfl, hr2, hb2⟩; have q2 := hr1.rd.below hb2 (Nat.le_refl _)))
    | (go_at_call 11; first
        | (refine (lEqByteS hr6.rd q6 rfl HV.out).mono ?_; rintro e w7 ⟨rfl, n7, rfl⟩)
        | (refine (lEqByteS hr2.rd q2 rfl HV.out).mono ?_; rintro e w3 ⟨rfl, n3, rfl⟩; have b3 : Below w1.heap.size w1 (w2.drewN n3) := ⟨hb2.os, hb2.tape, hb2.output, hb2.size, hb2.block⟩))
    | (go_at_call 12; refine (lMarkByteS (k := 1) (show Row w1.heap.size (w2.drewN n3) a2 cap2 V from hr2) hb2.size HV.out (by decide)).mono ?_; rintro e w4 ⟨rfl, hr4, hb4⟩; have b4 := b3.trans hb4; have q4 := hr1.rd.below b4 (Nat.le_refl _))
    | (go_at_call 13; first
        | (refine (lHeldByteS (k := 1) (show Rd (w6.drewN n7) a2 (marks 1 V.length) from r6) HV.out (by decide)).mono ?_; rintro e w9 ⟨rfl, n9, rfl⟩)
        | (refine (lHeldByteS (k := 1) hr4.rd HV.out (by decide)).mono ?_; rintro e w5 ⟨rfl, n5, rfl⟩)))
  go_ret
  have b6 : Below w1.heap.size w1 w6 := (show Below w1.heap.size w1 (w4.drewN n5) from ⟨b4.os, b4.tape, b4.output, b4.size, b4.block⟩).trans (hb6.mono b4.size)
  have b7 : Below w.heap.size w w6 := hb1.trans (b6.mono hb1.size)
  exact ⟨rfl, b7.os, b7.tape, b7.output, b7.size, b7.block⟩

set_option maxHeartbeats 2000000 in
set_option maxRecDepth 100000 in
theorem lawPutInt (n : Int) (w : World) : Calls Try.prog 5 #[.int .i64 n] w fun e w' => e = .returned (.bool true) ∧ Below w.heap.size w w' := by
  have c1 := fun w => sPutInt n w
  have c2 := fun w => iPutInt n w
  have hV : (putI n).length ≤ 1048600 := Nat.le_trans (putI_len n) (by decide)
  generalize (putI n) = V at c1 c2 hV
  have HV : Hid (V.length ≤ 4000000) := by show _ ≤ _; omega
  clear hV
  go_enter Try.func5, Try.ntmps5
  go_wp2_with (first
    | (go_at_call 17; refine (c1 _).mono ?_; rintro e w1 ⟨a1, cap1, rfl, hr1, hb1⟩; clear c1)
    | (go_at_call 18; refine (c2 _).mono ?_; first
        | (have q4' := q4; rintro e w6 ⟨a6, cap6, rfl, hr6, hb6⟩; have q6 := (show Rd (w4.drewN n5) a1 V from q4).below hb6 (Nat.le_refl _); have r6 := (show Rd (w4.drewN n5) a2 (marks 1 V.length) from hr4.rd).below hb6 (Nat.le_refl _))
        | (rintro e w2 ⟨a2, cap2, rfl, hr2, hb2⟩; have q2 := hr1.rd.below hb2 (Nat.le_refl _)))
    | (go_at_call 11; first
        | (refine (lEqByteS hr6.rd q6 rfl HV.out).mono ?_; rintro e w7 ⟨rfl, n7, rfl⟩)
        | (refine (lEqByteS hr2.rd q2 rfl HV.out).mono ?_; rintro e w3 ⟨rfl, n3, rfl⟩; have b3 : Below w1.heap.size w1 (w2.drewN n3) := ⟨hb2.os, hb2.tape, hb2.output, hb2.size, hb2.block⟩))
    | (go_at_call 12; refine (lMarkByteS (k := 1) (show Row w1.heap.size (w2.drewN n3) a2 cap2 V from hr2) hb2.size HV.out (by decide)).mono ?_; rintro e w4 ⟨rfl, hr4, hb4⟩; have b4 := b3.trans hb4; have q4 := hr1.rd.below b4 (Nat.le_refl _))
    | (go_at_call 13; first
        | (refine (lHeldByteS (k := 1) (show Rd (w6.drewN n7) a2 (marks 1 V.length) from r6) HV.out (by decide)).mono ?_; rintro e w9 ⟨rfl, n9, rfl⟩)
        | (refine (lHeldByteS (k := 1) hr4.rd HV.out (by decide)).mono ?_; rintro e w5 ⟨rfl, n5, rfl⟩)))
  go_ret
  have b6 : Below w1.heap.size w1 w6 := (show Below w1.heap.size w1 (w4.drewN n5) from ⟨b4.os, b4.tape, b4.output, b4.size, b4.block⟩).trans (hb6.mono b4.size)
  have b7 : Below w.heap.size w w6 := hb1.trans (b6.mono hb1.size)
  exact ⟨rfl, b7.os, b7.tape, b7.output, b7.size, b7.block⟩

set_option maxHeartbeats 2000000 in
set_option maxRecDepth 100000 in
theorem lawPutText (s : ByteArray) (w : World)(hs : s.size ≤ 1048576) : Calls Try.prog 7 #[.string s] w fun e w' => e = .returned (.bool true) ∧ Below w.heap.size w w' := by
  have bs : (s.size : Int) ≤ 1048576 := by omega
  have c1 := fun w => sPutText s hs w
  have c2 := fun w => iPutText s hs w
  have hV : (putT s.data.toList).length ≤ 1048600 := by have := putV_len (s.data.toList.length : Int); have e : s.data.toList.length = s.size := rfl; unfold putT; rw [List.length_append]; omega
  generalize (putT s.data.toList) = V at c1 c2 hV
  have HV : Hid (V.length ≤ 4000000) := by show _ ≤ _; omega
  clear hV
  go_enter Try.func7, Try.ntmps7
  go_wp2_with (first
    | (go_at_call 21; refine (c1 _).mono ?_; rintro e w1 ⟨a1, cap1, rfl, hr1, hb1⟩; clear c1)
    | (go_at_call 22; refine (c2 _).mono ?_; first
        | (have q4' := q4; rintro e w6 ⟨a6, cap6, rfl, hr6, hb6⟩; have q6 := (show Rd (w4.drewN n5) a1 V from q4).below hb6 (Nat.le_refl _); have r6 := (show Rd (w4.drewN n5) a2 (marks 1 V.length) from hr4.rd).below hb6 (Nat.le_refl _))
        | (rintro e w2 ⟨a2, cap2, rfl, hr2, hb2⟩; have q2 := hr1.rd.below hb2 (Nat.le_refl _)))
    | (go_at_call 11; first
        | (refine (lEqByteS hr6.rd q6 rfl HV.out).mono ?_; rintro e w7 ⟨rfl, n7, rfl⟩)
        | (refine (lEqByteS hr2.rd q2 rfl HV.out).mono ?_; rintro e w3 ⟨rfl, n3, rfl⟩; have b3 : Below w1.heap.size w1 (w2.drewN n3) := ⟨hb2.os, hb2.tape, hb2.output, hb2.size, hb2.block⟩))
    | (go_at_call 12; refine (lMarkByteS (k := 1) (show Row w1.heap.size (w2.drewN n3) a2 cap2 V from hr2) hb2.size HV.out (by decide)).mono ?_; rintro e w4 ⟨rfl, hr4, hb4⟩; have b4 := b3.trans hb4; have q4 := hr1.rd.below b4 (Nat.le_refl _))
    | (go_at_call 13; first
        | (refine (lHeldByteS (k := 1) (show Rd (w6.drewN n7) a2 (marks 1 V.length) from r6) HV.out (by decide)).mono ?_; rintro e w9 ⟨rfl, n9, rfl⟩)
        | (refine (lHeldByteS (k := 1) hr4.rd HV.out (by decide)).mono ?_; rintro e w5 ⟨rfl, n5, rfl⟩)))
  go_ret
  have b6 : Below w1.heap.size w1 w6 := (show Below w1.heap.size w1 (w4.drewN n5) from ⟨b4.os, b4.tape, b4.output, b4.size, b4.block⟩).trans (hb6.mono b4.size)
  have b7 : Below w.heap.size w w6 := hb1.trans (b6.mono hb1.size)
  exact ⟨rfl, b7.os, b7.tape, b7.output, b7.size, b7.block⟩

theorem lawPutTextBig (s : ByteArray) (w : World) (hs : ¬ s.size ≤ 1048576) (hm : s.size ≤ maxLen) : Calls Try.prog 7 #[.string s] w fun e w' => e = .returned (.bool true) ∧ Below w.heap.size w w' := by
  unfold maxLen at hm
  have b1 : (1048576 : Int) < s.size := by omega
  have b2 : (s.size : Int) ≤ 9223372036854775807 := by omega
  go_enter Try.func7, Try.ntmps7
  go_wp2_with fail
  go_ret
  exact ⟨rfl, Below.refl _ _⟩

end Bt
end Go.Proofs.Ytmhmoopijfhhbaa
