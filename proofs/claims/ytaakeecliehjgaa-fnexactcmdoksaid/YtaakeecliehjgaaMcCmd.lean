/-
  Commands of clients: what is right of them, on both sides; the law FnExactCmdOk at every command.
-/
import Derived.Test.YtaakeecliehjgaaTyWordD
import Derived.Test.YtaakeecliehjgaaNumFront
namespace Go.Proofs.Ytaakeecliehjgaa
open Go.RowKit
namespace Mc

/-- Whether a command is right. -/
def cmdB (who seq : Int) (s : ByteArray) : Bool :=
  if who = -1 then decide (seq = 0) && decide (s.size = 0)
  else decide (0 ≤ who ∧ who < 3) && (decide (1 ≤ seq ∧ seq ≤ 100000) && (decide ((s.size : Int) ≤ 60) && Ty.lineB s.data.toList))

theorem below_box (w : World) (o : Obj) : Below w.heap.size w (w.alloc o) := (Below.refl _ w).alloc (Nat.le_refl _) o

theorem iAm (n c : Int) (w : World) : Calls Try.prog 10 #[.int .i64 n, .int .i64 c] w fun e w' => e = .returned (.bool (decide (0 ≤ n ∧ n < c))) ∧ w' = w := by
  obtain ⟨R, hR⟩ : ∃ R, R = decide (0 ≤ n ∧ n < c) := ⟨_, rfl⟩
  rw [← hR]
  by_cases h0 : 0 ≤ n
  · by_cases h1 : n < c
    · have H : Hid (R = true) := hR.trans (decide_eq_true ⟨h0, h1⟩)
      clear hR
      go_enter Try.func10, Try.ntmps10
      go_wp2_with fail
      go_ret
      exact ⟨by rw [H.out]; simp, rfl⟩
    · have H : Hid (R = false) := hR.trans (decide_eq_false fun h => h1 h.2)
      have e1 : decide (n < c) = false := decide_eq_false h1
      clear hR
      go_enter Try.func10, Try.ntmps10
      go_wp2_with fail
      go_ret
      exact ⟨by rw [H.out]; simp, rfl⟩
  · have H : Hid (R = false) := hR.trans (decide_eq_false fun h => h0 h.1)
    have e1 : decide (0 ≤ n) = false := decide_eq_false h0
    clear hR
    go_enter Try.func10, Try.ntmps10
    go_wp2_with fail
    go_ret
    exact ⟨by rw [H.out]; simp, rfl⟩

theorem sIn (x lo hi : Int) (w : World) : Calls Try.prog 8 #[.int .i64 x, .int .i64 lo, .int .i64 hi] w fun e w' => e = .returned (.bool (decide (lo ≤ x ∧ x ≤ hi))) ∧ w' = w := by
  obtain ⟨R, hR⟩ : ∃ R, R = decide (lo ≤ x ∧ x ≤ hi) := ⟨_, rfl⟩
  rw [← hR]
  by_cases h1 : lo ≤ x
  · by_cases h2 : x ≤ hi
    · have HR : Hid (R = true) := hR.trans (decide_eq_true ⟨h1, h2⟩)
      clear hR
      go_enter Try.func8, Try.ntmps8
      go_wp2_with fail
      go_ret
      exact ⟨by rw [HR.out]; simp <;> omega, rfl⟩
    · have HR : Hid (R = false) := hR.trans (decide_eq_false fun h => h2 h.2)
      clear hR
      go_enter Try.func8, Try.ntmps8
      go_wp2_with fail
      go_ret
      exact ⟨by rw [HR.out]; simp <;> omega, rfl⟩
  · have HR : Hid (R = false) := hR.trans (decide_eq_false fun h => h1 h.1)
    clear hR
    go_enter Try.func8, Try.ntmps8
    go_wp2_with fail
    go_ret
    exact ⟨by rw [HR.out]; rfl, rfl⟩

set_option maxHeartbeats 1000000 in
set_option maxRecDepth 100000 in
theorem iCmdOk (who seq : Int) (s : ByteArray) (w : World) (hs : (s.size : Int) ≤ 1048576) :
    Calls Try.prog 7 #[.agg #[.int .i64 who, .int .i64 seq, .string s]] w fun e w' => e = .returned (.bool (cmdB who seq s)) ∧ Below w.heap.size w w' := by
  have cl := fun w => Try.strings_Contains_one s 10 w
  simp only [Ty.nl_index] at cl
  have ca := fun w => iAm who 3 w
  obtain ⟨R, hR⟩ : ∃ R, R = cmdB who seq s := ⟨_, rfl⟩
  rw [← hR]
  unfold cmdB at hR
  generalize Ty.lineB s.data.toList = L at *
  have HS : Hid ((s.size : Int) ≤ 1048576) := hs
  by_cases h1 : who = -1
  · subst h1
    rw [if_pos rfl] at hR
    by_cases h2 : seq = 0
    · subst h2
      by_cases h3 : s.size = 0
      · obtain rfl : s = ⟨#[]⟩ := ByteArray.ext (Array.eq_empty_of_size_eq_zero h3)
        have H : Hid (R = true) := hR
        clear hR h3 hs cl ca
        go_enter Try.func7, Try.ntmps7
        go_wp2_with (first | (go_at_call 10; refine (ca _).mono ?_; rintro e w2 ⟨rfl, hw⟩; have hw := hw.symm; subst hw) | (go_at_call 11; refine (cl _).mono ?_; rintro e w2 ⟨rfl, hw⟩; have hw := hw.symm; subst hw))
        go_ret
        exact ⟨by rw [H.out] <;> simp, below_box _ _⟩
      · have e1 : s.toList ≠ [] := fun h => h3 (by rw [ByteArray.toList_eq] at h; have := congrArg List.length h; simpa using this)
        have e2 : (s.toList == []) = false := beq_eq_false_iff_ne.2 e1
        have H : Hid (R = false) := hR.trans (by simp [h3])
        clear hR hs cl ca
        go_enter Try.func7, Try.ntmps7
        go_wp2_with (first | (go_at_call 10; refine (ca _).mono ?_; rintro e w2 ⟨rfl, hw⟩; have hw := hw.symm; subst hw) | (go_at_call 11; refine (cl _).mono ?_; rintro e w2 ⟨rfl, hw⟩; have hw := hw.symm; subst hw))
        go_ret
        exact ⟨by rw [H.out] <;> simp, below_box _ _⟩
    · have H : Hid (R = false) := hR.trans (by simp [h2])
      have e1 : (seq == 0) = false := beq_eq_false_iff_ne.2 h2
      clear hR hs cl ca
      go_enter Try.func7, Try.ntmps7
      go_wp2_with (first | (go_at_call 10; refine (ca _).mono ?_; rintro e w2 ⟨rfl, hw⟩; have hw := hw.symm; subst hw) | (go_at_call 11; refine (cl _).mono ?_; rintro e w2 ⟨rfl, hw⟩; have hw := hw.symm; subst hw))
      go_ret
      exact ⟨by rw [H.out] <;> simp, below_box _ _⟩
  · rw [if_neg h1] at hR
    have e1 : (who == -1) = false := beq_eq_false_iff_ne.2 h1
    by_cases h2 : 0 ≤ who ∧ who < 3
    · rw [decide_eq_true h2, Bool.true_and] at hR
      by_cases h3 : 1 ≤ seq
      · by_cases h4 : seq ≤ 100000
        · rw [decide_eq_true ⟨h3, h4⟩, Bool.true_and] at hR
          by_cases h5 : (s.size : Int) ≤ 60
          · rw [decide_eq_true h5, Bool.true_and] at hR
            have H : Hid (R = L) := hR
            clear hR hs
            go_enter Try.func7, Try.ntmps7
            go_wp2_with (first | (go_at_call 10; refine (ca _).mono ?_; rintro e w2 ⟨rfl, hw⟩; have hw := hw.symm; subst hw) | (go_at_call 11; refine (cl _).mono ?_; rintro e w2 ⟨rfl, hw⟩; have hw := hw.symm; subst hw))
            go_ret
            exact ⟨by rw [H.out] <;> simp, below_box _ _⟩
          · have H : Hid (R = false) := hR.trans (by simp [h5])
            clear hR hs
            go_enter Try.func7, Try.ntmps7
            go_wp2_with (first | (go_at_call 10; refine (ca _).mono ?_; rintro e w2 ⟨rfl, hw⟩; have hw := hw.symm; subst hw) | (go_at_call 11; refine (cl _).mono ?_; rintro e w2 ⟨rfl, hw⟩; have hw := hw.symm; subst hw))
            go_ret
            exact ⟨by rw [H.out] <;> simp, below_box _ _⟩
        · have H : Hid (R = false) := hR.trans (by simp [h4])
          clear hR hs
          go_enter Try.func7, Try.ntmps7
          go_wp2_with (first | (go_at_call 10; refine (ca _).mono ?_; rintro e w2 ⟨rfl, hw⟩; have hw := hw.symm; subst hw) | (go_at_call 11; refine (cl _).mono ?_; rintro e w2 ⟨rfl, hw⟩; have hw := hw.symm; subst hw))
          go_ret
          exact ⟨by rw [H.out] <;> simp, below_box _ _⟩
      · have H : Hid (R = false) := hR.trans (by simp [h3])
        clear hR hs
        go_enter Try.func7, Try.ntmps7
        go_wp2_with (first | (go_at_call 10; refine (ca _).mono ?_; rintro e w2 ⟨rfl, hw⟩; have hw := hw.symm; subst hw) | (go_at_call 11; refine (cl _).mono ?_; rintro e w2 ⟨rfl, hw⟩; have hw := hw.symm; subst hw))
        go_ret
        exact ⟨by rw [H.out] <;> simp, below_box _ _⟩
    · have H : Hid (R = false) := hR.trans (by simp [decide_eq_false h2])
      have e2 : decide (0 ≤ who ∧ who < 3) = false := decide_eq_false h2
      clear hR hs
      go_enter Try.func7, Try.ntmps7
      go_wp2_with (first | (go_at_call 10; refine (ca _).mono ?_; rintro e w2 ⟨rfl, hw⟩; have hw := hw.symm; subst hw) | (go_at_call 11; refine (cl _).mono ?_; rintro e w2 ⟨rfl, hw⟩; have hw := hw.symm; subst hw))
      go_ret
      exact ⟨by rw [H.out] <;> simp, below_box _ _⟩

set_option maxHeartbeats 1000000 in
set_option maxRecDepth 100000 in
theorem sCmdOk (who seq : Int) (s : ByteArray) (w : World) (hs : (s.size : Int) ≤ 1048576) :
    Calls Try.prog 5 #[.agg #[.int .i64 who, .int .i64 seq, .string s]] w fun e w' => e = .returned (.bool (cmdB who seq s)) ∧ Below w.heap.size w w' := by
  have cl := fun w => Ty.sLine s hs w
  have ca := fun w => sIn who 0 2 w
  have cb := fun w => sIn seq 1 100000 w
  obtain ⟨R, hR⟩ : ∃ R, R = cmdB who seq s := ⟨_, rfl⟩
  rw [← hR]
  unfold cmdB at hR
  generalize Ty.lineB s.data.toList = L at *
  have HS : Hid ((s.size : Int) ≤ 1048576) := hs
  by_cases h1 : who = -1
  · subst h1
    rw [if_pos rfl] at hR
    by_cases h2 : seq = 0
    · subst h2
      by_cases h3 : s.size = 0
      · obtain rfl : s = ⟨#[]⟩ := ByteArray.ext (Array.eq_empty_of_size_eq_zero h3)
        have H : Hid (R = true) := hR
        clear hR h3 hs cl ca cb
        go_enter Try.func5, Try.ntmps5
        go_wp2_with (first | (go_at_call 8; first | (with_reducible refine (ca _).mono ?_; rintro e w2 ⟨rfl, hw⟩; have hw := hw.symm; subst hw) | (with_reducible refine (cb _).mono ?_; rintro e w2 ⟨rfl, hw⟩; have hw := hw.symm; subst hw)) | (go_at_call 9; refine (cl _).mono ?_; rintro e w2 ⟨rfl, hw⟩; have hw := hw.symm; subst hw))
        go_ret
        exact ⟨by rw [H.out] <;> simp, below_box _ _⟩
      · have e1 : s.toList ≠ [] := fun h => h3 (by rw [ByteArray.toList_eq] at h; have := congrArg List.length h; simpa using this)
        have e2 : (s.toList == []) = false := beq_eq_false_iff_ne.2 e1
        have H : Hid (R = false) := hR.trans (by simp [h3])
        clear hR hs cl ca cb
        go_enter Try.func5, Try.ntmps5
        go_wp2_with (first | (go_at_call 8; first | (with_reducible refine (ca _).mono ?_; rintro e w2 ⟨rfl, hw⟩; have hw := hw.symm; subst hw) | (with_reducible refine (cb _).mono ?_; rintro e w2 ⟨rfl, hw⟩; have hw := hw.symm; subst hw)) | (go_at_call 9; refine (cl _).mono ?_; rintro e w2 ⟨rfl, hw⟩; have hw := hw.symm; subst hw))
        go_ret
        exact ⟨by rw [H.out] <;> simp, below_box _ _⟩
    · have H : Hid (R = false) := hR.trans (by simp [h2])
      have e1 : (seq == 0) = false := beq_eq_false_iff_ne.2 h2
      clear hR hs cl ca cb
      go_enter Try.func5, Try.ntmps5
      go_wp2_with (first | (go_at_call 8; first | (with_reducible refine (ca _).mono ?_; rintro e w2 ⟨rfl, hw⟩; have hw := hw.symm; subst hw) | (with_reducible refine (cb _).mono ?_; rintro e w2 ⟨rfl, hw⟩; have hw := hw.symm; subst hw)) | (go_at_call 9; refine (cl _).mono ?_; rintro e w2 ⟨rfl, hw⟩; have hw := hw.symm; subst hw))
      go_ret
      exact ⟨by rw [H.out] <;> simp, below_box _ _⟩
  · rw [if_neg h1] at hR
    have e1 : (who == -1) = false := beq_eq_false_iff_ne.2 h1
    rw [show decide (0 ≤ who ∧ who < 3) = decide (0 ≤ who ∧ who ≤ 2) from decide_eq_decide.2 (by omega)] at hR
    generalize decide (0 ≤ who ∧ who ≤ 2) = X at *
    generalize decide (1 ≤ seq ∧ seq ≤ 100000) = Y at *
    clear hs
    cases X
    · have H : Hid (R = false) := hR
      clear hR
      go_enter Try.func5, Try.ntmps5
      go_wp2_with (first | (go_at_call 8; first | (with_reducible refine (ca _).mono ?_; rintro e w2 ⟨rfl, hw⟩; have hw := hw.symm; subst hw) | (with_reducible refine (cb _).mono ?_; rintro e w2 ⟨rfl, hw⟩; have hw := hw.symm; subst hw)) | (go_at_call 9; refine (cl _).mono ?_; rintro e w2 ⟨rfl, hw⟩; have hw := hw.symm; subst hw))
      go_ret
      exact ⟨by rw [H.out] <;> simp, below_box _ _⟩
    · cases Y
      · have H : Hid (R = false) := hR
        clear hR
        go_enter Try.func5, Try.ntmps5
        go_wp2_with (first | (go_at_call 8; first | (with_reducible refine (ca _).mono ?_; rintro e w2 ⟨rfl, hw⟩; have hw := hw.symm; subst hw) | (with_reducible refine (cb _).mono ?_; rintro e w2 ⟨rfl, hw⟩; have hw := hw.symm; subst hw)) | (go_at_call 9; refine (cl _).mono ?_; rintro e w2 ⟨rfl, hw⟩; have hw := hw.symm; subst hw))
        go_ret
        exact ⟨by rw [H.out] <;> simp, below_box _ _⟩
      · by_cases h5 : (s.size : Int) ≤ 60
        · have H : Hid (R = L) := hR.trans (by rw [decide_eq_true h5]; rfl)
          clear hR
          go_enter Try.func5, Try.ntmps5
          go_wp2_with (first | (go_at_call 8; first | (with_reducible refine (ca _).mono ?_; rintro e w2 ⟨rfl, hw⟩; have hw := hw.symm; subst hw) | (with_reducible refine (cb _).mono ?_; rintro e w2 ⟨rfl, hw⟩; have hw := hw.symm; subst hw)) | (go_at_call 9; refine (cl _).mono ?_; rintro e w2 ⟨rfl, hw⟩; have hw := hw.symm; subst hw))
          go_ret
          exact ⟨by rw [H.out] <;> simp, below_box _ _⟩
        · have H : Hid (R = false) := hR.trans (by rw [decide_eq_false h5]; rfl)
          clear hR
          go_enter Try.func5, Try.ntmps5
          go_wp2_with (first | (go_at_call 8; first | (with_reducible refine (ca _).mono ?_; rintro e w2 ⟨rfl, hw⟩; have hw := hw.symm; subst hw) | (with_reducible refine (cb _).mono ?_; rintro e w2 ⟨rfl, hw⟩; have hw := hw.symm; subst hw)) | (go_at_call 9; refine (cl _).mono ?_; rintro e w2 ⟨rfl, hw⟩; have hw := hw.symm; subst hw))
          go_ret
          exact ⟨by rw [H.out] <;> simp, below_box _ _⟩

theorem toCmd_any (k n : Int) (s : ByteArray) (w : World) :
    Calls Try.prog 6 #[.agg #[.int .i64 k, .int .i64 n, .string s]] w fun e w' => e = .returned (.agg #[.int .i64 k, .int .i64 n, .string s]) ∧ Below w.heap.size w w' := by
  go_enter Try.func6, Try.ntmps6
  go_wp2
  refine bodyPost_ret (v := .agg #[.int .i64 k, .int .i64 n, .string s]) (by simp [results, Try.results6, go_sem]) rfl ⟨rfl, ?_⟩
  repeat (first | refine Below.setCell ?_ (by simp <;> omega) _ | refine Below.alloc ?_ (by simp <;> omega) _)
  exact Below.refl _ _
theorem szCmd_far (k n : Int) (s : ByteArray) (l : Int) (w : World) (hl : l < (s.size : Int)) (h1 : -9223372036854775808 ≤ l - (s.size : Int)) (_ : l ≤ 9223372036854775807) :
    Calls Try.prog 4 #[.agg #[.int .i64 k, .int .i64 n, .string s], .int .i64 l] w fun e w' => e = .returned (.int .i64 (-1)) ∧ Below w.heap.size w w' := by
  have hl' : l - (s.size : Int) < 0 := by omega
  go_enter Try.func4, Try.ntmps4
  go_wp2
  go_ret
  exact ⟨rfl, below_box _ _⟩
theorem szCmd_near (k n : Int) (s : ByteArray) (l : Int) (w : World) (hl : (s.size : Int) ≤ l) (h2 : l ≤ 9223372036854775807) :
    Calls Try.prog 4 #[.agg #[.int .i64 k, .int .i64 n, .string s], .int .i64 l] w fun e w' => e = .returned (.int .i64 (l - s.size)) ∧ Below w.heap.size w w' := by
  have hl' : 0 ≤ l - (s.size : Int) := by omega
  have hl2 : l - (s.size : Int) ≤ 9223372036854775807 := by omega
  go_enter Try.func4, Try.ntmps4
  go_wp2
  go_ret
  exact ⟨rfl, below_box _ _⟩

set_option maxRecDepth 100000 in
theorem lawCmdOk (k n : Int) (s : ByteArray) (w : World) (hs : s.size ≤ maxLen) :
    Calls Try.prog 3 #[.agg #[.int .i64 k, .int .i64 n, .string s]] w fun e w' => e = .returned (.bool true) ∧ Below w.heap.size w w' := by
  by_cases hl : (1048576 : Int) < s.size
  · have call := fun w => szCmd_far k n s 1048576 w hl (by unfold maxLen at hs; omega) (by omega)
    go_enter Try.func3, Try.ntmps3
    go_wp2_with (go_at_call 4; refine (call _).mono ?_; rintro e w1 ⟨rfl, hb1⟩)
    go_ret
    exact ⟨rfl, (below_box _ _).trans (hb1.mono (by simp))⟩
  · have hl' : (s.size : Int) ≤ 1048576 := by omega
    have call := fun w => szCmd_near k n s 1048576 w hl' (by omega)
    have hi := fun w => iCmdOk k n s w hl'
    have hsp := fun w => sCmdOk k n s w hl'
    have ht := fun w => toCmd_any k n s w
    have h0 : 0 ≤ 1048576 - (s.size : Int) := by omega
    clear hl hs
    generalize cmdB k n s = V at *
    go_enter Try.func3, Try.ntmps3
    go_wp2_with (first | (go_at_call 4; refine (call _).mono ?_; rintro e w1 ⟨rfl, hb1⟩; obtain ⟨hc1, hf1⟩ := bcell hb1; have hz1 : w.heap.size < w1.heap.size := by (have := hb1.size; simp at this; omega)) | (go_at_call 6; refine (ht _).mono ?_; rintro e w2 ⟨rfl, hb2⟩; replace hb1 := hb1.trans (hb2.mono hb1.size); clear hb2; obtain ⟨hc2, hf2⟩ := bcell hb1; have hz2 : w.heap.size < w2.heap.size := by (have := hb1.size; simp at this; omega)) | (go_at_call 5; refine (hsp _).mono ?_; rintro e w2 ⟨rfl, hb2⟩; replace hb1 := hb1.trans (hb2.mono hb1.size); clear hb2; obtain ⟨hc2, hf2⟩ := bcell hb1; have hz2 : w.heap.size < w2.heap.size := by (have := hb1.size; simp at this; omega)) | (go_at_call 7; refine (hi _).mono ?_; rintro e w2 ⟨rfl, hb2⟩; replace hb1 := hb1.trans (hb2.mono hb1.size); clear hb2; obtain ⟨hc2, hf2⟩ := bcell hb1; have hz2 : w.heap.size < w2.heap.size := by (have := hb1.size; simp at this; omega)))
    go_ret
    exact ⟨rfl, (below_box _ _).trans (hb1.mono (by simp))⟩

end Mc
end Go.Proofs.Ytaakeecliehjgaa
