/-
  Commands of clients: what is right of them, on both sides; the law FnExactCmdOk at every command.
-/
import Derived.Test.YtipjgkekjocljaaTyWordD
import Derived.Test.YtipjgkekjocljaaNumFront
namespace Go.Proofs.Ytipjgkekjocljaa
open Go.RowKit
namespace Mc

/-- Whether a command is right. -/
def cmdB (who seq : Int) (s : ByteArray) : Bool :=
  if who = -1 then decide (seq = 0) && decide (s.size = 0)
  else decide (0 ≤ who ∧ who < 3) && (decide (1 ≤ seq ∧ seq ≤ 100000) && (decide ((s.size : Int) ≤ 60) && Ty.lineB s.data.toList))

theorem below_box (w : World) (o : Obj) : Below w.heap.size w (w.alloc o) := (Below.refl _ w).alloc (Nat.le_refl _) o

theorem iAm (n c : Int) (w : World) : Calls Try.prog 46 #[.int .i64 n, .int .i64 c] w fun e w' => e = .returned (.bool (decide (0 ≤ n ∧ n < c))) ∧ w' = w := by
  obtain ⟨R, hR⟩ : ∃ R, R = decide (0 ≤ n ∧ n < c) := ⟨_, rfl⟩
  rw [← hR]
  by_cases h0 : 0 ≤ n
  · by_cases h1 : n < c
    · have H : Hid (R = true) := hR.trans (decide_eq_true ⟨h0, h1⟩)
      clear hR
      go_enter Try.func46, Try.ntmps46
      go_wp2_with fail
      go_ret
      exact ⟨by rw [H.out]; simp, rfl⟩
    · have H : Hid (R = false) := hR.trans (decide_eq_false fun h => h1 h.2)
      have e1 : decide (n < c) = false := decide_eq_false h1
      clear hR
      go_enter Try.func46, Try.ntmps46
      go_wp2_with fail
      go_ret
      exact ⟨by rw [H.out]; simp, rfl⟩
  · have H : Hid (R = false) := hR.trans (decide_eq_false fun h => h0 h.1)
    have e1 : decide (0 ≤ n) = false := decide_eq_false h0
    clear hR
    go_enter Try.func46, Try.ntmps46
    go_wp2_with fail
    go_ret
    exact ⟨by rw [H.out]; simp, rfl⟩

theorem sIn (x lo hi : Int) (w : World) : Calls Try.prog 21 #[.int .i64 x, .int .i64 lo, .int .i64 hi] w fun e w' => e = .returned (.bool (decide (lo ≤ x ∧ x ≤ hi))) ∧ w' = w := by
  obtain ⟨R, hR⟩ : ∃ R, R = decide (lo ≤ x ∧ x ≤ hi) := ⟨_, rfl⟩
  rw [← hR]
  by_cases h1 : lo ≤ x
  · by_cases h2 : x ≤ hi
    · have HR : Hid (R = true) := hR.trans (decide_eq_true ⟨h1, h2⟩)
      clear hR
      go_enter Try.func21, Try.ntmps21
      go_wp2_with fail
      go_ret
      exact ⟨by rw [HR.out]; simp <;> omega, rfl⟩
    · have HR : Hid (R = false) := hR.trans (decide_eq_false fun h => h2 h.2)
      clear hR
      go_enter Try.func21, Try.ntmps21
      go_wp2_with fail
      go_ret
      exact ⟨by rw [HR.out]; simp <;> omega, rfl⟩
  · have HR : Hid (R = false) := hR.trans (decide_eq_false fun h => h1 h.1)
    clear hR
    go_enter Try.func21, Try.ntmps21
    go_wp2_with fail
    go_ret
    exact ⟨by rw [HR.out]; rfl, rfl⟩

set_option maxHeartbeats 1000000 in
set_option maxRecDepth 100000 in
theorem iCmdOk (who seq : Int) (s : ByteArray) (w : World) (hs : (s.size : Int) ≤ 1048576) :
    Calls Try.prog 39 #[.agg #[.int .i64 who, .int .i64 seq, .string s]] w fun e w' => e = .returned (.bool (cmdB who seq s)) ∧ Below w.heap.size w w' := by
  have cl := fun w => Try.strings_Contains_one s 10 w
  simp only [Ty.nl_index] at cl
  have ca := fun w => iAm who 3 w
  obtain ⟨R, hR⟩ : ∃ R, R = cmdB who seq s := ⟨_, rfl⟩
  rw [← hR]
  unfold cmdB at hR
  generalize Ty.lineB s.data.toList = L at *
  have HS : Hid ((s.size : Int) ≤ 1048576) := hs
  by_cases h1 : who = -1
  · subst h1
    rw [if_pos rfl] at hR
    by_cases h2 : seq = 0
    · subst h2
      by_cases h3 : s.size = 0
      · obtain rfl : s = ⟨#[]⟩ := ByteArray.ext (Array.eq_empty_of_size_eq_zero h3)
        have H : Hid (R = true) := hR
        clear hR h3 hs cl ca
        go_enter Try.func39, Try.ntmps39
        go_wp2_with (first | (go_at_call 46; refine (ca _).mono ?_; rintro e w2 ⟨rfl, hw⟩; have hw := hw.symm; subst hw) | (go_at_call 47; refine (cl _).mono ?_; rintro e w2 ⟨rfl, hw⟩; have hw := hw.symm; subst hw))
        go_ret
        exact ⟨by rw [H.out] <;> simp, below_box _ _⟩
      · have e1 : s.toList ≠ [] := fun h => h3 (by rw [ByteArray.toList_eq] at h; have := congrArg List.length h; simpa using this)
        have e2 : (s.toList == []) = false := beq_eq_false_iff_ne.2 e1
        have H : Hid (R = false) := hR.trans (by simp [h3])
        clear hR hs cl ca
        go_enter Try.func39, Try.ntmps39
        go_wp2_with (first | (go_at_call 46; refine (ca _).mono ?_; rintro e w2 ⟨rfl, hw⟩; have hw := hw.symm; subst hw) | (go_at_call 47; refine (cl _).mono ?_; rintro e w2 ⟨rfl, hw⟩; have hw := hw.symm; subst hw))
        go_ret
        exact ⟨by rw [H.out] <;> simp, below_box _ _⟩
    · have H : Hid (R = false) := hR.trans (by simp [h2])
      have e1 : (seq == 0) = false := beq_eq_false_iff_ne.2 h2
      clear hR hs cl ca
      go_enter Try.func39, Try.ntmps39
      go_wp2_with (first | (go_at_call 46; refine (ca _).mono ?_; rintro e w2 ⟨rfl, hw⟩; have hw := hw.symm; subst hw) | (go_at_call 47; refine (cl _).mono ?_; rintro e w2 ⟨rfl, hw⟩; have hw := hw.symm; subst hw))
      go_ret
      exact ⟨by rw [H.out] <;> simp, below_box _ _⟩
  · rw [if_neg h1] at hR
    have e1 : (who == -1) = false := beq_eq_false_iff_ne.2 h1
    by_cases h2 : 0 ≤ who ∧ who < 3
    · rw [decide_eq_true h2, Bool.true_and] at hR
      by_cases h3 : 1 ≤ seq
      · by_cases h4 : seq ≤ 100000
        · rw [decide_eq_true ⟨h3, h4⟩, Bool.true_and] at hR
          by_cases h5 : (s.size : Int) ≤ 60
          · rw [decide_eq_true h5, Bool.true_and] at hR
            have H : Hid (R = L) := hR
            clear hR hs
            go_enter Try.func39, Try.ntmps39
            go_wp2_with (first | (go_at_call 46; refine (ca _).mono ?_; rintro e w2 ⟨rfl, hw⟩; have hw := hw.symm; subst hw) | (go_at_call 47; refine (cl _).mono ?_; rintro e w2 ⟨rfl, hw⟩; have hw := hw.symm; subst hw))
            go_ret
            exact ⟨by rw [H.out] <;> simp, below_box _ _⟩
          · have H : Hid (R = false) := hR.trans (by simp [h5])
            clear hR hs
            go_enter Try.func39, Try.ntmps39
            go_wp2_with (first | (go_at_call 46; refine (ca _).mono ?_; rintro e w2 ⟨rfl, hw⟩; have hw := hw.symm; subst hw) | (go_at_call 47; refine (cl _).mono ?_; rintro e w2 ⟨rfl, hw⟩; have hw := hw.symm; subst hw))
            go_ret
            exact ⟨by rw [H.out] <;> simp, below_box _ _⟩
        · have H : Hid (R = false) := hR.trans (by simp [h4])
          clear hR hs
          go_enter Try.func39, Try.ntmps39
          go_wp2_with (first | (go_at_call 46; refine (ca _).mono ?_; rintro e w2 ⟨rfl, hw⟩; have hw := hw.symm; subst hw) | (go_at_call 47; refine (cl _).mono ?_; rintro e w2 ⟨rfl, hw⟩; have hw := hw.symm; subst hw))
          go_ret
          exact ⟨by rw [H.out] <;> simp, below_box _ _⟩
      · have H : Hid (R = false) := hR.trans (by simp [h3])
        clear hR hs
        go_enter Try.func39, Try.ntmps39
        go_wp2_with (first | (go_at_call 46; refine (ca _).mono ?_; rintro e w2 ⟨rfl, hw⟩; have hw := hw.symm; subst hw) | (go_at_call 47; refine (cl _).mono ?_; rintro e w2 ⟨rfl, hw⟩; have hw := hw.symm; subst hw))
        go_ret
        exact ⟨by rw [H.out] <;> simp, below_box _ _⟩
    · have H : Hid (R = false) := hR.trans (by simp [decide_eq_false h2])
      have e2 : decide (0 ≤ who ∧ who < 3) = false := decide_eq_false h2
      clear hR hs
      go_enter Try.func39, Try.ntmps39
      go_wp2_with (first | (go_at_call 46; refine (ca _).mono ?_; rintro e w2 ⟨rfl, hw⟩; have hw := hw.symm; subst hw) | (go_at_call 47; refine (cl _).mono ?_; rintro e w2 ⟨rfl, hw⟩; have hw := hw.symm; subst hw))
      go_ret
      exact ⟨by rw [H.out] <;> simp, below_box _ _⟩

set_option maxHeartbeats 1000000 in
set_option maxRecDepth 100000 in
theorem sCmdOk (who seq : Int) (s : ByteArray) (w : World) (hs : (s.size : Int) ≤ 1048576) :
    Calls Try.prog 22 #[.agg #[.int .i64 who, .int .i64 seq, .string s]] w fun e w' => e = .returned (.bool (cmdB who seq s)) ∧ Below w.heap.size w w' := by
  have cl := fun w => Ty.sLine s hs w
  have ca := fun w => sIn who 0 2 w
  have cb := fun w => sIn seq 1 100000 w
  obtain ⟨R, hR⟩ : ∃ R, R = cmdB who seq s := ⟨_, rfl⟩
  rw [← hR]
  unfold cmdB at hR
  generalize Ty.lineB s.data.toList = L at *
  have HS : Hid ((s.size : Int) ≤ 1048576) := hs
  by_cases h1 : who = -1
  · subst h1
    rw [if_pos rfl] at hR
    by_cases h2 : seq = 0
    · subst h2
      by_cases h3 : s.size = 0
      · obtain rfl : s = ⟨#[]⟩ := ByteArray.ext (Array.eq_empty_of_size_eq_zero h3)
        have H : Hid (R = true) := hR
        clear hR h3 hs cl ca cb
        go_enter Try.func22, Try.ntmps22
        go_wp2_with (first | (go_at_call 21; first | (with_reducible refine (ca _).mono ?_; rintro e w2 ⟨rfl, hw⟩; have hw := hw.symm; subst hw) | (with_reducible refine (cb _).mono ?_; rintro e w2 ⟨rfl, hw⟩; have hw := hw.symm; subst hw)) | (go_at_call 38; refine (cl _).mono ?_; rintro e w2 ⟨rfl, hw⟩; have hw := hw.symm; subst hw))
        go_ret
        exact ⟨by rw [H.out] <;> simp, below_box _ _⟩
      · have e1 : s.toList ≠ [] := fun h => h3 (by rw [ByteArray.toList_eq] at h; have := congrArg List.length h; simpa using this)
        have e2 : (s.toList == []) = false := beq_eq_false_iff_ne.2 e1
        have H : Hid (R = false) := hR.trans (by simp [h3])
        clear hR hs cl ca cb
        go_enter Try.func22, Try.ntmps22
        go_wp2_with (first | (go_at_call 21; first | (with_reducible refine (ca _).mono ?_; rintro e w2 ⟨rfl, hw⟩; have hw := hw.symm; subst hw) | (with_reducible refine (cb _).mono ?_; rintro e w2 ⟨rfl, hw⟩; have hw := hw.symm; subst hw)) | (go_at_call 38; refine (cl _).mono ?_; rintro e w2 ⟨rfl, hw⟩; have hw := hw.symm; subst hw))
        go_ret
        exact ⟨by rw [H.out] <;> simp, below_box _ _⟩
    · have H : Hid (R = false) := hR.trans (by simp [h2])
      have e1 : (seq == 0) = false := beq_eq_false_iff_ne.2 h2
      clear hR hs cl ca cb
      go_enter Try.func22, Try.ntmps22
      go_wp2_with (first | (go_at_call 21; first | (with_reducible refine (ca _).mono ?_; rintro e w2 ⟨rfl, hw⟩; have hw := hw.symm; subst hw) | (with_reducible refine (cb _).mono ?_; rintro e w2 ⟨rfl, hw⟩; have hw := hw.symm; subst hw)) | (go_at_call 38; refine (cl _).mono ?_; rintro e w2 ⟨rfl, hw⟩; have hw := hw.symm; subst hw))
      go_ret
      exact ⟨by rw [H.out] <;> simp, below_box _ _⟩
  · rw [if_neg h1] at hR
    have e1 : (who == -1) = false := beq_eq_false_iff_ne.2 h1
    rw [show decide (0 ≤ who ∧ who < 3) = decide (0 ≤ who ∧ who ≤ 2) from decide_eq_decide.2 (by omega)] at hR
    generalize decide (0 ≤ who ∧ who ≤ 2) = X at *
    generalize decide (1 ≤ seq ∧ seq ≤ 100000) = Y at *
    clear hs
    cases X
    · have H : Hid (R = false) := hR
      clear hR
      go_enter Try.func22, Try.ntmps22
      go_wp2_with (first | (go_at_call 21; first | (with_reducible refine (ca _).mono ?_; rintro e w2 ⟨rfl, hw⟩; have hw := hw.symm; subst hw) | (with_reducible refine (cb _).mono ?_; rintro e w2 ⟨rfl, hw⟩; have hw := hw.symm; subst hw)) | (go_at_call 38; refine (cl _).mono ?_; rintro e w2 ⟨rfl, hw⟩; have hw := hw.symm; subst hw))
      go_ret
      exact ⟨by rw [H.out] <;> simp, below_box _ _⟩
    · cases Y
      · have H : Hid (R = false) := hR
        clear hR
        go_enter Try.func22, Try.ntmps22
        go_wp2_with (first | (go_at_call 21; first | (with_reducible refine (ca _).mono ?_; rintro e w2 ⟨rfl, hw⟩; have hw := hw.symm; subst hw) | (with_reducible refine (cb _).mono ?_; rintro e w2 ⟨rfl, hw⟩; have hw := hw.symm; subst hw)) | (go_at_call 38; refine (cl _).mono ?_; rintro e w2 ⟨rfl, hw⟩; have hw := hw.symm; subst hw))
        go_ret
        exact ⟨by rw [H.out] <;> simp, below_box _ _⟩
      · by_cases h5 : (s.size : Int) ≤ 60
        · have H : Hid (R = L) := hR.trans (by rw [decide_eq_true h5]; rfl)
          clear hR
          go_enter Try.func22, Try.ntmps22
          go_wp2_with (first | (go_at_call 21; first | (with_reducible refine (ca _).mono ?_; rintro e w2 ⟨rfl, hw⟩; have hw := hw.symm; subst hw) | (with_reducible refine (cb _).mono ?_; rintro e w2 ⟨rfl, hw⟩; have hw := hw.symm; subst hw)) | (go_at_call 38; refine (cl _).mono ?_; rintro e w2 ⟨rfl, hw⟩; have hw := hw.symm; subst hw))
          go_ret
          exact ⟨by rw [H.out] <;> simp, below_box _ _⟩
        · have H : Hid (R = false) := hR.trans (by rw [decide_eq_false h5]; rfl)
          clear hR
          go_enter Try.func22, Try.ntmps22
          go_wp2_with (first | (go_at_call 21; first | (with_reducible refine (ca _).mono ?_; rintro e w2 ⟨rfl, hw⟩; have hw := hw.symm; subst hw) | (with_reducible refine (cb _).mono ?_; rintro e w2 ⟨rfl, hw⟩; have hw := hw.symm; subst hw)) | (go_at_call 38; refine (cl _).mono ?_; rintro e w2 ⟨rfl, hw⟩; have hw := hw.symm; subst hw))
          go_ret
          exact ⟨by rw [H.out] <;> simp, below_box _ _⟩

theorem toCmd_any (k n : Int) (s : ByteArray) (w : World) :
    Calls Try.prog 42 #[.agg #[.int .i64 k, .int .i64 n, .string s]] w fun e w' => e = .returned (.agg #[.int .i64 k, .int .i64 n, .string s]) ∧ Below w.heap.size w w' := by
  go_enter Try.func42, Try.ntmps42
  go_wp2
  refine bodyPost_ret (v := .agg #[.int .i64 k, .int .i64 n, .string s]) (by simp [results, Try.results42, go_sem]) rfl ⟨rfl, ?_⟩
  repeat (first | refine Below.setCell ?_ (by simp <;> omega) _ | refine Below.alloc ?_ (by simp <;> omega) _)
  exact Below.refl _ _
theorem szCmd_far (k n : Int) (s : ByteArray) (l : Int) (w : World) (hl : l < (s.size : Int)) (h1 : -9223372036854775808 ≤ l - (s.size : Int)) (_ : l ≤ 9223372036854775807) :
    Calls Try.prog 40 #[.agg #[.int .i64 k, .int .i64 n, .string s], .int .i64 l] w fun e w' => e = .returned (.int .i64 (-1)) ∧ Below w.heap.size w w' := by
  have hl' : l - (s.size : Int) < 0 := by omega
  go_enter Try.func40, Try.ntmps40
  go_wp2
  go_ret
  exact ⟨rfl, below_box _ _⟩
theorem szCmd_near (k n : Int) (s : ByteArray) (l : Int) (w : World) (hl : (s.size : Int) ≤ l) (h2 : l ≤ 9223372036854775807) :
    Calls Try.prog 40 #[.agg #[.int .i64 k, .int .i64 n, .string s], .int .i64 l] w fun e w' => e = .returned (.int .i64 (l - s.size)) ∧ Below w.heap.size w w' := by
  have hl' : 0 ≤ l - (s.size : Int) := by omega
  have hl2 : l - (s.size : Int) ≤ 9223372036854775807 := by omega
  go_enter Try.func40, Try.ntmps40
  go_wp2
  go_ret
  exact ⟨rfl, below_box _ _⟩

end Mc
end Go.Proofs.Ytipjgkekjocljaa
