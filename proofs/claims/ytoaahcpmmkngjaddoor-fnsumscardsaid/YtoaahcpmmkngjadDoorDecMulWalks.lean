/-
  The walks of DecMul.
-/
import Derived.Test.YtoaahcpmmkngjadDoorDecAddWalks
namespace Go.Proofs.YtoaahcpmmkngjadDoor
open Go.RowKit Go.Extern.Stop Go.Stop Go.Extern

theorem amount_any (x : Int) (w : World) (h1 : -9000000000000 ≤ x) (h2 : x ≤ 9000000000000) :
    Calls Tryd.prog 40 #[.int .i64 x] w fun r w' => r = .returned (.int .i64 (Dec.absI x)) ∧ w' = w := by
  by_cases h : x < 0
  · rw [Dec.absI_neg h]
    go_enter Tryd.func40, Tryd.ntmps40
    go_wp2
    go_ret
    exact ⟨rfl, rfl⟩
  · rw [Dec.absI_pos (by omega)]
    go_enter Tryd.func40, Tryd.ntmps40
    go_wp2
    go_ret
    exact ⟨rfl, rfl⟩
theorem sAbs (x : Int) (w : World) (h1 : -9000000000000 ≤ x) (h2 : x ≤ 9000000000000) :
    Calls Tryd.prog 30 #[.int .i64 x] w fun r w' => r = .returned (.int .i64 (Dec.absI x)) ∧ w' = w := by
  by_cases h : x < 0
  · rw [Dec.absI_neg h]
    go_enter Tryd.func30, Tryd.ntmps30
    go_wp2
    go_ret
    exact ⟨rfl, rfl⟩
  · rw [Dec.absI_pos (by omega)]
    go_enter Tryd.func30, Tryd.ntmps30
    go_wp2
    go_ret
    exact ⟨rfl, rfl⟩

theorem times_bad (d e : Int) (a : Addr) (w : World) (hc : w.cell? ⟨0, 0, none⟩ = some (.iface 69 (.pointer (some a)))) (h : (d < -9000000000000 ∨ 9000000000000 < d) ∨ (e < -9000000000000 ∨ 9000000000000 < e)) :
    Calls Tryd.prog 29 #[.int .i64 d, .int .i64 e] w fun r w' => r = .returned (.tuple #[.int .i64 0, .iface 69 (.pointer (some a))]) ∧ ∃ n, w' = w.drewN n := by
  have hb := fun w hc => both_bad d e a w hc h
  clear h
  go_enter Tryd.func29, Tryd.ntmps29
  go_wp2_with (go_at_call 39; refine (hb _ ?_).mono ?_; exact hc; rintro r w' ⟨rfl, n, rfl⟩)
  go_ret2
  exact ⟨rfl, _, rfl⟩

theorem times_zero (d : Int) (w : World) (h1 : -9000000000000 ≤ d) (h2 : d ≤ 9000000000000) :
    Calls Tryd.prog 29 #[.int .i64 d, .int .i64 0] w fun r w' => r = .returned (.tuple #[.int .i64 0, .nilIface]) ∧ w' = w := by
  have h3 : (-9000000000000 : Int) ≤ 0 := by decide
  have h4 : (0 : Int) ≤ 9000000000000 := by decide
  go_enter Tryd.func29, Tryd.ntmps29
  go_wp2_with (go_at_call 39; refine (both_ok _ _ _ h1 h2 h3 h4).mono ?_; rintro r w' ⟨rfl, rfl⟩)
  go_ret2
  exact ⟨rfl, rfl⟩
theorem times_near (d e : Int) (w : World) (h1 : -9000000000000 ≤ d) (h2 : d ≤ 9000000000000) (h3 : -9000000000000 ≤ e) (h4 : e ≤ 9000000000000) (hne : ¬ e = 0) (h : Dec.absI d * Dec.absI e ≤ 9000000000000999999) :
    Calls Tryd.prog 29 #[.int .i64 d, .int .i64 e] w fun r w' => r = .returned (.tuple #[.int .i64 ((d * e).tdiv 1000000), .nilIface]) ∧ w' = w := by
  have hy := Dec.absI_ne hne
  obtain ⟨p1, p2⟩ := Dec.prod_bd h
  obtain ⟨q1, q2⟩ := Dec.quo_bd hy
  have q3 := (Dec.quo_iff hy (x := Dec.absI d)).2 h
  have hne2 : (e != 0) = true := by simpa using hne
  clear h
  go_enter Tryd.func29, Tryd.ntmps29
  go_wp2_with (first | (go_at_call 39; refine (both_ok _ _ _ h1 h2 h3 h4).mono ?_; rintro r w' ⟨rfl, rfl⟩) | (go_at_call 40; refine (amount_any _ _ (by omega) (by omega)).mono ?_; rintro r w' ⟨rfl, rfl⟩))
  go_ret2
  exact ⟨rfl, rfl⟩
theorem times_far (d e : Int) (a : Addr) (w : World) (hc : w.cell? ⟨0, 0, none⟩ = some (.iface 69 (.pointer (some a)))) (h1 : -9000000000000 ≤ d) (h2 : d ≤ 9000000000000) (h3 : -9000000000000 ≤ e) (h4 : e ≤ 9000000000000) (hne : ¬ e = 0) (h : 9000000000000999999 < Dec.absI d * Dec.absI e) :
    Calls Tryd.prog 29 #[.int .i64 d, .int .i64 e] w fun r w' => r = .returned (.tuple #[.int .i64 0, .iface 69 (.pointer (some a))]) ∧ ∃ n, w' = w.drewN n := by
  have hy := Dec.absI_ne hne
  obtain ⟨q1, q2⟩ := Dec.quo_bd hy
  have q3 : (9000000000000999999 : Int).tdiv (Dec.absI e) < Dec.absI d := by
    have := (Dec.quo_iff hy (x := Dec.absI d))
    omega
  have hne2 : (e != 0) = true := by simpa using hne
  clear h
  go_enter Tryd.func29, Tryd.ntmps29
  go_wp2_with (first | (go_at_call 39; refine (both_ok _ _ _ h1 h2 h3 h4).mono ?_; rintro r w' ⟨rfl, rfl⟩) | (go_at_call 40; refine (amount_any _ _ (by omega) (by omega)).mono ?_; rintro r w' ⟨rfl, rfl⟩))
  go_quiet (fail)
  go_wp2
  go_ret2
  exact ⟨rfl, _, rfl⟩

theorem times_good (d e : Int) (w : World) (hB : Dec.mulB d e = true) :
    Calls Tryd.prog 29 #[.int .i64 d, .int .i64 e] w fun r w' => r = .returned (.tuple #[.int .i64 ((d * e).tdiv 1000000), .nilIface]) ∧ w' = w := by
  simp only [Dec.mulB, Bool.and_eq_true] at hB
  obtain ⟨⟨hd, he⟩, hq⟩ := hB
  obtain ⟨h1, h2⟩ := Dec.of_okB hd
  obtain ⟨h3, h4⟩ := Dec.of_okB he
  by_cases hz : e = 0
  · subst hz
    have := times_zero d w h1 h2
    simpa using this
  · rcases Int.lt_or_le 9000000000000999999 (Dec.absI d * Dec.absI e) with h | h
    · rw [Dec.prod_bad h] at hq; cases hq
    · exact times_near d e w h1 h2 h3 h4 hz h
theorem times_no (d e : Int) (a : Addr) (w : World) (hc : w.cell? ⟨0, 0, none⟩ = some (.iface 69 (.pointer (some a)))) (hB : Dec.mulB d e = false) :
    Calls Tryd.prog 29 #[.int .i64 d, .int .i64 e] w fun r w' => r = .returned (.tuple #[.int .i64 0, .iface 69 (.pointer (some a))]) ∧ ∃ n, w' = w.drewN n := by
  cases hd : Dec.okB d with
  | false => exact times_bad d e a w hc (Or.inl (Dec.of_okB_false hd))
  | true => cases he : Dec.okB e with
    | false => exact times_bad d e a w hc (Or.inr (Dec.of_okB_false he))
    | true =>
      have hq : Dec.okB ((d * e).tdiv 1000000) = false := by simpa [Dec.mulB, hd, he] using hB
      obtain ⟨h1, h2⟩ := Dec.of_okB hd
      obtain ⟨h3, h4⟩ := Dec.of_okB he
      by_cases hz : e = 0
      · subst hz
        rw [Int.mul_zero] at hq
        exact absurd hq (by decide)
      · rcases Int.lt_or_le 9000000000000999999 (Dec.absI d * Dec.absI e) with h | h
        · exact times_far d e a w hc h1 h2 h3 h4 hz h
        · rw [Dec.prod_ok h] at hq; cases hq

theorem sDecMul_bad (d e : Int) (w : World) (h : Dec.okB d = false ∨ Dec.okB e = false) :
    Calls Tryd.prog 11 #[.int .i64 d, .int .i64 e] w fun r w' => r = .returned (.tuple #[.int .i64 0, .bool false]) ∧ w' = w := by
  by_cases hd : Dec.okB d = false
  · clear h
    go_enter Tryd.func11, Tryd.ntmps11
    go_wp2_with (go_at_call 22; refine (sDecOk _ _).mono ?_; rintro r w' ⟨rfl, rfl⟩)
    go_ret2
    exact ⟨rfl, rfl⟩
  · have hd' : Dec.okB d = true := by simpa using hd
    have he : Dec.okB e = false := h.resolve_left hd
    clear h hd
    go_enter Tryd.func11, Tryd.ntmps11
    go_wp2_with (go_at_call 22; refine (sDecOk _ _).mono ?_; rintro r w' ⟨rfl, rfl⟩)
    go_ret2
    exact ⟨rfl, rfl⟩

theorem sDecMul_zero (d : Int) (w : World) (hd : Dec.okB d = true) :
    Calls Tryd.prog 11 #[.int .i64 d, .int .i64 0] w fun r w' => r = .returned (.tuple #[.int .i64 0, .bool true]) ∧ w' = w := by
  obtain ⟨h1, h2⟩ := Dec.of_okB hd
  have a0 := Dec.absI_nonneg d
  have a1 : Dec.absI d ≤ 9000000000000 := Dec.absI_le h1 h2
  have hz : Dec.absI 0 = 0 := by decide
  have hk : Dec.okB 0 = true := by decide
  cases s1 : decide (d < 0)
  all_goals
    go_enter Tryd.func11, Tryd.ntmps11
    go_wp2_with (first | (go_at_call 22; refine (sDecOk _ _).mono ?_; rintro r w' ⟨rfl, rfl⟩) | (go_at_call 27; refine (sRight _ _).mono ?_; rintro r w' ⟨rfl, rfl⟩) | (go_at_call 30; refine (sAbs _ _ (by omega) (by omega)).mono ?_; rintro r w' ⟨rfl, rfl⟩))
    go_ret2
    exact ⟨rfl, rfl⟩
theorem sDecMul_far (d e : Int) (w : World) (hd : Dec.okB d = true) (he : Dec.okB e = true) (hne : ¬ e = 0) (h : 9000000000000 / Dec.absI e < Dec.absI d / 1000000) :
    Calls Tryd.prog 11 #[.int .i64 d, .int .i64 e] w fun r w' => r = .returned (.tuple #[.int .i64 0, .bool false]) ∧ w' = w := by
  obtain ⟨h1, h2⟩ := Dec.of_okB hd
  obtain ⟨h3, h4⟩ := Dec.of_okB he
  have a0 := Dec.absI_nonneg d
  have a1 : Dec.absI d ≤ 9000000000000 := Dec.absI_le h1 h2
  have b0 := Dec.absI_ne hne
  have b1 : Dec.absI e ≤ 9000000000000 := Dec.absI_le h3 h4
  have q1 : 0 ≤ 9000000000000 / Dec.absI e := Int.ediv_nonneg (by decide) (by omega)
  have q2 : 9000000000000 / Dec.absI e ≤ 9000000000000 := Int.ediv_le_self _ (by decide)
  go_enter Tryd.func11, Tryd.ntmps11
  go_wp2_with (first | (go_at_call 22; refine (sDecOk _ _).mono ?_; rintro r w' ⟨rfl, rfl⟩) | (go_at_call 27; refine (sRight _ _).mono ?_; rintro r w' ⟨rfl, rfl⟩) | (go_at_call 30; refine (sAbs _ _ (by omega) (by omega)).mono ?_; rintro r w' ⟨rfl, rfl⟩))
  go_ret2
  exact ⟨rfl, rfl⟩

theorem sDecMul_pp (d e : Int) (w : World) (hd : Dec.okB d = true) (he : Dec.okB e = true) (hne : ¬ e = 0) (h : Dec.absI d / 1000000 ≤ 9000000000000 / Dec.absI e) (s1 : 0 ≤ d) (s2 : 0 ≤ e) :
    Calls Tryd.prog 11 #[.int .i64 d, .int .i64 e] w fun r w' => r = .returned (.tuple #[.int .i64 (Dec.mulV d e), .bool (Dec.mulB d e)]) ∧ w' = w := by
  obtain ⟨h1, h2⟩ := Dec.of_okB hd
  obtain ⟨h3, h4⟩ := Dec.of_okB he
  have a0 := Dec.absI_nonneg d
  have a1 : Dec.absI d ≤ 9000000000000 := Dec.absI_le h1 h2
  have b0 := Dec.absI_ne hne
  have b1 : Dec.absI e ≤ 9000000000000 := Dec.absI_le h3 h4
  have q1 : 0 ≤ 9000000000000 / Dec.absI e := Int.ediv_nonneg (by decide) (by omega)
  have q2 : 9000000000000 / Dec.absI e ≤ 9000000000000 := Int.ediv_le_self _ (by decide)
  have p0 : 0 ≤ Dec.absI d / 1000000 * Dec.absI e := Int.mul_nonneg (by omega) (by omega)
  have p1 := Dec.whole_near b0 h
  obtain ⟨r0, r1⟩ := Dec.rest_bd (x := Dec.absI d) (y := Dec.absI e) (by omega) b1
  have hq : (d * e).tdiv 1000000 = (Dec.absI d / 1000000 * Dec.absI e + Dec.absI d % 1000000 * Dec.absI e / 1000000) := by rw [Dec.parts_quo]; exact Dec.tdiv_same (by omega)
  have g1 : decide (d < 0) = false := by simp; omega
  have g2 : decide (e < 0) = false := by simp; omega
  cases hB : Dec.okB (Dec.absI d / 1000000 * Dec.absI e + Dec.absI d % 1000000 * Dec.absI e / 1000000) with
  | true =>
    have eB : Dec.mulB d e = true := by simp only [Dec.mulB, hd, he, hq, hB, Bool.and_self]
    have eV : Dec.mulV d e = (Dec.absI d / 1000000 * Dec.absI e + Dec.absI d % 1000000 * Dec.absI e / 1000000) := by simp only [Dec.mulV, eB, if_true, hq]
    rw [eB, eV]
    clear eB eV hq
    go_enter Tryd.func11, Tryd.ntmps11
    go_wp2_with (first | (go_at_call 22; refine (sDecOk _ _).mono ?_; rintro r w' ⟨rfl, rfl⟩) | (go_at_call 27; refine (sRight _ _).mono ?_; rintro r w' ⟨rfl, rfl⟩) | (go_at_call 30; refine (sAbs _ _ (by omega) (by omega)).mono ?_; rintro r w' ⟨rfl, rfl⟩))
    go_ret2
    exact ⟨rfl, rfl⟩
  | false =>
    have eB : Dec.mulB d e = false := by simp only [Dec.mulB, hd, he, hq, hB, Bool.and_false]
    have eV : Dec.mulV d e = 0 := by simp [Dec.mulV, eB]
    rw [eB, eV]
    clear eB eV hq
    go_enter Tryd.func11, Tryd.ntmps11
    go_wp2_with (first | (go_at_call 22; refine (sDecOk _ _).mono ?_; rintro r w' ⟨rfl, rfl⟩) | (go_at_call 27; refine (sRight _ _).mono ?_; rintro r w' ⟨rfl, rfl⟩) | (go_at_call 30; refine (sAbs _ _ (by omega) (by omega)).mono ?_; rintro r w' ⟨rfl, rfl⟩))
    go_ret2
    exact ⟨rfl, rfl⟩

theorem sDecMul_nn (d e : Int) (w : World) (hd : Dec.okB d = true) (he : Dec.okB e = true) (hne : ¬ e = 0) (h : Dec.absI d / 1000000 ≤ 9000000000000 / Dec.absI e) (s1 : d < 0) (s2 : e < 0) :
    Calls Tryd.prog 11 #[.int .i64 d, .int .i64 e] w fun r w' => r = .returned (.tuple #[.int .i64 (Dec.mulV d e), .bool (Dec.mulB d e)]) ∧ w' = w := by
  obtain ⟨h1, h2⟩ := Dec.of_okB hd
  obtain ⟨h3, h4⟩ := Dec.of_okB he
  have a0 := Dec.absI_nonneg d
  have a1 : Dec.absI d ≤ 9000000000000 := Dec.absI_le h1 h2
  have b0 := Dec.absI_ne hne
  have b1 : Dec.absI e ≤ 9000000000000 := Dec.absI_le h3 h4
  have q1 : 0 ≤ 9000000000000 / Dec.absI e := Int.ediv_nonneg (by decide) (by omega)
  have q2 : 9000000000000 / Dec.absI e ≤ 9000000000000 := Int.ediv_le_self _ (by decide)
  have p0 : 0 ≤ Dec.absI d / 1000000 * Dec.absI e := Int.mul_nonneg (by omega) (by omega)
  have p1 := Dec.whole_near b0 h
  obtain ⟨r0, r1⟩ := Dec.rest_bd (x := Dec.absI d) (y := Dec.absI e) (by omega) b1
  have hq : (d * e).tdiv 1000000 = (Dec.absI d / 1000000 * Dec.absI e + Dec.absI d % 1000000 * Dec.absI e / 1000000) := by rw [Dec.parts_quo]; exact Dec.tdiv_same (by omega)
  have g1 : decide (d < 0) = true := by simp; omega
  have g2 : decide (e < 0) = true := by simp; omega
  cases hB : Dec.okB (Dec.absI d / 1000000 * Dec.absI e + Dec.absI d % 1000000 * Dec.absI e / 1000000) with
  | true =>
    have eB : Dec.mulB d e = true := by simp only [Dec.mulB, hd, he, hq, hB, Bool.and_self]
    have eV : Dec.mulV d e = (Dec.absI d / 1000000 * Dec.absI e + Dec.absI d % 1000000 * Dec.absI e / 1000000) := by simp only [Dec.mulV, eB, if_true, hq]
    rw [eB, eV]
    clear eB eV hq
    go_enter Tryd.func11, Tryd.ntmps11
    go_wp2_with (first | (go_at_call 22; refine (sDecOk _ _).mono ?_; rintro r w' ⟨rfl, rfl⟩) | (go_at_call 27; refine (sRight _ _).mono ?_; rintro r w' ⟨rfl, rfl⟩) | (go_at_call 30; refine (sAbs _ _ (by omega) (by omega)).mono ?_; rintro r w' ⟨rfl, rfl⟩))
    go_ret2
    exact ⟨rfl, rfl⟩
  | false =>
    have eB : Dec.mulB d e = false := by simp only [Dec.mulB, hd, he, hq, hB, Bool.and_false]
    have eV : Dec.mulV d e = 0 := by simp [Dec.mulV, eB]
    rw [eB, eV]
    clear eB eV hq
    go_enter Tryd.func11, Tryd.ntmps11
    go_wp2_with (first | (go_at_call 22; refine (sDecOk _ _).mono ?_; rintro r w' ⟨rfl, rfl⟩) | (go_at_call 27; refine (sRight _ _).mono ?_; rintro r w' ⟨rfl, rfl⟩) | (go_at_call 30; refine (sAbs _ _ (by omega) (by omega)).mono ?_; rintro r w' ⟨rfl, rfl⟩))
    go_ret2
    exact ⟨rfl, rfl⟩

theorem sDecMul_np (d e : Int) (w : World) (hd : Dec.okB d = true) (he : Dec.okB e = true) (hne : ¬ e = 0) (h : Dec.absI d / 1000000 ≤ 9000000000000 / Dec.absI e) (s1 : d < 0) (s2 : 0 ≤ e) :
    Calls Tryd.prog 11 #[.int .i64 d, .int .i64 e] w fun r w' => r = .returned (.tuple #[.int .i64 (Dec.mulV d e), .bool (Dec.mulB d e)]) ∧ w' = w := by
  obtain ⟨h1, h2⟩ := Dec.of_okB hd
  obtain ⟨h3, h4⟩ := Dec.of_okB he
  have a0 := Dec.absI_nonneg d
  have a1 : Dec.absI d ≤ 9000000000000 := Dec.absI_le h1 h2
  have b0 := Dec.absI_ne hne
  have b1 : Dec.absI e ≤ 9000000000000 := Dec.absI_le h3 h4
  have q1 : 0 ≤ 9000000000000 / Dec.absI e := Int.ediv_nonneg (by decide) (by omega)
  have q2 : 9000000000000 / Dec.absI e ≤ 9000000000000 := Int.ediv_le_self _ (by decide)
  have p0 : 0 ≤ Dec.absI d / 1000000 * Dec.absI e := Int.mul_nonneg (by omega) (by omega)
  have p1 := Dec.whole_near b0 h
  obtain ⟨r0, r1⟩ := Dec.rest_bd (x := Dec.absI d) (y := Dec.absI e) (by omega) b1
  have hq : (d * e).tdiv 1000000 = (-(Dec.absI d / 1000000 * Dec.absI e + Dec.absI d % 1000000 * Dec.absI e / 1000000)) := by rw [Dec.parts_quo]; exact Dec.tdiv_other (by omega)
  have g1 : decide (d < 0) = true := by simp; omega
  have g2 : decide (e < 0) = false := by simp; omega
  cases hB : Dec.okB (-(Dec.absI d / 1000000 * Dec.absI e + Dec.absI d % 1000000 * Dec.absI e / 1000000)) with
  | true =>
    have eB : Dec.mulB d e = true := by simp only [Dec.mulB, hd, he, hq, hB, Bool.and_self]
    have eV : Dec.mulV d e = (-(Dec.absI d / 1000000 * Dec.absI e + Dec.absI d % 1000000 * Dec.absI e / 1000000)) := by simp only [Dec.mulV, eB, if_true, hq]
    rw [eB, eV]
    clear eB eV hq
    go_enter Tryd.func11, Tryd.ntmps11
    go_wp2_with (first | (go_at_call 22; refine (sDecOk _ _).mono ?_; rintro r w' ⟨rfl, rfl⟩) | (go_at_call 27; refine (sRight _ _).mono ?_; rintro r w' ⟨rfl, rfl⟩) | (go_at_call 30; refine (sAbs _ _ (by omega) (by omega)).mono ?_; rintro r w' ⟨rfl, rfl⟩))
    go_ret2
    exact ⟨rfl, rfl⟩
  | false =>
    have eB : Dec.mulB d e = false := by simp only [Dec.mulB, hd, he, hq, hB, Bool.and_false]
    have eV : Dec.mulV d e = 0 := by simp [Dec.mulV, eB]
    rw [eB, eV]
    clear eB eV hq
    go_enter Tryd.func11, Tryd.ntmps11
    go_wp2_with (first | (go_at_call 22; refine (sDecOk _ _).mono ?_; rintro r w' ⟨rfl, rfl⟩) | (go_at_call 27; refine (sRight _ _).mono ?_; rintro r w' ⟨rfl, rfl⟩) | (go_at_call 30; refine (sAbs _ _ (by omega) (by omega)).mono ?_; rintro r w' ⟨rfl, rfl⟩))
    go_ret2
    exact ⟨rfl, rfl⟩

theorem sDecMul_pn (d e : Int) (w : World) (hd : Dec.okB d = true) (he : Dec.okB e = true) (hne : ¬ e = 0) (h : Dec.absI d / 1000000 ≤ 9000000000000 / Dec.absI e) (s1 : 0 ≤ d) (s2 : e < 0) :
    Calls Tryd.prog 11 #[.int .i64 d, .int .i64 e] w fun r w' => r = .returned (.tuple #[.int .i64 (Dec.mulV d e), .bool (Dec.mulB d e)]) ∧ w' = w := by
  obtain ⟨h1, h2⟩ := Dec.of_okB hd
  obtain ⟨h3, h4⟩ := Dec.of_okB he
  have a0 := Dec.absI_nonneg d
  have a1 : Dec.absI d ≤ 9000000000000 := Dec.absI_le h1 h2
  have b0 := Dec.absI_ne hne
  have b1 : Dec.absI e ≤ 9000000000000 := Dec.absI_le h3 h4
  have q1 : 0 ≤ 9000000000000 / Dec.absI e := Int.ediv_nonneg (by decide) (by omega)
  have q2 : 9000000000000 / Dec.absI e ≤ 9000000000000 := Int.ediv_le_self _ (by decide)
  have p0 : 0 ≤ Dec.absI d / 1000000 * Dec.absI e := Int.mul_nonneg (by omega) (by omega)
  have p1 := Dec.whole_near b0 h
  obtain ⟨r0, r1⟩ := Dec.rest_bd (x := Dec.absI d) (y := Dec.absI e) (by omega) b1
  have hq : (d * e).tdiv 1000000 = (-(Dec.absI d / 1000000 * Dec.absI e + Dec.absI d % 1000000 * Dec.absI e / 1000000)) := by rw [Dec.parts_quo]; exact Dec.tdiv_other (by omega)
  have g1 : decide (d < 0) = false := by simp; omega
  have g2 : decide (e < 0) = true := by simp; omega
  cases hB : Dec.okB (-(Dec.absI d / 1000000 * Dec.absI e + Dec.absI d % 1000000 * Dec.absI e / 1000000)) with
  | true =>
    have eB : Dec.mulB d e = true := by simp only [Dec.mulB, hd, he, hq, hB, Bool.and_self]
    have eV : Dec.mulV d e = (-(Dec.absI d / 1000000 * Dec.absI e + Dec.absI d % 1000000 * Dec.absI e / 1000000)) := by simp only [Dec.mulV, eB, if_true, hq]
    rw [eB, eV]
    clear eB eV hq
    go_enter Tryd.func11, Tryd.ntmps11
    go_wp2_with (first | (go_at_call 22; refine (sDecOk _ _).mono ?_; rintro r w' ⟨rfl, rfl⟩) | (go_at_call 27; refine (sRight _ _).mono ?_; rintro r w' ⟨rfl, rfl⟩) | (go_at_call 30; refine (sAbs _ _ (by omega) (by omega)).mono ?_; rintro r w' ⟨rfl, rfl⟩))
    go_ret2
    exact ⟨rfl, rfl⟩
  | false =>
    have eB : Dec.mulB d e = false := by simp only [Dec.mulB, hd, he, hq, hB, Bool.and_false]
    have eV : Dec.mulV d e = 0 := by simp [Dec.mulV, eB]
    rw [eB, eV]
    clear eB eV hq
    go_enter Tryd.func11, Tryd.ntmps11
    go_wp2_with (first | (go_at_call 22; refine (sDecOk _ _).mono ?_; rintro r w' ⟨rfl, rfl⟩) | (go_at_call 27; refine (sRight _ _).mono ?_; rintro r w' ⟨rfl, rfl⟩) | (go_at_call 30; refine (sAbs _ _ (by omega) (by omega)).mono ?_; rintro r w' ⟨rfl, rfl⟩))
    go_ret2
    exact ⟨rfl, rfl⟩

theorem sDecMul (d e : Int) (w : World) :
    Calls Tryd.prog 11 #[.int .i64 d, .int .i64 e] w fun r w' => r = .returned (.tuple #[.int .i64 (Dec.mulV d e), .bool (Dec.mulB d e)]) ∧ w' = w := by
  cases hd : Dec.okB d with
  | false =>
    have eB : Dec.mulB d e = false := by simp [Dec.mulB, hd]
    have eV : Dec.mulV d e = 0 := by simp [Dec.mulV, eB]
    rw [eB, eV]
    exact sDecMul_bad d e w (Or.inl hd)
  | true => cases he : Dec.okB e with
    | false =>
      have eB : Dec.mulB d e = false := by simp [Dec.mulB, he]
      have eV : Dec.mulV d e = 0 := by simp [Dec.mulV, eB]
      rw [eB, eV]
      exact sDecMul_bad d e w (Or.inr he)
    | true =>
      by_cases hz : e = 0
      · subst hz
        have eB : Dec.mulB d 0 = true := by simp [Dec.mulB, hd]; decide
        have eV : Dec.mulV d 0 = 0 := by simp [Dec.mulV]
        rw [eB, eV]
        exact sDecMul_zero d w hd
      rcases Int.lt_or_le (9000000000000 / Dec.absI e) (Dec.absI d / 1000000) with h | h
      · have hq := Dec.prod_bad (d := d) (e := e) (Dec.whole_far (Dec.absI_ne hz) h)
        have eB : Dec.mulB d e = false := by simp [Dec.mulB, hq]
        have eV : Dec.mulV d e = 0 := by simp [Dec.mulV, eB]
        rw [eB, eV]
        exact sDecMul_far d e w hd he hz h
      · rcases Int.lt_or_le d 0 with s1 | s1 <;> rcases Int.lt_or_le e 0 with s2 | s2
        · exact sDecMul_nn d e w hd he hz h s1 s2
        · exact sDecMul_np d e w hd he hz h s1 s2
        · exact sDecMul_pn d e w hd he hz h s1 s2
        · exact sDecMul_pp d e w hd he hz h s1 s2

/-- DecMul of the program, at all arguments. -/
theorem iDecMul (d e : Int) (a : Addr) (w : World) (hc : w.cell? ⟨0, 0, none⟩ = some (.iface 69 (.pointer (some a)))) :
    Calls Tryd.prog 10 #[.int .i64 d, .int .i64 e] w fun r w' => r = .returned (.tuple #[.int .i64 (Dec.mulV d e), .bool (Dec.mulB d e)]) ∧ ∃ n, w' = w.drewN n := by
  cases hB : Dec.mulB d e with
  | true =>
    have eV : Dec.mulV d e = (d * e).tdiv 1000000 := by simp [Dec.mulV, hB]
    have hm := times_good d e w hB
    rw [eV]
    clear hB eV
    go_enter Tryd.func10, Tryd.ntmps10
    go_wp2_with (first | (go_at_call 29; refine hm.mono ?_; rintro r w' ⟨rfl, rfl⟩) | (go_at_call 25; refine (told_ok _ a _ ?_).mono ?_; exact hc; rintro r w' ⟨rfl, rfl⟩))
    go_ret2
    exact ⟨rfl, 0, rfl⟩
  | false =>
    have eV : Dec.mulV d e = 0 := by simp [Dec.mulV, hB]
    have hm := fun w hc => times_no d e a w hc hB
    rw [eV]
    clear hB eV
    go_enter Tryd.func10, Tryd.ntmps10
    go_wp2_with (first | (go_at_call 29; refine (hm _ ?_).mono ?_; exact hc; rintro r w' ⟨rfl, n, rfl⟩) | (go_at_call 25; refine (told_bad _ a _ ?_).mono ?_; exact hc; rintro r w' ⟨rfl, rfl⟩))
    go_ret2
    exact ⟨rfl, _, rfl⟩


end Go.Proofs.YtoaahcpmmkngjadDoor
