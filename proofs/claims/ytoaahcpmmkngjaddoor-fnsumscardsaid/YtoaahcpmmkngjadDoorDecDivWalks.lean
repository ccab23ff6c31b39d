/-
  The walks of DecDiv.
-/
import Derived.Test.YtoaahcpmmkngjadDoorDecAddWalks
namespace Go.Proofs.YtoaahcpmmkngjadDoor
open Go.RowKit Go.Extern.Stop Go.Stop Go.Extern

theorem over_bad (d e : Int) (a : Addr) (w : World) (hc : w.cell? ⟨0, 0, none⟩ = some (.iface 69 (.pointer (some a)))) (h : (d < -9000000000000 ∨ 9000000000000 < d) ∨ (e < -9000000000000 ∨ 9000000000000 < e)) :
    Calls Tryd.prog 31 #[.int .i64 d, .int .i64 e] w fun r w' => r = .returned (.tuple #[.int .i64 0, .iface 69 (.pointer (some a))]) ∧ ∃ n, w' = w.drewN n := by
  have hb := fun w hc => both_bad d e a w hc h
  clear h
  go_enter Tryd.func31, Tryd.ntmps31
  go_wp2_with (go_at_call 39; refine (hb _ ?_).mono ?_; exact hc; rintro r w' ⟨rfl, n, rfl⟩)
  go_ret2
  exact ⟨rfl, _, rfl⟩

theorem over_good (d e : Int) (w : World) (hB : Dec.divB d e = true) :
    Calls Tryd.prog 31 #[.int .i64 d, .int .i64 e] w fun r w' => r = .returned (.tuple #[.int .i64 ((d * 1000000).tdiv e), .nilIface]) ∧ w' = w := by
  simp only [Dec.divB, Bool.and_eq_true, Bool.not_eq_true', beq_eq_false_iff_ne] at hB
  obtain ⟨⟨⟨hd, he⟩, hne⟩, hq⟩ := hB
  obtain ⟨h1, h2⟩ := Dec.of_okB hd
  obtain ⟨h3, h4⟩ := Dec.of_okB he
  obtain ⟨h5, h6⟩ := Dec.of_okB hq
  have hne' : ¬ e = 0 := hne
  clear hd he hq hne
  go_enter Tryd.func31, Tryd.ntmps31
  go_wp2_with (first | (go_at_call 39; refine (both_ok _ _ _ h1 h2 h3 h4).mono ?_; rintro r w' ⟨rfl, rfl⟩) | (go_at_call 33; refine (checked_ok _ _ h5 h6).mono ?_; rintro r w' ⟨rfl, rfl⟩))
  go_ret2
  exact ⟨rfl, rfl⟩
theorem over_zero (d : Int) (a : Addr) (w : World) (hc : w.cell? ⟨0, 0, none⟩ = some (.iface 69 (.pointer (some a)))) (h1 : -9000000000000 ≤ d) (h2 : d ≤ 9000000000000) :
    Calls Tryd.prog 31 #[.int .i64 d, .int .i64 0] w fun r w' => r = .returned (.tuple #[.int .i64 0, .iface 69 (.pointer (some a))]) ∧ ∃ n, w' = w.drewN n := by
  have h3 : (-9000000000000 : Int) ≤ 0 := by decide
  have h4 : (0 : Int) ≤ 9000000000000 := by decide
  go_enter Tryd.func31, Tryd.ntmps31
  go_wp2_with (go_at_call 39; refine (both_ok _ _ _ h1 h2 h3 h4).mono ?_; rintro r w' ⟨rfl, rfl⟩)
  go_quiet (fail)
  go_wp2
  go_ret2
  exact ⟨rfl, _, rfl⟩
theorem over_far (d e : Int) (a : Addr) (w : World) (hc : w.cell? ⟨0, 0, none⟩ = some (.iface 69 (.pointer (some a)))) (h1 : -9000000000000 ≤ d) (h2 : d ≤ 9000000000000) (h3 : -9000000000000 ≤ e) (h4 : e ≤ 9000000000000) (hne : ¬ e = 0) (h : (d * 1000000).tdiv e < -9000000000000 ∨ 9000000000000 < (d * 1000000).tdiv e) :
    Calls Tryd.prog 31 #[.int .i64 d, .int .i64 e] w fun r w' => r = .returned (.tuple #[.int .i64 0, .iface 69 (.pointer (some a))]) ∧ ∃ n, w' = w.drewN n := by
  obtain ⟨q1, q2⟩ := Dec.tdiv_bd (m := d * 1000000) (e := e) (k := 9000000000000000000) (by omega) (by omega)
  have hm := fun w hc => checked_bad ((d * 1000000).tdiv e) a w hc h
  clear h
  go_enter Tryd.func31, Tryd.ntmps31
  go_wp2_with (first | (go_at_call 39; refine (both_ok _ _ _ h1 h2 h3 h4).mono ?_; rintro r w' ⟨rfl, rfl⟩) | (go_at_call 33; refine (hm _ ?_).mono ?_; exact hc; rintro r w' ⟨rfl, n, rfl⟩))
  go_ret2
  exact ⟨rfl, _, rfl⟩
theorem over_no (d e : Int) (a : Addr) (w : World) (hc : w.cell? ⟨0, 0, none⟩ = some (.iface 69 (.pointer (some a)))) (hB : Dec.divB d e = false) :
    Calls Tryd.prog 31 #[.int .i64 d, .int .i64 e] w fun r w' => r = .returned (.tuple #[.int .i64 0, .iface 69 (.pointer (some a))]) ∧ ∃ n, w' = w.drewN n := by
  cases hd : Dec.okB d with
  | false => exact over_bad d e a w hc (Or.inl (Dec.of_okB_false hd))
  | true => cases he : Dec.okB e with
    | false => exact over_bad d e a w hc (Or.inr (Dec.of_okB_false he))
    | true =>
      obtain ⟨h1, h2⟩ := Dec.of_okB hd
      obtain ⟨h3, h4⟩ := Dec.of_okB he
      by_cases hz : e = 0
      · subst hz
        exact over_zero d a w hc h1 h2
      · have hq : Dec.okB ((d * 1000000).tdiv e) = false := by simpa [Dec.divB, hd, he, hz] using hB
        exact over_far d e a w hc h1 h2 h3 h4 hz (Dec.of_okB_false hq)

theorem sDecDiv_bad (d e : Int) (w : World) (h : Dec.okB d = false ∨ Dec.okB e = false) :
    Calls Tryd.prog 14 #[.int .i64 d, .int .i64 e] w fun r w' => r = .returned (.tuple #[.int .i64 0, .bool false]) ∧ w' = w := by
  by_cases hd : Dec.okB d = false
  · clear h
    go_enter Tryd.func14, Tryd.ntmps14
    go_wp2_with (go_at_call 22; refine (sDecOk _ _).mono ?_; rintro r w' ⟨rfl, rfl⟩)
    go_ret2
    exact ⟨rfl, rfl⟩
  · have hd' : Dec.okB d = true := by simpa using hd
    have he : Dec.okB e = false := h.resolve_left hd
    clear h hd
    go_enter Tryd.func14, Tryd.ntmps14
    go_wp2_with (go_at_call 22; refine (sDecOk _ _).mono ?_; rintro r w' ⟨rfl, rfl⟩)
    go_ret2
    exact ⟨rfl, rfl⟩

theorem sDecDiv_zero (d : Int) (w : World) (hd : Dec.okB d = true) :
    Calls Tryd.prog 14 #[.int .i64 d, .int .i64 0] w fun r w' => r = .returned (.tuple #[.int .i64 0, .bool false]) ∧ w' = w := by
  have hk : Dec.okB 0 = true := by decide
  go_enter Tryd.func14, Tryd.ntmps14
  go_wp2_with (first | (go_at_call 22; refine (sDecOk _ _).mono ?_; rintro r w' ⟨rfl, rfl⟩) | (go_at_call 27; refine (sRight _ _).mono ?_; rintro r w' ⟨rfl, rfl⟩))
  go_ret2
  exact ⟨rfl, rfl⟩
theorem sDecDiv_more (d e : Int) (w : World) (hd : Dec.okB d = true) (he : Dec.okB e = true) (hne : ¬ e = 0) :
    Calls Tryd.prog 14 #[.int .i64 d, .int .i64 e] w fun r w' => r = .returned (.tuple #[.int .i64 (Dec.divV d e), .bool (Dec.divB d e)]) ∧ w' = w := by
  obtain ⟨h1, h2⟩ := Dec.of_okB hd
  obtain ⟨h3, h4⟩ := Dec.of_okB he
  obtain ⟨q1, q2⟩ := Dec.tdiv_bd (m := d * 1000000) (e := e) (k := 9000000000000000000) (by omega) (by omega)
  have hne2 : (e == 0) = false := by simpa using hne
  cases hB : Dec.okB ((d * 1000000).tdiv e) with
  | true =>
    have eB : Dec.divB d e = true := by simp [Dec.divB, hd, he, hB, hne2]
    have eV : Dec.divV d e = (d * 1000000).tdiv e := by simp [Dec.divV, eB]
    rw [eB, eV]
    clear eB eV
    go_enter Tryd.func14, Tryd.ntmps14
    go_wp2_with (first | (go_at_call 22; refine (sDecOk _ _).mono ?_; rintro r w' ⟨rfl, rfl⟩) | (go_at_call 27; refine (sRight _ _).mono ?_; rintro r w' ⟨rfl, rfl⟩))
    go_ret2
    exact ⟨rfl, rfl⟩
  | false =>
    have eB : Dec.divB d e = false := by simp [Dec.divB, hB]
    have eV : Dec.divV d e = 0 := by simp [Dec.divV, eB]
    rw [eB, eV]
    clear eB eV
    go_enter Tryd.func14, Tryd.ntmps14
    go_wp2_with (first | (go_at_call 22; refine (sDecOk _ _).mono ?_; rintro r w' ⟨rfl, rfl⟩) | (go_at_call 27; refine (sRight _ _).mono ?_; rintro r w' ⟨rfl, rfl⟩))
    go_ret2
    exact ⟨rfl, rfl⟩
theorem sDecDiv (d e : Int) (w : World) :
    Calls Tryd.prog 14 #[.int .i64 d, .int .i64 e] w fun r w' => r = .returned (.tuple #[.int .i64 (Dec.divV d e), .bool (Dec.divB d e)]) ∧ w' = w := by
  cases hd : Dec.okB d with
  | false =>
    have eB : Dec.divB d e = false := by simp [Dec.divB, hd]
    have eV : Dec.divV d e = 0 := by simp [Dec.divV, eB]
    rw [eB, eV]
    exact sDecDiv_bad d e w (Or.inl hd)
  | true => cases he : Dec.okB e with
    | false =>
      have eB : Dec.divB d e = false := by simp [Dec.divB, he]
      have eV : Dec.divV d e = 0 := by simp [Dec.divV, eB]
      rw [eB, eV]
      exact sDecDiv_bad d e w (Or.inr he)
    | true =>
      by_cases hz : e = 0
      · subst hz
        have eB : Dec.divB d 0 = false := by simp [Dec.divB]
        have eV : Dec.divV d 0 = 0 := by simp [Dec.divV, eB]
        rw [eB, eV]
        exact sDecDiv_zero d w hd
      · exact sDecDiv_more d e w hd he hz

/-- DecDiv of the program, at all arguments. -/
theorem iDecDiv (d e : Int) (a : Addr) (w : World) (hc : w.cell? ⟨0, 0, none⟩ = some (.iface 69 (.pointer (some a)))) :
    Calls Tryd.prog 13 #[.int .i64 d, .int .i64 e] w fun r w' => r = .returned (.tuple #[.int .i64 (Dec.divV d e), .bool (Dec.divB d e)]) ∧ ∃ n, w' = w.drewN n := by
  cases hB : Dec.divB d e with
  | true =>
    have eV : Dec.divV d e = (d * 1000000).tdiv e := by simp [Dec.divV, hB]
    have hm := over_good d e w hB
    rw [eV]
    clear hB eV
    go_enter Tryd.func13, Tryd.ntmps13
    go_wp2_with (first | (go_at_call 31; refine hm.mono ?_; rintro r w' ⟨rfl, rfl⟩) | (go_at_call 25; refine (told_ok _ a _ ?_).mono ?_; exact hc; rintro r w' ⟨rfl, rfl⟩))
    go_ret2
    exact ⟨rfl, 0, rfl⟩
  | false =>
    have eV : Dec.divV d e = 0 := by simp [Dec.divV, hB]
    have hm := fun w hc => over_no d e a w hc hB
    rw [eV]
    clear hB eV
    go_enter Tryd.func13, Tryd.ntmps13
    go_wp2_with (first | (go_at_call 31; refine (hm _ ?_).mono ?_; exact hc; rintro r w' ⟨rfl, n, rfl⟩) | (go_at_call 25; refine (told_bad _ a _ ?_).mono ?_; exact hc; rintro r w' ⟨rfl, rfl⟩))
    go_ret2
    exact ⟨rfl, _, rfl⟩


end Go.Proofs.YtoaahcpmmkngjadDoor
