/-
  The walks of DecAdd and DecSub.
-/
import Derived.Test.YtoaahcpmmkngjadDoorDecWalks
import Derived.Test.YtoaahcpmmkngjadDoorDecMath
namespace Go.Proofs.YtoaahcpmmkngjadDoor
open Go.RowKit Go.Extern.Stop Go.Stop Go.Extern

theorem sDecOk (d : Int) (w : World) : Calls Tryd.prog 22 #[.int .i64 d] w fun r w' => r = .returned (.bool (Dec.okB d)) ∧ w' = w := by
  by_cases h1 : -9000000000000 ≤ d
  · by_cases h2 : d ≤ 9000000000000
    · rw [Dec.okB_true h1 h2]
      go_enter Tryd.func22, Tryd.ntmps22
      go_wp2
      go_ret
      exact ⟨rfl, rfl⟩
    · rw [Dec.okB_false (by omega)]
      have h3 : decide (d ≤ 9000000000000) = false := by simp; omega
      clear h2
      go_enter Tryd.func22, Tryd.ntmps22
      go_wp2
      go_ret
      exact ⟨rfl, rfl⟩
  · rw [Dec.okB_false (by omega)]
    have h3 : d < -9000000000000 := by omega
    clear h1
    go_enter Tryd.func22, Tryd.ntmps22
    go_wp2
    go_ret
    exact ⟨rfl, rfl⟩

theorem sRight (d : Int) (w : World) : Calls Tryd.prog 27 #[.int .i64 d] w fun r w' => r = .returned (.tuple #[.int .i64 (if Dec.okB d = true then d else 0), .bool (Dec.okB d)]) ∧ w' = w := by
  by_cases h : Dec.okB d = true
  · rw [if_pos h, h]
    go_enter Tryd.func27, Tryd.ntmps27
    go_wp2_with (go_at_call 22; refine (sDecOk _ _).mono ?_; rintro r w' ⟨rfl, rfl⟩)
    go_ret2
    exact ⟨rfl, rfl⟩
  · rw [if_neg h]
    have h' : Dec.okB d = false := by simpa using h
    rw [h']
    clear h
    go_enter Tryd.func27, Tryd.ntmps27
    go_wp2_with (go_at_call 22; refine (sDecOk _ _).mono ?_; rintro r w' ⟨rfl, rfl⟩)
    go_ret2
    exact ⟨rfl, rfl⟩

theorem plus_ok (d e : Int) (w : World) (h1 : -9000000000000 ≤ d) (h2 : d ≤ 9000000000000) (h3 : -9000000000000 ≤ e) (h4 : e ≤ 9000000000000) (h5 : -9000000000000 ≤ d + e) (h6 : d + e ≤ 9000000000000) :
    Calls Tryd.prog 26 #[.int .i64 d, .int .i64 e] w fun r w' => r = .returned (.tuple #[.int .i64 (d + e), .nilIface]) ∧ w' = w := by
  go_enter Tryd.func26, Tryd.ntmps26
  go_wp2_with (first | (go_at_call 39; refine (both_ok _ _ _ h1 h2 h3 h4).mono ?_; rintro r w' ⟨rfl, rfl⟩) | go_in)
  go_ret2
  exact ⟨rfl, rfl⟩

theorem plus_far (d e : Int) (a : Addr) (w : World) (hc : w.cell? ⟨0, 0, none⟩ = some (.iface 69 (.pointer (some a)))) (h1 : -9000000000000 ≤ d) (h2 : d ≤ 9000000000000) (h3 : -9000000000000 ≤ e) (h4 : e ≤ 9000000000000) (h5 : d + e < -9000000000000 ∨ 9000000000000 < d + e) :
    Calls Tryd.prog 26 #[.int .i64 d, .int .i64 e] w fun r w' => r = .returned (.tuple #[.int .i64 0, .iface 69 (.pointer (some a))]) ∧ ∃ n, w' = w.drewN n := by
  go_enter Tryd.func26, Tryd.ntmps26
  go_wp2_with (first | (go_at_call 39; refine (both_ok _ _ _ h1 h2 h3 h4).mono ?_; rintro r w' ⟨rfl, rfl⟩) | (go_at_call 33; refine (checked_bad _ a _ ?_ h5).mono ?_; exact hc; rintro r w' ⟨rfl, n, rfl⟩))
  go_ret2
  exact ⟨rfl, _, rfl⟩

theorem plus_bad (d e : Int) (a : Addr) (w : World) (hc : w.cell? ⟨0, 0, none⟩ = some (.iface 69 (.pointer (some a)))) (h : (d < -9000000000000 ∨ 9000000000000 < d) ∨ (e < -9000000000000 ∨ 9000000000000 < e)) :
    Calls Tryd.prog 26 #[.int .i64 d, .int .i64 e] w fun r w' => r = .returned (.tuple #[.int .i64 0, .iface 69 (.pointer (some a))]) ∧ ∃ n, w' = w.drewN n := by
  have hb := fun w hc => both_bad d e a w hc h
  clear h
  go_enter Tryd.func26, Tryd.ntmps26
  go_wp2_with (go_at_call 39; refine (hb _ ?_).mono ?_; exact hc; rintro r w' ⟨rfl, n, rfl⟩)
  go_ret2
  exact ⟨rfl, _, rfl⟩

/-- DecAdd of the program, at all arguments. -/
theorem iDecAdd (d e : Int) (a : Addr) (w : World) (hc : w.cell? ⟨0, 0, none⟩ = some (.iface 69 (.pointer (some a)))) :
    Calls Tryd.prog 6 #[.int .i64 d, .int .i64 e] w fun r w' => r = .returned (.tuple #[.int .i64 (Dec.addV d e), .bool (Dec.addB d e)]) ∧ ∃ n, w' = w.drewN n := by
  by_cases hd : Dec.okB d = true
  · by_cases he : Dec.okB e = true
    · obtain ⟨h1, h2⟩ := Dec.of_okB hd
      obtain ⟨h3, h4⟩ := Dec.of_okB he
      by_cases hs : Dec.okB (d + e) = true
      · obtain ⟨h5, h6⟩ := Dec.of_okB hs
        have eB : Dec.addB d e = true := by simp [Dec.addB, hd, he, hs]
        have eV : Dec.addV d e = d + e := by simp [Dec.addV, eB]
        rw [eB, eV]
        clear hd he hs eB eV
        go_enter Tryd.func6, Tryd.ntmps6
        go_wp2_with (first | (go_at_call 26; refine (plus_ok _ _ _ h1 h2 h3 h4 h5 h6).mono ?_; rintro r w' ⟨rfl, rfl⟩) | (go_at_call 25; refine (told_ok _ a _ ?_).mono ?_; exact hc; rintro r w' ⟨rfl, rfl⟩))
        go_ret2
        exact ⟨rfl, 0, rfl⟩
      · have hs' : Dec.okB (d + e) = false := by simpa using hs
        have h5 := Dec.of_okB_false hs'
        have eB : Dec.addB d e = false := by simp [Dec.addB, hs']
        have eV : Dec.addV d e = 0 := by simp [Dec.addV, eB]
        rw [eB, eV]
        have hm := fun w hc => plus_far d e a w hc h1 h2 h3 h4 h5
        clear hd he hs hs' eB eV h5
        go_enter Tryd.func6, Tryd.ntmps6
        go_wp2_with (first | (go_at_call 26; refine (hm _ ?_).mono ?_; exact hc; rintro r w' ⟨rfl, n, rfl⟩) | (go_at_call 25; refine (told_bad _ a _ ?_).mono ?_; exact hc; rintro r w' ⟨rfl, rfl⟩))
        go_ret2
        exact ⟨rfl, _, rfl⟩
    · have he' : Dec.okB e = false := by simpa using he
      have eB : Dec.addB d e = false := by simp [Dec.addB, he']
      have eV : Dec.addV d e = 0 := by simp [Dec.addV, eB]
      rw [eB, eV]
      have hm := fun w hc => plus_bad d e a w hc (Or.inr (Dec.of_okB_false he'))
      clear hd he he' eB eV
      go_enter Tryd.func6, Tryd.ntmps6
      go_wp2_with (first | (go_at_call 26; refine (hm _ ?_).mono ?_; exact hc; rintro r w' ⟨rfl, n, rfl⟩) | (go_at_call 25; refine (told_bad _ a _ ?_).mono ?_; exact hc; rintro r w' ⟨rfl, rfl⟩))
      go_ret2
      exact ⟨rfl, _, rfl⟩
  · have hd' : Dec.okB d = false := by simpa using hd
    have eB : Dec.addB d e = false := by simp [Dec.addB, hd']
    have eV : Dec.addV d e = 0 := by simp [Dec.addV, eB]
    rw [eB, eV]
    have hm := fun w hc => plus_bad d e a w hc (Or.inl (Dec.of_okB_false hd'))
    clear hd hd' eB eV
    go_enter Tryd.func6, Tryd.ntmps6
    go_wp2_with (first | (go_at_call 26; refine (hm _ ?_).mono ?_; exact hc; rintro r w' ⟨rfl, n, rfl⟩) | (go_at_call 25; refine (told_bad _ a _ ?_).mono ?_; exact hc; rintro r w' ⟨rfl, rfl⟩))
    go_ret2
    exact ⟨rfl, _, rfl⟩

/-- DecAdd of the specification, at all arguments. -/
theorem sDecAdd (d e : Int) (w : World) :
    Calls Tryd.prog 7 #[.int .i64 d, .int .i64 e] w fun r w' => r = .returned (.tuple #[.int .i64 (Dec.addV d e), .bool (Dec.addB d e)]) ∧ w' = w := by
  by_cases hd : Dec.okB d = true
  · by_cases he : Dec.okB e = true
    · obtain ⟨h1, h2⟩ := Dec.of_okB hd
      obtain ⟨h3, h4⟩ := Dec.of_okB he
      by_cases hs : Dec.okB (d + e) = true
      · have eB : Dec.addB d e = true := by simp [Dec.addB, hd, he, hs]
        have eV : Dec.addV d e = d + e := by simp [Dec.addV, eB]
        rw [eB, eV]
        clear eB eV
        go_enter Tryd.func7, Tryd.ntmps7
        go_wp2_with (first | (go_at_call 22; refine (sDecOk _ _).mono ?_; rintro r w' ⟨rfl, rfl⟩) | (go_at_call 27; refine (sRight _ _).mono ?_; rintro r w' ⟨rfl, rfl⟩))
        go_ret2
        exact ⟨rfl, rfl⟩
      · have hs' : Dec.okB (d + e) = false := by simpa using hs
        have eB : Dec.addB d e = false := by simp [Dec.addB, hs']
        have eV : Dec.addV d e = 0 := by simp [Dec.addV, eB]
        rw [eB, eV]
        clear eB eV hs
        go_enter Tryd.func7, Tryd.ntmps7
        go_wp2_with (first | (go_at_call 22; refine (sDecOk _ _).mono ?_; rintro r w' ⟨rfl, rfl⟩) | (go_at_call 27; refine (sRight _ _).mono ?_; rintro r w' ⟨rfl, rfl⟩))
        go_ret2
        exact ⟨rfl, rfl⟩
    · have he' : Dec.okB e = false := by simpa using he
      have eB : Dec.addB d e = false := by simp [Dec.addB, he']
      have eV : Dec.addV d e = 0 := by simp [Dec.addV, eB]
      rw [eB, eV]
      clear eB eV he
      go_enter Tryd.func7, Tryd.ntmps7
      go_wp2_with (go_at_call 22; refine (sDecOk _ _).mono ?_; rintro r w' ⟨rfl, rfl⟩)
      go_ret2
      exact ⟨rfl, rfl⟩
  · have hd' : Dec.okB d = false := by simpa using hd
    have eB : Dec.addB d e = false := by simp [Dec.addB, hd']
    have eV : Dec.addV d e = 0 := by simp [Dec.addV, eB]
    rw [eB, eV]
    clear eB eV hd
    go_enter Tryd.func7, Tryd.ntmps7
    go_wp2_with (go_at_call 22; refine (sDecOk _ _).mono ?_; rintro r w' ⟨rfl, rfl⟩)
    go_ret2
    exact ⟨rfl, rfl⟩


theorem minus_ok (d e : Int) (w : World) (h1 : -9000000000000 ≤ d) (h2 : d ≤ 9000000000000) (h3 : -9000000000000 ≤ e) (h4 : e ≤ 9000000000000) (h5 : -9000000000000 ≤ d - e) (h6 : d - e ≤ 9000000000000) :
    Calls Tryd.prog 28 #[.int .i64 d, .int .i64 e] w fun r w' => r = .returned (.tuple #[.int .i64 (d - e), .nilIface]) ∧ w' = w := by
  go_enter Tryd.func28, Tryd.ntmps28
  go_wp2_with (first | (go_at_call 39; refine (both_ok _ _ _ h1 h2 h3 h4).mono ?_; rintro r w' ⟨rfl, rfl⟩) | go_in)
  go_ret2
  exact ⟨rfl, rfl⟩

theorem minus_far (d e : Int) (a : Addr) (w : World) (hc : w.cell? ⟨0, 0, none⟩ = some (.iface 69 (.pointer (some a)))) (h1 : -9000000000000 ≤ d) (h2 : d ≤ 9000000000000) (h3 : -9000000000000 ≤ e) (h4 : e ≤ 9000000000000) (h5 : d - e < -9000000000000 ∨ 9000000000000 < d - e) :
    Calls Tryd.prog 28 #[.int .i64 d, .int .i64 e] w fun r w' => r = .returned (.tuple #[.int .i64 0, .iface 69 (.pointer (some a))]) ∧ ∃ n, w' = w.drewN n := by
  go_enter Tryd.func28, Tryd.ntmps28
  go_wp2_with (first | (go_at_call 39; refine (both_ok _ _ _ h1 h2 h3 h4).mono ?_; rintro r w' ⟨rfl, rfl⟩) | (go_at_call 33; refine (checked_bad _ a _ ?_ h5).mono ?_; exact hc; rintro r w' ⟨rfl, n, rfl⟩))
  go_ret2
  exact ⟨rfl, _, rfl⟩

theorem minus_bad (d e : Int) (a : Addr) (w : World) (hc : w.cell? ⟨0, 0, none⟩ = some (.iface 69 (.pointer (some a)))) (h : (d < -9000000000000 ∨ 9000000000000 < d) ∨ (e < -9000000000000 ∨ 9000000000000 < e)) :
    Calls Tryd.prog 28 #[.int .i64 d, .int .i64 e] w fun r w' => r = .returned (.tuple #[.int .i64 0, .iface 69 (.pointer (some a))]) ∧ ∃ n, w' = w.drewN n := by
  have hb := fun w hc => both_bad d e a w hc h
  clear h
  go_enter Tryd.func28, Tryd.ntmps28
  go_wp2_with (go_at_call 39; refine (hb _ ?_).mono ?_; exact hc; rintro r w' ⟨rfl, n, rfl⟩)
  go_ret2
  exact ⟨rfl, _, rfl⟩

/-- DecSub of the program, at all arguments. -/
theorem iDecSub (d e : Int) (a : Addr) (w : World) (hc : w.cell? ⟨0, 0, none⟩ = some (.iface 69 (.pointer (some a)))) :
    Calls Tryd.prog 8 #[.int .i64 d, .int .i64 e] w fun r w' => r = .returned (.tuple #[.int .i64 (Dec.subV d e), .bool (Dec.subB d e)]) ∧ ∃ n, w' = w.drewN n := by
  by_cases hd : Dec.okB d = true
  · by_cases he : Dec.okB e = true
    · obtain ⟨h1, h2⟩ := Dec.of_okB hd
      obtain ⟨h3, h4⟩ := Dec.of_okB he
      by_cases hs : Dec.okB (d - e) = true
      · obtain ⟨h5, h6⟩ := Dec.of_okB hs
        have eB : Dec.subB d e = true := by simp [Dec.subB, hd, he, hs]
        have eV : Dec.subV d e = d - e := by simp [Dec.subV, eB]
        rw [eB, eV]
        clear hd he hs eB eV
        go_enter Tryd.func8, Tryd.ntmps8
        go_wp2_with (first | (go_at_call 28; refine (minus_ok _ _ _ h1 h2 h3 h4 h5 h6).mono ?_; rintro r w' ⟨rfl, rfl⟩) | (go_at_call 25; refine (told_ok _ a _ ?_).mono ?_; exact hc; rintro r w' ⟨rfl, rfl⟩))
        go_ret2
        exact ⟨rfl, 0, rfl⟩
      · have hs' : Dec.okB (d - e) = false := by simpa using hs
        have h5 := Dec.of_okB_false hs'
        have eB : Dec.subB d e = false := by simp [Dec.subB, hs']
        have eV : Dec.subV d e = 0 := by simp [Dec.subV, eB]
        rw [eB, eV]
        have hm := fun w hc => minus_far d e a w hc h1 h2 h3 h4 h5
        clear hd he hs hs' eB eV h5
        go_enter Tryd.func8, Tryd.ntmps8
        go_wp2_with (first | (go_at_call 28; refine (hm _ ?_).mono ?_; exact hc; rintro r w' ⟨rfl, n, rfl⟩) | (go_at_call 25; refine (told_bad _ a _ ?_).mono ?_; exact hc; rintro r w' ⟨rfl, rfl⟩))
        go_ret2
        exact ⟨rfl, _, rfl⟩
    · have he' : Dec.okB e = false := by simpa using he
      have eB : Dec.subB d e = false := by simp [Dec.subB, he']
      have eV : Dec.subV d e = 0 := by simp [Dec.subV, eB]
      rw [eB, eV]
      have hm := fun w hc => minus_bad d e a w hc (Or.inr (Dec.of_okB_false he'))
      clear hd he he' eB eV
      go_enter Tryd.func8, Tryd.ntmps8
      go_wp2_with (first | (go_at_call 28; refine (hm _ ?_).mono ?_; exact hc; rintro r w' ⟨rfl, n, rfl⟩) | (go_at_call 25; refine (told_bad _ a _ ?_).mono ?_; exact hc; rintro r w' ⟨rfl, rfl⟩))
      go_ret2
      exact ⟨rfl, _, rfl⟩
  · have hd' : Dec.okB d = false := by simpa using hd
    have eB : Dec.subB d e = false := by simp [Dec.subB, hd']
    have eV : Dec.subV d e = 0 := by simp [Dec.subV, eB]
    rw [eB, eV]
    have hm := fun w hc => minus_bad d e a w hc (Or.inl (Dec.of_okB_false hd'))
    clear hd hd' eB eV
    go_enter Tryd.func8, Tryd.ntmps8
    go_wp2_with (first | (go_at_call 28; refine (hm _ ?_).mono ?_; exact hc; rintro r w' ⟨rfl, n, rfl⟩) | (go_at_call 25; refine (told_bad _ a _ ?_).mono ?_; exact hc; rintro r w' ⟨rfl, rfl⟩))
    go_ret2
    exact ⟨rfl, _, rfl⟩

/-- DecSub of the specification, at all arguments. -/
theorem sDecSub (d e : Int) (w : World) :
    Calls Tryd.prog 16 #[.int .i64 d, .int .i64 e] w fun r w' => r = .returned (.tuple #[.int .i64 (Dec.subV d e), .bool (Dec.subB d e)]) ∧ w' = w := by
  by_cases hd : Dec.okB d = true
  · by_cases he : Dec.okB e = true
    · obtain ⟨h1, h2⟩ := Dec.of_okB hd
      obtain ⟨h3, h4⟩ := Dec.of_okB he
      by_cases hs : Dec.okB (d - e) = true
      · have eB : Dec.subB d e = true := by simp [Dec.subB, hd, he, hs]
        have eV : Dec.subV d e = d - e := by simp [Dec.subV, eB]
        rw [eB, eV]
        clear eB eV
        go_enter Tryd.func16, Tryd.ntmps16
        go_wp2_with (first | (go_at_call 22; refine (sDecOk _ _).mono ?_; rintro r w' ⟨rfl, rfl⟩) | (go_at_call 27; refine (sRight _ _).mono ?_; rintro r w' ⟨rfl, rfl⟩))
        go_ret2
        exact ⟨rfl, rfl⟩
      · have hs' : Dec.okB (d - e) = false := by simpa using hs
        have eB : Dec.subB d e = false := by simp [Dec.subB, hs']
        have eV : Dec.subV d e = 0 := by simp [Dec.subV, eB]
        rw [eB, eV]
        clear eB eV hs
        go_enter Tryd.func16, Tryd.ntmps16
        go_wp2_with (first | (go_at_call 22; refine (sDecOk _ _).mono ?_; rintro r w' ⟨rfl, rfl⟩) | (go_at_call 27; refine (sRight _ _).mono ?_; rintro r w' ⟨rfl, rfl⟩))
        go_ret2
        exact ⟨rfl, rfl⟩
    · have he' : Dec.okB e = false := by simpa using he
      have eB : Dec.subB d e = false := by simp [Dec.subB, he']
      have eV : Dec.subV d e = 0 := by simp [Dec.subV, eB]
      rw [eB, eV]
      clear eB eV he
      go_enter Tryd.func16, Tryd.ntmps16
      go_wp2_with (go_at_call 22; refine (sDecOk _ _).mono ?_; rintro r w' ⟨rfl, rfl⟩)
      go_ret2
      exact ⟨rfl, rfl⟩
  · have hd' : Dec.okB d = false := by simpa using hd
    have eB : Dec.subB d e = false := by simp [Dec.subB, hd']
    have eV : Dec.subV d e = 0 := by simp [Dec.subV, eB]
    rw [eB, eV]
    clear eB eV hd
    go_enter Tryd.func16, Tryd.ntmps16
    go_wp2_with (go_at_call 22; refine (sDecOk _ _).mono ?_; rintro r w' ⟨rfl, rfl⟩)
    go_ret2
    exact ⟨rfl, rfl⟩


end Go.Proofs.YtoaahcpmmkngjadDoor
