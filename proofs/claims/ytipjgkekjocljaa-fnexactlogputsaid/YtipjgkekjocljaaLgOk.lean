/-
  LogOk: the program's and the specification's; the law FnExactLogOk at every log.
-/
import Derived.Test.YtipjgkekjocljaaLgMath
namespace Go.Proofs.Ytipjgkekjocljaa
open Go.RowKit
namespace Lg
open Oc (hold Blk)
set_option linter.unusedSimpArgs false
set_option linter.unusedVariables false

theorem drop_at {α : Type} {L : List α} {k : Nat} (h : k < L.length) : L.drop k = L[k] :: L.drop (k + 1) := List.drop_eq_getElem_cons h

theorem iIsIndex (i : Int) (w : World) : Calls Try.prog 23 #[.int .i64 i] w fun e w' => e = .returned (.bool (decide (0 ≤ i ∧ i ≤ 300))) ∧ w' = w := by
  obtain ⟨R, hR⟩ : ∃ R, R = decide (0 ≤ i ∧ i ≤ 300) := ⟨_, rfl⟩
  rw [← hR]
  by_cases h0 : 0 ≤ i
  · have H : Hid (R = decide (i ≤ 300)) := hR.trans (decide_eq_decide.2 (by omega))
    clear hR
    go_enter Try.func23, Try.ntmps23
    go_wp2_with fail
    go_ret
    exact ⟨by rw [H.out] <;> simp, rfl⟩
  · have H : Hid (R = false) := hR.trans (decide_eq_false fun h => h0 h.1)
    clear hR
    go_enter Try.func23, Try.ntmps23
    go_wp2_with fail
    go_ret
    exact ⟨by rw [H.out] <;> simp, rfl⟩

set_option maxHeartbeats 1000000 in
set_option maxRecDepth 100000 in
theorem iEntriesOk {ao : Option Addr} {cap : Nat} {vs : List En} {t : Int} {w : World} (hA : RdE w ao vs) (hs : ∀ v ∈ vs, SmE v) (hn : vs.length ≤ 4194304) :
    Calls Try.prog 24 #[.slice ao vs.length cap, .int .i64 t] w fun e w' => e = .returned (.bool (entriesB t vs)) ∧ Below w.heap.size w w' := by
  have bn : (vs.length : Int) ≤ 4194304 := by omega
  obtain ⟨R, hR⟩ : ∃ R, R = entriesB t vs := ⟨_, rfl⟩
  rw [← hR]
  have HR : Hid (R = entriesB t (vs.drop 0)) := hR
  clear hR
  go_enter Try.func24, Try.ntmps24
  go_wp2_with fail
  go_loopw [1, 9] (fun tv i wr => ∃ (tm : Int) (k : Nat), tv = .int .i64 tm ∧ i = .int .i64 k ∧ k ≤ vs.length ∧ Hid (R = entriesB tm (vs.drop k)) ∧ Below w.heap.size w wr) (fun _ i _ => vs.length - (intOf i).toNat)
  case atStart => exact ⟨t, 0, rfl, rfl, Nat.zero_le _, HR, Below.refl _ _⟩
  case round =>
    clear HR
    obtain ⟨tm, k, rfl, rfl, hk, HR, hb⟩ := hrel
    by_cases hkl : k < vs.length
    · have hvk : vs[k]? = some vs[k] := List.getElem?_eq_getElem hkl
      obtain ⟨b, o, rfl, hbl, hss, c0, c1, c2, c3⟩ := hA.below hb k vs[k] hvk
      have hsm := hs vs[k] (List.getElem_mem hkl)
      have hr := HR.out
      rw [drop_at hkl] at hr
      clear HR
      generalize vs[k] = v at *
      have call := fun w => Mc.iCmdOk v.2.1 v.2.2.1 v.2.2.2 w (by unfold SmE at hsm; omega)
      obtain ⟨rest, hrest⟩ : ∃ rest, rest = vs.drop (k + 1) := ⟨_, rfl⟩
      rw [← hrest] at hr
      have HE : Hid (rest = vs.drop (k + 1)) := hrest
      clear hrest hvk hsm
      unfold entriesB at hr
      have hb' : ∀ o, Below w.heap.size w (wr.alloc o) := fun o => hb.alloc hb.size o
      by_cases h1 : tm ≤ v.1
      · rw [decide_eq_true h1, Bool.true_and] at hr
        by_cases h2 : v.1 ≤ 300
        · rw [decide_eq_true h2, Bool.true_and] at hr
          generalize Mc.cmdB v.2.1 v.2.2.1 v.2.2.2 = C at *
          cases C
          · have H : Hid (R = false) := hr
            clear hr
            go_wp2_with (go_at_call 39; refine (call _).mono ?_; rintro e w2 ⟨rfl, hb2⟩; have B2 := (hb' _).trans (hb2.mono (hb' _).size))
            go_ret
            exact ⟨by rw [H.out] <;> simp, B2⟩
          · have H : Hid (R = entriesB v.1 rest) := hr
            clear hr
            go_wp2_with (go_at_call 39; refine (call _).mono ?_; rintro e w2 ⟨rfl, hb2⟩; have B2 := (hb' _).trans (hb2.mono (hb' _).size); have d0 := (hb2.cell (p := ⟨wr.heap.size, 0, none⟩) (by simp)))
            go_roundw
            case rel => exact ⟨v.1, k + 1, rfl, by go_num, hkl, by have h1 := H.out; have h2 := HE.out; rw [h2] at h1; exact h1, B2⟩
            case measure => simp [intOf]; omega
        · have H : Hid (R = false) := hr.trans (by rw [decide_eq_false h2]; rfl)
          clear hr call
          go_wp2_with fail
          go_ret
          exact ⟨by rw [H.out] <;> simp, hb' _⟩
      · have H : Hid (R = false) := hr.trans (by rw [decide_eq_false h1]; rfl)
        clear hr call
        go_wp2_with fail
        go_ret
        exact ⟨by rw [H.out] <;> simp, hb' _⟩
    · obtain rfl : k = vs.length := by omega
      have H : Hid (R = true) := HR.out.trans (by rw [List.drop_length]; rfl)
      clear HR
      go_wp2_with fail
      go_ret
      exact ⟨by rw [H.out] <;> simp, hb⟩

set_option maxHeartbeats 1000000 in
set_option maxRecDepth 100000 in
theorem iLogOk {ao : Option Addr} {cap : Nat} {vs : List En} {b t : Int} {w : World} (hA : RdE w ao vs) (hs : ∀ v ∈ vs, SmE v) (hn : vs.length ≤ 4194304) :
    Calls Try.prog 9 #[aggL b t ao vs.length cap] w fun e w' => e = .returned (.bool (logB b t vs)) ∧ Below w.heap.size w w' := by
  have b0 : ∀ o, Below w.heap.size w (w.alloc o) := fun o => (Below.refl _ w).alloc (Nat.le_refl _) o
  have call := fun o => iEntriesOk (cap := cap) (t := t) (hA.below (b0 o)) hs hn
  have bn : (vs.length : Int) ≤ 4194304 := by omega
  obtain ⟨R, hR⟩ : ∃ R, R = logB b t vs := ⟨_, rfl⟩
  rw [← hR]
  unfold logB at hR
  generalize entriesB t vs = E at *
  clear hA hs
  have ci := fun i w => iIsIndex i w
  by_cases h1 : 0 ≤ b ∧ b ≤ 300
  · have d1 : decide (0 ≤ b ∧ b ≤ 300) = true := decide_eq_true h1
    obtain ⟨g1, g2⟩ := h1
    rw [d1, Bool.true_and] at hR
    by_cases h2 : 0 ≤ t ∧ t ≤ 300
    · have d2 : decide (0 ≤ t ∧ t ≤ 300) = true := decide_eq_true h2
      rw [d2, Bool.true_and] at hR
      by_cases h3 : (vs.length : Int) ≤ 300 - b
      · have H : Hid (R = E) := hR.trans (by rw [decide_eq_true h3, Bool.true_and])
        clear hR
        go_enter Try.func9, Try.ntmps9
        go_wp2_with (first | (go_at_call 23; refine (ci _ _).mono ?_; rintro e w2 ⟨rfl, hw⟩; have hw := hw.symm; subst hw) | (go_at_call 24; refine (call _).mono ?_; rintro e w2 ⟨rfl, hb2⟩; have B2 := (b0 _).trans (hb2.mono (b0 _).size)))
        go_ret
        exact ⟨by rw [H.out] <;> simp, B2⟩
      · have H : Hid (R = false) := hR.trans (by rw [decide_eq_false h3]; rfl)
        clear hR
        go_enter Try.func9, Try.ntmps9
        go_wp2_with (first | (go_at_call 23; refine (ci _ _).mono ?_; rintro e w2 ⟨rfl, hw⟩; have hw := hw.symm; subst hw))
        go_ret
        exact ⟨by rw [H.out] <;> simp, b0 _⟩
    · have d2 : decide (0 ≤ t ∧ t ≤ 300) = false := decide_eq_false h2
      have H : Hid (R = false) := hR.trans (by rw [d2]; rfl)
      clear hR h2
      go_enter Try.func9, Try.ntmps9
      go_wp2_with (first | (go_at_call 23; refine (ci _ _).mono ?_; rintro e w2 ⟨rfl, hw⟩; have hw := hw.symm; subst hw))
      go_ret
      exact ⟨by rw [H.out] <;> simp, b0 _⟩
  · have d1 : decide (0 ≤ b ∧ b ≤ 300) = false := decide_eq_false h1
    have H : Hid (R = false) := hR.trans (by rw [d1]; rfl)
    clear hR h1
    go_enter Try.func9, Try.ntmps9
    go_wp2_with (first | (go_at_call 23; refine (ci _ _).mono ?_; rintro e w2 ⟨rfl, hw⟩; have hw := hw.symm; subst hw))
    go_ret
    exact ⟨by rw [H.out] <;> simp, b0 _⟩

set_option maxHeartbeats 2000000 in
set_option maxRecDepth 100000 in
theorem sLogOk {ao : Option Addr} {cap : Nat} {vs : List En} {b t : Int} {w : World} (hA : RdE w ao vs) (hs : ∀ v ∈ vs, SmE v) (hn : vs.length ≤ 4194304) :
    Calls Try.prog 7 #[aggL b t ao vs.length cap] w fun e w' => e = .returned (.bool (logB b t vs)) ∧ Below w.heap.size w w' := by
  have b0 : ∀ o, Below w.heap.size w (w.alloc o) := fun o => (Below.refl _ w).alloc (Nat.le_refl _) o
  have bn : (vs.length : Int) ≤ 4194304 := by omega
  obtain ⟨R, hR⟩ : ∃ R, R = logB b t vs := ⟨_, rfl⟩
  rw [← hR]
  unfold logB at hR
  have c1 := fun w => Mc.sIn b 0 300 w
  have c2 := fun w => Mc.sIn t 0 300 w
  by_cases h1 : 0 ≤ b ∧ b ≤ 300
  · have d1 : decide (0 ≤ b ∧ b ≤ 300) = true := decide_eq_true h1
    obtain ⟨g1, g2⟩ := h1
    rw [d1, Bool.true_and] at hR
    by_cases h2 : 0 ≤ t ∧ t ≤ 300
    · have d2 : decide (0 ≤ t ∧ t ≤ 300) = true := decide_eq_true h2
      rw [d2, Bool.true_and] at hR
      by_cases h3 : (vs.length : Int) ≤ 300 - b
      · have HR : Hid (R = entriesB t (vs.drop 0)) := hR.trans (by rw [decide_eq_true h3, Bool.true_and]; rfl)
        have hK : Hid (Blk 29 (w.alloc (.cells #[.int .i64 b, .int .i64 t, .slice ao vs.length cap] 29)) w.heap.size [.int .i64 b, .int .i64 t, .slice ao vs.length cap]) := Blk.new _ _ _
        clear hR
        go_enter Try.func7, Try.ntmps7
        go_wp2_with (first | (go_at_call 21; first | (with_reducible refine (c1 _).mono ?_; rintro e w2 ⟨rfl, hw⟩; have hw := hw.symm; subst hw) | (with_reducible refine (c2 _).mono ?_; rintro e w2 ⟨rfl, hw⟩; have hw := hw.symm; subst hw)))
        go_loopw [3, 4] (fun tv i wr => ∃ (tm : Int) (k : Nat), tv = .int .i64 tm ∧ i = .int .i64 k ∧ k ≤ vs.length ∧ Hid (R = entriesB tm (vs.drop k)) ∧ Below w.heap.size w wr ∧ Hid (Blk 29 wr w.heap.size [.int .i64 b, .int .i64 t, .slice ao vs.length cap])) (fun _ i _ => vs.length - (intOf i).toNat)
        case atStart => exact ⟨t, 0, rfl, rfl, Nat.zero_le _, HR, b0 _, hK⟩
        case round =>
          clear HR hK c1 c2
          obtain ⟨tm, k, rfl, rfl, hk, HR, hb, hK⟩ := hrel
          have z0 := hK.out.cell 2 rfl
          by_cases hkl : k < vs.length
          · have hvk : vs[k]? = some vs[k] := List.getElem?_eq_getElem hkl
            obtain ⟨b', o, rfl, hbl, hss, p0, p1, p2, p3⟩ := hA.below hb k vs[k] hvk
            have hsm := hs vs[k] (List.getElem_mem hkl)
            have hr := HR.out
            rw [drop_at hkl] at hr
            clear HR
            generalize vs[k] = v at *
            have call := Mc.sCmdOk v.2.1 v.2.2.1 v.2.2.2 wr (by unfold SmE at hsm; omega)
            have ci := fun w => Mc.sIn v.1 tm 300 w
            obtain ⟨rest, hrest⟩ : ∃ rest, rest = vs.drop (k + 1) := ⟨_, rfl⟩
            rw [← hrest] at hr
            have HE : Hid (rest = vs.drop (k + 1)) := hrest
            clear hrest hvk hsm
            unfold entriesB at hr
            rw [← Bool.and_assoc, show (decide (tm ≤ v.1) && decide (v.1 ≤ 300)) = decide (tm ≤ v.1 ∧ v.1 ≤ 300) from (Bool.decide_and ..).symm] at hr
            generalize decide (tm ≤ v.1 ∧ v.1 ≤ 300) = X at *
            generalize Mc.cmdB v.2.1 v.2.2.1 v.2.2.2 = C at *
            have hbl2 := hbl
            cases X
            · have H : Hid (R = false) := hr
              clear hr call
              go_wp2_with (go_at_call 21; refine (ci _).mono ?_; rintro e w2 ⟨rfl, hw⟩; have hw := hw.symm; subst hw)
              go_ret
              exact ⟨by rw [H.out] <;> simp, hb⟩
            · cases C
              · have H : Hid (R = false) := hr
                clear hr
                go_wp2_with (first | (go_at_call 21; refine (ci _).mono ?_; rintro e w2 ⟨rfl, hw⟩; have hw := hw.symm; subst hw) | (go_at_call 22; refine call.mono ?_; rintro e w2 ⟨rfl, hb2⟩; have B2 := hb.trans (hb2.mono hb.size)))
                go_ret
                exact ⟨by rw [H.out] <;> simp, B2⟩
              · have H : Hid (R = entriesB v.1 rest) := hr
                clear hr
                have hkK := hK.out.lt
                go_wp2_with (first | (go_at_call 21; refine (ci _).mono ?_; rintro e w2 ⟨rfl, hw⟩; have hw := hw.symm; subst hw) | (go_at_call 22; refine call.mono ?_; rintro e w2 ⟨rfl, hb2⟩; have B2 := hb.trans (hb2.mono hb.size); have d0 := (hb2.cell (p := ⟨b', o + k * 4, none⟩) hbl).trans p0; have z1 := (hb2.cell (p := ⟨w.heap.size, 2, none⟩) hkK).trans z0))
                go_roundw
                case rel => exact ⟨v.1, k + 1, rfl, by go_num, hkl, by have h1 := H.out; have h2 := HE.out; rw [h2] at h1; exact h1, B2, hK.out.below hb2⟩
                case measure => simp [intOf]; omega
          · obtain rfl : k = vs.length := by omega
            have H : Hid (R = true) := HR.out.trans (by rw [List.drop_length]; rfl)
            clear HR
            go_wp2_with fail
            go_ret
            exact ⟨by rw [H.out] <;> simp, hb⟩
      · have H : Hid (R = false) := hR.trans (by rw [decide_eq_false h3]; rfl)
        clear hR
        go_enter Try.func7, Try.ntmps7
        go_wp2_with (first | (go_at_call 21; first | (with_reducible refine (c1 _).mono ?_; rintro e w2 ⟨rfl, hw⟩; have hw := hw.symm; subst hw) | (with_reducible refine (c2 _).mono ?_; rintro e w2 ⟨rfl, hw⟩; have hw := hw.symm; subst hw)))
        go_ret
        exact ⟨by rw [H.out] <;> simp, b0 _⟩
    · have d2 : decide (0 ≤ t ∧ t ≤ 300) = false := decide_eq_false h2
      have H : Hid (R = false) := hR.trans (by rw [d2]; rfl)
      clear hR h2
      go_enter Try.func7, Try.ntmps7
      go_wp2_with (first | (go_at_call 21; first | (with_reducible refine (c1 _).mono ?_; rintro e w2 ⟨rfl, hw⟩; have hw := hw.symm; subst hw) | (with_reducible refine (c2 _).mono ?_; rintro e w2 ⟨rfl, hw⟩; have hw := hw.symm; subst hw)))
      go_ret
      exact ⟨by rw [H.out] <;> simp, b0 _⟩
  · have d1 : decide (0 ≤ b ∧ b ≤ 300) = false := decide_eq_false h1
    have H : Hid (R = false) := hR.trans (by rw [d1]; rfl)
    clear hR h1
    go_enter Try.func7, Try.ntmps7
    go_wp2_with (first | (go_at_call 21; first | (with_reducible refine (c1 _).mono ?_; rintro e w2 ⟨rfl, hw⟩; have hw := hw.symm; subst hw) | (with_reducible refine (c2 _).mono ?_; rintro e w2 ⟨rfl, hw⟩; have hw := hw.symm; subst hw)))
    go_ret
    exact ⟨by rw [H.out] <;> simp, b0 _⟩

end Lg
end Go.Proofs.Ytipjgkekjocljaa
