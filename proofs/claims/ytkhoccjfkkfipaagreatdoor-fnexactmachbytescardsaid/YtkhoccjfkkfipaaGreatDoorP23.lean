/-
  The specification's DecFront and DecLooks.
-/
import Derived.Test.YtkhoccjfkkfipaaGreatDoorP21
import Derived.Deep.CutRange
import Derived.Deep.CutBlock
import Derived.Deep.DeepCutAuto
import Derived.Deep.LoopGhost
namespace Go.Proofs.YtkhoccjfkkfipaaGreatDoor
open Go.RowKit Go.Extern.Stop Go.Stop Go.Extern

theorem sL2Digit (b : UInt8) (w : World) : Calls Tryz.prog 123 #[.int .u8 (b.toNat : Int)] w fun e w' => e = .returned (.bool (Num.digB b)) ∧ w' = w := by
  by_cases h1 : (48 : Int) ≤ (b.toNat : Int)
  · by_cases h2 : (b.toNat : Int) ≤ 57
    · have e : Num.digB b = true := by simp [Num.digB]; omega
      rw [e]
      go_enter Tryz.func123, Tryz.ntmps123
      go_wp2
      go_ret
      exact ⟨rfl, rfl⟩
    · have e : Num.digB b = false := by simp [Num.digB]; omega
      have hd : decide ((b.toNat : Int) ≤ 57) = false := by simpa using h2
      rw [e]
      go_enter Tryz.func123, Tryz.ntmps123
      go_wp2
      go_ret
      exact ⟨rfl, rfl⟩
  · have e : Num.digB b = false := by simp [Num.digB]; omega
    rw [e]
    go_enter Tryz.func123, Tryz.ntmps123
    go_wp2
    go_ret
    exact ⟨rfl, rfl⟩
theorem ret_two {a b : Int} {c d : Nat} (h1 : a = b) (h2 : c = d) : Ending.returned (.tuple #[.int .i64 a, .int .i64 (c : Int)]) = .returned (.tuple #[.int .i64 b, .int .i64 (d : Int)]) := by rw [h1, h2]

theorem bool_no {b : Bool} {p : Prop} (h : b = true ↔ p) (hp : ¬ p) : Value.bool false = Value.bool b := by
  cases b with
  | false => rfl
  | true => exact absurd (h.mp rfl) hp
theorem bool_yes {b : Bool} {p : Prop} (h : b = true ↔ p) (hp : p) : Value.bool true = Value.bool b := by rw [h.mpr hp]
theorem int_nat {a : Int} {b : Nat} (h : a = b) : Value.int .i64 a = Value.int .i64 (b : Int) := by rw [h]
theorem int_int {a b : Int} (h : a = b) : Value.int .i64 a = Value.int .i64 b := by rw [h]

/-- What is known of the front of a text, place by place. -/
structure Front (s : ByteArray) (k j m q A : Nat) (nb sg fr bad : Bool) (N0 N1 C1 : Int) : Prop where
  hs : (s.size : Int) ≤ 9223372036854775806
  hk : ∀ i, i < k → ∃ h : i < s.size, (s[i].toNat : Int) = 32
  hkl : k ≤ s.size
  hke : ∀ h : k < s.size, ¬ (s[k].toNat : Int) = 32
  hnb : nb = true ↔ ∃ h : k < s.size, (s[k].toNat : Int) = 45
  hsg : sg = true ↔ ∃ h : k < s.size, (s[k].toNat : Int) = 45 ∨ (s[k].toNat : Int) = 43
  hj1 : sg = true → j = k + 1
  hj0 : sg = false → j = k
  hm : ∀ i, j ≤ i → i < m → ∃ h : i < s.size, Num.digB s[i] = true
  hjm : j ≤ m
  hml : m ≤ s.size
  hme : ∀ h : m < s.size, Num.digB s[m] = false
  hN0 : Num.satN 0 ((s.data.toList.drop j).takeWhile Num.digB) = N0
  hN0b : 0 ≤ N0 ∧ N0 ≤ 90000009000000
  hM : (s.data.toList.drop m).takeWhile Num.digB = []
  hfr : fr = true ↔ ∃ h : m + 1 < s.size, (s[m].toNat : Int) = 46 ∧ Num.digB s[m + 1] = true
  hq : fr = true → m + 1 < q ∧ q ≤ s.size
  hqd : ∀ i, m + 1 ≤ i → i < q → ∃ h : i < s.size, Num.digB s[i] = true
  hqe : ∀ h : q < s.size, Num.digB s[q] = false
  hN1 : fr = true → Num.fracN N0 100000 ((s.data.toList.drop (m + 1)).takeWhile Num.digB) = N1
  hQ : (s.data.toList.drop q).takeWhile Num.digB = []
  hA1 : fr = true → A = q ∧ C1 = (q : Int) - 1 - j
  hA0 : fr = false → A = m ∧ C1 = (m : Int) - j ∧ N1 = N0
  hbad : bad = true ↔ C1 = 0 ∨ 9000000000000 < N1
  hN1b : N1 ≤ 90000010000000 ∧ 0 ≤ N1

set_option maxRecDepth 100000 in
set_option maxHeartbeats 4000000 in
theorem sFrontWalk (s : ByteArray) (w : World) (k j m q A : Nat) (nb sg fr bad : Bool) (N0 N1 C1 : Int) (HF : Hid (Front s k j m q A nb sg fr bad N0 N1 C1)) :
    Calls Tryz.prog 104 #[.string s] w fun e w' => e = .returned (.tuple #[.int .i64 (if bad then 0 else if nb then 0 - N1 else N1), .int .i64 (if bad then 0 else (A : Int))]) ∧ w' = w := by
  have hs := HF.out.hs
  have hkl := HF.out.hkl
  have hml := HF.out.hml
  have hjm := HF.out.hjm
  go_enter Tryz.func104, Tryz.ntmps104
  go_upto_block 0 with fail
  go_cut [4] (fun v wx => v = .int .i64 (k : Int) ∧ w = wx)
  case first =>
    go_wp2_with fail
    go_loop [4] (fun v => ∃ i : Nat, i ≤ k ∧ v = .int .i64 i) (fun v => s.size - (intOf v).toNat)
    case atStart => exact ⟨0, Nat.zero_le _, rfl⟩
    case round =>
      obtain ⟨i, hi, rfl⟩ := hrel
      by_cases hlt : i < k
      · obtain ⟨hq, hb⟩ := HF.out.hk i hlt
        go_wp2
        go_round
        case rel => exact ⟨i + 1, by omega, by go_num⟩
        case measure => simp [intOf]; omega
      · have he : k = i := by omega
        subst he
        by_cases hq : k < s.size
        · have hb := HF.out.hke hq
          have hb' : ((s[k].toNat : Int) == 32) = false := by simp [hb]
          go_wp2
          go_meet
          exact ⟨rfl, rfl⟩
        · go_wp2
          go_meet
          exact ⟨rfl, rfl⟩
  case rest =>
    obtain ⟨rfl, rfl⟩ := hcut
    go_upto_region 4 with fail
    go_cut [5] (fun v wx => v = .bool nb ∧ w = wx)
    case first =>
      by_cases hq : k < s.size
      · by_cases hb : (s[k].toNat : Int) = 45
        · go_wp2_with fail
          go_meet
          exact ⟨bool_yes HF.out.hnb ⟨hq, hb⟩, rfl⟩
        · have hb' : ((s[k].toNat : Int) == 45) = false := by simp [hb]
          go_wp2_with fail
          go_meet
          exact ⟨bool_no HF.out.hnb (fun ⟨_, h⟩ => hb h), rfl⟩
      · go_wp2_with fail
        go_meet
        exact ⟨bool_no HF.out.hnb (fun ⟨h, _⟩ => hq h), rfl⟩
    case rest =>
      obtain ⟨rfl, rfl⟩ := hcut
      go_upto_region 5 with fail
      go_cut [46] (fun v wx => v = .bool sg ∧ w = wx)
      case first =>
        by_cases hq : k < s.size
        · by_cases hb : (s[k].toNat : Int) = 45
          · go_wp2_with fail
            go_meet
            exact ⟨bool_yes HF.out.hsg ⟨hq, Or.inl hb⟩, rfl⟩
          · have hb' : ((s[k].toNat : Int) == 45) = false := by simp [hb]
            by_cases hc : (s[k].toNat : Int) = 43
            · go_wp2_with fail
              go_meet
              exact ⟨bool_yes HF.out.hsg ⟨hq, Or.inr hc⟩, rfl⟩
            · have hc' : ((s[k].toNat : Int) == 43) = false := by simp [hc]
              go_wp2_with fail
              go_meet
              exact ⟨bool_no HF.out.hsg (fun ⟨_, h⟩ => h.elim hb hc), rfl⟩
        · go_wp2_with fail
          go_meet
          exact ⟨bool_no HF.out.hsg (fun ⟨h, _⟩ => hq h), rfl⟩
      case rest =>
        obtain ⟨rfl, rfl⟩ := hcut
        go_upto_if 46 with fail
        go_cut [4] (fun v wx => v = .int .i64 (j : Int) ∧ w = wx)
        case first =>
          cases sg with
          | true =>
            have hj : Hid (j = k + 1) := HF.out.hj1 rfl
            have hq : k < s.size := (HF.out.hsg.mp rfl).1
            go_wp2_with fail
            go_meet
            exact ⟨int_nat (by rw [hj.out]; omega), rfl⟩
          | false =>
            have hj : Hid (j = k) := HF.out.hj0 rfl
            go_wp2_with fail
            go_meet
            exact ⟨int_nat (by rw [hj.out]), rfl⟩
        case rest =>
          obtain ⟨rfl, rfl⟩ := hcut
          go_upto_block 2 with fail
          go_cut [4, 6, 7] (fun v n c wx => v = .int .i64 (m : Int) ∧ n = .int .i64 N0 ∧ c = .int .i64 ((m : Int) - j) ∧ w = wx)
          case first =>
            go_wp2_with fail
            go_loop [4, 6, 7] (fun v n c => ∃ (i : Nat) (nn cc : Int), j ≤ i ∧ i ≤ m ∧ v = .int .i64 i ∧ n = .int .i64 nn ∧ c = .int .i64 cc ∧ cc = (i : Int) - j ∧ 0 ≤ nn ∧ nn ≤ 90000009000000 ∧ Num.satN nn ((s.data.toList.drop i).takeWhile Num.digB) = N0) (fun v _ _ => s.size - (intOf v).toNat)
            case atStart => exact ⟨j, 0, 0, Nat.le_refl _, hjm, rfl, rfl, rfl, by omega, by decide, by decide, HF.out.hN0⟩
            case round =>
              obtain ⟨i, nn, cc, hi1, hi2, rfl, rfl, rfl, hcc, hn1, hn2, hsat⟩ := hrel
              have HC : Hid (cc = (i : Int) - j) := hcc
              have HS : Hid (Num.satN nn ((s.data.toList.drop i).takeWhile Num.digB) = N0) := hsat
              clear hcc hsat
              by_cases hlt : i < m
              · obtain ⟨hq, hb⟩ := HF.out.hm i hi1 hlt
                have hc1 : 0 ≤ cc := by rw [HC.out]; omega
                have hc2 : cc < 9223372036854775806 := by rw [HC.out]; omega
                have hx1 : (48 : Int) ≤ (s[i].toNat : Int) := by have := (Num.dv_bd hb).1; unfold Num.dv at this; omega
                have hx2 : (s[i].toNat : Int) ≤ 57 := by have := (Num.dv_bd hb).2; unfold Num.dv at this; omega
                have HT : Hid ((s.data.toList.drop i).takeWhile Num.digB = s[i] :: (s.data.toList.drop (i + 1)).takeWhile Num.digB) := Num.take_on (by simpa using hq) hb
                by_cases hn : nn ≤ 9000000000000
                · go_wp2_with (go_at_call 123; refine (sL2Digit _ _).mono ?_; rintro e w' ⟨rfl, hw⟩; have hw := hw.symm; subst hw)
                  go_round
                  case rel => exact ⟨i + 1, _, _, by omega, by omega, by go_num, rfl, rfl, by have := HC.out; omega, by omega, by omega, by rw [← HS.out, HT.out]; simp only [Num.satN, if_pos hn]; rfl⟩
                  case measure => simp [intOf]; omega
                · go_wp2_with (go_at_call 123; refine (sL2Digit _ _).mono ?_; rintro e w' ⟨rfl, hw⟩; have hw := hw.symm; subst hw)
                  go_round
                  case rel => exact ⟨i + 1, _, _, by omega, by omega, by go_num, rfl, rfl, by have := HC.out; omega, by omega, by omega, by rw [← HS.out, HT.out]; simp only [Num.satN, if_neg (show ¬ nn ≤ 9000000000000 by omega)]⟩
                  case measure => simp [intOf]; omega
              · have he : m = i := by omega
                subst he
                have HN : Hid (nn = N0) := by
                  have h := HS.out
                  rw [HF.out.hM] at h; exact h
                by_cases hq : m < s.size
                · have hdg := HF.out.hme hq
                  go_wp2_with (go_at_call 123; refine (sL2Digit _ _).mono ?_; rintro e w' ⟨rfl, hw⟩; have hw := hw.symm; subst hw)
                  go_meet
                  exact ⟨rfl, int_int HN.out, int_int HC.out, rfl⟩
                · go_wp2_with (go_at_call 123; refine (sL2Digit _ _).mono ?_; rintro e w' ⟨rfl, hw⟩; have hw := hw.symm; subst hw)
                  go_meet
                  exact ⟨rfl, int_int HN.out, int_int HC.out, rfl⟩
          case rest =>
            obtain ⟨rfl, rfl, rfl, rfl⟩ := hcut
            go_upto_region 13 with fail
            go_cut [91] (fun v wx => v = .bool fr ∧ w = wx)
            case first =>
              by_cases hq1 : m + 1 < s.size
              · have hq : m < s.size := by omega
                have hq1' : (m : Int) + 1 < (s.size : Int) := by omega
                by_cases hb : (s[m].toNat : Int) = 46
                · cases hd : Num.digB s[m + 1] with
                  | true =>
                    go_wp2_with (go_at_call 123; refine (sL2Digit _ _).mono ?_; rintro e w' ⟨rfl, hw⟩; have hw := hw.symm; subst hw)
                    go_meet
                    exact ⟨bool_yes HF.out.hfr ⟨hq1, hb, hd⟩, rfl⟩
                  | false =>
                    go_wp2_with (go_at_call 123; refine (sL2Digit _ _).mono ?_; rintro e w' ⟨rfl, hw⟩; have hw := hw.symm; subst hw)
                    go_meet
                    exact ⟨bool_no HF.out.hfr (fun ⟨_, _, h⟩ => by rw [hd] at h; cases h), rfl⟩
                · have hb' : ((s[m].toNat : Int) == 46) = false := by simp [hb]
                  go_wp2_with (go_at_call 123; refine (sL2Digit _ _).mono ?_; rintro e w' ⟨rfl, hw⟩; have hw := hw.symm; subst hw)
                  go_meet
                  exact ⟨bool_no HF.out.hfr (fun ⟨_, h, _⟩ => hb h), rfl⟩
              · have hq1' : ¬ (m : Int) + 1 < (s.size : Int) := by omega
                go_wp2_with (go_at_call 123; refine (sL2Digit _ _).mono ?_; rintro e w' ⟨rfl, hw⟩; have hw := hw.symm; subst hw)
                go_meet
                exact ⟨bool_no HF.out.hfr (fun ⟨h, _⟩ => hq1 h), rfl⟩
            case rest =>
              obtain ⟨rfl, rfl⟩ := hcut
              go_upto_if 91 with fail
              go_cut [4, 6, 7] (fun v n c wx => v = .int .i64 (A : Int) ∧ n = .int .i64 N1 ∧ c = .int .i64 C1 ∧ w = wx)
              case first =>
                cases fr with
                | false =>
                  obtain ⟨a1, a2, a3⟩ := HF.out.hA0 rfl
                  have HA : Hid (A = m ∧ C1 = (m : Int) - j ∧ N1 = N0) := ⟨a1, a2, a3⟩
                  clear a1 a2 a3
                  go_wp2_with fail
                  go_meet
                  exact ⟨by rw [HA.out.1], by rw [HA.out.2.2], by rw [HA.out.2.1], rfl⟩
                | true =>
                  obtain ⟨a1, a2⟩ := HF.out.hA1 rfl
                  have HA : Hid (A = q ∧ C1 = (q : Int) - 1 - j) := ⟨a1, a2⟩
                  obtain ⟨hmq, hql⟩ := HF.out.hq rfl
                  have HN1 : Hid (Num.fracN N0 100000 ((s.data.toList.drop (m + 1)).takeWhile Num.digB) = N1) := HF.out.hN1 rfl
                  have hb0 : 0 ≤ N0 ∧ N0 ≤ 90000009000000 := HF.out.hN0b
                  obtain ⟨hb01, hb02⟩ := hb0
                  clear a1 a2
                  go_wp2_with fail
                  go_loop [4, 6, 7, 8] (fun v n c u => ∃ (t : Nat) (nn cc uu : Int), m + 1 ≤ t ∧ t ≤ q ∧ v = .int .i64 t ∧ n = .int .i64 nn ∧ c = .int .i64 cc ∧ u = .int .i64 uu ∧ cc = (t : Int) - 1 - j ∧ 0 ≤ uu ∧ uu ≤ 100000 ∧ 0 ≤ nn ∧ nn + 10 * uu ≤ 90000010000000 ∧ Num.fracN nn uu ((s.data.toList.drop t).takeWhile Num.digB) = N1) (fun v _ _ _ => s.size - (intOf v).toNat)
                  case atStart => exact ⟨m + 1, N0, _, 100000, Nat.le_refl _, by omega, by go_num, rfl, rfl, rfl, by omega, by decide, by decide, hb01, by omega, HN1.out⟩
                  case round =>
                    obtain ⟨t, nn, cc, uu, hi1, hi2, rfl, rfl, rfl, rfl, hcc, hu1, hu2, hn1, hn2, hsat⟩ := hrel
                    have HC : Hid (cc = (t : Int) - 1 - j) := hcc
                    have HS : Hid (Num.fracN nn uu ((s.data.toList.drop t).takeWhile Num.digB) = N1) := hsat
                    clear hcc hsat
                    by_cases hlt : t < q
                    · obtain ⟨hqt, hb⟩ := HF.out.hqd t hi1 hlt
                      have hc1 : 0 ≤ cc := by rw [HC.out]; omega
                      have hc2 : cc < 9223372036854775806 := by rw [HC.out]; omega
                      have hx1 : (48 : Int) ≤ (s[t].toNat : Int) := by have := (Num.dv_bd hb).1; unfold Num.dv at this; omega
                      have hx2 : (s[t].toNat : Int) ≤ 57 := by have := (Num.dv_bd hb).2; unfold Num.dv at this; omega
                      have hp1 : 0 ≤ ((s[t].toNat : Int) - 48) * uu := Int.mul_nonneg (by omega) hu1
                      have hp2 : ((s[t].toNat : Int) - 48) * uu ≤ 9 * uu := Int.mul_le_mul_of_nonneg_right (by omega) hu1
                      have hp3 : ((s[t].toNat : Int) - 48) * uu ≤ 900000 := by omega
                      have HT : Hid ((s.data.toList.drop t).takeWhile Num.digB = s[t] :: (s.data.toList.drop (t + 1)).takeWhile Num.digB) := Num.take_on (by simpa using hqt) hb
                      go_wp2_with (go_at_call 123; refine (sL2Digit _ _).mono ?_; rintro e w' ⟨rfl, hw⟩; have hw := hw.symm; subst hw)
                      go_round
                      case rel => exact ⟨t + 1, _, _, _, by omega, by omega, by go_num, rfl, rfl, rfl, by have := HC.out; omega, by omega, by omega, by omega, by omega, by rw [← HS.out, HT.out]; rfl⟩
                      case measure => simp [intOf]; omega
                    · have he : q = t := by omega
                      subst he
                      have HN : Hid (nn = N1) := by
                        have h := HS.out
                        rw [HF.out.hQ] at h; exact h
                      by_cases hq : q < s.size
                      · have hdg := HF.out.hqe hq
                        go_wp2_with (go_at_call 123; refine (sL2Digit _ _).mono ?_; rintro e w' ⟨rfl, hw⟩; have hw := hw.symm; subst hw)
                        go_meet
                        exact ⟨by rw [HA.out.1], int_int HN.out, int_int (HC.out.trans HA.out.2.symm), rfl⟩
                      · go_wp2_with (go_at_call 123; refine (sL2Digit _ _).mono ?_; rintro e w' ⟨rfl, hw⟩; have hw := hw.symm; subst hw)
                        go_meet
                        exact ⟨by rw [HA.out.1], int_int HN.out, int_int (HC.out.trans HA.out.2.symm), rfl⟩
              case rest =>
                obtain ⟨rfl, rfl, rfl, rfl⟩ := hcut
                go_upto_region 21 with fail
                go_cut [124] (fun v wx => v = .bool bad ∧ w = wx)
                case first =>
                  by_cases hc : C1 = 0
                  · have hc' : (C1 == 0) = true := by simp [hc]
                    have HC : Hid (C1 = 0) := hc
                    clear hc
                    go_wp2_with fail
                    go_meet
                    exact ⟨bool_yes HF.out.hbad (Or.inl HC.out), rfl⟩
                  · have hc' : (C1 == 0) = false := by simp [hc]
                    by_cases hn : 9000000000000 < N1
                    · go_wp2_with fail
                      go_meet
                      exact ⟨bool_yes HF.out.hbad (Or.inr hn), rfl⟩
                    · have hn' : decide (9000000000000 < N1) = false := by simpa using hn
                      go_wp2_with fail
                      go_meet
                      exact ⟨bool_no HF.out.hbad (fun h => h.elim hc (fun h => by omega)), rfl⟩
                case rest =>
                  obtain ⟨rfl, rfl⟩ := hcut
                  obtain ⟨hv1, hv2⟩ := HF.out.hN1b
                  cases bad with
                  | true =>
                    go_wp2_with fail
                    exact bodyPost_ret (v := .tuple #[.int .i64 0, .int .i64 0]) (by simp [results, Tryz.results104, go_sem]) rfl ⟨rfl, rfl⟩
                  | false =>
                    cases nb with
                    | true =>
                      go_wp2_with fail
                      refine bodyPost_ret (v := .tuple #[.int .i64 (-N1), .int .i64 (A : Int)]) (by simp [results, Tryz.results104, go_sem]) rfl ⟨?_, rfl⟩
                      rw [show -N1 = 0 - N1 by omega]
                    | false =>
                      go_wp2_with fail
                      exact bodyPost_ret (v := .tuple #[.int .i64 N1, .int .i64 (A : Int)]) (by simp [results, Tryz.results104, go_sem]) rfl ⟨rfl, rfl⟩
end Go.Proofs.YtkhoccjfkkfipaaGreatDoor
