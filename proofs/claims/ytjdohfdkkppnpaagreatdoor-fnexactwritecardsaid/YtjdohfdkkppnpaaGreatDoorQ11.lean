/-
  Words of tidy trees: names, texts, patterns, gone through.
-/
import Derived.Test.YtjdohfdkkppnpaaGreatDoorQ10
import Derived.Lib.IndexAny
namespace Go.Proofs.YtjdohfdkkppnpaaGreatDoor
open Go.RowKit
namespace Ty

theorem ltr_cons (c : UInt8) (r : List UInt8) : lettersB (c :: r) = (letB c.toNat && lettersB r) := by simp [lettersB]
theorem toList_mk (s : List UInt8) : (⟨s.toArray⟩ : ByteArray).data.toList = s := rfl

set_option maxRecDepth 100000 in
theorem sLine (s : ByteArray) (hs : (s.size : Int) ≤ 1048576) (w : World) :
    Calls Tryz.prog 68 #[.string s] w fun e w' => e = .returned (.bool (lineB s.data.toList)) ∧ w' = w := by
  go_enter Tryz.func68, Tryz.ntmps68
  go_wp2_with fail
  go_loopw [3] (fun i wr => ∃ k : Nat, k ≤ s.size ∧ i = .int .i64 k ∧ wr = w ∧ lineB s.data.toList = lineB (s.data.toList.drop k)) (fun i _ => s.size - (intOf i).toNat)
  case atStart => exact ⟨0, by omega, rfl, rfl, rfl⟩
  case round =>
    obtain ⟨k, hk, rfl, rfl, hno⟩ := hrel
    by_cases hkl : k < s.size
    · rw [drop_at hkl, line_cons] at hno
      by_cases hb : s[k].toNat = 10
      · have H : Hid (lineB s.data.toList = false) := by show _ = _; rw [hno, hb]; simp
        have e1 : (s[k].toNat : Int) = 10 := by omega
        have e2 : ((s[k].toNat : Int) == 10) = true := by rw [e1]; rfl
        clear hno
        go_wp2_with fail
        go_ret
        exact ⟨by rw [H.out]; rfl, rfl⟩
      · have H : Hid (lineB s.data.toList = lineB (s.data.toList.drop (k + 1))) := by show _ = _; rw [hno]; simp [hb]
        have e1 : ¬ (s[k].toNat : Int) = 10 := by omega
        have e2 : ((s[k].toNat : Int) == 10) = false := beq_eq_false_iff_ne.2 e1
        clear hno
        go_wp2_with fail
        go_roundw
        case rel => exact ⟨k + 1, by omega, by go_num, by trivial, H.out⟩
        case measure => simp [intOf]; omega
    · obtain rfl : k = s.size := by omega
      have H : Hid (lineB s.data.toList = true) := by show _ = _; rw [hno, drop_end (Nat.le_refl _)]; rfl
      clear hno
      go_wp2_with fail
      go_ret
      exact ⟨by rw [H.out]; rfl, rfl⟩

set_option maxRecDepth 100000 in
theorem sRex (s : ByteArray) (hs : (s.size : Int) ≤ 1048576) (w : World) :
    Calls Tryz.prog 69 #[.string s] w fun e w' => e = .returned (.bool (rexB s.data.toList)) ∧ w' = w := by
  have HR : Hid (rexB s.data.toList = (escB s.data.toList && lineB s.data.toList)) := rfl
  have call := sLine s hs w
  generalize rexB s.data.toList = R at *
  go_enter Tryz.func69, Tryz.ntmps69
  go_wp2_with fail
  go_loopw [3] (fun i wr => ∃ k : Nat, k ≤ s.size ∧ i = .int .i64 k ∧ wr = w ∧ escB s.data.toList = escB (s.data.toList.drop k)) (fun i _ => s.size - (intOf i).toNat)
  case atStart => exact ⟨0, by omega, rfl, rfl, rfl⟩
  case round =>
    obtain ⟨k, hk, rfl, rfl, hno⟩ := hrel
    by_cases hkl : k < s.size
    · rw [drop_at hkl] at hno
      by_cases hb : s[k].toNat = 92
      · have e1 : (s[k].toNat : Int) = 92 := by omega
        have e2 : ((s[k].toNat : Int) == 92) = true := by rw [e1]; rfl
        by_cases hk1 : k + 1 < s.size
        · rw [drop_at hk1, esc_two hb] at hno
          obtain ⟨k1, hk1e⟩ : ∃ k1, k1 = k + 1 := ⟨_, rfl⟩
          have t1 : (k : Int) + 1 = (k1 : Int) := by omega
          have hk2 : k1 < s.size := by omega
          have n1 : ¬ (k1 : Int) = s.size := by omega
          have n2 : ((k1 : Int) == (s.size : Int)) = false := beq_eq_false_iff_ne.2 n1
          have n3 : (k1 == s.size) = false := beq_eq_false_iff_ne.2 (by omega)
          have n4 : ¬ k1 = s.size := by omega
          have hno2 : escB s.data.toList = (decide (s[k1].toNat ≠ 47) && escB (s.data.toList.drop (k1 + 1))) := by subst hk1e; exact hno
          have K1 : Hid (k1 = k + 1) := hk1e
          clear hno hk1e
          by_cases h47 : s[k1].toNat = 47
          · have H : Hid (R = false) := by show _ = _; rw [HR.out, hno2, h47]; simp
            have f1 : (s[k1].toNat : Int) = 47 := by omega
            have f2 : ((s[k1].toNat : Int) == 47) = true := by rw [f1]; rfl
            clear hno2 HR
            go_wp2_with fail
            go_ret
            exact ⟨by rw [H.out]; rfl, rfl⟩
          · have H : Hid (escB s.data.toList = escB (s.data.toList.drop (k1 + 1))) := by show _ = _; rw [hno2]; simp [h47]
            have f1 : ¬ (s[k1].toNat : Int) = 47 := by omega
            have f2 : ((s[k1].toNat : Int) == 47) = false := beq_eq_false_iff_ne.2 f1
            clear hno2 HR
            go_wp2_with fail
            go_roundw
            case rel => exact ⟨k1 + 1, by omega, by go_num, by trivial, H.out⟩
            case measure => have := K1.out; simp [intOf]; omega
        · rw [drop_end (by omega), esc_end hb] at hno
          have H : Hid (R = false) := by show _ = _; rw [HR.out, hno]; simp
          have n1 : (k : Int) + 1 = s.size := by omega
          clear hno HR
          go_wp2_with fail
          go_ret
          exact ⟨by rw [H.out]; rfl, rfl⟩
      · rw [esc_one hb] at hno
        have H : Hid (escB s.data.toList = escB (s.data.toList.drop (k + 1))) := hno
        have e1 : ¬ (s[k].toNat : Int) = 92 := by omega
        have e2 : ((s[k].toNat : Int) == 92) = false := beq_eq_false_iff_ne.2 e1
        clear hno
        go_wp2_with fail
        go_roundw
        case rel => exact ⟨k + 1, by omega, by go_num, by trivial, H.out⟩
        case measure => simp [intOf]; omega
    · obtain rfl : k = s.size := by omega
      have H : Hid (R = lineB s.data.toList) := by show _ = _; rw [HR.out, hno, drop_end (Nat.le_refl _)]; simp [escB]
      clear hno HR
      go_wp2_with (go_at_call 68; refine call.mono ?_; rintro e w2 ⟨rfl, hw⟩; have hw := hw.symm; subst hw)
      go_ret
      exact ⟨by rw [H.out]; rfl, rfl⟩

set_option maxRecDepth 100000 in
theorem sName (s : List UInt8) (hs : s.length ≤ 1048576) (w : World) :
    Calls Tryz.prog 70 #[.string ⟨s.toArray⟩] w fun e w' => e = .returned (.bool (nameB s)) ∧ Below w.heap.size w w' := by
  have HN : Hid (nameB s = (lettersB s && (decide (0 < s.length) && decide (s.length ≤ 8) && freeB s))) := rfl
  have HF : Hid (freeB s = !keyB s) := key_free s
  have ck := sKeyword s
  obtain ⟨b, hb⟩ : ∃ b : ByteArray, b = ⟨s.toArray⟩ := ⟨_, rfl⟩
  have hl : s = b.data.toList := by subst hb; rfl
  have hsz : b.size = s.length := by subst hb; rfl
  rw [← hb] at ck ⊢
  have hsI : (b.size : Int) ≤ 1048576 := by omega
  have HZ : Hid (b.size = s.length) := hsz
  have HL : Hid (s = b.data.toList) := hl
  have cin := sIn1 (b.size : Int) 1 8
  generalize hNB : nameB s = N at *
  generalize hKB : keyB s = K at *
  clear hb hl hsz hs hNB hKB
  go_enter Tryz.func70, Tryz.ntmps70
  go_wp2_with fail
  go_loopw [3] (fun i wr => ∃ k : Nat, k ≤ b.size ∧ i = .int .i64 k ∧ wr = w ∧ lettersB b.data.toList = lettersB (b.data.toList.drop k)) (fun i _ => b.size - (intOf i).toNat)
  case atStart => exact ⟨0, by omega, rfl, rfl, rfl⟩
  case round =>
    obtain ⟨k, hk, rfl, rfl, hno⟩ := hrel
    by_cases hkl : k < b.size
    · rw [drop_at hkl, ltr_cons] at hno
      have call := sLetter b[k].toNat wr
      rcases hl : letB b[k].toNat with _ | _
      · rw [hl] at hno call
        have H : Hid (N = false) := by show _ = _; rw [HN.out, HL.out, hno]; simp
        clear hno HN HL
        go_wp2_with (go_at_call 103; refine call.mono ?_; rintro e w2 ⟨rfl, hw⟩; have hw := hw.symm; subst hw)
        go_ret
        exact ⟨by rw [H.out]; rfl, Below.refl _ _⟩
      · rw [hl] at hno call
        have H : Hid (lettersB b.data.toList = lettersB (b.data.toList.drop (k + 1))) := by show _ = _; rw [hno]; simp
        clear hno
        go_wp2_with (go_at_call 103; refine call.mono ?_; rintro e w2 ⟨rfl, hw⟩; have hw := hw.symm; subst hw)
        go_roundw
        case rel => exact ⟨k + 1, by omega, by go_num, by trivial, H.out⟩
        case measure => simp [intOf]; omega
    · obtain rfl : k = b.size := by omega
      rw [drop_end (Nat.le_refl _)] at hno
      have H : Hid (N = ((decide (1 ≤ (b.size : Int)) && decide ((b.size : Int) ≤ 8)) && !K)) := by
        show _ = _
        rw [HN.out, HF.out, HL.out, hno, ← HL.out, ← HZ.out, show decide (0 < b.size) = decide (1 ≤ (b.size : Int)) by rw [decide_eq_decide]; omega, show decide (b.size ≤ 8) = decide ((b.size : Int) ≤ 8) by rw [decide_eq_decide]; omega]
        simp [lettersB]
      clear hno HN HF HL
      generalize (decide (1 ≤ (b.size : Int)) && decide ((b.size : Int) ≤ 8)) = G at *
      cases G
      all_goals
        go_wp2_with (first
          | (go_at_call 34; refine (cin _).mono ?_; rintro e w2 ⟨rfl, hw⟩; have hw := hw.symm; subst hw)
          | (go_at_call 104; refine (ck _).mono ?_; rintro e w3 ⟨rfl, hb3⟩))
        go_ret
      · exact ⟨by rw [H.out]; simp, Below.refl _ _⟩
      · exact ⟨by rw [H.out]; simp, hb3⟩

end Ty
end Go.Proofs.YtjdohfdkkppnpaaGreatDoor

