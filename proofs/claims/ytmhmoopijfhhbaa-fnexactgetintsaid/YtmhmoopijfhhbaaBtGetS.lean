/-
  What is read at a place, the specification's: GetNum, GetInt, GetText.
-/
import Derived.Test.YtmhmoopijfhhbaaBtGet2
namespace Go.Proofs.Ytmhmoopijfhhbaa
open Go.RowKit
namespace Bt
set_option linter.unusedSimpArgs false
set_option linter.unusedVariables false

set_option maxHeartbeats 4000000 in
set_option maxRecDepth 100000 in
theorem sGetNum {g c : Nat} {i : Int} {b : List UInt8} {w : World} (hR : Rd w (some ⟨g, 0, none⟩) b) (hl : b.length ≤ 1048576) :
    Calls Try.prog 14 #[.slice (some ⟨g, 0, none⟩) b.length c, .int .i64 i] w fun e w' => e = .returned (three (.int .i64 (nOf (getV b i))) (getV b i)) ∧ w' = w := by
  have bl : (b.length : Int) ≤ 1048576 := by omega
  have b0 : (0 : Int) ≤ b.length := by omega
  by_cases hi : 0 ≤ i
  · obtain ⟨q, rfl⟩ : ∃ q : Nat, i = (q : Int) := ⟨i.toNat, by omega⟩
    obtain ⟨R, hRR⟩ : ∃ R, R = getL 0 0 (b.drop q) := ⟨_, rfl⟩
    have HG : Hid (getV b (q : Int) = R.map fun x => (x.1, q + x.2)) := by
      show _ = _
      unfold getV
      rw [if_pos hi, hRR]
      simp
    go_enter Try.func14, Try.ntmps14
    go_wp2_with fail
    go_loopw [7, 8] (fun nv kv wr => ∃ k n : Nat, nv = .int .i64 n ∧ kv = .int .i64 (k : Int) ∧ k ≤ 9 ∧ n < 2 ^ (7 * k) ∧ getL k n (b.drop (q + k)) = R ∧ wr = w) (fun _ kv _ => 9 - (intOf kv).toNat)
    case atStart => exact ⟨0, 0, rfl, rfl, by omega, by simp, hRR.symm, rfl⟩
    case round =>
      clear hRR
      obtain ⟨k, n, rfl, rfl, hk, hn, hg, hw⟩ := hrel
      have hw := hw.symm
      subst hw
      have q0' : (0 : Int) ≤ q := hi
      by_cases hk9 : k < 9
      · have k9 : (k : Int) < 9 := by omega
        by_cases hjl : q + k < b.length
        · have jl : (q : Int) < b.length - k := by omega
          obtain ⟨x, hx⟩ : ∃ x, b[q + k]? = some x := ⟨_, List.getElem?_eq_getElem hjl⟩
          obtain ⟨g', o', e', hgl, q0⟩ := hR (q + k) x hx
          simp only [Option.some.injEq, Addr.mk.injEq] at e'
          obtain ⟨rfl, rfl, _⟩ := e'
          rw [Nat.zero_add] at q0
          have hdr : b.drop (q + k) = x :: b.drop (q + k + 1) := by
            rw [List.drop_eq_getElem_cons hjl]
            congr 1
            have := (List.getElem?_eq_some_iff.1 hx).2
            exact this
          rw [hdr, getL, if_neg (by omega)] at hg
          obtain ⟨d, hd⟩ : ∃ d, d = x.toNat := ⟨_, rfl⟩
          have hd256 : d < 256 := by rw [hd]; exact x.toNat_lt
          rw [← hd] at hg q0
          clear hd hx hdr
          obtain ⟨j, hj⟩ : ∃ j, j = q + k := ⟨_, rfl⟩
          rw [← hj] at q0
          have hqk : (q : Int) + k = (j : Int) := by omega
          have jb : (j : Int) < b.length := by omega
          have j0 : (0 : Int) ≤ j := by omega
          have hp7 := pow7 (show k ≤ 8 by omega)
          obtain ⟨s, hs⟩ : ∃ s, s = 7 * k := ⟨_, rfl⟩
          have hsk : 7 * (k : Int) = (s : Int) := by omega
          have s63 : (s : Int) < 63 := by omega
          have HK : Hid (j = q + k ∧ s = 7 * k ∧ k < 9) := ⟨hj, hs, hk9⟩
          obtain ⟨m, hmm⟩ : ∃ m, m = d % 128 := ⟨_, rfl⟩
          have m128 : m < 128 := by omega
          have hm : (d : Int) % 128 = (m : Int) := by omega
          have sh1 := shl_at hs (show k ≤ 8 by omega) m128
          have sh2 := wrap_shl hs (show k ≤ 8 by omega) m128
          have hor := or_apart (show k ≤ 8 by omega) hn m128
          obtain ⟨V, hV⟩ : ∃ V, V = m * 2 ^ (7 * k) := ⟨_, rfl⟩
          have hV2 : V ≤ 127 * 72057594037927936 := by rw [hV]; exact Nat.mul_le_mul (by omega) hp7
          have hV3 : V ≤ 127 * 2 ^ (7 * k) := by rw [hV]; exact Nat.mul_le_mul_right _ (by omega)
          rw [← hV] at sh1 sh2 hor
          obtain ⟨N, hN⟩ : ∃ N, N = n + V := ⟨_, rfl⟩
          rw [← hN] at hor
          have nb : (n : Int) ≤ 72057594037927936 := by omega
          have Vb : (V : Int) ≤ 9151314442816847872 := by omega
          have Nb : (N : Int) ≤ 9223372036854775807 := by omega
          have N0 : (0 : Int) ≤ N := by omega
          have HNN : Hid (N < 2 ^ (7 * (k + 1))) := by
            show _ < _
            rw [Nat.mul_add, Nat.pow_add]
            omega
          by_cases h128 : d < 128
          · have hmd : m = d := by omega
            subst hmd
            rw [if_pos h128, ← hV, ← hN] at hg
            have db : (m : Int) < 128 := by omega
            by_cases hz : 0 < k ∧ m = 0
            · rw [if_pos (.inl hz)] at hg
              have HR : Hid (R = none) := hg.symm
              have kp : (0 : Int) < k := by omega
              obtain ⟨_, rfl⟩ := hz
              clear hg hn hV hN hj hs hk hV2 hV3 hmm
              go_wp2_with fail
              go_ret3
              rw [HG.out, HR.out]
              exact ⟨rfl, rfl⟩
            · by_cases hbig : 4611686018427387903 < N
              · rw [if_pos (.inr hbig)] at hg
                have HR : Hid (R = none) := hg.symm
                have bb : (4611686018427387903 : Int) < N := by omega
                by_cases hd0 : m = 0
                · subst hd0
                  have hk0 : k = 0 := by omega
                  subst hk0
                  simp at hV
                  omega
                · have d0 : ((m : Int) == 0) = false := beq_eq_false_iff_ne.2 (by omega)
                  clear hg hn hV hN hj hs hk hz hV2 hV3 hmm
                  go_wp2_with fail
                  all_goals go_ret3
                  all_goals rw [HG.out, HR.out]
                  all_goals exact ⟨rfl, rfl⟩
              · rw [if_neg (by omega)] at hg
                have HR : Hid (R = some (N, k + 1)) := hg.symm
                have bb : ¬ (4611686018427387903 : Int) < N := by omega
                have HE : Hid (((q + (k + 1) : Nat) : Int) = (j : Int) + 1) := by show _ = _; omega
                have HT : Hid (three (.int .i64 (nOf (getV b (q : Int)))) (getV b (q : Int)) = Value.tuple #[.int .i64 (N : Int), .int .i64 ((j : Int) + 1), .bool true]) := by
                  show _ = _
                  rw [HG.out, HR.out, ← HE.out]
                  rfl
                by_cases kp : 0 < k
                · have kpi : (0 : Int) < k := by omega
                  have d0 : ((m : Int) == 0) = false := beq_eq_false_iff_ne.2 (by omega)
                  clear hg hn hV hN hj hs hk hz hV2 hV3 hmm kp
                  go_wp2_with fail
                  go_ret3
                  rw [HT.out]
                  exact ⟨rfl, rfl⟩
                · have kpi : ¬ (0 : Int) < k := by omega
                  clear hg hn hV hN hj hs hk hz hV2 hV3 hmm kp
                  go_wp2_with fail
                  go_ret3
                  rw [HT.out]
                  exact ⟨rfl, rfl⟩
          · rw [if_neg h128] at hg
            have hmd : m = d - 128 := by omega
            rw [← hmd, ← hV, ← hN] at hg
            have db : ¬ (d : Int) < 128 := by omega
            have Hg : Hid (getL (k + 1) N (b.drop (q + k + 1)) = R) := hg
            clear hg hn hV hN hj hs hk hV3 hV2 hmm hmd
            go_wp2_with fail
            go_roundw
            case rel =>
              have h1 := HK.out
              exact ⟨k + 1, N, rfl, by congr 1, by omega, HNN.out, by rw [← Hg.out]; congr 1, by first | rfl | trivial⟩
            case measure => simp [intOf]; have := HK.out; omega
        · have jl : ¬ (q : Int) < b.length - k := by omega
          rw [List.drop_eq_nil_of_le (by omega)] at hg
          have HR : Hid (R = none) := by show _ = _; rw [← hg]; rfl
          clear hg hn hk
          go_wp2_with fail
          go_ret3
          rw [HG.out, HR.out]
          exact ⟨rfl, rfl⟩
      · have HR : Hid (R = none) := by show _ = _; rw [← hg]; exact getL_nine (by omega) _
        have k9 : ¬ (k : Int) < 9 := by omega
        clear hg hn
        go_wp2_with fail
        go_ret3
        rw [HG.out, HR.out]
        exact ⟨rfl, rfl⟩
  · have HG : Hid (getV b i = none) := by show _ = _; unfold getV; rw [if_neg hi]
    have hn : i < 0 := by omega
    go_enter Try.func14, Try.ntmps14
    go_wp2_with fail
    go_loopw [7, 8] (fun nv kv wr => nv = .int .i64 0 ∧ kv = .int .i64 0 ∧ wr = w) (fun _ kv _ => 9 - (intOf kv).toNat)
    case atStart => exact ⟨rfl, rfl, rfl⟩
    case round =>
      obtain ⟨rfl, rfl, hw⟩ := hrel
      have hw := hw.symm
      subst hw
      go_wp2_with fail
      go_ret3
      rw [HG.out]
      exact ⟨rfl, rfl⟩

set_option maxHeartbeats 1000000 in
set_option maxRecDepth 100000 in
theorem sGetInt {g c : Nat} {i : Int} {b : List UInt8} {w : World} (hR : Rd w (some ⟨g, 0, none⟩) b) (hl : b.length ≤ 1048576) :
    Calls Try.prog 19 #[.slice (some ⟨g, 0, none⟩) b.length c, .int .i64 i] w fun e w' => e = .returned (three (.int .i64 (iOf (getI b i))) (getI b i)) ∧ w' = w := by
  have call := sGetNum (c := c) (i := i) hR hl
  rcases hg : getV b i with _ | ⟨n, j⟩
  · have HI : Hid (getI b i = none) := by show _ = _; unfold getI; rw [hg]; rfl
    rw [hg] at call
    have e0 : three (.int .i64 (nOf none)) (none : Option (Nat × Nat)) = .tuple #[.int .i64 0, .int .i64 0, .bool false] := rfl
    rw [e0] at call
    clear hg hR e0
    go_enter Try.func19, Try.ntmps19
    go_wp2_with (go_at_call 14; refine call.mono ?_; rintro e w2 ⟨rfl, hw⟩; have hw := hw.symm; subst hw)
    go_ret3
    rw [HI.out]
    exact ⟨rfl, rfl⟩
  · have hf := (getV_facts hg).1
    have HI : Hid (getI b i = if unz n < -2305843009213693951 then none else some (unz n, j)) := by show _ = _; unfold getI; rw [hg]; rfl
    rw [hg] at call
    have e0 : three (.int .i64 (nOf (some (n, j)))) (some (n, j)) = .tuple #[.int .i64 (n : Int), .int .i64 (j : Int), .bool true] := rfl
    rw [e0] at call
    have nb : (n : Int) ≤ 4611686018427387903 := by omega
    have inn := sIn (unz n) (-2305843009213693951) 2305843009213693951
    have hu2 : unz n ≤ 2305843009213693951 := by unfold unz; split <;> omega
    obtain ⟨m, hmm⟩ : ∃ m, m = (n : Int) / 2 := ⟨_, rfl⟩
    have hm : (n : Int) / 2 = m := hmm.symm
    have m0 : 0 ≤ m := by omega
    have m1 : m ≤ 2305843009213693951 := by omega
    clear hg hR e0
    by_cases h2 : n % 2 = 1
    · have h2i : (n : Int) % 2 = 1 := by omega
      have hu : unz n = -1 - m := by unfold unz; rw [if_pos h2]; omega
      rw [hu] at inn
      by_cases hbig : -1 - m < -2305843009213693951
      · have HU : Hid (getI b i = none) := by show _ = _; rw [HI.out, hu, if_pos hbig]
        rw [decide_eq_false (by omega)] at inn
        clear HI h2 hu hu2 hmm
        go_enter Try.func19, Try.ntmps19
        go_wp2_with (first | (go_at_call 14; refine call.mono ?_; rintro e w2 ⟨rfl, hw⟩; have hw := hw.symm; subst hw) | (go_at_call 25; refine (inn _).mono ?_; rintro e w2 ⟨rfl, hw⟩; have hw := hw.symm; subst hw))
        go_ret3
        rw [HU.out]
        exact ⟨rfl, rfl⟩
      · have HU : Hid (getI b i = some (-1 - m, j)) := by show _ = _; rw [HI.out, hu, if_neg hbig]
        rw [decide_eq_true (by omega)] at inn
        clear HI h2 hu hu2 hmm
        go_enter Try.func19, Try.ntmps19
        go_wp2_with (first | (go_at_call 14; refine call.mono ?_; rintro e w2 ⟨rfl, hw⟩; have hw := hw.symm; subst hw) | (go_at_call 25; refine (inn _).mono ?_; rintro e w2 ⟨rfl, hw⟩; have hw := hw.symm; subst hw))
        go_ret3
        rw [HU.out]
        exact ⟨rfl, rfl⟩
    · have h2i : ¬ (n : Int) % 2 = 1 := by omega
      have h2b : ((n : Int) % 2 == 1) = false := beq_eq_false_iff_ne.2 h2i
      have hu : unz n = m := by unfold unz; rw [if_neg h2]; omega
      rw [hu, decide_eq_true (by omega)] at inn
      have HU : Hid (getI b i = some (m, j)) := by show _ = _; rw [HI.out, hu, if_neg (by omega)]
      clear HI h2 hu hu2 hmm
      go_enter Try.func19, Try.ntmps19
      go_wp2_with (first | (go_at_call 14; refine call.mono ?_; rintro e w2 ⟨rfl, hw⟩; have hw := hw.symm; subst hw) | (go_at_call 25; refine (inn _).mono ?_; rintro e w2 ⟨rfl, hw⟩; have hw := hw.symm; subst hw))
      go_ret3
      rw [HU.out]
      exact ⟨rfl, rfl⟩

set_option maxHeartbeats 1000000 in
set_option maxRecDepth 100000 in
theorem sGetText {g c : Nat} {i : Int} {b : List UInt8} {w : World} (hR : Rd w (some ⟨g, 0, none⟩) b) (hl : b.length ≤ 1048576) (hc : b.length ≤ c) :
    Calls Try.prog 23 #[.slice (some ⟨g, 0, none⟩) b.length c, .int .i64 i] w fun e w' => e = .returned (three (.string (sOf (getT b i))) (getT b i)) ∧ w' = w := by
  have call := sGetNum (c := c) (i := i) hR hl
  have bl : (b.length : Int) ≤ 1048576 := by omega
  rcases hg : getV b i with _ | ⟨n, j⟩
  · have HI : Hid (getT b i = none) := by show _ = _; unfold getT; rw [hg]; rfl
    rw [hg] at call
    have e0 : three (.int .i64 (nOf none)) (none : Option (Nat × Nat)) = .tuple #[.int .i64 0, .int .i64 0, .bool false] := rfl
    rw [e0] at call
    clear hg hR e0
    go_enter Try.func23, Try.ntmps23
    go_wp2_with (go_at_call 14; refine call.mono ?_; rintro e w2 ⟨rfl, hw⟩; have hw := hw.symm; subst hw)
    go_ret3
    rw [HI.out]
    exact ⟨rfl, rfl⟩
  · obtain ⟨hf, _, _, hjl⟩ := getV_facts hg
    have HI : Hid (getT b i = if b.length < j + n then none else some ((b.drop j).take n, j + n)) := by show _ = _; unfold getT; rw [hg]; rfl
    rw [hg] at call
    have e0 : three (.int .i64 (nOf (some (n, j)))) (some (n, j)) = .tuple #[.int .i64 (n : Int), .int .i64 (j : Int), .bool true] := rfl
    rw [e0] at call
    have nb : (n : Int) ≤ 4611686018427387903 := by omega
    have j0 : (j : Int) ≤ b.length := by omega
    by_cases hb : b.length < j + n
    · have hb2 : (b.length : Int) - j < n := by omega
      have HU : Hid (getT b i = none) := by show _ = _; rw [HI.out, if_pos hb]
      clear HI hg hR hf hb e0
      go_enter Try.func23, Try.ntmps23
      go_wp2_with (go_at_call 14; refine call.mono ?_; rintro e w2 ⟨rfl, hw⟩; have hw := hw.symm; subst hw)
      go_ret3
      rw [HU.out]
      exact ⟨rfl, rfl⟩
    · have hb2 : ¬ (b.length : Int) - j < n := by omega
      have HU : Hid (getT b i = some ((b.drop j).take n, j + n)) := by show _ = _; rw [HI.out, if_neg hb]
      obtain ⟨SV, s1, s2⟩ := cut_conv (g := g) (c := c) hc j n (by omega)
      obtain ⟨m, hm⟩ : ∃ m, m = j + n := ⟨_, rfl⟩
      have hjm : (j : Int) + n = m := by omega
      rw [← hm] at s1 HU
      have mb : (m : Int) ≤ b.length := by omega
      have mj : (j : Int) ≤ m := by omega
      have s3 := s2 w hR
      clear HI hg hR hf hb hm hb2 s2 e0
      generalize ((b.drop j).take n) = M at s3 HU
      have hb3 : ¬ (b.length : Int) - j < n := by omega
      go_enter Try.func23, Try.ntmps23
      go_wp2_with (go_at_call 14; refine call.mono ?_; rintro e w2 ⟨rfl, hw⟩; have hw := hw.symm; subst hw)
      go_ret3
      rw [HU.out]
      exact ⟨rfl, rfl⟩

end Bt
end Go.Proofs.Ytmhmoopijfhhbaa
