/-
  Numbers and texts as bytes: what both sides answer, at all arguments.
-/
import Derived.Test.YtmhmoopijfhhbaaBtRow
namespace Go.Proofs.Ytmhmoopijfhhbaa
open Go.RowKit
namespace Bt
set_option linter.unusedSimpArgs false
set_option linter.unusedVariables false

theorem iAm (n c : Int) (w : World) : Calls Try.prog 34 #[.int .i64 n, .int .i64 c] w fun e w' => e = .returned (.bool (decide (0 ≤ n ∧ n < c))) ∧ w' = w := by
  obtain ⟨R, hR⟩ : ∃ R, R = decide (0 ≤ n ∧ n < c) := ⟨_, rfl⟩
  rw [← hR]
  by_cases h0 : 0 ≤ n
  · by_cases h1 : n < c
    · have H : Hid (R = true) := hR.trans (decide_eq_true ⟨h0, h1⟩)
      clear hR
      go_enter Try.func34, Try.ntmps34
      go_wp2_with fail
      go_ret
      exact ⟨by rw [H.out]; simp, rfl⟩
    · have H : Hid (R = false) := hR.trans (decide_eq_false fun h => h1 h.2)
      have e1 : decide (n < c) = false := decide_eq_false h1
      clear hR
      go_enter Try.func34, Try.ntmps34
      go_wp2_with fail
      go_ret
      exact ⟨by rw [H.out]; simp, rfl⟩
  · have H : Hid (R = false) := hR.trans (decide_eq_false fun h => h0 h.1)
    have e1 : decide (0 ≤ n) = false := decide_eq_false h0
    clear hR
    go_enter Try.func34, Try.ntmps34
    go_wp2_with fail
    go_ret
    exact ⟨by rw [H.out]; simp, rfl⟩

theorem sIn (x lo hi : Int) (w : World) : Calls Try.prog 25 #[.int .i64 x, .int .i64 lo, .int .i64 hi] w fun e w' => e = .returned (.bool (decide (lo ≤ x ∧ x ≤ hi))) ∧ w' = w := by
  obtain ⟨R, hR⟩ : ∃ R, R = decide (lo ≤ x ∧ x ≤ hi) := ⟨_, rfl⟩
  rw [← hR]
  by_cases h1 : lo ≤ x
  · by_cases h2 : x ≤ hi
    · have HR : Hid (R = true) := hR.trans (decide_eq_true ⟨h1, h2⟩)
      clear hR
      go_enter Try.func25, Try.ntmps25
      go_wp2_with fail
      go_ret
      exact ⟨by rw [HR.out]; simp <;> omega, rfl⟩
    · have HR : Hid (R = false) := hR.trans (decide_eq_false fun h => h2 h.2)
      clear hR
      go_enter Try.func25, Try.ntmps25
      go_wp2_with fail
      go_ret
      exact ⟨by rw [HR.out]; simp <;> omega, rfl⟩
  · have HR : Hid (R = false) := hR.trans (decide_eq_false fun h => h1 h.1)
    clear hR
    go_enter Try.func25, Try.ntmps25
    go_wp2_with fail
    go_ret
    exact ⟨by rw [HR.out]; rfl, rfl⟩

theorem row_new (w : World) : Row w.heap.size (w.alloc (.cells #[] 5)) (some ⟨w.heap.size, 0, none⟩) 0 [] := World.ownsRow_made w #[] 0 (Nat.le_refl _) (by unfold maxLen; omega) rfl

/-- New bytes V are answered; all that was there is as it was. -/
def Ans (w : World) (V : List UInt8) (e : Ending) (w' : World) : Prop := ∃ ao cap, e = .returned (.slice ao V.length cap) ∧ Row w.heap.size w' ao cap V ∧ Below w.heap.size w w'

theorem putV_of {x : Nat} (h : x ≤ 4611686018427387903) : putV (x : Int) = Lib.uvarint x := by unfold putV; rw [if_pos (by omega)]; simp
theorem putV_len (n : Int) : (putV n).length ≤ 10 := by
  unfold putV
  split
  · exact uv_len (by omega)
  · simp
theorem putI_len (n : Int) : (putI n).length ≤ 10 := by
  unfold putI
  split
  · split <;> exact putV_len _
  · simp

theorem iPutI {B : Nat} {n : Int} {L : List UInt8} {ao : Option Addr} {cap : Nat} {w : World} (hr : Row B w ao cap L) (h1 : -2305843009213693951 ≤ n) (h2 : n ≤ 2305843009213693951) (room : L.length + 10 ≤ 1099511627776) (hB : B ≤ w.heap.size) :
    Calls Try.prog 29 #[.slice ao L.length cap, .int .i64 n] w fun e w' => ∃ ao' cap', e = .returned (.slice ao' (L ++ putI n).length cap') ∧ Row B w' ao' cap' (L ++ putI n) ∧ Below B w w' := by
  by_cases hn : n < 0
  · obtain ⟨x, hx⟩ : ∃ x : Nat, x = (-2 * n - 1).toNat := ⟨_, rfl⟩
    have hx1 : -2 * n - 1 = (x : Int) := by omega
    have hP : Hid (Lib.uvarint x = putI n) := by
      show _ = _
      unfold putI
      rw [if_pos ⟨h1, h2⟩, if_pos hn, hx1, putV_of (by omega)]
    have call := iPutN (x := x) hr (by omega) room hB
    clear hr room hx
    go_enter Try.func29, Try.ntmps29
    go_wp2_with (go_at_call 26; refine call.mono ?_; rintro e w2 ⟨ao2, cap2, rfl, hr2, hb2⟩)
    go_ret
    rw [← hP.out]
    exact ⟨ao2, cap2, by simp, hr2, hb2⟩
  · obtain ⟨x, hx⟩ : ∃ x : Nat, x = (2 * n).toNat := ⟨_, rfl⟩
    have hx1 : 2 * n = (x : Int) := by omega
    have hP : Hid (Lib.uvarint x = putI n) := by
      show _ = _
      unfold putI
      rw [if_pos ⟨h1, h2⟩, if_neg hn, hx1, putV_of (by omega)]
    have call := iPutN (x := x) hr (by omega) room hB
    clear hr room hx
    go_enter Try.func29, Try.ntmps29
    go_wp2_with (go_at_call 26; refine call.mono ?_; rintro e w2 ⟨ao2, cap2, rfl, hr2, hb2⟩)
    go_ret
    rw [← hP.out]
    exact ⟨ao2, cap2, by simp, hr2, hb2⟩

theorem iPutS {B : Nat} {s : ByteArray} {L : List UInt8} {ao : Option Addr} {cap : Nat} {w : World} (hr : Row B w ao cap L) (hs : s.size ≤ 1048576) (room : L.length + 1048600 ≤ 1099511627776) (hB : B ≤ w.heap.size) :
    Calls Try.prog 31 #[.slice ao L.length cap, .string s] w fun e w' => ∃ ao' cap', e = .returned (.slice ao' (L ++ putT s.data.toList).length cap') ∧ Row B w' ao' cap' (L ++ putT s.data.toList) ∧ Below B w w' := by
  have call := iPutN (x := s.size) hr (by omega) (by omega) hB
  have hP : Hid (L ++ Lib.uvarint s.size ++ s.data.toList = L ++ putT s.data.toList) := by
    show _ = _
    unfold putT
    have e : s.data.toList.length = s.size := rfl
    rw [e, putV_of (by omega), List.append_assoc]
  have R1 : Hid ((L ++ Lib.uvarint s.size).length + s.size ≤ 1099511627776) := by
    have := uv_len (x := s.size) (by omega)
    show _ ≤ _
    rw [List.length_append]
    omega
  have HB : Hid (B ≤ w.heap.size) := hB
  have bs : (s.size : Int) ≤ 1048576 := by omega
  obtain ⟨M, hM⟩ : ∃ M, M = L ++ Lib.uvarint s.size := ⟨_, rfl⟩
  rw [← hM] at call hP R1
  clear hr room hB hs hM
  go_enter Try.func31, Try.ntmps31
  go_wp2_with (first | (go_at_call 26; refine call.mono ?_; rintro e w2 ⟨ao2, cap2, rfl, hr2, hb2⟩) | (at_builtin; refine app_str rfl _ _ rfl _ _ _ rfl hr2 s rfl R1.out (Nat.le_trans HB.out hb2.size) ?_; intro ao3 cap3 w3 hr3 hb3))
  go_ret
  have el := congrArg List.length hP.out
  simp only [List.length_append] at el
  rw [hP.out] at hr3
  refine ⟨ao3, cap3, ?_, hr3, hb2.trans hb3⟩
  simp only [List.length_append]
  rw [← el]
  rfl

set_option maxHeartbeats 1000000 in
set_option maxRecDepth 100000 in
theorem sPutNum (n : Int) (w : World) : Calls Try.prog 9 #[.int .i64 n] w (Ans w (putV n)) := by
  have hB : w.heap.size ≤ w.heap.size := Nat.le_refl _
  by_cases hn : 0 ≤ n ∧ n ≤ 4611686018427387903
  · obtain ⟨x, rfl⟩ : ∃ x : Nat, n = (x : Int) := ⟨n.toNat, by omega⟩
    have hx : x ≤ 4611686018427387903 := by omega
    rw [putV_of hx]
    have HL : Hid ((Lib.uvarint x).length ≤ 10) := uv_len (by omega)
    have d0 : (0 : Int) ≤ x := by omega
    have d1 : (x : Int) ≤ 4611686018427387903 := by omega
    have call := sIn (x : Int) 0 4611686018427387903
    rw [decide_eq_true hn] at call
    clear hn
    have h0 := row_new w
    go_enter Try.func9, Try.ntmps9
    go_wp2_with (go_at_call 25; refine (call _).mono ?_; rintro e w2 ⟨rfl, hw⟩; have hw := hw.symm; subst hw)
    clear call
    go_loopw [3, 0] (fun vb vx wr => ∃ (y : Nat) (pre : List UInt8) (ao : Option Addr) (cap : Nat), vb = .slice ao pre.length cap ∧ vx = .int .i64 y ∧ y ≤ x ∧ Lib.uvarint x = pre ++ Lib.uvarint y ∧ Row w.heap.size wr ao cap pre ∧ Below w.heap.size w wr) (fun _ vx _ => (intOf vx).toNat)
    case atStart => exact ⟨x, [], some ⟨w.heap.size, 0, none⟩, 0, rfl, rfl, Nat.le_refl _, rfl, h0, (Below.refl _ w).alloc (Nat.le_refl _) _⟩
    case round =>
      clear h0
      obtain ⟨y, pre, ao, cap, rfl, rfl, hy, hsplit, hr1, hnx⟩ := hrel
      have HS : Hid (Lib.uvarint x = pre ++ Lib.uvarint y) := hsplit
      have R1 : Hid (pre.length + 1 ≤ 1099511627776) := by
        have h1 := HL.out
        have h3 := Lib.uvarint_pos y
        rw [hsplit, List.length_append] at h1
        show _ ≤ _
        omega
      have R2 : Hid (w.heap.size ≤ wr.heap.size) := hnx.size
      have hy2 : (y : Int) ≤ 4611686018427387903 := by omega
      clear hsplit
      by_cases h128 : 128 ≤ y
      · have h128i : (127 : Int) < y := by omega
        obtain ⟨b, hb⟩ : ∃ b : UInt8, b = (y % 128 + 128).toUInt8 := ⟨_, rfl⟩
        have hbn : Hid ((b.toNat : Int) = (y : Int) % 128 + 128) := by show _ = _; rw [hb, Lib.toUInt8_toNat (by omega)]; omega
        have HBB : Hid (b = (y % 128 + 128).toUInt8) := hb
        clear hb
        go_wp2_with (at_builtin; refine app_one rfl _ _ rfl pre _ _ rfl hr1 _ rfl b hbn.out.symm R1.out R2.out ?_; intro ao2 cap2 w2 hr2 hb2)
        go_roundw
        case rel =>
          refine ⟨y / 128, pre ++ [b], ao2, cap2, ?_, by go_num, by omega, ?_, hr2, hnx.trans hb2⟩
          · congr 1; simp only [List.length_append, List.length_singleton]
          · rw [HS.out, Lib.uvarint_big h128, HBB.out]; simp
        case measure => simp [intOf]; omega
      · have h128i : ¬ (127 : Int) < y := by omega
        obtain ⟨b, hb⟩ : ∃ b : UInt8, b = y.toUInt8 := ⟨_, rfl⟩
        have hbn : Hid ((b.toNat : Int) = (y : Int)) := by show _ = _; rw [hb, Lib.toUInt8_toNat (by omega)]
        have HBB : Hid (b = y.toUInt8) := hb
        clear hb
        go_wp2_with (at_builtin; refine app_one rfl _ _ rfl pre _ _ rfl hr1 _ rfl b hbn.out.symm R1.out R2.out ?_; intro ao2 cap2 w2 hr2 hb2)
        go_ret
        have e : Lib.uvarint x = pre ++ [b] := by rw [HS.out, Lib.uvarint_small (by omega), ← HBB.out]
        have el : (Lib.uvarint x).length = pre.length + 1 := by have := congrArg List.length e; simpa using this
        exact ⟨ao2, cap2, by rw [el]; rfl, by rw [e]; exact hr2, hnx.trans hb2⟩
  · have HV : Hid (putV n = []) := by show _ = _; unfold putV; rw [if_neg hn]
    have call := sIn n 0 4611686018427387903
    rw [decide_eq_false hn] at call
    clear hn
    have h0 := row_new w
    go_enter Try.func9, Try.ntmps9
    go_wp2_with (go_at_call 25; refine (call _).mono ?_; rintro e w2 ⟨rfl, hw⟩; have hw := hw.symm; subst hw)
    go_ret
    rw [HV.out]
    exact ⟨_, _, rfl, h0, (Below.refl _ w).alloc (Nat.le_refl _) _⟩

set_option maxRecDepth 100000 in
theorem sPutInt (n : Int) (w : World) : Calls Try.prog 17 #[.int .i64 n] w (Ans w (putI n)) := by
  have call := sIn n (-2305843009213693951) 2305843009213693951
  by_cases hn : -2305843009213693951 ≤ n ∧ n ≤ 2305843009213693951
  · rw [decide_eq_true hn] at call
    have d0 : (-2305843009213693951 : Int) ≤ n := hn.1
    have d1 : (n : Int) ≤ 2305843009213693951 := hn.2
    by_cases hneg : n < 0
    · have HV : Hid (putV (-2 * n - 1) = putI n) := by show _ = _; unfold putI; rw [if_pos hn, if_pos hneg]
      have cp := sPutNum (-2 * n - 1) w
      clear hn
      go_enter Try.func17, Try.ntmps17
      go_wp2_with (first | (go_at_call 25; refine (call _).mono ?_; rintro e w2 ⟨rfl, hw⟩; have hw := hw.symm; subst hw) | (go_at_call 9; refine cp.mono ?_; rintro e w2 ⟨ao2, cap2, rfl, hr2, hb2⟩))
      go_ret
      rw [← HV.out]
      exact ⟨ao2, cap2, rfl, hr2, hb2⟩
    · have HV : Hid (putV (2 * n) = putI n) := by show _ = _; unfold putI; rw [if_pos hn, if_neg hneg]
      have cp := sPutNum (2 * n) w
      clear hn
      go_enter Try.func17, Try.ntmps17
      go_wp2_with (first | (go_at_call 25; refine (call _).mono ?_; rintro e w2 ⟨rfl, hw⟩; have hw := hw.symm; subst hw) | (go_at_call 9; refine cp.mono ?_; rintro e w2 ⟨ao2, cap2, rfl, hr2, hb2⟩))
      go_ret
      rw [← HV.out]
      exact ⟨ao2, cap2, rfl, hr2, hb2⟩
  · rw [decide_eq_false hn] at call
    have HV : Hid (putI n = []) := by show _ = _; unfold putI; rw [if_neg hn]
    have h0 := row_new w
    clear hn
    go_enter Try.func17, Try.ntmps17
    go_wp2_with (go_at_call 25; refine (call _).mono ?_; rintro e w2 ⟨rfl, hw⟩; have hw := hw.symm; subst hw)
    go_ret
    rw [HV.out]
    exact ⟨_, _, rfl, h0, (Below.refl _ w).alloc (Nat.le_refl _) _⟩

theorem str_rd {w : World} {s : ByteArray} {cap n m : Nat} : Rd (w.alloc (.cells (bytesRow s cap) 5 (n, m))) (some ⟨w.heap.size, 0, none⟩) s.data.toList := fun i x hi => by
  have hil := (List.getElem?_eq_some_iff.1 hi).1
  refine ⟨_, 0, rfl, by simp, ?_⟩
  have h0 : (w.alloc (.cells (bytesRow s cap) 5 (n, m))).heap[w.heap.size]? = some (.cells (bytesRow s cap) 5 (n, m)) := heap_alloc_new w _
  rw [Nat.zero_add, cell_of_row _ _ i _ _ _ h0, bytesRow_at s cap i (by simpa using hil)]
  have : s.data[i]'(by simpa using hil) = x := by
    have := (List.getElem?_eq_some_iff.1 hi).2
    simpa using this
  rw [this]

set_option maxRecDepth 100000 in
theorem sPutText (s : ByteArray) (hs : s.size ≤ 1048576) (w : World) : Calls Try.prog 21 #[.string s] w (Ans w (putT s.data.toList)) := by
  have cp := sPutNum (s.size : Int) w
  have hcv := fun w => run_bytes_of_string (P := Try.prog) w 9 22 5 s Try.underlying9 Try.underlying22 Try.underlying5
  have hP : Hid (putV (s.size : Int) ++ s.data.toList = putT s.data.toList) := rfl
  have R1 : Hid ((putV (s.size : Int)).length + s.data.toList.length ≤ 1099511627776) := by
    have := putV_len (s.size : Int)
    have e : s.data.toList.length = s.size := rfl
    show _ ≤ _
    omega
  have bs : (s.size : Int) ≤ 1048576 := by omega
  clear hs
  go_enter Try.func21, Try.ntmps21
  go_wp2_with (first | (go_at_call 9; refine cp.mono ?_; rintro e w2 ⟨ao2, cap2, rfl, hr2, hb2⟩) | (at_builtin; refine app_row rfl _ _ rfl _ _ _ rfl (Row.alloc (w := w2.drew) hr2 _) s.data.toList _ _ rfl str_rd R1.out (Nat.le_trans hb2.size (by simp)) ?_; intro ao3 cap3 w3 hr3 hb3))
  go_ret
  rw [hP.out] at hr3 
  have el := congrArg List.length hP.out
  simp only [List.length_append] at el
  have hd : Below w.heap.size w w2.drew := ⟨hb2.os, hb2.tape, hb2.output, hb2.size, hb2.block⟩
  refine ⟨ao3, cap3, ?_, hr3, (hd.alloc hb2.size _).trans hb3⟩
  rw [← el]
  simp

theorem iPutNum (n : Int) (w : World) : Calls Try.prog 10 #[.int .i64 n] w (Ans w (putV n)) := by
  by_cases h0 : 0 ≤ n
  · by_cases h1 : n ≤ 4611686018427387903
    · obtain ⟨x, rfl⟩ : ∃ x : Nat, n = (x : Int) := ⟨n.toNat, by omega⟩
      rw [putV_of (by omega)]
      have call := iPutN (x := x) (Row.nil w.heap.size w) (by omega) (by simp) (Nat.le_refl _)
      rw [List.nil_append] at call
      go_enter Try.func10, Try.ntmps10
      go_wp2_with (go_at_call 26; refine call.mono ?_; rintro e w2 ⟨ao2, cap2, rfl, hr2, hb2⟩)
      go_ret
      exact ⟨ao2, cap2, rfl, hr2, hb2⟩
    · have HV : Hid (putV n = []) := by show _ = _; unfold putV; rw [if_neg (by omega)]
      go_enter Try.func10, Try.ntmps10
      go_wp2_with fail
      go_ret
      rw [HV.out]
      exact ⟨_, _, rfl, Row.nil _ _, Below.refl _ _⟩
  · have HV : Hid (putV n = []) := by show _ = _; unfold putV; rw [if_neg (by omega)]
    have hn : n < 0 := by omega
    go_enter Try.func10, Try.ntmps10
    go_wp2_with fail
    go_ret
    rw [HV.out]
    exact ⟨_, _, rfl, Row.nil _ _, Below.refl _ _⟩

theorem iPutInt (n : Int) (w : World) : Calls Try.prog 18 #[.int .i64 n] w (Ans w (putI n)) := by
  by_cases h0 : -2305843009213693951 ≤ n
  · by_cases h1 : n ≤ 2305843009213693951
    · have call := iPutI (Row.nil w.heap.size w) h0 h1 (by simp) (Nat.le_refl _)
      rw [List.nil_append] at call
      go_enter Try.func18, Try.ntmps18
      go_wp2_with (go_at_call 29; refine call.mono ?_; rintro e w2 ⟨ao2, cap2, rfl, hr2, hb2⟩)
      go_ret
      exact ⟨ao2, cap2, rfl, hr2, hb2⟩
    · have HV : Hid (putI n = []) := by show _ = _; unfold putI; rw [if_neg (by omega)]
      go_enter Try.func18, Try.ntmps18
      go_wp2_with fail
      go_ret
      rw [HV.out]
      exact ⟨_, _, rfl, Row.nil _ _, Below.refl _ _⟩
  · have HV : Hid (putI n = []) := by show _ = _; unfold putI; rw [if_neg (by omega)]
    go_enter Try.func18, Try.ntmps18
    go_wp2_with fail
    go_ret
    rw [HV.out]
    exact ⟨_, _, rfl, Row.nil _ _, Below.refl _ _⟩

theorem iPutText (s : ByteArray) (hs : s.size ≤ 1048576) (w : World) : Calls Try.prog 22 #[.string s] w (Ans w (putT s.data.toList)) := by
  have call := iPutS (s := s) (Row.nil w.heap.size w) hs (by simp) (Nat.le_refl _)
  rw [List.nil_append] at call
  go_enter Try.func22, Try.ntmps22
  go_wp2_with (go_at_call 31; refine call.mono ?_; rintro e w2 ⟨ao2, cap2, rfl, hr2, hb2⟩)
  go_ret
  exact ⟨ao2, cap2, rfl, hr2, hb2⟩

end Bt
end Go.Proofs.Ytmhmoopijfhhbaa
