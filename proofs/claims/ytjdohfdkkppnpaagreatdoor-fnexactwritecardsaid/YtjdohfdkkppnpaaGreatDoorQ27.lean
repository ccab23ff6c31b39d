/-
  A number as text: the program's text and DecText.
-/
import Derived.Test.YtjdohfdkkppnpaaGreatDoorQ13
import Derived.Test.YtjdohfdkkppnpaaGreatDoorQ05
import Derived.Test.YtjdohfdkkppnpaaGreatDoorQ09
import Derived.Lib.ItoaLen
import Derived.Lib.AppendIntMem
namespace Go.Proofs.YtjdohfdkkppnpaaGreatDoor
open Go.RowKit Go.Extern.Stop Go.Stop Go.Extern

theorem below_grow' (w : World) (k : Nat) (os : Array Obj) : Below w.heap.size w (Sort.grow (w.drewN k) os) := Lib.below_grow w.heap.size w (Nat.le_refl _) k os
theorem tab_later {W w : World} (hT : Lib.TabIs Tryz.prog W "internal/strconv.uint64pow10" .u64 Lib.pow10Tab) (hb : Below W.heap.size W w) : Lib.TabIs Tryz.prog w "internal/strconv.uint64pow10" .u64 Lib.pow10Tab := Lib.tabBelow_of_tabIs hT w hb
theorem itoa_nat {n : Int} (h : 0 ≤ n) : Lib.itoa n = Lib.decDigits n.toNat := by unfold Lib.itoa; rw [if_neg (by omega)]
theorem dec_size {n : Nat} (h : n < 18446744073709551616) : (⟨(Lib.decDigits n).toArray⟩ : ByteArray).size ≤ 20 := by
  rw [Lib.size_mk, Lib.decDigits_length]; exact Lib.nDigits_le20 n h
/-- strconv.Itoa of a number from 0 on, in any world that has grown -/
theorem itoa_later (n : Int) (h0 : 0 ≤ n) (h1 : n ≤ 9223372036854775807) (W w : World) (hT : Lib.TabIs Tryz.prog W "internal/strconv.uint64pow10" .u64 Lib.pow10Tab) (hb : Below W.heap.size W w) :
    Calls Tryz.prog 124 #[.int .i64 n] w fun e w' => e = .returned (.string ⟨(Lib.decDigits n.toNat).toArray⟩) ∧ Below W.heap.size W w' := by
  refine (Tryz.strconv_Itoa n (by omega) h1 w (tab_later hT hb)).mono ?_
  rintro e w' ⟨rfl, k, os, rfl⟩
  rw [itoa_nat h0]
  exact ⟨rfl, hb.trans ((below_grow' w k os).mono hb.size)⟩

theorem text_pos_int (x : Int) (w : World) (hT : Lib.TabIs Tryz.prog w "internal/strconv.uint64pow10" .u64 Lib.pow10Tab) (h0 : 0 ≤ x) (h1 : x ≤ 9000000000000) :
    Calls Tryz.prog 109 #[.int .i64 x] w fun e w' => e = .returned (.string ⟨(Num.textL x).toArray⟩) ∧ Below w.heap.size w w' := by
  have hi1 := fun w1 (hb : Below w.heap.size w w1) => itoa_later (x / 1000000) (by omega) (by omega) w w1 hT hb
  have hi2 := fun w1 (hb : Below w.heap.size w w1) => itoa_later (1000000 + x % 1000000) (by omega) (by omega) w w1 hT hb
  obtain ⟨Q, hQ⟩ : ∃ Q : ByteArray, Q = ⟨(Lib.decDigits (x / 1000000).toNat).toArray⟩ := ⟨_, rfl⟩
  obtain ⟨D, hD⟩ : ∃ D : ByteArray, D = ⟨(Lib.decDigits (1000000 + x % 1000000).toNat).toArray⟩ := ⟨_, rfl⟩
  have hQs : Q.size ≤ 20 := by rw [hQ]; exact dec_size (by omega)
  have hDs : D.size = 7 := by
    rw [hD, Lib.size_mk]
    obtain ⟨E, e, e6, _⟩ := Num.seven (r := (x % 1000000).toNat) (by omega)
    rw [show (1000000 + x % 1000000).toNat = 1000000 + (x % 1000000).toNat by omega, e]; simp [e6]
  have htr := fun w => Tryz.strings_TrimRight_one (D.extract 1 D.size) 48 (by decide) w (by simp; omega)
  obtain ⟨T, hTr⟩ : ∃ T : ByteArray, T = ⟨(Lib.trimRightB (D.extract 1 D.size).data.toList 48).toArray⟩ := ⟨_, rfl⟩
  rw [← hTr] at htr
  rw [← hQ] at hi1
  rw [← hD] at hi2
  have hTs : T.size ≤ 6 := by
    rw [hTr, Lib.size_mk]
    have h := congrArg List.length (Num.trim_back (D.extract 1 D.size).data.toList 48)
    have h2 : (D.extract 1 D.size).data.toList.length = 6 := by rw [Lib.extract_from]; simp; omega
    rw [h2] at h
    simp only [List.length_append, List.length_replicate] at h; omega
  have hD1 : 1 ≤ D.size := by omega
  have hD2 : D.size ≤ 7 := by omega
  have habs : Dec.absI x = x := Dec.absI_pos h0
  by_cases hr : x % 1000000 = 0
  · have HE : Hid ((⟨(Num.textL x).toArray⟩ : ByteArray) = Q) := by
      show _ = _
      unfold Num.textL; rw [habs, if_neg (by omega), if_pos hr, hQ]; simp
    clear hTr hQ hD htr hi2 habs hDs
    go_enter Tryz.func109, Tryz.ntmps109
    go_wp2_with (first | (go_at_call 124; with_reducible refine (hi1 _ ?_).mono ?_; exact Below.refl _ _; rintro e w1 ⟨rfl, hb1⟩) | go_in)
    go_ret
    exact ⟨by rw [HE.out]; rfl, hb1⟩
  · have hrb : (x % 1000000 == 0) = false := by simp [hr]
    have HE : Hid ((⟨(Num.textL x).toArray⟩ : ByteArray) = Q ++ ⟨#[46]⟩ ++ T) := by
      show _ = _
      unfold Num.textL
      rw [habs, if_neg (by omega), if_neg hr, hTr, Lib.extract_from, hD, hQ]
      apply ByteArray.ext
      simp
    clear hTr hQ hD habs hDs
    go_enter Tryz.func109, Tryz.ntmps109
    go_wp2_with (first | (go_at_call 124; with_reducible refine (hi1 _ ?_).mono ?_; exact Below.refl _ _; rintro e w1 ⟨rfl, hb1⟩) | (go_at_call 124; with_reducible refine (hi2 _ ?_).mono ?_; exact hb1; rintro e w2 ⟨rfl, hb2⟩) | (go_at_call 125; refine (htr _).mono ?_; rintro e w' ⟨rfl, hw⟩; have hw := hw.symm; subst hw) | go_in)
    go_ret
    exact ⟨by rw [HE.out]; rfl, hb2⟩
theorem text_neg_int (x : Int) (w : World) (hT : Lib.TabIs Tryz.prog w "internal/strconv.uint64pow10" .u64 Lib.pow10Tab) (h0 : 0 < x) (h1 : x ≤ 9000000000000) :
    Calls Tryz.prog 109 #[.int .i64 (-x)] w fun e w' => e = .returned (.string ⟨(Num.textL (-x)).toArray⟩) ∧ Below w.heap.size w w' := by
  have hi1 := fun w1 (hb : Below w.heap.size w w1) => itoa_later (x / 1000000) (by omega) (by omega) w w1 hT hb
  have hi2 := fun w1 (hb : Below w.heap.size w w1) => itoa_later (1000000 + x % 1000000) (by omega) (by omega) w w1 hT hb
  obtain ⟨Q, hQ⟩ : ∃ Q : ByteArray, Q = ⟨(Lib.decDigits (x / 1000000).toNat).toArray⟩ := ⟨_, rfl⟩
  obtain ⟨D, hD⟩ : ∃ D : ByteArray, D = ⟨(Lib.decDigits (1000000 + x % 1000000).toNat).toArray⟩ := ⟨_, rfl⟩
  have hQs : Q.size ≤ 20 := by rw [hQ]; exact dec_size (by omega)
  have hDs : D.size = 7 := by
    rw [hD, Lib.size_mk]
    obtain ⟨E, e, e6, _⟩ := Num.seven (r := (x % 1000000).toNat) (by omega)
    rw [show (1000000 + x % 1000000).toNat = 1000000 + (x % 1000000).toNat by omega, e]; simp [e6]
  have htr := fun w => Tryz.strings_TrimRight_one (D.extract 1 D.size) 48 (by decide) w (by simp; omega)
  obtain ⟨T, hTr⟩ : ∃ T : ByteArray, T = ⟨(Lib.trimRightB (D.extract 1 D.size).data.toList 48).toArray⟩ := ⟨_, rfl⟩
  rw [← hTr] at htr
  rw [← hQ] at hi1
  rw [← hD] at hi2
  have hTs : T.size ≤ 6 := by
    rw [hTr, Lib.size_mk]
    have h := congrArg List.length (Num.trim_back (D.extract 1 D.size).data.toList 48)
    have h2 : (D.extract 1 D.size).data.toList.length = 6 := by rw [Lib.extract_from]; simp; omega
    rw [h2] at h
    simp only [List.length_append, List.length_replicate] at h; omega
  have hD1 : 1 ≤ D.size := by omega
  have hD2 : D.size ≤ 7 := by omega
  have habs : Dec.absI (-x) = x := by rw [Dec.absI_neg (by omega)]; omega
  by_cases hr : x % 1000000 = 0
  · have HE : Hid ((⟨(Num.textL (-x)).toArray⟩ : ByteArray) = ⟨#[45]⟩ ++ Q) := by
      show _ = _
      unfold Num.textL; rw [habs, if_pos (by omega), if_pos hr, hQ]
      apply ByteArray.ext
      simp
    clear hTr hQ hD htr hi2 habs hDs
    go_enter Tryz.func109, Tryz.ntmps109
    go_wp2_with (first | (go_at_call 124; with_reducible refine (hi1 _ ?_).mono ?_; exact Below.refl _ _; rintro e w1 ⟨rfl, hb1⟩) | go_in)
    go_ret
    exact ⟨by rw [HE.out]; rfl, hb1⟩
  · have hrb : (x % 1000000 == 0) = false := by simp [hr]
    have HE : Hid ((⟨(Num.textL (-x)).toArray⟩ : ByteArray) = ⟨#[45]⟩ ++ Q ++ ⟨#[46]⟩ ++ T) := by
      show _ = _
      unfold Num.textL
      rw [habs, if_pos (by omega), if_neg hr, hTr, Lib.extract_from, hD, hQ]
      apply ByteArray.ext
      simp
    clear hTr hQ hD habs hDs
    go_enter Tryz.func109, Tryz.ntmps109
    go_wp2_with (first | (go_at_call 124; with_reducible refine (hi1 _ ?_).mono ?_; exact Below.refl _ _; rintro e w1 ⟨rfl, hb1⟩) | (go_at_call 124; with_reducible refine (hi2 _ ?_).mono ?_; exact hb1; rintro e w2 ⟨rfl, hb2⟩) | (go_at_call 125; refine (htr _).mono ?_; rintro e w' ⟨rfl, hw⟩; have hw := hw.symm; subst hw) | go_in)
    go_ret
    exact ⟨by rw [HE.out]; rfl, hb2⟩

theorem iDecText (x : Int) (a : Addr) (w : World) (hc : w.cell? ⟨3, 0, none⟩ = some (.iface 226 (.pointer (some a)))) (hT : Lib.TabIs Tryz.prog w "internal/strconv.uint64pow10" .u64 Lib.pow10Tab) :
    Calls Tryz.prog 82 #[.int .i64 x] w fun e w' => e = .returned (.string ⟨(Num.decTextL x).toArray⟩) ∧ Below w.heap.size w w' := by
  cases h : Dec.okB x with
  | false =>
    have e : (⟨(Num.decTextL x).toArray⟩ : ByteArray) = ⟨#[]⟩ := by unfold Num.decTextL; rw [h]; rfl
    rw [e]
    go_enter Tryz.func82, Tryz.ntmps82
    go_wp2_with (go_at_call 108; refine (iDecOk _ a _ hc).mono ?_; rintro e w' ⟨rfl, n, rfl⟩)
    go_ret
    exact ⟨rfl, below_drewN (Below.refl _ _) _⟩
  | true =>
    obtain ⟨h1, h2⟩ := Dec.of_okB h
    have e : Num.decTextL x = Num.textL x := by unfold Num.decTextL; rw [h]; rfl
    rw [e]
    have ht : ∀ n, Calls Tryz.prog 109 #[.int .i64 x] (w.drewN n) fun e w' => e = .returned (.string ⟨(Num.textL x).toArray⟩) ∧ Below w.heap.size w w' := by
      intro n
      have hb : Below w.heap.size w (w.drewN n) := below_drewN (Below.refl _ _) n
      have hT' := tab_later hT hb
      have key : Calls Tryz.prog 109 #[.int .i64 x] (w.drewN n) fun e w' => e = .returned (.string ⟨(Num.textL x).toArray⟩) ∧ Below (w.drewN n).heap.size (w.drewN n) w' := by
        rcases Int.lt_or_le x 0 with hx | hx
        · have := text_neg_int (-x) (w.drewN n) hT' (by omega) (by omega)
          rw [Int.neg_neg] at this; exact this
        · exact text_pos_int x (w.drewN n) hT' hx h2
      exact key.mono fun e w' ⟨k1, k2⟩ => ⟨k1, hb.trans (k2.mono hb.size)⟩
    clear e h1 h2
    generalize (⟨(Num.textL x).toArray⟩ : ByteArray) = B at *
    go_enter Tryz.func82, Tryz.ntmps82
    go_wp2_with (first | (go_at_call 108; refine (iDecOk _ a _ hc).mono ?_; rintro e w' ⟨rfl, n, rfl⟩) | (go_at_call 109; refine (ht _).mono ?_; rintro e w1 ⟨rfl, hb1⟩))
    go_ret
    exact ⟨rfl, hb1⟩
end Go.Proofs.YtjdohfdkkppnpaaGreatDoor

