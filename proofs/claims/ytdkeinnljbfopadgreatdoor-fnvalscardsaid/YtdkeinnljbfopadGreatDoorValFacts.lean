/-
  What FnVals asks of chapter 6's plain functions: what is read is right; a value is like itself; held the other way round the sign turns; what is read of a number's text is that number.
-/
import Derived.Test.YtdkeinnljbfopadGreatDoorValCmpI
import Derived.Test.YtdkeinnljbfopadGreatDoorDrawText
namespace Go.Proofs.YtdkeinnljbfopadGreatDoor
open Go.RowKit
namespace Vl

theorem read_ok (s : ByteArray) : okV (rdK s) (rdN s) (cutV s) = true := by
  have hs := cut_size s
  unfold rdK rdN
  cases h : Num.looksB (cutV s).data.toList with
  | true =>
    rw [if_pos rfl, if_pos rfl, ok_kind (Num.looksV_ok _) hs, kind3, h]
    simp
  | false =>
    rw [if_neg (by simp), if_neg (by simp), ok_kind (by decide) hs, kind2]
    rfl

theorem less_irr (x : List UInt8) : Op.bytesLess x x = false := by
  induction x with
  | nil => rfl
  | cons a x ih => simp [Op.bytesLess, ih]
theorem less_anti : ∀ (x y : List UInt8), Op.bytesLess y x = (!(Op.bytesLess x y) && !(x == y))
  | [], [] => by simp [Op.bytesLess]
  | [], b :: y => by simp [Op.bytesLess]
  | a :: x, [] => by simp [Op.bytesLess]
  | a :: x, b :: y => by
    have ih := less_anti x y
    simp only [Op.bytesLess]
    have tri : a < b ∨ a = b ∨ b < a := by
      rcases Nat.lt_trichotomy a.toNat b.toNat with h | h | h
      · exact .inl (UInt8.lt_iff_toNat_lt.2 h)
      · exact .inr (.inl (UInt8.toNat_inj.1 h))
      · exact .inr (.inr (UInt8.lt_iff_toNat_lt.2 h))
    rcases tri with h | h | h
    · have h1 : ¬ b < a := UInt8.lt_asymm h
      have h2 : (b == a) = false := by simp; intro e; subst e; exact absurd h (UInt8.lt_irrefl _)
      simp [h, h1, h2]
    · subst h
      have h1 : ¬ a < a := UInt8.lt_irrefl a
      simp [h1, ih]
    · have h1 : ¬ a < b := UInt8.lt_asymm h
      have h2 : (a == b) = false := by simp; intro e; subst e; exact absurd h (UInt8.lt_irrefl _)
      simp [h, h1, h2]
theorem cmpS_self (x : ByteArray) : cmpS x x = 0 := by simp [cmpS, less_irr]
theorem cmpS_turn (x y : ByteArray) : cmpS y x = 0 - cmpS x y := by
  unfold cmpS
  rw [less_anti x.toList y.toList]
  have he : (y.toList == x.toList) = (x.toList == y.toList) := Bool.beq_comm
  rw [he]
  cases h1 : Op.bytesLess x.toList y.toList with
  | true =>
    have : (x.toList == y.toList) = false := by
      cases h2 : (x.toList == y.toList) with
      | false => rfl
      | true =>
        rw [eq_of_beq h2, less_irr] at h1
        exact absurd h1 (by simp)
    simp [this]
  | false => cases h2 : (x.toList == y.toList) <;> simp
theorem cmpI_self (x : Int) : cmpI x x = 0 := by simp [cmpI]
theorem cmpI_turn (x y : Int) : cmpI y x = 0 - cmpI x y := by
  unfold cmpI
  split <;> split <;> simp_all <;> omega
theorem cmp_self (k n : Int) (s : ByteArray) : cmpV k n s k n s = 0 := by
  unfold cmpV; split
  · exact cmpS_self _
  · exact cmpI_self _
theorem cmp_turn (k n : Int) (s : ByteArray) (k1 n1 : Int) (s1 : ByteArray) : cmpV k1 n1 s1 k n s = 0 - cmpV k n s k1 n1 s1 := by
  by_cases h : k = 2 ∨ k1 = 2
  · rw [cmp_text h, cmp_text h.symm, cmpS_turn]
  · have h1 : k ≠ 2 := fun e => h (.inl e)
    have h2 : k1 ≠ 2 := fun e => h (.inr e)
    rw [cmp_num h1 h2, cmp_num h2 h1, cmpI_turn]
theorem cmp_bd (k n : Int) (s : ByteArray) (k1 n1 : Int) (s1 : ByteArray) : -1 ≤ cmpV k n s k1 n1 s1 ∧ cmpV k n s k1 n1 s1 ≤ 1 := by
  unfold cmpV cmpS cmpI
  split <;> split <;> (try split) <;> omega
/-- a number's text -/
def shown (x : Int) : ByteArray := ⟨(Num.decTextL x).toArray⟩
theorem shown_size (x : Int) : ((shown x).size : Int) ≤ 40 := by unfold shown; rw [Lib.size_mk]; exact text_len x
theorem read_shown {x : Int} (h : Dec.okB x = true) : numV (rdK (shown x)) (rdN (shown x)) (cutV (shown x)) = x := by
  have hs := shown_size x
  unfold rdK rdN
  rw [cut_short (by omega)]
  have hb : Num.looksB (shown x).data.toList = true := by
    have := Num.looks_shown x
    rw [h] at this
    simpa [shown] using this
  have hv : Num.looksV (shown x).data.toList = x := by simpa [shown] using Num.looks_value h
  rw [if_pos hb, if_pos hb, num3, hv]
end Vl
end Go.Proofs.YtdkeinnljbfopadGreatDoor
