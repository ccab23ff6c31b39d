/-
  Chapter 1 as plain functions on integers (millionths), and the arithmetic that the walks of DecMul and DecDiv need. Nothing of the program stands here.
-/
import Derived.WalkKit
namespace Go.Proofs.YtoaahcpmmkngjajDoor.Dec

def okB (n : Int) : Bool := decide (-9000000000000 ≤ n) && decide (n ≤ 9000000000000)
theorem okB_true {n : Int} (h1 : -9000000000000 ≤ n) (h2 : n ≤ 9000000000000) : okB n = true := by simp [okB, h1, h2]
theorem okB_false {n : Int} (h : n < -9000000000000 ∨ 9000000000000 < n) : okB n = false := by simp [okB]; omega
theorem of_okB {n : Int} (h : okB n = true) : -9000000000000 ≤ n ∧ n ≤ 9000000000000 := by simpa [okB] using h
theorem of_okB_false {n : Int} (h : okB n = false) : n < -9000000000000 ∨ 9000000000000 < n := by
  have : ¬ (-9000000000000 ≤ n ∧ n ≤ 9000000000000) := fun hh => by rw [okB_true hh.1 hh.2] at h; cases h
  omega

def addB (d e : Int) : Bool := okB d && okB e && okB (d + e)
def addV (d e : Int) : Int := if addB d e then d + e else 0
def subB (d e : Int) : Bool := okB d && okB e && okB (d - e)
def subV (d e : Int) : Int := if subB d e then d - e else 0
def mulB (d e : Int) : Bool := okB d && okB e && okB ((d * e).tdiv 1000000)
def mulV (d e : Int) : Int := if mulB d e then (d * e).tdiv 1000000 else 0
def divB (d e : Int) : Bool := okB d && okB e && !(e == 0) && okB ((d * 1000000).tdiv e)
def divV (d e : Int) : Int := if divB d e then (d * 1000000).tdiv e else 0

def absI (d : Int) : Int := if d < 0 then -d else d
theorem absI_neg {d : Int} (h : d < 0) : absI d = -d := by simp [absI, h]
theorem absI_pos {d : Int} (h : 0 ≤ d) : absI d = d := by simp [absI]; omega
theorem absI_nonneg (d : Int) : 0 ≤ absI d := by unfold absI; split <;> omega
theorem absI_le {d k : Int} (h1 : -k ≤ d) (h2 : d ≤ k) : absI d ≤ k := by unfold absI; split <;> omega
theorem absI_ne {d : Int} (h : d ≠ 0) : 0 < absI d := by unfold absI; split <;> omega
theorem absI_mul (d e : Int) : absI (d * e) = absI d * absI e := by
  rcases Int.lt_or_le d 0 with hd | hd <;> rcases Int.lt_or_le e 0 with he | he
  · have h := Int.mul_nonneg (a := -d) (b := -e) (by omega) (by omega)
    rw [Int.neg_mul_neg] at h
    rw [absI_neg hd, absI_neg he, absI_pos h, Int.neg_mul_neg]
  · rw [absI_neg hd, absI_pos he]
    have h : 0 ≤ (-d) * e := Int.mul_nonneg (by omega) he
    rw [Int.neg_mul] at h ⊢
    unfold absI; split <;> omega
  · rw [absI_pos hd, absI_neg he]
    have h : 0 ≤ d * (-e) := Int.mul_nonneg hd (by omega)
    rw [Int.mul_neg] at h ⊢
    unfold absI; split <;> omega
  · rw [absI_pos hd, absI_pos he, absI_pos (Int.mul_nonneg hd he)]
theorem absI_le_iff {d k : Int} (_ : 0 ≤ k) : absI d ≤ k ↔ -k ≤ d ∧ d ≤ k := by unfold absI; split <;> omega
theorem absI_tdiv (m : Int) (k : Int) (hk : 0 < k) : absI (m.tdiv k) = absI m / k := by
  rcases Int.lt_or_le m 0 with h | h
  · have e : m.tdiv k = -((-m) / k) := by
      have : m = -(-m) := by omega
      rw [this, Int.neg_tdiv, Int.tdiv_eq_ediv_of_nonneg (by omega)]; simp
    rw [e, absI_neg h]
    have : 0 ≤ (-m) / k := Int.ediv_nonneg (by omega) (by omega)
    unfold absI; split <;> omega
  · rw [Int.tdiv_eq_ediv_of_nonneg h, absI_pos h, absI_pos (Int.ediv_nonneg h (by omega))]

end Go.Proofs.YtoaahcpmmkngjajDoor.Dec
