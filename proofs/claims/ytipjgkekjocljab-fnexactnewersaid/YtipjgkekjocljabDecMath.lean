/-
  Chapter 1 as plain functions on integers (millionths), and the arithmetic that the walks of DecMul and DecDiv need. Nothing of the program stands here.
-/
import Derived.WalkKit
namespace Go.Proofs.Ytipjgkekjocljab.Dec

def okB (n : Int) : Bool := decide (-9000000000000 ≤ n) && decide (n ≤ 9000000000000)
theorem okB_true {n : Int} (h1 : -9000000000000 ≤ n) (h2 : n ≤ 9000000000000) : okB n = true := by simp [okB, h1, h2]
theorem okB_false {n : Int} (h : n < -9000000000000 ∨ 9000000000000 < n) : okB n = false := by simp [okB]; omega
theorem of_okB {n : Int} (h : okB n = true) : -9000000000000 ≤ n ∧ n ≤ 9000000000000 := by simpa [okB] using h
theorem of_okB_false {n : Int} (h : okB n = false) : n < -9000000000000 ∨ 9000000000000 < n := by
  have : ¬ (-9000000000000 ≤ n ∧ n ≤ 9000000000000) := fun hh => by rw [okB_true hh.1 hh.2] at h; cases h
  omega

def addB (d e : Int) : Bool := okB d && okB e && okB (d + e)
def addV (d e : Int) : Int := if addB d e then d + e else 0
def subB (d e : Int) : Bool := okB d && okB e && okB (d - e)
def subV (d e : Int) : Int := if subB d e then d - e else 0
def mulB (d e : Int) : Bool := okB d && okB e && okB ((d * e).tdiv 1000000)
def mulV (d e : Int) : Int := if mulB d e then (d * e).tdiv 1000000 else 0
def divB (d e : Int) : Bool := okB d && okB e && !(e == 0) && okB ((d * 1000000).tdiv e)
def divV (d e : Int) : Int := if divB d e then (d * 1000000).tdiv e else 0

def absI (d : Int) : Int := if d < 0 then -d else d
theorem absI_neg {d : Int} (h : d < 0) : absI d = -d := by simp [absI, h]
theorem absI_pos {d : Int} (h : 0 ≤ d) : absI d = d := by simp [absI]; omega
theorem absI_nonneg (d : Int) : 0 ≤ absI d := by unfold absI; split <;> omega
theorem absI_le {d k : Int} (h1 : -k ≤ d) (h2 : d ≤ k) : absI d ≤ k := by unfold absI; split <;> omega
theorem absI_ne {d : Int} (h : d ≠ 0) : 0 < absI d := by unfold absI; split <;> omega
theorem absI_mul (d e : Int) : absI (d * e) = absI d * absI e := by
  rcases Int.lt_or_le d 0 with hd | hd <;> rcases Int.lt_or_le e 0 with he | he
  · have h := Int.mul_nonneg (a := -d) (b := -e) (by omega) (by omega)
    rw [Int.neg_mul_neg] at h
    rw [absI_neg hd, absI_neg he, absI_pos h, Int.neg_mul_neg]
  · rw [absI_neg hd, absI_pos he]
    have h : 0 ≤ (-d) * e := Int.mul_nonneg (by omega) he
    rw [Int.neg_mul] at h ⊢
    unfold absI; split <;> omega
  · rw [absI_pos hd, absI_neg he]
    have h : 0 ≤ d * (-e) := Int.mul_nonneg hd (by omega)
    rw [Int.mul_neg] at h ⊢
    unfold absI; split <;> omega
  · rw [absI_pos hd, absI_pos he, absI_pos (Int.mul_nonneg hd he)]
theorem absI_le_iff {d k : Int} (_ : 0 ≤ k) : absI d ≤ k ↔ -k ≤ d ∧ d ≤ k := by unfold absI; split <;> omega
theorem absI_tdiv (m : Int) (k : Int) (hk : 0 < k) : absI (m.tdiv k) = absI m / k := by
  rcases Int.lt_or_le m 0 with h | h
  · have e : m.tdiv k = -((-m) / k) := by
      have : m = -(-m) := by omega
      rw [this, Int.neg_tdiv, Int.tdiv_eq_ediv_of_nonneg (by omega)]; simp
    rw [e, absI_neg h]
    have : 0 ≤ (-m) / k := Int.ediv_nonneg (by omega) (by omega)
    unfold absI; split <;> omega
  · rw [Int.tdiv_eq_ediv_of_nonneg h, absI_pos h, absI_pos (Int.ediv_nonneg h (by omega))]

/-! The product. -/
theorem quo_iff {x y : Int} (hy : 0 < y) : x ≤ (9000000000000999999 : Int).tdiv y ↔ x * y ≤ 9000000000000999999 := by
  rw [Int.tdiv_eq_ediv_of_nonneg (by decide)]
  exact Int.le_ediv_iff_mul_le hy
theorem quo_bd {y : Int} (hy : 0 < y) : 0 ≤ (9000000000000999999 : Int).tdiv y ∧ (9000000000000999999 : Int).tdiv y ≤ 9000000000000999999 := by
  rw [Int.tdiv_eq_ediv_of_nonneg (by decide)]
  exact ⟨Int.ediv_nonneg (by decide) (by omega), Int.ediv_le_self _ (by decide)⟩
theorem prod_ok {d e : Int} (h : absI d * absI e ≤ 9000000000000999999) : okB ((d * e).tdiv 1000000) = true := by
  have h1 := absI_tdiv (d * e) 1000000 (by decide)
  rw [absI_mul] at h1
  have h2 : absI ((d * e).tdiv 1000000) ≤ 9000000000000 := by rw [h1]; omega
  obtain ⟨a, b⟩ := (absI_le_iff (by decide)).1 h2
  exact okB_true a b
theorem prod_bad {d e : Int} (h : 9000000000000999999 < absI d * absI e) : okB ((d * e).tdiv 1000000) = false := by
  have h1 := absI_tdiv (d * e) 1000000 (by decide)
  rw [absI_mul] at h1
  cases hb : okB ((d * e).tdiv 1000000) with
  | false => rfl
  | true =>
    obtain ⟨a, b⟩ := of_okB hb
    have h2 : absI ((d * e).tdiv 1000000) ≤ 9000000000000 := absI_le a b
    rw [h1] at h2
    omega
theorem prod_bd {d e : Int} (h : absI d * absI e ≤ 9000000000000999999) : -9000000000000999999 ≤ d * e ∧ d * e ≤ 9000000000000999999 := by
  rw [← absI_mul] at h
  exact (absI_le_iff (by decide)).1 h

/-! The product as the specification reckons it: x is the first amount, y the second. -/
theorem split_prod (x y : Int) : x * y = 1000000 * (x / 1000000 * y) + x % 1000000 * y := by
  have h := Int.mul_ediv_add_emod x 1000000
  have h2 : (1000000 * (x / 1000000) + x % 1000000) * y = x * y := by rw [h]
  rw [← h2, Int.add_mul, Int.mul_assoc]
theorem parts_quo (x y : Int) : x / 1000000 * y + x % 1000000 * y / 1000000 = x * y / 1000000 := by
  have h := split_prod x y
  omega
theorem whole_far {x y : Int} (hy : 0 < y) (h : 9000000000000 / y < x / 1000000) : 9000000000000999999 < x * y := by
  have h1 : 9000000000000 < x / 1000000 * y := Int.lt_mul_of_ediv_lt hy h
  have h2 := split_prod x y
  have h3 : 0 ≤ x % 1000000 * y := Int.mul_nonneg (Int.emod_nonneg _ (by decide)) (by omega)
  omega
theorem whole_near {x y : Int} (hy : 0 < y) (h : x / 1000000 ≤ 9000000000000 / y) : x / 1000000 * y ≤ 9000000000000 := (Int.le_ediv_iff_mul_le hy).1 h
theorem rest_bd {x y : Int} (hy : 0 ≤ y) (h : y ≤ 9000000000000) : 0 ≤ x % 1000000 * y ∧ x % 1000000 * y ≤ 8999991000000000000 := by
  have h0 := Int.emod_nonneg x (b := 1000000) (by decide)
  have h1 := Int.emod_lt_of_pos x (b := 1000000) (by decide)
  refine ⟨Int.mul_nonneg h0 hy, ?_⟩
  have : x % 1000000 * y ≤ 999999 * 9000000000000 := Int.mul_le_mul (by omega) h hy (by decide)
  omega
theorem tdiv_same {d e : Int} (h : d < 0 ↔ e < 0) : (d * e).tdiv 1000000 = absI d * absI e / 1000000 := by
  rw [← absI_mul]
  have : 0 ≤ d * e := by
    by_cases hd : d < 0
    · have he := h.1 hd
      have := Int.mul_nonneg (a := -d) (b := -e) (by omega) (by omega)
      rwa [Int.neg_mul_neg] at this
    · exact Int.mul_nonneg (by omega) (by have : ¬ e < 0 := fun he => hd (h.2 he); omega)
  rw [absI_pos this, Int.tdiv_eq_ediv_of_nonneg this]
theorem tdiv_other {d e : Int} (h : d < 0 ↔ 0 ≤ e) : (d * e).tdiv 1000000 = -(absI d * absI e / 1000000) := by
  rw [← absI_mul]
  have : 0 ≤ -(d * e) := by
    by_cases hd : d < 0
    · have he := h.1 hd
      have := Int.mul_nonneg (a := -d) (b := e) (by omega) he
      rwa [Int.neg_mul] at this
    · have he : ¬ 0 ≤ e := fun he => hd (h.2 he)
      have := Int.mul_nonneg (a := d) (b := -e) (by omega) (by omega)
      rwa [Int.mul_neg] at this
  have e1 : d * e = -(-(d * e)) := by omega
  have e2 : absI (d * e) = -(d * e) := by unfold absI; split <;> omega
  rw [e2]
  conv => lhs; rw [e1, Int.neg_tdiv, Int.tdiv_eq_ediv_of_nonneg this]

/-! The quotient. -/
theorem tdiv_bd {m e k : Int} (h1 : -k ≤ m) (h2 : m ≤ k) : -k ≤ m.tdiv e ∧ m.tdiv e ≤ k := by
  have h3 : (m.tdiv e).natAbs ≤ m.natAbs := by rw [Int.natAbs_tdiv]; exact Nat.div_le_self _ _
  omega

end Go.Proofs.Ytipjgkekjocljab.Dec
