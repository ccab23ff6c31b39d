/-
  Numbers as bytes, plain: seven bits a byte, the low ones first, as few bytes as there can be.
-/
import Derived.Lib.VarintMem
import Derived.Lib.VarintBits
import Derived.Lib.QuoteBits
namespace Go.Proofs.Ytmhmoopijfhhbaa
namespace Bt
open Go.Lib

/-- The greatest number that is written. -/
def big : Nat := 4611686018427387903
/-- A number's bytes; nothing of others. -/
def putV (n : Int) : List UInt8 := if 0 ≤ n ∧ n ≤ 4611686018427387903 then Lib.uvarint n.toNat else []
/-- A number of either sign. -/
def putI (n : Int) : List UInt8 := if -2305843009213693951 ≤ n ∧ n ≤ 2305843009213693951 then (if n < 0 then putV (-2 * n - 1) else putV (2 * n)) else []
def putT (s : List UInt8) : List UInt8 := putV s.length ++ s

/-- What is read behind k bytes that told n: the number and how many bytes it has in all. -/
def getL (k n : Nat) : List UInt8 → Option (Nat × Nat)
  | [] => none
  | d :: r => if 9 ≤ k then none else if d.toNat < 128 then (if (0 < k ∧ d.toNat = 0) ∨ 4611686018427387903 < n + d.toNat * 2 ^ (7 * k) then none else some (n + d.toNat * 2 ^ (7 * k), k + 1)) else getL (k + 1) (n + (d.toNat - 128) * 2 ^ (7 * k)) r
/-- The number at a place, and the place behind it. -/
def getV (b : List UInt8) (i : Int) : Option (Nat × Nat) := if 0 ≤ i then (getL 0 0 (b.drop i.toNat)).map fun x => (x.1, i.toNat + x.2) else none
/-- A number of either sign out of one that has none. -/
def unz (n : Nat) : Int := if n % 2 = 1 then -1 - ((n / 2 : Nat) : Int) else ((n / 2 : Nat) : Int)
def getI (b : List UInt8) (i : Int) : Option (Int × Nat) := (getV b i).bind fun x => if unz x.1 < -2305843009213693951 then none else some (unz x.1, x.2)
def getT (b : List UInt8) (i : Int) : Option (List UInt8 × Nat) := (getV b i).bind fun x => if b.length < x.2 + x.1 then none else some ((b.drop x.2).take x.1, x.2 + x.1)

theorem getL_nine {k n : Nat} (h : 9 ≤ k) (l : List UInt8) : getL k n l = none := by
  cases l with
  | nil => rfl
  | cons d r => rw [getL, if_pos h]
theorem getL_facts : ∀ (l : List UInt8) (k n m c : Nat), getL k n l = some (m, c) → m ≤ 4611686018427387903 ∧ k < c ∧ c ≤ 9 ∧ c ≤ k + l.length
  | [], _, _, _, _, h => by simp [getL] at h
  | d :: r, k, n, m, c, h => by
    rw [getL] at h
    split at h
    · simp at h
    · split at h
      · split at h
        · simp at h
        · simp only [Option.some.injEq, Prod.mk.injEq] at h
          obtain ⟨rfl, rfl⟩ := h
          simp only [List.length_cons]
          omega
      · have := getL_facts r _ _ _ _ h
        simp only [List.length_cons]
        omega
theorem getV_facts {b : List UInt8} {i : Int} {n j : Nat} (h : getV b i = some (n, j)) : n ≤ 4611686018427387903 ∧ 0 ≤ i ∧ i < j ∧ j ≤ b.length := by
  unfold getV at h
  split at h
  · rename_i h0
    simp only [Option.map_eq_some_iff, Prod.mk.injEq] at h
    obtain ⟨⟨m, c⟩, hg, rfl, rfl⟩ := h
    have := getL_facts _ _ _ _ _ hg
    rw [List.length_drop] at this
    refine ⟨this.1, h0, ?_, ?_⟩ <;> simp only <;> omega
  · simp at h

/-- What is written is read. -/
theorem get_put : ∀ (y k n : Nat) (r : List UInt8), n + y * 2 ^ (7 * k) ≤ 4611686018427387903 → (k = 0 ∨ 0 < y) → getL k n (Lib.uvarint y ++ r) = some (n + y * 2 ^ (7 * k), k + (Lib.uvarint y).length) := by
  intro y
  induction y using Nat.strongRecOn with
  | _ y ih =>
    intro k n r hb h0
    have hk : k ≤ 8 := by
      rcases h0 with h0 | h0
      · omega
      · refine Nat.le_of_not_lt fun h => ?_
        have h1 : 2 ^ 63 ≤ 2 ^ (7 * k) := Nat.pow_le_pow_right (by decide) (by omega)
        have h2 : 1 * 2 ^ (7 * k) ≤ y * 2 ^ (7 * k) := Nat.mul_le_mul_right _ h0
        omega
    by_cases h128 : 128 ≤ y
    · rw [Lib.uvarint_big h128]
      have hd : ((y % 128 + 128).toUInt8).toNat = y % 128 + 128 := Lib.toUInt8_toNat (by omega)
      rw [List.cons_append, getL, if_neg (by omega), hd, if_neg (by omega)]
      have e : n + (y % 128 + 128 - 128) * 2 ^ (7 * k) + y / 128 * 2 ^ (7 * (k + 1)) = n + y * 2 ^ (7 * k) := by
        have h2 : 2 ^ (7 * (k + 1)) = 128 * 2 ^ (7 * k) := by rw [Nat.mul_add, Nat.pow_add]; omega
        rw [h2, Nat.add_sub_cancel]
        generalize 2 ^ (7 * k) = q
        have h3 : y * q = (y % 128) * q + (y / 128) * (128 * q) := by
          rw [← Nat.mul_assoc, ← Nat.add_mul]
          congr 1
          omega
        omega
      rw [ih (y / 128) (by omega) (k + 1) _ r (by rw [e]; exact hb) (.inr (by omega)), e]
      simp only [List.length_cons, Option.some.injEq, Prod.mk.injEq, true_and]
      omega
    · rw [Lib.uvarint_small (by omega)]
      have hd : (y.toUInt8).toNat = y := Lib.toUInt8_toNat (by omega)
      rw [List.cons_append, getL, if_neg (by omega), hd, if_pos (by omega), if_neg (by omega)]
      rfl

/-- What is read is written so. -/
theorem put_get : ∀ (l : List UInt8) (k n m c : Nat), getL k n l = some (m, c) → ∃ y, m = n + y * 2 ^ (7 * k) ∧ Lib.uvarint y = l.take (c - k) ∧ (k = 0 ∨ 0 < y)
  | [], _, _, _, _, h => by simp [getL] at h
  | d :: r, k, n, m, c, h => by
    rw [getL] at h
    split at h
    · simp at h
    · split at h
      · rename_i hd
        split at h
        · simp at h
        · rename_i hz
          simp only [Option.some.injEq, Prod.mk.injEq] at h
          obtain ⟨rfl, rfl⟩ := h
          refine ⟨d.toNat, rfl, ?_, by omega⟩
          rw [Lib.uvarint_small hd, Nat.add_sub_cancel_left]
          simp
      · rename_i hd
        obtain ⟨y, h1, h2, h3⟩ := put_get r _ _ _ _ h
        have hf := getL_facts _ _ _ _ _ h
        have hlt := d.toNat_lt
        refine ⟨(d.toNat - 128) + y * 128, ?_, ?_, by omega⟩
        · rw [h1, Nat.mul_add, Nat.pow_add, Nat.add_mul, Nat.mul_assoc y 128, Nat.mul_comm 128, Nat.add_assoc]
        · have hy : 0 < y := by omega
          rw [Lib.uvarint_big (by omega)]
          have e1 : ((d.toNat - 128) + y * 128) % 128 = d.toNat - 128 := by omega
          have e2 : ((d.toNat - 128) + y * 128) / 128 = y := by omega
          have e3 : (d.toNat - 128 + 128).toUInt8 = d := by
            rw [show d.toNat - 128 + 128 = d.toNat by omega]
            simp
          rw [e1, e2, e3, h2, show c - k = (c - (k + 1)) + 1 by omega, List.take_succ_cons]

/-- Bits that lie apart: a sum. -/
theorem or_apart {k n d : Nat} (hk : k ≤ 8) (hn : n < 2 ^ (7 * k)) (hd : d < 128) : bits .or .i64 (n : Int) ((d * 2 ^ (7 * k) : Nat) : Int) = ((n + d * 2 ^ (7 * k) : Nat) : Int) := by
  have h63 : 2 ^ (7 * k + 7) ≤ 2 ^ 63 := Nat.pow_le_pow_right (by decide) (by omega)
  have hs : n + d * 2 ^ (7 * k) < 2 ^ (7 * k + 7) := by
    rw [Nat.pow_add]
    have : d * 2 ^ (7 * k) ≤ 127 * 2 ^ (7 * k) := Nat.mul_le_mul_right _ (by omega)
    omega
  show IntKind.i64.wrap ((BitVec.ofInt 64 (n : Int) ||| BitVec.ofInt 64 ((d * 2 ^ (7 * k) : Nat) : Int)).toNat : Int) = _
  rw [BitVec.toNat_or, ofInt_u64 _ (by omega), ofInt_u64 _ (by omega)]
  have e : n ||| d * 2 ^ (7 * k) = n + d * 2 ^ (7 * k) := by
    rw [Nat.or_comm, ← Nat.shiftLeft_eq, ← Nat.shiftLeft_add_eq_or_of_lt hn, Nat.add_comm]
  rw [e]
  exact Lib.wrap_i64_small _ (by omega)

end Bt
end Go.Proofs.Ytmhmoopijfhhbaa
