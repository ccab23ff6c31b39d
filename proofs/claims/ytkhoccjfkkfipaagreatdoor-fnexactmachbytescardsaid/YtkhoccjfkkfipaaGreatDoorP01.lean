/-
  Rows of equal length in a block; a state's values and cells.
  Numbers as bytes, plain: seven bits a byte, the low ones first, as few bytes as there can be.
-/
import Derived.Test.YtkhoccjfkkfipaaGreatDoorProg
import Derived.WalkKit
import Derived.Laws.MakeOwn
import Derived.Below
import Derived.Lib.VarintMem
import Derived.Lib.VarintBits
import Derived.Lib.QuoteBits
namespace Go.Proofs.YtkhoccjfkkfipaaGreatDoor
open Go.RowKit
namespace St

theorem fm_len {α : Type} {f : α → List Value} {m : Nat} (hf : ∀ x, (f x).length = m) : ∀ vs : List α, (vs.flatMap f).length = vs.length * m
  | [] => by simp
  | x :: vs => by rw [List.flatMap_cons, List.length_append, hf, fm_len hf vs, List.length_cons, Nat.succ_mul]; omega
theorem fm_get {α : Type} {f : α → List Value} {m : Nat} (hm : 0 < m) (hf : ∀ x, (f x).length = m) : ∀ (vs : List α) (p : Nat), (vs.flatMap f)[p]? = (vs[p / m]?).bind fun x => (f x)[p % m]?
  | [], p => by simp
  | x :: vs, p => by
    rw [List.flatMap_cons]
    by_cases h : p < m
    · rw [List.getElem?_append_left (by rw [hf]; exact h), Nat.div_eq_of_lt h, Nat.mod_eq_of_lt h]
      rfl
    · rw [List.getElem?_append_right (by rw [hf]; omega), hf, fm_get hm hf vs (p - m)]
      have e1 : p / m = (p - m) / m + 1 := Nat.div_eq_sub_div hm (by omega)
      have e2 : p % m = (p - m) % m := Nat.mod_eq_sub_mod (by omega)
      rw [e1, e2]
      rfl

/-- A list put over another from place i on. -/
def setL (l : List Value) (i : Nat) : List Value → List Value
  | [] => l
  | x :: xs => setL (l.set i x) (i + 1) xs
theorem setL_get : ∀ (xs l : List Value) (i p : Nat), (setL l i xs)[p]? = if i ≤ p ∧ p < i + xs.length ∧ p < l.length then xs[p - i]? else l[p]?
  | [], l, i, p => by rw [setL, if_neg (by simp; omega)]
  | x :: xs, l, i, p => by
    rw [setL, setL_get xs, List.length_set, List.length_cons, List.getElem?_set]
    by_cases h : i + 1 ≤ p ∧ p < i + 1 + xs.length ∧ p < l.length
    · rw [if_pos h, if_pos (by omega), show p - i = (p - (i + 1)) + 1 by omega, List.getElem?_cons_succ]
    · rw [if_neg h]
      by_cases hp : i = p
      · subst hp
        by_cases hl : i < l.length
        · rw [if_pos rfl, if_pos hl, if_pos (by omega), Nat.sub_self, List.getElem?_cons_zero]
        · rw [if_pos rfl, if_neg hl, if_neg (by omega), List.getElem?_eq_none (by omega)]
      · rw [if_neg hp, if_neg (by omega)]
theorem fm_set {α : Type} {f : α → List Value} {m : Nat} (hm : 0 < m) (hf : ∀ x, (f x).length = m) {vs : List α} {k : Nat} (hk : k < vs.length) (v : α) : setL (vs.flatMap f) (k * m) (f v) = (vs.set k v).flatMap f := by
  apply List.ext_getElem?
  intro p
  rw [setL_get, fm_get hm hf, fm_get hm hf, hf, fm_len hf, List.getElem?_set]
  have hd := Nat.div_add_mod p m
  have hl := Nat.mod_lt p hm
  by_cases hp : k = p / m
  · subst hp
    have hmul : (p / m + 1) * m ≤ vs.length * m := Nat.mul_le_mul_right m hk
    rw [Nat.succ_mul] at hmul
    rw [Nat.mul_comm] at hd
    rw [if_pos ⟨by omega, by omega, by omega⟩, if_pos rfl, if_pos hk, Option.bind_some]
    congr 1
    omega
  · rw [if_neg hp, if_neg]
    rintro ⟨h1, h2, _⟩
    apply hp
    have := Nat.div_eq_of_lt_le (m := p) (n := m) (k := k) (by omega) (by rw [Nat.succ_mul]; omega)
    exact this.symm

/-- Values put one behind the other into a block. -/
def putL (w : World) (g : Nat) : Nat → List Value → World
  | _, [] => w
  | i, x :: xs => putL (w.setCell ⟨g, i, none⟩ x) g (i + 1) xs
theorem putL_heap {g : Nat} {T : TypeId} : ∀ (xs : List Value) (w : World) (i : Nat) (l : List Value), w.heap[g]? = some (.cells l.toArray T (0, 0)) → (putL w g i xs).heap[g]? = some (.cells (setL l i xs).toArray T (0, 0))
  | [], _, _, _, h => h
  | x :: xs, w, i, l, h => by
    rw [putL, setL]
    refine putL_heap xs _ _ _ ?_
    have : (l.set i x).toArray = l.toArray.set! i x := by apply Array.ext'; simp
    rw [this]
    simp [World.setCell, Array.getElem?_modify, h]
theorem below_putL {B : Nat} {W : World} {g : Nat} (hg : B ≤ g) : ∀ (xs : List Value) (w : World) (i : Nat), Below B W w → Below B W (putL w g i xs)
  | [], _, _, h => h
  | _ :: xs, _, _, h => below_putL hg xs _ _ (h.setCell hg _)
theorem putL_other {g k : Nat} (hk : k ≠ g) : ∀ (xs : List Value) (w : World) (i : Nat), (putL w g i xs).heap[k]? = w.heap[k]?
  | [], _, _ => rfl
  | x :: xs, w, i => by rw [putL, putL_other hk xs, Below.heap_setCell _ _ _ _ hk]
theorem putL_size {g : Nat} : ∀ (xs : List Value) (w : World) (i : Nat), (putL w g i xs).heap.size = w.heap.size
  | [], _, _ => rfl
  | x :: xs, w, i => by rw [putL, putL_size xs]; simp

/-- Rows of a block of their own. -/
def Rows {α : Type} (T : TypeId) (f : α → List Value) (w : World) (g : Nat) (vs : List α) : Prop := w.heap[g]? = some (.cells (vs.flatMap f).toArray T (0, 0))
theorem Rows.lt {α : Type} {T : TypeId} {f : α → List Value} {w : World} {g : Nat} {vs : List α} (h : Rows T f w g vs) : g < w.heap.size := by
  unfold Rows at h
  by_cases h' : g < w.heap.size
  · exact h'
  · rw [Array.getElem?_eq_none (by omega)] at h; cases h
theorem Rows.kept {α : Type} {T : TypeId} {f : α → List Value} {w w' : World} {g : Nat} {vs : List α} (h : Rows T f w g vs) (hw : w'.heap[g]? = w.heap[g]?) : Rows T f w' g vs := hw.trans h
theorem Rows.frozen {α : Type} {T : TypeId} {f : α → List Value} {w : World} {g : Nat} {vs : List α} (h : Rows T f w g vs) (k : Nat) : w.frozen? ⟨g, k, none⟩ = false := by
  unfold Rows at h
  simp [World.frozen?, h]
theorem Rows.cell {α : Type} {T : TypeId} {f : α → List Value} {m : Nat} (hf : ∀ x, (f x).length = m) {w : World} {g : Nat} {vs : List α} (h : Rows T f w g vs) {i j : Nat} {v : α} {x : Value} (hv : vs[i]? = some v) (hx : (f v)[j]? = some x) : w.cell? ⟨g, i * m + j, none⟩ = some x := by
  have hj : j < m := by rw [← hf v]; exact (List.getElem?_eq_some_iff.1 hx).1
  have hd : (i * m + j) / m = i := by rw [Nat.mul_comm, Nat.mul_add_div (by omega), Nat.div_eq_of_lt hj, Nat.add_zero]
  have hr : (i * m + j) % m = j := by rw [Nat.mul_comm, Nat.mul_add_mod, Nat.mod_eq_of_lt hj]
  have hg := fm_get (by omega) hf vs (i * m + j)
  rw [hd, hr, hv, Option.bind_some, hx] at hg
  unfold Rows at h
  simp only [World.cell?, h]
  simpa using hg
theorem Rows.set {α : Type} {T : TypeId} {f : α → List Value} {m : Nat} (hm : 0 < m) (hf : ∀ x, (f x).length = m) {w : World} {g : Nat} {vs : List α} (h : Rows T f w g vs) {k : Nat} (hk : k < vs.length) (v : α) : Rows T f (putL w g (k * m) (f v)) g (vs.set k v) := by
  unfold Rows at h ⊢
  rw [← fm_set hm hf hk]
  exact putL_heap _ _ _ _ h
theorem made_rows {α : Type} {f : α → List Value} {m : Nat} (hm : 0 < m) (hf : ∀ x, (f x).length = m) (z : α) (n : Nat) : madeCells (f z).toArray (n * m) = ((List.replicate n z).flatMap f).toArray := by
  apply Array.ext_getElem?
  intro p
  have e : ∀ l : List Value, l.toArray[p]? = l[p]? := fun l => by simp
  rw [e ((List.replicate n z).flatMap f), fm_get hm hf, List.getElem?_replicate]
  have hl := Nat.mod_lt p hm
  by_cases hp : p < n * m
  · have hd : p / m < n := (Nat.div_lt_iff_lt_mul hm).2 hp
    rw [if_pos hd, Option.bind_some]
    have hz : p % m < (f z).length := by rw [hf]; exact hl
    simp only [madeCells, Array.getElem?_map, Array.getElem?_range, hp, if_true, Option.map_some, List.size_toArray, hf]
    rw [List.getElem?_eq_getElem hz]
    congr 1
    rw [getElem!_pos _ _ (by simpa using hz)]
    rfl
  · have hd : ¬ p / m < n := fun h => hp ((Nat.div_lt_iff_lt_mul hm).1 h)
    rw [if_neg hd]
    simp [madeCells, hp]

abbrev Vl := Int × Int × ByteArray
abbrev Cl := Int × ByteArray × Vl
def encV (v : Vl) : List Value := [.int .i64 v.1, .int .i64 v.2.1, .string v.2.2]
def encC (c : Cl) : List Value := [.int .i64 c.1, .string c.2.1, .int .i64 c.2.2.1, .int .i64 c.2.2.2.1, .string c.2.2.2.2]
def zeroV : Vl := (0, 0, ⟨#[]⟩)
def zeroC : Cl := (0, ⟨#[]⟩, zeroV)
theorem encV_len (v : Vl) : (encV v).length = 3 := rfl
theorem encC_len (c : Cl) : (encC c).length = 5 := rfl

/-- Values that are read. -/
def RdV (w : World) (ao : Option Addr) (vs : List Vl) : Prop := ∀ i v, vs[i]? = some v → ∃ b o, ao = some ⟨b, o, none⟩ ∧ b < w.heap.size ∧ v.2.2.size ≤ maxLen ∧
  w.cell? ⟨b, o + i * 3, none⟩ = some (.int .i64 v.1) ∧ w.cell? ⟨b, o + i * 3 + 1, none⟩ = some (.int .i64 v.2.1) ∧ w.cell? ⟨b, o + i * 3 + 2, none⟩ = some (.string v.2.2)
/-- Cells of a state that are read. -/
def RdC (w : World) (ao : Option Addr) (cs : List Cl) : Prop := ∀ i c, cs[i]? = some c → ∃ b o, ao = some ⟨b, o, none⟩ ∧ b < w.heap.size ∧ c.2.1.size ≤ maxLen ∧ c.2.2.2.2.size ≤ maxLen ∧
  w.cell? ⟨b, o + i * 5, none⟩ = some (.int .i64 c.1) ∧ w.cell? ⟨b, o + i * 5 + 1, none⟩ = some (.string c.2.1) ∧ w.cell? ⟨b, o + i * 5 + 2, none⟩ = some (.int .i64 c.2.2.1) ∧ w.cell? ⟨b, o + i * 5 + 3, none⟩ = some (.int .i64 c.2.2.2.1) ∧ w.cell? ⟨b, o + i * 5 + 4, none⟩ = some (.string c.2.2.2.2)
theorem RdV.below {W w : World} {ao : Option Addr} {vs : List Vl} (h : RdV W ao vs) (hb : Below W.heap.size W w) : RdV w ao vs := by
  intro i v hi
  obtain ⟨b, o, e, hl, hs, c0, c1, c2⟩ := h i v hi
  have hc : ∀ k, w.cell? ⟨b, k, none⟩ = W.cell? ⟨b, k, none⟩ := fun k => hb.cell (p := ⟨b, k, none⟩) hl
  exact ⟨b, o, e, Nat.lt_of_lt_of_le hl hb.size, hs, (hc _).trans c0, (hc _).trans c1, (hc _).trans c2⟩
theorem RdC.below {W w : World} {ao : Option Addr} {cs : List Cl} (h : RdC W ao cs) (hb : Below W.heap.size W w) : RdC w ao cs := by
  intro i c hi
  obtain ⟨b, o, e, hl, hs, hs2, c0, c1, c2, c3, c4⟩ := h i c hi
  have hc : ∀ k, w.cell? ⟨b, k, none⟩ = W.cell? ⟨b, k, none⟩ := fun k => hb.cell (p := ⟨b, k, none⟩) hl
  exact ⟨b, o, e, Nat.lt_of_lt_of_le hl hb.size, hs, hs2, (hc _).trans c0, (hc _).trans c1, (hc _).trans c2, (hc _).trans c3, (hc _).trans c4⟩

end St
end Go.Proofs.YtkhoccjfkkfipaaGreatDoor
namespace Go.Proofs.YtkhoccjfkkfipaaGreatDoor
namespace Bt
open Go.Lib

/-- The greatest number that is written. -/
def big : Nat := 4611686018427387903
/-- A number's bytes; nothing of others. -/
def putV (n : Int) : List UInt8 := if 0 ≤ n ∧ n ≤ 4611686018427387903 then Lib.uvarint n.toNat else []
/-- A number of either sign. -/
def putI (n : Int) : List UInt8 := if -2305843009213693951 ≤ n ∧ n ≤ 2305843009213693951 then (if n < 0 then putV (-2 * n - 1) else putV (2 * n)) else []
def putT (s : List UInt8) : List UInt8 := putV s.length ++ s

/-- What is read behind k bytes that told n: the number and how many bytes it has in all. -/
def getL (k n : Nat) : List UInt8 → Option (Nat × Nat)
  | [] => none
  | d :: r => if 9 ≤ k then none else if d.toNat < 128 then (if (0 < k ∧ d.toNat = 0) ∨ 4611686018427387903 < n + d.toNat * 2 ^ (7 * k) then none else some (n + d.toNat * 2 ^ (7 * k), k + 1)) else getL (k + 1) (n + (d.toNat - 128) * 2 ^ (7 * k)) r
/-- The number at a place, and the place behind it. -/
def getV (b : List UInt8) (i : Int) : Option (Nat × Nat) := if 0 ≤ i then (getL 0 0 (b.drop i.toNat)).map fun x => (x.1, i.toNat + x.2) else none
/-- A number of either sign out of one that has none. -/
def unz (n : Nat) : Int := if n % 2 = 1 then -1 - ((n / 2 : Nat) : Int) else ((n / 2 : Nat) : Int)
def getI (b : List UInt8) (i : Int) : Option (Int × Nat) := (getV b i).bind fun x => if unz x.1 < -2305843009213693951 then none else some (unz x.1, x.2)
def getT (b : List UInt8) (i : Int) : Option (List UInt8 × Nat) := (getV b i).bind fun x => if b.length < x.2 + x.1 then none else some ((b.drop x.2).take x.1, x.2 + x.1)

theorem getL_nine {k n : Nat} (h : 9 ≤ k) (l : List UInt8) : getL k n l = none := by
  cases l with
  | nil => rfl
  | cons d r => rw [getL, if_pos h]
theorem getL_facts : ∀ (l : List UInt8) (k n m c : Nat), getL k n l = some (m, c) → m ≤ 4611686018427387903 ∧ k < c ∧ c ≤ 9 ∧ c ≤ k + l.length
  | [], _, _, _, _, h => by simp [getL] at h
  | d :: r, k, n, m, c, h => by
    rw [getL] at h
    split at h
    · simp at h
    · split at h
      · split at h
        · simp at h
        · simp only [Option.some.injEq, Prod.mk.injEq] at h
          obtain ⟨rfl, rfl⟩ := h
          simp only [List.length_cons]
          omega
      · have := getL_facts r _ _ _ _ h
        simp only [List.length_cons]
        omega
theorem getV_facts {b : List UInt8} {i : Int} {n j : Nat} (h : getV b i = some (n, j)) : n ≤ 4611686018427387903 ∧ 0 ≤ i ∧ i < j ∧ j ≤ b.length := by
  unfold getV at h
  split at h
  · rename_i h0
    simp only [Option.map_eq_some_iff, Prod.mk.injEq] at h
    obtain ⟨⟨m, c⟩, hg, rfl, rfl⟩ := h
    have := getL_facts _ _ _ _ _ hg
    rw [List.length_drop] at this
    refine ⟨this.1, h0, ?_, ?_⟩ <;> simp only <;> omega
  · simp at h

/-- What is written is read. -/
theorem get_put : ∀ (y k n : Nat) (r : List UInt8), n + y * 2 ^ (7 * k) ≤ 4611686018427387903 → (k = 0 ∨ 0 < y) → getL k n (Lib.uvarint y ++ r) = some (n + y * 2 ^ (7 * k), k + (Lib.uvarint y).length) := by
  intro y
  induction y using Nat.strongRecOn with
  | _ y ih =>
    intro k n r hb h0
    have hk : k ≤ 8 := by
      rcases h0 with h0 | h0
      · omega
      · refine Nat.le_of_not_lt fun h => ?_
        have h1 : 2 ^ 63 ≤ 2 ^ (7 * k) := Nat.pow_le_pow_right (by decide) (by omega)
        have h2 : 1 * 2 ^ (7 * k) ≤ y * 2 ^ (7 * k) := Nat.mul_le_mul_right _ h0
        omega
    by_cases h128 : 128 ≤ y
    · rw [Lib.uvarint_big h128]
      have hd : ((y % 128 + 128).toUInt8).toNat = y % 128 + 128 := Lib.toUInt8_toNat (by omega)
      rw [List.cons_append, getL, if_neg (by omega), hd, if_neg (by omega)]
      have e : n + (y % 128 + 128 - 128) * 2 ^ (7 * k) + y / 128 * 2 ^ (7 * (k + 1)) = n + y * 2 ^ (7 * k) := by
        have h2 : 2 ^ (7 * (k + 1)) = 128 * 2 ^ (7 * k) := by rw [Nat.mul_add, Nat.pow_add]; omega
        rw [h2, Nat.add_sub_cancel]
        generalize 2 ^ (7 * k) = q
        have h3 : y * q = (y % 128) * q + (y / 128) * (128 * q) := by
          rw [← Nat.mul_assoc, ← Nat.add_mul]
          congr 1
          omega
        omega
      rw [ih (y / 128) (by omega) (k + 1) _ r (by rw [e]; exact hb) (.inr (by omega)), e]
      simp only [List.length_cons, Option.some.injEq, Prod.mk.injEq, true_and]
      omega
    · rw [Lib.uvarint_small (by omega)]
      have hd : (y.toUInt8).toNat = y := Lib.toUInt8_toNat (by omega)
      rw [List.cons_append, getL, if_neg (by omega), hd, if_pos (by omega), if_neg (by omega)]
      rfl

/-- What is read is written so. -/
theorem put_get : ∀ (l : List UInt8) (k n m c : Nat), getL k n l = some (m, c) → ∃ y, m = n + y * 2 ^ (7 * k) ∧ Lib.uvarint y = l.take (c - k) ∧ (k = 0 ∨ 0 < y)
  | [], _, _, _, _, h => by simp [getL] at h
  | d :: r, k, n, m, c, h => by
    rw [getL] at h
    split at h
    · simp at h
    · split at h
      · rename_i hd
        split at h
        · simp at h
        · rename_i hz
          simp only [Option.some.injEq, Prod.mk.injEq] at h
          obtain ⟨rfl, rfl⟩ := h
          refine ⟨d.toNat, rfl, ?_, by omega⟩
          rw [Lib.uvarint_small hd, Nat.add_sub_cancel_left]
          simp
      · rename_i hd
        obtain ⟨y, h1, h2, h3⟩ := put_get r _ _ _ _ h
        have hf := getL_facts _ _ _ _ _ h
        have hlt := d.toNat_lt
        refine ⟨(d.toNat - 128) + y * 128, ?_, ?_, by omega⟩
        · rw [h1, Nat.mul_add, Nat.pow_add, Nat.add_mul, Nat.mul_assoc y 128, Nat.mul_comm 128, Nat.add_assoc]
        · have hy : 0 < y := by omega
          rw [Lib.uvarint_big (by omega)]
          have e1 : ((d.toNat - 128) + y * 128) % 128 = d.toNat - 128 := by omega
          have e2 : ((d.toNat - 128) + y * 128) / 128 = y := by omega
          have e3 : (d.toNat - 128 + 128).toUInt8 = d := by
            rw [show d.toNat - 128 + 128 = d.toNat by omega]
            simp
          rw [e1, e2, e3, h2, show c - k = (c - (k + 1)) + 1 by omega, List.take_succ_cons]

/-- Bits that lie apart: a sum. -/
theorem or_apart {k n d : Nat} (hk : k ≤ 8) (hn : n < 2 ^ (7 * k)) (hd : d < 128) : bits .or .i64 (n : Int) ((d * 2 ^ (7 * k) : Nat) : Int) = ((n + d * 2 ^ (7 * k) : Nat) : Int) := by
  have h63 : 2 ^ (7 * k + 7) ≤ 2 ^ 63 := Nat.pow_le_pow_right (by decide) (by omega)
  have hs : n + d * 2 ^ (7 * k) < 2 ^ (7 * k + 7) := by
    rw [Nat.pow_add]
    have : d * 2 ^ (7 * k) ≤ 127 * 2 ^ (7 * k) := Nat.mul_le_mul_right _ (by omega)
    omega
  show IntKind.i64.wrap ((BitVec.ofInt 64 (n : Int) ||| BitVec.ofInt 64 ((d * 2 ^ (7 * k) : Nat) : Int)).toNat : Int) = _
  rw [BitVec.toNat_or, ofInt_u64 _ (by omega), ofInt_u64 _ (by omega)]
  have e : n ||| d * 2 ^ (7 * k) = n + d * 2 ^ (7 * k) := by
    rw [Nat.or_comm, ← Nat.shiftLeft_eq, ← Nat.shiftLeft_add_eq_or_of_lt hn, Nat.add_comm]
  rw [e]
  exact Lib.wrap_i64_small _ (by omega)

end Bt
end Go.Proofs.YtkhoccjfkkfipaaGreatDoor
