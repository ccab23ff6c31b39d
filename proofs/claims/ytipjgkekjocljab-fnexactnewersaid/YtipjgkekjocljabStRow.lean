/-
  Rows of equal length in a block; a state's values and cells.
-/
import Derived.Test.YtipjgkekjocljabProg
import Derived.WalkKit
import Derived.Laws.MakeOwn
import Derived.Below
namespace Go.Proofs.Ytipjgkekjocljab
open Go.RowKit
namespace St

theorem fm_len {α : Type} {f : α → List Value} {m : Nat} (hf : ∀ x, (f x).length = m) : ∀ vs : List α, (vs.flatMap f).length = vs.length * m
  | [] => by simp
  | x :: vs => by rw [List.flatMap_cons, List.length_append, hf, fm_len hf vs, List.length_cons, Nat.succ_mul]; omega
theorem fm_get {α : Type} {f : α → List Value} {m : Nat} (hm : 0 < m) (hf : ∀ x, (f x).length = m) : ∀ (vs : List α) (p : Nat), (vs.flatMap f)[p]? = (vs[p / m]?).bind fun x => (f x)[p % m]?
  | [], p => by simp
  | x :: vs, p => by
    rw [List.flatMap_cons]
    by_cases h : p < m
    · rw [List.getElem?_append_left (by rw [hf]; exact h), Nat.div_eq_of_lt h, Nat.mod_eq_of_lt h]
      rfl
    · rw [List.getElem?_append_right (by rw [hf]; omega), hf, fm_get hm hf vs (p - m)]
      have e1 : p / m = (p - m) / m + 1 := Nat.div_eq_sub_div hm (by omega)
      have e2 : p % m = (p - m) % m := Nat.mod_eq_sub_mod (by omega)
      rw [e1, e2]
      rfl

/-- A list put over another from place i on. -/
def setL (l : List Value) (i : Nat) : List Value → List Value
  | [] => l
  | x :: xs => setL (l.set i x) (i + 1) xs
theorem setL_get : ∀ (xs l : List Value) (i p : Nat), (setL l i xs)[p]? = if i ≤ p ∧ p < i + xs.length ∧ p < l.length then xs[p - i]? else l[p]?
  | [], l, i, p => by rw [setL, if_neg (by simp; omega)]
  | x :: xs, l, i, p => by
    rw [setL, setL_get xs, List.length_set, List.length_cons, List.getElem?_set]
    by_cases h : i + 1 ≤ p ∧ p < i + 1 + xs.length ∧ p < l.length
    · rw [if_pos h, if_pos (by omega), show p - i = (p - (i + 1)) + 1 by omega, List.getElem?_cons_succ]
    · rw [if_neg h]
      by_cases hp : i = p
      · subst hp
        by_cases hl : i < l.length
        · rw [if_pos rfl, if_pos hl, if_pos (by omega), Nat.sub_self, List.getElem?_cons_zero]
        · rw [if_pos rfl, if_neg hl, if_neg (by omega), List.getElem?_eq_none (by omega)]
      · rw [if_neg hp, if_neg (by omega)]
theorem fm_set {α : Type} {f : α → List Value} {m : Nat} (hm : 0 < m) (hf : ∀ x, (f x).length = m) {vs : List α} {k : Nat} (hk : k < vs.length) (v : α) : setL (vs.flatMap f) (k * m) (f v) = (vs.set k v).flatMap f := by
  apply List.ext_getElem?
  intro p
  rw [setL_get, fm_get hm hf, fm_get hm hf, hf, fm_len hf, List.getElem?_set]
  have hd := Nat.div_add_mod p m
  have hl := Nat.mod_lt p hm
  by_cases hp : k = p / m
  · subst hp
    have hmul : (p / m + 1) * m ≤ vs.length * m := Nat.mul_le_mul_right m hk
    rw [Nat.succ_mul] at hmul
    rw [Nat.mul_comm] at hd
    rw [if_pos ⟨by omega, by omega, by omega⟩, if_pos rfl, if_pos hk, Option.bind_some]
    congr 1
    omega
  · rw [if_neg hp, if_neg]
    rintro ⟨h1, h2, _⟩
    apply hp
    have := Nat.div_eq_of_lt_le (m := p) (n := m) (k := k) (by omega) (by rw [Nat.succ_mul]; omega)
    exact this.symm

/-- Values put one behind the other into a block. -/
def putL (w : World) (g : Nat) : Nat → List Value → World
  | _, [] => w
  | i, x :: xs => putL (w.setCell ⟨g, i, none⟩ x) g (i + 1) xs
theorem putL_heap {g : Nat} {T : TypeId} : ∀ (xs : List Value) (w : World) (i : Nat) (l : List Value), w.heap[g]? = some (.cells l.toArray T (0, 0)) → (putL w g i xs).heap[g]? = some (.cells (setL l i xs).toArray T (0, 0))
  | [], _, _, _, h => h
  | x :: xs, w, i, l, h => by
    rw [putL, setL]
    refine putL_heap xs _ _ _ ?_
    have : (l.set i x).toArray = l.toArray.set! i x := by apply Array.ext'; simp
    rw [this]
    simp [World.setCell, Array.getElem?_modify, h]
theorem below_putL {B : Nat} {W : World} {g : Nat} (hg : B ≤ g) : ∀ (xs : List Value) (w : World) (i : Nat), Below B W w → Below B W (putL w g i xs)
  | [], _, _, h => h
  | _ :: xs, _, _, h => below_putL hg xs _ _ (h.setCell hg _)
theorem putL_other {g k : Nat} (hk : k ≠ g) : ∀ (xs : List Value) (w : World) (i : Nat), (putL w g i xs).heap[k]? = w.heap[k]?
  | [], _, _ => rfl
  | x :: xs, w, i => by rw [putL, putL_other hk xs, Below.heap_setCell _ _ _ _ hk]
theorem putL_size {g : Nat} : ∀ (xs : List Value) (w : World) (i : Nat), (putL w g i xs).heap.size = w.heap.size
  | [], _, _ => rfl
  | x :: xs, w, i => by rw [putL, putL_size xs]; simp

/-- Rows of a block of their own. -/
def Rows {α : Type} (T : TypeId) (f : α → List Value) (w : World) (g : Nat) (vs : List α) : Prop := w.heap[g]? = some (.cells (vs.flatMap f).toArray T (0, 0))
theorem Rows.lt {α : Type} {T : TypeId} {f : α → List Value} {w : World} {g : Nat} {vs : List α} (h : Rows T f w g vs) : g < w.heap.size := by
  unfold Rows at h
  by_cases h' : g < w.heap.size
  · exact h'
  · rw [Array.getElem?_eq_none (by omega)] at h; cases h
theorem Rows.kept {α : Type} {T : TypeId} {f : α → List Value} {w w' : World} {g : Nat} {vs : List α} (h : Rows T f w g vs) (hw : w'.heap[g]? = w.heap[g]?) : Rows T f w' g vs := hw.trans h
theorem Rows.frozen {α : Type} {T : TypeId} {f : α → List Value} {w : World} {g : Nat} {vs : List α} (h : Rows T f w g vs) (k : Nat) : w.frozen? ⟨g, k, none⟩ = false := by
  unfold Rows at h
  simp [World.frozen?, h]
theorem Rows.cell {α : Type} {T : TypeId} {f : α → List Value} {m : Nat} (hf : ∀ x, (f x).length = m) {w : World} {g : Nat} {vs : List α} (h : Rows T f w g vs) {i j : Nat} {v : α} {x : Value} (hv : vs[i]? = some v) (hx : (f v)[j]? = some x) : w.cell? ⟨g, i * m + j, none⟩ = some x := by
  have hj : j < m := by rw [← hf v]; exact (List.getElem?_eq_some_iff.1 hx).1
  have hd : (i * m + j) / m = i := by rw [Nat.mul_comm, Nat.mul_add_div (by omega), Nat.div_eq_of_lt hj, Nat.add_zero]
  have hr : (i * m + j) % m = j := by rw [Nat.mul_comm, Nat.mul_add_mod, Nat.mod_eq_of_lt hj]
  have hg := fm_get (by omega) hf vs (i * m + j)
  rw [hd, hr, hv, Option.bind_some, hx] at hg
  unfold Rows at h
  simp only [World.cell?, h]
  simpa using hg
theorem Rows.set {α : Type} {T : TypeId} {f : α → List Value} {m : Nat} (hm : 0 < m) (hf : ∀ x, (f x).length = m) {w : World} {g : Nat} {vs : List α} (h : Rows T f w g vs) {k : Nat} (hk : k < vs.length) (v : α) : Rows T f (putL w g (k * m) (f v)) g (vs.set k v) := by
  unfold Rows at h ⊢
  rw [← fm_set hm hf hk]
  exact putL_heap _ _ _ _ h
theorem made_rows {α : Type} {f : α → List Value} {m : Nat} (hm : 0 < m) (hf : ∀ x, (f x).length = m) (z : α) (n : Nat) : madeCells (f z).toArray (n * m) = ((List.replicate n z).flatMap f).toArray := by
  apply Array.ext_getElem?
  intro p
  have e : ∀ l : List Value, l.toArray[p]? = l[p]? := fun l => by simp
  rw [e ((List.replicate n z).flatMap f), fm_get hm hf, List.getElem?_replicate]
  have hl := Nat.mod_lt p hm
  by_cases hp : p < n * m
  · have hd : p / m < n := (Nat.div_lt_iff_lt_mul hm).2 hp
    rw [if_pos hd, Option.bind_some]
    have hz : p % m < (f z).length := by rw [hf]; exact hl
    simp only [madeCells, Array.getElem?_map, Array.getElem?_range, hp, if_true, Option.map_some, List.size_toArray, hf]
    rw [List.getElem?_eq_getElem hz]
    congr 1
    rw [getElem!_pos _ _ (by simpa using hz)]
    rfl
  · have hd : ¬ p / m < n := fun h => hp ((Nat.div_lt_iff_lt_mul hm).1 h)
    rw [if_neg hd]
    simp [madeCells, hp]

abbrev Vl := Int × Int × ByteArray
abbrev Cl := Int × ByteArray × Vl
def encV (v : Vl) : List Value := [.int .i64 v.1, .int .i64 v.2.1, .string v.2.2]
def encC (c : Cl) : List Value := [.int .i64 c.1, .string c.2.1, .int .i64 c.2.2.1, .int .i64 c.2.2.2.1, .string c.2.2.2.2]
def zeroV : Vl := (0, 0, ⟨#[]⟩)
def zeroC : Cl := (0, ⟨#[]⟩, zeroV)
theorem encV_len (v : Vl) : (encV v).length = 3 := rfl
theorem encC_len (c : Cl) : (encC c).length = 5 := rfl

/-- Values that are read. -/
def RdV (w : World) (ao : Option Addr) (vs : List Vl) : Prop := ∀ i v, vs[i]? = some v → ∃ b o, ao = some ⟨b, o, none⟩ ∧ b < w.heap.size ∧ v.2.2.size ≤ maxLen ∧
  w.cell? ⟨b, o + i * 3, none⟩ = some (.int .i64 v.1) ∧ w.cell? ⟨b, o + i * 3 + 1, none⟩ = some (.int .i64 v.2.1) ∧ w.cell? ⟨b, o + i * 3 + 2, none⟩ = some (.string v.2.2)
/-- Cells of a state that are read. -/
def RdC (w : World) (ao : Option Addr) (cs : List Cl) : Prop := ∀ i c, cs[i]? = some c → ∃ b o, ao = some ⟨b, o, none⟩ ∧ b < w.heap.size ∧ c.2.1.size ≤ maxLen ∧ c.2.2.2.2.size ≤ maxLen ∧
  w.cell? ⟨b, o + i * 5, none⟩ = some (.int .i64 c.1) ∧ w.cell? ⟨b, o + i * 5 + 1, none⟩ = some (.string c.2.1) ∧ w.cell? ⟨b, o + i * 5 + 2, none⟩ = some (.int .i64 c.2.2.1) ∧ w.cell? ⟨b, o + i * 5 + 3, none⟩ = some (.int .i64 c.2.2.2.1) ∧ w.cell? ⟨b, o + i * 5 + 4, none⟩ = some (.string c.2.2.2.2)
theorem RdV.below {W w : World} {ao : Option Addr} {vs : List Vl} (h : RdV W ao vs) (hb : Below W.heap.size W w) : RdV w ao vs := by
  intro i v hi
  obtain ⟨b, o, e, hl, hs, c0, c1, c2⟩ := h i v hi
  have hc : ∀ k, w.cell? ⟨b, k, none⟩ = W.cell? ⟨b, k, none⟩ := fun k => hb.cell (p := ⟨b, k, none⟩) hl
  exact ⟨b, o, e, Nat.lt_of_lt_of_le hl hb.size, hs, (hc _).trans c0, (hc _).trans c1, (hc _).trans c2⟩
theorem RdC.below {W w : World} {ao : Option Addr} {cs : List Cl} (h : RdC W ao cs) (hb : Below W.heap.size W w) : RdC w ao cs := by
  intro i c hi
  obtain ⟨b, o, e, hl, hs, hs2, c0, c1, c2, c3, c4⟩ := h i c hi
  have hc : ∀ k, w.cell? ⟨b, k, none⟩ = W.cell? ⟨b, k, none⟩ := fun k => hb.cell (p := ⟨b, k, none⟩) hl
  exact ⟨b, o, e, Nat.lt_of_lt_of_le hl hb.size, hs, hs2, (hc _).trans c0, (hc _).trans c1, (hc _).trans c2, (hc _).trans c3, (hc _).trans c4⟩

end St
end Go.Proofs.Ytipjgkekjocljab
