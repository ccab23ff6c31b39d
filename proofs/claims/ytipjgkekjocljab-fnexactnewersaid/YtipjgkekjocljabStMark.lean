/-
  The laws' marks of values; the law FnExactStateNew.
-/
import Derived.Test.YtipjgkekjocljabStVal
namespace Go.Proofs.Ytipjgkekjocljab
open Go.RowKit
namespace St
open Nd Mk

/-- One cell of a row is set. -/
theorem Rows.set1 {α : Type} {T : TypeId} {f : α → List Value} {m : Nat} (hf : ∀ x, (f x).length = m) {w : World} {g : Nat} {vs : List α} (h : Rows T f w g vs) {k j : Nat} {v v' : α} {x : Value} (hv : vs[k]? = some v) (hj : j < m) (hx : f v' = (f v).set j x) : Rows T f (w.setCell ⟨g, k * m + j, none⟩ x) g (vs.set k v') := by
  have hk : k < vs.length := (List.getElem?_eq_some_iff.1 hv).1
  have hm : 0 < m := by omega
  unfold Rows at h ⊢
  have e : ((vs.set k v').flatMap f).toArray = ((vs.flatMap f).toArray).set! (k * m + j) x := by
    apply Array.ext'
    simp only [Array.set!_eq_setIfInBounds, Array.toList_setIfInBounds]
    apply List.ext_getElem?
    intro p
    have hl := Nat.mod_lt p hm
    rw [List.getElem?_set, fm_get hm hf, fm_get hm hf, fm_len hf, List.getElem?_set]
    by_cases hp : k = p / m
    · subst hp
      have hd := Nat.div_add_mod p m
      rw [Nat.mul_comm] at hd
      rw [if_pos rfl, if_pos hk, Option.bind_some, hv, Option.bind_some, hx, List.getElem?_set, hf]
      by_cases hq : j = p % m
      · rw [if_pos hq, if_pos hj, if_pos (by omega), if_pos]
        have : (p / m + 1) * m ≤ vs.length * m := Nat.mul_le_mul_right m hk
        rw [Nat.succ_mul] at this
        omega
      · rw [if_neg hq, if_neg (by omega)]
    · rw [if_neg hp, if_neg]
      intro hq
      apply hp
      rw [← hq, Nat.mul_comm, Nat.mul_add_div hm, Nat.div_eq_of_lt hj, Nat.add_zero]
  rw [e]
  simp [World.setCell, Array.getElem?_modify, h]

def mkV (k j : Nat) : Vl := (((k + 3 * j : Nat) : Int), ((k + 3 * j + 1 : Nat) : Int), markT (k + 3 * j + 2))
def mkVs (k n : Nat) : List Vl := (List.range n).map (mkV k)
theorem mkVs_len (k n : Nat) : (mkVs k n).length = n := by simp [mkVs]
theorem mkVs_get {k n j : Nat} (h : j < n) : (mkVs k n)[j]? = some (mkV k j) := by simp [mkVs, h]

theorem turned_set {S : Nat → Prop} {v : Value} {w w' : World} {g : Nat} (h : Turned S v w w') (hv : v.ownBlock = some g) (i : Nat) (x : Value) : Turned S v w (w'.setCell ⟨g, i, none⟩ x) :=
  ⟨h.os, h.tape, h.output, by simpa using h.size, fun j hj hn hne => by
    rw [Below.heap_setCell _ _ _ _ (fun e => hne (by rw [hv, e]))]
    exact h.block j hj hn hne⟩
theorem turned_below {S : Nat → Prop} {v : Value} {w w' w'' : World} (h : Turned S v w w') (hb : Below w'.heap.size w' w'') : Turned S v w w'' :=
  ⟨hb.os.trans h.os, hb.tape.trans h.tape, hb.output.trans h.output, Nat.le_trans h.size hb.size, fun j hj hn hne => (hb.block j (Nat.lt_of_lt_of_le hj h.size)).trans (h.block j hj hn hne)⟩

theorem turned_shift {S : Nat → Prop} {v : Value} {w w' : World} {o : Obj} (h : Turned S v (w.alloc o) w') : Turned S v w w' :=
  ⟨h.os, h.tape, h.output, by have := h.size; simp at this; omega, fun j hj hn hne => (h.block j (by simp; omega) hn hne).trans (Below.heap_alloc _ _ _ hj)⟩

theorem rdc_nil (w : World) : RdC w none [] := fun i c h => by simp at h
theorem zero_small (n : Nat) : ∀ v ∈ List.replicate n zeroV, v.2.2.size ≤ maxLen := fun v h => by rw [List.eq_of_mem_replicate h]; exact Nat.zero_le _

end St
end Go.Proofs.Ytipjgkekjocljab
