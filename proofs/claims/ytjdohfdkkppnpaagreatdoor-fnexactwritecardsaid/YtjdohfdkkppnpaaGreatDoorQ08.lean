/-
  Rules in the heap.
-/
import Derived.Test.YtjdohfdkkppnpaaGreatDoorQ04
import Derived.Test.YtjdohfdkkppnpaaGreatDoorQ07
namespace Go.Proofs.YtjdohfdkkppnpaaGreatDoor
open Go.RowKit
namespace Ty
open Nd

/-- The cells of rules, nine each; their nodes within S. -/
def RulesIs (w : World) (S : Nat → Prop) : List Ru → List Value → Prop
  | [], xs => xs = []
  | r :: rs, xs => ∃ p0 p1 p2 p3 b0 b1 b2 b3 c, xs = .int .i64 r.1 :: p0 :: p1 :: p2 :: p3 :: b0 :: b1 :: b2 :: b3 :: c ∧ NodeIs w r.2.1 S [p0, p1, p2, p3] ∧ NodeIs w r.2.2 S [b0, b1, b2, b3] ∧ RulesIs w S rs c

def sizR : List Ru → Nat
  | [] => 0
  | r :: rs => siz r.2.1 + siz r.2.2 + 1 + sizR rs
theorem sizR_mem {r : Ru} : ∀ {rs : List Ru}, r ∈ rs → siz r.2.1 + siz r.2.2 + 1 ≤ sizR rs
  | a :: rs, h => by
    simp only [sizR]
    rcases List.mem_cons.1 h with rfl | h
    · omega
    · have := sizR_mem h; omega
theorem sizR_len : ∀ rs : List Ru, rs.length ≤ sizR rs
  | [] => by simp
  | r :: rs => by have := sizR_len rs; simp only [sizR, List.length_cons]; omega
theorem sizR_append : ∀ (xs ys : List Ru), sizR (xs ++ ys) = sizR xs + sizR ys
  | [], ys => by simp [sizR]
  | a :: xs, ys => by simp only [List.cons_append, sizR, sizR_append xs ys]; omega
theorem sizR_take (rs : List Ru) (k : Nat) (r : Ru) (h : rs[k]? = some r) : sizR (rs.take (k + 1)) = sizR (rs.take k) + (siz r.2.1 + siz r.2.2 + 1) := by
  rw [List.take_add_one, h, sizR_append]
  simp [sizR]

theorem rules_len {w : World} {S : Nat → Prop} : ∀ {rs : List Ru} {xs : List Value}, RulesIs w S rs xs → xs.length = rs.length * 9
  | [], xs, h => by simp only [RulesIs] at h; simp [h]
  | r :: rs, xs, h => by
    obtain ⟨p0, p1, p2, p3, b0, b1, b2, b3, c, rfl, _, _, h3⟩ := h
    have := rules_len h3
    simp; omega
theorem rules_frame {w w' : World} {S : Nat → Prop} (hS : ∀ k, S k → w'.heap[k]? = w.heap[k]?) : ∀ {rs : List Ru} {xs : List Value}, RulesIs w S rs xs → RulesIs w' S rs xs
  | [], xs, h => h
  | r :: rs, xs, h => by
    obtain ⟨p0, p1, p2, p3, b0, b1, b2, b3, c, rfl, h1, h2, h3⟩ := h
    exact ⟨p0, p1, p2, p3, b0, b1, b2, b3, c, rfl, node_frame _ _ _ hS h1, node_frame _ _ _ hS h2, rules_frame hS h3⟩
theorem rules_mono {w : World} {S S' : Nat → Prop} (hS : ∀ k, S k → S' k) : ∀ {rs : List Ru} {xs : List Value}, RulesIs w S rs xs → RulesIs w S' rs xs
  | [], xs, h => h
  | r :: rs, xs, h => by
    obtain ⟨p0, p1, p2, p3, b0, b1, b2, b3, c, rfl, h1, h2, h3⟩ := h
    exact ⟨p0, p1, p2, p3, b0, b1, b2, b3, c, rfl, node_mono h1 hS, node_mono h2 hS, rules_mono hS h3⟩
theorem rules_snoc {w : World} {S : Nat → Prop} {r : Ru} {p0 p1 p2 p3 b0 b1 b2 b3 : Value} (h1 : NodeIs w r.2.1 S [p0, p1, p2, p3]) (h2 : NodeIs w r.2.2 S [b0, b1, b2, b3]) : ∀ {rs : List Ru} {xs : List Value}, RulesIs w S rs xs → RulesIs w S (rs ++ [r]) (xs ++ [.int .i64 r.1, p0, p1, p2, p3, b0, b1, b2, b3])
  | [], xs, h => by
    simp only [RulesIs] at h
    subst h
    exact ⟨p0, p1, p2, p3, b0, b1, b2, b3, [], rfl, h1, h2, rfl⟩
  | r' :: rs, xs, h => by
    obtain ⟨q0, q1, q2, q3, d0, d1, d2, d3, c, rfl, k1, k2, k3⟩ := h
    exact ⟨q0, q1, q2, q3, d0, d1, d2, d3, _, rfl, k1, k2, rules_snoc h1 h2 k3⟩
theorem rules_at {w : World} {S : Nat → Prop} : ∀ {rs : List Ru} {xs : List Value} {i : Nat} {r : Ru}, RulesIs w S rs xs → rs[i]? = some r → ∃ p0 p1 p2 p3 b0 b1 b2 b3, xs[i * 9]? = some (.int .i64 r.1) ∧ xs[i * 9 + 1]? = some p0 ∧ xs[i * 9 + 1 + 1]? = some p1 ∧ xs[i * 9 + 1 + 2]? = some p2 ∧ xs[i * 9 + 1 + 3]? = some p3 ∧
    xs[i * 9 + 5]? = some b0 ∧ xs[i * 9 + 5 + 1]? = some b1 ∧ xs[i * 9 + 5 + 2]? = some b2 ∧ xs[i * 9 + 5 + 3]? = some b3 ∧ NodeIs w r.2.1 S [p0, p1, p2, p3] ∧ NodeIs w r.2.2 S [b0, b1, b2, b3]
  | [], xs, i, r, h, hi => by simp at hi
  | r' :: rs, xs, 0, r, h, hi => by
    simp at hi
    subst hi
    obtain ⟨p0, p1, p2, p3, b0, b1, b2, b3, c, rfl, h1, h2, h3⟩ := h
    exact ⟨p0, p1, p2, p3, b0, b1, b2, b3, rfl, rfl, rfl, rfl, rfl, rfl, rfl, rfl, rfl, h1, h2⟩
  | r' :: rs, xs, i + 1, r, h, hi => by
    obtain ⟨q0, q1, q2, q3, d0, d1, d2, d3, c, rfl, k1, k2, k3⟩ := h
    obtain ⟨p0, p1, p2, p3, b0, b1, b2, b3, e0, e1, e2, e3, e4, e5, e6, e7, e8, h1, h2⟩ := rules_at k3 (by simpa using hi : rs[i]? = some r)
    have sh : ∀ j, (Value.int .i64 r'.1 :: q0 :: q1 :: q2 :: q3 :: d0 :: d1 :: d2 :: d3 :: c)[(i + 1) * 9 + j]? = c[i * 9 + j]? := fun j => by
      rw [show (i + 1) * 9 + j = (i * 9 + j) + 9 by omega]
      rfl
    exact ⟨p0, p1, p2, p3, b0, b1, b2, b3, (sh 0).trans e0, (sh 1).trans e1, (sh (1 + 1)).trans e2, (sh (1 + 2)).trans e3, (sh (1 + 3)).trans e4, (sh 5).trans e5, (sh (5 + 1)).trans e6, (sh (5 + 2)).trans e7, (sh (5 + 3)).trans e8, h1, h2⟩

/-- A rule in a variable. -/
def Box9 (w : World) (B : Nat) (v0 v1 v2 v3 v4 v5 v6 v7 v8 : Value) : Prop := w.heap[B]? = some (.cells #[v0, v1, v2, v3, v4, v5, v6, v7, v8] 41 (0, 0))
theorem Box9.lt {w : World} {B : Nat} {v0 v1 v2 v3 v4 v5 v6 v7 v8 : Value} (h : Box9 w B v0 v1 v2 v3 v4 v5 v6 v7 v8) : B < w.heap.size := heap_lt h
theorem Box9.kept {w w' : World} {B : Nat} {v0 v1 v2 v3 v4 v5 v6 v7 v8 : Value} (h : Box9 w B v0 v1 v2 v3 v4 v5 v6 v7 v8) (hw : w'.heap[B]? = w.heap[B]?) : Box9 w' B v0 v1 v2 v3 v4 v5 v6 v7 v8 := hw.trans h
theorem Box9.cell {w : World} {B : Nat} {v0 v1 v2 v3 v4 v5 v6 v7 v8 : Value} (h : Box9 w B v0 v1 v2 v3 v4 v5 v6 v7 v8) : w.cell? ⟨B, 0, none⟩ = some v0 ∧ w.cell? ⟨B, 1, none⟩ = some v1 ∧ w.cell? ⟨B, 2, none⟩ = some v2 ∧ w.cell? ⟨B, 3, none⟩ = some v3 ∧ w.cell? ⟨B, 4, none⟩ = some v4 ∧ w.cell? ⟨B, 5, none⟩ = some v5 ∧ w.cell? ⟨B, 6, none⟩ = some v6 ∧ w.cell? ⟨B, 7, none⟩ = some v7 ∧ w.cell? ⟨B, 8, none⟩ = some v8 := by
  unfold Box9 at h
  simp [World.cell?, h]

end Ty
end Go.Proofs.YtjdohfdkkppnpaaGreatDoor

