/-
  How big a tree is; what reads it.
-/
import Derived.Test.YtjdohfdkkppnpaaDoorTyMath
import Derived.Test.YtjdohfdkkppnpaaDoorNdArgs
namespace Go.Proofs.YtjdohfdkkppnpaaDoor
open Go.RowKit
namespace Ty
open Nd

mutual
def siz : Data → Nat
  | .slice ks lab => (txtOf (.slice ks lab)).length + sizs ks
  | _ => 0
def sizs : List Data → Nat
  | [] => 0
  | t :: ts => siz t + 1 + sizs ts
end
theorem siz_nd (op n : Int) (s : List UInt8) (ks : List Data) : siz (nd op n s ks) = s.length + sizs ks := by
  unfold nd; rw [siz]; rfl
theorem sizs_mem {t : Data} : ∀ {ts : List Data}, t ∈ ts → siz t + 1 ≤ sizs ts
  | a :: ts, h => by
    simp only [sizs]
    rcases List.mem_cons.1 h with rfl | h
    · omega
    · have := sizs_mem h; omega
theorem sizs_append : ∀ (xs ys : List Data), sizs (xs ++ ys) = sizs xs + sizs ys
  | [], ys => by simp [sizs]
  | a :: xs, ys => by simp only [List.cons_append, sizs, sizs_append xs ys]; omega
theorem sizs_take (ks : List Data) (k : Nat) (t : Data) (h : ks[k]? = some t) : sizs (ks.take (k + 1)) = sizs (ks.take k) + (siz t + 1) := by
  rw [List.take_add_one, h, sizs_append]
  simp [sizs]
theorem siz_kids (t : Data) : sizs (kidsOf t) ≤ siz t := by cases t <;> simp [siz, kidsOf, sizs]
theorem cnt_siz (t : Data) : cnt t ≤ siz t + 1 := by
  induction t using tree_ind with
  | h ks lab ih =>
    have : ∀ ts : List Data, (∀ t ∈ ts, cnt t ≤ siz t + 1) → cnts ts ≤ sizs ts := by
      intro ts
      induction ts with
      | nil => intro _; simp [cnts, sizs]
      | cons a ts ih2 =>
        intro h
        have h1 := h a (by simp)
        have h2 := ih2 fun t ht => h t (by simp [ht])
        simp only [cnts, sizs]
        omega
    have := this ks ih
    simp only [cnt, siz]
    omega
  | h1 t ht =>
    cases t <;> simp [cnt]
    exact absurd rfl (ht _ _)
theorem cnts_siz (t : Data) : cnts (kidsOf t) ≤ siz t := by have := cnt_siz t; have := cnt_kids t; omega
theorem len_siz (t : Data) : (kidsOf t).length ≤ siz t := by have := cnts_siz t; have := cnts_len (kidsOf t); omega

/-- The sentinel of chapter 1. -/
def Sen (w : World) : Prop := ∃ a : Addr, w.cell? ⟨0, 0, none⟩ = some (.iface 103 (.pointer (some a)))
theorem Sen.later {w w' : World} (h : Sen w) (hb : Below w.heap.size w w') : Sen w' := by
  obtain ⟨a, hc⟩ := h
  exact ⟨a, (hb.cell (World.block_lt_of_cell? _ _ hc)).trans hc⟩
theorem Sen.alloc {w : World} (h : Sen w) (o : Obj) : Sen (w.alloc o) := h.later ((Below.refl _ w).alloc (Nat.le_refl _) _)

/-- A function that tells a flag of a node. -/
def Tells (f : Nat) (p : Data → Bool) (t : Data) : Prop := ∀ (w : World) (a b c u : Value), Sen w → ArgIs w t [a, b, c, u] →
  Calls Tryd.prog f #[.agg #[a, b, c, u]] w fun e w' => e = .returned (.bool (p t)) ∧ Below w.heap.size w w'

theorem arg_open {w : World} {t : Data} {a b c u : Value} (h : ArgIs w t [a, b, c, u]) : ∃ ao cap, a = .int .i64 (opOf t) ∧ b = .int .i64 (numOf t) ∧ c = .string ⟨(txtOf t).toArray⟩ ∧ u = .slice ao (kidsOf t).length cap ∧ ArgsIs w (kidsOf t) ao 0 ∧ t = nd (opOf t) (numOf t) (txtOf t) (kidsOf t) := by
  obtain ⟨op, n, s, ao, cap, hnd, hc, -, -, hA⟩ := arg_form h
  rw [hnd]
  simp only [List.cons.injEq, and_true] at hc
  obtain ⟨rfl, rfl, rfl, rfl⟩ := hc
  exact ⟨ao, cap, rfl, rfl, rfl, rfl, hA, rfl⟩

theorem args_of_cells {w : World} {g : Nat} (hg : g < w.heap.size) : ∀ {ts : List Data} {S : Nat → Prop} {xs : List Value} {i : Nat}, (∀ t ∈ ts, ∀ (S : Nat → Prop) (cs : List Value), NodeIs w t S cs → ArgIs w t cs) → NodesIs w ts S xs → (∀ j x, xs[j]? = some x → w.cell? ⟨g, i * 4 + j, none⟩ = some x) → ArgsIs w ts (some ⟨g, 0, none⟩) i
  | [], S, xs, i, _, _, _ => trivial
  | t :: ts, S, xs, i, hT, h, hc => by
    simp only [NodesIs] at h
    obtain ⟨S1, S2, c1, c2, rfl, h1, h2, -, -⟩ := h
    have hl := node_len h1
    have ht := hT t (by simp) S1 c1 h1
    match c1, hl with
    | [a, b, c, u], _ =>
      have p0 := hc 0 a rfl
      have p1 := hc 1 b rfl
      have p2 := hc 2 c rfl
      have p3 := hc 3 u rfl
      refine ⟨⟨g, 0, a, b, c, u, rfl, hg, ?_, ?_, ?_, ?_, ht⟩, args_of_cells hg (fun t ht => hT t (by simp [ht])) h2 fun j x hx => ?_⟩
      · simpa using p0
      · simpa using p1
      · simpa using p2
      · simpa using p3
      · have := hc (j + 4) x (by simpa using hx)
        rw [show (i + 1) * 4 + j = i * 4 + (j + 4) by omega]
        exact this

theorem arg_of_node {w : World} (t : Data) : siz t ≤ 1048576 → ∀ (S : Nat → Prop) (cs : List Value), NodeIs w t S cs → ArgIs w t cs := by
  induction t using tree_ind with
  | h1 t ht =>
    intro _ S cs h
    obtain ⟨op, n, s, ks, rfl⟩ := node_node h
    exact absurd rfl (ht _ _)
  | h ks lab ih =>
    intro hs S cs h
    have hlen := len_siz (.slice ks lab)
    have hkk : kidsOf (.slice ks lab) = ks := rfl
    rw [hkk] at hlen
    rw [NodeIs] at h
    obtain ⟨op, n, s, v, xs, hl, hc, ho, hg, hk⟩ := h
    subst hl
    rw [ArgIs]
    obtain ⟨ao, cap, rfl⟩ := owns_slice ho
    have hs' : s.length + sizs ks ≤ 1048576 := by rw [← siz_nd op n s ks]; exact hs
    refine ⟨op, n, s, ao, cap, rfl, hc, by unfold maxLen; omega, by unfold maxLen; omega, ?_⟩
    by_cases h0 : 0 < ks.length
    · obtain ⟨g, rfl, hgl, hcell⟩ := row_cells ho h0
      refine args_of_cells hgl (fun t ht => ih t ht (by have := sizs_mem ht; omega)) hk fun j x hx => ?_
      rw [Nat.zero_mul, Nat.zero_add]
      exact hcell j x hx
    · have : ks = [] := List.length_eq_zero_iff.1 (by omega)
      subst this
      trivial

end Ty
end Go.Proofs.YtjdohfdkkppnpaaDoor
