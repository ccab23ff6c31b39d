/-
  The nodes of rules: what a round over them keeps.
-/
import Derived.Test.YtjhkkpjggphnjaaCkMath
import Derived.Test.YtjhkkpjggphnjaaNdDeepI
import Derived.Test.YtjhkkpjggphnjaaRuCopyS
import Derived.RangeFuncNested
import Derived.RangeFuncBound
import Derived.RangeFuncCalls
import Derived.RangeFuncLeaves
import Derived.OwnWalkIn
import Derived.TacticsInMore
import Derived.LoopNIn
import Derived.LoopIn
namespace Go.Proofs.Ytjhkkpjggphnjaa
open Go.RowKit
namespace Ck
open Nd Ty

/-- Cells and maps lie as they lay, but those of S; none of S turns to nodes. -/
structure Keep (S : Nat → Prop) (W W' : World) : Prop where
  size : W.heap.size ≤ W'.heap.size
  same : ∀ k o, W.heap[k]? = some o → ¬ S k → (o.isCells = true ∨ o.isWalk = true) → W'.heap[k]? = some o
  no : ∀ k, S k → ¬ Cellsy W k → ¬ Cellsy W' k
theorem Keep.refl (S : Nat → Prop) (W : World) : Keep S W W := ⟨Nat.le_refl _, fun _ _ h _ _ => h, fun _ _ h => h⟩
theorem Keep.trans {S : Nat → Prop} {A B C : World} (h : Keep S A B) (h' : Keep S B C) : Keep S A C :=
  ⟨Nat.le_trans h.size h'.size, fun k o hk hS ho => h'.same k o (h.same k o hk hS ho) hS ho, fun k hS hn => h'.no k hS (h.no k hS hn)⟩
theorem Keep.put {S : Nat → Prop} {n : Nat} (hS : ∀ k, S k → k < n) (W : World) (l : Nat) (o o' : Obj) (hl : n ≤ l) (h : W.heap[l]? = some o) (ho : o.isCells = false) (hw : o.isWalk = false) : Keep S W (W.putObj l o') := by
  have hlt := heap_lt h
  refine ⟨by simp [World.putObj], fun k x hk _ hx => ?_, fun k hk hn => ?_⟩
  · have : k ≠ l := by
      rintro rfl
      rw [h] at hk
      cases hk
      rw [ho, hw] at hx
      simp at hx
    rw [World.putObj_heap_other this]
    exact hk
  · have : k ≠ l := by have := hS k hk; omega
    unfold Cellsy
    rw [World.putObj_heap_other this]
    exact hn
theorem Keep.below {S : Nat → Prop} {W W' : World} (hS : ∀ k, S k → k < W.heap.size) (h : Below W.heap.size W W') : Keep S W W' :=
  ⟨h.size, fun k o hk _ _ => (h.block k (heap_lt hk)).trans hk, fun k hk hn hc => hn (by obtain ⟨cur, hc⟩ := hc; exact ⟨cur, (h.block k (hS k hk)).symm.trans hc⟩)⟩
theorem Keep.nodes {S : Nat → Prop} {W W' : World} (h : Keep S W W') (hS : ∀ k, S k → ¬ Cellsy W k) {g : Nat} (hg : Cellsy W g) : W'.heap[g]? = W.heap[g]? := by
  have hn : ¬ S g := fun hs => hS g hs hg
  obtain ⟨cur, hc⟩ := hg
  rw [hc]
  exact h.same g _ hc hn (.inl rfl)
theorem Keep.cells {S : Nat → Prop} {W W' : World} (h : Keep S W W') {g : Nat} {cur : Array Value} {t : TypeId} {r : Nat × Nat} (hn : ¬ S g) (hg : W.heap[g]? = some (.cells cur t r)) : W'.heap[g]? = some (.cells cur t r) := h.same g _ hg hn (.inl rfl)
theorem Keep.map {S : Nat → Prop} {W W' : World} (h : Keep S W W') {m : Nat} {G : List Nat} (hn : ¬ S m) (hg : MapIs W m G) : MapIs W' m G := by
  obtain ⟨es, c, h1, h2⟩ := hg
  exact ⟨es, c, h.same m _ h1 hn (.inr rfl), h2⟩
theorem Keep.row {S : Nat → Prop} {W W' : World} (h : Keep S W W') {B e size n : Nat} {v : Value} {xs : List Value} (ho : W.ownsRow B e size v n xs) (hn : ∀ g, v.ownBlock = some g → ¬ S g) : W'.ownsRow B e size v n xs :=
  owns_same ho fun g hg => by
    rcases ho.2 with ⟨e, _⟩ | ⟨g', cap, cur, e, _, hb, _⟩
    · rw [e] at hg; simp [Value.ownBlock] at hg
    · rw [e] at hg; simp [Value.ownBlock] at hg; subst hg
      rw [hb]
      exact h.same _ _ hb (hn _ (by rw [e]; rfl)) (.inl rfl)

theorem ap_cells {w : World} : ∀ {rs : List Ru} {S : Nat → Prop} {xs : List Value}, RulesAp w rs S xs → RulesAp w rs (fun k => S k ∧ Cellsy w k) xs
  | [], S, xs, h => h
  | r :: rs, S, xs, h => by
    obtain ⟨p0, p1, p2, p3, b0, b1, b2, b3, c, Sp, Sb, Sr, rfl, h1, h2, h3, k1, k2, k3⟩ := h
    exact ⟨p0, p1, p2, p3, b0, b1, b2, b3, c, _, _, _, rfl, nodes_cells _ _ _ h1, nodes_cells _ _ _ h2, ap_cells h3, fun k hk => ⟨⟨(k1 k hk.1).1, hk.2⟩, fun h => (k1 k hk.1).2.1 h.1, fun h => (k1 k hk.1).2.2 h.1⟩, fun k hk => ⟨⟨(k2 k hk.1).1, hk.2⟩, fun h => (k2 k hk.1).2 h.1⟩, fun k hk => ⟨k3 k hk.1, hk.2⟩⟩
theorem ap_open {w : World} {r : Ru} {rs : List Ru} {S : Nat → Prop} {xs : List Value} (h : RulesAp w (r :: rs) S xs) : ∃ (p0 p1 p2 p3 b0 b1 b2 b3 : Value) (Sp Sb Sr : Nat → Prop), xs = .int .i64 r.1 :: p0 :: p1 :: p2 :: p3 :: b0 :: b1 :: b2 :: b3 :: xs.drop 9 ∧ NodeIs w r.2.1 Sp [p0, p1, p2, p3] ∧ NodeIs w r.2.2 Sb [b0, b1, b2, b3] ∧ RulesAp w rs Sr (xs.drop 9) ∧
      (∀ k, Sp k → S k ∧ ¬ Sb k ∧ ¬ Sr k) ∧ (∀ k, Sb k → S k ∧ ¬ Sr k) ∧ (∀ k, Sr k → S k) := by
  obtain ⟨p0, p1, p2, p3, b0, b1, b2, b3, c, Sp, Sb, Sr, rfl, h⟩ := h
  exact ⟨p0, p1, p2, p3, b0, b1, b2, b3, Sp, Sb, Sr, rfl, h⟩

/-- A node that comes: of which rule, its tree, its cells in the world where the loop began. -/
structure Nde (w : World) (rs : List Ru) where
  rule : Nat
  t : Data
  a : Value
  b : Value
  c : Value
  u : Value
  S : Nat → Prop
  is : NodeIs w t S [a, b, c, u]
  cy : ∀ k, S k → Cellsy w k
  sz : siz t ≤ 1048576
  mem : (rule, t) ∈ visit 0 rs
def Nde.key {w : World} {rs : List Ru} (x : Nde w rs) : Nat × Data := (x.rule, x.t)
def Nde.encs {w : World} {rs : List Ru} (x : Nde w rs) : Array Value := #[.int .i64 x.rule, .agg #[x.a, x.b, x.c, x.u]]

theorem siz_kid {t : Data} : ∀ {k : Data}, k ∈ kidsOf t → siz k ≤ siz t := fun h => by have := sizs_mem h; have := siz_kids t; omega
theorem siz_below {ls : List (List Data)} {n : Nat} (h : ∀ t ∈ ls.flatten, siz t ≤ n) : ∀ t ∈ (below ls).flatten, siz t ≤ n := by
  rw [below_flat]
  generalize ls.flatten = ts at h
  induction ts with
  | nil => intro t ht; simp [below1] at ht
  | cons a ts ih =>
    intro t ht
    rw [below1, List.flatten_append, List.mem_append] at ht
    rcases ht with ht | ht
    · split at ht
      · simp at ht
      · simp at ht
        have := siz_kid ht
        have := h a (by simp)
        omega
    · exact ih (fun t ht => h t (by simp [ht])) t ht
theorem visit_rule : ∀ {k : Nat} {rs : List Ru} {p : Nat × Data}, p ∈ visit k rs → p.1 < k + rs.length
  | k, [], p, h => by simp [visit] at h
  | k, r :: rs, p, h => by
    rw [visit, List.mem_append] at h
    rcases h with h | h
    · simp at h
      obtain ⟨_, _, rfl⟩ := h
      simp
    · have := visit_rule h
      simp only [List.length_cons]
      omega
theorem visit_sub {rs : List Ru} (k : Nat) : ∃ q, visit 0 rs = visit 0 (rs.take k) ++ q := ⟨visit (0 + (rs.take k).length) (rs.drop k), by rw [← visit_append, List.take_append_drop]⟩
theorem len_flat {ls : List (List Data)} (h : ∀ l ∈ ls, l ≠ []) : ls.length ≤ ls.flatten.length := by
  induction ls with
  | nil => simp
  | cons l ls ih =>
    have h1 := h l (by simp)
    have h2 := ih fun l hl => h l (by simp [hl])
    have : 0 < l.length := List.length_pos_iff.2 h1
    simp only [List.length_cons, List.flatten_cons, List.length_append]
    omega

end Ck
end Go.Proofs.Ytjhkkpjggphnjaa
