/-
  What may run, as plain functions: the nodes of a tree, names, and what is amiss.
  Nodes in the heap: a tree whose lists of Kids lie in blocks of their own.
-/
import Derived.Test.YtjdohfdkkppnpaaGreatDoorP01
import Derived.Test.YtjdohfdkkppnpaaGreatDoorChecked
import Derived.Laws.AppendOwn
import Derived.Below
import Derived.OwnWalk
import Derived.Maps.AppendAt
import Derived.WalkKit
import Derived.WalkLawsBesides
import Derived.Deep.RegionWith
import Derived.Deep.CutBlock
import Derived.Deep.CutRange
import Derived.Deep.DeepCutAuto
import Derived.BigQuiet
import Derived.Deep.QuietTactic
import Derived.Deep.LoopGhost
namespace Go.Proofs.YtjdohfdkkppnpaaGreatDoor
namespace Ck
open Nd Ty

mutual
/-- All nodes of a tree, itself first. -/
def subs : Data → List Data
  | .slice ks lab => .slice ks lab :: subsL ks
  | t => [t]
def subsL : List Data → List Data
  | [] => []
  | t :: ts => subs t ++ subsL ts
end
theorem subs_kids (t : Data) : subs t = t :: subsL (kidsOf t) := by cases t <;> simp [subs, subsL, kidsOf]
theorem subsL_append : ∀ (l1 l2 : List Data), subsL (l1 ++ l2) = subsL l1 ++ subsL l2
  | [], l2 => by simp [subsL]
  | a :: l1, l2 => by simp only [List.cons_append, subsL, subsL_append l1 l2, List.append_assoc]
theorem mem_subsL {x : Data} : ∀ {ts : List Data}, x ∈ subsL ts ↔ ∃ t ∈ ts, x ∈ subs t
  | [] => by simp [subsL]
  | t :: ts => by simp [subsL, mem_subsL (ts := ts)]
theorem mem_below1 {x : Data} : ∀ {ts : List Data}, x ∈ subsL ts ↔ x ∈ ts ∨ x ∈ subsL (below1 ts).flatten
  | [] => by simp [subsL, below1]
  | t :: ts => by
    have ih := mem_below1 (x := x) (ts := ts)
    have h0 : subsL (if kidsOf t = [] then ([] : List (List Data)) else [kidsOf t]).flatten = subsL (kidsOf t) := by
      split
      · rename_i e; rw [e]; simp
      · simp
    simp only [subsL, below1, List.flatten_append, subsL_append, h0, List.mem_append, List.mem_cons, subs_kids, ih]
    grind

/-- The nodes of some lists, depth by depth. -/
def bfs : Nat → List (List Data) → List Data
  | 0, _ => []
  | f + 1, ls => ls.flatten ++ bfs f (below ls)
theorem bfs_nil : ∀ f, bfs f [] = []
  | 0 => rfl
  | f + 1 => by simp [bfs, below, bfs_nil f]
theorem deps_below {ls : List (List Data)} (h : ls.flatten ≠ []) : deps ls.flatten = deps (below ls).flatten + 1 := by rw [below_flat, below1_deps ls.flatten, if_neg h]
theorem mem_bfs {x : Data} : ∀ (f : Nat) (ls : List (List Data)), deps ls.flatten ≤ f → (x ∈ bfs f ls ↔ x ∈ subsL ls.flatten)
  | 0, ls, h => by
    have : ls.flatten = [] := by
      cases hl : ls.flatten with
      | nil => rfl
      | cons t ts => rw [hl] at h; have := dep_kids t; simp only [deps] at h; omega
    simp [bfs, this, subsL]
  | f + 1, ls, h => by
    by_cases hl : ls.flatten = []
    · have hb : below ls = [] := by rw [below_flat, hl]; rfl
      simp [bfs, hl, hb, bfs_nil, subsL]
    · have := deps_below hl
      rw [bfs, List.mem_append, mem_bfs f (below ls) (by omega), mem_below1 (ts := ls.flatten), below_flat]

/-- The nodes of a rule in the order in which the program goes over them. -/
def order (r : Ru) : List Data := bfs (deps [r.2.1, r.2.2]) [[r.2.1, r.2.2]]
theorem mem_order {x : Data} {r : Ru} : x ∈ order r ↔ x ∈ subs r.2.1 ∨ x ∈ subs r.2.2 := by
  rw [order, mem_bfs _ _ (by simp)]
  simp [subsL]
/-- The nodes of rules from number k on. -/
def visit : Nat → List Ru → List (Nat × Data)
  | _, [] => []
  | k, r :: rs => (order r).map (fun t => (k, t)) ++ visit (k + 1) rs
theorem visit_append : ∀ (k : Nat) (l1 l2 : List Ru), visit k (l1 ++ l2) = visit k l1 ++ visit (k + l1.length) l2
  | k, [], l2 => by simp [visit]
  | k, a :: l1, l2 => by simp only [List.cons_append, visit, visit_append (k + 1) l1 l2, List.append_assoc, List.length_cons]; congr 3; omega
theorem visit_take {rs : List Ru} {k : Nat} {r : Ru} (h : rs[k]? = some r) : visit 0 (rs.take (k + 1)) = visit 0 (rs.take k) ++ (order r).map (fun t => (k, t)) := by
  have hk : k < rs.length := (List.getElem?_eq_some_iff.1 h).1
  rw [List.take_add_one, h, visit_append]
  simp [visit, Nat.min_eq_left (Nat.le_of_lt hk)]
/-- All nodes of rules. -/
def allOf (rs : List Ru) : List Data := (visit 0 rs).map (·.2)
def SubR (rs : List Ru) (x : Data) : Prop := ∃ r ∈ rs, x ∈ subs r.2.1 ∨ x ∈ subs r.2.2
theorem mem_visit {x : Data} : ∀ {k : Nat} {rs : List Ru}, x ∈ (visit k rs).map (·.2) ↔ SubR rs x
  | k, [] => by simp [visit, SubR]
  | k, r :: rs => by
    have ih := mem_visit (x := x) (k := k + 1) (rs := rs)
    rw [visit, List.map_append, List.mem_append, ih]
    simp [SubR, mem_order]
theorem mem_allOf {x : Data} {rs : List Ru} : x ∈ allOf rs ↔ SubR rs x := mem_visit

/-! how many -/
theorem bfs_len : ∀ (f : Nat) (ls : List (List Data)), (bfs f ls).length ≤ cnts ls.flatten
  | 0, ls => by simp [bfs]
  | f + 1, ls => by
    have := bfs_len f (below ls)
    have h2 := below1_cnts ls.flatten
    rw [← below_flat] at h2
    rw [bfs, List.length_append]
    omega

/-! names -/
def varN (t : Data) : Option (List UInt8) := if opOf t = 4 then some (txtOf t) else none
def cellN (t : Data) : Option (List UInt8) := if opOf t = 5 ∨ opOf t = 34 then some (txtOf t) else none
def varsIn (ts : List Data) : List (List UInt8) := ts.filterMap varN
def cellsIn (ts : List Data) : List (List UInt8) := ts.filterMap cellN
theorem varsIn_append (l1 l2 : List Data) : varsIn (l1 ++ l2) = varsIn l1 ++ varsIn l2 := List.filterMap_append ..
theorem cellsIn_append (l1 l2 : List Data) : cellsIn (l1 ++ l2) = cellsIn l1 ++ cellsIn l2 := List.filterMap_append ..

/-! what is amiss -/
/-- A tree asks of a line: as the document has it. -/
def needB (n : Data) : Bool := decide (opOf n = 6 ∨ opOf n = 7 ∨ opOf n = 8 ∨ opOf n = 33) || ((kidsOf n).zipIdx).any fun p => decide (opOf p.1 = 3) && !(decide (opOf n = 21) && decide (p.2 = 1))
def soMany (s : List UInt8) (k : Nat) : Bool := if s = [105, 110, 100, 101, 120] then decide (k = 2) else if s = [115, 117, 98, 115, 116, 114] then decide (k = 2) || decide (k = 3) else decide (k = 1)
def argsB (n : Data) : Bool := decide (opOf n = 28) && !soMany (txtOf n) (kidsOf n).length

end Ck
end Go.Proofs.YtjdohfdkkppnpaaGreatDoor

namespace Go.Proofs.YtjdohfdkkppnpaaGreatDoor
open Go.RowKit
namespace Nd

theorem heap_lt {w : World} {g : Nat} {o : Obj} (h : w.heap[g]? = some o) : g < w.heap.size := (Array.getElem?_eq_some_iff.1 h).1
theorem heap_new (w : World) (o : Obj) : (w.alloc o).heap[w.heap.size]? = some o := heap_alloc_new w o

theorem owns_same {w w' : World} {base e size n : Nat} {v : Value} {xs : List Value} (h : w.ownsRow base e size v n xs) (hb : ∀ g, v.ownBlock = some g → w'.heap[g]? = w.heap[g]?) : w'.ownsRow base e size v n xs := by
  refine ⟨h.1, ?_⟩
  rcases h.2 with hn | ⟨g, cap, cur, hv, hb', hg, rest⟩
  · exact .inl hn
  · exact .inr ⟨g, cap, cur, hv, hb', (hb g (by subst hv; rfl)).trans hg, rest⟩

theorem owns_base {w : World} {base base' e size n : Nat} {v : Value} {xs : List Value} (h : w.ownsRow base e size v n xs) (hb : base' ≤ base) : w.ownsRow base' e size v n xs := by
  refine ⟨h.1, ?_⟩
  rcases h.2 with hn | ⟨g, cap, cur, hv, hb', rest⟩
  · exact .inl hn
  · exact .inr ⟨g, cap, cur, hv, Nat.le_trans hb hb', rest⟩

theorem owns_slice {w : World} {base e size n : Nat} {v : Value} {xs : List Value} (h : w.ownsRow base e size v n xs) : ∃ ao cap, v = .slice ao n cap := by
  rcases h.2 with ⟨rfl, rfl⟩ | ⟨g, cap, cur, rfl, _⟩
  · exact ⟨_, _, rfl⟩
  · exact ⟨_, _, rfl⟩

/-- A list that is not empty lies in a block. -/
theorem owns_block {w : World} {base e size n cap : Nat} {ao : Option Addr} {xs : List Value} (h : w.ownsRow base e size (.slice ao n cap) n xs) (hn : 0 < n) : ∃ g cur, ao = some ⟨g, 0, none⟩ ∧ w.heap[g]? = some (.cells cur e (0, 0)) := by
  rcases h.2 with ⟨_, h0⟩ | ⟨g, cap', cur, hv, _, hg, _⟩
  · omega
  · simp only [Value.slice.injEq] at hv
    exact ⟨g, cur, hv.1, hg⟩

theorem row_cells {w : World} {B e size n k cap : Nat} {ao : Option Addr} {xs : List Value} (ho : w.ownsRow B e size (.slice ao n cap) n xs) (hk : k < n) : ∃ g, ao = some ⟨g, 0, none⟩ ∧ g < w.heap.size ∧ ∀ j x, xs[j]? = some x → w.cell? ⟨g, j, none⟩ = some x := by
  rcases ho.2 with ⟨h, hn⟩ | ⟨g, cap', cur, h, _⟩
  · omega
  · simp only [Value.slice.injEq] at h
    obtain ⟨rfl, _, rfl⟩ := h
    refine ⟨g, rfl, (ho.lt g rfl).2, fun j x hx => ?_⟩
    have := ho.cells (g := g) rfl j x hx
    have hadd : (⟨g, 0, none⟩ : Addr).add j = ⟨g, j, none⟩ := by unfold Addr.add; split <;> simp_all
    rw [← hadd]
    exact this

mutual
/-- The four cells of a node, its memory within S. -/
def NodeIs (w : World) : Data → (Nat → Prop) → List Value → Prop
  | .slice ks lab, S, cs => ∃ (op n : Int) (s : List UInt8) (v : Value) (xs : List Value), lab = [.lit (.int .i64 op), .lit (.int .i64 n), .lit (.string s)] ∧
      cs = [.int .i64 op, .int .i64 n, .string ⟨s.toArray⟩, v] ∧ w.ownsRow 0 39 4 v ks.length xs ∧ (∀ g, v.ownBlock = some g → S g) ∧ NodesIs w ks (fun k => S k ∧ v.ownBlock ≠ some k) xs
  | _, _, _ => False
/-- The cells of a list of them, their memories apart. -/
def NodesIs (w : World) : List Data → (Nat → Prop) → List Value → Prop
  | [], _, xs => xs = []
  | t :: ts, S, xs => ∃ (S1 S2 : Nat → Prop) (c1 c2 : List Value), xs = c1 ++ c2 ∧ NodeIs w t S1 c1 ∧ NodesIs w ts S2 c2 ∧ (∀ k, S1 k → S k ∧ ¬ S2 k) ∧ (∀ k, S2 k → S k)
end

theorem node_nd {w : World} {op n : Int} {s : List UInt8} {ks : List Data} {S : Nat → Prop} {cs : List Value} :
    NodeIs w (nd op n s ks) S cs ↔ ∃ (v : Value) (xs : List Value), cs = [.int .i64 op, .int .i64 n, .string ⟨s.toArray⟩, v] ∧ w.ownsRow 0 39 4 v ks.length xs ∧
      (∀ g, v.ownBlock = some g → S g) ∧ NodesIs w ks (fun k => S k ∧ v.ownBlock ≠ some k) xs := by
  unfold nd
  rw [NodeIs]
  constructor
  · rintro ⟨op', n', s', v, xs, hl, hc, h⟩
    have := nd_inj (show nd op n s [] = nd op' n' s' [] by unfold nd; rw [hl])
    obtain ⟨rfl, rfl, rfl, _⟩ := this
    exact ⟨v, xs, hc, h⟩
  · rintro ⟨v, xs, hc, h⟩
    exact ⟨op, n, s, v, xs, rfl, hc, h⟩

theorem node_len {w : World} {t : Data} {S : Nat → Prop} {cs : List Value} (h : NodeIs w t S cs) : cs.length = 4 := by
  cases t <;> simp only [NodeIs] at h
  obtain ⟨op, n, s, v, xs, _, rfl, _⟩ := h
  rfl

theorem node_node {w : World} {t : Data} {S : Nat → Prop} {cs : List Value} (h : NodeIs w t S cs) : ∃ op n s ks, t = nd op n s ks := by
  cases t <;> simp only [NodeIs] at h
  obtain ⟨op, n, s, v, xs, rfl, _⟩ := h
  exact ⟨op, n, s, _, rfl⟩

theorem nodes_len {w : World} : ∀ {ts : List Data} {S : Nat → Prop} {xs : List Value}, NodesIs w ts S xs → xs.length = ts.length * 4
  | [], S, xs, h => by simp only [NodesIs] at h; simp [h]
  | t :: ts, S, xs, h => by
    simp only [NodesIs] at h
    obtain ⟨S1, S2, c1, c2, rfl, h1, h2, _⟩ := h
    have := node_len h1
    have := nodes_len h2
    simp; omega

theorem nodes_mono {w : World} {ts : List Data} {S S' : Nat → Prop} {xs : List Value} (h : NodesIs w ts S xs) (hS : ∀ k, S k → S' k) : NodesIs w ts S' xs := by
  cases ts with
  | nil => simpa only [NodesIs] using h
  | cons t ts =>
    simp only [NodesIs] at h ⊢
    obtain ⟨S1, S2, c1, c2, hx, h1, h2, h3, h4⟩ := h
    exact ⟨S1, S2, c1, c2, hx, h1, h2, fun k hk => ⟨hS k (h3 k hk).1, (h3 k hk).2⟩, fun k hk => hS k (h4 k hk)⟩

theorem node_mono {w : World} {t : Data} {S S' : Nat → Prop} {cs : List Value} (h : NodeIs w t S cs) (hS : ∀ k, S k → S' k) : NodeIs w t S' cs := by
  obtain ⟨op, n, s, ks, rfl⟩ := node_node h
  rw [node_nd] at h ⊢
  obtain ⟨v, xs, hc, ho, hg, hk⟩ := h
  exact ⟨v, xs, hc, ho, fun g h => hS g (hg g h), nodes_mono hk fun k hk => ⟨hS k hk.1, hk.2⟩⟩

theorem nodes_frame_of {w w' : World} : ∀ (ts : List Data) (S : Nat → Prop) (xs : List Value), (∀ t ∈ ts, ∀ (S : Nat → Prop) (cs : List Value), (∀ k, S k → w'.heap[k]? = w.heap[k]?) → NodeIs w t S cs → NodeIs w' t S cs) →
    (∀ k, S k → w'.heap[k]? = w.heap[k]?) → NodesIs w ts S xs → NodesIs w' ts S xs
  | [], S, xs, _, _, h => by simpa only [NodesIs] using h
  | t :: ts, S, xs, hT, hS, h => by
    simp only [NodesIs] at h ⊢
    obtain ⟨S1, S2, c1, c2, hx, h1, h2, h3, h4⟩ := h
    exact ⟨S1, S2, c1, c2, hx, hT t (by simp) S1 c1 (fun k hk => hS k (h3 k hk).1) h1, nodes_frame_of ts S2 c2 (fun t ht => hT t (by simp [ht])) (fun k hk => hS k (h4 k hk)) h2, h3, h4⟩

theorem node_frame {w w' : World} (t : Data) : ∀ (S : Nat → Prop) (cs : List Value), (∀ k, S k → w'.heap[k]? = w.heap[k]?) → NodeIs w t S cs → NodeIs w' t S cs := by
  induction t using tree_ind with
  | h ks lab ih =>
    intro S cs hS h
    rw [NodeIs] at h ⊢
    obtain ⟨op, n, s, v, xs, hl, hc, ho, hg, hk⟩ := h
    exact ⟨op, n, s, v, xs, hl, hc, owns_same ho fun g h => hS g (hg g h), hg, nodes_frame_of ks _ _ ih (fun k hk => hS k hk.1) hk⟩
  | h1 t ht =>
    intro S cs hS h
    obtain ⟨op, n, s, ks, rfl⟩ := node_node h
    exact absurd rfl (ht _ _)

theorem nodes_frame {w w' : World} {ts : List Data} {S : Nat → Prop} {xs : List Value} (hS : ∀ k, S k → w'.heap[k]? = w.heap[k]?) (h : NodesIs w ts S xs) : NodesIs w' ts S xs :=
  nodes_frame_of ts S xs (fun t _ => node_frame t) hS h

theorem nodes_snoc {w : World} : ∀ {ts : List Data} {t : Data} {S1 S2 S : Nat → Prop} {xs cs : List Value}, NodesIs w ts S1 xs → NodeIs w t S2 cs → (∀ k, S1 k → S k ∧ ¬ S2 k) → (∀ k, S2 k → S k) → NodesIs w (ts ++ [t]) S (xs ++ cs)
  | [], t, S1, S2, S, xs, cs, h1, h2, h3, h4 => by
    simp only [NodesIs] at h1
    subst h1
    simp only [List.nil_append, NodesIs]
    exact ⟨S2, fun _ => False, cs, [], by simp, h2, rfl, fun k hk => ⟨h4 k hk, id⟩, fun k hk => hk.elim⟩
  | t' :: ts, t, S1, S2, S, xs, cs, h1, h2, h3, h4 => by
    simp only [NodesIs] at h1
    obtain ⟨A, B, c1, c2, rfl, a1, a2, a3, a4⟩ := h1
    simp only [List.cons_append, NodesIs]
    exact ⟨A, fun k => B k ∨ S2 k, c1, c2 ++ cs, by simp, a1, nodes_snoc (S := fun k => B k ∨ S2 k) a2 h2 (fun k hk => ⟨.inl hk, (h3 k (a4 k hk)).2⟩) (fun k hk => .inr hk),
      fun k hk => ⟨(h3 k (a3 k hk).1).1, fun h => h.elim (a3 k hk).2 (h3 k (a3 k hk).1).2⟩, fun k hk => hk.elim (fun h => (h3 k (a4 k h)).1) (h4 k)⟩

/-- Two lists, one behind the other. -/
theorem nodes_append {w : World} : ∀ {us : List Data} {ts : List Data} {S1 S2 S : Nat → Prop} {xs ys : List Value}, NodesIs w ts S1 xs → NodesIs w us S2 ys → (∀ k, S1 k → S k ∧ ¬ S2 k) → (∀ k, S2 k → S k) → NodesIs w (ts ++ us) S (xs ++ ys)
  | us, [], S1, S2, S, xs, ys, h1, h2, h3, h4 => by
    simp only [NodesIs] at h1
    subst h1
    exact nodes_mono h2 h4
  | us, t' :: ts, S1, S2, S, xs, ys, h1, h2, h3, h4 => by
    simp only [NodesIs] at h1
    obtain ⟨A, B, c1, c2, rfl, a1, a2, a3, a4⟩ := h1
    simp only [List.cons_append, NodesIs]
    exact ⟨A, fun k => B k ∨ S2 k, c1, c2 ++ ys, by simp, a1, nodes_append (S := fun k => B k ∨ S2 k) a2 h2 (fun k hk => ⟨.inl hk, (h3 k (a4 k hk)).2⟩) (fun k hk => .inr hk),
      fun k hk => ⟨(h3 k (a3 k hk).1).1, fun h => h.elim (a3 k hk).2 (h3 k (a3 k hk).1).2⟩, fun k hk => hk.elim (fun h => (h3 k (a4 k h)).1) (h4 k)⟩

theorem nodes_split {w : World} : ∀ {as1 bs1 : List Data} {S : Nat → Prop} {xs : List Value}, NodesIs w (as1 ++ bs1) S xs → ∃ S1 S2 c1 c2, xs = c1 ++ c2 ∧ NodesIs w as1 S1 c1 ∧ NodesIs w bs1 S2 c2 ∧ (∀ k, S1 k → S k ∧ ¬ S2 k) ∧ (∀ k, S2 k → S k)
  | [], bs1, S, xs, h => ⟨fun _ => False, S, [], xs, rfl, rfl, h, fun k hk => hk.elim, fun k hk => hk⟩
  | a :: as1, bs1, S, xs, h => by
    simp only [List.cons_append, NodesIs] at h
    obtain ⟨A, B, c1, c2, rfl, h1, h2, h3, h4⟩ := h
    obtain ⟨S1, S2, d1, d2, rfl, k1, k2, k3, k4⟩ := nodes_split h2
    refine ⟨fun k => A k ∨ S1 k, S2, c1 ++ d1, d2, by simp, ?_, k2, fun k hk => ?_, fun k hk => h4 k (k4 k hk)⟩
    · simp only [NodesIs]
      exact ⟨A, S1, c1, d1, rfl, h1, k1, fun k hk => ⟨.inl hk, fun hs => (h3 k hk).2 (k3 k hs).1⟩, fun k hk => .inr hk⟩
    · rcases hk with hk | hk
      · exact ⟨(h3 k hk).1, fun hs => (h3 k hk).2 (k4 k hs)⟩
      · exact ⟨h4 k (k3 k hk).1, (k3 k hk).2⟩

theorem nodes_at {w : World} : ∀ {ts : List Data} {S : Nat → Prop} {xs : List Value} {i : Nat} {t : Data}, NodesIs w ts S xs → ts[i]? = some t → ∃ (S1 : Nat → Prop) (a b c u : Value), xs[i * 4]? = some a ∧ xs[i * 4 + 1]? = some b ∧ xs[i * 4 + 2]? = some c ∧ xs[i * 4 + 3]? = some u ∧ NodeIs w t S1 [a, b, c, u] ∧ ∀ k, S1 k → S k
  | [], S, xs, i, t, h, hi => by simp at hi
  | t' :: ts, S, xs, 0, t, h, hi => by
    simp only [NodesIs] at h
    obtain ⟨S1, S2, c1, c2, rfl, h1, _, h3, _⟩ := h
    simp at hi
    subst hi
    have hl := node_len h1
    match c1, hl with
    | [a, b, c, u], _ => exact ⟨S1, a, b, c, u, by simp, by simp, by simp, by simp, h1, fun k hk => (h3 k hk).1⟩
  | t' :: ts, S, xs, i + 1, t, h, hi => by
    simp only [NodesIs] at h
    obtain ⟨S1, S2, c1, c2, rfl, h1, h2, _, h4⟩ := h
    simp at hi
    have hl := node_len h1
    obtain ⟨S3, a, b, c, u, e1, e2, e3, e4, h5, h6⟩ := nodes_at h2 hi
    have sh : ∀ j, (c1 ++ c2)[(i + 1) * 4 + j]? = c2[i * 4 + j]? := fun j => by
      rw [List.getElem?_append_right (by omega)]
      congr 1
      omega
    exact ⟨S3, a, b, c, u, (sh 0).trans e1, (sh 1).trans e2, (sh 2).trans e3, (sh 3).trans e4, h5, fun k hk => h4 k (h6 k hk)⟩

/-- What a node bears shows its form. -/
theorem node_form {w : World} {t : Data} {S : Nat → Prop} {a b c u : Value} (h : NodeIs w t S [a, b, c, u]) : ∃ op n s ao cap xs, t = nd op n s (kidsOf t) ∧ a = .int .i64 op ∧ b = .int .i64 n ∧ c = .string ⟨s.toArray⟩ ∧ u = .slice ao (kidsOf t).length cap ∧
    w.ownsRow 0 39 4 (.slice ao (kidsOf t).length cap) (kidsOf t).length xs ∧ (∀ g, (Value.slice ao (kidsOf t).length cap).ownBlock = some g → S g) ∧ NodesIs w (kidsOf t) (fun k => S k ∧ (Value.slice ao (kidsOf t).length cap).ownBlock ≠ some k) xs := by
  obtain ⟨op, n, s, ks, rfl⟩ := node_node h
  rw [node_nd] at h
  obtain ⟨v, xs, he, ho, hg, hx⟩ := h
  simp at he
  obtain ⟨rfl, rfl, rfl, rfl⟩ := he
  obtain ⟨ao, cap, rfl⟩ := owns_slice ho
  exact ⟨op, n, s, ao, cap, xs, rfl, rfl, rfl, rfl, rfl, ho, hg, hx⟩

/-- The blocks from lo on, below hi. -/
def Iv (lo hi : Nat) : Nat → Prop := fun k => lo ≤ k ∧ k < hi

end Nd
end Go.Proofs.YtjdohfdkkppnpaaGreatDoor

