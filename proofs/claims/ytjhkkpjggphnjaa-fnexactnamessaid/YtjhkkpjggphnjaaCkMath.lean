/-
  What may run, as plain functions: the nodes of a tree, names, and what is amiss.
-/
import Derived.Test.YtjhkkpjggphnjaaTyMath
namespace Go.Proofs.Ytjhkkpjggphnjaa
namespace Ck
open Nd Ty

mutual
/-- All nodes of a tree, itself first. -/
def subs : Data → List Data
  | .slice ks lab => .slice ks lab :: subsL ks
  | t => [t]
def subsL : List Data → List Data
  | [] => []
  | t :: ts => subs t ++ subsL ts
end
theorem subs_kids (t : Data) : subs t = t :: subsL (kidsOf t) := by cases t <;> simp [subs, subsL, kidsOf]
theorem subsL_append : ∀ (as bs : List Data), subsL (as ++ bs) = subsL as ++ subsL bs
  | [], bs => by simp [subsL]
  | a :: as, bs => by simp only [List.cons_append, subsL, subsL_append as bs, List.append_assoc]
theorem mem_subsL {x : Data} : ∀ {ts : List Data}, x ∈ subsL ts ↔ ∃ t ∈ ts, x ∈ subs t
  | [] => by simp [subsL]
  | t :: ts => by simp [subsL, mem_subsL (ts := ts)]
theorem mem_below1 {x : Data} : ∀ {ts : List Data}, x ∈ subsL ts ↔ x ∈ ts ∨ x ∈ subsL (below1 ts).flatten
  | [] => by simp [subsL, below1]
  | t :: ts => by
    have ih := mem_below1 (x := x) (ts := ts)
    have h0 : subsL (if kidsOf t = [] then ([] : List (List Data)) else [kidsOf t]).flatten = subsL (kidsOf t) := by
      split
      · rename_i e; rw [e]; simp
      · simp
    simp only [subsL, below1, List.flatten_append, subsL_append, h0, List.mem_append, List.mem_cons, subs_kids, ih]
    grind

/-- The nodes of some lists, depth by depth. -/
def bfs : Nat → List (List Data) → List Data
  | 0, _ => []
  | f + 1, ls => ls.flatten ++ bfs f (below ls)
theorem bfs_nil : ∀ f, bfs f [] = []
  | 0 => rfl
  | f + 1 => by simp [bfs, below, bfs_nil f]
theorem deps_below {ls : List (List Data)} (h : ls.flatten ≠ []) : deps ls.flatten = deps (below ls).flatten + 1 := by rw [below_flat, below1_deps ls.flatten, if_neg h]
theorem mem_bfs {x : Data} : ∀ (f : Nat) (ls : List (List Data)), deps ls.flatten ≤ f → (x ∈ bfs f ls ↔ x ∈ subsL ls.flatten)
  | 0, ls, h => by
    have : ls.flatten = [] := by
      cases hl : ls.flatten with
      | nil => rfl
      | cons t ts => rw [hl] at h; have := dep_kids t; simp only [deps] at h; omega
    simp [bfs, this, subsL]
  | f + 1, ls, h => by
    by_cases hl : ls.flatten = []
    · have hb : below ls = [] := by rw [below_flat, hl]; rfl
      simp [bfs, hl, hb, bfs_nil, subsL]
    · have := deps_below hl
      rw [bfs, List.mem_append, mem_bfs f (below ls) (by omega), mem_below1 (ts := ls.flatten), below_flat]

/-- The nodes of a rule in the order in which the program goes over them. -/
def order (r : Ru) : List Data := bfs (deps [r.2.1, r.2.2]) [[r.2.1, r.2.2]]
theorem mem_order {x : Data} {r : Ru} : x ∈ order r ↔ x ∈ subs r.2.1 ∨ x ∈ subs r.2.2 := by
  rw [order, mem_bfs _ _ (by simp)]
  simp [subsL]
/-- The nodes of rules from number k on. -/
def visit : Nat → List Ru → List (Nat × Data)
  | _, [] => []
  | k, r :: rs => (order r).map (fun t => (k, t)) ++ visit (k + 1) rs
theorem visit_append : ∀ (k : Nat) (as bs : List Ru), visit k (as ++ bs) = visit k as ++ visit (k + as.length) bs
  | k, [], bs => by simp [visit]
  | k, a :: as, bs => by simp only [List.cons_append, visit, visit_append (k + 1) as bs, List.append_assoc, List.length_cons]; congr 3; omega
theorem visit_take {rs : List Ru} {k : Nat} {r : Ru} (h : rs[k]? = some r) : visit 0 (rs.take (k + 1)) = visit 0 (rs.take k) ++ (order r).map (fun t => (k, t)) := by
  have hk : k < rs.length := (List.getElem?_eq_some_iff.1 h).1
  rw [List.take_add_one, h, visit_append]
  simp [visit, Nat.min_eq_left (Nat.le_of_lt hk)]
/-- All nodes of rules. -/
def allOf (rs : List Ru) : List Data := (visit 0 rs).map (·.2)
def SubR (rs : List Ru) (x : Data) : Prop := ∃ r ∈ rs, x ∈ subs r.2.1 ∨ x ∈ subs r.2.2
theorem mem_visit {x : Data} : ∀ {k : Nat} {rs : List Ru}, x ∈ (visit k rs).map (·.2) ↔ SubR rs x
  | k, [] => by simp [visit, SubR]
  | k, r :: rs => by
    have ih := mem_visit (x := x) (k := k + 1) (rs := rs)
    rw [visit, List.map_append, List.mem_append, ih]
    simp [SubR, mem_order]
theorem mem_allOf {x : Data} {rs : List Ru} : x ∈ allOf rs ↔ SubR rs x := mem_visit

/-! how many -/
theorem bfs_len : ∀ (f : Nat) (ls : List (List Data)), (bfs f ls).length ≤ cnts ls.flatten
  | 0, ls => by simp [bfs]
  | f + 1, ls => by
    have := bfs_len f (below ls)
    have h2 := below1_cnts ls.flatten
    rw [← below_flat] at h2
    rw [bfs, List.length_append]
    omega

/-! names -/
def varN (t : Data) : Option (List UInt8) := if opOf t = 4 then some (txtOf t) else none
def cellN (t : Data) : Option (List UInt8) := if opOf t = 5 ∨ opOf t = 34 then some (txtOf t) else none
def varsIn (ts : List Data) : List (List UInt8) := ts.filterMap varN
def cellsIn (ts : List Data) : List (List UInt8) := ts.filterMap cellN
theorem varsIn_append (as bs : List Data) : varsIn (as ++ bs) = varsIn as ++ varsIn bs := List.filterMap_append ..
theorem cellsIn_append (as bs : List Data) : cellsIn (as ++ bs) = cellsIn as ++ cellsIn bs := List.filterMap_append ..

/-! what is amiss -/
/-- A tree asks of a line: as the document has it. -/
def needB (n : Data) : Bool := decide (opOf n = 6 ∨ opOf n = 7 ∨ opOf n = 8 ∨ opOf n = 33) || ((kidsOf n).zipIdx).any fun p => decide (opOf p.1 = 3) && !(decide (opOf n = 21) && decide (p.2 = 1))
def soMany (s : List UInt8) (k : Nat) : Bool := if s = [105, 110, 100, 101, 120] then decide (k = 2) else if s = [115, 117, 98, 115, 116, 114] then decide (k = 2) || decide (k = 3) else decide (k = 1)
def argsB (n : Data) : Bool := decide (opOf n = 28) && !soMany (txtOf n) (kidsOf n).length

end Ck
end Go.Proofs.Ytjhkkpjggphnjaa
