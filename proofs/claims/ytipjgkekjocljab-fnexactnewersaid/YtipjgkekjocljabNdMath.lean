/-
  Trees of a program as plain data: how deep, how many, what lies below.
-/
import GoSem.ClaimData
namespace Go.Proofs.Ytipjgkekjocljab
namespace Nd

/-- A node: its Kids, and what else it bears. -/
def nd (op n : Int) (s : List UInt8) (kids : List Data) : Data :=
  .slice kids [.lit (.int .i64 op), .lit (.int .i64 n), .lit (.string s)]

theorem nd_inj {op n op' n' : Int} {s s' : List UInt8} {k k' : List Data} (h : nd op n s k = nd op' n' s' k') : op = op' ∧ n = n' ∧ s = s' ∧ k = k' := by
  simp only [nd, Data.slice.injEq, List.cons.injEq, Data.lit.injEq, Lit.int.injEq, Lit.string.injEq, true_and, and_true] at h
  exact ⟨h.2.1, h.2.2.1, h.2.2.2, h.1⟩

theorem tree_ind {P : Data → Prop} (h : ∀ ks lab, (∀ t ∈ ks, P t) → P (.slice ks lab)) (h1 : ∀ t, (∀ ks lab, t ≠ .slice ks lab) → P t) (t : Data) : P t := by
  match t with
  | .slice ks lab => exact h ks lab (fun t ht => tree_ind h h1 t)
  | .lit l => exact h1 _ (by simp)
  | .nil => exact h1 _ (by simp)
  | .ptr d => exact h1 _ (by simp)
  | .agg ps => exact h1 _ (by simp)
  | .iface s d => exact h1 _ (by simp)
termination_by SizeOf.sizeOf t
decreasing_by
  have := List.sizeOf_lt_of_mem ht
  simp
  omega

def kidsOf : Data → List Data
  | .slice ks _ => ks
  | _ => []

mutual
def dep : Data → Nat
  | .slice ks _ => deps ks + 1
  | _ => 1
def deps : List Data → Nat
  | [] => 0
  | t :: ts => max (dep t) (deps ts)
end
mutual
def cnt : Data → Nat
  | .slice ks _ => cnts ks + 1
  | _ => 1
def cnts : List Data → Nat
  | [] => 0
  | t :: ts => cnt t + cnts ts
end

theorem kids_nd (op n : Int) (s : List UInt8) (ks : List Data) : kidsOf (nd op n s ks) = ks := rfl
theorem dep_nd (op n : Int) (s : List UInt8) (ks : List Data) : dep (nd op n s ks) = deps ks + 1 := by simp [nd, dep]
theorem cnt_nd (op n : Int) (s : List UInt8) (ks : List Data) : cnt (nd op n s ks) = cnts ks + 1 := by simp [nd, cnt]
theorem dep_kids (t : Data) : dep t = deps (kidsOf t) + 1 := by cases t <;> simp [dep, deps, kidsOf]
theorem cnt_kids (t : Data) : cnt t = cnts (kidsOf t) + 1 := by cases t <;> simp [cnt, cnts, kidsOf]

theorem deps_mem {t : Data} : ∀ {ts : List Data}, t ∈ ts → dep t ≤ deps ts
  | a :: ts, h => by
    simp only [deps]
    rcases List.mem_cons.1 h with rfl | h
    · omega
    · have := deps_mem h; omega
theorem cnts_mem {t : Data} : ∀ {ts : List Data}, t ∈ ts → cnt t ≤ cnts ts
  | a :: ts, h => by
    simp only [cnts]
    rcases List.mem_cons.1 h with rfl | h
    · omega
    · have := cnts_mem h; omega
theorem cnts_len : ∀ ts : List Data, ts.length ≤ cnts ts
  | [] => by simp
  | t :: ts => by
    have := cnts_len ts
    have := cnt_kids t
    simp only [cnts, List.length_cons]
    omega
theorem deps_append : ∀ (us bs : List Data), deps (us ++ bs) = max (deps us) (deps bs)
  | [], bs => by simp [deps]
  | a :: us, bs => by simp only [List.cons_append, deps, deps_append us bs]; omega
theorem cnts_append : ∀ (us bs : List Data), cnts (us ++ bs) = cnts us + cnts bs
  | [], bs => by simp [cnts]
  | a :: us, bs => by simp only [List.cons_append, cnts, cnts_append us bs]; omega
theorem deps_take (ks : List Data) (k : Nat) (t : Data) (h : ks[k]? = some t) : deps (ks.take (k + 1)) = max (deps (ks.take k)) (dep t) := by
  rw [List.take_add_one, h, deps_append]
  simp [deps]
theorem deps_le (ks : List Data) (i : Nat) : deps (ks.take i) ≤ deps ks := by
  have := deps_append (ks.take i) (ks.drop i)
  rw [List.take_append_drop] at this
  omega
theorem cnts_take (ks : List Data) (k : Nat) (t : Data) (h : ks[k]? = some t) : cnts (ks.take (k + 1)) = cnts (ks.take k) + cnt t := by
  rw [List.take_add_one, h, cnts_append]
  simp [cnts]
theorem cnts_le (ks : List Data) (i : Nat) : cnts (ks.take i) ≤ cnts ks := by
  have := cnts_append (ks.take i) (ks.drop i)
  rw [List.take_append_drop] at this
  omega
theorem dep_cnt (t : Data) : dep t ≤ cnt t := by
  induction t using tree_ind with
  | h ks lab ih =>
    have : ∀ ts : List Data, (∀ t ∈ ts, dep t ≤ cnt t) → deps ts ≤ cnts ts := by
      intro ts
      induction ts with
      | nil => intro _; simp [deps]
      | cons a ts ih2 =>
        intro h
        have h1 := h a (by simp)
        have h2 := ih2 fun t ht => h t (by simp [ht])
        simp only [deps, cnts]
        omega
    have := this ks ih
    simp only [dep, cnt]
    omega
  | h1 t ht =>
    cases t <;> simp [dep, cnt]
    exact absurd rfl (ht _ _)

/-- The lists of kids of some nodes that are not empty. -/
def below1 : List Data → List (List Data)
  | [] => []
  | t :: ts => (if kidsOf t = [] then [] else [kidsOf t]) ++ below1 ts
def below : List (List Data) → List (List Data)
  | [] => []
  | l :: ls => below1 l ++ below ls
theorem below1_append : ∀ (us bs : List Data), below1 (us ++ bs) = below1 us ++ below1 bs
  | [], bs => rfl
  | a :: us, bs => by simp only [List.cons_append, below1, below1_append us bs, List.append_assoc]
theorem below_append : ∀ (us bs : List (List Data)), below (us ++ bs) = below us ++ below bs
  | [], bs => rfl
  | a :: us, bs => by simp only [List.cons_append, below, below_append us bs, List.append_assoc]
theorem below_flat : ∀ ls : List (List Data), below ls = below1 ls.flatten
  | [] => rfl
  | l :: ls => by simp only [below, List.flatten_cons, below1_append, below_flat ls]
theorem below1_ne : ∀ (ts : List Data), ∀ l ∈ below1 ts, l ≠ []
  | [], l, h => by simp [below1] at h
  | t :: ts, l, h => by
    simp only [below1, List.mem_append] at h
    rcases h with h | h
    · split at h
      · simp at h
      · simp at h; subst h; assumption
    · exact below1_ne ts l h
theorem below1_len : ∀ (ts : List Data), (below1 ts).length ≤ ts.length
  | [] => by simp [below1]
  | t :: ts => by
    have := below1_len ts
    simp only [below1, List.length_append, List.length_cons]
    split <;> simp <;> omega
theorem below1_deps : ∀ (ts : List Data), deps ts = if ts = [] then 0 else deps (below1 ts).flatten + 1
  | [] => by simp [deps]
  | t :: ts => by
    have h := below1_deps ts
    have hk := dep_kids t
    have h0 : deps (if kidsOf t = [] then ([] : List (List Data)) else [kidsOf t]).flatten = deps (kidsOf t) := by
      split
      · rename_i e; rw [e]; simp
      · simp
    rw [if_neg (by simp)]
    simp only [deps, below1, List.flatten_append, deps_append, h0]
    rw [h]
    split
    · rename_i e; subst e; simp [below1, deps]; omega
    · omega
theorem below1_cnts : ∀ (ts : List Data), cnts ts = cnts (below1 ts).flatten + ts.length
  | [] => by simp [cnts, below1]
  | t :: ts => by
    have h := below1_cnts ts
    have hk := cnt_kids t
    have h0 : cnts (if kidsOf t = [] then ([] : List (List Data)) else [kidsOf t]).flatten = cnts (kidsOf t) := by
      split
      · rename_i e; rw [e]; simp
      · simp
    simp only [cnts, below1, List.flatten_append, cnts_append, h0, List.length_cons]
    omega
theorem below1_take {ts : List Data} {k : Nat} {t : Data} (h : ts[k]? = some t) : below1 (ts.take (k + 1)) = below1 (ts.take k) ++ if kidsOf t = [] then [] else [kidsOf t] := by
  rw [List.take_add_one, h, below1_append]
  simp [below1]
theorem below_take {ls : List (List Data)} {k : Nat} {l : List Data} (h : ls[k]? = some l) : below (ls.take (k + 1)) = below (ls.take k) ++ below1 l := by
  rw [List.take_add_one, h, below_append]
  simp [below]

end Nd
end Go.Proofs.Ytipjgkekjocljab
