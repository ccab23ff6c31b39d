/-
  A Rex in the heap: a tree whose lists of Kids lie in blocks of their own.
  A pattern in the heap: an interface with a type for each op.
-/
import Derived.Test.YtkhoccjfkkfipaaGreatDoorP28
import Derived.Laws.AppendOwn
import Derived.Below
import Derived.OwnWalk
import Derived.Maps.AppendAt
namespace Go.Proofs.YtkhoccjfkkfipaaGreatDoor
open Go.RowKit
namespace Rx

theorem owns_same {w w' : World} {base e size n : Nat} {v : Value} {xs : List Value} (h : w.ownsRow base e size v n xs) (hb : ∀ g, v.ownBlock = some g → w'.heap[g]? = w.heap[g]?) : w'.ownsRow base e size v n xs := by
  refine ⟨h.1, ?_⟩
  rcases h.2 with hn | ⟨g, cap, cur, hv, hb', hg, rest⟩
  · exact .inl hn
  · exact .inr ⟨g, cap, cur, hv, hb', (hb g (by subst hv; rfl)).trans hg, rest⟩

theorem owns_base {w : World} {base base' e size n : Nat} {v : Value} {xs : List Value} (h : w.ownsRow base e size v n xs) (hb : base' ≤ base) : w.ownsRow base' e size v n xs := by
  refine ⟨h.1, ?_⟩
  rcases h.2 with hn | ⟨g, cap, cur, hv, hb', rest⟩
  · exact .inl hn
  · exact .inr ⟨g, cap, cur, hv, Nat.le_trans hb hb', rest⟩

theorem rex_ind {P : Data → Prop} (h : ∀ ks lab, (∀ t ∈ ks, P t) → P (.slice ks lab)) (h1 : ∀ t, (∀ ks lab, t ≠ .slice ks lab) → P t) (t : Data) : P t := by
  match t with
  | .slice ks lab => exact h ks lab (fun t ht => rex_ind h h1 t)
  | .lit l => exact h1 _ (by simp)
  | .nil => exact h1 _ (by simp)
  | .ptr d => exact h1 _ (by simp)
  | .agg ps => exact h1 _ (by simp)
  | .iface s d => exact h1 _ (by simp)
termination_by SizeOf.sizeOf t
decreasing_by
  have := List.sizeOf_lt_of_mem ht
  simp
  omega

mutual
/-- The five cells of a Rex, its memory within S. -/
def RexIs (w : World) : Data → (Nat → Prop) → List Value → Prop
  | .slice ks lab, S, cs => ∃ (op c : Nat) (s : List UInt8) (no : Bool) (v : Value) (xs : List Value), lab = [.lit (.int .i64 op), .lit (.int .i64 c), .lit (.string s), .lit (.bool no)] ∧
      cs = [.int .i64 op, .int .i64 c, .string ⟨s.toArray⟩, .bool no, v] ∧ w.ownsRow 0 149 5 v ks.length xs ∧ (∀ g, v.ownBlock = some g → S g) ∧ RexsIs w ks (fun k => S k ∧ v.ownBlock ≠ some k) xs
  | _, _, _ => False
/-- The cells of a list of them, their memories apart. -/
def RexsIs (w : World) : List Data → (Nat → Prop) → List Value → Prop
  | [], _, xs => xs = []
  | t :: ts, S, xs => ∃ (S1 S2 : Nat → Prop) (c1 c2 : List Value), xs = c1 ++ c2 ∧ RexIs w t S1 c1 ∧ RexsIs w ts S2 c2 ∧ (∀ k, S1 k → S k ∧ ¬ S2 k) ∧ (∀ k, S2 k → S k)
end

theorem rex_nd {w : World} {op c : Nat} {s : List UInt8} {no : Bool} {ks : List Data} {S : Nat → Prop} {cs : List Value} :
    RexIs w (nd op c s no ks) S cs ↔ ∃ (v : Value) (xs : List Value), cs = [.int .i64 op, .int .i64 c, .string ⟨s.toArray⟩, .bool no, v] ∧ w.ownsRow 0 149 5 v ks.length xs ∧
      (∀ g, v.ownBlock = some g → S g) ∧ RexsIs w ks (fun k => S k ∧ v.ownBlock ≠ some k) xs := by
  unfold nd
  rw [RexIs]
  constructor
  · rintro ⟨op', c', s', no', v, xs, hl, hc, h⟩
    have := nd_inj (show nd op c s no [] = nd op' c' s' no' [] by unfold nd; rw [hl])
    obtain ⟨rfl, rfl, rfl, rfl, _⟩ := this
    exact ⟨v, xs, hc, h⟩
  · rintro ⟨v, xs, hc, h⟩
    exact ⟨op, c, s, no, v, xs, rfl, hc, h⟩

theorem rex_len {w : World} {t : Data} {S : Nat → Prop} {cs : List Value} (h : RexIs w t S cs) : cs.length = 5 := by
  cases t <;> simp only [RexIs] at h
  obtain ⟨op, c, s, no, v, xs, _, rfl, _⟩ := h
  rfl

/-- A Rex is a node. -/
theorem rex_node {w : World} {t : Data} {S : Nat → Prop} {cs : List Value} (h : RexIs w t S cs) : ∃ op c s no ks, t = nd op c s no ks := by
  cases t <;> simp only [RexIs] at h
  obtain ⟨op, c, s, no, v, xs, rfl, _⟩ := h
  exact ⟨op, c, s, no, _, rfl⟩

theorem rexs_len {w : World} : ∀ {ts : List Data} {S : Nat → Prop} {xs : List Value}, RexsIs w ts S xs → xs.length = ts.length * 5
  | [], S, xs, h => by simp only [RexsIs] at h; simp [h]
  | t :: ts, S, xs, h => by
    simp only [RexsIs] at h
    obtain ⟨S1, S2, c1, c2, rfl, h1, h2, _⟩ := h
    have := rex_len h1
    have := rexs_len h2
    simp; omega

theorem rexs_mono {w : World} {ts : List Data} {S S' : Nat → Prop} {xs : List Value} (h : RexsIs w ts S xs) (hS : ∀ k, S k → S' k) : RexsIs w ts S' xs := by
  cases ts with
  | nil => simpa only [RexsIs] using h
  | cons t ts =>
    simp only [RexsIs] at h ⊢
    obtain ⟨S1, S2, c1, c2, hx, h1, h2, h3, h4⟩ := h
    exact ⟨S1, S2, c1, c2, hx, h1, h2, fun k hk => ⟨hS k (h3 k hk).1, (h3 k hk).2⟩, fun k hk => hS k (h4 k hk)⟩

theorem rex_mono {w : World} {t : Data} {S S' : Nat → Prop} {cs : List Value} (h : RexIs w t S cs) (hS : ∀ k, S k → S' k) : RexIs w t S' cs := by
  obtain ⟨op, c, s, no, ks, rfl⟩ := rex_node h
  rw [rex_nd] at h ⊢
  obtain ⟨v, xs, hc, ho, hg, hk⟩ := h
  exact ⟨v, xs, hc, ho, fun g h => hS g (hg g h), rexs_mono hk fun k hk => ⟨hS k hk.1, hk.2⟩⟩

theorem rexs_frame_of {w w' : World} : ∀ (ts : List Data) (S : Nat → Prop) (xs : List Value), (∀ t ∈ ts, ∀ (S : Nat → Prop) (cs : List Value), (∀ k, S k → w'.heap[k]? = w.heap[k]?) → RexIs w t S cs → RexIs w' t S cs) →
    (∀ k, S k → w'.heap[k]? = w.heap[k]?) → RexsIs w ts S xs → RexsIs w' ts S xs
  | [], S, xs, _, _, h => by simpa only [RexsIs] using h
  | t :: ts, S, xs, hT, hS, h => by
    simp only [RexsIs] at h ⊢
    obtain ⟨S1, S2, c1, c2, hx, h1, h2, h3, h4⟩ := h
    exact ⟨S1, S2, c1, c2, hx, hT t (by simp) S1 c1 (fun k hk => hS k (h3 k hk).1) h1, rexs_frame_of ts S2 c2 (fun t ht => hT t (by simp [ht])) (fun k hk => hS k (h4 k hk)) h2, h3, h4⟩

theorem rex_frame {w w' : World} (t : Data) : ∀ (S : Nat → Prop) (cs : List Value), (∀ k, S k → w'.heap[k]? = w.heap[k]?) → RexIs w t S cs → RexIs w' t S cs := by
  induction t using rex_ind with
  | h ks lab ih =>
    intro S cs hS h
    rw [RexIs] at h ⊢
    obtain ⟨op, c, s, no, v, xs, hl, hc, ho, hg, hk⟩ := h
    exact ⟨op, c, s, no, v, xs, hl, hc, owns_same ho fun g h => hS g (hg g h), hg, rexs_frame_of ks _ _ ih (fun k hk => hS k hk.1) hk⟩
  | h1 t ht =>
    intro S cs hS h
    obtain ⟨op, c, s, no, ks, rfl⟩ := rex_node h
    exact absurd rfl (ht _ _)

theorem rexs_frame {w w' : World} {ts : List Data} {S : Nat → Prop} {xs : List Value} (hS : ∀ k, S k → w'.heap[k]? = w.heap[k]?) (h : RexsIs w ts S xs) : RexsIs w' ts S xs :=
  rexs_frame_of ts S xs (fun t _ => rex_frame t) hS h

theorem rexs_snoc {w : World} : ∀ {ts : List Data} {t : Data} {S1 S2 S : Nat → Prop} {xs cs : List Value}, RexsIs w ts S1 xs → RexIs w t S2 cs → (∀ k, S1 k → S k ∧ ¬ S2 k) → (∀ k, S2 k → S k) → RexsIs w (ts ++ [t]) S (xs ++ cs)
  | [], t, S1, S2, S, xs, cs, h1, h2, h3, h4 => by
    simp only [RexsIs] at h1
    subst h1
    simp only [List.nil_append, RexsIs]
    exact ⟨S2, fun _ => False, cs, [], by simp, h2, rfl, fun k hk => ⟨h4 k hk, id⟩, fun k hk => hk.elim⟩
  | t' :: ts, t, S1, S2, S, xs, cs, h1, h2, h3, h4 => by
    simp only [RexsIs] at h1
    obtain ⟨A, B, c1, c2, rfl, a1, a2, a3, a4⟩ := h1
    simp only [List.cons_append, RexsIs]
    exact ⟨A, fun k => B k ∨ S2 k, c1, c2 ++ cs, by simp, a1, rexs_snoc (S := fun k => B k ∨ S2 k) a2 h2 (fun k hk => ⟨.inl hk, (h3 k (a4 k hk)).2⟩) (fun k hk => .inr hk),
      fun k hk => ⟨(h3 k (a3 k hk).1).1, fun h => h.elim (a3 k hk).2 (h3 k (a3 k hk).1).2⟩, fun k hk => hk.elim (fun h => (h3 k (a4 k h)).1) (h4 k)⟩

/-- A list of Rex that is being made: its blocks from B on. -/
def Kids (w : World) (B : Nat) (ts : List Data) (v : Value) : Prop :=
  ∃ (xs : List Value) (S : Nat → Prop), w.ownsRow B 149 5 v ts.length xs ∧ RexsIs w ts S xs ∧ ∀ k, S k → B ≤ k ∧ k < w.heap.size ∧ v.ownBlock ≠ some k

/-- The blocks from lo on, below hi. -/
def Iv (lo hi : Nat) : Nat → Prop := fun k => lo ≤ k ∧ k < hi

theorem kids_nil (w : World) (B : Nat) : Kids w B [] (.slice none 0 0) := ⟨[], fun _ => False, World.ownsRow_nil _ _ _ _, by simp only [RexsIs], fun _ h => h.elim⟩

theorem kids_snoc {w w1 w2 : World} {B : Nat} {ts : List Data} {t : Data} {v v' : Value} {xs cs : List Value} {S : Nat → Prop}
    (h2 : RexsIs w ts S xs) (h3 : ∀ k, S k → B ≤ k ∧ k < w.heap.size ∧ v.ownBlock ≠ some k) (hB : B ≤ w.heap.size)
    (hr : RexIs w1 t (Iv w.heap.size w1.heap.size) cs) (hsz : w.heap.size ≤ w1.heap.size) (hw1 : ∀ k, B ≤ k → k < w.heap.size → v.ownBlock ≠ some k → w1.heap[k]? = w.heap[k]?) (hv : ∀ k, v.ownBlock = some k → k < w.heap.size)
    (ho' : w2.ownsRow B 149 5 v' (ts.length + 1) (xs ++ cs)) (hsz2 : w1.heap.size ≤ w2.heap.size) (hw2 : ∀ k, k < w1.heap.size → v.ownBlock ≠ some k → w2.heap[k]? = w1.heap[k]?)
    (hv' : v'.ownBlock = v.ownBlock ∨ ∃ m, v'.ownBlock = some m ∧ w1.heap.size ≤ m) : Kids w2 B (ts ++ [t]) v' := by
  have own : ∀ k, v'.ownBlock = some k → v.ownBlock = some k ∨ w1.heap.size ≤ k := by
    intro k hk
    rcases hv' with h | ⟨m, h, hm⟩
    · exact .inl (h ▸ hk)
    · rw [h] at hk; simp at hk; exact .inr (by omega)
  refine ⟨xs ++ cs, fun k => S k ∨ Iv w.heap.size w1.heap.size k, by simpa using ho', ?_, ?_⟩
  · refine rexs_snoc (S1 := S) (S2 := Iv w.heap.size w1.heap.size) ?_ ?_ (fun k hk => ⟨.inl hk, fun h => ?_⟩) (fun k hk => .inr hk)
    · refine rexs_frame (fun k hk => ?_) h2
      have := h3 k hk
      exact (hw2 k (by omega) this.2.2).trans (hw1 k this.1 this.2.1 this.2.2)
    · refine rex_frame t _ _ (fun k hk => hw2 k hk.2 fun h => ?_) hr
      have := hv k h
      have := hk.1
      omega
    · have := (h3 k hk).2.1
      have := h.1
      omega
  · intro k hk
    rcases hk with hk | hk
    · have := h3 k hk
      refine ⟨this.1, by omega, fun h => ?_⟩
      rcases own k h with h | h
      · exact this.2.2 h
      · omega
    · have a1 := hk.1
      have a2 := hk.2
      refine ⟨by omega, by omega, fun h => ?_⟩
      rcases own k h with h | h
      · have := hv k h; omega
      · omega

theorem kids_rex {w : World} {B : Nat} {ts : List Data} {v : Value} (h : Kids w B ts v) (op c : Nat) (s : List UInt8) (no : Bool) :
    RexIs w (nd op c s no ts) (Iv B w.heap.size) [.int .i64 op, .int .i64 c, .string ⟨s.toArray⟩, .bool no, v] := by
  obtain ⟨xs, S, ho, hk, hS⟩ := h
  rw [rex_nd]
  refine ⟨v, xs, rfl, owns_base ho (Nat.zero_le _), fun g hg => ho.lt g hg, rexs_mono hk fun k hk => ?_⟩
  have := hS k hk
  exact ⟨⟨this.1, this.2.1⟩, this.2.2⟩

/-- Nothing within: a Rex without Kids. -/
theorem rex_leaf (w : World) (S : Nat → Prop) (op c : Nat) (s : List UInt8) (no : Bool) : RexIs w (nd op c s no []) S [.int .i64 op, .int .i64 c, .string ⟨s.toArray⟩, .bool no, .slice none 0 0] := by
  rw [rex_nd]
  refine ⟨_, [], rfl, World.ownsRow_nil _ _ _ _, fun g hg => by simp [Value.ownBlock] at hg, by simp only [RexsIs]⟩

mutual
def cnt : Data → Nat
  | .slice ks _ => cnts ks + 1
  | _ => 1
def cnts : List Data → Nat
  | [] => 0
  | t :: ts => cnt t + cnts ts
end

theorem cnt_nd (op c : Nat) (s : List UInt8) (no : Bool) (ks : List Data) : cnt (nd op c s no ks) = cnts ks + 1 := by simp [nd, cnt]
theorem dep_nd (op c : Nat) (s : List UInt8) (no : Bool) (ks : List Data) : dep (nd op c s no ks) = deps ks + 1 := by simp [nd, dep]
theorem cnt_pos (t : Data) : 0 < cnt t := by cases t <;> simp [cnt]
theorem cnts_len : ∀ ts : List Data, ts.length ≤ cnts ts
  | [] => by simp [cnts]
  | t :: ts => by have := cnts_len ts; have := cnt_pos t; simp [cnts]; omega
theorem cnts_mem : ∀ {ts : List Data} {t : Data}, t ∈ ts → cnt t ≤ cnts ts
  | t' :: ts, t, h => by
    rcases List.mem_cons.1 h with rfl | h
    · simp [cnts]
    · have := cnts_mem h; simp [cnts]; omega
theorem deps_mem : ∀ {ts : List Data} {t : Data}, t ∈ ts → dep t ≤ deps ts
  | t' :: ts, t, h => by
    rcases List.mem_cons.1 h with rfl | h
    · simp [deps]; omega
    · have := deps_mem h; simp [deps]; omega

end Rx
end Go.Proofs.YtkhoccjfkkfipaaGreatDoor
namespace Go.Proofs.YtkhoccjfkkfipaaGreatDoor
open Go.RowKit
namespace Rx

/-- A pattern without kids. -/
def Leaf (op c : Nat) (s : List UInt8) (no : Bool) (v : Value) : Prop :=
  (op = 1 ∧ c < 256 ∧ s = [] ∧ no = false ∧ v = .iface 202 (.int .u8 c)) ∨
  (op = 2 ∧ c = 0 ∧ s = [] ∧ no = false ∧ v = .iface 259 (.agg #[])) ∨
  (op = 3 ∧ c = 0 ∧ v = .iface 204 (.agg #[.string ⟨s.toArray⟩, .bool no])) ∨
  (op = 4 ∧ c = 0 ∧ s = [] ∧ no = false ∧ v = .iface 260 (.agg #[])) ∨
  (op = 5 ∧ c = 0 ∧ s = [] ∧ no = false ∧ v = .iface 261 (.agg #[])) ∨
  (op = 11 ∧ c = 0 ∧ s = [] ∧ no = false ∧ v = .iface 244 (.agg #[]))

mutual
def PatIs (w : World) : Data → (Nat → Prop) → Value → Prop
  | .slice ks lab, S, v => ∃ (op c : Nat) (s : List UInt8) (no : Bool), lab = [.lit (.int .i64 op), .lit (.int .i64 c), .lit (.string s), .lit (.bool no)] ∧
      ((ks = [] ∧ Leaf op c s no v) ∨
       (c = 0 ∧ s = [] ∧ no = false ∧ ∃ x, PatsIs w ks S [x] ∧ ((op = 8 ∧ v = .iface 222 (.agg #[x])) ∨ (op = 9 ∧ v = .iface 223 (.agg #[x])) ∨ (op = 10 ∧ v = .iface 224 (.agg #[x])))) ∨
       (c = 0 ∧ s = [] ∧ no = false ∧ ∃ u xs, w.ownsRow 0 179 1 u ks.length xs ∧ (∀ g, u.ownBlock = some g → S g) ∧ PatsIs w ks S xs ∧ ((op = 6 ∧ v = .iface 220 u) ∨ (op = 7 ∧ v = .iface 219 u))))
  | _, _, _ => False
def PatsIs (w : World) : List Data → (Nat → Prop) → List Value → Prop
  | [], _, xs => xs = []
  | t :: ts, S, xs => ∃ (x : Value) (ys : List Value), xs = x :: ys ∧ PatIs w t S x ∧ PatsIs w ts S ys
end

theorem pat_nd {w : World} {op c : Nat} {s : List UInt8} {no : Bool} {ks : List Data} {S : Nat → Prop} {v : Value} :
    PatIs w (nd op c s no ks) S v ↔ ((ks = [] ∧ Leaf op c s no v) ∨
       (c = 0 ∧ s = [] ∧ no = false ∧ ∃ x, PatsIs w ks S [x] ∧ ((op = 8 ∧ v = .iface 222 (.agg #[x])) ∨ (op = 9 ∧ v = .iface 223 (.agg #[x])) ∨ (op = 10 ∧ v = .iface 224 (.agg #[x])))) ∨
       (c = 0 ∧ s = [] ∧ no = false ∧ ∃ u xs, w.ownsRow 0 179 1 u ks.length xs ∧ (∀ g, u.ownBlock = some g → S g) ∧ PatsIs w ks S xs ∧ ((op = 6 ∧ v = .iface 220 u) ∨ (op = 7 ∧ v = .iface 219 u)))) := by
  unfold nd
  rw [PatIs]
  constructor
  · rintro ⟨op', c', s', no', hl, h⟩
    have := nd_inj (show nd op c s no [] = nd op' c' s' no' [] by unfold nd; rw [hl])
    obtain ⟨rfl, rfl, rfl, rfl, _⟩ := this
    exact h
  · intro h
    exact ⟨op, c, s, no, rfl, h⟩

theorem pat_node {w : World} {t : Data} {S : Nat → Prop} {v : Value} (h : PatIs w t S v) : ∃ op c s no ks, t = nd op c s no ks := by
  cases t <;> simp only [PatIs] at h
  obtain ⟨op, c, s, no, rfl, _⟩ := h
  exact ⟨op, c, s, no, _, rfl⟩

theorem pat_iface {w : World} {t : Data} {S : Nat → Prop} {v : Value} (h : PatIs w t S v) : ∃ T x, v = .iface T x := by
  obtain ⟨op, c, s, no, ks, rfl⟩ := pat_node h
  rw [pat_nd] at h
  rcases h with ⟨_, h⟩ | ⟨_, _, _, x, _, h⟩ | ⟨_, _, _, u, xs, _, _, _, h⟩
  · rcases h with h | h | h | h | h | h
    · exact ⟨_, _, h.2.2.2.2⟩
    · exact ⟨_, _, h.2.2.2.2⟩
    · exact ⟨_, _, h.2.2⟩
    · exact ⟨_, _, h.2.2.2.2⟩
    · exact ⟨_, _, h.2.2.2.2⟩
    · exact ⟨_, _, h.2.2.2.2⟩
  · rcases h with h | h | h <;> exact ⟨_, _, h.2⟩
  · rcases h with h | h <;> exact ⟨_, _, h.2⟩

theorem pats_len {w : World} : ∀ {ts : List Data} {S : Nat → Prop} {xs : List Value}, PatsIs w ts S xs → xs.length = ts.length
  | [], S, xs, h => by simp only [PatsIs] at h; simp [h]
  | t :: ts, S, xs, h => by
    simp only [PatsIs] at h
    obtain ⟨x, ys, rfl, h1, h2⟩ := h
    have := pats_len h2
    simp; omega

theorem pats_frame_of {w w' : World} {S S' : Nat → Prop} : ∀ (ts : List Data) (xs : List Value), (∀ t ∈ ts, ∀ v, PatIs w t S v → PatIs w' t S' v) → PatsIs w ts S xs → PatsIs w' ts S' xs
  | [], xs, _, h => by simpa only [PatsIs] using h
  | t :: ts, xs, hT, h => by
    simp only [PatsIs] at h ⊢
    obtain ⟨x, ys, hx, h1, h2⟩ := h
    exact ⟨x, ys, hx, hT t (by simp) x h1, pats_frame_of ts ys (fun t ht => hT t (by simp [ht])) h2⟩

theorem pat_frame {w w' : World} {S S' : Nat → Prop} (hS : ∀ k, S k → w'.heap[k]? = w.heap[k]?) (hS' : ∀ k, S k → S' k) (t : Data) : ∀ v, PatIs w t S v → PatIs w' t S' v := by
  induction t using rex_ind with
  | h ks lab ih =>
    intro v h
    rw [PatIs] at h ⊢
    obtain ⟨op, c, s, no, hl, h⟩ := h
    refine ⟨op, c, s, no, hl, ?_⟩
    rcases h with h | ⟨a1, a2, a3, x, hx, h⟩ | ⟨a1, a2, a3, u, xs, ho, hg, hx, h⟩
    · exact .inl h
    · exact .inr (.inl ⟨a1, a2, a3, x, pats_frame_of ks _ ih hx, h⟩)
    · exact .inr (.inr ⟨a1, a2, a3, u, xs, owns_same ho fun g h => hS g (hg g h), fun g h => hS' g (hg g h), pats_frame_of ks _ ih hx, h⟩)
  | h1 t ht =>
    intro v h
    obtain ⟨op, c, s, no, ks, rfl⟩ := pat_node h
    exact absurd rfl (ht _ _)

theorem pats_frame {w w' : World} {S S' : Nat → Prop} (hS : ∀ k, S k → w'.heap[k]? = w.heap[k]?) (hS' : ∀ k, S k → S' k) {ts : List Data} {xs : List Value} (h : PatsIs w ts S xs) : PatsIs w' ts S' xs :=
  pats_frame_of ts xs (fun t _ => pat_frame hS hS' t) h

theorem pats_snoc {w : World} : ∀ {ts : List Data} {t : Data} {S : Nat → Prop} {xs : List Value} {v : Value}, PatsIs w ts S xs → PatIs w t S v → PatsIs w (ts ++ [t]) S (xs ++ [v])
  | [], t, S, xs, v, h1, h2 => by
    simp only [PatsIs] at h1
    subst h1
    simp only [List.nil_append, PatsIs]
    exact ⟨v, [], rfl, h2, rfl⟩
  | t' :: ts, t, S, xs, v, h1, h2 => by
    simp only [PatsIs] at h1
    obtain ⟨x, ys, rfl, a1, a2⟩ := h1
    simp only [List.cons_append, PatsIs]
    exact ⟨x, ys ++ [v], rfl, a1, pats_snoc a2 h2⟩

/-- A list of patterns that is being made. -/
def Pats (w : World) (B : Nat) (ts : List Data) (v : Value) : Prop :=
  ∃ (xs : List Value) (S : Nat → Prop), w.ownsRow B 179 1 v ts.length xs ∧ PatsIs w ts S xs ∧ ∀ k, S k → B ≤ k ∧ k < w.heap.size ∧ v.ownBlock ≠ some k

theorem pats_nil (w : World) (B : Nat) : Pats w B [] (.slice none 0 0) := ⟨[], fun _ => False, World.ownsRow_nil _ _ _ _, by simp only [PatsIs], fun _ h => h.elim⟩

theorem pats_more {w w1 w2 : World} {B : Nat} {ts : List Data} {t : Data} {v v' x : Value} {xs : List Value} {S : Nat → Prop}
    (h2 : PatsIs w ts S xs) (h3 : ∀ k, S k → B ≤ k ∧ k < w.heap.size ∧ v.ownBlock ≠ some k) (hB : B ≤ w.heap.size)
    (hr : PatIs w1 t (Iv w.heap.size w1.heap.size) x) (hsz : w.heap.size ≤ w1.heap.size) (hw1 : ∀ k, B ≤ k → k < w.heap.size → v.ownBlock ≠ some k → w1.heap[k]? = w.heap[k]?) (hv : ∀ k, v.ownBlock = some k → k < w.heap.size)
    (ho' : w2.ownsRow B 179 1 v' (ts.length + 1) (xs ++ [x])) (hsz2 : w1.heap.size ≤ w2.heap.size) (hw2 : ∀ k, k < w1.heap.size → v.ownBlock ≠ some k → w2.heap[k]? = w1.heap[k]?)
    (hv' : v'.ownBlock = v.ownBlock ∨ ∃ m, v'.ownBlock = some m ∧ w1.heap.size ≤ m) : Pats w2 B (ts ++ [t]) v' := by
  have own : ∀ k, v'.ownBlock = some k → v.ownBlock = some k ∨ w1.heap.size ≤ k := by
    intro k hk
    rcases hv' with h | ⟨m, h, hm⟩
    · exact .inl (h ▸ hk)
    · rw [h] at hk; simp at hk; exact .inr (by omega)
  refine ⟨xs ++ [x], fun k => S k ∨ Iv w.heap.size w1.heap.size k, by simpa using ho', ?_, ?_⟩
  · refine pats_snoc ?_ ?_
    · refine pats_frame (fun k hk => ?_) (fun k hk => .inl hk) h2
      have := h3 k hk
      exact (hw2 k (by omega) this.2.2).trans (hw1 k this.1 this.2.1 this.2.2)
    · refine pat_frame (fun k hk => hw2 k hk.2 fun h => ?_) (fun k hk => .inr hk) t _ hr
      have := hv k h
      have := hk.1
      omega
  · intro k hk
    rcases hk with hk | hk
    · have := h3 k hk
      refine ⟨this.1, by omega, fun h => ?_⟩
      rcases own k h with h | h
      · exact this.2.2 h
      · omega
    · have a1 := hk.1
      have a2 := hk.2
      refine ⟨by omega, by omega, fun h => ?_⟩
      rcases own k h with h | h
      · have := hv k h; omega
      · omega

theorem pats_pat {w : World} {B : Nat} {ts : List Data} {u : Value} (h : Pats w B ts u) :
    PatIs w (nd 6 0 [] false ts) (Iv B w.heap.size) (.iface 220 u) ∧ PatIs w (nd 7 0 [] false ts) (Iv B w.heap.size) (.iface 219 u) := by
  obtain ⟨xs, S, ho, hk, hS⟩ := h
  have hk' : PatsIs w ts (Iv B w.heap.size) xs := pats_frame (fun _ _ => rfl) (fun k hk => ⟨(hS k hk).1, (hS k hk).2.1⟩) hk
  constructor
  · rw [pat_nd]
    exact .inr (.inr ⟨rfl, rfl, rfl, u, xs, owns_base ho (Nat.zero_le _), fun g hg => ho.lt g hg, hk', .inl ⟨rfl, rfl⟩⟩)
  · rw [pat_nd]
    exact .inr (.inr ⟨rfl, rfl, rfl, u, xs, owns_base ho (Nat.zero_le _), fun g hg => ho.lt g hg, hk', .inr ⟨rfl, rfl⟩⟩)

/-- The first pattern of such a list. -/
theorem pats_head {w : World} {B : Nat} {t : Data} {u : Value} (h : Pats w B [t] u) : ∃ x g, PatIs w t (Iv B w.heap.size) x ∧ u.ownBlock = some g ∧ w.cell? ⟨g, 0, none⟩ = some x := by
  obtain ⟨xs, S, ho, hk, hS⟩ := h
  have hk' : PatsIs w [t] (Iv B w.heap.size) xs := pats_frame (fun _ _ => rfl) (fun k hk => ⟨(hS k hk).1, (hS k hk).2.1⟩) hk
  simp only [PatsIs] at hk'
  obtain ⟨x, ys, rfl, h1, _⟩ := hk'
  rcases ho.2 with ⟨_, h⟩ | ⟨g, cap, cur, rfl, _⟩
  · simp at h
  · exact ⟨x, g, h1, rfl, ho.cells rfl 0 x rfl⟩

theorem pat_one {w : World} {t : Data} {S : Nat → Prop} {x : Value} (h : PatIs w t S x) : PatIs w (one 8 t) S (.iface 222 (.agg #[x])) ∧ PatIs w (one 9 t) S (.iface 223 (.agg #[x])) ∧ PatIs w (one 10 t) S (.iface 224 (.agg #[x])) := by
  have hx : PatsIs w [t] S [x] := by simp only [PatsIs]; exact ⟨x, [], rfl, h, rfl⟩
  refine ⟨?_, ?_, ?_⟩ <;> (unfold one; rw [pat_nd]; refine .inr (.inl ⟨rfl, rfl, rfl, x, hx, ?_⟩))
  · exact .inl ⟨rfl, rfl⟩
  · exact .inr (.inl ⟨rfl, rfl⟩)
  · exact .inr (.inr ⟨rfl, rfl⟩)

end Rx
end Go.Proofs.YtkhoccjfkkfipaaGreatDoor
