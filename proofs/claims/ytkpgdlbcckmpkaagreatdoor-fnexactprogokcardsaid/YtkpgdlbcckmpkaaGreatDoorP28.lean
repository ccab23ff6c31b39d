/-
  A pattern in the heap: an interface with a type for each op.
-/
import Derived.Test.YtkpgdlbcckmpkaaGreatDoorP27
namespace Go.Proofs.YtkpgdlbcckmpkaaGreatDoor
open Go.RowKit
namespace Rx

/-- A pattern without kids. -/
def Leaf (op c : Nat) (s : List UInt8) (no : Bool) (v : Value) : Prop :=
  (op = 1 ∧ c < 256 ∧ s = [] ∧ no = false ∧ v = .iface 125 (.int .u8 c)) ∨
  (op = 2 ∧ c = 0 ∧ s = [] ∧ no = false ∧ v = .iface 163 (.agg #[])) ∨
  (op = 3 ∧ c = 0 ∧ v = .iface 127 (.agg #[.string ⟨s.toArray⟩, .bool no])) ∨
  (op = 4 ∧ c = 0 ∧ s = [] ∧ no = false ∧ v = .iface 164 (.agg #[])) ∨
  (op = 5 ∧ c = 0 ∧ s = [] ∧ no = false ∧ v = .iface 165 (.agg #[])) ∨
  (op = 11 ∧ c = 0 ∧ s = [] ∧ no = false ∧ v = .iface 159 (.agg #[]))

mutual
def PatIs (w : World) : Data → (Nat → Prop) → Value → Prop
  | .slice ks lab, S, v => ∃ (op c : Nat) (s : List UInt8) (no : Bool), lab = [.lit (.int .i64 op), .lit (.int .i64 c), .lit (.string s), .lit (.bool no)] ∧
      ((ks = [] ∧ Leaf op c s no v) ∨
       (c = 0 ∧ s = [] ∧ no = false ∧ ∃ x, PatsIs w ks S [x] ∧ ((op = 8 ∧ v = .iface 141 (.agg #[x])) ∨ (op = 9 ∧ v = .iface 142 (.agg #[x])) ∨ (op = 10 ∧ v = .iface 143 (.agg #[x])))) ∨
       (c = 0 ∧ s = [] ∧ no = false ∧ ∃ u xs, w.ownsRow 0 102 1 u ks.length xs ∧ (∀ g, u.ownBlock = some g → S g) ∧ PatsIs w ks S xs ∧ ((op = 6 ∧ v = .iface 139 u) ∨ (op = 7 ∧ v = .iface 138 u))))
  | _, _, _ => False
def PatsIs (w : World) : List Data → (Nat → Prop) → List Value → Prop
  | [], _, xs => xs = []
  | t :: ts, S, xs => ∃ (x : Value) (ys : List Value), xs = x :: ys ∧ PatIs w t S x ∧ PatsIs w ts S ys
end

theorem pat_nd {w : World} {op c : Nat} {s : List UInt8} {no : Bool} {ks : List Data} {S : Nat → Prop} {v : Value} :
    PatIs w (nd op c s no ks) S v ↔ ((ks = [] ∧ Leaf op c s no v) ∨
       (c = 0 ∧ s = [] ∧ no = false ∧ ∃ x, PatsIs w ks S [x] ∧ ((op = 8 ∧ v = .iface 141 (.agg #[x])) ∨ (op = 9 ∧ v = .iface 142 (.agg #[x])) ∨ (op = 10 ∧ v = .iface 143 (.agg #[x])))) ∨
       (c = 0 ∧ s = [] ∧ no = false ∧ ∃ u xs, w.ownsRow 0 102 1 u ks.length xs ∧ (∀ g, u.ownBlock = some g → S g) ∧ PatsIs w ks S xs ∧ ((op = 6 ∧ v = .iface 139 u) ∨ (op = 7 ∧ v = .iface 138 u)))) := by
  unfold nd
  rw [PatIs]
  constructor
  · rintro ⟨op', c', s', no', hl, h⟩
    have := nd_inj (show nd op c s no [] = nd op' c' s' no' [] by unfold nd; rw [hl])
    obtain ⟨rfl, rfl, rfl, rfl, _⟩ := this
    exact h
  · intro h
    exact ⟨op, c, s, no, rfl, h⟩

theorem pat_node {w : World} {t : Data} {S : Nat → Prop} {v : Value} (h : PatIs w t S v) : ∃ op c s no ks, t = nd op c s no ks := by
  cases t <;> simp only [PatIs] at h
  obtain ⟨op, c, s, no, rfl, _⟩ := h
  exact ⟨op, c, s, no, _, rfl⟩

theorem pat_iface {w : World} {t : Data} {S : Nat → Prop} {v : Value} (h : PatIs w t S v) : ∃ T x, v = .iface T x := by
  obtain ⟨op, c, s, no, ks, rfl⟩ := pat_node h
  rw [pat_nd] at h
  rcases h with ⟨_, h⟩ | ⟨_, _, _, x, _, h⟩ | ⟨_, _, _, u, xs, _, _, _, h⟩
  · rcases h with h | h | h | h | h | h
    · exact ⟨_, _, h.2.2.2.2⟩
    · exact ⟨_, _, h.2.2.2.2⟩
    · exact ⟨_, _, h.2.2⟩
    · exact ⟨_, _, h.2.2.2.2⟩
    · exact ⟨_, _, h.2.2.2.2⟩
    · exact ⟨_, _, h.2.2.2.2⟩
  · rcases h with h | h | h <;> exact ⟨_, _, h.2⟩
  · rcases h with h | h <;> exact ⟨_, _, h.2⟩

theorem pats_len {w : World} : ∀ {ts : List Data} {S : Nat → Prop} {xs : List Value}, PatsIs w ts S xs → xs.length = ts.length
  | [], S, xs, h => by simp only [PatsIs] at h; simp [h]
  | t :: ts, S, xs, h => by
    simp only [PatsIs] at h
    obtain ⟨x, ys, rfl, h1, h2⟩ := h
    have := pats_len h2
    simp; omega

theorem pats_frame_of {w w' : World} {S S' : Nat → Prop} : ∀ (ts : List Data) (xs : List Value), (∀ t ∈ ts, ∀ v, PatIs w t S v → PatIs w' t S' v) → PatsIs w ts S xs → PatsIs w' ts S' xs
  | [], xs, _, h => by simpa only [PatsIs] using h
  | t :: ts, xs, hT, h => by
    simp only [PatsIs] at h ⊢
    obtain ⟨x, ys, hx, h1, h2⟩ := h
    exact ⟨x, ys, hx, hT t (by simp) x h1, pats_frame_of ts ys (fun t ht => hT t (by simp [ht])) h2⟩

theorem pat_frame {w w' : World} {S S' : Nat → Prop} (hS : ∀ k, S k → w'.heap[k]? = w.heap[k]?) (hS' : ∀ k, S k → S' k) (t : Data) : ∀ v, PatIs w t S v → PatIs w' t S' v := by
  induction t using rex_ind with
  | h ks lab ih =>
    intro v h
    rw [PatIs] at h ⊢
    obtain ⟨op, c, s, no, hl, h⟩ := h
    refine ⟨op, c, s, no, hl, ?_⟩
    rcases h with h | ⟨a1, a2, a3, x, hx, h⟩ | ⟨a1, a2, a3, u, xs, ho, hg, hx, h⟩
    · exact .inl h
    · exact .inr (.inl ⟨a1, a2, a3, x, pats_frame_of ks _ ih hx, h⟩)
    · exact .inr (.inr ⟨a1, a2, a3, u, xs, owns_same ho fun g h => hS g (hg g h), fun g h => hS' g (hg g h), pats_frame_of ks _ ih hx, h⟩)
  | h1 t ht =>
    intro v h
    obtain ⟨op, c, s, no, ks, rfl⟩ := pat_node h
    exact absurd rfl (ht _ _)

theorem pats_frame {w w' : World} {S S' : Nat → Prop} (hS : ∀ k, S k → w'.heap[k]? = w.heap[k]?) (hS' : ∀ k, S k → S' k) {ts : List Data} {xs : List Value} (h : PatsIs w ts S xs) : PatsIs w' ts S' xs :=
  pats_frame_of ts xs (fun t _ => pat_frame hS hS' t) h

theorem pats_snoc {w : World} : ∀ {ts : List Data} {t : Data} {S : Nat → Prop} {xs : List Value} {v : Value}, PatsIs w ts S xs → PatIs w t S v → PatsIs w (ts ++ [t]) S (xs ++ [v])
  | [], t, S, xs, v, h1, h2 => by
    simp only [PatsIs] at h1
    subst h1
    simp only [List.nil_append, PatsIs]
    exact ⟨v, [], rfl, h2, rfl⟩
  | t' :: ts, t, S, xs, v, h1, h2 => by
    simp only [PatsIs] at h1
    obtain ⟨x, ys, rfl, a1, a2⟩ := h1
    simp only [List.cons_append, PatsIs]
    exact ⟨x, ys ++ [v], rfl, a1, pats_snoc a2 h2⟩

/-- A list of patterns that is being made. -/
def Pats (w : World) (B : Nat) (ts : List Data) (v : Value) : Prop :=
  ∃ (xs : List Value) (S : Nat → Prop), w.ownsRow B 102 1 v ts.length xs ∧ PatsIs w ts S xs ∧ ∀ k, S k → B ≤ k ∧ k < w.heap.size ∧ v.ownBlock ≠ some k

theorem pats_nil (w : World) (B : Nat) : Pats w B [] (.slice none 0 0) := ⟨[], fun _ => False, World.ownsRow_nil _ _ _ _, by simp only [PatsIs], fun _ h => h.elim⟩

theorem pats_more {w w1 w2 : World} {B : Nat} {ts : List Data} {t : Data} {v v' x : Value} {xs : List Value} {S : Nat → Prop}
    (h2 : PatsIs w ts S xs) (h3 : ∀ k, S k → B ≤ k ∧ k < w.heap.size ∧ v.ownBlock ≠ some k) (hB : B ≤ w.heap.size)
    (hr : PatIs w1 t (Iv w.heap.size w1.heap.size) x) (hsz : w.heap.size ≤ w1.heap.size) (hw1 : ∀ k, B ≤ k → k < w.heap.size → v.ownBlock ≠ some k → w1.heap[k]? = w.heap[k]?) (hv : ∀ k, v.ownBlock = some k → k < w.heap.size)
    (ho' : w2.ownsRow B 102 1 v' (ts.length + 1) (xs ++ [x])) (hsz2 : w1.heap.size ≤ w2.heap.size) (hw2 : ∀ k, k < w1.heap.size → v.ownBlock ≠ some k → w2.heap[k]? = w1.heap[k]?)
    (hv' : v'.ownBlock = v.ownBlock ∨ ∃ m, v'.ownBlock = some m ∧ w1.heap.size ≤ m) : Pats w2 B (ts ++ [t]) v' := by
  have own : ∀ k, v'.ownBlock = some k → v.ownBlock = some k ∨ w1.heap.size ≤ k := by
    intro k hk
    rcases hv' with h | ⟨m, h, hm⟩
    · exact .inl (h ▸ hk)
    · rw [h] at hk; simp at hk; exact .inr (by omega)
  refine ⟨xs ++ [x], fun k => S k ∨ Iv w.heap.size w1.heap.size k, by simpa using ho', ?_, ?_⟩
  · refine pats_snoc ?_ ?_
    · refine pats_frame (fun k hk => ?_) (fun k hk => .inl hk) h2
      have := h3 k hk
      exact (hw2 k (by omega) this.2.2).trans (hw1 k this.1 this.2.1 this.2.2)
    · refine pat_frame (fun k hk => hw2 k hk.2 fun h => ?_) (fun k hk => .inr hk) t _ hr
      have := hv k h
      have := hk.1
      omega
  · intro k hk
    rcases hk with hk | hk
    · have := h3 k hk
      refine ⟨this.1, by omega, fun h => ?_⟩
      rcases own k h with h | h
      · exact this.2.2 h
      · omega
    · have a1 := hk.1
      have a2 := hk.2
      refine ⟨by omega, by omega, fun h => ?_⟩
      rcases own k h with h | h
      · have := hv k h; omega
      · omega

theorem pats_pat {w : World} {B : Nat} {ts : List Data} {u : Value} (h : Pats w B ts u) :
    PatIs w (nd 6 0 [] false ts) (Iv B w.heap.size) (.iface 139 u) ∧ PatIs w (nd 7 0 [] false ts) (Iv B w.heap.size) (.iface 138 u) := by
  obtain ⟨xs, S, ho, hk, hS⟩ := h
  have hk' : PatsIs w ts (Iv B w.heap.size) xs := pats_frame (fun _ _ => rfl) (fun k hk => ⟨(hS k hk).1, (hS k hk).2.1⟩) hk
  constructor
  · rw [pat_nd]
    exact .inr (.inr ⟨rfl, rfl, rfl, u, xs, owns_base ho (Nat.zero_le _), fun g hg => ho.lt g hg, hk', .inl ⟨rfl, rfl⟩⟩)
  · rw [pat_nd]
    exact .inr (.inr ⟨rfl, rfl, rfl, u, xs, owns_base ho (Nat.zero_le _), fun g hg => ho.lt g hg, hk', .inr ⟨rfl, rfl⟩⟩)

/-- The first pattern of such a list. -/
theorem pats_head {w : World} {B : Nat} {t : Data} {u : Value} (h : Pats w B [t] u) : ∃ x g, PatIs w t (Iv B w.heap.size) x ∧ u.ownBlock = some g ∧ w.cell? ⟨g, 0, none⟩ = some x := by
  obtain ⟨xs, S, ho, hk, hS⟩ := h
  have hk' : PatsIs w [t] (Iv B w.heap.size) xs := pats_frame (fun _ _ => rfl) (fun k hk => ⟨(hS k hk).1, (hS k hk).2.1⟩) hk
  simp only [PatsIs] at hk'
  obtain ⟨x, ys, rfl, h1, _⟩ := hk'
  rcases ho.2 with ⟨_, h⟩ | ⟨g, cap, cur, rfl, _⟩
  · simp at h
  · exact ⟨x, g, h1, rfl, ho.cells rfl 0 x rfl⟩

theorem pat_one {w : World} {t : Data} {S : Nat → Prop} {x : Value} (h : PatIs w t S x) : PatIs w (one 8 t) S (.iface 141 (.agg #[x])) ∧ PatIs w (one 9 t) S (.iface 142 (.agg #[x])) ∧ PatIs w (one 10 t) S (.iface 143 (.agg #[x])) := by
  have hx : PatsIs w [t] S [x] := by simp only [PatsIs]; exact ⟨x, [], rfl, h, rfl⟩
  refine ⟨?_, ?_, ?_⟩ <;> (unfold one; rw [pat_nd]; refine .inr (.inl ⟨rfl, rfl, rfl, x, hx, ?_⟩))
  · exact .inl ⟨rfl, rfl⟩
  · exact .inr (.inl ⟨rfl, rfl⟩)
  · exact .inr (.inr ⟨rfl, rfl⟩)

end Rx
end Go.Proofs.YtkpgdlbcckmpkaaGreatDoor

