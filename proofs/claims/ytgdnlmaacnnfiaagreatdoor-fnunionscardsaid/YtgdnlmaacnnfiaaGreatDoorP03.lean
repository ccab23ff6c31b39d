/-
  A pattern in the heap: an interface with a type for each op.
  The reader of chapter 3: atEnd, sees, take, takeIf.
  The sets of chapter 3: HasPrefix, span.
  The bytes of a set, listed.
  A set of chapter 3.
  Atoms of chapter 3.
-/
import Derived.Test.YtgdnlmaacnnfiaaGreatDoorP02
import Derived.Test.YtgdnlmaacnnfiaaGreatDoorProg
import Derived.WalkKit
import Derived.WalkLawsBesides
import Derived.Deep.QuietTactic
import Derived.BigQuiet
import Derived.Deep.RegionWith
import Derived.Deep.WholeRow
namespace Go.Proofs.YtgdnlmaacnnfiaaGreatDoor
open Go.RowKit
namespace Rx

/-- A pattern without kids. -/
def Leaf (op c : Nat) (s : List UInt8) (no : Bool) (v : Value) : Prop :=
  (op = 1 ∧ c < 256 ∧ s = [] ∧ no = false ∧ v = .iface 108 (.int .u8 c)) ∨
  (op = 2 ∧ c = 0 ∧ s = [] ∧ no = false ∧ v = .iface 109 (.agg #[])) ∨
  (op = 3 ∧ c = 0 ∧ v = .iface 119 (.agg #[.string ⟨s.toArray⟩, .bool no])) ∨
  (op = 4 ∧ c = 0 ∧ s = [] ∧ no = false ∧ v = .iface 90 (.agg #[])) ∨
  (op = 5 ∧ c = 0 ∧ s = [] ∧ no = false ∧ v = .iface 92 (.agg #[])) ∨
  (op = 11 ∧ c = 0 ∧ s = [] ∧ no = false ∧ v = .iface 104 (.agg #[]))

mutual
def PatIs (w : World) : Data → (Nat → Prop) → Value → Prop
  | .slice ks lab, S, v => ∃ (op c : Nat) (s : List UInt8) (no : Bool), lab = [.lit (.int .i64 op), .lit (.int .i64 c), .lit (.string s), .lit (.bool no)] ∧
      ((ks = [] ∧ Leaf op c s no v) ∨
       (c = 0 ∧ s = [] ∧ no = false ∧ ∃ x, PatsIs w ks S [x] ∧ ((op = 8 ∧ v = .iface 100 (.agg #[x])) ∨ (op = 9 ∧ v = .iface 102 (.agg #[x])) ∨ (op = 10 ∧ v = .iface 103 (.agg #[x])))) ∨
       (c = 0 ∧ s = [] ∧ no = false ∧ ∃ u xs, w.ownsRow 0 50 1 u ks.length xs ∧ (∀ g, u.ownBlock = some g → S g) ∧ PatsIs w ks S xs ∧ ((op = 6 ∧ v = .iface 94 u) ∨ (op = 7 ∧ v = .iface 98 u))))
  | _, _, _ => False
def PatsIs (w : World) : List Data → (Nat → Prop) → List Value → Prop
  | [], _, xs => xs = []
  | t :: ts, S, xs => ∃ (x : Value) (ys : List Value), xs = x :: ys ∧ PatIs w t S x ∧ PatsIs w ts S ys
end

theorem pat_nd {w : World} {op c : Nat} {s : List UInt8} {no : Bool} {ks : List Data} {S : Nat → Prop} {v : Value} :
    PatIs w (nd op c s no ks) S v ↔ ((ks = [] ∧ Leaf op c s no v) ∨
       (c = 0 ∧ s = [] ∧ no = false ∧ ∃ x, PatsIs w ks S [x] ∧ ((op = 8 ∧ v = .iface 100 (.agg #[x])) ∨ (op = 9 ∧ v = .iface 102 (.agg #[x])) ∨ (op = 10 ∧ v = .iface 103 (.agg #[x])))) ∨
       (c = 0 ∧ s = [] ∧ no = false ∧ ∃ u xs, w.ownsRow 0 50 1 u ks.length xs ∧ (∀ g, u.ownBlock = some g → S g) ∧ PatsIs w ks S xs ∧ ((op = 6 ∧ v = .iface 94 u) ∨ (op = 7 ∧ v = .iface 98 u)))) := by
  unfold nd
  rw [PatIs]
  constructor
  · rintro ⟨op', c', s', no', hl, h⟩
    have := nd_inj (show nd op c s no [] = nd op' c' s' no' [] by unfold nd; rw [hl])
    obtain ⟨rfl, rfl, rfl, rfl, _⟩ := this
    exact h
  · intro h
    exact ⟨op, c, s, no, rfl, h⟩

theorem pat_node {w : World} {t : Data} {S : Nat → Prop} {v : Value} (h : PatIs w t S v) : ∃ op c s no ks, t = nd op c s no ks := by
  cases t <;> simp only [PatIs] at h
  obtain ⟨op, c, s, no, rfl, _⟩ := h
  exact ⟨op, c, s, no, _, rfl⟩

theorem pat_iface {w : World} {t : Data} {S : Nat → Prop} {v : Value} (h : PatIs w t S v) : ∃ T x, v = .iface T x := by
  obtain ⟨op, c, s, no, ks, rfl⟩ := pat_node h
  rw [pat_nd] at h
  rcases h with ⟨_, h⟩ | ⟨_, _, _, x, _, h⟩ | ⟨_, _, _, u, xs, _, _, _, h⟩
  · rcases h with h | h | h | h | h | h
    · exact ⟨_, _, h.2.2.2.2⟩
    · exact ⟨_, _, h.2.2.2.2⟩
    · exact ⟨_, _, h.2.2⟩
    · exact ⟨_, _, h.2.2.2.2⟩
    · exact ⟨_, _, h.2.2.2.2⟩
    · exact ⟨_, _, h.2.2.2.2⟩
  · rcases h with h | h | h <;> exact ⟨_, _, h.2⟩
  · rcases h with h | h <;> exact ⟨_, _, h.2⟩

theorem pats_len {w : World} : ∀ {ts : List Data} {S : Nat → Prop} {xs : List Value}, PatsIs w ts S xs → xs.length = ts.length
  | [], S, xs, h => by simp only [PatsIs] at h; simp [h]
  | t :: ts, S, xs, h => by
    simp only [PatsIs] at h
    obtain ⟨x, ys, rfl, h1, h2⟩ := h
    have := pats_len h2
    simp; omega

theorem pats_frame_of {w w' : World} {S S' : Nat → Prop} : ∀ (ts : List Data) (xs : List Value), (∀ t ∈ ts, ∀ v, PatIs w t S v → PatIs w' t S' v) → PatsIs w ts S xs → PatsIs w' ts S' xs
  | [], xs, _, h => by simpa only [PatsIs] using h
  | t :: ts, xs, hT, h => by
    simp only [PatsIs] at h ⊢
    obtain ⟨x, ys, hx, h1, h2⟩ := h
    exact ⟨x, ys, hx, hT t (by simp) x h1, pats_frame_of ts ys (fun t ht => hT t (by simp [ht])) h2⟩

theorem pat_frame {w w' : World} {S S' : Nat → Prop} (hS : ∀ k, S k → w'.heap[k]? = w.heap[k]?) (hS' : ∀ k, S k → S' k) (t : Data) : ∀ v, PatIs w t S v → PatIs w' t S' v := by
  induction t using rex_ind with
  | h ks lab ih =>
    intro v h
    rw [PatIs] at h ⊢
    obtain ⟨op, c, s, no, hl, h⟩ := h
    refine ⟨op, c, s, no, hl, ?_⟩
    rcases h with h | ⟨a1, a2, a3, x, hx, h⟩ | ⟨a1, a2, a3, u, xs, ho, hg, hx, h⟩
    · exact .inl h
    · exact .inr (.inl ⟨a1, a2, a3, x, pats_frame_of ks _ ih hx, h⟩)
    · exact .inr (.inr ⟨a1, a2, a3, u, xs, owns_same ho fun g h => hS g (hg g h), fun g h => hS' g (hg g h), pats_frame_of ks _ ih hx, h⟩)
  | h1 t ht =>
    intro v h
    obtain ⟨op, c, s, no, ks, rfl⟩ := pat_node h
    exact absurd rfl (ht _ _)

theorem pats_frame {w w' : World} {S S' : Nat → Prop} (hS : ∀ k, S k → w'.heap[k]? = w.heap[k]?) (hS' : ∀ k, S k → S' k) {ts : List Data} {xs : List Value} (h : PatsIs w ts S xs) : PatsIs w' ts S' xs :=
  pats_frame_of ts xs (fun t _ => pat_frame hS hS' t) h

theorem pats_snoc {w : World} : ∀ {ts : List Data} {t : Data} {S : Nat → Prop} {xs : List Value} {v : Value}, PatsIs w ts S xs → PatIs w t S v → PatsIs w (ts ++ [t]) S (xs ++ [v])
  | [], t, S, xs, v, h1, h2 => by
    simp only [PatsIs] at h1
    subst h1
    simp only [List.nil_append, PatsIs]
    exact ⟨v, [], rfl, h2, rfl⟩
  | t' :: ts, t, S, xs, v, h1, h2 => by
    simp only [PatsIs] at h1
    obtain ⟨x, ys, rfl, a1, a2⟩ := h1
    simp only [List.cons_append, PatsIs]
    exact ⟨x, ys ++ [v], rfl, a1, pats_snoc a2 h2⟩

/-- A list of patterns that is being made. -/
def Pats (w : World) (B : Nat) (ts : List Data) (v : Value) : Prop :=
  ∃ (xs : List Value) (S : Nat → Prop), w.ownsRow B 50 1 v ts.length xs ∧ PatsIs w ts S xs ∧ ∀ k, S k → B ≤ k ∧ k < w.heap.size ∧ v.ownBlock ≠ some k

theorem pats_nil (w : World) (B : Nat) : Pats w B [] (.slice none 0 0) := ⟨[], fun _ => False, World.ownsRow_nil _ _ _ _, by simp only [PatsIs], fun _ h => h.elim⟩

theorem pats_more {w w1 w2 : World} {B : Nat} {ts : List Data} {t : Data} {v v' x : Value} {xs : List Value} {S : Nat → Prop}
    (h2 : PatsIs w ts S xs) (h3 : ∀ k, S k → B ≤ k ∧ k < w.heap.size ∧ v.ownBlock ≠ some k) (hB : B ≤ w.heap.size)
    (hr : PatIs w1 t (Iv w.heap.size w1.heap.size) x) (hsz : w.heap.size ≤ w1.heap.size) (hw1 : ∀ k, B ≤ k → k < w.heap.size → v.ownBlock ≠ some k → w1.heap[k]? = w.heap[k]?) (hv : ∀ k, v.ownBlock = some k → k < w.heap.size)
    (ho' : w2.ownsRow B 50 1 v' (ts.length + 1) (xs ++ [x])) (hsz2 : w1.heap.size ≤ w2.heap.size) (hw2 : ∀ k, k < w1.heap.size → v.ownBlock ≠ some k → w2.heap[k]? = w1.heap[k]?)
    (hv' : v'.ownBlock = v.ownBlock ∨ ∃ m, v'.ownBlock = some m ∧ w1.heap.size ≤ m) : Pats w2 B (ts ++ [t]) v' := by
  have own : ∀ k, v'.ownBlock = some k → v.ownBlock = some k ∨ w1.heap.size ≤ k := by
    intro k hk
    rcases hv' with h | ⟨m, h, hm⟩
    · exact .inl (h ▸ hk)
    · rw [h] at hk; simp at hk; exact .inr (by omega)
  refine ⟨xs ++ [x], fun k => S k ∨ Iv w.heap.size w1.heap.size k, by simpa using ho', ?_, ?_⟩
  · refine pats_snoc ?_ ?_
    · refine pats_frame (fun k hk => ?_) (fun k hk => .inl hk) h2
      have := h3 k hk
      exact (hw2 k (by omega) this.2.2).trans (hw1 k this.1 this.2.1 this.2.2)
    · refine pat_frame (fun k hk => hw2 k hk.2 fun h => ?_) (fun k hk => .inr hk) t _ hr
      have := hv k h
      have := hk.1
      omega
  · intro k hk
    rcases hk with hk | hk
    · have := h3 k hk
      refine ⟨this.1, by omega, fun h => ?_⟩
      rcases own k h with h | h
      · exact this.2.2 h
      · omega
    · have a1 := hk.1
      have a2 := hk.2
      refine ⟨by omega, by omega, fun h => ?_⟩
      rcases own k h with h | h
      · have := hv k h; omega
      · omega

theorem pats_pat {w : World} {B : Nat} {ts : List Data} {u : Value} (h : Pats w B ts u) :
    PatIs w (nd 6 0 [] false ts) (Iv B w.heap.size) (.iface 94 u) ∧ PatIs w (nd 7 0 [] false ts) (Iv B w.heap.size) (.iface 98 u) := by
  obtain ⟨xs, S, ho, hk, hS⟩ := h
  have hk' : PatsIs w ts (Iv B w.heap.size) xs := pats_frame (fun _ _ => rfl) (fun k hk => ⟨(hS k hk).1, (hS k hk).2.1⟩) hk
  constructor
  · rw [pat_nd]
    exact .inr (.inr ⟨rfl, rfl, rfl, u, xs, owns_base ho (Nat.zero_le _), fun g hg => ho.lt g hg, hk', .inl ⟨rfl, rfl⟩⟩)
  · rw [pat_nd]
    exact .inr (.inr ⟨rfl, rfl, rfl, u, xs, owns_base ho (Nat.zero_le _), fun g hg => ho.lt g hg, hk', .inr ⟨rfl, rfl⟩⟩)

/-- The first pattern of such a list. -/
theorem pats_head {w : World} {B : Nat} {t : Data} {u : Value} (h : Pats w B [t] u) : ∃ x g, PatIs w t (Iv B w.heap.size) x ∧ u.ownBlock = some g ∧ w.cell? ⟨g, 0, none⟩ = some x := by
  obtain ⟨xs, S, ho, hk, hS⟩ := h
  have hk' : PatsIs w [t] (Iv B w.heap.size) xs := pats_frame (fun _ _ => rfl) (fun k hk => ⟨(hS k hk).1, (hS k hk).2.1⟩) hk
  simp only [PatsIs] at hk'
  obtain ⟨x, ys, rfl, h1, _⟩ := hk'
  rcases ho.2 with ⟨_, h⟩ | ⟨g, cap, cur, rfl, _⟩
  · simp at h
  · exact ⟨x, g, h1, rfl, ho.cells rfl 0 x rfl⟩

theorem pat_one {w : World} {t : Data} {S : Nat → Prop} {x : Value} (h : PatIs w t S x) : PatIs w (one 8 t) S (.iface 100 (.agg #[x])) ∧ PatIs w (one 9 t) S (.iface 102 (.agg #[x])) ∧ PatIs w (one 10 t) S (.iface 103 (.agg #[x])) := by
  have hx : PatsIs w [t] S [x] := by simp only [PatsIs]; exact ⟨x, [], rfl, h, rfl⟩
  refine ⟨?_, ?_, ?_⟩ <;> (unfold one; rw [pat_nd]; refine .inr (.inl ⟨rfl, rfl, rfl, x, hx, ?_⟩))
  · exact .inl ⟨rfl, rfl⟩
  · exact .inr (.inl ⟨rfl, rfl⟩)
  · exact .inr (.inr ⟨rfl, rfl⟩)

end Rx
end Go.Proofs.YtgdnlmaacnnfiaaGreatDoor

namespace Go.Proofs.YtgdnlmaacnnfiaaGreatDoor
open Go.RowKit
namespace Rx

/-- A text as a function. -/
def gOf (s : ByteArray) (i : Nat) : Nat := if h : i < s.size then s[i].toNat else 256

theorem gOf_in {s : ByteArray} {i : Nat} (h : i < s.size) : gOf s i = s[i].toNat := by unfold gOf; rw [dif_pos h]
theorem gOf_out {s : ByteArray} {i : Nat} (h : s.size ≤ i) : gOf s i = 256 := by unfold gOf; rw [dif_neg (by omega)]
theorem gOf_lt {s : ByteArray} {i : Nat} (h : i < s.size) : gOf s i < 256 := by rw [gOf_in h]; exact s[i].toNat_lt
theorem gOf_end {s : ByteArray} : ∀ i, s.size ≤ i → gOf s i = 256 := fun _ h => gOf_out h
theorem in_of {s : ByteArray} {i : Nat} (h : gOf s i ≠ 256) : i < s.size := lt_of_some gOf_end h

/-- What the package's sentinel holds. -/
def errV (a : Addr) : Value := .iface 183 (.pointer (some a))

/-- The reader at block p, at place i of s. -/
structure Rd (p : Nat) (s : ByteArray) (a : Addr) (i : Nat) (w : World) : Prop where
  text : w.cell? ⟨p, 0, none⟩ = some (.string s)
  pos : w.cell? ⟨p, 1, none⟩ = some (.int .i64 i)
  fr : w.frozen? ⟨p, 1, none⟩ = false
  err : w.cell? ⟨0, 0, none⟩ = some (.iface 183 (.pointer (some a)))
  ne : 0 ≠ p

theorem Rd.lt {p : Nat} {s : ByteArray} {a : Addr} {i : Nat} {w : World} (h : Rd p s a i w) : p < w.heap.size := World.block_lt_of_cell? w _ h.text
theorem Rd.elt {p : Nat} {s : ByteArray} {a : Addr} {i : Nat} {w : World} (h : Rd p s a i w) : 0 < w.heap.size := World.block_lt_of_cell? w _ h.err

/-- What turns no block of the reader's leaves it. -/
theorem Rd.kept {p : Nat} {s : ByteArray} {a : Addr} {i : Nat} {w w' : World} (h : Rd p s a i w) (h1 : w'.heap[p]? = w.heap[p]?) (h2 : w'.heap[0]? = w.heap[0]?) : Rd p s a i w' :=
  ⟨(World.cell?_of_block h1).trans h.text, (World.cell?_of_block h1).trans h.pos, (World.frozen?_of_block h1).trans h.fr, (World.cell?_of_block h2).trans h.err, h.ne⟩

theorem Rd.below {p : Nat} {s : ByteArray} {a : Addr} {i B : Nat} {w w' : World} (h : Rd p s a i w) (hb : Below B w w') (hp : p < B) (he : 0 < B) : Rd p s a i w' := h.kept (hb.block _ hp) (hb.block _ he)

theorem Rd.grown {p : Nat} {s : ByteArray} {a : Addr} {i : Nat} {w w' : World} {row : Option Nat} (h : Rd p s a i w) (hg : w.grownBy w' row) (h1 : row ≠ some p) (h2 : row ≠ some 0) : Rd p s a i w' :=
  h.kept (hg.block _ h.lt fun e => h1 e.symm) (hg.block _ h.elt fun e => h2 e.symm)

theorem grown_of_below {w w' : World} (h : Below w.heap.size w w') (row : Option Nat) : w.grownBy w' row := ⟨h.os, h.tape, h.output, h.size, fun k hk _ => h.block k hk⟩

theorem Rd.set {p : Nat} {s : ByteArray} {a : Addr} {i : Nat} {w : World} (h : Rd p s a i w) (j : Nat) : Rd p s a j (w.setCell ⟨p, 1, none⟩ (.int .i64 j)) := by
  have he : (w.setCell ⟨p, 1, none⟩ (.int .i64 j)).heap[0]? = w.heap[0]? := Below.heap_setCell _ _ _ _ h.ne
  refine ⟨?_, ?_, ?_, (World.cell?_of_block he).trans h.err, h.ne⟩
  · rw [World.cell?_setCell_other _ _ _ _ (by simp)]; exact h.text
  · exact World.cell?_setCell_same _ _ _ h.pos
  · simpa using h.fr

theorem grown_set (w : World) (a : Addr) (v : Value) : w.grownBy (w.setCell a v) (some a.block) :=
  ⟨rfl, rfl, rfl, by simp, fun k _ hne => Below.heap_setCell _ _ _ _ fun e => hne (by rw [e])⟩

theorem Rd.drewN {p : Nat} {s : ByteArray} {a : Addr} {i : Nat} {w : World} (h : Rd p s a i w) (n : Nat) : Rd p s a i (w.drewN n) := ⟨h.text, h.pos, h.fr, h.err, h.ne⟩

theorem at_is {s : ByteArray} {i : Nat} (h : i ≤ s.size) : ((i : Int) == (s.size : Int)) = decide (gOf s i = 256) := by
  rcases Nat.lt_or_ge i s.size with h1 | h1
  · have := gOf_lt h1
    rw [decide_eq_false (by omega)]
    simp; omega
  · rw [decide_eq_true (gOf_out h1)]
    simp; omega

theorem Rd.next {p : Nat} {s : ByteArray} {a : Addr} {i : Nat} {w : World} (h : Rd p s a i w) : Rd p s a (i + 1) (w.setCell ⟨p, 1, none⟩ (.int .i64 ((i : Int) + 1))) := h.set (i + 1)
theorem grown_drewN {w w' : World} {row : Option Nat} (h : w.grownBy w' row) (n : Nat) : w.grownBy (w'.drewN n) row := ⟨h.os, h.tape, h.output, h.size, h.block⟩

theorem nat_eqb (a b : Nat) : ((a : Int) == (b : Int)) = decide (a = b) := by
  by_cases h : a = b
  · subst h; simp
  · rw [decide_eq_false h]; simp; omega

end Rx
end Go.Proofs.YtgdnlmaacnnfiaaGreatDoor

namespace Go.Proofs.YtgdnlmaacnnfiaaGreatDoor
open Go.RowKit
namespace Rx

/-- Whether a text begins with '-' and ']'. -/
def minusShut (t : ByteArray) : Bool := decide (gOf t 0 = 45 ∧ gOf t 1 = 93)

theorem minusShut_is {t : ByteArray} (h : 2 ≤ t.size) : ((t.extract 0 2).toList == [45, 93]) = minusShut t := by
  have e0 := gOf_in (s := t) (i := 0) (by omega)
  have e1 := gOf_in (s := t) (i := 1) (by omega)
  have e : (t.extract 0 2).toList = [t[0], t[1]] := by
    rw [ByteArray.toList_eq]
    apply List.ext_getElem
    · simp; omega
    · intro k h1 h2
      simp at h2
      rcases Nat.lt_or_ge k 1 with h3 | h3
      · obtain rfl : k = 0 := by omega
        simp [ByteArray.data_extract]; rfl
      · obtain rfl : k = 1 := by omega
        simp [ByteArray.data_extract]; rfl
  unfold minusShut
  rw [e, e0, e1]
  have k : ∀ (x : UInt8) (n : Nat), n < 256 → (x == UInt8.ofNat n) = decide (x.toNat = n) := by
    intro x n hn
    by_cases h : x.toNat = n
    · subst h; simp
    · rw [decide_eq_false h]
      simp
      intro h2
      apply h
      rw [h2]
      simp; omega
  have k45 := k t[0] 45 (by omega)
  have k93 := k t[1] 93 (by omega)
  show ((t[0] == 45) && ((t[1] == 93) && true)) = _
  rw [show (45 : UInt8) = UInt8.ofNat 45 from rfl, show (93 : UInt8) = UInt8.ofNat 93 from rfl, k45, k93]
  simp [Bool.decide_and]

theorem gOf_extract {s : ByteArray} {i : Nat} (h : i ≤ s.size) (k : Nat) : gOf (s.extract i s.size) k = gOf s (i + k) := by
  have hs : (s.extract i s.size).size = s.size - i := by simp [ByteArray.size_extract]
  rcases Nat.lt_or_ge (i + k) s.size with h1 | h1
  · rw [gOf_in h1, gOf_in (by omega)]
    simp [ByteArray.getElem_extract]
  · rw [gOf_out h1, gOf_out (by omega)]

theorem minusShut_at {s : ByteArray} {i : Nat} (h : i ≤ s.size) : minusShut (s.extract i s.size) = decide (gOf s i = 45 ∧ gOf s (i + 1) = 93) := by
  unfold minusShut
  rw [gOf_extract h, gOf_extract h]
  rfl

/-- A byte of a set, or a row of them. -/
def spanAt (g : Nat → Nat) (i : Nat) : Option (Nat × Nat × Nat) :=
  if g i = 256 then none
  else if g (i + 1) = 45 ∧ g (i + 2) ≠ 93 then (if g (i + 2) = 256 ∨ g (i + 2) < g i then none else some (g i, g (i + 2), i + 3))
  else some (g i, g i, i + 1)

def SpanIs (p : Nat) (s : ByteArray) (a : Addr) (w : World) (r : Option (Nat × Nat × Nat)) (e : Ending) (w' : World) : Prop := match r with
  | none => e = .panicked [{ v := errV a, recovered := false }] ∧ w.grownBy w' (some p)
  | some (lo, hi, j) => e = .returned (.tuple #[.int .u8 lo, .int .u8 hi]) ∧ Rd p s a j w' ∧ w.grownBy w' (some p)

theorem grown_drewN_left {w w' : World} {row : Option Nat} {n : Nat} (h : (w.drewN n).grownBy w' row) : w.grownBy w' row := ⟨h.os, h.tape, h.output, h.size, h.block⟩

end Rx
end Go.Proofs.YtgdnlmaacnnfiaaGreatDoor

namespace Go.Proofs.YtgdnlmaacnnfiaaGreatDoor
open Go.RowKit
namespace Rx

/-- Which bytes are in, as an array of bools. -/
def marks (M : Nat → Bool) : Array Value := (Array.range 256).map fun b => .bool (M b)
theorem marks_size (M : Nat → Bool) : (marks M).size = 256 := by simp [marks]
theorem marks_get (M : Nat → Bool) {k : Nat} (h : k < 256) : (marks M)[k]? = some (.bool (M k)) := by simp [marks, h]

/-- Of the first k bytes those that are in. -/
def upTo (M : Nat → Bool) (k : Nat) : List Nat := (List.range k).filter M
theorem upTo_in {M : Nat → Bool} {k : Nat} (h : M k = true) : upTo M (k + 1) = upTo M k ++ [k] := by simp [upTo, List.range_succ, h]
theorem upTo_out {M : Nat → Bool} {k : Nat} (h : M k = false) : upTo M (k + 1) = upTo M k := by simp [upTo, List.range_succ, h]
theorem upTo_len (M : Nat → Bool) (k : Nat) : (upTo M k).length ≤ k := by have := List.length_filter_le M (List.range k); simpa [upTo] using this

def u8s (l : List Nat) : List Value := l.map fun (b : Nat) => Value.int .u8 b

/-! three operations on a whole array, as steps of their own -/
section
variable {P : Program} {ops : Array Oper} {rest : List Oper} {o : Oper} {a : Act} {Q : Exit → Act → World → Prop} {w : World}

theorem wpList_load_whole (hgd : o.guard = none) (t : TypeId) (s : Operand) (ho : o.op = .load t s) (x : Value) (hr : (Instr.loadAt t (a.eval s)).run P w = .ok x w)
    (h : wpList P ops Q rest (a.put o.dst x) w) : wpList P ops Q (o :: rest) a w := by
  refine wpList_plain hgd fun K hK => ?_
  unfold Oper.wp execOp
  simp only [ho, Sem.run_bind, Sem.run_pure, Result.andThen_ok, hr]
  exact hK _ _ h

theorem wpList_box_whole (hgd : o.guard = none) (t : TypeId) (s : Operand) (ho : o.op = .box t s) (x : Value) (w' : World) (hr : (Instr.box t (a.eval s)).run P w = .ok x w')
    (h : wpList P ops Q rest (a.put o.dst x) w') : wpList P ops Q (o :: rest) a w := by
  refine wpList_plain hgd fun K hK => ?_
  unfold Oper.wp execOp
  simp only [ho, Sem.run_bind, Sem.run_pure, Result.andThen_ok, hr]
  exact hK _ _ h

theorem wpList_alloc_whole (hgd : o.guard = none) (t : TypeId) (ho : o.op = .alloc t) (x : Value) (w' : World) (hr : (Instr.alloc t true (.tuple #[])).run P w = .ok x w')
    (h : wpList P ops Q rest (a.put o.dst x) w') : wpList P ops Q (o :: rest) a w := by
  refine wpList_plain hgd fun K hK => ?_
  unfold Oper.wp execOp
  simp only [ho, Sem.run_bind, Sem.run_pure, Result.andThen_ok, hr]
  exact hK _ _ h
end
theorem Tryz.info5r : (Tryz.prog.info? 5).map (fun i => (i.zero, i.size, i.bytes)) = some (some (.int .u8 0), 1, 1) := by kernel_rfl

theorem conv_owned {w : World} {B : Nat} {v : Value} {l : List Nat} (h : w.ownsRow B 5 1 v l.length (u8s l)) (hl : ∀ b ∈ l, b < 256) :
    (convert 22 9 v).run Tryz.prog w = .ok (.string ⟨(l.map UInt8.ofNat).toArray⟩) w := by
  rcases h.2 with ⟨rfl, hn⟩ | ⟨g, cap, cur, rfl, _⟩
  · have : l = [] := List.length_eq_zero_iff.1 hn
    subst this
    rw [run_convert_bytes_string w 22 9 5 none 0 0 Tryz.underlying22 Tryz.underlying5 Tryz.underlying9]
    rfl
  · have hc := h.cells (g := g) rfl
    have := run_convert_bytes_back (P := Tryz.prog) w 22 9 5 ⟨g, 0, none⟩ cap (l.map UInt8.ofNat) Tryz.underlying22 Tryz.underlying5 Tryz.underlying9 (by
      intro j hj
      simp only [List.length_map] at hj
      refine hc j _ ?_
      have hb := hl l[j] (List.getElem_mem hj)
      simp only [u8s, List.getElem?_map, List.getElem?_eq_getElem hj, Option.map_some, List.getElem_map, UInt8.toNat_ofNat']
      rw [Nat.mod_eq_of_lt (by omega)])
    simpa using this

end Rx
end Go.Proofs.YtgdnlmaacnnfiaaGreatDoor

namespace Go.Proofs.YtgdnlmaacnnfiaaGreatDoor
open Go.RowKit
namespace Rx

/-- How a reading ends: what is none is a panic. -/
def Reads (p : Nat) (s : ByteArray) (a : Addr) (w : World) (r : Option (Data × Nat)) (e : Ending) (w' : World) : Prop := match r with
  | none => e = .panicked [{ v := errV a, recovered := false }] ∧ w.grownBy w' (some p)
  | some (t, j) => ∃ v, e = .returned v ∧ PatIs w' t (Iv w.heap.size w'.heap.size) v ∧ Rd p s a j w' ∧ w.grownBy w' (some p)

theorem setLoop_step {g : Nat → Nat} {f i : Nat} {M : Nat → Bool} (h : g i ≠ 93) : setLoop g (f + 1) i M = match spanAt g i with
    | none => none
    | some (lo, hi, j) => setLoop g f j (spanOn M lo hi) := by
  rw [setLoop, spanAt]
  by_cases h1 : g i = 256
  · simp [h1]
  · rw [if_neg h1, if_neg h, if_neg h1]
    by_cases h2 : g (i + 1) = 45 ∧ g (i + 2) ≠ 93
    · rw [if_pos h2, if_pos h2]
      by_cases h3 : g (i + 2) = 256 ∨ g (i + 2) < g i
      · rw [if_pos h3, if_pos h3]
      · rw [if_neg h3, if_neg h3]
    · rw [if_neg h2, if_neg h2]

theorem span_in {s : ByteArray} {i lo hi j : Nat} (h : spanAt (gOf s) i = some (lo, hi, j)) : i < j ∧ j ≤ s.size ∧ lo < 256 ∧ hi < 256 ∧ lo ≤ hi := by
  unfold spanAt at h
  split at h
  · simp at h
  rename_i h1
  have h1 := in_of h1
  have h1' := gOf_lt h1
  split at h
  · split at h
    · simp at h
    · rename_i h2 h3
      have h4 := in_of (s := s) (i := i + 2) (by omega)
      have h4' := gOf_lt h4
      simp at h
      omega
  · simp at h
    omega

theorem grown_set_new {w wq : World} {row : Option Nat} (h : w.grownBy wq row) {x : Addr} (hq : w.heap.size ≤ x.block) (v : Value) : w.grownBy (wq.setCell x v) row :=
  ⟨h.os, h.tape, h.output, by simpa using h.size, fun k hk hne => (Below.heap_setCell _ _ _ _ (by omega)).trans (h.block k hk hne)⟩

/-- What is in behind n of a row. -/
def spanTo (M : Nat → Bool) (lo n : Nat) : Nat → Bool := fun b => M b || (decide (lo ≤ b) && decide (b < n))
theorem spanTo_zero (M : Nat → Bool) (lo : Nat) : spanTo M lo lo = M := by
  funext b
  unfold spanTo
  by_cases h : lo ≤ b
  · rw [decide_eq_false (show ¬ b < lo by omega)]; simp
  · rw [decide_eq_false h]; simp
theorem spanTo_next (M : Nat → Bool) {lo n : Nat} (h : lo ≤ n) : (fun b => spanTo M lo n b || decide (b = n)) = spanTo M lo (n + 1) := by
  funext b
  unfold spanTo
  by_cases h1 : b = n
  · subst h1; simp [h]
  · rw [decide_eq_false h1, show decide (b < n + 1) = decide (b < n) from decide_eq_decide.2 (by omega)]; simp
theorem spanTo_all (M : Nat → Bool) (lo hi : Nat) : spanTo M lo (hi + 1) = spanOn M lo hi := by
  funext b
  unfold spanTo spanOn
  rw [show decide (b < hi + 1) = decide (b ≤ hi) from decide_eq_decide.2 (by omega)]

/-- Where the reader is. -/
def posOf (p : Nat) (w : World) : Nat := match w.cell? ⟨p, 1, none⟩ with
  | some (.int _ n) => n.toNat
  | _ => 0
theorem posOf_is {p : Nat} {s : ByteArray} {a : Addr} {i : Nat} {w : World} (h : Rd p s a i w) : posOf p w = i := by unfold posOf; rw [h.pos]; simp

end Rx
end Go.Proofs.YtgdnlmaacnnfiaaGreatDoor

namespace Go.Proofs.YtgdnlmaacnnfiaaGreatDoor
open Go.RowKit
namespace Rx

/-- From place m on, the function F of the reader reads as r tells. -/
def Parses (F : Nat) (p : Nat) (s : ByteArray) (a : Addr) (m : Nat) (r : Nat → Option (Data × Nat)) : Prop :=
  ∀ (i : Nat) (w : World), Rd p s a i w → i ≤ s.size → m ≤ i → Calls Tryz.prog F #[.pointer (some ⟨p, 0, none⟩)] w fun e w' => Reads p s a w (r i) e w'

theorem reads_none {p : Nat} {s : ByteArray} {a : Addr} {w w' : World} {r : Option (Data × Nat)} {e : Ending} (h : Reads p s a w r e w') (hr : r = none) : e = .panicked [{ v := errV a, recovered := false }] ∧ w.grownBy w' (some p) := by
  rw [hr] at h; exact h
theorem reads_some {p : Nat} {s : ByteArray} {a : Addr} {w w' : World} {r : Option (Data × Nat)} {e : Ending} {t : Data} {j : Nat} (h : Reads p s a w r e w') (hr : r = some (t, j)) :
    ∃ v, e = .returned v ∧ PatIs w' t (Iv w.heap.size w'.heap.size) v ∧ Rd p s a j w' ∧ w.grownBy w' (some p) := by
  rw [hr] at h; exact h

/-- What was read stays, where only the reader turns. -/
theorem pat_grown {p : Nat} {w w' : World} {lo hi lo' hi' : Nat} {t : Data} {v : Value} (h : PatIs w t (Iv lo hi) v) (hg : w.grownBy w' (some p)) (hp : p < lo) (h1 : hi ≤ w.heap.size) (h2 : lo' ≤ lo) (h3 : hi ≤ hi') : PatIs w' t (Iv lo' hi') v :=
  pat_frame (fun k hk => hg.block k (by have := hk.2; omega) (by have := hk.1; simp; omega)) (fun k hk => ⟨by have := hk.1; omega, by have := hk.2; omega⟩) t v h

theorem reads_left {p : Nat} {s : ByteArray} {a : Addr} {w w1 w' : World} {r : Option (Data × Nat)} {e : Ending} (hg : w.grownBy w1 (some p)) (h : Reads p s a w1 r e w') : Reads p s a w r e w' := by
  rcases r with _ | ⟨t, j⟩
  · exact ⟨h.1, hg.trans h.2⟩
  · obtain ⟨v, h1, h2, h3, h4⟩ := h
    exact ⟨v, h1, pat_frame (fun _ _ => rfl) (fun k hk => ⟨Nat.le_trans hg.size hk.1, hk.2⟩) t v h2, h3, hg.trans h4⟩

theorem pat_leaf {w : World} {S : Nat → Prop} {op c : Nat} {s : List UInt8} {no : Bool} {v : Value} (h : Leaf op c s no v) : PatIs w (nd op c s no []) S v := by
  rw [pat_nd]
  exact .inl ⟨rfl, h⟩

end Rx
end Go.Proofs.YtgdnlmaacnnfiaaGreatDoor

