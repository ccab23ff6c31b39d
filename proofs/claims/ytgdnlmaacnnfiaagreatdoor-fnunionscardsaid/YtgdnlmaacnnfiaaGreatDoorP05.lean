/-
  A set of chapter 3.
  Atoms of chapter 3.
  Pieces, parts and whole patterns of chapter 3.
-/
import Derived.Test.YtgdnlmaacnnfiaaGreatDoorP04
namespace Go.Proofs.YtgdnlmaacnnfiaaGreatDoor
open Go.RowKit
namespace Rx

/-- How a reading ends: what is none is a panic. -/
def Reads (p : Nat) (s : ByteArray) (a : Addr) (w : World) (r : Option (Data × Nat)) (e : Ending) (w' : World) : Prop := match r with
  | none => e = .panicked [{ v := errV a, recovered := false }] ∧ w.grownBy w' (some p)
  | some (t, j) => ∃ v, e = .returned v ∧ PatIs w' t (Iv w.heap.size w'.heap.size) v ∧ Rd p s a j w' ∧ w.grownBy w' (some p)

theorem setLoop_step {g : Nat → Nat} {f i : Nat} {M : Nat → Bool} (h : g i ≠ 93) : setLoop g (f + 1) i M = match spanAt g i with
    | none => none
    | some (lo, hi, j) => setLoop g f j (spanOn M lo hi) := by
  rw [setLoop, spanAt]
  by_cases h1 : g i = 256
  · simp [h1]
  · rw [if_neg h1, if_neg h, if_neg h1]
    by_cases h2 : g (i + 1) = 45 ∧ g (i + 2) ≠ 93
    · rw [if_pos h2, if_pos h2]
      by_cases h3 : g (i + 2) = 256 ∨ g (i + 2) < g i
      · rw [if_pos h3, if_pos h3]
      · rw [if_neg h3, if_neg h3]
    · rw [if_neg h2, if_neg h2]

theorem span_in {s : ByteArray} {i lo hi j : Nat} (h : spanAt (gOf s) i = some (lo, hi, j)) : i < j ∧ j ≤ s.size ∧ lo < 256 ∧ hi < 256 ∧ lo ≤ hi := by
  unfold spanAt at h
  split at h
  · simp at h
  rename_i h1
  have h1 := in_of h1
  have h1' := gOf_lt h1
  split at h
  · split at h
    · simp at h
    · rename_i h2 h3
      have h4 := in_of (s := s) (i := i + 2) (by omega)
      have h4' := gOf_lt h4
      simp at h
      omega
  · simp at h
    omega

theorem grown_set_new {w wq : World} {row : Option Nat} (h : w.grownBy wq row) {x : Addr} (hq : w.heap.size ≤ x.block) (v : Value) : w.grownBy (wq.setCell x v) row :=
  ⟨h.os, h.tape, h.output, by simpa using h.size, fun k hk hne => (Below.heap_setCell _ _ _ _ (by omega)).trans (h.block k hk hne)⟩

/-- What is in behind n of a row. -/
def spanTo (M : Nat → Bool) (lo n : Nat) : Nat → Bool := fun b => M b || (decide (lo ≤ b) && decide (b < n))
theorem spanTo_zero (M : Nat → Bool) (lo : Nat) : spanTo M lo lo = M := by
  funext b
  unfold spanTo
  by_cases h : lo ≤ b
  · rw [decide_eq_false (show ¬ b < lo by omega)]; simp
  · rw [decide_eq_false h]; simp
theorem spanTo_next (M : Nat → Bool) {lo n : Nat} (h : lo ≤ n) : (fun b => spanTo M lo n b || decide (b = n)) = spanTo M lo (n + 1) := by
  funext b
  unfold spanTo
  by_cases h1 : b = n
  · subst h1; simp [h]
  · rw [decide_eq_false h1, show decide (b < n + 1) = decide (b < n) from decide_eq_decide.2 (by omega)]; simp
theorem spanTo_all (M : Nat → Bool) (lo hi : Nat) : spanTo M lo (hi + 1) = spanOn M lo hi := by
  funext b
  unfold spanTo spanOn
  rw [show decide (b < hi + 1) = decide (b ≤ hi) from decide_eq_decide.2 (by omega)]

/-- Where the reader is. -/
def posOf (p : Nat) (w : World) : Nat := match w.cell? ⟨p, 1, none⟩ with
  | some (.int _ n) => n.toNat
  | _ => 0
theorem posOf_is {p : Nat} {s : ByteArray} {a : Addr} {i : Nat} {w : World} (h : Rd p s a i w) : posOf p w = i := by unfold posOf; rw [h.pos]; simp

end Rx
end Go.Proofs.YtgdnlmaacnnfiaaGreatDoor

namespace Go.Proofs.YtgdnlmaacnnfiaaGreatDoor
open Go.RowKit
namespace Rx

/-- From place m on, the function F of the reader reads as r tells. -/
def Parses (F : Nat) (p : Nat) (s : ByteArray) (a : Addr) (m : Nat) (r : Nat → Option (Data × Nat)) : Prop :=
  ∀ (i : Nat) (w : World), Rd p s a i w → i ≤ s.size → m ≤ i → Calls Tryz.prog F #[.pointer (some ⟨p, 0, none⟩)] w fun e w' => Reads p s a w (r i) e w'

theorem reads_none {p : Nat} {s : ByteArray} {a : Addr} {w w' : World} {r : Option (Data × Nat)} {e : Ending} (h : Reads p s a w r e w') (hr : r = none) : e = .panicked [{ v := errV a, recovered := false }] ∧ w.grownBy w' (some p) := by
  rw [hr] at h; exact h
theorem reads_some {p : Nat} {s : ByteArray} {a : Addr} {w w' : World} {r : Option (Data × Nat)} {e : Ending} {t : Data} {j : Nat} (h : Reads p s a w r e w') (hr : r = some (t, j)) :
    ∃ v, e = .returned v ∧ PatIs w' t (Iv w.heap.size w'.heap.size) v ∧ Rd p s a j w' ∧ w.grownBy w' (some p) := by
  rw [hr] at h; exact h

/-- What was read stays, where only the reader turns. -/
theorem pat_grown {p : Nat} {w w' : World} {lo hi lo' hi' : Nat} {t : Data} {v : Value} (h : PatIs w t (Iv lo hi) v) (hg : w.grownBy w' (some p)) (hp : p < lo) (h1 : hi ≤ w.heap.size) (h2 : lo' ≤ lo) (h3 : hi ≤ hi') : PatIs w' t (Iv lo' hi') v :=
  pat_frame (fun k hk => hg.block k (by have := hk.2; omega) (by have := hk.1; simp; omega)) (fun k hk => ⟨by have := hk.1; omega, by have := hk.2; omega⟩) t v h

theorem reads_left {p : Nat} {s : ByteArray} {a : Addr} {w w1 w' : World} {r : Option (Data × Nat)} {e : Ending} (hg : w.grownBy w1 (some p)) (h : Reads p s a w1 r e w') : Reads p s a w r e w' := by
  rcases r with _ | ⟨t, j⟩
  · exact ⟨h.1, hg.trans h.2⟩
  · obtain ⟨v, h1, h2, h3, h4⟩ := h
    exact ⟨v, h1, pat_frame (fun _ _ => rfl) (fun k hk => ⟨Nat.le_trans hg.size hk.1, hk.2⟩) t v h2, h3, hg.trans h4⟩

theorem pat_leaf {w : World} {S : Nat → Prop} {op c : Nat} {s : List UInt8} {no : Bool} {v : Value} (h : Leaf op c s no v) : PatIs w (nd op c s no []) S v := by
  rw [pat_nd]
  exact .inl ⟨rfl, h⟩

end Rx
end Go.Proofs.YtgdnlmaacnnfiaaGreatDoor

namespace Go.Proofs.YtgdnlmaacnnfiaaGreatDoor
open Go.RowKit
namespace Rx

theorem stars_step (g : Nat → Nat) (f : Nat) (t : Data) (i : Nat) : stars g (f + 1) t i = if g i = 42 then stars g f (one 8 t) (i + 1) else if g i = 43 then stars g f (one 9 t) (i + 1) else if g i = 63 then stars g f (one 10 t) (i + 1) else (t, i) := rfl

theorem grown_own {w w2 w3 : World} {row row' : Option Nat} (h : w.grownBy w2 row) (h' : w2.grownBy w3 row') (ho : ∀ k, row' = some k → w.heap.size ≤ k) : w.grownBy w3 row :=
  ⟨h'.os.trans h.os, h'.tape.trans h.tape, h'.output.trans h.output, Nat.le_trans h.size h'.size, fun k hk hne => (h'.block k (Nat.lt_of_lt_of_le hk h.size) fun e => by have := ho k e.symm; omega).trans (h.block k hk hne)⟩

theorem owns_grown {w w' : World} {B p e size n : Nat} {v : Value} {xs : List Value} (h : w.ownsRow B e size v n xs) (hg : w.grownBy w' (some p)) (hp : p < B) : w'.ownsRow B e size v n xs :=
  owns_same h fun g hv => hg.block g (h.lt g hv).2 (by have := (h.lt g hv).1; simp; omega)

theorem pats_append {wr w2 w3 : World} {B p : Nat} {ts : List Data} {t : Data} {v v' x : Value} {xs : List Value} {S : Nat → Prop} {o : Obj} (hown : wr.ownsRow B 50 1 v ts.length xs) (hps : PatsIs wr ts S xs) (hS : ∀ k, S k → B ≤ k ∧ k < wr.heap.size ∧ v.ownBlock ≠ some k)
    (hB : B ≤ wr.heap.size) (hp : p < B) (hg : wr.grownBy w2 (some p)) (hv : PatIs w2 t (Iv wr.heap.size w2.heap.size) x) (hown3 : w3.ownsRow B 50 1 v' (ts.length + 1) (xs ++ [x]))
    (hgr : (w2.alloc o).grownBy w3 v.ownBlock) (hb : v'.ownBlock = v.ownBlock ∨ v'.ownBlock = some (w2.alloc o).heap.size) : Pats w3 B (ts ++ [t]) v' := by
  refine pats_more (w := wr) (w1 := w2) hps hS hB hv hg.size (fun k h1 h2 _ => hg.block k h2 (by simp; omega)) (fun k hk => (hown.lt k hk).2) hown3 (Nat.le_trans (by simp) hgr.size) (fun k h1 h2 => ?_) ?_
  · exact (hgr.block k (by simp; omega) (Ne.symm h2)).trans (Below.heap_alloc _ _ _ h1)
  · rcases hb with h | h
    · exact .inl h
    · exact .inr ⟨_, h, by simp⟩

theorem pats_len' {w : World} {B : Nat} {ts : List Data} {v : Value} (h : Pats w B ts v) : ∃ ao cap, v = .slice ao ts.length cap := by
  obtain ⟨xs, S, ho, _⟩ := h
  rcases ho.2 with ⟨rfl, hn⟩ | ⟨g, cap, cur, rfl, _⟩
  · rw [hn]; exact ⟨_, _, rfl⟩
  · exact ⟨_, _, rfl⟩

theorem ao_of {w : World} {B b n cap : Nat} {ts : List Data} {ao : Option Addr} (h : Pats w B ts (.slice ao n cap)) (hb : Value.ownBlock (.slice ao n cap) = some b) : ao = some ⟨b, 0, none⟩ := by
  obtain ⟨xs, S, ho, _⟩ := h
  rcases ho.2 with ⟨h, _⟩ | ⟨g, cap', cur, h, _⟩
  · simp at h; obtain ⟨rfl, _⟩ := h; simp [Value.ownBlock] at hb
  · simp at h; obtain ⟨rfl, _⟩ := h; simp [Value.ownBlock] at hb; rw [hb]

theorem pat_same {w w' : World} {t : Data} {S : Nat → Prop} {v : Value} (h : PatIs w t S v) (hw : w'.heap = w.heap) : PatIs w' t S v := pat_frame (fun k _ => by rw [hw]) (fun _ h => h) t v h

theorem Tryz.info50r : (Tryz.prog.info? 50).map (fun i => (i.zero, i.size, i.bytes)) = some (some .nilIface, 1, 16) := by kernel_rfl

theorem partLoop_step (g : Nat → Nat) (N : Nat) (A : Nat → Option (Data × Nat)) (f i : Nat) (ts : List Data) : partLoop g N A (f + 1) i ts = if g i = 256 ∨ g i = 124 ∨ g i = 41 then some (ts, i) else match pieceAt g N A i with
      | none => none
      | some (t, j) => partLoop g N A f j (ts ++ [t]) := rfl

end Rx
end Go.Proofs.YtgdnlmaacnnfiaaGreatDoor

