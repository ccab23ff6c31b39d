/-
  The reader of chapter 3: atEnd, sees, take, takeIf.
  The sets of chapter 3: HasPrefix, span.
  The bytes of a set, listed.
  A set of chapter 3.
  Atoms of chapter 3.
-/
import Derived.Test.YtgdnlmaacnnfiaaGreatDoorProg
import Derived.Test.YtgdnlmaacnnfiaaGreatDoorQ02
import Derived.WalkKit
import Derived.WalkLawsBesides
import Derived.Deep.QuietTactic
import Derived.BigQuiet
import Derived.Deep.RegionWith
import Derived.Deep.WholeRow
namespace Go.Proofs.YtgdnlmaacnnfiaaGreatDoor
open Go.RowKit
namespace Rx

/-- A text as a function. -/
def gOf (s : ByteArray) (i : Nat) : Nat := if h : i < s.size then s[i].toNat else 256

theorem gOf_in {s : ByteArray} {i : Nat} (h : i < s.size) : gOf s i = s[i].toNat := by unfold gOf; rw [dif_pos h]
theorem gOf_out {s : ByteArray} {i : Nat} (h : s.size ≤ i) : gOf s i = 256 := by unfold gOf; rw [dif_neg (by omega)]
theorem gOf_lt {s : ByteArray} {i : Nat} (h : i < s.size) : gOf s i < 256 := by rw [gOf_in h]; exact s[i].toNat_lt
theorem gOf_end {s : ByteArray} : ∀ i, s.size ≤ i → gOf s i = 256 := fun _ h => gOf_out h
theorem in_of {s : ByteArray} {i : Nat} (h : gOf s i ≠ 256) : i < s.size := lt_of_some gOf_end h

/-- What the package's sentinel holds. -/
def errV (a : Addr) : Value := .iface 183 (.pointer (some a))

/-- The reader at block p, at place i of s. -/
structure Rd (p : Nat) (s : ByteArray) (a : Addr) (i : Nat) (w : World) : Prop where
  text : w.cell? ⟨p, 0, none⟩ = some (.string s)
  pos : w.cell? ⟨p, 1, none⟩ = some (.int .i64 i)
  fr : w.frozen? ⟨p, 1, none⟩ = false
  err : w.cell? ⟨0, 0, none⟩ = some (.iface 183 (.pointer (some a)))
  ne : 0 ≠ p

theorem Rd.lt {p : Nat} {s : ByteArray} {a : Addr} {i : Nat} {w : World} (h : Rd p s a i w) : p < w.heap.size := World.block_lt_of_cell? w _ h.text
theorem Rd.elt {p : Nat} {s : ByteArray} {a : Addr} {i : Nat} {w : World} (h : Rd p s a i w) : 0 < w.heap.size := World.block_lt_of_cell? w _ h.err

/-- What turns no block of the reader's leaves it. -/
theorem Rd.kept {p : Nat} {s : ByteArray} {a : Addr} {i : Nat} {w w' : World} (h : Rd p s a i w) (h1 : w'.heap[p]? = w.heap[p]?) (h2 : w'.heap[0]? = w.heap[0]?) : Rd p s a i w' :=
  ⟨(World.cell?_of_block h1).trans h.text, (World.cell?_of_block h1).trans h.pos, (World.frozen?_of_block h1).trans h.fr, (World.cell?_of_block h2).trans h.err, h.ne⟩

theorem Rd.below {p : Nat} {s : ByteArray} {a : Addr} {i B : Nat} {w w' : World} (h : Rd p s a i w) (hb : Below B w w') (hp : p < B) (he : 0 < B) : Rd p s a i w' := h.kept (hb.block _ hp) (hb.block _ he)

theorem Rd.grown {p : Nat} {s : ByteArray} {a : Addr} {i : Nat} {w w' : World} {row : Option Nat} (h : Rd p s a i w) (hg : w.grownBy w' row) (h1 : row ≠ some p) (h2 : row ≠ some 0) : Rd p s a i w' :=
  h.kept (hg.block _ h.lt fun e => h1 e.symm) (hg.block _ h.elt fun e => h2 e.symm)

theorem grown_of_below {w w' : World} (h : Below w.heap.size w w') (row : Option Nat) : w.grownBy w' row := ⟨h.os, h.tape, h.output, h.size, fun k hk _ => h.block k hk⟩

theorem Rd.set {p : Nat} {s : ByteArray} {a : Addr} {i : Nat} {w : World} (h : Rd p s a i w) (j : Nat) : Rd p s a j (w.setCell ⟨p, 1, none⟩ (.int .i64 j)) := by
  have he : (w.setCell ⟨p, 1, none⟩ (.int .i64 j)).heap[0]? = w.heap[0]? := Below.heap_setCell _ _ _ _ h.ne
  refine ⟨?_, ?_, ?_, (World.cell?_of_block he).trans h.err, h.ne⟩
  · rw [World.cell?_setCell_other _ _ _ _ (by simp)]; exact h.text
  · exact World.cell?_setCell_same _ _ _ h.pos
  · simpa using h.fr

theorem grown_set (w : World) (a : Addr) (v : Value) : w.grownBy (w.setCell a v) (some a.block) :=
  ⟨rfl, rfl, rfl, by simp, fun k _ hne => Below.heap_setCell _ _ _ _ fun e => hne (by rw [e])⟩

theorem Rd.drewN {p : Nat} {s : ByteArray} {a : Addr} {i : Nat} {w : World} (h : Rd p s a i w) (n : Nat) : Rd p s a i (w.drewN n) := ⟨h.text, h.pos, h.fr, h.err, h.ne⟩

theorem at_is {s : ByteArray} {i : Nat} (h : i ≤ s.size) : ((i : Int) == (s.size : Int)) = decide (gOf s i = 256) := by
  rcases Nat.lt_or_ge i s.size with h1 | h1
  · have := gOf_lt h1
    rw [decide_eq_false (by omega)]
    simp; omega
  · rw [decide_eq_true (gOf_out h1)]
    simp; omega

theorem Rd.next {p : Nat} {s : ByteArray} {a : Addr} {i : Nat} {w : World} (h : Rd p s a i w) : Rd p s a (i + 1) (w.setCell ⟨p, 1, none⟩ (.int .i64 ((i : Int) + 1))) := h.set (i + 1)
theorem grown_drewN {w w' : World} {row : Option Nat} (h : w.grownBy w' row) (n : Nat) : w.grownBy (w'.drewN n) row := ⟨h.os, h.tape, h.output, h.size, h.block⟩

theorem nat_eqb (a b : Nat) : ((a : Int) == (b : Int)) = decide (a = b) := by
  by_cases h : a = b
  · subst h; simp
  · rw [decide_eq_false h]; simp; omega

end Rx
end Go.Proofs.YtgdnlmaacnnfiaaGreatDoor

namespace Go.Proofs.YtgdnlmaacnnfiaaGreatDoor
open Go.RowKit
namespace Rx

/-- Whether a text begins with '-' and ']'. -/
def minusShut (t : ByteArray) : Bool := decide (gOf t 0 = 45 ∧ gOf t 1 = 93)

theorem minusShut_is {t : ByteArray} (h : 2 ≤ t.size) : ((t.extract 0 2).toList == [45, 93]) = minusShut t := by
  have e0 := gOf_in (s := t) (i := 0) (by omega)
  have e1 := gOf_in (s := t) (i := 1) (by omega)
  have e : (t.extract 0 2).toList = [t[0], t[1]] := by
    rw [ByteArray.toList_eq]
    apply List.ext_getElem
    · simp; omega
    · intro k h1 h2
      simp at h2
      rcases Nat.lt_or_ge k 1 with h3 | h3
      · obtain rfl : k = 0 := by omega
        simp [ByteArray.data_extract]; rfl
      · obtain rfl : k = 1 := by omega
        simp [ByteArray.data_extract]; rfl
  unfold minusShut
  rw [e, e0, e1]
  have k : ∀ (x : UInt8) (n : Nat), n < 256 → (x == UInt8.ofNat n) = decide (x.toNat = n) := by
    intro x n hn
    by_cases h : x.toNat = n
    · subst h; simp
    · rw [decide_eq_false h]
      simp
      intro h2
      apply h
      rw [h2]
      simp; omega
  have k45 := k t[0] 45 (by omega)
  have k93 := k t[1] 93 (by omega)
  show ((t[0] == 45) && ((t[1] == 93) && true)) = _
  rw [show (45 : UInt8) = UInt8.ofNat 45 from rfl, show (93 : UInt8) = UInt8.ofNat 93 from rfl, k45, k93]
  simp [Bool.decide_and]

theorem gOf_extract {s : ByteArray} {i : Nat} (h : i ≤ s.size) (k : Nat) : gOf (s.extract i s.size) k = gOf s (i + k) := by
  have hs : (s.extract i s.size).size = s.size - i := by simp [ByteArray.size_extract]
  rcases Nat.lt_or_ge (i + k) s.size with h1 | h1
  · rw [gOf_in h1, gOf_in (by omega)]
    simp [ByteArray.getElem_extract]
  · rw [gOf_out h1, gOf_out (by omega)]

theorem minusShut_at {s : ByteArray} {i : Nat} (h : i ≤ s.size) : minusShut (s.extract i s.size) = decide (gOf s i = 45 ∧ gOf s (i + 1) = 93) := by
  unfold minusShut
  rw [gOf_extract h, gOf_extract h]
  rfl

/-- A byte of a set, or a row of them. -/
def spanAt (g : Nat → Nat) (i : Nat) : Option (Nat × Nat × Nat) :=
  if g i = 256 then none
  else if g (i + 1) = 45 ∧ g (i + 2) ≠ 93 then (if g (i + 2) = 256 ∨ g (i + 2) < g i then none else some (g i, g (i + 2), i + 3))
  else some (g i, g i, i + 1)

def SpanIs (p : Nat) (s : ByteArray) (a : Addr) (w : World) (r : Option (Nat × Nat × Nat)) (e : Ending) (w' : World) : Prop := match r with
  | none => e = .panicked [{ v := errV a, recovered := false }] ∧ w.grownBy w' (some p)
  | some (lo, hi, j) => e = .returned (.tuple #[.int .u8 lo, .int .u8 hi]) ∧ Rd p s a j w' ∧ w.grownBy w' (some p)

theorem grown_drewN_left {w w' : World} {row : Option Nat} {n : Nat} (h : (w.drewN n).grownBy w' row) : w.grownBy w' row := ⟨h.os, h.tape, h.output, h.size, h.block⟩

end Rx
end Go.Proofs.YtgdnlmaacnnfiaaGreatDoor

namespace Go.Proofs.YtgdnlmaacnnfiaaGreatDoor
open Go.RowKit
namespace Rx

/-- Which bytes are in, as an array of bools. -/
def marks (M : Nat → Bool) : Array Value := (Array.range 256).map fun b => .bool (M b)
theorem marks_size (M : Nat → Bool) : (marks M).size = 256 := by simp [marks]
theorem marks_get (M : Nat → Bool) {k : Nat} (h : k < 256) : (marks M)[k]? = some (.bool (M k)) := by simp [marks, h]

/-- Of the first k bytes those that are in. -/
def upTo (M : Nat → Bool) (k : Nat) : List Nat := (List.range k).filter M
theorem upTo_in {M : Nat → Bool} {k : Nat} (h : M k = true) : upTo M (k + 1) = upTo M k ++ [k] := by simp [upTo, List.range_succ, h]
theorem upTo_out {M : Nat → Bool} {k : Nat} (h : M k = false) : upTo M (k + 1) = upTo M k := by simp [upTo, List.range_succ, h]
theorem upTo_len (M : Nat → Bool) (k : Nat) : (upTo M k).length ≤ k := by have := List.length_filter_le M (List.range k); simpa [upTo] using this

def u8s (l : List Nat) : List Value := l.map fun (b : Nat) => Value.int .u8 b

/-! three operations on a whole array, as steps of their own -/
section
variable {P : Program} {ops : Array Oper} {rest : List Oper} {o : Oper} {a : Act} {Q : Exit → Act → World → Prop} {w : World}

theorem wpList_load_whole (hgd : o.guard = none) (t : TypeId) (s : Operand) (ho : o.op = .load t s) (x : Value) (hr : (Instr.loadAt t (a.eval s)).run P w = .ok x w)
    (h : wpList P ops Q rest (a.put o.dst x) w) : wpList P ops Q (o :: rest) a w := by
  refine wpList_plain hgd fun K hK => ?_
  unfold Oper.wp execOp
  simp only [ho, Sem.run_bind, Sem.run_pure, Result.andThen_ok, hr]
  exact hK _ _ h

theorem wpList_box_whole (hgd : o.guard = none) (t : TypeId) (s : Operand) (ho : o.op = .box t s) (x : Value) (w' : World) (hr : (Instr.box t (a.eval s)).run P w = .ok x w')
    (h : wpList P ops Q rest (a.put o.dst x) w') : wpList P ops Q (o :: rest) a w := by
  refine wpList_plain hgd fun K hK => ?_
  unfold Oper.wp execOp
  simp only [ho, Sem.run_bind, Sem.run_pure, Result.andThen_ok, hr]
  exact hK _ _ h

theorem wpList_alloc_whole (hgd : o.guard = none) (t : TypeId) (ho : o.op = .alloc t) (x : Value) (w' : World) (hr : (Instr.alloc t true (.tuple #[])).run P w = .ok x w')
    (h : wpList P ops Q rest (a.put o.dst x) w') : wpList P ops Q (o :: rest) a w := by
  refine wpList_plain hgd fun K hK => ?_
  unfold Oper.wp execOp
  simp only [ho, Sem.run_bind, Sem.run_pure, Result.andThen_ok, hr]
  exact hK _ _ h
end
theorem Tryz.info5r : (Tryz.prog.info? 5).map (fun i => (i.zero, i.size, i.bytes)) = some (some (.int .u8 0), 1, 1) := by kernel_rfl

theorem conv_owned {w : World} {B : Nat} {v : Value} {l : List Nat} (h : w.ownsRow B 5 1 v l.length (u8s l)) (hl : ∀ b ∈ l, b < 256) :
    (convert 22 9 v).run Tryz.prog w = .ok (.string ⟨(l.map UInt8.ofNat).toArray⟩) w := by
  rcases h.2 with ⟨rfl, hn⟩ | ⟨g, cap, cur, rfl, _⟩
  · have : l = [] := List.length_eq_zero_iff.1 hn
    subst this
    rw [run_convert_bytes_string w 22 9 5 none 0 0 Tryz.underlying22 Tryz.underlying5 Tryz.underlying9]
    rfl
  · have hc := h.cells (g := g) rfl
    have := run_convert_bytes_back (P := Tryz.prog) w 22 9 5 ⟨g, 0, none⟩ cap (l.map UInt8.ofNat) Tryz.underlying22 Tryz.underlying5 Tryz.underlying9 (by
      intro j hj
      simp only [List.length_map] at hj
      refine hc j _ ?_
      have hb := hl l[j] (List.getElem_mem hj)
      simp only [u8s, List.getElem?_map, List.getElem?_eq_getElem hj, Option.map_some, List.getElem_map, UInt8.toNat_ofNat']
      rw [Nat.mod_eq_of_lt (by omega)])
    simpa using this

end Rx
end Go.Proofs.YtgdnlmaacnnfiaaGreatDoor

namespace Go.Proofs.YtgdnlmaacnnfiaaGreatDoor
open Go.RowKit
namespace Rx

/-- How a reading ends: what is none is a panic. -/
def Reads (p : Nat) (s : ByteArray) (a : Addr) (w : World) (r : Option (Data × Nat)) (e : Ending) (w' : World) : Prop := match r with
  | none => e = .panicked [{ v := errV a, recovered := false }] ∧ w.grownBy w' (some p)
  | some (t, j) => ∃ v, e = .returned v ∧ PatIs w' t (Iv w.heap.size w'.heap.size) v ∧ Rd p s a j w' ∧ w.grownBy w' (some p)

theorem setLoop_step {g : Nat → Nat} {f i : Nat} {M : Nat → Bool} (h : g i ≠ 93) : setLoop g (f + 1) i M = match spanAt g i with
    | none => none
    | some (lo, hi, j) => setLoop g f j (spanOn M lo hi) := by
  rw [setLoop, spanAt]
  by_cases h1 : g i = 256
  · simp [h1]
  · rw [if_neg h1, if_neg h, if_neg h1]
    by_cases h2 : g (i + 1) = 45 ∧ g (i + 2) ≠ 93
    · rw [if_pos h2, if_pos h2]
      by_cases h3 : g (i + 2) = 256 ∨ g (i + 2) < g i
      · rw [if_pos h3, if_pos h3]
      · rw [if_neg h3, if_neg h3]
    · rw [if_neg h2, if_neg h2]

theorem span_in {s : ByteArray} {i lo hi j : Nat} (h : spanAt (gOf s) i = some (lo, hi, j)) : i < j ∧ j ≤ s.size ∧ lo < 256 ∧ hi < 256 ∧ lo ≤ hi := by
  unfold spanAt at h
  split at h
  · simp at h
  rename_i h1
  have h1 := in_of h1
  have h1' := gOf_lt h1
  split at h
  · split at h
    · simp at h
    · rename_i h2 h3
      have h4 := in_of (s := s) (i := i + 2) (by omega)
      have h4' := gOf_lt h4
      simp at h
      omega
  · simp at h
    omega

theorem grown_set_new {w wq : World} {row : Option Nat} (h : w.grownBy wq row) {x : Addr} (hq : w.heap.size ≤ x.block) (v : Value) : w.grownBy (wq.setCell x v) row :=
  ⟨h.os, h.tape, h.output, by simpa using h.size, fun k hk hne => (Below.heap_setCell _ _ _ _ (by omega)).trans (h.block k hk hne)⟩

/-- What is in behind n of a row. -/
def spanTo (M : Nat → Bool) (lo n : Nat) : Nat → Bool := fun b => M b || (decide (lo ≤ b) && decide (b < n))
theorem spanTo_zero (M : Nat → Bool) (lo : Nat) : spanTo M lo lo = M := by
  funext b
  unfold spanTo
  by_cases h : lo ≤ b
  · rw [decide_eq_false (show ¬ b < lo by omega)]; simp
  · rw [decide_eq_false h]; simp
theorem spanTo_next (M : Nat → Bool) {lo n : Nat} (h : lo ≤ n) : (fun b => spanTo M lo n b || decide (b = n)) = spanTo M lo (n + 1) := by
  funext b
  unfold spanTo
  by_cases h1 : b = n
  · subst h1; simp [h]
  · rw [decide_eq_false h1, show decide (b < n + 1) = decide (b < n) from decide_eq_decide.2 (by omega)]; simp
theorem spanTo_all (M : Nat → Bool) (lo hi : Nat) : spanTo M lo (hi + 1) = spanOn M lo hi := by
  funext b
  unfold spanTo spanOn
  rw [show decide (b < hi + 1) = decide (b ≤ hi) from decide_eq_decide.2 (by omega)]

/-- Where the reader is. -/
def posOf (p : Nat) (w : World) : Nat := match w.cell? ⟨p, 1, none⟩ with
  | some (.int _ n) => n.toNat
  | _ => 0
theorem posOf_is {p : Nat} {s : ByteArray} {a : Addr} {i : Nat} {w : World} (h : Rd p s a i w) : posOf p w = i := by unfold posOf; rw [h.pos]; simp

end Rx
end Go.Proofs.YtgdnlmaacnnfiaaGreatDoor

namespace Go.Proofs.YtgdnlmaacnnfiaaGreatDoor
open Go.RowKit
namespace Rx

/-- From place m on, the function F of the reader reads as r tells. -/
def Parses (F : Nat) (p : Nat) (s : ByteArray) (a : Addr) (m : Nat) (r : Nat → Option (Data × Nat)) : Prop :=
  ∀ (i : Nat) (w : World), Rd p s a i w → i ≤ s.size → m ≤ i → Calls Tryz.prog F #[.pointer (some ⟨p, 0, none⟩)] w fun e w' => Reads p s a w (r i) e w'

theorem reads_none {p : Nat} {s : ByteArray} {a : Addr} {w w' : World} {r : Option (Data × Nat)} {e : Ending} (h : Reads p s a w r e w') (hr : r = none) : e = .panicked [{ v := errV a, recovered := false }] ∧ w.grownBy w' (some p) := by
  rw [hr] at h; exact h
theorem reads_some {p : Nat} {s : ByteArray} {a : Addr} {w w' : World} {r : Option (Data × Nat)} {e : Ending} {t : Data} {j : Nat} (h : Reads p s a w r e w') (hr : r = some (t, j)) :
    ∃ v, e = .returned v ∧ PatIs w' t (Iv w.heap.size w'.heap.size) v ∧ Rd p s a j w' ∧ w.grownBy w' (some p) := by
  rw [hr] at h; exact h

/-- What was read stays, where only the reader turns. -/
theorem pat_grown {p : Nat} {w w' : World} {lo hi lo' hi' : Nat} {t : Data} {v : Value} (h : PatIs w t (Iv lo hi) v) (hg : w.grownBy w' (some p)) (hp : p < lo) (h1 : hi ≤ w.heap.size) (h2 : lo' ≤ lo) (h3 : hi ≤ hi') : PatIs w' t (Iv lo' hi') v :=
  pat_frame (fun k hk => hg.block k (by have := hk.2; omega) (by have := hk.1; simp; omega)) (fun k hk => ⟨by have := hk.1; omega, by have := hk.2; omega⟩) t v h

theorem reads_left {p : Nat} {s : ByteArray} {a : Addr} {w w1 w' : World} {r : Option (Data × Nat)} {e : Ending} (hg : w.grownBy w1 (some p)) (h : Reads p s a w1 r e w') : Reads p s a w r e w' := by
  rcases r with _ | ⟨t, j⟩
  · exact ⟨h.1, hg.trans h.2⟩
  · obtain ⟨v, h1, h2, h3, h4⟩ := h
    exact ⟨v, h1, pat_frame (fun _ _ => rfl) (fun k hk => ⟨Nat.le_trans hg.size hk.1, hk.2⟩) t v h2, h3, hg.trans h4⟩

theorem pat_leaf {w : World} {S : Nat → Prop} {op c : Nat} {s : List UInt8} {no : Bool} {v : Value} (h : Leaf op c s no v) : PatIs w (nd op c s no []) S v := by
  rw [pat_nd]
  exact .inl ⟨rfl, h⟩

end Rx
end Go.Proofs.YtgdnlmaacnnfiaaGreatDoor

