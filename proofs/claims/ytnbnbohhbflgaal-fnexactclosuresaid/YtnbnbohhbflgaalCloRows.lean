/-
  Places, flags and numbers in the heap; isPlace, onward, numbersOf, l4List.
-/
import Derived.Test.YtnbnbohhbflgaalProg
import Derived.Test.YtnbnbohhbflgaalCloMath
import Derived.WalkKit
import Derived.WalkLawsBesides
import Derived.Deep.QuietTactic
import Derived.BigQuiet
import Derived.Deep.RegionWith
import Derived.Laws.AppendOwn
import Derived.Below
import Derived.OwnWalk
import Derived.Maps.AppendAt
import Derived.ArgAppend
import Derived.Deep.WholeRow
import Derived.Deep.OwnRows
import Derived.Deep.CutRange
import Derived.Deep.CutBlock
import Derived.Deep.DeepCutAuto
import Derived.Deep.LoopGhost
namespace Go.Proofs.Ytnbnbohhbflgaal
open Go.RowKit
namespace Clo

theorem grown_set (w : World) (a : Addr) (v : Value) : w.grownBy (w.setCell a v) (some a.block) :=
  ⟨rfl, rfl, rfl, by simp, fun k _ hne => Below.heap_setCell _ _ _ _ fun e => hne (by rw [e])⟩

/-! flags -/

def bools (M : Nat → Bool) (n : Nat) : Array Value := (Array.range n).map fun b => .bool (M b)
theorem bools_size (M : Nat → Bool) (n : Nat) : (bools M n).size = n := by simp [bools]
theorem bools_get (M : Nat → Bool) {n k : Nat} (h : k < n) : (bools M n)[k]? = some (.bool (M k)) := by simp [bools, h]
theorem bools_made (n : Nat) : madeCells #[.bool false] n = bools (fun _ => false) n := by
  apply Array.ext_getElem?
  intro j
  by_cases h : j < n <;> simp [madeCells, bools, h, Nat.mod_one]

/-- The flags M of n places, at block q. -/
def Bs (q n : Nat) (M : Nat → Bool) (w : World) : Prop := w.heap[q]? = some (.cells (bools M n) 4 (0, 0))

theorem bs_cell {q n : Nat} {M : Nat → Bool} {w : World} (h : Bs q n M w) {k : Nat} (hk : k < n) : w.cell? ⟨q, k, none⟩ = some (.bool (M k)) := by
  rw [cell_of_row w q k _ _ _ h, bools_get M hk]
theorem bs_frozen {q n : Nat} {M : Nat → Bool} {w : World} (h : Bs q n M w) (k : Nat) : w.frozen? ⟨q, k, none⟩ = false := by
  unfold Bs at h
  simp [World.frozen?, h]
theorem Bs.lt {q n : Nat} {M : Nat → Bool} {w : World} (h : Bs q n M w) : q < w.heap.size := by
  unfold Bs at h
  rcases Nat.lt_or_ge q w.heap.size with h' | h'
  · exact h'
  · rw [Array.getElem?_eq_none h'] at h; simp at h
theorem Bs.kept {q n : Nat} {M : Nat → Bool} {w w' : World} (h : Bs q n M w) (hw : w'.heap[q]? = w.heap[q]?) : Bs q n M w' := hw.trans h
theorem bs_set {q n : Nat} {M : Nat → Bool} {w : World} (h : Bs q n M w) (k : Nat) : Bs q n (mark M k) (w.setCell ⟨q, k, none⟩ (.bool true)) := by
  unfold Bs at h ⊢
  have hm : (bools M n).set! k (.bool true) = bools (mark M k) n := by
    apply Array.ext_getElem?
    intro j
    rw [Array.set!_eq_setIfInBounds, Array.getElem?_setIfInBounds]
    by_cases hj : j < n
    · rw [bools_get _ hj, bools_get _ hj]
      by_cases e : k = j
      · subst e; simp [bools_size, hj, mark]
      · simp [mark, e, show ¬ j = k by omega]
    · have a1 : (bools M n)[j]? = none := Array.getElem?_eq_none (by rw [bools_size]; omega)
      have a2 : (bools (mark M k) n)[j]? = none := Array.getElem?_eq_none (by rw [bools_size]; omega)
      rw [a1, a2]
      by_cases e : k = j
      · subst e; simp [bools_size, hj]
      · simp [e]
  rw [← hm]
  simp [World.setCell, Array.getElem?_modify, h]

/-! places -/

structure Pl where
  op : Int
  c : Int
  set : ByteArray
  no : Bool
  a : Int
  b : Int

def cellP (p : Pl) : Nat → Value
  | 0 => .int .i64 p.op
  | 1 => .int .i64 p.c
  | 2 => .string p.set
  | 3 => .bool p.no
  | 4 => .int .i64 p.a
  | _ => .int .i64 p.b

def flat (P : Nat → Pl) (n : Nat) : Array Value := (Array.range (n * 6)).map fun i => cellP (P (i / 6)) (i % 6)

/-- The places P, n of them, at block g. -/
def Ps (g n : Nat) (P : Nat → Pl) (w : World) : Prop := w.heap[g]? = some (.cells (flat P n) 40 (0, 0))

theorem ps_at {g n : Nat} {P : Nat → Pl} {w : World} (h : Ps g n P w) {k : Nat} (hk : k < n) (j : Nat) (hj : j < 6) : w.cell? ⟨g, k * 6 + j, none⟩ = some (cellP (P k) j) := by
  rw [cell_of_row w g _ _ _ _ h]
  have h1 : k * 6 + j < n * 6 := by omega
  have h2 : (k * 6 + j) / 6 = k := by omega
  have h3 : (k * 6 + j) % 6 = j := by omega
  simp [flat, h1, h2, h3]
theorem Ps.lt {g n : Nat} {P : Nat → Pl} {w : World} (h : Ps g n P w) : g < w.heap.size := by
  unfold Ps at h
  rcases Nat.lt_or_ge g w.heap.size with h' | h'
  · exact h'
  · rw [Array.getElem?_eq_none h'] at h; simp at h
theorem Ps.kept {g n : Nat} {P : Nat → Pl} {w w' : World} (h : Ps g n P w) (hw : w'.heap[g]? = w.heap[g]?) : Ps g n P w' := hw.trans h

/-! numbers -/

def ints (l : List Int) : List Value := l.map fun x => Value.int .i64 x
theorem ints_len (l : List Int) : (ints l).length = l.length := by simp [ints]
theorem ints_append (l m : List Int) : ints (l ++ m) = ints l ++ ints m := by simp [ints]

/-- The numbers l, at block g. -/
def Is (g : Nat) (l : List Int) (w : World) : Prop := w.heap[g]? = some (.cells (ints l).toArray 3 (0, 0))

theorem is_cell {g : Nat} {l : List Int} {w : World} (h : Is g l w) {k : Nat} {x : Int} (hk : l[k]? = some x) : w.cell? ⟨g, k, none⟩ = some (.int .i64 x) := by
  rw [cell_of_row w g _ _ _ _ h]
  simp [ints, hk]
theorem Is.lt {g : Nat} {l : List Int} {w : World} (h : Is g l w) : g < w.heap.size := by
  unfold Is at h
  rcases Nat.lt_or_ge g w.heap.size with h' | h'
  · exact h'
  · rw [Array.getElem?_eq_none h'] at h; simp at h
theorem Is.kept {g : Nat} {l : List Int} {w w' : World} (h : Is g l w) (hw : w'.heap[g]? = w.heap[g]?) : Is g l w' := hw.trans h

theorem owns_cell {w : World} {B g n cap : Nat} {l : List Int} (h : w.ownsRow B 3 1 (.slice (some ⟨g, 0, none⟩) n cap) n (ints l)) {k : Nat} {x : Int} (hk : l[k]? = some x) : w.cell? ⟨g, k, none⟩ = some (.int .i64 x) := by
  have hl := h.1
  rw [ints_len] at hl
  have hkl := (List.getElem?_eq_some_iff.1 hk).1
  rw [h.cellAt k (by omega)]
  simp [ints, hk]
theorem owns_form {w : World} {B n : Nat} {v : Value} {xs : List Value} (h : w.ownsRow B 3 1 v n xs) (hn : 0 < n) : ∃ g cap, v = .slice (some ⟨g, 0, none⟩) n cap ∧ B ≤ g ∧ n ≤ cap ∧ cap ≤ maxLen := by
  rcases h.2 with ⟨_, h0⟩ | ⟨g, cap, cur, rfl, hg, _, h1, h2, _⟩
  · omega
  · exact ⟨g, cap, rfl, hg, h1, h2⟩
theorem owns_len {w : World} {B n : Nat} {v : Value} {xs : List Value} (h : w.ownsRow B 3 1 v n xs) : ∃ ao cap, v = .slice ao n cap := by
  rcases h.2 with ⟨rfl, hn⟩ | ⟨g, cap, cur, rfl, _⟩
  · rw [hn]; exact ⟨_, _, rfl⟩
  · exact ⟨_, _, rfl⟩
theorem owns_same {w w' : World} {base e size n : Nat} {v : Value} {xs : List Value} (h : w.ownsRow base e size v n xs) (hb : ∀ g, v.ownBlock = some g → w'.heap[g]? = w.heap[g]?) : w'.ownsRow base e size v n xs := by
  obtain ⟨h1, h2⟩ := h
  refine ⟨h1, ?_⟩
  rcases h2 with h2 | ⟨g, cap, cur, rfl, hg, hh, h3⟩
  · exact .inl h2
  · exact .inr ⟨g, cap, cur, rfl, hg, (hb g rfl).trans hh, h3⟩

theorem Try.infoIntr : (Try.prog.info? 3).map (fun i => (i.zero, i.size, i.bytes)) = some (some (.int .i64 0), 1, 8) := by kernel_rfl
theorem Try.infoBoolr : (Try.prog.info? 4).map (fun i => (i.zero, i.size, i.bytes)) = some (some (.bool false), 1, 1) := by kernel_rfl

/-! isPlace -/

theorem iIsPlace (x : Int) (n : Nat) (w : World) : Calls Try.prog 25 #[.int .i64 x, .int .i64 n] w fun e w' => e = .returned (.bool (inB n x)) ∧ w' = w := by
  by_cases h1 : 0 ≤ x
  · by_cases h2 : x < n
    · have e1 : decide (0 ≤ x) = true := decide_eq_true h1
      have e2 : decide (x < (n : Int)) = true := decide_eq_true h2
      have H : Hid (inB n x = true) := inB_iff.2 ⟨h1, h2⟩
      go_enter Try.func25, Try.ntmps25
      go_wp2_with fail
      go_ret
      exact ⟨by rw [H.out]; rfl, rfl⟩
    · have e1 : decide (0 ≤ x) = true := decide_eq_true h1
      have e2 : decide (x < (n : Int)) = false := decide_eq_false h2
      have H : Hid (inB n x = false) := by show inB n x = false; simp [inB]; omega
      go_enter Try.func25, Try.ntmps25
      go_wp2_with fail
      go_ret
      exact ⟨by rw [H.out]; rfl, rfl⟩
  · have e1 : decide (0 ≤ x) = false := decide_eq_false h1
    have H : Hid (inB n x = false) := by show inB n x = false; simp [inB]; omega
    go_enter Try.func25, Try.ntmps25
    go_wp2_with fail
    go_ret
    exact ⟨by rw [H.out]; rfl, rfl⟩

end Clo
end Go.Proofs.Ytnbnbohhbflgaal
