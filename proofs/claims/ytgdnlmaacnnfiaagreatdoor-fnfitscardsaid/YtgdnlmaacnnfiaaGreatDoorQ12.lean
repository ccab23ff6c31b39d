/-
  Places, flags and numbers in the heap; isPlace, onward, numbersOf, l4List.
  onward, numbersOf, l4List.
  Chapter 5's specification: l5In, l5One, l5Join.
-/
import Derived.Test.YtgdnlmaacnnfiaaGreatDoorProg
import Derived.Test.YtgdnlmaacnnfiaaGreatDoorQ11
import Derived.WalkKit
import Derived.WalkLawsBesides
import Derived.Deep.QuietTactic
import Derived.BigQuiet
import Derived.Deep.RegionWith
import Derived.Laws.AppendOwn
import Derived.Below
import Derived.OwnWalk
import Derived.Maps.AppendAt
import Derived.ArgAppend
import Derived.Deep.WholeRow
import Derived.Deep.OwnRows
import Derived.Deep.CutRange
import Derived.Deep.CutBlock
import Derived.Deep.DeepCutAuto
import Derived.Deep.LoopGhost
import Derived.Test.YtgdnlmaacnnfiaaGreatDoorQ03
namespace Go.Proofs.YtgdnlmaacnnfiaaGreatDoor
open Go.RowKit
namespace Clo

theorem grown_set (w : World) (a : Addr) (v : Value) : w.grownBy (w.setCell a v) (some a.block) :=
  ⟨rfl, rfl, rfl, by simp, fun k _ hne => Below.heap_setCell _ _ _ _ fun e => hne (by rw [e])⟩

/-! flags -/

def bools (M : Nat → Bool) (n : Nat) : Array Value := (Array.range n).map fun b => .bool (M b)
theorem bools_size (M : Nat → Bool) (n : Nat) : (bools M n).size = n := by simp [bools]
theorem bools_get (M : Nat → Bool) {n k : Nat} (h : k < n) : (bools M n)[k]? = some (.bool (M k)) := by simp [bools, h]
theorem bools_made (n : Nat) : madeCells #[.bool false] n = bools (fun _ => false) n := by
  apply Array.ext_getElem?
  intro j
  by_cases h : j < n <;> simp [madeCells, bools, h, Nat.mod_one]

/-- The flags M of n places, at block q. -/
def Bs (q n : Nat) (M : Nat → Bool) (w : World) : Prop := w.heap[q]? = some (.cells (bools M n) 4 (0, 0))

theorem bs_cell {q n : Nat} {M : Nat → Bool} {w : World} (h : Bs q n M w) {k : Nat} (hk : k < n) : w.cell? ⟨q, k, none⟩ = some (.bool (M k)) := by
  rw [cell_of_row w q k _ _ _ h, bools_get M hk]
theorem bs_frozen {q n : Nat} {M : Nat → Bool} {w : World} (h : Bs q n M w) (k : Nat) : w.frozen? ⟨q, k, none⟩ = false := by
  unfold Bs at h
  simp [World.frozen?, h]
theorem Bs.lt {q n : Nat} {M : Nat → Bool} {w : World} (h : Bs q n M w) : q < w.heap.size := by
  unfold Bs at h
  rcases Nat.lt_or_ge q w.heap.size with h' | h'
  · exact h'
  · rw [Array.getElem?_eq_none h'] at h; simp at h
theorem Bs.kept {q n : Nat} {M : Nat → Bool} {w w' : World} (h : Bs q n M w) (hw : w'.heap[q]? = w.heap[q]?) : Bs q n M w' := hw.trans h
theorem bs_set {q n : Nat} {M : Nat → Bool} {w : World} (h : Bs q n M w) (k : Nat) : Bs q n (mark M k) (w.setCell ⟨q, k, none⟩ (.bool true)) := by
  unfold Bs at h ⊢
  have hm : (bools M n).set! k (.bool true) = bools (mark M k) n := by
    apply Array.ext_getElem?
    intro j
    rw [Array.set!_eq_setIfInBounds, Array.getElem?_setIfInBounds]
    by_cases hj : j < n
    · rw [bools_get _ hj, bools_get _ hj]
      by_cases e : k = j
      · subst e; simp [bools_size, hj, mark]
      · simp [mark, e, show ¬ j = k by omega]
    · have a1 : (bools M n)[j]? = none := Array.getElem?_eq_none (by rw [bools_size]; omega)
      have a2 : (bools (mark M k) n)[j]? = none := Array.getElem?_eq_none (by rw [bools_size]; omega)
      rw [a1, a2]
      by_cases e : k = j
      · subst e; simp [bools_size, hj]
      · simp [e]
  rw [← hm]
  simp [World.setCell, Array.getElem?_modify, h]

/-! places -/

structure Pl where
  op : Int
  c : Int
  set : ByteArray
  no : Bool
  a : Int
  b : Int

def cellP (p : Pl) : Nat → Value
  | 0 => .int .i64 p.op
  | 1 => .int .i64 p.c
  | 2 => .string p.set
  | 3 => .bool p.no
  | 4 => .int .i64 p.a
  | _ => .int .i64 p.b

def flat (P : Nat → Pl) (n : Nat) : Array Value := (Array.range (n * 6)).map fun i => cellP (P (i / 6)) (i % 6)

/-- The places P, n of them, at block g. -/
def Ps (g n : Nat) (P : Nat → Pl) (w : World) : Prop := w.heap[g]? = some (.cells (flat P n) 67 (0, 0))

theorem ps_at {g n : Nat} {P : Nat → Pl} {w : World} (h : Ps g n P w) {k : Nat} (hk : k < n) (j : Nat) (hj : j < 6) : w.cell? ⟨g, k * 6 + j, none⟩ = some (cellP (P k) j) := by
  rw [cell_of_row w g _ _ _ _ h]
  have h1 : k * 6 + j < n * 6 := by omega
  have h2 : (k * 6 + j) / 6 = k := by omega
  have h3 : (k * 6 + j) % 6 = j := by omega
  simp [flat, h1, h2, h3]
theorem Ps.lt {g n : Nat} {P : Nat → Pl} {w : World} (h : Ps g n P w) : g < w.heap.size := by
  unfold Ps at h
  rcases Nat.lt_or_ge g w.heap.size with h' | h'
  · exact h'
  · rw [Array.getElem?_eq_none h'] at h; simp at h
theorem Ps.kept {g n : Nat} {P : Nat → Pl} {w w' : World} (h : Ps g n P w) (hw : w'.heap[g]? = w.heap[g]?) : Ps g n P w' := hw.trans h

/-! numbers -/

def ints (l : List Int) : List Value := l.map fun x => Value.int .i64 x
theorem ints_len (l : List Int) : (ints l).length = l.length := by simp [ints]
theorem ints_append (l m : List Int) : ints (l ++ m) = ints l ++ ints m := by simp [ints]

/-- The numbers l, at block g. -/
def Is (g : Nat) (l : List Int) (w : World) : Prop := w.heap[g]? = some (.cells (ints l).toArray 3 (0, 0))

theorem is_cell {g : Nat} {l : List Int} {w : World} (h : Is g l w) {k : Nat} {x : Int} (hk : l[k]? = some x) : w.cell? ⟨g, k, none⟩ = some (.int .i64 x) := by
  rw [cell_of_row w g _ _ _ _ h]
  simp [ints, hk]
theorem Is.lt {g : Nat} {l : List Int} {w : World} (h : Is g l w) : g < w.heap.size := by
  unfold Is at h
  rcases Nat.lt_or_ge g w.heap.size with h' | h'
  · exact h'
  · rw [Array.getElem?_eq_none h'] at h; simp at h
theorem Is.kept {g : Nat} {l : List Int} {w w' : World} (h : Is g l w) (hw : w'.heap[g]? = w.heap[g]?) : Is g l w' := hw.trans h

theorem owns_cell {w : World} {B g n cap : Nat} {l : List Int} (h : w.ownsRow B 3 1 (.slice (some ⟨g, 0, none⟩) n cap) n (ints l)) {k : Nat} {x : Int} (hk : l[k]? = some x) : w.cell? ⟨g, k, none⟩ = some (.int .i64 x) := by
  have hl := h.1
  rw [ints_len] at hl
  have hkl := (List.getElem?_eq_some_iff.1 hk).1
  rw [h.cellAt k (by omega)]
  simp [ints, hk]
theorem owns_form {w : World} {B n : Nat} {v : Value} {xs : List Value} (h : w.ownsRow B 3 1 v n xs) (hn : 0 < n) : ∃ g cap, v = .slice (some ⟨g, 0, none⟩) n cap ∧ B ≤ g ∧ n ≤ cap ∧ cap ≤ maxLen := by
  rcases h.2 with ⟨_, h0⟩ | ⟨g, cap, cur, rfl, hg, _, h1, h2, _⟩
  · omega
  · exact ⟨g, cap, rfl, hg, h1, h2⟩
theorem owns_len {w : World} {B n : Nat} {v : Value} {xs : List Value} (h : w.ownsRow B 3 1 v n xs) : ∃ ao cap, v = .slice ao n cap := by
  rcases h.2 with ⟨rfl, hn⟩ | ⟨g, cap, cur, rfl, _⟩
  · rw [hn]; exact ⟨_, _, rfl⟩
  · exact ⟨_, _, rfl⟩
theorem owns_same {w w' : World} {base e size n : Nat} {v : Value} {xs : List Value} (h : w.ownsRow base e size v n xs) (hb : ∀ g, v.ownBlock = some g → w'.heap[g]? = w.heap[g]?) : w'.ownsRow base e size v n xs := by
  obtain ⟨h1, h2⟩ := h
  refine ⟨h1, ?_⟩
  rcases h2 with h2 | ⟨g, cap, cur, rfl, hg, hh, h3⟩
  · exact .inl h2
  · exact .inr ⟨g, cap, cur, rfl, hg, (hb g rfl).trans hh, h3⟩

theorem Tryz.infoIntr : (Tryz.prog.info? 3).map (fun i => (i.zero, i.size, i.bytes)) = some (some (.int .i64 0), 1, 8) := by kernel_rfl
theorem Tryz.infoBoolr : (Tryz.prog.info? 4).map (fun i => (i.zero, i.size, i.bytes)) = some (some (.bool false), 1, 1) := by kernel_rfl

/-! isPlace -/

theorem iIsPlace (x : Int) (n : Nat) (w : World) : Calls Tryz.prog 41 #[.int .i64 x, .int .i64 n] w fun e w' => e = .returned (.bool (inB n x)) ∧ w' = w := by
  by_cases h1 : 0 ≤ x
  · by_cases h2 : x < n
    · have e1 : decide (0 ≤ x) = true := decide_eq_true h1
      have e2 : decide (x < (n : Int)) = true := decide_eq_true h2
      have H : Hid (inB n x = true) := inB_iff.2 ⟨h1, h2⟩
      go_enter Tryz.func41, Tryz.ntmps41
      go_wp2_with fail
      go_ret
      exact ⟨by rw [H.out]; rfl, rfl⟩
    · have e1 : decide (0 ≤ x) = true := decide_eq_true h1
      have e2 : decide (x < (n : Int)) = false := decide_eq_false h2
      have H : Hid (inB n x = false) := by show inB n x = false; simp [inB]; omega
      go_enter Tryz.func41, Tryz.ntmps41
      go_wp2_with fail
      go_ret
      exact ⟨by rw [H.out]; rfl, rfl⟩
  · have e1 : decide (0 ≤ x) = false := decide_eq_false h1
    have H : Hid (inB n x = false) := by show inB n x = false; simp [inB]; omega
    go_enter Tryz.func41, Tryz.ntmps41
    go_wp2_with fail
    go_ret
    exact ⟨by rw [H.out]; rfl, rfl⟩

end Clo
end Go.Proofs.YtgdnlmaacnnfiaaGreatDoor

namespace Go.Proofs.YtgdnlmaacnnfiaaGreatDoor
open Go.RowKit
namespace Clo

/-- Numbers that come back: nil, or in a block of their own. -/
def NewInts (B : Nat) (w : World) (v : Value) (l : List Int) : Prop := (l = [] ∧ v = .slice none 0 0) ∨ (l ≠ [] ∧ ∃ g, v = .slice (some ⟨g, 0, none⟩) l.length l.length ∧ B ≤ g ∧ Is g l w)

theorem is_new (w : World) (l : List Int) {g : Nat} {o : Obj} (hg : g = w.heap.size) (ho : o = .cells (ints l).toArray 3) : Is g l (w.alloc o) := by
  subst ho hg
  exact heap_alloc_last _ _

theorem iOnward (op c : Int) (set : ByteArray) (no : Bool) (a b : Int) (k : Nat) (begin fin : Bool) (w : World) (hk : k ≤ 1048576) :
    Calls Tryz.prog 86 #[.agg #[.int .i64 op, .int .i64 c, .string set, .bool no, .int .i64 a, .int .i64 b], .int .i64 k, .bool begin, .bool fin] w fun e w' =>
      ∃ v, e = .returned v ∧ NewInts w.heap.size w' v (nextV op a b k begin fin) ∧ Below w.heap.size w w' := by
  have bk : (k : Int) ≤ 1048576 := by omega
  have hb : ∀ o, Below w.heap.size w (w.alloc o) := fun o => (Below.refl _ w).alloc (Nat.le_refl _) o
  by_cases h6 : op = 6
  · subst h6
    have HN : Hid (nextV 6 a b k begin fin = [a]) := by show nextV 6 a b k begin fin = [a]; simp [nextV]
    go_enter Tryz.func86, Tryz.ntmps86
    go_wp2_with fail
    go_ret
    rw [HN.out]
    exact ⟨_, rfl, .inr ⟨by simp, _, rfl, by simp, is_new _ [a] (by simp) rfl⟩, (hb _).alloc (by simp) _⟩
  by_cases h7 : op = 7
  · subst h7
    have HN : Hid (nextV 7 a b k begin fin = [a, b]) := by show nextV 7 a b k begin fin = [a, b]; simp [nextV]
    go_enter Tryz.func86, Tryz.ntmps86
    go_wp2_with fail
    go_ret
    rw [HN.out]
    exact ⟨_, rfl, .inr ⟨by simp, _, rfl, by simp, is_new _ [a, b] (by simp) rfl⟩, (hb _).alloc (by simp) _⟩
  by_cases h4 : op = 4
  · subst h4
    cases begin with
    | true =>
      have HN : Hid (nextV 4 a b k true fin = [(k : Int) + 1]) := by show nextV 4 a b k true fin = _; simp [nextV]
      go_enter Tryz.func86, Tryz.ntmps86
      go_wp2_with fail
      go_ret
      rw [HN.out]
      exact ⟨_, rfl, .inr ⟨by simp, _, rfl, by simp, is_new _ [(k : Int) + 1] (by simp) rfl⟩, (hb _).alloc (by simp) _⟩
    | false =>
      have HN : Hid (nextV 4 a b k false fin = []) := by show nextV 4 a b k false fin = _; simp [nextV]
      go_enter Tryz.func86, Tryz.ntmps86
      go_wp2_with fail
      go_ret
      rw [HN.out]
      exact ⟨_, rfl, .inl ⟨rfl, rfl⟩, hb _⟩
  by_cases h5 : op = 5
  · subst h5
    cases fin with
    | true =>
      have HN : Hid (nextV 5 a b k begin true = [(k : Int) + 1]) := by show nextV 5 a b k begin true = _; simp [nextV]
      go_enter Tryz.func86, Tryz.ntmps86
      go_wp2_with fail
      go_ret
      rw [HN.out]
      exact ⟨_, rfl, .inr ⟨by simp, _, rfl, by simp, is_new _ [(k : Int) + 1] (by simp) rfl⟩, (hb _).alloc (by simp) _⟩
    | false =>
      have HN : Hid (nextV 5 a b k begin false = []) := by show nextV 5 a b k begin false = _; simp [nextV]
      go_enter Tryz.func86, Tryz.ntmps86
      go_wp2_with fail
      go_ret
      rw [HN.out]
      exact ⟨_, rfl, .inl ⟨rfl, rfl⟩, hb _⟩
  have HN : Hid (nextV op a b k begin fin = []) := by show nextV op a b k begin fin = _; simp [nextV, h4, h5, h6, h7]
  have n4 : (op == 4) = false := by simp [h4]
  have n5 : (op == 5) = false := by simp [h5]
  have n6 : (op == 6) = false := by simp [h6]
  have n7 : (op == 7) = false := by simp [h7]
  go_enter Tryz.func86, Tryz.ntmps86
  go_wp2_with fail
  go_ret
  rw [HN.out]
  exact ⟨_, rfl, .inl ⟨rfl, rfl⟩, hb _⟩

theorem listV_in {M : Nat → Bool} {k : Nat} (h : M k = true) : listV M (k + 1) = listV M k ++ [k] := by rw [listV_succ, if_pos h]
theorem listV_out {M : Nat → Bool} {k : Nat} (h : M k = false) : listV M (k + 1) = listV M k := by rw [listV_succ, if_neg (by simp [h])]

/-- The places that are marked, as numbers. -/
def nums (M : Nat → Bool) (k : Nat) : List Int := (listV M k).map fun (x : Nat) => (x : Int)
theorem nums_in {M : Nat → Bool} {k : Nat} (h : M k = true) : nums M (k + 1) = nums M k ++ [(k : Int)] := by simp [nums, listV_in h]
theorem nums_out {M : Nat → Bool} {k : Nat} (h : M k = false) : nums M (k + 1) = nums M k := by simp [nums, listV_out h]
theorem nums_len (M : Nat → Bool) (k : Nat) : (nums M k).length ≤ k := by simpa [nums] using listV_len M k

/-- Numbers that come back in a row of the call's own. -/
def OwnInts (B : Nat) (w : World) (v : Value) (l : List Int) : Prop := w.ownsRow B 3 1 v l.length (ints l)

set_option maxRecDepth 100000 in
theorem sList {q n : Nat} {M : Nat → Bool} {w : World} (h : Bs q n M w) (hn : n ≤ 1048576) :
    Calls Tryz.prog 26 #[.slice (some ⟨q, 0, none⟩) n n] w fun e w' => ∃ v, e = .returned v ∧ OwnInts w.heap.size w' v (nums M n) ∧ Below w.heap.size w w' := by
  obtain ⟨i0, hi0, hz0, hz1, hz2⟩ := info_parts Tryz.infoIntr
  have hq := h.lt
  have bn : (n : Int) ≤ 1048576 := by omega
  have hc : ∀ k, k < n → w.cell? ⟨q, k, none⟩ = some (.bool (M k)) := fun k hk => bs_cell h hk
  clear h
  go_enter Tryz.func26, Tryz.ntmps26
  go_wp2_with fail
  go_loopw [3, 4] (fun v i wr => ∃ k : Nat, k ≤ n ∧ i = .int .i64 k ∧ wr.ownsRow w.heap.size 3 1 v (nums M k).length (ints (nums M k)) ∧ Below w.heap.size w wr) (fun _ i _ => n - (intOf i).toNat)
  case atStart => exact ⟨0, by omega, rfl, World.ownsRow_made w #[] 0 (Nat.le_refl _) (by unfold maxLen; omega) rfl, (Below.refl _ w).alloc (Nat.le_refl _) _⟩
  case round =>
    obtain ⟨k, hk, rfl, hown, hnx⟩ := hrel
    have hlen := nums_len M k
    have hsz := hnx.size
    by_cases hkl : k < n
    · have hck : wr.cell? ⟨q, k, none⟩ = some (.bool (M k)) := (hnx.cell (p := ⟨q, k, none⟩) hq).trans (hc k hkl)
      by_cases hM : M k = true
      · rw [hM] at hck
        go_wp2_with (first | (at_builtin; refine wpList_append_own_at _ rfl _ _ 29 rfl w.heap.size 3 i0 (.int .i64 0) 1 8 Tryz.underlying29 hi0 hz0 hz1 hz2 rfl (by decide) _ _ _ rfl (hown.alloc _) ⟨wr.heap.size, 0, none⟩ 1 1 [.int .i64 k] rfl rfl (cell_one_new _ _ _) (by simp [Value.oneCell']) (by unfold maxLen; omega) (by omega) (by simp; omega) ?_; intro v' w1 hown' hgrow _ _))
        go_roundw
        case rel =>
          refine ⟨k + 1, by omega, by go_num, ?_, ?_⟩
          · rw [nums_in hM]
            simpa [ints] using hown'
          · exact (hnx.alloc (by omega) _).grown hgrow (by simp; omega) (fun b hb => (hown.lt b hb).1)
        case measure => simp [intOf]; omega
      · have hM : M k = false := by simpa using hM
        rw [hM] at hck
        go_wp2_with fail
        go_roundw
        case rel => exact ⟨k + 1, by omega, by go_num, by rw [nums_out hM]; exact hown, hnx⟩
        case measure => simp [intOf]; omega
    · obtain rfl : k = n := by omega
      go_wp2_with fail
      go_ret
      exact ⟨_, rfl, hown, hnx⟩

end Clo
end Go.Proofs.YtgdnlmaacnnfiaaGreatDoor

namespace Go.Proofs.YtgdnlmaacnnfiaaGreatDoor
open Go.RowKit
namespace Mt
open Rx Clo

theorem below_drewN {B : Nat} {W w : World} (h : Below B W w) (n : Nat) : Below B W (w.drewN n) := ⟨h.os, h.tape, h.output, h.size, h.block⟩

/-- A byte is in a text. -/
def inS (s : ByteArray) (b : Nat) : Bool := (List.range s.size).any fun i => decide (gOf s i = b)
theorem inS_iff {s : ByteArray} {b : Nat} : inS s b = true ↔ ∃ i, i < s.size ∧ gOf s i = b := by simp [inS]
theorem inS_no {s : ByteArray} {b : Nat} (h : ∀ i, i < s.size → gOf s i ≠ b) : inS s b = false := by
  rcases hb : inS s b with _ | _
  · rfl
  · obtain ⟨i, h1, h2⟩ := inS_iff.1 hb
    exact absurd h2 (h i h1)

set_option maxRecDepth 100000 in
theorem sIn (s : ByteArray) (b : Nat) (hs : (s.size : Int) < 9000000000000000000) (w : World) :
    Calls Tryz.prog 93 #[.string s, .int .u8 b] w fun e w' => e = .returned (.bool (inS s b)) ∧ w' = w := by
  go_enter Tryz.func93, Tryz.ntmps93
  go_wp2_with fail
  go_loopw [5] (fun i wr => ∃ k : Nat, k ≤ s.size ∧ i = .int .i64 k ∧ wr = w ∧ ∀ j, j < k → gOf s j ≠ b) (fun i _ => s.size - (intOf i).toNat)
  case atStart => exact ⟨0, by omega, rfl, rfl, fun j hj => by omega⟩
  case round =>
    obtain ⟨k, hk, rfl, rfl, hno⟩ := hrel
    by_cases hkl : k < s.size
    · have hg := gOf_in hkl
      by_cases hb : gOf s k = b
      · have H : Hid (inS s b = true) := inS_iff.2 ⟨k, hkl, hb⟩
        have e1 : ((s[k].toNat : Int) == (b : Int)) = true := by rw [← hg, hb]; simp
        have e2 : (s[k].toNat : Int) = (b : Int) := by rw [← hg, hb]
        go_wp2_with fail
        go_ret
        exact ⟨by rw [H.out]; rfl, rfl⟩
      · have e1 : ((s[k].toNat : Int) == (b : Int)) = false := by rw [← hg]; simp; omega
        have e2 : ¬ (s[k].toNat : Int) = (b : Int) := by rw [← hg]; omega
        go_wp2_with fail
        go_roundw
        case rel => exact ⟨k + 1, by omega, by go_num, by trivial, fun j hj => by
          rcases Nat.lt_or_ge j k with h | h
          · exact hno j h
          · have : j = k := by omega
            subst this; exact hb⟩
        case measure => simp [intOf]; omega
    · obtain rfl : k = s.size := by omega
      have H : Hid (inS s b = false) := inS_no hno
      go_wp2_with fail
      go_ret
      exact ⟨by rw [H.out]; rfl, rfl⟩

/-- A flag is put. -/
def putB (M : Nat → Bool) (k : Nat) (b : Bool) : Nat → Bool := fun j => if j = k then b else M j
theorem bs_put {q n : Nat} {M : Nat → Bool} {w : World} (h : Bs q n M w) (k : Nat) (b : Bool) : Bs q n (putB M k b) (w.setCell ⟨q, k, none⟩ (.bool b)) := by
  unfold Bs at h ⊢
  have hm : (bools M n).set! k (.bool b) = bools (putB M k b) n := by
    apply Array.ext_getElem?
    intro j
    rw [Array.set!_eq_setIfInBounds, Array.getElem?_setIfInBounds]
    by_cases hj : j < n
    · rw [bools_get _ hj, bools_get _ hj]
      by_cases e : k = j
      · subst e; simp [bools_size, hj, putB]
      · simp [putB, e, show ¬ j = k by omega]
    · have a1 : (bools M n)[j]? = none := Array.getElem?_eq_none (by rw [bools_size]; omega)
      have a2 : (bools (putB M k b) n)[j]? = none := Array.getElem?_eq_none (by rw [bools_size]; omega)
      rw [a1, a2]
      by_cases e : k = j
      · subst e; simp [bools_size, hj]
      · simp [e]
  rw [← hm]
  simp [World.setCell, Array.getElem?_modify, h]
theorem bs_eq {q n : Nat} {M M' : Nat → Bool} {w : World} (h : Bs q n M w) (he : ∀ k, k < n → M k = M' k) : Bs q n M' w := by
  unfold Bs at h ⊢
  rw [h]
  congr 2
  apply Array.ext_getElem?
  intro j
  by_cases hj : j < n
  · rw [bools_get _ hj, bools_get _ hj, he j hj]
  · rw [Array.getElem?_eq_none (by rw [bools_size]; omega), Array.getElem?_eq_none (by rw [bools_size]; omega)]

/-- Block q alone may have turned, of those that there were. -/
def But (q : Nat) (w w' : World) : Prop := w'.os = w.os ∧ w'.tape = w.tape ∧ w'.output = w.output ∧ w.heap.size ≤ w'.heap.size ∧ ∀ k, k ≠ q → k < w.heap.size → w'.heap[k]? = w.heap[k]?
theorem But.refl (q : Nat) (w : World) : But q w w := ⟨rfl, rfl, rfl, Nat.le_refl _, fun _ _ _ => rfl⟩
theorem But.set {q : Nat} {w w' : World} (h : But q w w') (k : Nat) (v : Value) : But q w (w'.setCell ⟨q, k, none⟩ v) := by
  obtain ⟨h1, h2, h3, h4, h5⟩ := h
  exact ⟨h1, h2, h3, by simpa using h4, fun j hj hl => (Below.heap_setCell _ _ _ _ hj).trans (h5 j hj hl)⟩
theorem But.below {q B : Nat} {W w w' : World} (h : But q w w') (hW : Below B W w) (hB : B ≤ q) (hs : B ≤ W.heap.size) : Below B W w' := by
  obtain ⟨h1, h2, h3, h4, h5⟩ := h
  have := hW.size
  exact ⟨h1.trans hW.os, h2.trans hW.tape, h3.trans hW.output, by omega, fun k hk => (h5 k (by omega) (by omega)).trans (hW.block k hk)⟩

set_option maxRecDepth 100000 in
theorem sJoin {q1 q2 n : Nat} {M1 M2 : Nat → Bool} {w : World} (h1 : Bs q1 n M1 w) (h2 : Bs q2 n M2 w) (hq : q1 ≠ q2) (hn : n ≤ 1048576) :
    Calls Tryz.prog 83 #[.slice (some ⟨q1, 0, none⟩) n n, .slice (some ⟨q2, 0, none⟩) n n] w fun e w' => e = .returned (.slice (some ⟨q1, 0, none⟩) n n) ∧ Bs q1 n (fun k => M1 k || M2 k) w' ∧ But q1 w w' := by
  have bn : (n : Int) ≤ 1048576 := by omega
  have l1 := h1.lt
  have l2 := h2.lt
  go_enter Tryz.func83, Tryz.ntmps83
  go_wp2_with fail
  go_loopw [5] (fun i wr => ∃ k : Nat, k ≤ n ∧ i = .int .i64 k ∧ Bs q1 n (fun j => if j < k then M1 j || M2 j else M1 j) wr ∧ But q1 w wr) (fun i _ => n - (intOf i).toNat)
  case atStart => exact ⟨0, by omega, rfl, bs_eq h1 (fun k _ => by simp), But.refl _ _⟩
  case round =>
    obtain ⟨k, hk, rfl, hB, hb⟩ := hrel
    by_cases hkl : k < n
    · have c1 : wr.cell? ⟨q1, k, none⟩ = some (.bool (M1 k)) := by simpa using bs_cell hB hkl
      have c2 : wr.cell? ⟨q2, k, none⟩ = some (.bool (M2 k)) := bs_cell (h2.kept (hb.2.2.2.2 q2 (Ne.symm hq) l2)) hkl
      have fz := bs_frozen hB k
      have hput : ∀ b, b = (M1 k || M2 k) → Bs q1 n (fun j => if j < k + 1 then M1 j || M2 j else M1 j) (wr.setCell ⟨q1, k, none⟩ (.bool b)) := fun b e => bs_eq (bs_put hB k b) (fun j _ => by
        unfold putB
        by_cases e1 : j = k
        · subst e1; simp [e]
        · by_cases e2 : j < k
          · simp [e1, e2, show j < k + 1 by omega]
          · simp [e1, e2, show ¬ j < k + 1 by omega])
      have hbut : ∀ b, But q1 w (wr.setCell ⟨q1, k, none⟩ (.bool b)) := fun b => hb.set k _
      rcases hm1 : M1 k with _ | _
      · rw [hm1] at c1
        go_wp2_with fail
        go_roundw
        case rel => exact ⟨k + 1, by omega, by go_num, hput _ (by simp [hm1]), hbut _⟩
        case measure => simp [intOf]; omega
      · rw [hm1] at c1
        go_wp2_with fail
        go_roundw
        case rel => exact ⟨k + 1, by omega, by go_num, hput _ (by simp [hm1]), hbut _⟩
        case measure => simp [intOf]; omega
    · obtain rfl : k = n := by omega
      go_wp2_with fail
      go_ret
      exact ⟨rfl, bs_eq hB (fun j hj => by simp [hj]), hb⟩

end Mt
end Go.Proofs.YtgdnlmaacnnfiaaGreatDoor

