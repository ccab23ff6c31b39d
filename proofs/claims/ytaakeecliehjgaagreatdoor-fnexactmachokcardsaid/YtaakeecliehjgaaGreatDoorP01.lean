/-
  Rows of equal length in a block; a state's values and cells.
  Lists of places of a stack: the laws' sizes, copies and comparisons of them.
-/
import Derived.Test.YtaakeecliehjgaaGreatDoorProg
import Derived.WalkKit
import Derived.Laws.MakeOwn
import Derived.Below
import Derived.OwnWalk
import Derived.WalkLawsBesides
import Derived.Deep.RegionWith
import Derived.Deep.CutBlock
import Derived.Deep.CutRange
import Derived.Deep.DeepCutAuto
import Derived.BigQuiet
import Derived.Deep.QuietTactic
import Derived.Deep.LoopGhost
namespace Go.Proofs.YtaakeecliehjgaaGreatDoor
open Go.RowKit
namespace St

theorem fm_len {α : Type} {f : α → List Value} {m : Nat} (hf : ∀ x, (f x).length = m) : ∀ vs : List α, (vs.flatMap f).length = vs.length * m
  | [] => by simp
  | x :: vs => by rw [List.flatMap_cons, List.length_append, hf, fm_len hf vs, List.length_cons, Nat.succ_mul]; omega
theorem fm_get {α : Type} {f : α → List Value} {m : Nat} (hm : 0 < m) (hf : ∀ x, (f x).length = m) : ∀ (vs : List α) (p : Nat), (vs.flatMap f)[p]? = (vs[p / m]?).bind fun x => (f x)[p % m]?
  | [], p => by simp
  | x :: vs, p => by
    rw [List.flatMap_cons]
    by_cases h : p < m
    · rw [List.getElem?_append_left (by rw [hf]; exact h), Nat.div_eq_of_lt h, Nat.mod_eq_of_lt h]
      rfl
    · rw [List.getElem?_append_right (by rw [hf]; omega), hf, fm_get hm hf vs (p - m)]
      have e1 : p / m = (p - m) / m + 1 := Nat.div_eq_sub_div hm (by omega)
      have e2 : p % m = (p - m) % m := Nat.mod_eq_sub_mod (by omega)
      rw [e1, e2]
      rfl

/-- A list put over another from place i on. -/
def setL (l : List Value) (i : Nat) : List Value → List Value
  | [] => l
  | x :: xs => setL (l.set i x) (i + 1) xs
theorem setL_get : ∀ (xs l : List Value) (i p : Nat), (setL l i xs)[p]? = if i ≤ p ∧ p < i + xs.length ∧ p < l.length then xs[p - i]? else l[p]?
  | [], l, i, p => by rw [setL, if_neg (by simp; omega)]
  | x :: xs, l, i, p => by
    rw [setL, setL_get xs, List.length_set, List.length_cons, List.getElem?_set]
    by_cases h : i + 1 ≤ p ∧ p < i + 1 + xs.length ∧ p < l.length
    · rw [if_pos h, if_pos (by omega), show p - i = (p - (i + 1)) + 1 by omega, List.getElem?_cons_succ]
    · rw [if_neg h]
      by_cases hp : i = p
      · subst hp
        by_cases hl : i < l.length
        · rw [if_pos rfl, if_pos hl, if_pos (by omega), Nat.sub_self, List.getElem?_cons_zero]
        · rw [if_pos rfl, if_neg hl, if_neg (by omega), List.getElem?_eq_none (by omega)]
      · rw [if_neg hp, if_neg (by omega)]
theorem fm_set {α : Type} {f : α → List Value} {m : Nat} (hm : 0 < m) (hf : ∀ x, (f x).length = m) {vs : List α} {k : Nat} (hk : k < vs.length) (v : α) : setL (vs.flatMap f) (k * m) (f v) = (vs.set k v).flatMap f := by
  apply List.ext_getElem?
  intro p
  rw [setL_get, fm_get hm hf, fm_get hm hf, hf, fm_len hf, List.getElem?_set]
  have hd := Nat.div_add_mod p m
  have hl := Nat.mod_lt p hm
  by_cases hp : k = p / m
  · subst hp
    have hmul : (p / m + 1) * m ≤ vs.length * m := Nat.mul_le_mul_right m hk
    rw [Nat.succ_mul] at hmul
    rw [Nat.mul_comm] at hd
    rw [if_pos ⟨by omega, by omega, by omega⟩, if_pos rfl, if_pos hk, Option.bind_some]
    congr 1
    omega
  · rw [if_neg hp, if_neg]
    rintro ⟨h1, h2, _⟩
    apply hp
    have := Nat.div_eq_of_lt_le (m := p) (n := m) (k := k) (by omega) (by rw [Nat.succ_mul]; omega)
    exact this.symm

/-- Values put one behind the other into a block. -/
def putL (w : World) (g : Nat) : Nat → List Value → World
  | _, [] => w
  | i, x :: xs => putL (w.setCell ⟨g, i, none⟩ x) g (i + 1) xs
theorem putL_heap {g : Nat} {T : TypeId} : ∀ (xs : List Value) (w : World) (i : Nat) (l : List Value), w.heap[g]? = some (.cells l.toArray T (0, 0)) → (putL w g i xs).heap[g]? = some (.cells (setL l i xs).toArray T (0, 0))
  | [], _, _, _, h => h
  | x :: xs, w, i, l, h => by
    rw [putL, setL]
    refine putL_heap xs _ _ _ ?_
    have : (l.set i x).toArray = l.toArray.set! i x := by apply Array.ext'; simp
    rw [this]
    simp [World.setCell, Array.getElem?_modify, h]
theorem below_putL {B : Nat} {W : World} {g : Nat} (hg : B ≤ g) : ∀ (xs : List Value) (w : World) (i : Nat), Below B W w → Below B W (putL w g i xs)
  | [], _, _, h => h
  | _ :: xs, _, _, h => below_putL hg xs _ _ (h.setCell hg _)
theorem putL_other {g k : Nat} (hk : k ≠ g) : ∀ (xs : List Value) (w : World) (i : Nat), (putL w g i xs).heap[k]? = w.heap[k]?
  | [], _, _ => rfl
  | x :: xs, w, i => by rw [putL, putL_other hk xs, Below.heap_setCell _ _ _ _ hk]
theorem putL_size {g : Nat} : ∀ (xs : List Value) (w : World) (i : Nat), (putL w g i xs).heap.size = w.heap.size
  | [], _, _ => rfl
  | x :: xs, w, i => by rw [putL, putL_size xs]; simp

/-- Rows of a block of their own. -/
def Rows {α : Type} (T : TypeId) (f : α → List Value) (w : World) (g : Nat) (vs : List α) : Prop := w.heap[g]? = some (.cells (vs.flatMap f).toArray T (0, 0))
theorem Rows.lt {α : Type} {T : TypeId} {f : α → List Value} {w : World} {g : Nat} {vs : List α} (h : Rows T f w g vs) : g < w.heap.size := by
  unfold Rows at h
  by_cases h' : g < w.heap.size
  · exact h'
  · rw [Array.getElem?_eq_none (by omega)] at h; cases h
theorem Rows.kept {α : Type} {T : TypeId} {f : α → List Value} {w w' : World} {g : Nat} {vs : List α} (h : Rows T f w g vs) (hw : w'.heap[g]? = w.heap[g]?) : Rows T f w' g vs := hw.trans h
theorem Rows.frozen {α : Type} {T : TypeId} {f : α → List Value} {w : World} {g : Nat} {vs : List α} (h : Rows T f w g vs) (k : Nat) : w.frozen? ⟨g, k, none⟩ = false := by
  unfold Rows at h
  simp [World.frozen?, h]
theorem Rows.cell {α : Type} {T : TypeId} {f : α → List Value} {m : Nat} (hf : ∀ x, (f x).length = m) {w : World} {g : Nat} {vs : List α} (h : Rows T f w g vs) {i j : Nat} {v : α} {x : Value} (hv : vs[i]? = some v) (hx : (f v)[j]? = some x) : w.cell? ⟨g, i * m + j, none⟩ = some x := by
  have hj : j < m := by rw [← hf v]; exact (List.getElem?_eq_some_iff.1 hx).1
  have hd : (i * m + j) / m = i := by rw [Nat.mul_comm, Nat.mul_add_div (by omega), Nat.div_eq_of_lt hj, Nat.add_zero]
  have hr : (i * m + j) % m = j := by rw [Nat.mul_comm, Nat.mul_add_mod, Nat.mod_eq_of_lt hj]
  have hg := fm_get (by omega) hf vs (i * m + j)
  rw [hd, hr, hv, Option.bind_some, hx] at hg
  unfold Rows at h
  simp only [World.cell?, h]
  simpa using hg
theorem Rows.set {α : Type} {T : TypeId} {f : α → List Value} {m : Nat} (hm : 0 < m) (hf : ∀ x, (f x).length = m) {w : World} {g : Nat} {vs : List α} (h : Rows T f w g vs) {k : Nat} (hk : k < vs.length) (v : α) : Rows T f (putL w g (k * m) (f v)) g (vs.set k v) := by
  unfold Rows at h ⊢
  rw [← fm_set hm hf hk]
  exact putL_heap _ _ _ _ h
theorem made_rows {α : Type} {f : α → List Value} {m : Nat} (hm : 0 < m) (hf : ∀ x, (f x).length = m) (z : α) (n : Nat) : madeCells (f z).toArray (n * m) = ((List.replicate n z).flatMap f).toArray := by
  apply Array.ext_getElem?
  intro p
  have e : ∀ l : List Value, l.toArray[p]? = l[p]? := fun l => by simp
  rw [e ((List.replicate n z).flatMap f), fm_get hm hf, List.getElem?_replicate]
  have hl := Nat.mod_lt p hm
  by_cases hp : p < n * m
  · have hd : p / m < n := (Nat.div_lt_iff_lt_mul hm).2 hp
    rw [if_pos hd, Option.bind_some]
    have hz : p % m < (f z).length := by rw [hf]; exact hl
    simp only [madeCells, Array.getElem?_map, Array.getElem?_range, hp, if_true, Option.map_some, List.size_toArray, hf]
    rw [List.getElem?_eq_getElem hz]
    congr 1
    rw [getElem!_pos _ _ (by simpa using hz)]
    rfl
  · have hd : ¬ p / m < n := fun h => hp ((Nat.div_lt_iff_lt_mul hm).1 h)
    rw [if_neg hd]
    simp [madeCells, hp]

abbrev Vl := Int × Int × ByteArray
abbrev Cl := Int × ByteArray × Vl
def encV (v : Vl) : List Value := [.int .i64 v.1, .int .i64 v.2.1, .string v.2.2]
def encC (c : Cl) : List Value := [.int .i64 c.1, .string c.2.1, .int .i64 c.2.2.1, .int .i64 c.2.2.2.1, .string c.2.2.2.2]
def zeroV : Vl := (0, 0, ⟨#[]⟩)
def zeroC : Cl := (0, ⟨#[]⟩, zeroV)
theorem encV_len (v : Vl) : (encV v).length = 3 := rfl
theorem encC_len (c : Cl) : (encC c).length = 5 := rfl

/-- Values that are read. -/
def RdV (w : World) (ao : Option Addr) (vs : List Vl) : Prop := ∀ i v, vs[i]? = some v → ∃ b o, ao = some ⟨b, o, none⟩ ∧ b < w.heap.size ∧ v.2.2.size ≤ maxLen ∧
  w.cell? ⟨b, o + i * 3, none⟩ = some (.int .i64 v.1) ∧ w.cell? ⟨b, o + i * 3 + 1, none⟩ = some (.int .i64 v.2.1) ∧ w.cell? ⟨b, o + i * 3 + 2, none⟩ = some (.string v.2.2)
/-- Cells of a state that are read. -/
def RdC (w : World) (ao : Option Addr) (cs : List Cl) : Prop := ∀ i c, cs[i]? = some c → ∃ b o, ao = some ⟨b, o, none⟩ ∧ b < w.heap.size ∧ c.2.1.size ≤ maxLen ∧ c.2.2.2.2.size ≤ maxLen ∧
  w.cell? ⟨b, o + i * 5, none⟩ = some (.int .i64 c.1) ∧ w.cell? ⟨b, o + i * 5 + 1, none⟩ = some (.string c.2.1) ∧ w.cell? ⟨b, o + i * 5 + 2, none⟩ = some (.int .i64 c.2.2.1) ∧ w.cell? ⟨b, o + i * 5 + 3, none⟩ = some (.int .i64 c.2.2.2.1) ∧ w.cell? ⟨b, o + i * 5 + 4, none⟩ = some (.string c.2.2.2.2)
theorem RdV.below {W w : World} {ao : Option Addr} {vs : List Vl} (h : RdV W ao vs) (hb : Below W.heap.size W w) : RdV w ao vs := by
  intro i v hi
  obtain ⟨b, o, e, hl, hs, c0, c1, c2⟩ := h i v hi
  have hc : ∀ k, w.cell? ⟨b, k, none⟩ = W.cell? ⟨b, k, none⟩ := fun k => hb.cell (p := ⟨b, k, none⟩) hl
  exact ⟨b, o, e, Nat.lt_of_lt_of_le hl hb.size, hs, (hc _).trans c0, (hc _).trans c1, (hc _).trans c2⟩
theorem RdC.below {W w : World} {ao : Option Addr} {cs : List Cl} (h : RdC W ao cs) (hb : Below W.heap.size W w) : RdC w ao cs := by
  intro i c hi
  obtain ⟨b, o, e, hl, hs, hs2, c0, c1, c2, c3, c4⟩ := h i c hi
  have hc : ∀ k, w.cell? ⟨b, k, none⟩ = W.cell? ⟨b, k, none⟩ := fun k => hb.cell (p := ⟨b, k, none⟩) hl
  exact ⟨b, o, e, Nat.lt_of_lt_of_le hl hb.size, hs, hs2, (hc _).trans c0, (hc _).trans c1, (hc _).trans c2, (hc _).trans c3, (hc _).trans c4⟩

end St
end Go.Proofs.YtaakeecliehjgaaGreatDoor
namespace Go.Proofs.YtaakeecliehjgaaGreatDoor
open Go.RowKit
namespace Oc
open St

theorem hold {p : Prop} (h : Hid p) : p := h
theorem heap_lt {w : World} {g : Nat} {o : Obj} (h : w.heap[g]? = some o) : g < w.heap.size := (Array.getElem?_eq_some_iff.1 h).1
theorem heap_new (w : World) (o : Obj) : (w.alloc o).heap[w.heap.size]? = some o := heap_alloc_new w o

/-- A block of cells. -/
def Blk (T : TypeId) (w : World) (B : Nat) (xs : List Value) : Prop := w.heap[B]? = some (.cells xs.toArray T (0, 0))

theorem Blk.lt {T : TypeId} {w : World} {B : Nat} {xs : List Value} (h : Blk T w B xs) : B < w.heap.size := heap_lt h

theorem Blk.cell {T : TypeId} {w : World} {B : Nat} {xs : List Value} (h : Blk T w B xs) (j : Nat) {x : Value} (hx : xs[j]? = some x) : w.cell? ⟨B, j, none⟩ = some x := by
  unfold Blk at h
  simp only [World.cell?, h]
  simpa using hx

theorem Blk.frozen {T : TypeId} {w : World} {B : Nat} {xs : List Value} (h : Blk T w B xs) (k : Nat) : w.frozen? ⟨B, k, none⟩ = false := by
  unfold Blk at h
  simp [World.frozen?, h]

theorem Blk.set {T : TypeId} {w : World} {B : Nat} {xs : List Value} (h : Blk T w B xs) (j : Nat) (x : Value) : Blk T (w.setCell ⟨B, j, none⟩ x) B (xs.set j x) := by
  unfold Blk at h ⊢
  have : (xs.set j x).toArray = xs.toArray.set! j x := by apply Array.ext'; simp
  rw [this]
  simp [World.setCell, Array.getElem?_modify, h]

theorem Blk.other {T : TypeId} {w : World} {B : Nat} {xs : List Value} (h : Blk T w B xs) {g : Nat} (hg : B ≠ g) (j : Nat) (x : Value) : Blk T (w.setCell ⟨g, j, none⟩ x) B xs := (Below.heap_setCell _ _ _ _ hg).trans h

theorem Blk.alloc {T : TypeId} {w : World} {B : Nat} {xs : List Value} (h : Blk T w B xs) (o : Obj) : Blk T (w.alloc o) B xs := (Below.heap_alloc _ _ _ h.lt).trans h

theorem Blk.below {T : TypeId} {w w' : World} {B : Nat} {xs : List Value} (h : Blk T w B xs) (hb : Below w.heap.size w w') : Blk T w' B xs := (hb.block _ h.lt).trans h

theorem Blk.new (T : TypeId) (w : World) (xs : List Value) : Blk T (w.alloc (.cells xs.toArray T)) w.heap.size xs := heap_new _ _

theorem rows_rd {w : World} {g : Nat} {vs : List Vl} (h : St.Rows 80 encV w g vs) (hs : ∀ v ∈ vs, v.2.2.size ≤ maxLen) : RdV w (some ⟨g, 0, none⟩) vs := fun i v hi => by
  refine ⟨g, 0, rfl, h.lt, hs v (List.mem_of_getElem? hi), ?_, ?_, ?_⟩ <;> rw [Nat.zero_add]
  · exact h.cell encV_len hi (j := 0) rfl
  · exact h.cell encV_len hi (j := 1) rfl
  · exact h.cell encV_len hi (j := 2) rfl

theorem lEqOp (v : Vl) (w : World) :
    Calls Tryz.prog 48 #[.agg #[.int .i64 v.1, .int .i64 v.2.1, .string v.2.2], .agg #[.int .i64 v.1, .int .i64 v.2.1, .string v.2.2]] w fun e w' => e = .returned (.bool true) ∧ Below w.heap.size w w' := by
  go_enter Tryz.func48, Tryz.ntmps48
  go_wp2_with fail
  go_ret
  exact ⟨rfl, ((Below.refl _ w).alloc (Nat.le_refl _) _).alloc (by simp) _⟩

set_option maxRecDepth 100000 in
theorem lEqOpS {a1 a2 : Option Addr} {c1 c2 : Nat} {vs : List Vl} {w : World} (h1 : RdV w a1 vs) (h2 : RdV w a2 vs) (hn : vs.length ≤ 3000000) :
    Calls Tryz.prog 27 #[.slice a1 vs.length c1, .slice a2 vs.length c2] w fun e w' => e = .returned (.bool true) ∧ Below w.heap.size w w' := by
  have bn : (vs.length : Int) ≤ 3000000 := by omega
  go_enter Tryz.func27, Tryz.ntmps27
  go_wp2_with fail
  go_loopw [5] (fun i wr => ∃ k : Nat, i = .int .i64 k ∧ k ≤ vs.length ∧ Below w.heap.size w wr) (fun i _ => vs.length - (intOf i).toNat)
  case atStart => exact ⟨0, rfl, Nat.zero_le _, Below.refl _ _⟩
  case round =>
    obtain ⟨k, rfl, hk, hb⟩ := hrel
    by_cases hkl : k < vs.length
    · obtain ⟨b1, o1, rfl, _, _, p0, p1, p2⟩ := h1.below hb k vs[k] (List.getElem?_eq_getElem hkl)
      obtain ⟨b2, o2, rfl, _, _, q0, q1, q2⟩ := h2.below hb k vs[k] (List.getElem?_eq_getElem hkl)
      generalize vs[k] = v at *
      have bk : (k : Int) < vs.length := by omega
      clear h1 h2
      have call := lEqOp v wr.drew
      go_wp2_with fail
      go_region_with (first | (go_at_call 48; refine call.mono ?_; rintro e w2 ⟨rfl, hb2⟩))
      all_goals go_wp2_with fail
      all_goals go_roundw
      all_goals try (simp only [intOf]; omega)
      all_goals exact ⟨k + 1, by go_num, hkl, hb.trans (Below.mono (w := wr) (B := wr.heap.size) ⟨hb2.os, hb2.tape, hb2.output, hb2.size, hb2.block⟩ hb.size)⟩
    · obtain rfl : k = vs.length := by omega
      go_wp2_with fail
      go_ret
      exact ⟨rfl, hb⟩

theorem infoOp : (Tryz.prog.info? 80).map (fun i => (i.zero, i.size, i.bytes)) = some (some (.agg #[.int .i64 0, .int .i64 0, .string ⟨#[]⟩]), 3, 32) := by kernel_rfl

theorem make_ops (n : Nat) (hn : n ≤ 1048576) (w : World) : (Instr.makeSlice 36 (.int .i64 n) (.int .i64 n)).run Tryz.prog w = .ok (.slice (some ⟨w.heap.size, 0, none⟩) n n) (w.alloc (.cells ((List.replicate n zeroV).flatMap encV).toArray 80)) := by
  obtain ⟨i0, hi0, hz0, hz1, hz2⟩ := info_parts infoOp
  have := run_make (P := Tryz.prog) w 36 80 i0 _ Tryz.underlying36 hi0 hz0 .i64 .i64 n n (by omega) (Int.le_refl _) (by rw [hz2]; omega) (by omega)
  rw [this, hz1]
  simp only [Int.toNat_natCast]
  rw [← made_rows (m := 3) (by omega) encV_len]
  rfl

def SmV (v : Vl) : Prop := v.2.2.size ≤ 1048576

theorem lSzOpZ (v : Vl) (left : Int) (h0 : 0 ≤ left) (h1 : left ≤ 1048576) (hs : v.2.2.size ≤ maxLen) (w : World) :
    Calls Tryz.prog 30 #[.agg #[.int .i64 v.1, .int .i64 v.2.1, .string v.2.2], .int .i64 left] w fun e w' => ∃ z, e = .returned (.int .i64 z) ∧ -1 ≤ z ∧ z ≤ left ∧ (z < 0 ∨ SmV v) ∧ Below w.heap.size w w' := by
  unfold maxLen at hs
  have hb : ∀ o, Below w.heap.size w (w.alloc o) := fun o => (Below.refl _ w).alloc (Nat.le_refl _) o
  by_cases hl : left - v.2.2.size < 0
  · go_enter Tryz.func30, Tryz.ntmps30
    go_wp2_with fail
    go_ret
    exact ⟨_, rfl, by omega, by omega, .inl (by omega), hb _⟩
  · have hx : Hid (SmV v) := by show SmV v; unfold SmV; omega
    go_enter Tryz.func30, Tryz.ntmps30
    go_wp2_with fail
    go_ret
    exact ⟨_, rfl, by omega, by omega, .inr hx.out, hb _⟩

set_option maxRecDepth 100000 in
theorem lSzOpSZ {ao : Option Addr} {cap : Nat} {vs : List Vl} {W : World} (hA : RdV W ao vs) (hn : vs.length ≤ maxLen) :
    Calls Tryz.prog 13 #[.slice ao vs.length cap, .int .i64 1048576] W fun e w' => ∃ z, e = .returned (.int .i64 z) ∧ -1 ≤ z ∧ z ≤ 1048576 ∧ (z < 0 ∨ (vs.length ≤ 1048576 ∧ ∀ v ∈ vs, SmV v)) ∧ Below W.heap.size W w' := by
  unfold maxLen at hn
  have bn : (vs.length : Int) ≤ 9223372036854775807 := by omega
  by_cases hl : (1048576 : Int) - vs.length < 0
  · go_enter Tryz.func13, Tryz.ntmps13
    go_wp2_with fail
    go_ret
    exact ⟨-1, rfl, by omega, by omega, .inl (by omega), Below.refl _ _⟩
  · have hn2 : vs.length ≤ 1048576 := by omega
    have bn2 : (vs.length : Int) ≤ 1048576 := by omega
    go_enter Tryz.func13, Tryz.ntmps13
    go_wp2_with fail
    go_loopw [1, 5] (fun l i wr => ∃ (z : Int) (k : Nat), l = .int .i64 z ∧ 0 ≤ z ∧ z ≤ 1048576 ∧ i = .int .i64 k ∧ k ≤ vs.length ∧ Hid (∀ v ∈ vs.take k, SmV v) ∧ Below W.heap.size W wr) (fun _ i _ => vs.length - (intOf i).toNat)
    case atStart => exact ⟨1048576 - vs.length, 0, rfl, by omega, by omega, rfl, Nat.zero_le _, (show ∀ v ∈ vs.take 0, SmV v by simp), Below.refl _ _⟩
    case round =>
      obtain ⟨z, k, rfl, z0, z1, rfl, hk, hS, hb⟩ := hrel
      by_cases hkl : k < vs.length
      · have hvk : vs[k]? = some vs[k] := List.getElem?_eq_getElem hkl
        obtain ⟨b, o, rfl, hbl, hss, c0, c1, c2⟩ := hA.below hb k vs[k] hvk
        have call := fun w => lSzOpZ vs[k] z z0 z1 hss w
        have HN : Hid (SmV vs[k] → ∀ v ∈ vs.take (k + 1), SmV v) := fun h v hv => by
          rw [List.take_add_one, hvk, List.mem_append] at hv
          rcases hv with hv | hv
          · exact hS.out v hv
          · simp at hv; rw [hv]; exact h
        generalize vs[k] = v at *
        clear hvk
        go_wp2_with (go_at_call 30; refine (call _).mono ?_; rintro e w2 ⟨z2, rfl, a0, a1, a2, hb2⟩)
        · go_ret
          exact ⟨-1, rfl, by omega, by omega, .inl (by omega), hb.trans (hb2.mono hb.size)⟩
        · go_roundw
          case rel => exact ⟨z2, k + 1, rfl, by omega, by omega, by go_num, hkl, HN.out (a2.resolve_left (by omega)), hb.trans (hb2.mono hb.size)⟩
          case measure => simp [intOf]; omega
      · obtain rfl : k = vs.length := by omega
        have hS' : Hid (∀ v ∈ vs, SmV v) := by have := hS.out; rw [List.take_length] at this; exact this
        clear hS
        go_wp2_with fail
        go_ret
        exact ⟨z, rfl, by omega, z1, .inr ⟨hn2, hS'.out⟩, hb⟩

theorem ret_op {fn : Func} {K : Nat} {R : Ending → World → Prop} {a : Act} {W : World} {B : Nat} {v0 v1 v2 : Value} (hf : fn.results = #[.cell K 80]) (ht : a.tmps[K]? = some (.pointer (some ⟨B, 0, none⟩))) (hd : a.defers = [])
    (hV : Blk 80 W B [v0, v1, v2]) (hR : R (.returned (.agg #[v0, v1, v2])) W) : bodyPost Tryz.prog fn R .ret a W := by
  have x0 := hV.cell 0 rfl
  have x1 := hV.cell 1 rfl
  have x2 := hV.cell 2 rfl
  refine bodyPost_ret ?_ hd hR
  simp [results, hf, ht, go_sem, x0, x1, x2]

theorem lToOp (v : Vl) (w : World) :
    Calls Tryz.prog 38 #[.agg #[.int .i64 v.1, .int .i64 v.2.1, .string v.2.2]] w fun e w' => e = .returned (.agg #[.int .i64 v.1, .int .i64 v.2.1, .string v.2.2]) ∧ Below w.heap.size w w' := by
  go_enter Tryz.func38, Tryz.ntmps38
  go_wp2_with fail
  refine ret_op Tryz.results38 rfl rfl ((Below.heap_alloc _ _ _ (by simp)).trans ?_) ⟨rfl, ?_⟩
  · have := heap_new (w.alloc (.cells #[.int .i64 v.1, .int .i64 v.2.1, .string v.2.2] 68)) (.cells #[.int .i64 v.1, .int .i64 v.2.1, .string v.2.2] 80)
    rwa [World.size_alloc] at this
  · exact (((Below.refl _ w).alloc (Nat.le_refl _) _).alloc (by simp) _).alloc (by simp; omega) _

set_option maxRecDepth 100000 in
theorem lToOpS {ao : Option Addr} {cap : Nat} {vs : List Vl} {w : World} (hA : RdV w ao vs) (hn : vs.length ≤ 1048576) :
    Calls Tryz.prog 20 #[.slice ao vs.length cap] w fun e w' => ∃ g, e = .returned (.slice (some ⟨g, 0, none⟩) vs.length vs.length) ∧ w.heap.size ≤ g ∧ St.Rows 80 encV w' g vs ∧ Below w.heap.size w w' := by
  have hmk := make_ops vs.length hn
  have bn : (vs.length : Int) ≤ 1048576 := by omega
  go_enter Tryz.func20, Tryz.ntmps20
  go_wp2_with fail
  go_loopw [4] (fun i wr => ∃ (k : Nat) (L : List Vl), i = .int .i64 k ∧ k ≤ vs.length ∧ L.length = vs.length ∧ (∀ j, j < k → L[j]? = vs[j]?) ∧ St.Rows 80 encV wr w.heap.size L ∧ Below w.heap.size w wr) (fun i _ => vs.length - (intOf i).toNat)
  case atStart => exact ⟨0, List.replicate vs.length zeroV, rfl, Nat.zero_le _, by simp, fun j hj => by omega, heap_new _ _, (Below.refl _ w).alloc (Nat.le_refl _) _⟩
  case round =>
    obtain ⟨k, L, rfl, hk, hL, hM, hR, hb⟩ := hrel
    have hgl := hR.lt
    by_cases hkl : k < vs.length
    · have hvk : vs[k]? = some vs[k] := List.getElem?_eq_getElem hkl
      obtain ⟨b, o, rfl, hbl, hss, c0, c1, c2⟩ := hA.below hb k vs[k] hvk
      generalize vs[k] = v at *
      obtain ⟨u, hu⟩ : ∃ u, L[k]? = some u := ⟨_, List.getElem?_eq_getElem (by omega)⟩
      obtain ⟨u0, u1, u2⟩ := u
      clear hA hmk
      go_wp2_with (go_at_call 38; refine (lToOp v _).mono ?_; rintro e w2 ⟨rfl, hb2⟩; have hR2 := hR.kept (w' := w2) (hb2.block _ hgl); have p0 : w2.cell? ⟨w.heap.size, k * 3, none⟩ = some (.int .i64 u0) := hR2.cell encV_len hu (j := 0) rfl; have p1 : w2.cell? ⟨w.heap.size, k * 3 + 1, none⟩ = some (.int .i64 u1) := hR2.cell encV_len hu (j := 1) rfl; have p2 : w2.cell? ⟨w.heap.size, k * 3 + 2, none⟩ = some (.string u2) := hR2.cell encV_len hu (j := 2) rfl; have fz := hR2.frozen)
      go_roundw
      case rel =>
        refine ⟨k + 1, L.set k v, by go_num, hkl, by simpa using hL, fun j hj => ?_, hR2.set (by omega) encV_len (by omega) v, below_putL (Nat.le_refl _) (encV v) _ _ (hb.trans (hb2.mono hb.size))⟩
        by_cases hjk : j = k
        · subst hjk
          rw [List.getElem?_set_self (by omega), hvk]
        · rw [List.getElem?_set_ne (by omega)]
          exact hM j (by omega)
      case measure => simp [intOf]; omega
    · obtain rfl : k = vs.length := by omega
      have hLe : L = vs := by
        apply List.ext_getElem?
        intro j
        by_cases hj : j < vs.length
        · exact hM j hj
        · rw [List.getElem?_eq_none (by omega), List.getElem?_eq_none (by omega)]
      subst hLe
      have HR : Hid (St.Rows 80 encV wr w.heap.size L) := hR
      clear hR hM hmk hA
      go_wp2_with fail
      go_ret
      exact ⟨_, rfl, Nat.le_refl _, HR.out, hb⟩

theorem smv_max {vs : List Vl} (h : ∀ v ∈ vs, SmV v) : ∀ v ∈ vs, v.2.2.size ≤ maxLen := fun v hv => by
  have := h v hv
  unfold SmV at this
  unfold maxLen
  omega

end Oc
end Go.Proofs.YtaakeecliehjgaaGreatDoor
