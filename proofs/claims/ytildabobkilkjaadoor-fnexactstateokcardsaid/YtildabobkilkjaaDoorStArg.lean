/-
  The laws' sizes and copies of a state: szState, toState.
-/
import Derived.Test.YtildabobkilkjaaDoorStVal
namespace Go.Proofs.YtildabobkilkjaaDoor
open Go.RowKit
namespace St
open Nd

/-- A block of cells. -/
def Blk (T : TypeId) (w : World) (B : Nat) (xs : List Value) : Prop := w.heap[B]? = some (.cells xs.toArray T (0, 0))
theorem Blk.lt {T : TypeId} {w : World} {B : Nat} {xs : List Value} (h : Blk T w B xs) : B < w.heap.size := heap_lt h
theorem Blk.cell {T : TypeId} {w : World} {B : Nat} {xs : List Value} (h : Blk T w B xs) (j : Nat) {x : Value} (hx : xs[j]? = some x) : w.cell? ⟨B, j, none⟩ = some x := by
  unfold Blk at h
  simp only [World.cell?, h]
  simpa using hx
theorem Blk.frozen {T : TypeId} {w : World} {B : Nat} {xs : List Value} (h : Blk T w B xs) (k : Nat) : w.frozen? ⟨B, k, none⟩ = false := by
  unfold Blk at h
  simp [World.frozen?, h]
theorem Blk.set {T : TypeId} {w : World} {B : Nat} {xs : List Value} (h : Blk T w B xs) (j : Nat) (x : Value) : Blk T (w.setCell ⟨B, j, none⟩ x) B (xs.set j x) := by
  unfold Blk at h ⊢
  have : (xs.set j x).toArray = xs.toArray.set! j x := by apply Array.ext'; simp
  rw [this]
  simp [World.setCell, Array.getElem?_modify, h]
theorem Blk.other {T : TypeId} {w : World} {B : Nat} {xs : List Value} (h : Blk T w B xs) {g : Nat} (hg : B ≠ g) (j : Nat) (x : Value) : Blk T (w.setCell ⟨g, j, none⟩ x) B xs := (Below.heap_setCell _ _ _ _ hg).trans h
theorem Blk.alloc {T : TypeId} {w : World} {B : Nat} {xs : List Value} (h : Blk T w B xs) (o : Obj) : Blk T (w.alloc o) B xs := (Below.heap_alloc _ _ _ h.lt).trans h
theorem Blk.below {T : TypeId} {w w' : World} {B : Nat} {xs : List Value} (h : Blk T w B xs) (hb : Below w.heap.size w w') : Blk T w' B xs := (hb.block _ h.lt).trans h
theorem Blk.new (T : TypeId) (w : World) (xs : List Value) : Blk T (w.alloc (.cells xs.toArray T)) w.heap.size xs := heap_new _ _

theorem lSzVal (v : Vl) (left : Int) (h0 : 0 ≤ left) (h1 : left ≤ 1048576) (hs : v.2.2.size ≤ maxLen) (w : World) :
    Calls Tryd.prog 21 #[.agg #[.int .i64 v.1, .int .i64 v.2.1, .string v.2.2], .int .i64 left] w fun e w' => ∃ z, e = .returned (.int .i64 z) ∧ -1 ≤ z ∧ z ≤ left ∧ Below w.heap.size w w' := by
  unfold maxLen at hs
  have hb : ∀ o, Below w.heap.size w (w.alloc o) := fun o => (Below.refl _ w).alloc (Nat.le_refl _) o
  by_cases hl : left - v.2.2.size < 0
  · go_enter Tryd.func21, Tryd.ntmps21
    go_wp2_with fail
    go_ret
    exact ⟨_, rfl, by omega, by omega, hb _⟩
  · go_enter Tryd.func21, Tryd.ntmps21
    go_wp2_with fail
    go_ret
    exact ⟨_, rfl, by omega, by omega, hb _⟩

theorem lSzCell (c : Cl) (left : Int) (h0 : 0 ≤ left) (h1 : left ≤ 1048576) (hs : c.2.1.size ≤ maxLen) (hs2 : c.2.2.2.2.size ≤ maxLen) (w : World) :
    Calls Tryd.prog 22 #[.agg #[.int .i64 c.1, .string c.2.1, .int .i64 c.2.2.1, .int .i64 c.2.2.2.1, .string c.2.2.2.2], .int .i64 left] w fun e w' => ∃ z, e = .returned (.int .i64 z) ∧ -1 ≤ z ∧ z ≤ left ∧ Below w.heap.size w w' := by
  have hb : ∀ o, Below w.heap.size w (w.alloc o) := fun o => (Below.refl _ w).alloc (Nat.le_refl _) o
  have cv := fun l h0 h1 w => lSzVal c.2.2 l h0 h1 hs2 w
  unfold maxLen at hs
  by_cases hl : left - c.2.1.size < 0
  · go_enter Tryd.func22, Tryd.ntmps22
    go_wp2_with fail
    go_ret
    exact ⟨_, rfl, by omega, by omega, hb _⟩
  · have cv := cv (left - c.2.1.size) (by omega) (by omega)
    go_enter Tryd.func22, Tryd.ntmps22
    go_wp2_with (go_at_call 21; refine (cv _).mono ?_; rintro e w2 ⟨z, rfl, z0, z1, hb2⟩)
    · go_ret
      exact ⟨_, rfl, by omega, by omega, (hb _).trans (hb2.mono (hb _).size)⟩
    · go_ret
      exact ⟨_, rfl, by omega, by omega, (hb _).trans (hb2.mono (hb _).size)⟩

set_option maxRecDepth 100000 in
theorem lSzValS {ao : Option Addr} {cap : Nat} {vs : List Vl} {W : World} (hA : RdV W ao vs) (hn : vs.length ≤ maxLen) :
    Calls Tryd.prog 9 #[.slice ao vs.length cap, .int .i64 1048576] W fun e w' => ∃ z, e = .returned (.int .i64 z) ∧ -1 ≤ z ∧ z ≤ 1048576 ∧ (z < 0 ∨ vs.length ≤ 1048576) ∧ Below W.heap.size W w' := by
  unfold maxLen at hn
  have bn : (vs.length : Int) ≤ 9223372036854775807 := by omega
  by_cases hl : (1048576 : Int) - vs.length < 0
  · go_enter Tryd.func9, Tryd.ntmps9
    go_wp2_with fail
    go_ret
    exact ⟨-1, rfl, by omega, by omega, .inl (by omega), Below.refl _ _⟩
  · have hn2 : vs.length ≤ 1048576 := by omega
    have bn2 : (vs.length : Int) ≤ 1048576 := by omega
    go_enter Tryd.func9, Tryd.ntmps9
    go_wp2_with fail
    go_loopw [1, 5] (fun l i wr => ∃ (z : Int) (k : Nat), l = .int .i64 z ∧ 0 ≤ z ∧ z ≤ 1048576 ∧ i = .int .i64 k ∧ k ≤ vs.length ∧ Below W.heap.size W wr) (fun _ i _ => vs.length - (intOf i).toNat)
    case atStart => exact ⟨1048576 - vs.length, 0, rfl, by omega, by omega, rfl, Nat.zero_le _, Below.refl _ _⟩
    case round =>
      obtain ⟨z, k, rfl, z0, z1, rfl, hk, hb⟩ := hrel
      by_cases hkl : k < vs.length
      · obtain ⟨b, o, rfl, hbl, hss, c0, c1, c2⟩ := hA.below hb k vs[k] (List.getElem?_eq_getElem hkl)
        have call := fun w => lSzVal vs[k] z z0 z1 hss w
        generalize vs[k] = v at *
        go_wp2_with (go_at_call 21; refine (call _).mono ?_; rintro e w2 ⟨z2, rfl, a0, a1, hb2⟩)
        · go_ret
          exact ⟨-1, rfl, by omega, by omega, .inl (by omega), hb.trans (hb2.mono hb.size)⟩
        · go_roundw
          case rel => exact ⟨z2, k + 1, rfl, by omega, by omega, by go_num, hkl, hb.trans (hb2.mono hb.size)⟩
          case measure => simp [intOf]; omega
      · obtain rfl : k = vs.length := by omega
        go_wp2_with fail
        go_ret
        exact ⟨z, rfl, by omega, z1, .inr hn2, hb⟩

set_option maxRecDepth 100000 in
theorem lSzCellS {ao : Option Addr} {cap : Nat} {cs : List Cl} {W : World} {left : Int} (hA : RdC W ao cs) (hn : cs.length ≤ maxLen) (h0 : 0 ≤ left) (h1 : left ≤ 1048576) :
    Calls Tryd.prog 10 #[.slice ao cs.length cap, .int .i64 left] W fun e w' => ∃ z, e = .returned (.int .i64 z) ∧ -1 ≤ z ∧ z ≤ 1048576 ∧ (z < 0 ∨ cs.length ≤ 1048576) ∧ Below W.heap.size W w' := by
  unfold maxLen at hn
  have bn : (cs.length : Int) ≤ 9223372036854775807 := by omega
  by_cases hl : left - cs.length < 0
  · go_enter Tryd.func10, Tryd.ntmps10
    go_wp2_with fail
    go_ret
    exact ⟨-1, rfl, by omega, by omega, .inl (by omega), Below.refl _ _⟩
  · have hn2 : cs.length ≤ 1048576 := by omega
    have bn2 : (cs.length : Int) ≤ 1048576 := by omega
    go_enter Tryd.func10, Tryd.ntmps10
    go_wp2_with fail
    go_loopw [1, 5] (fun l i wr => ∃ (z : Int) (k : Nat), l = .int .i64 z ∧ 0 ≤ z ∧ z ≤ 1048576 ∧ i = .int .i64 k ∧ k ≤ cs.length ∧ Below W.heap.size W wr) (fun _ i _ => cs.length - (intOf i).toNat)
    case atStart => exact ⟨left - cs.length, 0, rfl, by omega, by omega, rfl, Nat.zero_le _, Below.refl _ _⟩
    case round =>
      clear h0 h1 hl
      obtain ⟨z, k, rfl, z0, z1, rfl, hk, hb⟩ := hrel
      by_cases hkl : k < cs.length
      · obtain ⟨b, o, rfl, hbl, hss, hss2, c0, c1, c2, c3, c4⟩ := hA.below hb k cs[k] (List.getElem?_eq_getElem hkl)
        have call := fun w => lSzCell cs[k] z z0 z1 hss hss2 w
        generalize cs[k] = v at *
        go_wp2_with (go_at_call 22; refine (call _).mono ?_; rintro e w2 ⟨z2, rfl, a0, a1, hb2⟩)
        · go_ret
          exact ⟨-1, rfl, by omega, by omega, .inl (by omega), hb.trans (hb2.mono hb.size)⟩
        · go_roundw
          case rel => exact ⟨z2, k + 1, rfl, by omega, by omega, by go_num, hkl, hb.trans (hb2.mono hb.size)⟩
          case measure => simp [intOf]; omega
      · obtain rfl : k = cs.length := by omega
        go_wp2_with fail
        go_ret
        exact ⟨z, rfl, by omega, z1, .inr hn2, hb⟩

theorem lSzState {a b : Option Addr} {ca cb : Nat} {vs : List Vl} {cs : List Cl} {nr er : Int} {W : World} (hV : RdV W a vs) (hC : RdC W b cs) (hn : vs.length ≤ maxLen) (hm : cs.length ≤ maxLen) :
    Calls Tryd.prog 4 #[.agg #[.slice a vs.length ca, .slice b cs.length cb, .int .i64 nr, .int .i64 er], .int .i64 1048576] W fun e w' => ∃ z, e = .returned (.int .i64 z) ∧ (z < 0 ∨ vs.length ≤ 1048576 ∧ cs.length ≤ 1048576) ∧ Below W.heap.size W w' := by
  have hb : ∀ o, Below W.heap.size W (W.alloc o) := fun o => (Below.refl _ W).alloc (Nat.le_refl _) o
  have cv := fun o => lSzValS (cap := ca) (hV.below (hb o)) hn
  have cc := fun w' (h : Below W.heap.size W w') l h0 h1 => lSzCellS (cap := cb) (left := l) (hC.below h) hm h0 h1
  have hk := Blk.new 25 W [.slice a vs.length ca, .slice b cs.length cb, .int .i64 nr, .int .i64 er]
  clear hV hC hn hm
  go_enter Tryd.func4, Tryd.ntmps4
  go_wp2_with (first
    | (go_at_call 9; refine (cv _).mono ?_; rintro e w2 ⟨z, rfl, z0, z1, z2, hb2⟩; have hB2 := (hb _).trans (hb2.mono (hb _).size); have r1 := (hk.below hb2).cell 1 rfl)
    | (go_at_call 10; refine (cc _ hB2 _ (by omega) (by omega)).mono ?_; rintro e w3 ⟨y, rfl, y0, y1, y2, hb3⟩; have hB3 := hB2.trans (hb3.mono hB2.size)))
  · go_ret
    exact ⟨_, rfl, .inl (by omega), hB2⟩
  · go_ret
    exact ⟨_, rfl, .inl (by omega), hB3⟩
  · go_ret
    exact ⟨_, rfl, .inr ⟨by omega, by omega⟩, hB3⟩

end St
end Go.Proofs.YtildabobkilkjaaDoor
