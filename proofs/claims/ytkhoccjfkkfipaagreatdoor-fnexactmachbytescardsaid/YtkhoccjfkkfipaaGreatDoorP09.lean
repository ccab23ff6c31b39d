/-
  The laws' comparisons of values and states; StateNew of both sides.
  The laws' sizes and copies of a state: szState, toState.
-/
import Derived.Test.YtkhoccjfkkfipaaGreatDoorP01
import Derived.Test.YtkhoccjfkkfipaaGreatDoorP08
namespace Go.Proofs.YtkhoccjfkkfipaaGreatDoor
open Go.RowKit
namespace St
open Nd Mk

theorem rows_rd {w : World} {g : Nat} {vs : List Vl} (h : Rows 67 encV w g vs) (hs : ∀ v ∈ vs, v.2.2.size ≤ maxLen) : RdV w (some ⟨g, 0, none⟩) vs := fun i v hi => by
  refine ⟨g, 0, rfl, h.lt, hs v (List.mem_of_getElem? hi), ?_, ?_, ?_⟩ <;> rw [Nat.zero_add]
  · exact h.cell encV_len hi (j := 0) rfl
  · exact h.cell encV_len hi (j := 1) rfl
  · exact h.cell encV_len hi (j := 2) rfl

theorem lEqVal (v : Vl) (w : World) :
    Calls Tryz.prog 81 #[.agg #[.int .i64 v.1, .int .i64 v.2.1, .string v.2.2], .agg #[.int .i64 v.1, .int .i64 v.2.1, .string v.2.2]] w fun e w' => e = .returned (.bool true) ∧ Below w.heap.size w w' := by
  go_enter Tryz.func81, Tryz.ntmps81
  go_wp2_with fail
  go_ret
  exact ⟨rfl, ((Below.refl _ w).alloc (Nat.le_refl _) _).alloc (by simp) _⟩

set_option maxRecDepth 100000 in
theorem lEqValS {a1 a2 : Option Addr} {c1 c2 : Nat} {vs : List Vl} {w : World} (h1 : RdV w a1 vs) (h2 : RdV w a2 vs) (hn : vs.length ≤ 3000000) :
    Calls Tryz.prog 59 #[.slice a1 vs.length c1, .slice a2 vs.length c2] w fun e w' => e = .returned (.bool true) ∧ Below w.heap.size w w' := by
  have bn : (vs.length : Int) ≤ 3000000 := by omega
  go_enter Tryz.func59, Tryz.ntmps59
  go_wp2_with fail
  go_loopw [5] (fun i wr => ∃ k : Nat, i = .int .i64 k ∧ k ≤ vs.length ∧ Below w.heap.size w wr) (fun i _ => vs.length - (intOf i).toNat)
  case atStart => exact ⟨0, rfl, Nat.zero_le _, Below.refl _ _⟩
  case round =>
    obtain ⟨k, rfl, hk, hb⟩ := hrel
    by_cases hkl : k < vs.length
    · obtain ⟨b1, o1, rfl, _, _, p0, p1, p2⟩ := h1.below hb k vs[k] (List.getElem?_eq_getElem hkl)
      obtain ⟨b2, o2, rfl, _, _, q0, q1, q2⟩ := h2.below hb k vs[k] (List.getElem?_eq_getElem hkl)
      generalize vs[k] = v at *
      have bk : (k : Int) < vs.length := by omega
      clear h1 h2
      have call := lEqVal v wr.drew
      go_wp2_with fail
      go_region_with (first | (go_at_call 81; refine call.mono ?_; rintro e w2 ⟨rfl, hb2⟩))
      all_goals go_wp2_with fail
      all_goals go_roundw
      all_goals try (simp only [intOf]; omega)
      all_goals exact ⟨k + 1, by go_num, hkl, hb.trans (Below.mono (w := wr) (B := wr.heap.size) ⟨hb2.os, hb2.tape, hb2.output, hb2.size, hb2.block⟩ hb.size)⟩
    · obtain rfl : k = vs.length := by omega
      go_wp2_with fail
      go_ret
      exact ⟨rfl, hb⟩

theorem lEqCell (c : Cl) (w : World) :
    Calls Tryz.prog 82 #[.agg #[.int .i64 c.1, .string c.2.1, .int .i64 c.2.2.1, .int .i64 c.2.2.2.1, .string c.2.2.2.2], .agg #[.int .i64 c.1, .string c.2.1, .int .i64 c.2.2.1, .int .i64 c.2.2.2.1, .string c.2.2.2.2]] w fun e w' => e = .returned (.bool true) ∧ Below w.heap.size w w' := by
  have cv := fun w => lEqVal c.2.2 w
  have hb : ∀ o o', Below w.heap.size w ((w.alloc o).alloc o') := fun o o' => ((Below.refl _ w).alloc (Nat.le_refl _) _).alloc (by simp) _
  go_enter Tryz.func82, Tryz.ntmps82
  go_wp2_with (go_at_call 81; refine (cv _).mono ?_; rintro e w2 ⟨rfl, hb2⟩)
  go_ret
  exact ⟨rfl, (hb _ _).trans (hb2.mono (hb _ _).size)⟩

set_option maxRecDepth 100000 in
theorem lEqCellS {a1 a2 : Option Addr} {c1 c2 : Nat} {cs : List Cl} {w : World} (h1 : RdC w a1 cs) (h2 : RdC w a2 cs) (hn : cs.length ≤ 3000000) :
    Calls Tryz.prog 60 #[.slice a1 cs.length c1, .slice a2 cs.length c2] w fun e w' => e = .returned (.bool true) ∧ Below w.heap.size w w' := by
  have bn : (cs.length : Int) ≤ 3000000 := by omega
  go_enter Tryz.func60, Tryz.ntmps60
  go_wp2_with fail
  go_loopw [5] (fun i wr => ∃ k : Nat, i = .int .i64 k ∧ k ≤ cs.length ∧ Below w.heap.size w wr) (fun i _ => cs.length - (intOf i).toNat)
  case atStart => exact ⟨0, rfl, Nat.zero_le _, Below.refl _ _⟩
  case round =>
    obtain ⟨k, rfl, hk, hb⟩ := hrel
    by_cases hkl : k < cs.length
    · obtain ⟨b1, o1, rfl, _, _, _, p0, p1, p2, p3, p4⟩ := h1.below hb k cs[k] (List.getElem?_eq_getElem hkl)
      obtain ⟨b2, o2, rfl, _, _, _, q0, q1, q2, q3, q4⟩ := h2.below hb k cs[k] (List.getElem?_eq_getElem hkl)
      generalize cs[k] = v at *
      have bk : (k : Int) < cs.length := by omega
      clear h1 h2
      have call := lEqCell v wr.drew
      go_wp2_with fail
      go_region_with (first | (go_at_call 82; refine call.mono ?_; rintro e w2 ⟨rfl, hb2⟩))
      all_goals go_wp2_with fail
      all_goals go_roundw
      all_goals try (simp only [intOf]; omega)
      all_goals exact ⟨k + 1, by go_num, hkl, hb.trans (Below.mono (w := wr) (B := wr.heap.size) ⟨hb2.os, hb2.tape, hb2.output, hb2.size, hb2.block⟩ hb.size)⟩
    · obtain rfl : k = cs.length := by omega
      go_wp2_with fail
      go_ret
      exact ⟨rfl, hb⟩

theorem st_cells {w w' : World} {p0 p1 p2 p3 q0 q1 q2 q3 : Value} (hb : Below ((w.alloc (.cells #[p0, p1, p2, p3] 44)).alloc (.cells #[q0, q1, q2, q3] 44)).heap.size ((w.alloc (.cells #[p0, p1, p2, p3] 44)).alloc (.cells #[q0, q1, q2, q3] 44)) w') :
    w'.cell? ⟨w.heap.size, 0, none⟩ = some p0 ∧ w'.cell? ⟨w.heap.size, 1, none⟩ = some p1 ∧ w'.cell? ⟨w.heap.size, 2, none⟩ = some p2 ∧ w'.cell? ⟨w.heap.size, 3, none⟩ = some p3 ∧ w'.cell? ⟨w.heap.size + 1, 0, none⟩ = some q0 ∧ w'.cell? ⟨w.heap.size + 1, 1, none⟩ = some q1 ∧ w'.cell? ⟨w.heap.size + 1, 2, none⟩ = some q2 ∧ w'.cell? ⟨w.heap.size + 1, 3, none⟩ = some q3 := by
  have hW1 := heap_new w (.cells #[p0, p1, p2, p3] 44)
  have hW2 := heap_new (w.alloc (.cells #[p0, p1, p2, p3] 44)) (.cells #[q0, q1, q2, q3] 44)
  rw [World.size_alloc] at hW2
  have h1 : w'.heap[w.heap.size]? = some (.cells #[p0, p1, p2, p3] 44) := (hb.block _ (by simp; omega)).trans ((Below.heap_alloc _ _ _ (by simp)).trans hW1)
  have h2 : w'.heap[w.heap.size + 1]? = some (.cells #[q0, q1, q2, q3] 44) := (hb.block _ (by simp)).trans hW2
  simp [World.cell?, h1, h2]

theorem lEqState {a1 a2 b1 b2 : Option Addr} {c1 c2 d1 d2 : Nat} {vs : List Vl} {cs : List Cl} {nr er : Int} {w : World} (h1 : RdV w a1 vs) (h2 : RdV w a2 vs) (g1 : RdC w b1 cs) (g2 : RdC w b2 cs) (hn : vs.length ≤ 3000000) (hm : cs.length ≤ 3000000) :
    Calls Tryz.prog 36 #[.agg #[.slice a1 vs.length c1, .slice b1 cs.length d1, .int .i64 nr, .int .i64 er], .agg #[.slice a2 vs.length c2, .slice b2 cs.length d2, .int .i64 nr, .int .i64 er]] w fun e w' => e = .returned (.bool true) ∧ Below w.heap.size w w' := by
  have cv := fun w' (h : Below w.heap.size w w') => lEqValS (c1 := c1) (c2 := c2) (h1.below h) (h2.below h) hn
  have cc := fun w' (h : Below w.heap.size w w') => lEqCellS (c1 := d1) (c2 := d2) (g1.below h) (g2.below h) hm
  have hb : ∀ o o', Below w.heap.size w ((w.alloc o).alloc o') := fun o o' => ((Below.refl _ w).alloc (Nat.le_refl _) _).alloc (by simp) _
  clear h1 h2 g1 g2 hn hm
  go_enter Tryz.func36, Tryz.ntmps36
  go_wp2_with (first
    | (go_at_call 59; refine (cv _ (hb _ _)).mono ?_; rintro e w2 ⟨rfl, hb2⟩; have hB2 := (hb _ _).trans (hb2.mono (hb _ _).size); obtain ⟨r0, r1, r2, r3, s0, s1, s2, s3⟩ := st_cells hb2)
    | (go_at_call 60; refine (cc _ hB2).mono ?_; rintro e w3 ⟨rfl, hb3⟩; have hB3 := hB2.trans (hb3.mono hB2.size); clear r0 r1 r2 r3 s0 s1 s2 s3; obtain ⟨r0, r1, r2, r3, s0, s1, s2, s3⟩ := st_cells (hb2.trans (hb3.mono hb2.size))))
  go_ret
  exact ⟨rfl, hB3⟩

theorem infoVal : (Tryz.prog.info? 67).map (fun i => (i.zero, i.size, i.bytes)) = some (some (.agg #[.int .i64 0, .int .i64 0, .string ⟨#[]⟩]), 3, 32) := by kernel_rfl
theorem make_vals (n : Nat) (hn : n ≤ 1048576) (w : World) : (Instr.makeSlice 41 (.int .i64 n) (.int .i64 n)).run Tryz.prog w = .ok (.slice (some ⟨w.heap.size, 0, none⟩) n n) (w.alloc (.cells ((List.replicate n zeroV).flatMap encV).toArray 67)) := by
  obtain ⟨i0, hi0, hz0, hz1, hz2⟩ := info_parts infoVal
  have := run_make (P := Tryz.prog) w 41 67 i0 _ Tryz.underlying41 hi0 hz0 .i64 .i64 n n (by omega) (Int.le_refl _) (by rw [hz2]; omega) (by omega)
  rw [this, hz1]
  simp only [Int.toNat_natCast]
  rw [← made_rows (m := 3) (by omega) encV_len]
  rfl

/-- How many names there are. -/
def nn (z : Int) : Nat := if z < 0 then 0 else if 8 < z then 8 else z.toNat
theorem nn_le (z : Int) : nn z ≤ 8 := by unfold nn; split <;> (try split) <;> omega


theorem ret_state {fn : Func} {K : Nat} {R : Ending → World → Prop} {a : Act} {W : World} {B : Nat} {v0 v1 v2 v3 : Value} (hf : fn.results = #[.cell K 44]) (ht : a.tmps[K]? = some (.pointer (some ⟨B, 0, none⟩))) (hd : a.defers = [])
    (hV : W.heap[B]? = some (.cells #[v0, v1, v2, v3] 44 (0, 0))) (hR : R (.returned (.agg #[v0, v1, v2, v3])) W) : bodyPost Tryz.prog fn R .ret a W := by
  have x0 : W.cell? ⟨B, 0, none⟩ = some v0 := by simp [World.cell?, hV]
  have x1 : W.cell? ⟨B, 1, none⟩ = some v1 := by simp [World.cell?, hV]
  have x2 : W.cell? ⟨B, 2, none⟩ = some v2 := by simp [World.cell?, hV]
  have x3 : W.cell? ⟨B, 3, none⟩ = some v3 := by simp [World.cell?, hV]
  refine bodyPost_ret ?_ hd hR
  simp [results, hf, ht, go_sem, x0, x1, x2, x3]
theorem new_two {w : World} {o1 o2 : Obj} : ((w.alloc o1).alloc o2).heap[w.heap.size]? = some o1 ∧ ((w.alloc o1).alloc o2).heap[w.heap.size + 1]? = some o2 := by
  refine ⟨(Below.heap_alloc _ _ _ (by simp)).trans (heap_new w o1), ?_⟩
  have := heap_new (w.alloc o1) o2
  rwa [World.size_alloc] at this

end St
end Go.Proofs.YtkhoccjfkkfipaaGreatDoor
namespace Go.Proofs.YtkhoccjfkkfipaaGreatDoor
open Go.RowKit
namespace St
open Nd

/-- A block of cells. -/
def Blk (T : TypeId) (w : World) (B : Nat) (xs : List Value) : Prop := w.heap[B]? = some (.cells xs.toArray T (0, 0))
theorem Blk.lt {T : TypeId} {w : World} {B : Nat} {xs : List Value} (h : Blk T w B xs) : B < w.heap.size := heap_lt h
theorem Blk.cell {T : TypeId} {w : World} {B : Nat} {xs : List Value} (h : Blk T w B xs) (j : Nat) {x : Value} (hx : xs[j]? = some x) : w.cell? ⟨B, j, none⟩ = some x := by
  unfold Blk at h
  simp only [World.cell?, h]
  simpa using hx
theorem Blk.frozen {T : TypeId} {w : World} {B : Nat} {xs : List Value} (h : Blk T w B xs) (k : Nat) : w.frozen? ⟨B, k, none⟩ = false := by
  unfold Blk at h
  simp [World.frozen?, h]
theorem Blk.set {T : TypeId} {w : World} {B : Nat} {xs : List Value} (h : Blk T w B xs) (j : Nat) (x : Value) : Blk T (w.setCell ⟨B, j, none⟩ x) B (xs.set j x) := by
  unfold Blk at h ⊢
  have : (xs.set j x).toArray = xs.toArray.set! j x := by apply Array.ext'; simp
  rw [this]
  simp [World.setCell, Array.getElem?_modify, h]
theorem Blk.other {T : TypeId} {w : World} {B : Nat} {xs : List Value} (h : Blk T w B xs) {g : Nat} (hg : B ≠ g) (j : Nat) (x : Value) : Blk T (w.setCell ⟨g, j, none⟩ x) B xs := (Below.heap_setCell _ _ _ _ hg).trans h
theorem Blk.alloc {T : TypeId} {w : World} {B : Nat} {xs : List Value} (h : Blk T w B xs) (o : Obj) : Blk T (w.alloc o) B xs := (Below.heap_alloc _ _ _ h.lt).trans h
theorem Blk.below {T : TypeId} {w w' : World} {B : Nat} {xs : List Value} (h : Blk T w B xs) (hb : Below w.heap.size w w') : Blk T w' B xs := (hb.block _ h.lt).trans h
theorem Blk.new (T : TypeId) (w : World) (xs : List Value) : Blk T (w.alloc (.cells xs.toArray T)) w.heap.size xs := heap_new _ _

theorem lSzVal (v : Vl) (left : Int) (h0 : 0 ≤ left) (h1 : left ≤ 1048576) (hs : v.2.2.size ≤ maxLen) (w : World) :
    Calls Tryz.prog 64 #[.agg #[.int .i64 v.1, .int .i64 v.2.1, .string v.2.2], .int .i64 left] w fun e w' => ∃ z, e = .returned (.int .i64 z) ∧ -1 ≤ z ∧ z ≤ left ∧ Below w.heap.size w w' := by
  unfold maxLen at hs
  have hb : ∀ o, Below w.heap.size w (w.alloc o) := fun o => (Below.refl _ w).alloc (Nat.le_refl _) o
  by_cases hl : left - v.2.2.size < 0
  · go_enter Tryz.func64, Tryz.ntmps64
    go_wp2_with fail
    go_ret
    exact ⟨_, rfl, by omega, by omega, hb _⟩
  · go_enter Tryz.func64, Tryz.ntmps64
    go_wp2_with fail
    go_ret
    exact ⟨_, rfl, by omega, by omega, hb _⟩

theorem lSzCell (c : Cl) (left : Int) (h0 : 0 ≤ left) (h1 : left ≤ 1048576) (hs : c.2.1.size ≤ maxLen) (hs2 : c.2.2.2.2.size ≤ maxLen) (w : World) :
    Calls Tryz.prog 65 #[.agg #[.int .i64 c.1, .string c.2.1, .int .i64 c.2.2.1, .int .i64 c.2.2.2.1, .string c.2.2.2.2], .int .i64 left] w fun e w' => ∃ z, e = .returned (.int .i64 z) ∧ -1 ≤ z ∧ z ≤ left ∧ Below w.heap.size w w' := by
  have hb : ∀ o, Below w.heap.size w (w.alloc o) := fun o => (Below.refl _ w).alloc (Nat.le_refl _) o
  have cv := fun l h0 h1 w => lSzVal c.2.2 l h0 h1 hs2 w
  unfold maxLen at hs
  by_cases hl : left - c.2.1.size < 0
  · go_enter Tryz.func65, Tryz.ntmps65
    go_wp2_with fail
    go_ret
    exact ⟨_, rfl, by omega, by omega, hb _⟩
  · have cv := cv (left - c.2.1.size) (by omega) (by omega)
    go_enter Tryz.func65, Tryz.ntmps65
    go_wp2_with (go_at_call 64; refine (cv _).mono ?_; rintro e w2 ⟨z, rfl, z0, z1, hb2⟩)
    · go_ret
      exact ⟨_, rfl, by omega, by omega, (hb _).trans (hb2.mono (hb _).size)⟩
    · go_ret
      exact ⟨_, rfl, by omega, by omega, (hb _).trans (hb2.mono (hb _).size)⟩

set_option maxRecDepth 100000 in
theorem lSzValS {ao : Option Addr} {cap : Nat} {vs : List Vl} {W : World} (hA : RdV W ao vs) (hn : vs.length ≤ maxLen) :
    Calls Tryz.prog 43 #[.slice ao vs.length cap, .int .i64 1048576] W fun e w' => ∃ z, e = .returned (.int .i64 z) ∧ -1 ≤ z ∧ z ≤ 1048576 ∧ (z < 0 ∨ vs.length ≤ 1048576) ∧ Below W.heap.size W w' := by
  unfold maxLen at hn
  have bn : (vs.length : Int) ≤ 9223372036854775807 := by omega
  by_cases hl : (1048576 : Int) - vs.length < 0
  · go_enter Tryz.func43, Tryz.ntmps43
    go_wp2_with fail
    go_ret
    exact ⟨-1, rfl, by omega, by omega, .inl (by omega), Below.refl _ _⟩
  · have hn2 : vs.length ≤ 1048576 := by omega
    have bn2 : (vs.length : Int) ≤ 1048576 := by omega
    go_enter Tryz.func43, Tryz.ntmps43
    go_wp2_with fail
    go_loopw [1, 5] (fun l i wr => ∃ (z : Int) (k : Nat), l = .int .i64 z ∧ 0 ≤ z ∧ z ≤ 1048576 ∧ i = .int .i64 k ∧ k ≤ vs.length ∧ Below W.heap.size W wr) (fun _ i _ => vs.length - (intOf i).toNat)
    case atStart => exact ⟨1048576 - vs.length, 0, rfl, by omega, by omega, rfl, Nat.zero_le _, Below.refl _ _⟩
    case round =>
      obtain ⟨z, k, rfl, z0, z1, rfl, hk, hb⟩ := hrel
      by_cases hkl : k < vs.length
      · obtain ⟨b, o, rfl, hbl, hss, c0, c1, c2⟩ := hA.below hb k vs[k] (List.getElem?_eq_getElem hkl)
        have call := fun w => lSzVal vs[k] z z0 z1 hss w
        generalize vs[k] = v at *
        go_wp2_with (go_at_call 64; refine (call _).mono ?_; rintro e w2 ⟨z2, rfl, a0, a1, hb2⟩)
        · go_ret
          exact ⟨-1, rfl, by omega, by omega, .inl (by omega), hb.trans (hb2.mono hb.size)⟩
        · go_roundw
          case rel => exact ⟨z2, k + 1, rfl, by omega, by omega, by go_num, hkl, hb.trans (hb2.mono hb.size)⟩
          case measure => simp [intOf]; omega
      · obtain rfl : k = vs.length := by omega
        go_wp2_with fail
        go_ret
        exact ⟨z, rfl, by omega, z1, .inr hn2, hb⟩

set_option maxRecDepth 100000 in
theorem lSzCellS {ao : Option Addr} {cap : Nat} {cs : List Cl} {W : World} {left : Int} (hA : RdC W ao cs) (hn : cs.length ≤ maxLen) (h0 : 0 ≤ left) (h1 : left ≤ 1048576) :
    Calls Tryz.prog 44 #[.slice ao cs.length cap, .int .i64 left] W fun e w' => ∃ z, e = .returned (.int .i64 z) ∧ -1 ≤ z ∧ z ≤ 1048576 ∧ (z < 0 ∨ cs.length ≤ 1048576) ∧ Below W.heap.size W w' := by
  unfold maxLen at hn
  have bn : (cs.length : Int) ≤ 9223372036854775807 := by omega
  by_cases hl : left - cs.length < 0
  · go_enter Tryz.func44, Tryz.ntmps44
    go_wp2_with fail
    go_ret
    exact ⟨-1, rfl, by omega, by omega, .inl (by omega), Below.refl _ _⟩
  · have hn2 : cs.length ≤ 1048576 := by omega
    have bn2 : (cs.length : Int) ≤ 1048576 := by omega
    go_enter Tryz.func44, Tryz.ntmps44
    go_wp2_with fail
    go_loopw [1, 5] (fun l i wr => ∃ (z : Int) (k : Nat), l = .int .i64 z ∧ 0 ≤ z ∧ z ≤ 1048576 ∧ i = .int .i64 k ∧ k ≤ cs.length ∧ Below W.heap.size W wr) (fun _ i _ => cs.length - (intOf i).toNat)
    case atStart => exact ⟨left - cs.length, 0, rfl, by omega, by omega, rfl, Nat.zero_le _, Below.refl _ _⟩
    case round =>
      clear h0 h1 hl
      obtain ⟨z, k, rfl, z0, z1, rfl, hk, hb⟩ := hrel
      by_cases hkl : k < cs.length
      · obtain ⟨b, o, rfl, hbl, hss, hss2, c0, c1, c2, c3, c4⟩ := hA.below hb k cs[k] (List.getElem?_eq_getElem hkl)
        have call := fun w => lSzCell cs[k] z z0 z1 hss hss2 w
        generalize cs[k] = v at *
        go_wp2_with (go_at_call 65; refine (call _).mono ?_; rintro e w2 ⟨z2, rfl, a0, a1, hb2⟩)
        · go_ret
          exact ⟨-1, rfl, by omega, by omega, .inl (by omega), hb.trans (hb2.mono hb.size)⟩
        · go_roundw
          case rel => exact ⟨z2, k + 1, rfl, by omega, by omega, by go_num, hkl, hb.trans (hb2.mono hb.size)⟩
          case measure => simp [intOf]; omega
      · obtain rfl : k = cs.length := by omega
        go_wp2_with fail
        go_ret
        exact ⟨z, rfl, by omega, z1, .inr hn2, hb⟩

theorem lSzState {a b : Option Addr} {ca cb : Nat} {vs : List Vl} {cs : List Cl} {nr er : Int} {W : World} (hV : RdV W a vs) (hC : RdC W b cs) (hn : vs.length ≤ maxLen) (hm : cs.length ≤ maxLen) :
    Calls Tryz.prog 19 #[.agg #[.slice a vs.length ca, .slice b cs.length cb, .int .i64 nr, .int .i64 er], .int .i64 1048576] W fun e w' => ∃ z, e = .returned (.int .i64 z) ∧ (z < 0 ∨ vs.length ≤ 1048576 ∧ cs.length ≤ 1048576) ∧ Below W.heap.size W w' := by
  have hb : ∀ o, Below W.heap.size W (W.alloc o) := fun o => (Below.refl _ W).alloc (Nat.le_refl _) o
  have cv := fun o => lSzValS (cap := ca) (hV.below (hb o)) hn
  have cc := fun w' (h : Below W.heap.size W w') l h0 h1 => lSzCellS (cap := cb) (left := l) (hC.below h) hm h0 h1
  have hk := Blk.new 29 W [.slice a vs.length ca, .slice b cs.length cb, .int .i64 nr, .int .i64 er]
  clear hV hC hn hm
  go_enter Tryz.func19, Tryz.ntmps19
  go_wp2_with (first
    | (go_at_call 43; refine (cv _).mono ?_; rintro e w2 ⟨z, rfl, z0, z1, z2, hb2⟩; have hB2 := (hb _).trans (hb2.mono (hb _).size); have r1 := (hk.below hb2).cell 1 rfl)
    | (go_at_call 44; refine (cc _ hB2 _ (by omega) (by omega)).mono ?_; rintro e w3 ⟨y, rfl, y0, y1, y2, hb3⟩; have hB3 := hB2.trans (hb3.mono hB2.size)))
  · go_ret
    exact ⟨_, rfl, .inl (by omega), hB2⟩
  · go_ret
    exact ⟨_, rfl, .inl (by omega), hB3⟩
  · go_ret
    exact ⟨_, rfl, .inr ⟨by omega, by omega⟩, hB3⟩

end St
end Go.Proofs.YtkhoccjfkkfipaaGreatDoor
