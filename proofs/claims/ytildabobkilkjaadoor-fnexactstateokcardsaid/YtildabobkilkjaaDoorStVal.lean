/-
  The laws' comparisons of values and states; StateNew of both sides.
-/
import Derived.Test.YtildabobkilkjaaDoorStRow
import Derived.Test.YtildabobkilkjaaDoorMkText
namespace Go.Proofs.YtildabobkilkjaaDoor
open Go.RowKit
namespace St
open Nd Mk

theorem rows_rd {w : World} {g : Nat} {vs : List Vl} (h : Rows 39 encV w g vs) (hs : ∀ v ∈ vs, v.2.2.size ≤ maxLen) : RdV w (some ⟨g, 0, none⟩) vs := fun i v hi => by
  refine ⟨g, 0, rfl, h.lt, hs v (List.mem_of_getElem? hi), ?_, ?_, ?_⟩ <;> rw [Nat.zero_add]
  · exact h.cell encV_len hi (j := 0) rfl
  · exact h.cell encV_len hi (j := 1) rfl
  · exact h.cell encV_len hi (j := 2) rfl

theorem lEqVal (v : Vl) (w : World) :
    Calls Tryd.prog 31 #[.agg #[.int .i64 v.1, .int .i64 v.2.1, .string v.2.2], .agg #[.int .i64 v.1, .int .i64 v.2.1, .string v.2.2]] w fun e w' => e = .returned (.bool true) ∧ Below w.heap.size w w' := by
  go_enter Tryd.func31, Tryd.ntmps31
  go_wp2_with fail
  go_ret
  exact ⟨rfl, ((Below.refl _ w).alloc (Nat.le_refl _) _).alloc (by simp) _⟩

set_option maxRecDepth 100000 in
theorem lEqValS {a1 a2 : Option Addr} {c1 c2 : Nat} {vs : List Vl} {w : World} (h1 : RdV w a1 vs) (h2 : RdV w a2 vs) (hn : vs.length ≤ 3000000) :
    Calls Tryd.prog 19 #[.slice a1 vs.length c1, .slice a2 vs.length c2] w fun e w' => e = .returned (.bool true) ∧ Below w.heap.size w w' := by
  have bn : (vs.length : Int) ≤ 3000000 := by omega
  go_enter Tryd.func19, Tryd.ntmps19
  go_wp2_with fail
  go_loopw [5] (fun i wr => ∃ k : Nat, i = .int .i64 k ∧ k ≤ vs.length ∧ Below w.heap.size w wr) (fun i _ => vs.length - (intOf i).toNat)
  case atStart => exact ⟨0, rfl, Nat.zero_le _, Below.refl _ _⟩
  case round =>
    obtain ⟨k, rfl, hk, hb⟩ := hrel
    by_cases hkl : k < vs.length
    · obtain ⟨b1, o1, rfl, _, _, p0, p1, p2⟩ := h1.below hb k vs[k] (List.getElem?_eq_getElem hkl)
      obtain ⟨b2, o2, rfl, _, _, q0, q1, q2⟩ := h2.below hb k vs[k] (List.getElem?_eq_getElem hkl)
      generalize vs[k] = v at *
      have bk : (k : Int) < vs.length := by omega
      clear h1 h2
      have call := lEqVal v wr.drew
      go_wp2_with fail
      go_region_with (first | (go_at_call 31; refine call.mono ?_; rintro e w2 ⟨rfl, hb2⟩))
      all_goals go_wp2_with fail
      all_goals go_roundw
      all_goals try (simp only [intOf]; omega)
      all_goals exact ⟨k + 1, by go_num, hkl, hb.trans (Below.mono (w := wr) (B := wr.heap.size) ⟨hb2.os, hb2.tape, hb2.output, hb2.size, hb2.block⟩ hb.size)⟩
    · obtain rfl : k = vs.length := by omega
      go_wp2_with fail
      go_ret
      exact ⟨rfl, hb⟩

theorem lEqCell (c : Cl) (w : World) :
    Calls Tryd.prog 32 #[.agg #[.int .i64 c.1, .string c.2.1, .int .i64 c.2.2.1, .int .i64 c.2.2.2.1, .string c.2.2.2.2], .agg #[.int .i64 c.1, .string c.2.1, .int .i64 c.2.2.1, .int .i64 c.2.2.2.1, .string c.2.2.2.2]] w fun e w' => e = .returned (.bool true) ∧ Below w.heap.size w w' := by
  have cv := fun w => lEqVal c.2.2 w
  have hb : ∀ o o', Below w.heap.size w ((w.alloc o).alloc o') := fun o o' => ((Below.refl _ w).alloc (Nat.le_refl _) _).alloc (by simp) _
  go_enter Tryd.func32, Tryd.ntmps32
  go_wp2_with (go_at_call 31; refine (cv _).mono ?_; rintro e w2 ⟨rfl, hb2⟩)
  go_ret
  exact ⟨rfl, (hb _ _).trans (hb2.mono (hb _ _).size)⟩

set_option maxRecDepth 100000 in
theorem lEqCellS {a1 a2 : Option Addr} {c1 c2 : Nat} {cs : List Cl} {w : World} (h1 : RdC w a1 cs) (h2 : RdC w a2 cs) (hn : cs.length ≤ 3000000) :
    Calls Tryd.prog 20 #[.slice a1 cs.length c1, .slice a2 cs.length c2] w fun e w' => e = .returned (.bool true) ∧ Below w.heap.size w w' := by
  have bn : (cs.length : Int) ≤ 3000000 := by omega
  go_enter Tryd.func20, Tryd.ntmps20
  go_wp2_with fail
  go_loopw [5] (fun i wr => ∃ k : Nat, i = .int .i64 k ∧ k ≤ cs.length ∧ Below w.heap.size w wr) (fun i _ => cs.length - (intOf i).toNat)
  case atStart => exact ⟨0, rfl, Nat.zero_le _, Below.refl _ _⟩
  case round =>
    obtain ⟨k, rfl, hk, hb⟩ := hrel
    by_cases hkl : k < cs.length
    · obtain ⟨b1, o1, rfl, _, _, _, p0, p1, p2, p3, p4⟩ := h1.below hb k cs[k] (List.getElem?_eq_getElem hkl)
      obtain ⟨b2, o2, rfl, _, _, _, q0, q1, q2, q3, q4⟩ := h2.below hb k cs[k] (List.getElem?_eq_getElem hkl)
      generalize cs[k] = v at *
      have bk : (k : Int) < cs.length := by omega
      clear h1 h2
      have call := lEqCell v wr.drew
      go_wp2_with fail
      go_region_with (first | (go_at_call 32; refine call.mono ?_; rintro e w2 ⟨rfl, hb2⟩))
      all_goals go_wp2_with fail
      all_goals go_roundw
      all_goals try (simp only [intOf]; omega)
      all_goals exact ⟨k + 1, by go_num, hkl, hb.trans (Below.mono (w := wr) (B := wr.heap.size) ⟨hb2.os, hb2.tape, hb2.output, hb2.size, hb2.block⟩ hb.size)⟩
    · obtain rfl : k = cs.length := by omega
      go_wp2_with fail
      go_ret
      exact ⟨rfl, hb⟩

theorem st_cells {w w' : World} {p0 p1 p2 p3 q0 q1 q2 q3 : Value} (hb : Below ((w.alloc (.cells #[p0, p1, p2, p3] 31)).alloc (.cells #[q0, q1, q2, q3] 31)).heap.size ((w.alloc (.cells #[p0, p1, p2, p3] 31)).alloc (.cells #[q0, q1, q2, q3] 31)) w') :
    w'.cell? ⟨w.heap.size, 0, none⟩ = some p0 ∧ w'.cell? ⟨w.heap.size, 1, none⟩ = some p1 ∧ w'.cell? ⟨w.heap.size, 2, none⟩ = some p2 ∧ w'.cell? ⟨w.heap.size, 3, none⟩ = some p3 ∧ w'.cell? ⟨w.heap.size + 1, 0, none⟩ = some q0 ∧ w'.cell? ⟨w.heap.size + 1, 1, none⟩ = some q1 ∧ w'.cell? ⟨w.heap.size + 1, 2, none⟩ = some q2 ∧ w'.cell? ⟨w.heap.size + 1, 3, none⟩ = some q3 := by
  have hW1 := heap_new w (.cells #[p0, p1, p2, p3] 31)
  have hW2 := heap_new (w.alloc (.cells #[p0, p1, p2, p3] 31)) (.cells #[q0, q1, q2, q3] 31)
  rw [World.size_alloc] at hW2
  have h1 : w'.heap[w.heap.size]? = some (.cells #[p0, p1, p2, p3] 31) := (hb.block _ (by simp; omega)).trans ((Below.heap_alloc _ _ _ (by simp)).trans hW1)
  have h2 : w'.heap[w.heap.size + 1]? = some (.cells #[q0, q1, q2, q3] 31) := (hb.block _ (by simp)).trans hW2
  simp [World.cell?, h1, h2]

theorem lEqState {a1 a2 b1 b2 : Option Addr} {c1 c2 d1 d2 : Nat} {vs : List Vl} {cs : List Cl} {nr er : Int} {w : World} (h1 : RdV w a1 vs) (h2 : RdV w a2 vs) (g1 : RdC w b1 cs) (g2 : RdC w b2 cs) (hn : vs.length ≤ 3000000) (hm : cs.length ≤ 3000000) :
    Calls Tryd.prog 8 #[.agg #[.slice a1 vs.length c1, .slice b1 cs.length d1, .int .i64 nr, .int .i64 er], .agg #[.slice a2 vs.length c2, .slice b2 cs.length d2, .int .i64 nr, .int .i64 er]] w fun e w' => e = .returned (.bool true) ∧ Below w.heap.size w w' := by
  have cv := fun w' (h : Below w.heap.size w w') => lEqValS (c1 := c1) (c2 := c2) (h1.below h) (h2.below h) hn
  have cc := fun w' (h : Below w.heap.size w w') => lEqCellS (c1 := d1) (c2 := d2) (g1.below h) (g2.below h) hm
  have hb : ∀ o o', Below w.heap.size w ((w.alloc o).alloc o') := fun o o' => ((Below.refl _ w).alloc (Nat.le_refl _) _).alloc (by simp) _
  clear h1 h2 g1 g2 hn hm
  go_enter Tryd.func8, Tryd.ntmps8
  go_wp2_with (first
    | (go_at_call 19; refine (cv _ (hb _ _)).mono ?_; rintro e w2 ⟨rfl, hb2⟩; have hB2 := (hb _ _).trans (hb2.mono (hb _ _).size); obtain ⟨r0, r1, r2, r3, s0, s1, s2, s3⟩ := st_cells hb2)
    | (go_at_call 20; refine (cc _ hB2).mono ?_; rintro e w3 ⟨rfl, hb3⟩; have hB3 := hB2.trans (hb3.mono hB2.size); clear r0 r1 r2 r3 s0 s1 s2 s3; obtain ⟨r0, r1, r2, r3, s0, s1, s2, s3⟩ := st_cells (hb2.trans (hb3.mono hb2.size))))
  go_ret
  exact ⟨rfl, hB3⟩

theorem infoVal : (Tryd.prog.info? 39).map (fun i => (i.zero, i.size, i.bytes)) = some (some (.agg #[.int .i64 0, .int .i64 0, .string ⟨#[]⟩]), 3, 32) := by kernel_rfl
theorem make_vals (n : Nat) (hn : n ≤ 1048576) (w : World) : (Instr.makeSlice 28 (.int .i64 n) (.int .i64 n)).run Tryd.prog w = .ok (.slice (some ⟨w.heap.size, 0, none⟩) n n) (w.alloc (.cells ((List.replicate n zeroV).flatMap encV).toArray 39)) := by
  obtain ⟨i0, hi0, hz0, hz1, hz2⟩ := info_parts infoVal
  have := run_make (P := Tryd.prog) w 28 39 i0 _ Tryd.underlying28 hi0 hz0 .i64 .i64 n n (by omega) (Int.le_refl _) (by rw [hz2]; omega) (by omega)
  rw [this, hz1]
  simp only [Int.toNat_natCast]
  rw [← made_rows (m := 3) (by omega) encV_len]
  rfl

/-- How many names there are. -/
def nn (z : Int) : Nat := if z < 0 then 0 else if 8 < z then 8 else z.toNat
theorem nn_le (z : Int) : nn z ≤ 8 := by unfold nn; split <;> (try split) <;> omega


theorem ret_state {fn : Func} {K : Nat} {R : Ending → World → Prop} {a : Act} {W : World} {B : Nat} {v0 v1 v2 v3 : Value} (hf : fn.results = #[.cell K 31]) (ht : a.tmps[K]? = some (.pointer (some ⟨B, 0, none⟩))) (hd : a.defers = [])
    (hV : W.heap[B]? = some (.cells #[v0, v1, v2, v3] 31 (0, 0))) (hR : R (.returned (.agg #[v0, v1, v2, v3])) W) : bodyPost Tryd.prog fn R .ret a W := by
  have x0 : W.cell? ⟨B, 0, none⟩ = some v0 := by simp [World.cell?, hV]
  have x1 : W.cell? ⟨B, 1, none⟩ = some v1 := by simp [World.cell?, hV]
  have x2 : W.cell? ⟨B, 2, none⟩ = some v2 := by simp [World.cell?, hV]
  have x3 : W.cell? ⟨B, 3, none⟩ = some v3 := by simp [World.cell?, hV]
  refine bodyPost_ret ?_ hd hR
  simp [results, hf, ht, go_sem, x0, x1, x2, x3]
theorem new_two {w : World} {o1 o2 : Obj} : ((w.alloc o1).alloc o2).heap[w.heap.size]? = some o1 ∧ ((w.alloc o1).alloc o2).heap[w.heap.size + 1]? = some o2 := by
  refine ⟨(Below.heap_alloc _ _ _ (by simp)).trans (heap_new w o1), ?_⟩
  have := heap_new (w.alloc o1) o2
  rwa [World.size_alloc] at this

end St
end Go.Proofs.YtildabobkilkjaaDoor
