/-
  The laws' copies of a state: toState.
  The laws' copies of a state: toCellS, toState.
-/
import Derived.Test.YtkhoccjfkkfipaaGreatDoorP09
namespace Go.Proofs.YtkhoccjfkkfipaaGreatDoor
open Go.RowKit
namespace St
open Nd

theorem ret_val {fn : Func} {K : Nat} {R : Ending → World → Prop} {a : Act} {W : World} {B : Nat} {v0 v1 v2 : Value} (hf : fn.results = #[.cell K 67]) (ht : a.tmps[K]? = some (.pointer (some ⟨B, 0, none⟩))) (hd : a.defers = [])
    (hV : Blk 67 W B [v0, v1, v2]) (hR : R (.returned (.agg #[v0, v1, v2])) W) : bodyPost Tryz.prog fn R .ret a W := by
  have x0 := hV.cell 0 rfl
  have x1 := hV.cell 1 rfl
  have x2 := hV.cell 2 rfl
  refine bodyPost_ret ?_ hd hR
  simp [results, hf, ht, go_sem, x0, x1, x2]
theorem ret_cell {fn : Func} {K : Nat} {R : Ending → World → Prop} {a : Act} {W : World} {B : Nat} {v0 v1 v2 v3 v4 : Value} (hf : fn.results = #[.cell K 71]) (ht : a.tmps[K]? = some (.pointer (some ⟨B, 0, none⟩))) (hd : a.defers = [])
    (hV : Blk 71 W B [v0, v1, v2, v3, v4]) (hR : R (.returned (.agg #[v0, v1, v2, v3, v4])) W) : bodyPost Tryz.prog fn R .ret a W := by
  have x0 := hV.cell 0 rfl
  have x1 := hV.cell 1 rfl
  have x2 := hV.cell 2 rfl
  have x3 := hV.cell 3 rfl
  have x4 := hV.cell 4 rfl
  refine bodyPost_ret ?_ hd hR
  simp [results, hf, ht, go_sem, x0, x1, x2, x3, x4]

theorem lToVal (v : Vl) (w : World) :
    Calls Tryz.prog 72 #[.agg #[.int .i64 v.1, .int .i64 v.2.1, .string v.2.2]] w fun e w' => e = .returned (.agg #[.int .i64 v.1, .int .i64 v.2.1, .string v.2.2]) ∧ Below w.heap.size w w' := by
  go_enter Tryz.func72, Tryz.ntmps72
  go_wp2_with fail
  refine ret_val Tryz.results72 rfl rfl ((Below.heap_alloc _ _ _ (by simp)).trans ?_) ⟨rfl, ?_⟩
  · have := heap_new (w.alloc (.cells #[.int .i64 v.1, .int .i64 v.2.1, .string v.2.2] 104)) (.cells #[.int .i64 v.1, .int .i64 v.2.1, .string v.2.2] 67)
    rwa [World.size_alloc] at this
  · exact (((Below.refl _ w).alloc (Nat.le_refl _) _).alloc (by simp) _).alloc (by simp; omega) _

set_option maxRecDepth 100000 in
theorem lToValS {ao : Option Addr} {cap : Nat} {vs : List Vl} {w : World} (hA : RdV w ao vs) (hn : vs.length ≤ 1048576) :
    Calls Tryz.prog 52 #[.slice ao vs.length cap] w fun e w' => ∃ g, e = .returned (.slice (some ⟨g, 0, none⟩) vs.length vs.length) ∧ w.heap.size ≤ g ∧ Rows 67 encV w' g vs ∧ Below w.heap.size w w' := by
  have hmk := make_vals vs.length hn
  have bn : (vs.length : Int) ≤ 1048576 := by omega
  go_enter Tryz.func52, Tryz.ntmps52
  go_wp2_with fail
  go_loopw [4] (fun i wr => ∃ (k : Nat) (L : List Vl), i = .int .i64 k ∧ k ≤ vs.length ∧ L.length = vs.length ∧ (∀ j, j < k → L[j]? = vs[j]?) ∧ Rows 67 encV wr w.heap.size L ∧ Below w.heap.size w wr) (fun i _ => vs.length - (intOf i).toNat)
  case atStart => exact ⟨0, List.replicate vs.length zeroV, rfl, Nat.zero_le _, by simp, fun j hj => by omega, heap_new _ _, (Below.refl _ w).alloc (Nat.le_refl _) _⟩
  case round =>
    obtain ⟨k, L, rfl, hk, hL, hM, hR, hb⟩ := hrel
    have hgl := hR.lt
    by_cases hkl : k < vs.length
    · have hvk : vs[k]? = some vs[k] := List.getElem?_eq_getElem hkl
      obtain ⟨b, o, rfl, hbl, hss, c0, c1, c2⟩ := hA.below hb k vs[k] hvk
      generalize vs[k] = v at *
      obtain ⟨u, hu⟩ : ∃ u, L[k]? = some u := ⟨_, List.getElem?_eq_getElem (by omega)⟩
      obtain ⟨u0, u1, u2⟩ := u
      clear hA hmk
      go_wp2_with (go_at_call 72; refine (lToVal v _).mono ?_; rintro e w2 ⟨rfl, hb2⟩; have hR2 := hR.kept (w' := w2) (hb2.block _ hgl); have p0 : w2.cell? ⟨w.heap.size, k * 3, none⟩ = some (.int .i64 u0) := hR2.cell encV_len hu (j := 0) rfl; have p1 : w2.cell? ⟨w.heap.size, k * 3 + 1, none⟩ = some (.int .i64 u1) := hR2.cell encV_len hu (j := 1) rfl; have p2 : w2.cell? ⟨w.heap.size, k * 3 + 2, none⟩ = some (.string u2) := hR2.cell encV_len hu (j := 2) rfl; have fz := hR2.frozen)
      go_roundw
      case rel =>
        refine ⟨k + 1, L.set k v, by go_num, hkl, by simpa using hL, fun j hj => ?_, hR2.set (by omega) encV_len (by omega) v, below_putL (Nat.le_refl _) (encV v) _ _ (hb.trans (hb2.mono hb.size))⟩
        by_cases hjk : j = k
        · subst hjk
          rw [List.getElem?_set_self (by omega), hvk]
        · rw [List.getElem?_set_ne (by omega)]
          exact hM j (by omega)
      case measure => simp [intOf]; omega
    · obtain rfl : k = vs.length := by omega
      have hLe : L = vs := by
        apply List.ext_getElem?
        intro j
        by_cases hj : j < vs.length
        · exact hM j hj
        · rw [List.getElem?_eq_none (by omega), List.getElem?_eq_none (by omega)]
      subst hLe
      have HR : Hid (Rows 67 encV wr w.heap.size L) := hR
      clear hR hM hmk hA
      go_wp2_with fail
      go_ret
      exact ⟨_, rfl, Nat.le_refl _, HR.out, hb⟩

set_option maxRecDepth 100000 in
theorem lToCell (c : Cl) (w : World) :
    Calls Tryz.prog 73 #[.agg #[.int .i64 c.1, .string c.2.1, .int .i64 c.2.2.1, .int .i64 c.2.2.2.1, .string c.2.2.2.2]] w fun e w' => e = .returned (.agg #[.int .i64 c.1, .string c.2.1, .int .i64 c.2.2.1, .int .i64 c.2.2.2.1, .string c.2.2.2.2]) ∧ Below w.heap.size w w' := by
  obtain ⟨W0, hW0⟩ : ∃ W0, W0 = ((w.alloc (.cells #[.int .i64 c.1, .string c.2.1, .int .i64 c.2.2.1, .int .i64 c.2.2.2.1, .string c.2.2.2.2] 107)).alloc (.cells #[.int .i64 0, .string ⟨#[]⟩, .int .i64 0, .int .i64 0, .string ⟨#[]⟩] 71)).alloc (.cells #[.int .i64 c.1, .string c.2.1, .int .i64 0, .int .i64 0, .string ⟨#[]⟩] 71) := ⟨_, rfl⟩
  have hb0 : Below w.heap.size w W0 := by rw [hW0]; exact (((Below.refl _ w).alloc (Nat.le_refl _) _).alloc (by simp) _).alloc (by simp; omega) _
  have k1 : Blk 71 W0 (w.heap.size + 1) [.int .i64 0, .string ⟨#[]⟩, .int .i64 0, .int .i64 0, .string ⟨#[]⟩] := by
    have := Blk.new 71 (w.alloc (.cells #[.int .i64 c.1, .string c.2.1, .int .i64 c.2.2.1, .int .i64 c.2.2.2.1, .string c.2.2.2.2] 107)) [.int .i64 0, .string ⟨#[]⟩, .int .i64 0, .int .i64 0, .string ⟨#[]⟩]
    rw [World.size_alloc] at this
    rw [hW0]
    exact this.alloc _
  have k2 : Blk 71 W0 (w.heap.size + 1 + 1) [.int .i64 c.1, .string c.2.1, .int .i64 0, .int .i64 0, .string ⟨#[]⟩] := by
    have := Blk.new 71 ((w.alloc (.cells #[.int .i64 c.1, .string c.2.1, .int .i64 c.2.2.1, .int .i64 c.2.2.2.1, .string c.2.2.2.2] 107)).alloc (.cells #[.int .i64 0, .string ⟨#[]⟩, .int .i64 0, .int .i64 0, .string ⟨#[]⟩] 71)) [.int .i64 c.1, .string c.2.1, .int .i64 0, .int .i64 0, .string ⟨#[]⟩]
    rw [World.size_alloc, World.size_alloc] at this
    rw [hW0]
    exact this
  have cv := fun w => lToVal c.2.2 w
  go_enter Tryz.func73, Tryz.ntmps73
  go_wp2_with (go_at_call 72; refine hold ?_)
  rw [← hW0]
  clear hW0
  refine (cv _).mono ?_
  rintro e w2 ⟨rfl, hb2⟩
  have j1 := k1.below hb2
  have j2 := k2.below hb2
  have p0 := j1.cell 0 rfl
  have p1 := j1.cell 1 rfl
  have p2 := j1.cell 2 rfl
  have p3 := j1.cell 3 rfl
  have p4 := j1.cell 4 rfl
  have q0 := j2.cell 0 rfl
  have q1 := j2.cell 1 rfl
  have q2 := j2.cell 2 rfl
  have q3 := j2.cell 3 rfl
  have q4 := j2.cell 4 rfl
  have f1 := j1.frozen
  have f2 := j2.frozen
  have HJ : Hid (Blk 71 w2 (w.heap.size + 1) [.int .i64 0, .string ⟨#[]⟩, .int .i64 0, .int .i64 0, .string ⟨#[]⟩] ∧ Below w.heap.size w w2) := ⟨j1, hb0.trans (hb2.mono hb0.size)⟩
  clear j1 j2 k1 k2 hb0 hb2 cv
  go_wp2_with fail
  obtain ⟨j1, B2⟩ := HJ.out
  refine ret_cell Tryz.results73 rfl rfl ((((((((j1.other (g := w.heap.size + 1 + 1) (by omega) 2 _).other (g := w.heap.size + 1 + 1) (by omega) 3 _).other (g := w.heap.size + 1 + 1) (by omega) 4 _).set 0 _).set 1 _).set 2 _).set 3 _).set 4 _) ⟨rfl, ?_⟩
  exact (((((((B2.setCell (by simp; omega) _).setCell (by simp; omega) _).setCell (by simp; omega) _).setCell (by simp) _).setCell (by simp) _).setCell (by simp) _).setCell (by simp) _).setCell (by simp) _

end St
end Go.Proofs.YtkhoccjfkkfipaaGreatDoor
namespace Go.Proofs.YtkhoccjfkkfipaaGreatDoor
open Go.RowKit
namespace St
open Nd

theorem Rows.other {α : Type} {T : TypeId} {f : α → List Value} {w : World} {g : Nat} {vs : List α} (h : Rows T f w g vs) {B : Nat} (hB : g ≠ B) (j : Nat) (x : Value) : Rows T f (w.setCell ⟨B, j, none⟩ x) g vs := h.kept (Below.heap_setCell _ _ _ _ hB)

theorem infoCell : (Tryz.prog.info? 71).map (fun i => (i.zero, i.size, i.bytes)) = some (some (.agg #[.int .i64 0, .string ⟨#[]⟩, .int .i64 0, .int .i64 0, .string ⟨#[]⟩]), 5, 56) := by kernel_rfl
theorem make_cells (n : Nat) (hn : n ≤ 1048576) (w : World) : (Instr.makeSlice 42 (.int .i64 n) (.int .i64 n)).run Tryz.prog w = .ok (.slice (some ⟨w.heap.size, 0, none⟩) n n) (w.alloc (.cells ((List.replicate n zeroC).flatMap encC).toArray 71)) := by
  obtain ⟨i0, hi0, hz0, hz1, hz2⟩ := info_parts infoCell
  have := run_make (P := Tryz.prog) w 42 71 i0 _ Tryz.underlying42 hi0 hz0 .i64 .i64 n n (by omega) (Int.le_refl _) (by rw [hz2]; omega) (by omega)
  rw [this, hz1]
  simp only [Int.toNat_natCast]
  rw [← made_rows (m := 5) (by omega) encC_len]
  rfl

set_option maxRecDepth 100000 in
theorem lToCellS {ao : Option Addr} {cap : Nat} {cs : List Cl} {w : World} (hA : RdC w ao cs) (hn : cs.length ≤ 1048576) :
    Calls Tryz.prog 53 #[.slice ao cs.length cap] w fun e w' => ∃ g, e = .returned (.slice (some ⟨g, 0, none⟩) cs.length cs.length) ∧ w.heap.size ≤ g ∧ Rows 71 encC w' g cs ∧ Below w.heap.size w w' := by
  have hmk := make_cells cs.length hn
  have bn : (cs.length : Int) ≤ 1048576 := by omega
  go_enter Tryz.func53, Tryz.ntmps53
  go_wp2_with fail
  go_loopw [4] (fun i wr => ∃ (k : Nat) (L : List Cl), i = .int .i64 k ∧ k ≤ cs.length ∧ L.length = cs.length ∧ (∀ j, j < k → L[j]? = cs[j]?) ∧ Rows 71 encC wr w.heap.size L ∧ Below w.heap.size w wr) (fun i _ => cs.length - (intOf i).toNat)
  case atStart => exact ⟨0, List.replicate cs.length zeroC, rfl, Nat.zero_le _, by simp, fun j hj => by omega, heap_new _ _, (Below.refl _ w).alloc (Nat.le_refl _) _⟩
  case round =>
    obtain ⟨k, L, rfl, hk, hL, hM, hR, hb⟩ := hrel
    have hgl := hR.lt
    by_cases hkl : k < cs.length
    · have hvk : cs[k]? = some cs[k] := List.getElem?_eq_getElem hkl
      obtain ⟨b, o, rfl, hbl, hss, hss2, c0, c1, c2, c3, c4⟩ := hA.below hb k cs[k] hvk
      generalize cs[k] = v at *
      obtain ⟨u, hu⟩ : ∃ u, L[k]? = some u := ⟨_, List.getElem?_eq_getElem (by omega)⟩
      obtain ⟨u0, u1, u2, u3, u4⟩ := u
      clear hA hmk
      go_wp2_with (go_at_call 73; refine (lToCell v _).mono ?_; rintro e w2 ⟨rfl, hb2⟩; have hR2 := hR.kept (w' := w2) (hb2.block _ hgl); have p0 : w2.cell? ⟨w.heap.size, k * 5, none⟩ = some (.int .i64 u0) := hR2.cell encC_len hu (j := 0) rfl; have p1 : w2.cell? ⟨w.heap.size, k * 5 + 1, none⟩ = some (.string u1) := hR2.cell encC_len hu (j := 1) rfl; have p2 : w2.cell? ⟨w.heap.size, k * 5 + 2, none⟩ = some (.int .i64 u2) := hR2.cell encC_len hu (j := 2) rfl; have p3 : w2.cell? ⟨w.heap.size, k * 5 + 3, none⟩ = some (.int .i64 u3) := hR2.cell encC_len hu (j := 3) rfl; have p4 : w2.cell? ⟨w.heap.size, k * 5 + 4, none⟩ = some (.string u4) := hR2.cell encC_len hu (j := 4) rfl; have fz := hR2.frozen)
      go_roundw
      case rel =>
        refine ⟨k + 1, L.set k v, by go_num, hkl, by simpa using hL, fun j hj => ?_, hR2.set (by omega) encC_len (by omega) v, below_putL (Nat.le_refl _) (encC v) _ _ (hb.trans (hb2.mono hb.size))⟩
        by_cases hjk : j = k
        · subst hjk
          rw [List.getElem?_set_self (by omega), hvk]
        · rw [List.getElem?_set_ne (by omega)]
          exact hM j (by omega)
      case measure => simp [intOf]; omega
    · obtain rfl : k = cs.length := by omega
      have hLe : L = cs := by
        apply List.ext_getElem?
        intro j
        by_cases hj : j < cs.length
        · exact hM j hj
        · rw [List.getElem?_eq_none (by omega), List.getElem?_eq_none (by omega)]
      subst hLe
      have HR : Hid (Rows 71 encC wr w.heap.size L) := hR
      clear hR hM hmk hA
      go_wp2_with fail
      go_ret
      exact ⟨_, rfl, Nat.le_refl _, HR.out, hb⟩

theorem ret_state' {fn : Func} {K : Nat} {R : Ending → World → Prop} {a : Act} {W : World} {B : Nat} {v0 v1 v2 v3 : Value} (hf : fn.results = #[.cell K 44]) (ht : a.tmps[K]? = some (.pointer (some ⟨B, 0, none⟩))) (hd : a.defers = [])
    (hV : Blk 44 W B [v0, v1, v2, v3]) (hR : R (.returned (.agg #[v0, v1, v2, v3])) W) : bodyPost Tryz.prog fn R .ret a W := ret_state hf ht hd hV hR

set_option maxHeartbeats 1000000 in
set_option maxRecDepth 100000 in
theorem lToState {a b : Option Addr} {ca cb : Nat} {vs : List Vl} {cs : List Cl} {nr er : Int} {w : World} (hV : RdV w a vs) (hC : RdC w b cs) (hn : vs.length ≤ 1048576) (hm : cs.length ≤ 1048576) :
    Calls Tryz.prog 25 #[.agg #[.slice a vs.length ca, .slice b cs.length cb, .int .i64 nr, .int .i64 er]] w fun e w' => ∃ g1 g2, e = .returned (.agg #[.slice (some ⟨g1, 0, none⟩) vs.length vs.length, .slice (some ⟨g2, 0, none⟩) cs.length cs.length, .int .i64 nr, .int .i64 er]) ∧ w.heap.size ≤ g1 ∧ g1 < g2 ∧ Rows 67 encV w' g1 vs ∧ Rows 71 encC w' g2 cs ∧ Below w.heap.size w w' := by
  obtain ⟨W0, hW0⟩ : ∃ W0, W0 = ((w.alloc (.cells #[.slice a vs.length ca, .slice b cs.length cb, .int .i64 nr, .int .i64 er] 29)).alloc (.cells #[.slice none 0 0, .slice none 0 0, .int .i64 0, .int .i64 0] 44)).alloc (.cells #[.slice none 0 0, .slice none 0 0, .int .i64 0, .int .i64 0] 44) := ⟨_, rfl⟩
  have hb0 : Below w.heap.size w W0 := by rw [hW0]; exact (((Below.refl _ w).alloc (Nat.le_refl _) _).alloc (by simp) _).alloc (by simp; omega) _
  have hsz : W0.heap.size = w.heap.size + 1 + 1 + 1 := by rw [hW0]; simp
  have k0 : Blk 29 W0 w.heap.size [.slice a vs.length ca, .slice b cs.length cb, .int .i64 nr, .int .i64 er] := by
    rw [hW0]
    exact ((Blk.new 29 w [.slice a vs.length ca, .slice b cs.length cb, .int .i64 nr, .int .i64 er]).alloc _).alloc _
  have k1 : Blk 44 W0 (w.heap.size + 1) [.slice none 0 0, .slice none 0 0, .int .i64 0, .int .i64 0] := by
    have := Blk.new 44 (w.alloc (.cells #[.slice a vs.length ca, .slice b cs.length cb, .int .i64 nr, .int .i64 er] 29)) [.slice none 0 0, .slice none 0 0, .int .i64 0, .int .i64 0]
    rw [World.size_alloc] at this
    rw [hW0]
    exact this.alloc _
  have k2 : Blk 44 W0 (w.heap.size + 1 + 1) [.slice none 0 0, .slice none 0 0, .int .i64 0, .int .i64 0] := by
    have := Blk.new 44 ((w.alloc (.cells #[.slice a vs.length ca, .slice b cs.length cb, .int .i64 nr, .int .i64 er] 29)).alloc (.cells #[.slice none 0 0, .slice none 0 0, .int .i64 0, .int .i64 0] 44)) [.slice none 0 0, .slice none 0 0, .int .i64 0, .int .i64 0]
    rw [World.size_alloc, World.size_alloc] at this
    rw [hW0]
    exact this
  have cv := fun w' (h : Below w.heap.size w w') => lToValS (cap := ca) (hV.below h) hn
  have cc := fun w' (h : Below w.heap.size w w') => lToCellS (cap := cb) (hC.below h) hm
  clear hV hC hn hm
  go_enter Tryz.func25, Tryz.ntmps25
  go_wp2_with (go_at_call 52; refine hold ?_)
  rw [← hW0]
  clear hW0
  refine (cv W0 hb0).mono ?_
  rintro e w2 ⟨g1, rfl, hg1, R1, hb2⟩
  have l1 := R1.lt
  have j0 := k0.below hb2
  have j1 := k1.below hb2
  have j2 := k2.below hb2
  have hB2 := hb0.trans (hb2.mono hb0.size)
  have x0 := j0.cell 0 rfl
  have x1 := j0.cell 1 rfl
  have x2 := j0.cell 2 rfl
  have x3 := j0.cell 3 rfl
  have q0 := j2.cell 0 rfl
  have q1 := j2.cell 1 rfl
  have q2 := j2.cell 2 rfl
  have q3 := j2.cell 3 rfl
  have f2 := j2.frozen
  have s2 := hb2.size
  go_wp2_with (go_at_call 53; refine hold ?_)
  clear x0 x1 x2 x3 q0 q1 q2 q3 f2
  have hBs : Below w.heap.size w (w2.setCell ⟨w.heap.size + 1 + 1, 0, none⟩ (.slice (some ⟨g1, 0, none⟩) vs.length vs.length)) := hB2.setCell (by simp; omega) _
  have i0 := j0.other (g := w.heap.size + 1 + 1) (by omega) 0 (.slice (some ⟨g1, 0, none⟩) vs.length vs.length)
  have i1 := j1.other (g := w.heap.size + 1 + 1) (by omega) 0 (.slice (some ⟨g1, 0, none⟩) vs.length vs.length)
  have i2 := j2.set 0 (.slice (some ⟨g1, 0, none⟩) vs.length vs.length)
  have R2 : Rows 67 encV (w2.setCell ⟨w.heap.size + 1 + 1, 0, none⟩ (.slice (some ⟨g1, 0, none⟩) vs.length vs.length)) g1 vs := R1.kept (Below.heap_setCell _ _ _ _ (by simp; omega))
  refine (cc _ hBs).mono ?_
  rintro e w3 ⟨g2, rfl, hg2, R3, hb3⟩
  simp only [World.size_setCell] at hg2
  have l3 := R3.lt
  have h0 := i0.below hb3
  have h1 := i1.below hb3
  have h2 := i2.below hb3
  have R4 := R2.kept (w' := w3) (hb3.block _ R2.lt)
  have hB3 := hBs.trans (hb3.mono hBs.size)
  have x0 := h0.cell 0 rfl
  have x1 := h0.cell 1 rfl
  have x2 := h0.cell 2 rfl
  have x3 := h0.cell 3 rfl
  have p0 := h1.cell 0 rfl
  have p1 := h1.cell 1 rfl
  have p2 := h1.cell 2 rfl
  have p3 := h1.cell 3 rfl
  have q0 := h2.cell 0 rfl
  have q1 := h2.cell 1 rfl
  have q2 := h2.cell 2 rfl
  have q3 := h2.cell 3 rfl
  have f1 := h1.frozen
  have f2 := h2.frozen
  have HH : Hid (Blk 44 w3 (w.heap.size + 1) [.slice none 0 0, .slice none 0 0, .int .i64 0, .int .i64 0] ∧ Below w.heap.size w w3 ∧ Rows 67 encV w3 g1 vs ∧ Rows 71 encC w3 g2 cs) := ⟨h1, hB3, R4, R3⟩
  clear i0 i1 i2 j0 j1 j2 k0 k1 k2 h0 h1 h2 hBs hB3 hB2 R1 R2 R3 R4 hb2 hb3 hb0 cv cc
  go_wp2_with fail
  obtain ⟨h1, B3, R4, R3⟩ := HH.out
  refine ret_state' Tryz.results25 rfl rfl (((((((h1.other (g := w.heap.size + 1 + 1) (by omega) 1 _).other (g := w.heap.size + 1 + 1) (by omega) 2 _).other (g := w.heap.size + 1 + 1) (by omega) 3 _).set 0 _).set 1 _).set 2 _).set 3 _) ⟨g1, g2, rfl, by omega, by omega, ?_, ?_, ?_⟩
  · exact ((((((R4.other (B := w.heap.size + 1 + 1) (by omega) _ _).other (B := w.heap.size + 1 + 1) (by omega) _ _).other (B := w.heap.size + 1 + 1) (by omega) _ _).other (B := w.heap.size + 1) (by omega) _ _).other (B := w.heap.size + 1) (by omega) _ _).other (B := w.heap.size + 1) (by omega) _ _).other (B := w.heap.size + 1) (by omega) _ _
  · exact ((((((R3.other (B := w.heap.size + 1 + 1) (by omega) _ _).other (B := w.heap.size + 1 + 1) (by omega) _ _).other (B := w.heap.size + 1 + 1) (by omega) _ _).other (B := w.heap.size + 1) (by omega) _ _).other (B := w.heap.size + 1) (by omega) _ _).other (B := w.heap.size + 1) (by omega) _ _).other (B := w.heap.size + 1) (by omega) _ _
  · exact ((((((B3.setCell (by simp; omega) _).setCell (by simp; omega) _).setCell (by simp; omega) _).setCell (by simp) _).setCell (by simp) _).setCell (by simp) _).setCell (by simp) _

end St
end Go.Proofs.YtkhoccjfkkfipaaGreatDoor
