/-
  The laws' copies of a state: toState.
-/
import Derived.Test.YtildabobkilkjaaDoorStArg
namespace Go.Proofs.YtildabobkilkjaaDoor
open Go.RowKit
namespace St
open Nd

theorem ret_val {fn : Func} {K : Nat} {R : Ending → World → Prop} {a : Act} {W : World} {B : Nat} {v0 v1 v2 : Value} (hf : fn.results = #[.cell K 39]) (ht : a.tmps[K]? = some (.pointer (some ⟨B, 0, none⟩))) (hd : a.defers = [])
    (hV : Blk 39 W B [v0, v1, v2]) (hR : R (.returned (.agg #[v0, v1, v2])) W) : bodyPost Tryd.prog fn R .ret a W := by
  have x0 := hV.cell 0 rfl
  have x1 := hV.cell 1 rfl
  have x2 := hV.cell 2 rfl
  refine bodyPost_ret ?_ hd hR
  simp [results, hf, ht, go_sem, x0, x1, x2]
theorem ret_cell {fn : Func} {K : Nat} {R : Ending → World → Prop} {a : Act} {W : World} {B : Nat} {v0 v1 v2 v3 v4 : Value} (hf : fn.results = #[.cell K 41]) (ht : a.tmps[K]? = some (.pointer (some ⟨B, 0, none⟩))) (hd : a.defers = [])
    (hV : Blk 41 W B [v0, v1, v2, v3, v4]) (hR : R (.returned (.agg #[v0, v1, v2, v3, v4])) W) : bodyPost Tryd.prog fn R .ret a W := by
  have x0 := hV.cell 0 rfl
  have x1 := hV.cell 1 rfl
  have x2 := hV.cell 2 rfl
  have x3 := hV.cell 3 rfl
  have x4 := hV.cell 4 rfl
  refine bodyPost_ret ?_ hd hR
  simp [results, hf, ht, go_sem, x0, x1, x2, x3, x4]

theorem lToVal (v : Vl) (w : World) :
    Calls Tryd.prog 25 #[.agg #[.int .i64 v.1, .int .i64 v.2.1, .string v.2.2]] w fun e w' => e = .returned (.agg #[.int .i64 v.1, .int .i64 v.2.1, .string v.2.2]) ∧ Below w.heap.size w w' := by
  go_enter Tryd.func25, Tryd.ntmps25
  go_wp2_with fail
  refine ret_val Tryd.results25 rfl rfl ((Below.heap_alloc _ _ _ (by simp)).trans ?_) ⟨rfl, ?_⟩
  · have := heap_new (w.alloc (.cells #[.int .i64 v.1, .int .i64 v.2.1, .string v.2.2] 51)) (.cells #[.int .i64 v.1, .int .i64 v.2.1, .string v.2.2] 39)
    rwa [World.size_alloc] at this
  · exact (((Below.refl _ w).alloc (Nat.le_refl _) _).alloc (by simp) _).alloc (by simp; omega) _

set_option maxRecDepth 100000 in
theorem lToValS {ao : Option Addr} {cap : Nat} {vs : List Vl} {w : World} (hA : RdV w ao vs) (hn : vs.length ≤ 1048576) :
    Calls Tryd.prog 14 #[.slice ao vs.length cap] w fun e w' => ∃ g, e = .returned (.slice (some ⟨g, 0, none⟩) vs.length vs.length) ∧ w.heap.size ≤ g ∧ Rows 39 encV w' g vs ∧ Below w.heap.size w w' := by
  have hmk := make_vals vs.length hn
  have bn : (vs.length : Int) ≤ 1048576 := by omega
  go_enter Tryd.func14, Tryd.ntmps14
  go_wp2_with fail
  go_loopw [4] (fun i wr => ∃ (k : Nat) (L : List Vl), i = .int .i64 k ∧ k ≤ vs.length ∧ L.length = vs.length ∧ (∀ j, j < k → L[j]? = vs[j]?) ∧ Rows 39 encV wr w.heap.size L ∧ Below w.heap.size w wr) (fun i _ => vs.length - (intOf i).toNat)
  case atStart => exact ⟨0, List.replicate vs.length zeroV, rfl, Nat.zero_le _, by simp, fun j hj => by omega, heap_new _ _, (Below.refl _ w).alloc (Nat.le_refl _) _⟩
  case round =>
    obtain ⟨k, L, rfl, hk, hL, hM, hR, hb⟩ := hrel
    have hgl := hR.lt
    by_cases hkl : k < vs.length
    · have hvk : vs[k]? = some vs[k] := List.getElem?_eq_getElem hkl
      obtain ⟨b, o, rfl, hbl, hss, c0, c1, c2⟩ := hA.below hb k vs[k] hvk
      generalize vs[k] = v at *
      obtain ⟨u, hu⟩ : ∃ u, L[k]? = some u := ⟨_, List.getElem?_eq_getElem (by omega)⟩
      obtain ⟨u0, u1, u2⟩ := u
      clear hA hmk
      go_wp2_with (go_at_call 25; refine (lToVal v _).mono ?_; rintro e w2 ⟨rfl, hb2⟩; have hR2 := hR.kept (w' := w2) (hb2.block _ hgl); have p0 : w2.cell? ⟨w.heap.size, k * 3, none⟩ = some (.int .i64 u0) := hR2.cell encV_len hu (j := 0) rfl; have p1 : w2.cell? ⟨w.heap.size, k * 3 + 1, none⟩ = some (.int .i64 u1) := hR2.cell encV_len hu (j := 1) rfl; have p2 : w2.cell? ⟨w.heap.size, k * 3 + 2, none⟩ = some (.string u2) := hR2.cell encV_len hu (j := 2) rfl; have fz := hR2.frozen)
      go_roundw
      case rel =>
        refine ⟨k + 1, L.set k v, by go_num, hkl, by simpa using hL, fun j hj => ?_, hR2.set (by omega) encV_len (by omega) v, below_putL (Nat.le_refl _) (encV v) _ _ (hb.trans (hb2.mono hb.size))⟩
        by_cases hjk : j = k
        · subst hjk
          rw [List.getElem?_set_self (by omega), hvk]
        · rw [List.getElem?_set_ne (by omega)]
          exact hM j (by omega)
      case measure => simp [intOf]; omega
    · obtain rfl : k = vs.length := by omega
      have hLe : L = vs := by
        apply List.ext_getElem?
        intro j
        by_cases hj : j < vs.length
        · exact hM j hj
        · rw [List.getElem?_eq_none (by omega), List.getElem?_eq_none (by omega)]
      subst hLe
      have HR : Hid (Rows 39 encV wr w.heap.size L) := hR
      clear hR hM hmk hA
      go_wp2_with fail
      go_ret
      exact ⟨_, rfl, Nat.le_refl _, HR.out, hb⟩

set_option maxRecDepth 100000 in
theorem lToCell (c : Cl) (w : World) :
    Calls Tryd.prog 26 #[.agg #[.int .i64 c.1, .string c.2.1, .int .i64 c.2.2.1, .int .i64 c.2.2.2.1, .string c.2.2.2.2]] w fun e w' => e = .returned (.agg #[.int .i64 c.1, .string c.2.1, .int .i64 c.2.2.1, .int .i64 c.2.2.2.1, .string c.2.2.2.2]) ∧ Below w.heap.size w w' := by
  obtain ⟨W0, hW0⟩ : ∃ W0, W0 = ((w.alloc (.cells #[.int .i64 c.1, .string c.2.1, .int .i64 c.2.2.1, .int .i64 c.2.2.2.1, .string c.2.2.2.2] 54)).alloc (.cells #[.int .i64 0, .string ⟨#[]⟩, .int .i64 0, .int .i64 0, .string ⟨#[]⟩] 41)).alloc (.cells #[.int .i64 c.1, .string c.2.1, .int .i64 0, .int .i64 0, .string ⟨#[]⟩] 41) := ⟨_, rfl⟩
  have hb0 : Below w.heap.size w W0 := by rw [hW0]; exact (((Below.refl _ w).alloc (Nat.le_refl _) _).alloc (by simp) _).alloc (by simp; omega) _
  have k1 : Blk 41 W0 (w.heap.size + 1) [.int .i64 0, .string ⟨#[]⟩, .int .i64 0, .int .i64 0, .string ⟨#[]⟩] := by
    have := Blk.new 41 (w.alloc (.cells #[.int .i64 c.1, .string c.2.1, .int .i64 c.2.2.1, .int .i64 c.2.2.2.1, .string c.2.2.2.2] 54)) [.int .i64 0, .string ⟨#[]⟩, .int .i64 0, .int .i64 0, .string ⟨#[]⟩]
    rw [World.size_alloc] at this
    rw [hW0]
    exact this.alloc _
  have k2 : Blk 41 W0 (w.heap.size + 1 + 1) [.int .i64 c.1, .string c.2.1, .int .i64 0, .int .i64 0, .string ⟨#[]⟩] := by
    have := Blk.new 41 ((w.alloc (.cells #[.int .i64 c.1, .string c.2.1, .int .i64 c.2.2.1, .int .i64 c.2.2.2.1, .string c.2.2.2.2] 54)).alloc (.cells #[.int .i64 0, .string ⟨#[]⟩, .int .i64 0, .int .i64 0, .string ⟨#[]⟩] 41)) [.int .i64 c.1, .string c.2.1, .int .i64 0, .int .i64 0, .string ⟨#[]⟩]
    rw [World.size_alloc, World.size_alloc] at this
    rw [hW0]
    exact this
  have cv := fun w => lToVal c.2.2 w
  go_enter Tryd.func26, Tryd.ntmps26
  go_wp2_with (go_at_call 25; refine hold ?_)
  rw [← hW0]
  clear hW0
  refine (cv _).mono ?_
  rintro e w2 ⟨rfl, hb2⟩
  have j1 := k1.below hb2
  have j2 := k2.below hb2
  have p0 := j1.cell 0 rfl
  have p1 := j1.cell 1 rfl
  have p2 := j1.cell 2 rfl
  have p3 := j1.cell 3 rfl
  have p4 := j1.cell 4 rfl
  have q0 := j2.cell 0 rfl
  have q1 := j2.cell 1 rfl
  have q2 := j2.cell 2 rfl
  have q3 := j2.cell 3 rfl
  have q4 := j2.cell 4 rfl
  have f1 := j1.frozen
  have f2 := j2.frozen
  have HJ : Hid (Blk 41 w2 (w.heap.size + 1) [.int .i64 0, .string ⟨#[]⟩, .int .i64 0, .int .i64 0, .string ⟨#[]⟩] ∧ Below w.heap.size w w2) := ⟨j1, hb0.trans (hb2.mono hb0.size)⟩
  clear j1 j2 k1 k2 hb0 hb2 cv
  go_wp2_with fail
  obtain ⟨j1, B2⟩ := HJ.out
  refine ret_cell Tryd.results26 rfl rfl ((((((((j1.other (g := w.heap.size + 1 + 1) (by omega) 2 _).other (g := w.heap.size + 1 + 1) (by omega) 3 _).other (g := w.heap.size + 1 + 1) (by omega) 4 _).set 0 _).set 1 _).set 2 _).set 3 _).set 4 _) ⟨rfl, ?_⟩
  exact (((((((B2.setCell (by simp; omega) _).setCell (by simp; omega) _).setCell (by simp; omega) _).setCell (by simp) _).setCell (by simp) _).setCell (by simp) _).setCell (by simp) _).setCell (by simp) _

end St
end Go.Proofs.YtildabobkilkjaaDoor
