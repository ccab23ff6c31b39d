/-
  The specification's parser: how its functions end.
-/
import Derived.Test.YtkpgdlbcckmpkaaGreatDoorP42
namespace Go.Proofs.YtkpgdlbcckmpkaaGreatDoor
open Go.RowKit
namespace Rx

/-- How a function of the specification's parser tells, at so much depth. -/
def TellsF (f p : Nat) (s : ByteArray) (deep : Nat) (F : Nat → Option (Data × Nat)) : Prop :=
  ∀ (i : Nat) (w : World), Cs p s i false w → i ≤ s.size → Calls Tryz.prog f #[.pointer (some ⟨p, 0, none⟩), .int .i64 deep] w fun e w' => Tells p s w (F i) e w'

/-- While it is read: the cursor, and the result's variable, at the first new block. -/
structure At (p : Nat) (s : ByteArray) (w : World) (k : Int) (bad : Bool) (W : World) : Prop where
  cs : Cs p s k bad W
  res : Var W w.heap.size (.int .i64 0) (.int .i64 0) (.string ⟨#[]⟩) (.bool false) (.slice none 0 0)
  gr : w.grownBy W (some p)
  lt : p < w.heap.size

section
variable {p : Nat} {s : ByteArray} {w W : World} {k : Int} {bad : Bool}

theorem At.start (h : Cs p s k bad w) : At p s w k bad (w.alloc (.cells #[.int .i64 0, .int .i64 0, .string ⟨#[]⟩, .bool false, .slice none 0 0] 74)) :=
  ⟨h.alloc _, heap_alloc_last _ _, World.grownBy_alloc _ _ _, h.lt⟩
theorem At.drewN (h : At p s w k bad W) (n : Nat) : At p s w k bad (W.drewN n) := ⟨h.cs.drewN n, h.res, grown_drewN h.gr n, h.lt⟩
theorem At.pos (h : At p s w k bad W) (j : Int) : At p s w j bad (W.setCell ⟨p, 1, none⟩ (.int .i64 j)) := by
  have hp := h.lt
  exact ⟨h.cs.set j, h.res.kept (Below.heap_setCell _ _ _ _ (show w.heap.size ≠ p by omega)), h.gr.trans (grown_set _ ⟨p, 1, none⟩ _), hp⟩
theorem At.spoil (h : At p s w k bad W) (b : Bool) : At p s w k b (W.setCell ⟨p, 2, none⟩ (.bool b)) := by
  have hp := h.lt
  exact ⟨h.cs.spoil b, h.res.kept (Below.heap_setCell _ _ _ _ (show w.heap.size ≠ p by omega)), h.gr.trans (grown_set _ ⟨p, 2, none⟩ _), hp⟩
theorem At.size (h : At p s w k bad W) : w.heap.size < W.heap.size := h.res.lt
theorem At.grown {W' : World} {k' : Int} {bad' : Bool} (h : At p s w k bad W) (hg : W.grownBy W' (some p)) (hc : Cs p s k' bad' W') : At p s w k' bad' W' := by
  have hp := h.lt
  exact ⟨hc, h.res.kept (hg.block _ h.size (by simp; omega)), h.gr.trans hg, hp⟩
theorem At.grownOwn {W' : World} {row : Option Nat} (h : At p s w k bad W) (hg : W.grownBy W' row) (hr : ∀ b, row = some b → w.heap.size < b) : At p s w k bad W' := by
  have hp := h.lt
  refine ⟨h.cs.grown hg fun e => ?_, h.res.kept (hg.block _ h.size fun e => ?_), ?_, hp⟩
  · have := hr _ e; omega
  · have := hr _ e.symm; omega
  · exact grown_own h.gr hg fun b hb => by have := hr b hb; omega
theorem At.alloc (h : At p s w k bad W) (o : Obj) : At p s w k bad (W.alloc o) := h.grownOwn (World.grownBy_alloc _ _ none) (by simp)

theorem ret_five {fn : Func} {K : Nat} {R : Ending → World → Prop} {a : Act} {B : Nat} {v0 v1 v2 v3 v4 : Value} (hf : fn.results = #[.cell K 74]) (ht : a.tmps[K]? = some (.pointer (some ⟨B, 0, none⟩))) (hd : a.defers = [])
    (hV : Var W B v0 v1 v2 v3 v4) (hR : R (.returned (.agg #[v0, v1, v2, v3, v4])) W) : bodyPost Tryz.prog fn R .ret a W := by
  obtain ⟨x0, x1, x2, x3, x4⟩ := hV.cell
  refine bodyPost_ret ?_ hd hR
  simp [results, hf, ht, go_sem, x0, x1, x2, x3, x4]

theorem At.retBad {fn : Func} {K : Nat} {R : Option (Data × Nat)} {a : Act} {v0 v1 v2 v3 v4 : Value} (h : ∃ k, At p s w k true W) (hf : fn.results = #[.cell K 74]) (h5 : Five v0 v1 v2 v3 v4) (hR : R = none) (ht : a.tmps[K]? = some (.pointer (some ⟨w.heap.size, 0, none⟩))) (hd : a.defers = []) :
    bodyPost Tryz.prog fn (fun e w' => Tells p s w R e w') .ret a (put5 W w.heap.size v0 v1 v2 v3 v4) := by
  obtain ⟨k, h⟩ := h
  have hp := h.lt
  refine ret_five hf ht hd (put5_var h.res _ _ _ _ _) ?_
  rw [hR]
  exact ⟨_, _, _, _, _, k, rfl, h5, h.cs.kept (put5_block _ (by omega) _ _ _ _ _), put5_grown h.gr (Nat.le_refl _) _ _ _ _ _⟩

theorem At.retRex {fn : Func} {K lo j : Nat} {R : Option (Data × Nat)} {t : Data} {a : Act} {v0 v1 v2 v3 v4 : Value} (h : At p s w j false W) (hf : fn.results = #[.cell K 74]) (hx : RexIs W t (Iv lo W.heap.size) [v0, v1, v2, v3, v4]) (hlo : w.heap.size < lo) (hR : R = some (t, j)) (ht : a.tmps[K]? = some (.pointer (some ⟨w.heap.size, 0, none⟩))) (hd : a.defers = []) :
    bodyPost Tryz.prog fn (fun e w' => Tells p s w R e w') .ret a (put5 W w.heap.size v0 v1 v2 v3 v4) := by
  have hp := h.lt
  refine ret_five hf ht hd (put5_var h.res _ _ _ _ _) ?_
  rw [hR]
  refine ⟨_, _, _, _, _, rfl, ?_, h.cs.kept (put5_block _ (by omega) _ _ _ _ _), put5_grown h.gr (Nat.le_refl _) _ _ _ _ _⟩
  refine rex_mono (rex_frame t _ _ (fun b hb => put5_block _ (by have := hb.1; omega) _ _ _ _ _) hx) fun b hb => ?_
  rw [put5_size]
  exact ⟨by have := hb.1; omega, hb.2⟩

theorem At.retLeaf {fn : Func} {K j op c : Nat} {set : List UInt8} {no : Bool} {R : Option (Data × Nat)} {a : Act} {v0 v1 v2 v3 v4 : Value} (h : At p s w j false W) (hf : fn.results = #[.cell K 74]) (hR : R = some (nd op c set no [], j))
    (h0 : v0 = .int .i64 op) (h1 : v1 = .int .i64 c) (h2 : v2 = .string ⟨set.toArray⟩) (h3 : v3 = .bool no) (h4 : v4 = .slice none 0 0) (ht : a.tmps[K]? = some (.pointer (some ⟨w.heap.size, 0, none⟩))) (hd : a.defers = []) :
    bodyPost Tryz.prog fn (fun e w' => Tells p s w R e w') .ret a (put5 W w.heap.size v0 v1 v2 v3 v4) := by
  subst h0 h1 h2 h3 h4
  exact h.retRex (lo := w.heap.size + 1) hf (rex_leaf _ _ op c set no) (by omega) hR ht hd

end
end Rx
end Go.Proofs.YtkpgdlbcckmpkaaGreatDoor

