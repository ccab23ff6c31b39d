/-
  The specification's parser: a set.
  The specification's parser: how its functions end.
-/
import Derived.Test.YtkhoccjfkkfipaaGreatDoorP36
namespace Go.Proofs.YtkhoccjfkkfipaaGreatDoor
open Go.RowKit
namespace Rx

/-- The marks of a set that is being read, at block q. -/
def Hs (q : Nat) (M : Nat → Bool) (w : World) : Prop := w.heap[q]? = some (.cells (marks M) 4 (0, 0))

theorem mk256 (w : World) : (Instr.makeSlice 257 (.int .i64 256) (.int .i64 256)).run Tryz.prog w = .ok (.slice (some ⟨w.heap.size, 0, none⟩) 256 256) (w.alloc (.cells (marks fun _ => false) 4)) := by kernel_rfl

theorem hs_cell {q : Nat} {M : Nat → Bool} {w : World} (h : Hs q M w) {k : Nat} (hk : k < 256) : w.cell? ⟨q, k, none⟩ = some (.bool (M k)) := by
  rw [cell_of_row w q k _ _ _ h, marks_get M hk]
theorem hs_set {q : Nat} {M : Nat → Bool} {w : World} (h : Hs q M w) (k : Nat) : Hs q (fun b => M b || decide (b = k)) (w.setCell ⟨q, k, none⟩ (.bool true)) := by
  unfold Hs at h ⊢
  have hm : (marks M).set! k (.bool true) = marks (fun b => M b || decide (b = k)) := by
    apply Array.ext_getElem?
    intro j
    rw [Array.set!_eq_setIfInBounds, Array.getElem?_setIfInBounds]
    by_cases hj : j < 256
    · rw [marks_get _ hj, marks_get _ hj]
      by_cases e : k = j
      · subst e; simp [marks_size, hj]
      · simp [e, show ¬ j = k by omega]
    · have a1 : (marks M)[j]? = none := Array.getElem?_eq_none (by rw [marks_size]; omega)
      have a2 : (marks fun b => M b || decide (b = k))[j]? = none := Array.getElem?_eq_none (by rw [marks_size]; omega)
      rw [a1, a2]
      by_cases e : k = j
      · subst e; simp [marks_size, hj]
      · simp [e]
  rw [← hm]
  simp [World.setCell, Array.getElem?_modify, h]
theorem hs_frozen {q k : Nat} {M : Nat → Bool} {w : World} (h : Hs q M w) : w.frozen? ⟨q, k, none⟩ = false := by
  unfold Hs at h
  simp [World.frozen?, h]
theorem Hs.lt {q : Nat} {M : Nat → Bool} {w : World} (h : Hs q M w) : q < w.heap.size := World.block_lt_of_cell? w ⟨q, 0, none⟩ (hs_cell h (by omega))

/-- While a set is read: the cursor, the result's variable, the set's, its marks. -/
structure St (p : Nat) (s : ByteArray) (w : World) (no : Bool) (k : Int) (bad : Bool) (M : Nat → Bool) (wx : World) : Prop where
  cs : Cs p s k bad wx
  res : Var wx w.heap.size (.int .i64 0) (.int .i64 0) (.string ⟨#[]⟩) (.bool false) (.slice none 0 0)
  rv : Var wx (w.heap.size + 1) (.int .i64 3) (.int .i64 0) (.string ⟨#[]⟩) (.bool no) (.slice none 0 0)
  hs : Hs (w.heap.size + 2) M wx
  gr : w.grownBy wx (some p)
  sz : wx.heap.size = w.heap.size + 3
  lt : p < w.heap.size

theorem St.drewN {p : Nat} {s : ByteArray} {w : World} {no : Bool} {k : Int} {bad : Bool} {M : Nat → Bool} {wx : World} (h : St p s w no k bad M wx) (n : Nat) : St p s w no k bad M (wx.drewN n) :=
  ⟨h.cs.drewN n, h.res, h.rv, h.hs, grown_drewN h.gr n, h.sz, h.lt⟩
theorem St.pos {p : Nat} {s : ByteArray} {w : World} {no : Bool} {k : Int} {bad : Bool} {M : Nat → Bool} {wx : World} (h : St p s w no k bad M wx) (j : Int) : St p s w no j bad M (wx.setCell ⟨p, 1, none⟩ (.int .i64 j)) := by
  have hp := h.lt
  exact ⟨h.cs.set j, h.res.kept (Below.heap_setCell _ _ _ _ (show w.heap.size ≠ p by omega)), h.rv.kept (Below.heap_setCell _ _ _ _ (show w.heap.size + 1 ≠ p by omega)), (Below.heap_setCell _ _ _ _ (show w.heap.size + 2 ≠ p by omega)).trans h.hs, h.gr.trans (grown_set _ ⟨p, 1, none⟩ _), by simpa using h.sz, hp⟩
theorem St.spoil {p : Nat} {s : ByteArray} {w : World} {no : Bool} {k : Int} {bad : Bool} {M : Nat → Bool} {wx : World} (h : St p s w no k bad M wx) (b : Bool) : St p s w no k b M (wx.setCell ⟨p, 2, none⟩ (.bool b)) := by
  have hp := h.lt
  exact ⟨h.cs.spoil b, h.res.kept (Below.heap_setCell _ _ _ _ (show w.heap.size ≠ p by omega)), h.rv.kept (Below.heap_setCell _ _ _ _ (show w.heap.size + 1 ≠ p by omega)), (Below.heap_setCell _ _ _ _ (show w.heap.size + 2 ≠ p by omega)).trans h.hs, h.gr.trans (grown_set _ ⟨p, 2, none⟩ _), by simpa using h.sz, hp⟩
theorem St.mark {p : Nat} {s : ByteArray} {w : World} {no : Bool} {k : Int} {bad : Bool} {M : Nat → Bool} {wx : World} (h : St p s w no k bad M wx) (n : Nat) : St p s w no k bad (fun b => M b || decide (b = n)) (wx.setCell ⟨w.heap.size + 2, n, none⟩ (.bool true)) := by
  have hp := h.lt
  exact ⟨h.cs.kept (Below.heap_setCell _ _ _ _ (show p ≠ w.heap.size + 2 by omega)), h.res.kept (Below.heap_setCell _ _ _ _ (show w.heap.size ≠ w.heap.size + 2 by omega)), h.rv.kept (Below.heap_setCell _ _ _ _ (show w.heap.size + 1 ≠ w.heap.size + 2 by omega)), hs_set h.hs n, grown_set_new h.gr (show w.heap.size ≤ w.heap.size + 2 by omega) _, by simpa using h.sz, hp⟩

/-- Where the cursor is. -/
def posC (p : Nat) (w : World) : Nat := match w.cell? ⟨p, 1, none⟩ with
  | some (.int _ n) => n.toNat
  | _ => 0
theorem posC_is {p : Nat} {s : ByteArray} {i : Nat} {b : Bool} {w : World} (h : Cs p s i b w) : posC p w = i := by unfold posC; rw [h.pos]; simp

/-- Where a row of a set ends, and with which byte. -/
def rowB (g : Nat → Nat) (k : Nat) : Bool := decide (g (k + 1) = 45 ∧ g (k + 2) ≠ 93 ∧ g (k + 2) ≠ 256)

theorem empty_span {M : Nat → Bool} {lo hi : Nat} (h : lo ≤ hi) (hlo : lo < 256) : bytesOf (spanOn M lo hi) ≠ [] := by
  intro e
  unfold bytesOf at e
  simp only [List.map_eq_nil_iff, List.filter_eq_nil_iff, List.mem_range] at e
  exact e lo hlo (by simp [spanOn, h])

/-- What a loop over a set knows. -/
def SetR (g : Nat → Nat) (N k m f : Nat) (bad : Bool) (M : Nat → Bool) (RL : Option ((Nat → Bool) × Nat)) : Prop :=
  (bad = true → RL = none) ∧ (bad = false → N < f + k ∧ setLoop g f k M = RL ∧ (bytesOf M = [] ↔ m = 0))

theorem setR_row {s : ByteArray} {k m f : Nat} {bad : Bool} {M : Nat → Bool} {RL : Option ((Nat → Bool) × Nat)} (h : SetR (gOf s) s.size k m f bad M RL) (hk : k < s.size) (h93 : gOf s k ≠ 93) (hr : rowB (gOf s) k = true) :
    ∃ f', SetR (gOf s) s.size (k + 3) (m + 1) f' (bad || decide (gOf s (k + 2) < gOf s k)) (if gOf s k ≤ gOf s (k + 2) then spanOn M (gOf s k) (gOf s (k + 2)) else M) RL := by
  unfold rowB at hr
  obtain ⟨r1, r2, r3⟩ := of_decide_eq_true hr
  have h256 : gOf s k ≠ 256 := by rw [gOf_in hk]; have := s[k].toNat_lt; omega
  refine ⟨f - 1, fun hb => ?_, fun hb => ?_⟩
  · cases e : bad with
    | true => exact h.1 e
    | false =>
      obtain ⟨h1, h2, _⟩ := h.2 e
      obtain ⟨f, rfl⟩ : ∃ f', f = f' + 1 := ⟨f - 1, by omega⟩
      rw [e] at hb
      have hlt : gOf s (k + 2) < gOf s k := of_decide_eq_true (by simpa using hb)
      rw [← h2, setLoop, if_neg h256, if_neg h93, if_pos ⟨r1, r2⟩, if_pos (.inr hlt)]
  · rw [Bool.or_eq_false_iff] at hb
    obtain ⟨hb, hlt⟩ := hb
    have hlt := of_decide_eq_false hlt
    obtain ⟨h1, h2, _⟩ := h.2 hb
    obtain ⟨f, rfl⟩ : ∃ f', f = f' + 1 := ⟨f - 1, by omega⟩
    rw [if_pos (show gOf s k ≤ gOf s (k + 2) by omega)]
    refine ⟨by simp only [Nat.add_sub_cancel]; omega, ?_, ?_⟩
    · rw [← h2, setLoop, if_neg h256, if_neg h93, if_pos ⟨r1, r2⟩, if_neg (by omega)]
      rfl
    · have := empty_span (M := M) (lo := gOf s k) (hi := gOf s (k + 2)) (by omega) (by have := s[k].toNat_lt; rw [gOf_in hk]; omega)
      simp [this]

theorem setR_one {s : ByteArray} {k m f : Nat} {bad : Bool} {M : Nat → Bool} {RL : Option ((Nat → Bool) × Nat)} (h : SetR (gOf s) s.size k m f bad M RL) (hk : k < s.size) (h93 : gOf s k ≠ 93) (hr : rowB (gOf s) k = false) :
    ∃ f', SetR (gOf s) s.size (k + 1) (m + 1) f' bad (spanOn M (gOf s k) (gOf s k)) RL := by
  unfold rowB at hr
  have hr := of_decide_eq_false hr
  have h256 : gOf s k ≠ 256 := by rw [gOf_in hk]; have := s[k].toNat_lt; omega
  have hem := empty_span (M := M) (lo := gOf s k) (hi := gOf s k) (Nat.le_refl _) (by have := s[k].toNat_lt; rw [gOf_in hk]; omega)
  refine ⟨f - 1, fun hb => h.1 hb, fun hb => ?_⟩
  obtain ⟨h1, h2, _⟩ := h.2 hb
  obtain ⟨f, rfl⟩ : ∃ f', f = f' + 1 := ⟨f - 1, by omega⟩
  refine ⟨by simp only [Nat.add_sub_cancel]; omega, ?_, by simp [hem]⟩
  rw [← h2, setLoop, if_neg h256, if_neg h93]
  by_cases hc : gOf s (k + 1) = 45 ∧ gOf s (k + 2) ≠ 93
  · have e256 : gOf s (k + 2) = 256 := by
      by_cases e : gOf s (k + 2) = 256
      · exact e
      · exact absurd ⟨hc.1, hc.2, e⟩ hr
    rw [if_pos hc, if_pos (.inl e256)]
    have hk1 : k + 1 < s.size := in_of (by rw [hc.1]; omega)
    obtain ⟨f, rfl⟩ : ∃ f', f = f' + 1 := ⟨f - 1, by omega⟩
    simp only [Nat.add_sub_cancel]
    rw [setLoop, if_neg (by rw [hc.1]; omega), if_neg (by rw [hc.1]; omega), if_neg (by rw [e256]; omega)]
    obtain ⟨f, rfl⟩ : ∃ f', f = f' + 1 := ⟨f - 1, by omega⟩
    rw [setLoop, if_pos e256]
  · rw [if_neg hc]
    rfl

theorem setR_end {s : ByteArray} {k m f : Nat} {bad no : Bool} {M : Nat → Bool} {RL : Option ((Nat → Bool) × Nat)} (h : SetR (gOf s) s.size k m f bad M RL) (hk : k ≤ s.size) (he : k < s.size → gOf s k = 93) :
    ((bad || (decide (s.size ≤ k) || decide (m = 0))) = true → setEnd no RL = none) ∧ ((bad || (decide (s.size ≤ k) || decide (m = 0))) = false → setEnd no RL = some (setOf M no, k + 1)) := by
  cases e : bad with
  | true => rw [h.1 e]; exact ⟨fun _ => rfl, fun h => by simp at h⟩
  | false =>
    obtain ⟨h1, h2, h3⟩ := h.2 e
    obtain ⟨f, rfl⟩ : ∃ f', f = f' + 1 := ⟨f - 1, by omega⟩
    by_cases hs : s.size ≤ k
    · have e1 : RL = none := by rw [← h2, setLoop, if_pos (gOf_out hs)]
      rw [e1]
      exact ⟨fun _ => rfl, fun h => by simp [hs] at h⟩
    · have h93 := he (by omega)
      have e1 : RL = some (M, k + 1) := by rw [← h2, setLoop, if_neg (by omega), if_pos h93]
      rw [e1]
      by_cases hm : m = 0
      · have := h3.2 hm
        exact ⟨fun _ => by simp [setEnd, this], fun h => by simp [hm] at h⟩
      · have : bytesOf M ≠ [] := fun h => hm (h3.1 h)
        exact ⟨fun h => by simp [hs, hm] at h, fun _ => by simp [setEnd, this]⟩

end Rx
end Go.Proofs.YtkhoccjfkkfipaaGreatDoor
namespace Go.Proofs.YtkhoccjfkkfipaaGreatDoor
open Go.RowKit
namespace Rx

/-- How a function of the specification's parser tells, at so much depth. -/
def TellsF (f p : Nat) (s : ByteArray) (deep : Nat) (F : Nat → Option (Data × Nat)) : Prop :=
  ∀ (i : Nat) (w : World), Cs p s i false w → i ≤ s.size → Calls Tryz.prog f #[.pointer (some ⟨p, 0, none⟩), .int .i64 deep] w fun e w' => Tells p s w (F i) e w'

/-- While it is read: the cursor, and the result's variable, at the first new block. -/
structure At (p : Nat) (s : ByteArray) (w : World) (k : Int) (bad : Bool) (W : World) : Prop where
  cs : Cs p s k bad W
  res : Var W w.heap.size (.int .i64 0) (.int .i64 0) (.string ⟨#[]⟩) (.bool false) (.slice none 0 0)
  gr : w.grownBy W (some p)
  lt : p < w.heap.size

section
variable {p : Nat} {s : ByteArray} {w W : World} {k : Int} {bad : Bool}

theorem At.start (h : Cs p s k bad w) : At p s w k bad (w.alloc (.cells #[.int .i64 0, .int .i64 0, .string ⟨#[]⟩, .bool false, .slice none 0 0] 149)) :=
  ⟨h.alloc _, heap_alloc_last _ _, World.grownBy_alloc _ _ _, h.lt⟩
theorem At.drewN (h : At p s w k bad W) (n : Nat) : At p s w k bad (W.drewN n) := ⟨h.cs.drewN n, h.res, grown_drewN h.gr n, h.lt⟩
theorem At.pos (h : At p s w k bad W) (j : Int) : At p s w j bad (W.setCell ⟨p, 1, none⟩ (.int .i64 j)) := by
  have hp := h.lt
  exact ⟨h.cs.set j, h.res.kept (Below.heap_setCell _ _ _ _ (show w.heap.size ≠ p by omega)), h.gr.trans (grown_set _ ⟨p, 1, none⟩ _), hp⟩
theorem At.spoil (h : At p s w k bad W) (b : Bool) : At p s w k b (W.setCell ⟨p, 2, none⟩ (.bool b)) := by
  have hp := h.lt
  exact ⟨h.cs.spoil b, h.res.kept (Below.heap_setCell _ _ _ _ (show w.heap.size ≠ p by omega)), h.gr.trans (grown_set _ ⟨p, 2, none⟩ _), hp⟩
theorem At.size (h : At p s w k bad W) : w.heap.size < W.heap.size := h.res.lt
theorem At.grown {W' : World} {k' : Int} {bad' : Bool} (h : At p s w k bad W) (hg : W.grownBy W' (some p)) (hc : Cs p s k' bad' W') : At p s w k' bad' W' := by
  have hp := h.lt
  exact ⟨hc, h.res.kept (hg.block _ h.size (by simp; omega)), h.gr.trans hg, hp⟩
theorem At.grownOwn {W' : World} {row : Option Nat} (h : At p s w k bad W) (hg : W.grownBy W' row) (hr : ∀ b, row = some b → w.heap.size < b) : At p s w k bad W' := by
  have hp := h.lt
  refine ⟨h.cs.grown hg fun e => ?_, h.res.kept (hg.block _ h.size fun e => ?_), ?_, hp⟩
  · have := hr _ e; omega
  · have := hr _ e.symm; omega
  · exact grown_own h.gr hg fun b hb => by have := hr b hb; omega
theorem At.alloc (h : At p s w k bad W) (o : Obj) : At p s w k bad (W.alloc o) := h.grownOwn (World.grownBy_alloc _ _ none) (by simp)

theorem ret_five {fn : Func} {K : Nat} {R : Ending → World → Prop} {a : Act} {B : Nat} {v0 v1 v2 v3 v4 : Value} (hf : fn.results = #[.cell K 149]) (ht : a.tmps[K]? = some (.pointer (some ⟨B, 0, none⟩))) (hd : a.defers = [])
    (hV : Var W B v0 v1 v2 v3 v4) (hR : R (.returned (.agg #[v0, v1, v2, v3, v4])) W) : bodyPost Tryz.prog fn R .ret a W := by
  obtain ⟨x0, x1, x2, x3, x4⟩ := hV.cell
  refine bodyPost_ret ?_ hd hR
  simp [results, hf, ht, go_sem, x0, x1, x2, x3, x4]

theorem At.retBad {fn : Func} {K : Nat} {R : Option (Data × Nat)} {a : Act} {v0 v1 v2 v3 v4 : Value} (h : ∃ k, At p s w k true W) (hf : fn.results = #[.cell K 149]) (h5 : Five v0 v1 v2 v3 v4) (hR : R = none) (ht : a.tmps[K]? = some (.pointer (some ⟨w.heap.size, 0, none⟩))) (hd : a.defers = []) :
    bodyPost Tryz.prog fn (fun e w' => Tells p s w R e w') .ret a (put5 W w.heap.size v0 v1 v2 v3 v4) := by
  obtain ⟨k, h⟩ := h
  have hp := h.lt
  refine ret_five hf ht hd (put5_var h.res _ _ _ _ _) ?_
  rw [hR]
  exact ⟨_, _, _, _, _, k, rfl, h5, h.cs.kept (put5_block _ (by omega) _ _ _ _ _), put5_grown h.gr (Nat.le_refl _) _ _ _ _ _⟩

theorem At.retRex {fn : Func} {K lo j : Nat} {R : Option (Data × Nat)} {t : Data} {a : Act} {v0 v1 v2 v3 v4 : Value} (h : At p s w j false W) (hf : fn.results = #[.cell K 149]) (hx : RexIs W t (Iv lo W.heap.size) [v0, v1, v2, v3, v4]) (hlo : w.heap.size < lo) (hR : R = some (t, j)) (ht : a.tmps[K]? = some (.pointer (some ⟨w.heap.size, 0, none⟩))) (hd : a.defers = []) :
    bodyPost Tryz.prog fn (fun e w' => Tells p s w R e w') .ret a (put5 W w.heap.size v0 v1 v2 v3 v4) := by
  have hp := h.lt
  refine ret_five hf ht hd (put5_var h.res _ _ _ _ _) ?_
  rw [hR]
  refine ⟨_, _, _, _, _, rfl, ?_, h.cs.kept (put5_block _ (by omega) _ _ _ _ _), put5_grown h.gr (Nat.le_refl _) _ _ _ _ _⟩
  refine rex_mono (rex_frame t _ _ (fun b hb => put5_block _ (by have := hb.1; omega) _ _ _ _ _) hx) fun b hb => ?_
  rw [put5_size]
  exact ⟨by have := hb.1; omega, hb.2⟩

theorem At.retLeaf {fn : Func} {K j op c : Nat} {set : List UInt8} {no : Bool} {R : Option (Data × Nat)} {a : Act} {v0 v1 v2 v3 v4 : Value} (h : At p s w j false W) (hf : fn.results = #[.cell K 149]) (hR : R = some (nd op c set no [], j))
    (h0 : v0 = .int .i64 op) (h1 : v1 = .int .i64 c) (h2 : v2 = .string ⟨set.toArray⟩) (h3 : v3 = .bool no) (h4 : v4 = .slice none 0 0) (ht : a.tmps[K]? = some (.pointer (some ⟨w.heap.size, 0, none⟩))) (hd : a.defers = []) :
    bodyPost Tryz.prog fn (fun e w' => Tells p s w R e w') .ret a (put5 W w.heap.size v0 v1 v2 v3 v4) := by
  subst h0 h1 h2 h3 h4
  exact h.retRex (lo := w.heap.size + 1) hf (rex_leaf _ _ op c set no) (by omega) hR ht hd

end
end Rx
end Go.Proofs.YtkhoccjfkkfipaaGreatDoor
