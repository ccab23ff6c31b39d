/-
  The laws' sizes and copies: szPlaceS, toPlaceS, toIntS.
-/
import Derived.Test.YtnbnbohhbflgaalCloSpec
namespace Go.Proofs.Ytnbnbohhbflgaal
open Go.RowKit
namespace Clo

/-- Places of an argument: nil, or a row of six cells a place. -/
def ArgP (W : World) (ao : Option Addr) (n : Nat) (P : Nat → Pl) : Prop := ∀ i, i < n → ∃ b o, ao = some ⟨b, o, none⟩ ∧ b < W.heap.size ∧ (P i).set.size ≤ maxLen ∧
  W.cell? ⟨b, o + i * 6, none⟩ = some (.int .i64 (P i).op) ∧ W.cell? ⟨b, o + i * 6 + 1, none⟩ = some (.int .i64 (P i).c) ∧ W.cell? ⟨b, o + i * 6 + 2, none⟩ = some (.string (P i).set) ∧ W.cell? ⟨b, o + i * 6 + 3, none⟩ = some (.bool (P i).no) ∧ W.cell? ⟨b, o + i * 6 + 4, none⟩ = some (.int .i64 (P i).a) ∧ W.cell? ⟨b, o + i * 6 + 5, none⟩ = some (.int .i64 (P i).b)

theorem ArgP.below {W w : World} {ao : Option Addr} {n : Nat} {P : Nat → Pl} (h : ArgP W ao n P) (hb : Below W.heap.size W w) : ArgP w ao n P := by
  intro i hi
  obtain ⟨b, o, e, hl, hs, c0, c1, c2, c3, c4, c5⟩ := h i hi
  have hc : ∀ k, w.cell? ⟨b, k, none⟩ = W.cell? ⟨b, k, none⟩ := fun k => hb.cell (p := ⟨b, k, none⟩) hl
  exact ⟨b, o, e, Nat.lt_of_lt_of_le hl hb.size, hs, (hc _).trans c0, (hc _).trans c1, (hc _).trans c2, (hc _).trans c3, (hc _).trans c4, (hc _).trans c5⟩

/-- Numbers of an argument. -/
def ArgI (W : World) (ao : Option Addr) (l : List Int) : Prop := ∀ i x, l[i]? = some x → ∃ b o, ao = some ⟨b, o, none⟩ ∧ b < W.heap.size ∧ W.cell? ⟨b, o + i, none⟩ = some (.int .i64 x)

theorem ArgI.below {W w : World} {ao : Option Addr} {l : List Int} (h : ArgI W ao l) (hb : Below W.heap.size W w) : ArgI w ao l := by
  intro i x hi
  obtain ⟨b, o, e, hl, c0⟩ := h i x hi
  exact ⟨b, o, e, Nat.lt_of_lt_of_le hl hb.size, (hb.cell (p := ⟨b, o + i, none⟩) hl).trans c0⟩

theorem lSzPlace (p : Pl) (left : Int) (h0 : 0 ≤ left) (h1 : left ≤ 1048576) (hs : p.set.size ≤ maxLen) (w : World) :
    Calls Try.prog 17 #[.agg #[.int .i64 p.op, .int .i64 p.c, .string p.set, .bool p.no, .int .i64 p.a, .int .i64 p.b], .int .i64 left] w fun e w' =>
      ∃ z, e = .returned (.int .i64 z) ∧ -1 ≤ z ∧ z ≤ left ∧ Below w.heap.size w w' := by
  unfold maxLen at hs
  have hb : ∀ o, Below w.heap.size w (w.alloc o) := fun o => (Below.refl _ w).alloc (Nat.le_refl _) o
  by_cases hl : left - p.set.size < 0
  · go_enter Try.func17, Try.ntmps17
    go_wp2_with fail
    go_ret
    exact ⟨_, rfl, by omega, by omega, hb _⟩
  · go_enter Try.func17, Try.ntmps17
    go_wp2_with fail
    go_ret
    exact ⟨_, rfl, by omega, by omega, hb _⟩

set_option maxRecDepth 100000 in
theorem lSzPlaceS {ao : Option Addr} {n cap : Nat} {P : Nat → Pl} {W : World} (hA : ArgP W ao n P) (hn : n ≤ maxLen) :
    Calls Try.prog 5 #[.slice ao n cap, .int .i64 1048576] W fun e w' =>
      ∃ z, e = .returned (.int .i64 z) ∧ (z < 0 ∨ n ≤ 1048576) ∧ Below W.heap.size W w' := by
  unfold maxLen at hn
  have bn : (n : Int) ≤ 9223372036854775807 := by omega
  by_cases hl : (1048576 : Int) - n < 0
  · go_enter Try.func5, Try.ntmps5
    go_wp2_with fail
    go_ret
    exact ⟨-1, rfl, .inl (by omega), Below.refl _ _⟩
  · have hn2 : n ≤ 1048576 := by omega
    have bn2 : (n : Int) ≤ 1048576 := by omega
    go_enter Try.func5, Try.ntmps5
    go_wp2_with fail
    go_loopw [1, 5] (fun l i wr => ∃ (z : Int) (k : Nat), l = .int .i64 z ∧ 0 ≤ z ∧ z ≤ 1048576 ∧ i = .int .i64 k ∧ k ≤ n ∧ Below W.heap.size W wr) (fun _ i _ => n - (intOf i).toNat)
    case atStart => exact ⟨1048576 - n, 0, rfl, by omega, by omega, rfl, Nat.zero_le _, Below.refl _ _⟩
    case round =>
      obtain ⟨z, k, rfl, z0, z1, rfl, hk, hb⟩ := hrel
      by_cases hkl : k < n
      · obtain ⟨b, o, rfl, hbl, hss, c0, c1, c2, c3, c4, c5⟩ := hA.below hb k hkl
        go_wp2_with (go_at_call 17; refine (lSzPlace (P k) z z0 z1 hss _).mono ?_; rintro e w2 ⟨z2, rfl, a0, a1, hb2⟩)
        · go_ret
          exact ⟨-1, rfl, .inl (by omega), hb.trans (hb2.mono hb.size)⟩
        · go_roundw
          case rel => exact ⟨z2, k + 1, rfl, by omega, by omega, by go_num, hkl, hb.trans (hb2.mono hb.size)⟩
          case measure => simp [intOf]; omega
      · obtain rfl : k = n := by omega
        go_wp2_with fail
        go_ret
        exact ⟨z, rfl, .inr hn2, hb⟩

/-- The cells of a place in a variable. -/
theorem ret_six {fn : Func} {K : Nat} {R : Ending → World → Prop} {a : Act} {W : World} {B : Nat} {v0 v1 v2 v3 v4 v5 : Value} (hf : fn.results = #[.cell K 40]) (ht : a.tmps[K]? = some (.pointer (some ⟨B, 0, none⟩))) (hd : a.defers = [])
    (hV : W.heap[B]? = some (.cells #[v0, v1, v2, v3, v4, v5] 40 (0, 0))) (hR : R (.returned (.agg #[v0, v1, v2, v3, v4, v5])) W) : bodyPost Try.prog fn R .ret a W := by
  have x0 := cell_of_row W B 0 _ _ _ hV
  have x1 := cell_of_row W B 1 _ _ _ hV
  have x2 := cell_of_row W B 2 _ _ _ hV
  have x3 := cell_of_row W B 3 _ _ _ hV
  have x4 := cell_of_row W B 4 _ _ _ hV
  have x5 := cell_of_row W B 5 _ _ _ hV
  simp at x0 x1 x2 x3 x4 x5
  refine bodyPost_ret ?_ hd hR
  simp [results, hf, ht, go_sem, x0, x1, x2, x3, x4, x5]

theorem lToPlace (p : Pl) (w : World) :
    Calls Try.prog 20 #[.agg #[.int .i64 p.op, .int .i64 p.c, .string p.set, .bool p.no, .int .i64 p.a, .int .i64 p.b]] w fun e w' =>
      e = .returned (.agg #[.int .i64 p.op, .int .i64 p.c, .string p.set, .bool p.no, .int .i64 p.a, .int .i64 p.b]) ∧ Below w.heap.size w w' := by
  go_enter Try.func20, Try.ntmps20
  go_wp2_with fail
  refine ret_six Try.results20 rfl rfl ((Below.heap_alloc _ _ _ (by simp)).trans ?_) ⟨rfl, ?_⟩
  · have := heap_alloc_last (w.alloc (.cells #[.int .i64 p.op, .int .i64 p.c, .string p.set, .bool p.no, .int .i64 p.a, .int .i64 p.b] 38)) (.cells #[.int .i64 p.op, .int .i64 p.c, .string p.set, .bool p.no, .int .i64 p.a, .int .i64 p.b] 40)
    rwa [World.size_alloc] at this
  · exact (((Below.refl _ w).alloc (Nat.le_refl _) _).alloc (by simp) _).alloc (by simp; omega) _

def zeroP : Pl := ⟨0, 0, ⟨#[]⟩, false, 0, 0⟩
def upP (P : Nat → Pl) (k : Nat) : Nat → Pl := fun j => if j < k then P j else zeroP

theorem flat_size (P : Nat → Pl) (n : Nat) : (flat P n).size = n * 6 := by simp [flat]
theorem flat_made (n : Nat) : madeCells #[.int .i64 0, .int .i64 0, .string ⟨#[]⟩, .bool false, .int .i64 0, .int .i64 0] (n * 6) = flat (fun _ => zeroP) n := by
  apply Array.ext_getElem?
  intro j
  by_cases h : j < n * 6
  · have h6 : j % 6 < 6 := Nat.mod_lt _ (by omega)
    simp only [madeCells, flat, Array.getElem?_map, Array.getElem?_range, h, if_true, Option.map_some]
    congr 1
    generalize j % 6 = r at h6
    match r, h6 with
    | 0, _ => rfl
    | 1, _ => rfl
    | 2, _ => rfl
    | 3, _ => rfl
    | 4, _ => rfl
    | 5, _ => rfl
  · rw [Array.getElem?_eq_none (by simp [madeCells]; omega), Array.getElem?_eq_none (by rw [flat_size]; omega)]

end Clo
end Go.Proofs.Ytnbnbohhbflgaal
