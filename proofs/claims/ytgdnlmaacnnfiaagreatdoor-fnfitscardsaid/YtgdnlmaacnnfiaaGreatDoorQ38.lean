/-
  The draws of a pattern, a text to be fitted and a place: DrawMatchTree, DrawMatchRex.
  The specification's cursor over a pattern: l3Now.
-/
import Derived.Test.YtgdnlmaacnnfiaaGreatDoorQ37
import Derived.Test.YtgdnlmaacnnfiaaGreatDoorQ34
import Derived.Test.YtgdnlmaacnnfiaaGreatDoorQ06
namespace Go.Proofs.YtgdnlmaacnnfiaaGreatDoor
open Go.RowKit Go.Extern
namespace Dr
set_option linter.unusedVariables false
open Rx (RexZ RexZs ndZ SetsZ SetsZs SetZ cnt cnts Var)

/-- A drawn tree, its cells in memory of its own behind what there was. -/
def Drawn (w : World) (w' : World) (op c : Int) (s : ByteArray) (no : Bool) (ao : Option Addr) (n cap : Nat) : Prop := ∃ t, SetsZ t ∧ cnt t ≤ 140 ∧ RexZ w' t (Rx.Iv w.heap.size w'.heap.size) [.int .i64 op, .int .i64 c, .string s, .bool no, .slice ao n cap] ∧ Below w.heap.size w w'

theorem drawn_of {p : Nat} {w W1 w2 w4 w5 : World} {o : Obj} {t : Data} {op c : Int} {s : ByteArray} {no : Bool} {ao : Option Addr} {n cap : Nat} (hb1 : Below w.heap.size w W1) (hp : w.heap.size < p) (hp1 : p < W1.heap.size) (hz : SetsZ t) (hc : cnt t ≤ 140)
    (hx : RexZ w2 t (Rx.Iv W1.heap.size w2.heap.size) [.int .i64 op, .int .i64 c, .string s, .bool no, .slice ao n cap]) (h2 : Only p W1 w2) (h4 : Only p (w2.alloc o) w4) (h5 : Only p w4 w5) :
    Drawn w (set5 w5 w.heap.size (.int .i64 op) (.int .i64 c) (.string s) (.bool no) (.slice ao n cap)) op c s no ao n cap := by
  have s1 := hb1.size
  have s2 := h2.size
  have s4 := h4.size
  have s5 := h5.size
  simp at s4
  have hb5 : Below w.heap.size w w5 := ((((hb1.trans (h2.below (by omega) (by omega))).alloc (by omega) o).trans (h4.below (by omega) (by simp; omega)))).trans (h5.below (by omega) (by omega))
  refine ⟨t, hz, hc, ?_, ?_⟩
  · refine rexZ_mono (fun k hk => ?_) (Rx.rexZ_frame _ _ _ (fun k hk => ?_) hx)
    · have := hk.1
      have := hk.2
      exact ⟨by omega, by rw [set5_size]; omega⟩
    · have k1 := hk.1
      have k2 := hk.2
      rw [set5_block _ _ _ (by omega), h5.block k (by omega) (by omega), h4.block k (by omega) (by simp; omega), Below.heap_alloc _ _ _ k2]
  · unfold set5
    exact ((((hb5.setCell (Nat.le_refl _) _).setCell (Nat.le_refl _) _).setCell (Nat.le_refl _) _).setCell (Nat.le_refl _) _).setCell (Nat.le_refl _) _

set_option maxHeartbeats 4000000 in
set_option maxRecDepth 100000 in
theorem vDrawMatchTree (hP : ParseOk) (sa : Option Addr) (len cap B : Nat) (w : World) (hB : B ≤ w.heap.size) (hl : len ≤ 1048576) (hy : Bytes B w sa len) :
    Calls Tryz.prog 6 #[.slice sa len cap] w fun e w' => ∃ (op c : Int) (s : ByteArray) (no : Bool) (ao : Option Addr) (n cp : Nat) (txt : ByteArray) (k : Int),
      e = .returned (.tuple #[.agg #[.int .i64 op, .int .i64 c, .string s, .bool no, .slice ao n cp], .string txt, .int .i64 k]) ∧ (txt.size : Int) ≤ 24 ∧ -1 ≤ k ∧ k ≤ (txt.size : Int) + 1 ∧ Drawn w w' op c s no ao n cp := by
  obtain ⟨q, hq⟩ : ∃ q, q = w.heap.size := ⟨_, rfl⟩
  obtain ⟨W0, hW0⟩ : ∃ W0, W0 = w.alloc (.cells #[.int .i64 0, .int .i64 0, .string ⟨#[]⟩, .bool false, .slice none 0 0] 26) := ⟨_, rfl⟩
  have hV0 : Var W0 q (.int .i64 0) (.int .i64 0) (.string ⟨#[]⟩) (.bool false) (.slice none 0 0) := by rw [hW0, hq]; exact heap_alloc_last _ _
  have hb0 : Below w.heap.size w W0 := by rw [hW0]; exact (Below.refl _ _).alloc (Nat.le_refl _) _
  have hz0 : W0.heap.size = q + 1 := by rw [hW0, hq]; simp
  obtain ⟨p, hp⟩ : ∃ p, p = W0.heap.size := ⟨_, rfl⟩
  have hn := new_any sa len cap B W0 (by omega) hl (hy.below (hb0.mono hB))
  rw [← hp] at hn
  go_enter Tryz.func6, Tryz.ntmps6
  go_upto_region 1 with fail
  rw [← hW0, ← hq]
  clear hW0 hy
  have Hq : Hid (q = w.heap.size) := hq
  have Hz0 : Hid (W0.heap.size = q + 1) := hz0
  have Hp : Hid (p = W0.heap.size) := hp
  clear hq hz0 hp
  go_upto_region 2 with (go_at_call 16; refine hn.mono ?_; rintro e w1 ⟨rfl, hb1, hC1⟩)
  have call2 := drawTree hP B p w1 hC1
  go_upto_region 3 with (go_at_call 17; refine call2.mono ?_; rintro e w2 ⟨t, op, c, s, no, ao, n, cp, rfl, hz, hc, hx, ho2, hC2⟩)
  obtain ⟨rb, hrb⟩ : ∃ rb, rb = w2.heap.size := ⟨_, rfl⟩
  obtain ⟨w3, hw3⟩ : ∃ w3, w3 = w2.alloc (.cells #[.int .i64 op, .int .i64 c, .string s, .bool no, .slice ao n cp] 26) := ⟨_, rfl⟩
  have hVb : Var w3 rb (.int .i64 op) (.int .i64 c) (.string s) (.bool no) (.slice ao n cp) := by rw [hw3, hrb]; exact heap_alloc_last _ _
  have hC3 : Cur B p w3 := by rw [hw3]; exact hC2.alloc _
  rw [← hw3, ← hrb]
  have Hw3 : Hid (w3 = w2.alloc (.cells #[.int .i64 op, .int .i64 c, .string s, .bool no, .slice ao n cp] 26)) := hw3
  have Hrb : Hid (rb = w2.heap.size) := hrb
  have call3 := drawFit B p w3 hC3
  clear hw3 hrb call2 hn
  go_upto_region 4 with (go_at_call 18; refine call3.mono ?_; rintro e w4 ⟨txt, rfl, htx, ho4, hC4⟩)
  have eq1 := Hq.out
  have eq2 := Hz0.out
  have eq3 := Hp.out
  have eq4 := Hrb.out
  have z1 := hb1.size
  have z2 := ho2.size
  have z4 := ho4.size
  have l1 := hC1.lt
  have hw3 := Hw3.out
  have z3 : w3.heap.size = w2.heap.size + 1 := by rw [hw3]; simp
  have d1 : rb ≠ p := by omega
  have d2 : q ≠ p := by omega
  have d3 : rb ≠ q := by omega
  have d4 : q ≠ rb := by omega
  have hVq1 := hV0.kept (hb1.block q (by omega))
  have hVq2 := hVq1.kept (ho2.block q d2 (by omega))
  have hVq3 : Var w3 q _ _ _ _ _ := hVq2.kept (by rw [hw3, Below.heap_alloc _ _ _ (by omega)])
  have hVq4 := hVq3.kept (ho4.block q d2 (by omega))
  have hVb4 := hVb.kept (ho4.block rb d1 (by omega))
  have HD : Hid (∀ w5, Only p w4 w5 → Drawn w (set5 w5 q (.int .i64 op) (.int .i64 c) (.string s) (.bool no) (.slice ao n cp)) op c s no ao n cp) := by
    intro w5 h5
    rw [eq1]
    rw [hw3] at ho4
    exact drawn_of (hb0.trans (hb1.mono (by omega))) (by omega) l1 hz hc hx ho2 ho4 h5
  have hlt4 : rb < w4.heap.size := by omega
  have hlq4 : q < w4.heap.size := by omega
  have kb : ∀ w5, Only p w4.drew w5 → Var w5 rb (.int .i64 op) (.int .i64 c) (.string s) (.bool no) (.slice ao n cp) := fun w5 h => hVb4.kept ((((Only.refl p w4).drewN 1).trans h).block rb d1 hlt4)
  have kq : ∀ w5, Only p w4.drew w5 → Var w5 q (.int .i64 0) (.int .i64 0) (.string ⟨#[]⟩) (.bool false) (.slice none 0 0) := fun w5 h => hVq4.kept ((((Only.refl p w4).drewN 1).trans h).block q d2 hlq4)
  have n0 : (0 : Int) < (txt.size : Int) + 3 := by omega
  have n1 : (txt.size : Int) + 3 ≤ 256 := by omega
  have hwr : IntKind.i64.wrap ((txt.size : Int) + 3) = (txt.size : Int) + 3 := by rw [IntKind.wrap_i64]; omega
  have hwx : ∀ x : Int, 0 ≤ x → x < (txt.size : Int) + 3 → IntKind.i64.wrap (x - 1) = x - 1 := fun x h0 h1 => by rw [IntKind.wrap_i64]; omega
  have call := fun wx h => below_small B p ((txt.size : Int) + 3) wx h n0 n1
  have call := call w4.drew (cur_drewN hC4 1)
  clear eq1 eq2 eq3 eq4 z1 z2 z3 z4 l1 hw3 hVq1 hVq2 hVq3 hV0 hVb hx hz hc ho2 ho4 hC1 hC2 hC3 hb1 hb0 Hq Hz0 Hp Hrb Hw3 call3 hP hB hl n0 n1
  obtain ⟨b0, b1, b2, b3, b4⟩ := hVb4.cell
  go_region_held3 (fun w' => w'.cell? ⟨rb, 0, none⟩ = some (.int .i64 op) ∧ w'.cell? ⟨rb, 1, none⟩ = some (.int .i64 c) ∧ w'.cell? ⟨rb, 2, none⟩ = some (.string s) ∧ w'.cell? ⟨rb, 3, none⟩ = some (.bool no) ∧ w'.cell? ⟨rb, 4, none⟩ = some (.slice ao n cp)) (go_keep) (first | (go_at_call 19; with_reducible refine call.mono ?_; rintro e w5 ⟨x, rfl, hx0, hx1, ho5, hC5⟩; have hwy := hwx x hx0 hx1; obtain ⟨c0, c1, c2, c3, c4⟩ := (kb w5 ho5).cell; have hVq5 := kq w5 ho5; obtain ⟨q0, q1, q2, q3, q4⟩ := hVq5.cell; have y0 := hVq5.frozen 0; have y1 := hVq5.frozen 1; have y2 := hVq5.frozen 2; have y3 := hVq5.frozen 3; have y4 := hVq5.frozen 4))
  all_goals
    have HD5 : Hid (Drawn w (set5 w5 q (.int .i64 op) (.int .i64 c) (.string s) (.bool no) (.slice ao n cp)) op c s no ao n cp) := HD.out w5 (((Only.refl p w4).drewN 1).trans ho5)
    have hVf := set5_var (a' := .int .i64 op) (b' := .int .i64 c) (c' := .string s) (d' := .bool no) (u' := .slice ao n cp) hVq5
    obtain ⟨x0, x1, x2, x3, x4⟩ := hVf.cell
    unfold set5 at x0 x1 x2 x3 x4
    go_wp2_with fail
    refine bodyPost_ret (v := .tuple #[.agg #[.int .i64 op, .int .i64 c, .string s, .bool no, .slice ao n cp], .string txt, .int .i64 (x - 1)]) (by simp [results, Tryz.results6, x0, x1, x2, x3, x4, go_sem]) rfl ?_
    exact ⟨_, _, _, _, _, _, _, _, _, rfl, htx, by omega, by omega, HD5.out⟩

set_option maxHeartbeats 4000000 in
set_option maxRecDepth 100000 in
theorem vDrawMatchRex (hP : ParseOk) (sa : Option Addr) (len cap B : Nat) (w : World) (hB : B ≤ w.heap.size) (hl : len ≤ 1048576) (hy : Bytes B w sa len) :
    Calls Tryz.prog 14 #[.slice sa len cap] w fun e w' => ∃ (op c : Int) (s : ByteArray) (no : Bool) (ao : Option Addr) (n cp : Nat) (txt : ByteArray),
      e = .returned (.tuple #[.agg #[.int .i64 op, .int .i64 c, .string s, .bool no, .slice ao n cp], .string txt]) ∧ (txt.size : Int) ≤ 24 ∧ Drawn w w' op c s no ao n cp := by
  obtain ⟨q, hq⟩ : ∃ q, q = w.heap.size := ⟨_, rfl⟩
  obtain ⟨W0, hW0⟩ : ∃ W0, W0 = w.alloc (.cells #[.int .i64 0, .int .i64 0, .string ⟨#[]⟩, .bool false, .slice none 0 0] 26) := ⟨_, rfl⟩
  have hV0 : Var W0 q (.int .i64 0) (.int .i64 0) (.string ⟨#[]⟩) (.bool false) (.slice none 0 0) := by rw [hW0, hq]; exact heap_alloc_last _ _
  have hb0 : Below w.heap.size w W0 := by rw [hW0]; exact (Below.refl _ _).alloc (Nat.le_refl _) _
  have hz0 : W0.heap.size = q + 1 := by rw [hW0, hq]; simp
  obtain ⟨p, hp⟩ : ∃ p, p = W0.heap.size := ⟨_, rfl⟩
  have hn := new_any sa len cap B W0 (by omega) hl (hy.below (hb0.mono hB))
  rw [← hp] at hn
  go_enter Tryz.func14, Tryz.ntmps14
  go_upto_region 1 with fail
  rw [← hW0, ← hq]
  clear hW0 hy
  have Hq : Hid (q = w.heap.size) := hq
  have Hz0 : Hid (W0.heap.size = q + 1) := hz0
  have Hp : Hid (p = W0.heap.size) := hp
  clear hq hz0 hp
  go_upto_region 2 with (go_at_call 16; refine hn.mono ?_; rintro e w1 ⟨rfl, hb1, hC1⟩)
  have call2 := drawTree hP B p w1 hC1
  go_upto_region 3 with (go_at_call 17; refine call2.mono ?_; rintro e w2 ⟨t, op, c, s, no, ao, n, cp, rfl, hz, hc, hx, ho2, hC2⟩)
  obtain ⟨rb, hrb⟩ : ∃ rb, rb = w2.heap.size := ⟨_, rfl⟩
  obtain ⟨w4, hw4⟩ : ∃ w4, w4 = w2.alloc (.cells #[.int .i64 op, .int .i64 c, .string s, .bool no, .slice ao n cp] 26) := ⟨_, rfl⟩
  have hVb4 : Var w4 rb (.int .i64 op) (.int .i64 c) (.string s) (.bool no) (.slice ao n cp) := by rw [hw4, hrb]; exact heap_alloc_last _ _
  have hC4 : Cur B p w4 := by rw [hw4]; exact hC2.alloc _
  rw [← hw4, ← hrb]
  have eq1 := Hq.out
  have eq2 := Hz0.out
  have eq3 := Hp.out
  have z1 := hb1.size
  have z2 := ho2.size
  have l1 := hC1.lt
  have z4 : w4.heap.size = w2.heap.size + 1 := by rw [hw4]; simp
  have d1 : rb ≠ p := by omega
  have d2 : q ≠ p := by omega
  have d3 : rb ≠ q := by omega
  have d4 : q ≠ rb := by omega
  have hVq1 := hV0.kept (hb1.block q (by omega))
  have hVq2 := hVq1.kept (ho2.block q d2 (by omega))
  have hVq4 : Var w4 q _ _ _ _ _ := hVq2.kept (by rw [hw4, Below.heap_alloc _ _ _ (by omega)])
  have HD : Hid (∀ w5, Only p w4 w5 → Drawn w (set5 w5 q (.int .i64 op) (.int .i64 c) (.string s) (.bool no) (.slice ao n cp)) op c s no ao n cp) := by
    intro w5 h5
    rw [eq1]
    rw [hw4] at h5
    exact drawn_of (hb0.trans (hb1.mono (by omega))) (by omega) l1 hz hc hx ho2 (Only.refl _ _) h5
  have hlt4 : rb < w4.heap.size := by omega
  have hlq4 : q < w4.heap.size := by omega
  have kb : ∀ w5, Only p w4.drew w5 → Var w5 rb (.int .i64 op) (.int .i64 c) (.string s) (.bool no) (.slice ao n cp) := fun w5 h => hVb4.kept ((((Only.refl p w4).drewN 1).trans h).block rb d1 hlt4)
  have kq : ∀ w5, Only p w4.drew w5 → Var w5 q (.int .i64 0) (.int .i64 0) (.string ⟨#[]⟩) (.bool false) (.slice none 0 0) := fun w5 h => hVq4.kept ((((Only.refl p w4).drewN 1).trans h).block q d2 hlq4)
  have call := drawFit B p w4.drew (cur_drewN hC4 1)
  clear eq1 eq2 eq3 z1 z2 z4 l1 hw4 hrb hVq1 hVq2 hV0 hx hz hc ho2 hC1 hC2 hb1 hb0 Hq Hz0 Hp call2 hn hP hB hl
  obtain ⟨b0, b1, b2, b3, b4⟩ := hVb4.cell
  go_region_held3 (fun w' => w'.cell? ⟨rb, 0, none⟩ = some (.int .i64 op) ∧ w'.cell? ⟨rb, 1, none⟩ = some (.int .i64 c) ∧ w'.cell? ⟨rb, 2, none⟩ = some (.string s) ∧ w'.cell? ⟨rb, 3, none⟩ = some (.bool no) ∧ w'.cell? ⟨rb, 4, none⟩ = some (.slice ao n cp)) (go_keep) (first | (go_at_call 18; with_reducible refine call.mono ?_; rintro e w5 ⟨txt, rfl, htx, ho5, hC5⟩; obtain ⟨c0, c1, c2, c3, c4⟩ := (kb w5 ho5).cell; have hVq5 := kq w5 ho5; obtain ⟨q0, q1, q2, q3, q4⟩ := hVq5.cell; have y0 := hVq5.frozen 0; have y1 := hVq5.frozen 1; have y2 := hVq5.frozen 2; have y3 := hVq5.frozen 3; have y4 := hVq5.frozen 4))
  all_goals
    have HD5 : Hid (Drawn w (set5 w5 q (.int .i64 op) (.int .i64 c) (.string s) (.bool no) (.slice ao n cp)) op c s no ao n cp) := HD.out w5 (((Only.refl p w4).drewN 1).trans ho5)
    have hVf := set5_var (a' := .int .i64 op) (b' := .int .i64 c) (c' := .string s) (d' := .bool no) (u' := .slice ao n cp) hVq5
    obtain ⟨x0, x1, x2, x3, x4⟩ := hVf.cell
    unfold set5 at x0 x1 x2 x3 x4
    go_wp2_with fail
    refine bodyPost_ret (v := .tuple #[.agg #[.int .i64 op, .int .i64 c, .string s, .bool no, .slice ao n cp], .string txt]) (by simp [results, Tryz.results14, x0, x1, x2, x3, x4, go_sem]) rfl ?_
    exact ⟨_, _, _, _, _, _, _, _, rfl, htx, HD5.out⟩

end Dr
end Go.Proofs.YtgdnlmaacnnfiaaGreatDoor

namespace Go.Proofs.YtgdnlmaacnnfiaaGreatDoor
open Go.RowKit
namespace Rx

/-- The cursor at block p, at place i of s; whether it is none. -/
structure Cs (p : Nat) (s : ByteArray) (i : Int) (bad : Bool) (w : World) : Prop where
  text : w.cell? ⟨p, 0, none⟩ = some (.string s)
  pos : w.cell? ⟨p, 1, none⟩ = some (.int .i64 i)
  bad : w.cell? ⟨p, 2, none⟩ = some (.bool bad)
  fr1 : w.frozen? ⟨p, 1, none⟩ = false
  fr2 : w.frozen? ⟨p, 2, none⟩ = false

theorem Cs.lt {p : Nat} {s : ByteArray} {i : Int} {b : Bool} {w : World} (h : Cs p s i b w) : p < w.heap.size := World.block_lt_of_cell? w _ h.text
theorem Cs.kept {p : Nat} {s : ByteArray} {i : Int} {b : Bool} {w w' : World} (h : Cs p s i b w) (h1 : w'.heap[p]? = w.heap[p]?) : Cs p s i b w' :=
  ⟨(World.cell?_of_block h1).trans h.text, (World.cell?_of_block h1).trans h.pos, (World.cell?_of_block h1).trans h.bad, (World.frozen?_of_block h1).trans h.fr1, (World.frozen?_of_block h1).trans h.fr2⟩
theorem Cs.grown {p : Nat} {s : ByteArray} {i : Int} {b : Bool} {w w' : World} {row : Option Nat} (h : Cs p s i b w) (hg : w.grownBy w' row) (h1 : row ≠ some p) : Cs p s i b w' := h.kept (hg.block _ h.lt fun e => h1 e.symm)
theorem Cs.drewN {p : Nat} {s : ByteArray} {i : Int} {b : Bool} {w : World} (h : Cs p s i b w) (n : Nat) : Cs p s i b (w.drewN n) := ⟨h.text, h.pos, h.bad, h.fr1, h.fr2⟩
theorem Cs.alloc {p : Nat} {s : ByteArray} {i : Int} {b : Bool} {w : World} (h : Cs p s i b w) (o : Obj) : Cs p s i b (w.alloc o) := h.grown (World.grownBy_alloc _ _ none) (by simp)
theorem Cs.set {p : Nat} {s : ByteArray} {i : Int} {b : Bool} {w : World} (h : Cs p s i b w) (j : Int) : Cs p s j b (w.setCell ⟨p, 1, none⟩ (.int .i64 j)) := by
  refine ⟨?_, ?_, ?_, ?_, ?_⟩
  · rw [World.cell?_setCell_other _ _ _ _ (by simp)]; exact h.text
  · exact World.cell?_setCell_same _ _ _ h.pos
  · rw [World.cell?_setCell_other _ _ _ _ (by simp)]; exact h.bad
  · simpa using h.fr1
  · simpa using h.fr2
theorem Cs.spoil {p : Nat} {s : ByteArray} {i : Int} {b : Bool} {w : World} (h : Cs p s i b w) (x : Bool) : Cs p s i x (w.setCell ⟨p, 2, none⟩ (.bool x)) := by
  refine ⟨?_, ?_, ?_, ?_, ?_⟩
  · rw [World.cell?_setCell_other _ _ _ _ (by simp)]; exact h.text
  · rw [World.cell?_setCell_other _ _ _ _ (by simp)]; exact h.pos
  · exact World.cell?_setCell_same _ _ _ h.bad
  · simpa using h.fr1
  · simpa using h.fr2

/-- What l3Now answers. -/
def nowV (s : ByteArray) (i : Int) (bad : Bool) (b : Nat) : Bool := !bad && (decide (0 ≤ i) && decide (gOf s i.toNat = b))

theorem nowV_bad (s : ByteArray) (i : Int) (b : Nat) : nowV s i true b = false := rfl
theorem nowV_good (s : ByteArray) (i b : Nat) : nowV s i false b = decide (gOf s i = b) := by simp [nowV]

theorem sNow {p : Nat} {s : ByteArray} {i : Nat} {w : World} (h : Cs p s i false w) (hi : i ≤ s.size) (b : Nat) (c : Int) (hb : b < 256) (hc : c = b) :
    Calls Tryz.prog 96 #[.pointer (some ⟨p, 0, none⟩), .int .u8 c] w fun e w' => e = .returned (.bool (decide (gOf s i = b))) ∧ ∃ n, w' = w.drewN n := by
  subst hc
  have h1 := h.text
  have h2 := h.pos
  have h3 := h.bad
  rcases Nat.lt_or_ge i s.size with hq | hq
  · have H : Hid (gOf s i = s[i].toNat) := gOf_in hq
    go_enter Tryz.func96, Tryz.ntmps96
    go_wp2
    go_quiet (fail)
    go_wp2
    go_ret
    exact ⟨by rw [H.out]; exact congrArg (fun x => Ending.returned (Value.bool x)) (nat_eqb _ _), _, rfl⟩
  · have e1 : gOf s i = 256 := gOf_out hq
    have e2 : decide (256 = b) = false := decide_eq_false (by omega)
    have e3 : decide ((i : Int) < s.size) = false := decide_eq_false (by omega)
    have e4 : decide (i < s.size) = false := decide_eq_false (by omega)
    have e5 : ¬ i < s.size := by omega
    rw [e1, e2]
    clear e1 e2 hq
    go_enter Tryz.func96, Tryz.ntmps96
    go_wp2
    go_quiet (fail)
    go_wp2
    go_ret
    exact ⟨rfl, _, rfl⟩

theorem sNowBad {p : Nat} {s : ByteArray} {i : Int} {w : World} (h : Cs p s i true w) (c : Int) :
    Calls Tryz.prog 96 #[.pointer (some ⟨p, 0, none⟩), .int .u8 c] w fun e w' => e = .returned (.bool false) ∧ ∃ n, w' = w.drewN n := by
  have h3 := h.bad
  go_enter Tryz.func96, Tryz.ntmps96
  go_wp2
  go_quiet (fail)
  go_wp2
  go_ret
  exact ⟨rfl, _, rfl⟩

end Rx
end Go.Proofs.YtgdnlmaacnnfiaaGreatDoor

