/-
  The draws of a pattern, a text to be fitted and a place: DrawMatchTree, DrawMatchRex.
  FnFits at all bytes.
-/
import Derived.Test.YtgdnlmaacnnfiaaGreatDoorQ45
import Derived.Test.YtgdnlmaacnnfiaaGreatDoorQ42
import Derived.Test.YtgdnlmaacnnfiaaGreatDoorQ24
import Derived.Test.YtgdnlmaacnnfiaaGreatDoorQ40
namespace Go.Proofs.YtgdnlmaacnnfiaaGreatDoor
open Go.RowKit Go.Extern
namespace Dr
set_option linter.unusedVariables false
open Rx (RexZ RexZs ndZ SetsZ SetsZs SetZ cnt cnts Var)

/-- A drawn tree, its cells in memory of its own behind what there was. -/
def Drawn (w : World) (w' : World) (op c : Int) (s : ByteArray) (no : Bool) (ao : Option Addr) (n cap : Nat) : Prop := ∃ t, SetsZ t ∧ cnt t ≤ 140 ∧ RexZ w' t (Rx.Iv w.heap.size w'.heap.size) [.int .i64 op, .int .i64 c, .string s, .bool no, .slice ao n cap] ∧ Below w.heap.size w w'

theorem drawn_of {p : Nat} {w W1 w2 w4 w5 : World} {o : Obj} {t : Data} {op c : Int} {s : ByteArray} {no : Bool} {ao : Option Addr} {n cap : Nat} (hb1 : Below w.heap.size w W1) (hp : w.heap.size < p) (hp1 : p < W1.heap.size) (hz : SetsZ t) (hc : cnt t ≤ 140)
    (hx : RexZ w2 t (Rx.Iv W1.heap.size w2.heap.size) [.int .i64 op, .int .i64 c, .string s, .bool no, .slice ao n cap]) (h2 : Only p W1 w2) (h4 : Only p (w2.alloc o) w4) (h5 : Only p w4 w5) :
    Drawn w (set5 w5 w.heap.size (.int .i64 op) (.int .i64 c) (.string s) (.bool no) (.slice ao n cap)) op c s no ao n cap := by
  have s1 := hb1.size
  have s2 := h2.size
  have s4 := h4.size
  have s5 := h5.size
  simp at s4
  have hb5 : Below w.heap.size w w5 := ((((hb1.trans (h2.below (by omega) (by omega))).alloc (by omega) o).trans (h4.below (by omega) (by simp; omega)))).trans (h5.below (by omega) (by omega))
  refine ⟨t, hz, hc, ?_, ?_⟩
  · refine rexZ_mono (fun k hk => ?_) (Rx.rexZ_frame _ _ _ (fun k hk => ?_) hx)
    · have := hk.1
      have := hk.2
      exact ⟨by omega, by rw [set5_size]; omega⟩
    · have k1 := hk.1
      have k2 := hk.2
      rw [set5_block _ _ _ (by omega), h5.block k (by omega) (by omega), h4.block k (by omega) (by simp; omega), Below.heap_alloc _ _ _ k2]
  · unfold set5
    exact ((((hb5.setCell (Nat.le_refl _) _).setCell (Nat.le_refl _) _).setCell (Nat.le_refl _) _).setCell (Nat.le_refl _) _).setCell (Nat.le_refl _) _

set_option maxHeartbeats 4000000 in
set_option maxRecDepth 100000 in
theorem vDrawMatchTree (hP : ParseOk) (sa : Option Addr) (len cap B : Nat) (w : World) (hB : B ≤ w.heap.size) (hl : len ≤ 1048576) (hy : Bytes B w sa len) :
    Calls Tryz.prog 6 #[.slice sa len cap] w fun e w' => ∃ (op c : Int) (s : ByteArray) (no : Bool) (ao : Option Addr) (n cp : Nat) (txt : ByteArray) (k : Int),
      e = .returned (.tuple #[.agg #[.int .i64 op, .int .i64 c, .string s, .bool no, .slice ao n cp], .string txt, .int .i64 k]) ∧ (txt.size : Int) ≤ 24 ∧ -1 ≤ k ∧ k ≤ (txt.size : Int) + 1 ∧ Drawn w w' op c s no ao n cp := by
  obtain ⟨q, hq⟩ : ∃ q, q = w.heap.size := ⟨_, rfl⟩
  obtain ⟨W0, hW0⟩ : ∃ W0, W0 = w.alloc (.cells #[.int .i64 0, .int .i64 0, .string ⟨#[]⟩, .bool false, .slice none 0 0] 26) := ⟨_, rfl⟩
  have hV0 : Var W0 q (.int .i64 0) (.int .i64 0) (.string ⟨#[]⟩) (.bool false) (.slice none 0 0) := by rw [hW0, hq]; exact heap_alloc_last _ _
  have hb0 : Below w.heap.size w W0 := by rw [hW0]; exact (Below.refl _ _).alloc (Nat.le_refl _) _
  have hz0 : W0.heap.size = q + 1 := by rw [hW0, hq]; simp
  obtain ⟨p, hp⟩ : ∃ p, p = W0.heap.size := ⟨_, rfl⟩
  have hn := new_any sa len cap B W0 (by omega) hl (hy.below (hb0.mono hB))
  rw [← hp] at hn
  go_enter Tryz.func6, Tryz.ntmps6
  go_upto_region 1 with fail
  rw [← hW0, ← hq]
  clear hW0 hy
  have Hq : Hid (q = w.heap.size) := hq
  have Hz0 : Hid (W0.heap.size = q + 1) := hz0
  have Hp : Hid (p = W0.heap.size) := hp
  clear hq hz0 hp
  go_upto_region 2 with (go_at_call 16; refine hn.mono ?_; rintro e w1 ⟨rfl, hb1, hC1⟩)
  have call2 := drawTree hP B p w1 hC1
  go_upto_region 3 with (go_at_call 17; refine call2.mono ?_; rintro e w2 ⟨t, op, c, s, no, ao, n, cp, rfl, hz, hc, hx, ho2, hC2⟩)
  obtain ⟨rb, hrb⟩ : ∃ rb, rb = w2.heap.size := ⟨_, rfl⟩
  obtain ⟨w3, hw3⟩ : ∃ w3, w3 = w2.alloc (.cells #[.int .i64 op, .int .i64 c, .string s, .bool no, .slice ao n cp] 26) := ⟨_, rfl⟩
  have hVb : Var w3 rb (.int .i64 op) (.int .i64 c) (.string s) (.bool no) (.slice ao n cp) := by rw [hw3, hrb]; exact heap_alloc_last _ _
  have hC3 : Cur B p w3 := by rw [hw3]; exact hC2.alloc _
  rw [← hw3, ← hrb]
  have Hw3 : Hid (w3 = w2.alloc (.cells #[.int .i64 op, .int .i64 c, .string s, .bool no, .slice ao n cp] 26)) := hw3
  have Hrb : Hid (rb = w2.heap.size) := hrb
  have call3 := drawFit B p w3 hC3
  clear hw3 hrb call2 hn
  go_upto_region 4 with (go_at_call 18; refine call3.mono ?_; rintro e w4 ⟨txt, rfl, htx, ho4, hC4⟩)
  have eq1 := Hq.out
  have eq2 := Hz0.out
  have eq3 := Hp.out
  have eq4 := Hrb.out
  have z1 := hb1.size
  have z2 := ho2.size
  have z4 := ho4.size
  have l1 := hC1.lt
  have hw3 := Hw3.out
  have z3 : w3.heap.size = w2.heap.size + 1 := by rw [hw3]; simp
  have d1 : rb ≠ p := by omega
  have d2 : q ≠ p := by omega
  have d3 : rb ≠ q := by omega
  have d4 : q ≠ rb := by omega
  have hVq1 := hV0.kept (hb1.block q (by omega))
  have hVq2 := hVq1.kept (ho2.block q d2 (by omega))
  have hVq3 : Var w3 q _ _ _ _ _ := hVq2.kept (by rw [hw3, Below.heap_alloc _ _ _ (by omega)])
  have hVq4 := hVq3.kept (ho4.block q d2 (by omega))
  have hVb4 := hVb.kept (ho4.block rb d1 (by omega))
  have HD : Hid (∀ w5, Only p w4 w5 → Drawn w (set5 w5 q (.int .i64 op) (.int .i64 c) (.string s) (.bool no) (.slice ao n cp)) op c s no ao n cp) := by
    intro w5 h5
    rw [eq1]
    rw [hw3] at ho4
    exact drawn_of (hb0.trans (hb1.mono (by omega))) (by omega) l1 hz hc hx ho2 ho4 h5
  have hlt4 : rb < w4.heap.size := by omega
  have hlq4 : q < w4.heap.size := by omega
  have kb : ∀ w5, Only p w4.drew w5 → Var w5 rb (.int .i64 op) (.int .i64 c) (.string s) (.bool no) (.slice ao n cp) := fun w5 h => hVb4.kept ((((Only.refl p w4).drewN 1).trans h).block rb d1 hlt4)
  have kq : ∀ w5, Only p w4.drew w5 → Var w5 q (.int .i64 0) (.int .i64 0) (.string ⟨#[]⟩) (.bool false) (.slice none 0 0) := fun w5 h => hVq4.kept ((((Only.refl p w4).drewN 1).trans h).block q d2 hlq4)
  have n0 : (0 : Int) < (txt.size : Int) + 3 := by omega
  have n1 : (txt.size : Int) + 3 ≤ 256 := by omega
  have hwr : IntKind.i64.wrap ((txt.size : Int) + 3) = (txt.size : Int) + 3 := by rw [IntKind.wrap_i64]; omega
  have hwx : ∀ x : Int, 0 ≤ x → x < (txt.size : Int) + 3 → IntKind.i64.wrap (x - 1) = x - 1 := fun x h0 h1 => by rw [IntKind.wrap_i64]; omega
  have call := fun wx h => below_small B p ((txt.size : Int) + 3) wx h n0 n1
  have call := call w4.drew (cur_drewN hC4 1)
  clear eq1 eq2 eq3 eq4 z1 z2 z3 z4 l1 hw3 hVq1 hVq2 hVq3 hV0 hVb hx hz hc ho2 ho4 hC1 hC2 hC3 hb1 hb0 Hq Hz0 Hp Hrb Hw3 call3 hP hB hl n0 n1
  obtain ⟨b0, b1, b2, b3, b4⟩ := hVb4.cell
  go_region_held3 (fun w' => w'.cell? ⟨rb, 0, none⟩ = some (.int .i64 op) ∧ w'.cell? ⟨rb, 1, none⟩ = some (.int .i64 c) ∧ w'.cell? ⟨rb, 2, none⟩ = some (.string s) ∧ w'.cell? ⟨rb, 3, none⟩ = some (.bool no) ∧ w'.cell? ⟨rb, 4, none⟩ = some (.slice ao n cp)) (go_keep) (first | (go_at_call 19; with_reducible refine call.mono ?_; rintro e w5 ⟨x, rfl, hx0, hx1, ho5, hC5⟩; have hwy := hwx x hx0 hx1; obtain ⟨c0, c1, c2, c3, c4⟩ := (kb w5 ho5).cell; have hVq5 := kq w5 ho5; obtain ⟨q0, q1, q2, q3, q4⟩ := hVq5.cell; have y0 := hVq5.frozen 0; have y1 := hVq5.frozen 1; have y2 := hVq5.frozen 2; have y3 := hVq5.frozen 3; have y4 := hVq5.frozen 4))
  all_goals
    have HD5 : Hid (Drawn w (set5 w5 q (.int .i64 op) (.int .i64 c) (.string s) (.bool no) (.slice ao n cp)) op c s no ao n cp) := HD.out w5 (((Only.refl p w4).drewN 1).trans ho5)
    have hVf := set5_var (a' := .int .i64 op) (b' := .int .i64 c) (c' := .string s) (d' := .bool no) (u' := .slice ao n cp) hVq5
    obtain ⟨x0, x1, x2, x3, x4⟩ := hVf.cell
    unfold set5 at x0 x1 x2 x3 x4
    go_wp2_with fail
    refine bodyPost_ret (v := .tuple #[.agg #[.int .i64 op, .int .i64 c, .string s, .bool no, .slice ao n cp], .string txt, .int .i64 (x - 1)]) (by simp [results, Tryz.results6, x0, x1, x2, x3, x4, go_sem]) rfl ?_
    exact ⟨_, _, _, _, _, _, _, _, _, rfl, htx, by omega, by omega, HD5.out⟩

set_option maxHeartbeats 4000000 in
set_option maxRecDepth 100000 in
theorem vDrawMatchRex (hP : ParseOk) (sa : Option Addr) (len cap B : Nat) (w : World) (hB : B ≤ w.heap.size) (hl : len ≤ 1048576) (hy : Bytes B w sa len) :
    Calls Tryz.prog 14 #[.slice sa len cap] w fun e w' => ∃ (op c : Int) (s : ByteArray) (no : Bool) (ao : Option Addr) (n cp : Nat) (txt : ByteArray),
      e = .returned (.tuple #[.agg #[.int .i64 op, .int .i64 c, .string s, .bool no, .slice ao n cp], .string txt]) ∧ (txt.size : Int) ≤ 24 ∧ Drawn w w' op c s no ao n cp := by
  obtain ⟨q, hq⟩ : ∃ q, q = w.heap.size := ⟨_, rfl⟩
  obtain ⟨W0, hW0⟩ : ∃ W0, W0 = w.alloc (.cells #[.int .i64 0, .int .i64 0, .string ⟨#[]⟩, .bool false, .slice none 0 0] 26) := ⟨_, rfl⟩
  have hV0 : Var W0 q (.int .i64 0) (.int .i64 0) (.string ⟨#[]⟩) (.bool false) (.slice none 0 0) := by rw [hW0, hq]; exact heap_alloc_last _ _
  have hb0 : Below w.heap.size w W0 := by rw [hW0]; exact (Below.refl _ _).alloc (Nat.le_refl _) _
  have hz0 : W0.heap.size = q + 1 := by rw [hW0, hq]; simp
  obtain ⟨p, hp⟩ : ∃ p, p = W0.heap.size := ⟨_, rfl⟩
  have hn := new_any sa len cap B W0 (by omega) hl (hy.below (hb0.mono hB))
  rw [← hp] at hn
  go_enter Tryz.func14, Tryz.ntmps14
  go_upto_region 1 with fail
  rw [← hW0, ← hq]
  clear hW0 hy
  have Hq : Hid (q = w.heap.size) := hq
  have Hz0 : Hid (W0.heap.size = q + 1) := hz0
  have Hp : Hid (p = W0.heap.size) := hp
  clear hq hz0 hp
  go_upto_region 2 with (go_at_call 16; refine hn.mono ?_; rintro e w1 ⟨rfl, hb1, hC1⟩)
  have call2 := drawTree hP B p w1 hC1
  go_upto_region 3 with (go_at_call 17; refine call2.mono ?_; rintro e w2 ⟨t, op, c, s, no, ao, n, cp, rfl, hz, hc, hx, ho2, hC2⟩)
  obtain ⟨rb, hrb⟩ : ∃ rb, rb = w2.heap.size := ⟨_, rfl⟩
  obtain ⟨w4, hw4⟩ : ∃ w4, w4 = w2.alloc (.cells #[.int .i64 op, .int .i64 c, .string s, .bool no, .slice ao n cp] 26) := ⟨_, rfl⟩
  have hVb4 : Var w4 rb (.int .i64 op) (.int .i64 c) (.string s) (.bool no) (.slice ao n cp) := by rw [hw4, hrb]; exact heap_alloc_last _ _
  have hC4 : Cur B p w4 := by rw [hw4]; exact hC2.alloc _
  rw [← hw4, ← hrb]
  have eq1 := Hq.out
  have eq2 := Hz0.out
  have eq3 := Hp.out
  have z1 := hb1.size
  have z2 := ho2.size
  have l1 := hC1.lt
  have z4 : w4.heap.size = w2.heap.size + 1 := by rw [hw4]; simp
  have d1 : rb ≠ p := by omega
  have d2 : q ≠ p := by omega
  have d3 : rb ≠ q := by omega
  have d4 : q ≠ rb := by omega
  have hVq1 := hV0.kept (hb1.block q (by omega))
  have hVq2 := hVq1.kept (ho2.block q d2 (by omega))
  have hVq4 : Var w4 q _ _ _ _ _ := hVq2.kept (by rw [hw4, Below.heap_alloc _ _ _ (by omega)])
  have HD : Hid (∀ w5, Only p w4 w5 → Drawn w (set5 w5 q (.int .i64 op) (.int .i64 c) (.string s) (.bool no) (.slice ao n cp)) op c s no ao n cp) := by
    intro w5 h5
    rw [eq1]
    rw [hw4] at h5
    exact drawn_of (hb0.trans (hb1.mono (by omega))) (by omega) l1 hz hc hx ho2 (Only.refl _ _) h5
  have hlt4 : rb < w4.heap.size := by omega
  have hlq4 : q < w4.heap.size := by omega
  have kb : ∀ w5, Only p w4.drew w5 → Var w5 rb (.int .i64 op) (.int .i64 c) (.string s) (.bool no) (.slice ao n cp) := fun w5 h => hVb4.kept ((((Only.refl p w4).drewN 1).trans h).block rb d1 hlt4)
  have kq : ∀ w5, Only p w4.drew w5 → Var w5 q (.int .i64 0) (.int .i64 0) (.string ⟨#[]⟩) (.bool false) (.slice none 0 0) := fun w5 h => hVq4.kept ((((Only.refl p w4).drewN 1).trans h).block q d2 hlq4)
  have call := drawFit B p w4.drew (cur_drewN hC4 1)
  clear eq1 eq2 eq3 z1 z2 z4 l1 hw4 hrb hVq1 hVq2 hV0 hx hz hc ho2 hC1 hC2 hb1 hb0 Hq Hz0 Hp call2 hn hP hB hl
  obtain ⟨b0, b1, b2, b3, b4⟩ := hVb4.cell
  go_region_held3 (fun w' => w'.cell? ⟨rb, 0, none⟩ = some (.int .i64 op) ∧ w'.cell? ⟨rb, 1, none⟩ = some (.int .i64 c) ∧ w'.cell? ⟨rb, 2, none⟩ = some (.string s) ∧ w'.cell? ⟨rb, 3, none⟩ = some (.bool no) ∧ w'.cell? ⟨rb, 4, none⟩ = some (.slice ao n cp)) (go_keep) (first | (go_at_call 18; with_reducible refine call.mono ?_; rintro e w5 ⟨txt, rfl, htx, ho5, hC5⟩; obtain ⟨c0, c1, c2, c3, c4⟩ := (kb w5 ho5).cell; have hVq5 := kq w5 ho5; obtain ⟨q0, q1, q2, q3, q4⟩ := hVq5.cell; have y0 := hVq5.frozen 0; have y1 := hVq5.frozen 1; have y2 := hVq5.frozen 2; have y3 := hVq5.frozen 3; have y4 := hVq5.frozen 4))
  all_goals
    have HD5 : Hid (Drawn w (set5 w5 q (.int .i64 op) (.int .i64 c) (.string s) (.bool no) (.slice ao n cp)) op c s no ao n cp) := HD.out w5 (((Only.refl p w4).drewN 1).trans ho5)
    have hVf := set5_var (a' := .int .i64 op) (b' := .int .i64 c) (c' := .string s) (d' := .bool no) (u' := .slice ao n cp) hVq5
    obtain ⟨x0, x1, x2, x3, x4⟩ := hVf.cell
    unfold set5 at x0 x1 x2 x3 x4
    go_wp2_with fail
    refine bodyPost_ret (v := .tuple #[.agg #[.int .i64 op, .int .i64 c, .string s, .bool no, .slice ao n cp], .string txt]) (by simp [results, Tryz.results14, x0, x1, x2, x3, x4, go_sem]) rfl ?_
    exact ⟨_, _, _, _, _, _, _, _, rfl, htx, HD5.out⟩

end Dr
end Go.Proofs.YtgdnlmaacnnfiaaGreatDoor

namespace Go.Proofs.YtgdnlmaacnnfiaaGreatDoor
open Go.RowKit Go.Extern
namespace Ft
set_option linter.unusedVariables false
open Rx Clo Mt Un Nf

theorem fit_big (sa : Option Addr) (len cap : Nat) (w : World) (h : (1048576 : Int) < len) :
    Calls Tryz.prog 3 #[.slice sa len cap] w fun e w' => e = .returned (.bool true) ∧ Below w.heap.size w w' := by
  have e1 : decide ((1048576 : Int) < len) = true := decide_eq_true h
  have e2 : decide (1048576 < len) = true := decide_eq_true (by omega)
  go_enter Tryz.func3, Tryz.ntmps3
  go_wp2_with (first | (go_at_call 5; go_in))
  all_goals first | (go_ret; exact ⟨rfl, Below.refl _ _⟩) | exact ⟨rfl, Below.refl _ _⟩

/-- NfaOf of what is not right. -/
theorem iNfaNot (op cc : Int) (ss : ByteArray) (no : Bool) (ao : Option Addr) (n cap : Nat) (w : World)
    (hOk : RexOkTells w 11 (.agg #[.int .i64 op, .int .i64 cc, .string ss, .bool no, .slice ao n cap]) false) :
    Calls Tryz.prog 10 #[.agg #[.int .i64 op, .int .i64 cc, .string ss, .bool no, .slice ao n cap]] w fun e w' => e = .returned (.slice none 0 0) ∧ Below w.heap.size w w' := by
  have call := fun o => hOk (w.alloc o) ((Below.refl _ w).alloc (Nat.le_refl _) o)
  have hb : ∀ o, Below w.heap.size w (w.alloc o) := fun o => (Below.refl _ w).alloc (Nat.le_refl _) o
  clear hOk
  go_enter Tryz.func10, Tryz.ntmps10
  go_wp2_with (go_at_call 11; refine (call _).mono ?_; rintro e w2 ⟨rfl, hb2⟩)
  go_ret
  exact ⟨rfl, (hb _).trans (hb2.mono (by simp))⟩

/-- NfaOk of too many places. -/
theorem iNfaMany (ao : Option Addr) (n cap : Nat) (h : 400 < n) (hn : n ≤ 100000) (w : World) : Calls Tryz.prog 12 #[.slice ao n cap] w fun e w' => e = .returned (.bool false) ∧ w' = w := by
  have d1 : decide ((400 : Int) < (n : Int)) = true := decide_eq_true (by omega)
  have d3 : (400 : Int) < n := by omega
  have d2 : ((n : Int) == 0) = false := by simp; omega
  go_enter Tryz.func12, Tryz.ntmps12
  go_wp2_with fail
  go_ret
  exact ⟨rfl, rfl⟩

theorem nums_far {M : Nat → Bool} {j : Nat} : ∀ d, (∀ j', j < j' → j' < j + 1 + d → M j' = false) → Clo.nums M (j + 1 + d) = Clo.nums M (j + 1)
  | 0, _ => rfl
  | d + 1, h => by
    rw [← Nat.add_assoc, Clo.nums_out (h _ (by omega) (by omega))]
    exact nums_far d fun j' a b => h j' a (by omega)
theorem nums_none {M : Nat → Bool} : ∀ d, (∀ j', j' < d → M j' = false) → Clo.nums M d = []
  | 0, _ => rfl
  | d + 1, h => by
    rw [Clo.nums_out (h _ (by omega))]
    exact nums_none d fun j' a => h j' (by omega)

/-- The longest piece of the places is the last end of the pattern. -/
theorem ends_to {t : Data} {txt : ByteArray} {k : Int} {P : Nat → Pl} {tt : Int} (hR : RightD 12 t) (hA : At P 12 t 0) (hD : P (nl t) = doneP)
    (h : (¬ (0 ≤ k ∧ k ≤ txt.size) ∧ tt = -1) ∨ ∃ i : Nat, k = i ∧ i ≤ txt.size ∧ To P (gOf txt) txt.size i (nl t) (txt.size + 1) tt) : (tt = -1 ∧ ends t txt k = []) ∨ ∃ l, ends t txt k = l ++ [tt] := by
  rcases h with ⟨h, rfl⟩ | ⟨i, rfl, hi, hT⟩
  · refine .inl ⟨rfl, ends_out ?_⟩
    right
    omega
  · rw [ends_in hR (by omega) (by omega), Int.toNat_natCast]
    have hM : ∀ j, endsB (gOf txt) txt.size t i j = true ↔ Run P (gOf txt) txt.size 0 i (nl t) j := fun j => by rw [endsB_iff, run_iff hA hD]
    have hF : ∀ j, ¬ Run P (gOf txt) txt.size 0 i (nl t) j → endsB (gOf txt) txt.size t i j = false := fun j hn => by
      cases e : endsB (gOf txt) txt.size t i j with
      | false => rfl
      | true => exact absurd ((hM j).1 e) hn
    rcases hT with ⟨rfl, h⟩ | ⟨j, rfl, hj, hr, h⟩
    · exact .inl ⟨rfl, nums_none _ fun j' a => hF j' (h j' a)⟩
    · refine .inr ⟨Clo.nums (endsB (gOf txt) txt.size t i) j, ?_⟩
      have := nums_far (M := endsB (gOf txt) txt.size t i) (j := j) (txt.size - j) fun j' a b => hF j' (h j' a (by omega))
      rw [show j + 1 + (txt.size - j) = txt.size + 1 by omega] at this
      rw [this, Clo.nums_in ((hM j).2 hr)]

set_option maxHeartbeats 4000000 in
set_option maxRecDepth 100000 in
theorem lawFit (hP : Dr.ParseOk) (sa : Option Addr) (len cap : Nat) (ad : Addr) (w : World) (hl : len ≤ 1048576) (hSet : SetOk w) (he : ErrAt ad w) (hy : Bytes w.heap.size w sa len) :
    Calls Tryz.prog 3 #[.slice sa len cap] w fun e w' => e = .returned (.bool true) ∧ Below w.heap.size w w' := by
  have call1 := Dr.vDrawMatchTree hP sa len cap w.heap.size w (Nat.le_refl _) hl hy
  have e1 : decide ((1048576 : Int) < len) = false := decide_eq_false (by omega)
  have e2 : decide (1048576 < len) = false := decide_eq_false (by omega)
  go_enter Tryz.func3, Tryz.ntmps3
  go_upto_region 4 with (first | (go_at_call 5; go_in) | (go_at_call 6; refine call1.mono ?_; rintro e w1 ⟨op, c, s, no, ao, n, cp, txt, k, rfl, htx, hk0, hk1, ta, hza, hca, hxa, hb1⟩))
  clear call1 e1 e2 hP hy hl
  obtain ⟨ba, hba⟩ : ∃ ba, ba = w1.heap.size := ⟨_, rfl⟩
  obtain ⟨wa, hwa⟩ : ∃ wa, wa = w1.alloc (.cells #[.int .i64 op, .int .i64 c, .string s, .bool no, .slice ao n cp] 26) := ⟨_, rfl⟩
  have hVa : Var wa ba (.int .i64 op) (.int .i64 c) (.string s) (.bool no) (.slice ao n cp) := by rw [hwa, hba]; exact heap_alloc_last _ _
  have hb1a : Below w1.heap.size w1 wa := by rw [hwa]; exact (Below.refl _ _).alloc (Nat.le_refl _) _
  have hwa' : Below w.heap.size w wa := hb1.trans (hb1a.mono hb1.size)
  have hxa := rexZ_frame _ _ _ (fun j hj => hb1a.block j hj.2) hxa
  have hSa : ∀ j, Iv w.heap.size w1.heap.size j → j < wa.heap.size := fun j hj => by have := hj.2; have := hb1a.size; omega
  rw [← hwa, ← hba]
  clear hwa hba hb1 hb1a
  have bt : txt.size ≤ 1000 := by omega
  obtain ⟨X, HX⟩ : ∃ X, Hid (X = ends ta txt k) := ⟨_, rfl⟩
  have hXl : X.length ≤ 25 := by rw [HX.out]; have := ends_len ta txt k; omega
  have up : ∀ wx, Below wa.heap.size wa wx → Below w.heap.size w wx := fun wx hb => hwa'.trans (hb.mono hwa'.size)
  have cA : ∀ wx, Below wa.heap.size wa wx → Calls Tryz.prog 7 #[.agg #[.int .i64 op, .int .i64 c, .string s, .bool no, .slice ao n cp], .string txt, .int .i64 k] wx fun e w' => Un.Tells X wx e w' := fun wx hb => by
    rw [HX.out]
    have hf := frameS hxa hSa hb
    exact iMatchAny hSet he hza (by omega) txt bt k wx (up wx hb) _ _ _ _ _ _ hf.1 hf.2
  have sA : ∀ wx, Below wa.heap.size wa wx → Calls Tryz.prog 9 #[.agg #[.int .i64 op, .int .i64 c, .string s, .bool no, .slice ao n cp], .string txt, .int .i64 k] wx fun e w' => Un.Tells X wx e w' := fun wx hb => by
    rw [HX.out]
    have hf := frameS hxa hSa hb
    exact sMatchAny hza (by omega) txt bt k wx _ _ _ _ _ _ hf.1 hf.2
  have okA : ∀ wx, Below wa.heap.size wa wx → Calls Tryz.prog 11 #[.agg #[.int .i64 op, .int .i64 c, .string s, .bool no, .slice ao n cp]] wx fun e w' => e = .returned (.bool (okB ta)) ∧ Below wx.heap.size wx w' := fun wx hb =>
    iRexOkAny hSet he hza (by omega) wx (up wx hb) _ _ _ _ _ _ (frameS hxa hSa hb).1 (frameS hxa hSa hb).2
  have same : ∀ wx a a' p p', Nums wx a X → Nums wx a' X → Calls Tryz.prog 8 #[.slice a X.length p, .slice a' X.length p'] wx fun e w' => e = .returned (.bool true) ∧ ∃ m, w' = wx.drewN m := fun wx a a' p p' h1 h2 => lSameInts X (by omega) a a' p p' wx h1 h2
  have bA : ∀ wx, Below wa.heap.size wa wx → Var wx ba (.int .i64 op) (.int .i64 c) (.string s) (.bool no) (.slice ao n cp) := fun wx hb => hVa.kept (hb.block ba hVa.lt)
  obtain ⟨a0, a1, a2, a3, a4⟩ := hVa.cell
  have call5 := cA wa (Below.refl _ _)
  go_upto_region 5 with (go_at_call 7; refine call5.mono ?_; rintro e w3 ⟨ax, px, rfl, hNx, hb3⟩)
  clear call5 a0 a1 a2 a3 a4
  obtain ⟨a0, a1, a2, a3, a4⟩ := (bA w3 hb3).cell
  have call6 := sA w3 hb3
  go_upto_region 7 with (first | (go_at_call 9; refine call6.mono ?_; rintro e w4 ⟨ax', px', rfl, hNx', hb4⟩; have call7 := same w4 _ _ px px' (hNx.on hb4) hNx') | (go_at_call 8; refine call7.mono ?_; rintro e w5 ⟨rfl, m5, rfl⟩))
  obtain ⟨w5, hw5⟩ : ∃ w5, w5 = w4.drewN m5 := ⟨_, rfl⟩
  have hb5 : Below wa.heap.size wa w5 := by rw [hw5]; exact Rx.below_drewP (hb3.trans (hb4.mono hb3.size)) _
  have hN5 : Nums w5 ax X := by rw [hw5]; exact (hNx.on hb4).on (Rx.below_drewP (Below.refl _ _) _)
  rw [← hw5]
  clear hw5 hb3 hb4 hNx hNx' call6 call7 same sA cA a0 a1 a2 a3 a4
  obtain ⟨a0, a1, a2, a3, a4⟩ := (bA w5 hb5).cell
  have hlI : (X.length : Int) ≤ 25 := by omega
  by_cases hR : RightD 12 ta
  · have hX5 := rex_ofZ 12 ta hR _ _ (frameS hxa hSa hb5).1
    have call7 := iNfaOfC hSet hR (by omega) w5 (up w5 hb5) _ _ _ _ _ _ hX5 (frameS hxa hSa hb5).2
    have hnl := nl_le ta
    have okT := okA
    rw [okB_iff.2 hR] at okT
    go_upto_region 8 with (go_at_call 10; refine call7.mono ?_; rintro e w6 ⟨la, lc, P, xs, rfl, hown, hxs, hAt, hD, hb6⟩)
    have hb6a : Below wa.heap.size wa w6 := hb5.trans (hb6.mono hb5.size)
    obtain ⟨g, rfl, hpr, hcap, _⟩ := pr_owns hown hxs (by omega)
    clear a0 a1 a2 a3 a4 call7
    obtain ⟨a0, a1, a2, a3, a4⟩ := (bA w6 hb6a).cell
    have call8 := okT w6 hb6a
    obtain ⟨M, HM⟩ : ∃ M, Hid (M = nl ta) := ⟨_, rfl⟩
    rw [← HM.out] at hown hxs hD hpr hcap hnl ⊢
    have HD : Hid (P M = doneP) := hD
    have HA : Hid (At P 12 ta 0) := hAt
    clear hown hxs hD hAt hX5
    have hN6 := hN5.on hb6
    by_cases hbig : M + 1 ≤ 400
    · have hG : ∀ p, p < M → Nf.Good M (P p) := fun p hp => by
        have := at_good 12 ta 0 HA.out p (Nat.zero_le _) (by rw [Nat.zero_add, ← HM.out]; exact hp)
        rwa [Nat.zero_add, ← HM.out] at this
      have hDM : P (nl ta) = doneP := by rw [← HM.out]; exact HD.out
      have call9 := fun w7 (hb7 : Below w6.heap.size w6 w7) => iNfaOkC hbig hcap hG HD.out w7 (hpr.below hb7)
      have call10 := fun w8 (hb8 : Below w6.heap.size w6 w8) => iMatchAt (txt := txt) hbig hcap hG HD.out bt k w8 (hpr.below hb8) (fun i p j hr => by rw [HM.out]; exact run_le HA.out hDM hr)
      have Hend : Hid (∀ tt : Int, ((¬ (0 ≤ k ∧ k ≤ txt.size) ∧ tt = -1) ∨ ∃ i : Nat, k = i ∧ i ≤ txt.size ∧ To P (gOf txt) txt.size i M (txt.size + 1) tt) → (tt = -1 ∧ X = []) ∨ ∃ l, X = l ++ [tt]) := fun tt h => by
        rw [HX.out]
        rw [HM.out] at h
        exact ends_to hR HA.out hDM h
      obtain ⟨n1, Hn1⟩ : ∃ n1, Hid (n1 = M + 1) := ⟨_, rfl⟩
      rw [← Hn1.out] at call9 call10 ⊢
      have call9 := fun w7 hb7 => call9 w7 hb7
      clear hG hDM hpr hcap hbig hnl hR HX
      go_upto_region 10 with (first | (go_at_call 11; refine call8.mono ?_; rintro e w7 ⟨rfl, hb7⟩) | (go_at_call 12; refine (call9 w7 hb7).mono ?_; rintro e w8 ⟨rfl, hb8⟩))
      have hb8' : Below w6.heap.size w6 w8 := hb7.trans (hb8.mono hb7.size)
      have call11 := call10 w8 hb8'
      go_upto_region 11 with (go_at_call 13; refine call11.mono ?_; rintro e w9 ⟨tt, rfl, hTT, hb9⟩)
      have hb9' : Below w6.heap.size w6 w9 := hb8'.trans (hb9.mono hb8'.size)
      have hN9 := hN6.on hb9'
      have hup := up w9 (hb6a.trans (hb9'.mono hb6a.size))
      rcases Hend.out tt hTT with ⟨rfl, rfl⟩ | ⟨l, rfl⟩
      · clear hTT call8 call9 call10 call11 okA okT bA Hend
        go_wp2_with fail
        go_ret
        exact ⟨rfl, hup⟩
      · obtain ⟨b, o, rfl, hbl, hcell⟩ := hN9 l.length tt (by simp)
        have hln : (l ++ [tt]).length = l.length + 1 := by simp
        rw [hln] at hlI ⊢
        have hlI' : (l.length : Int) + 1 ≤ 25 := by omega
        clear hTT call8 call9 call10 call11 okA okT bA Hend hln hXl hlI hN5 hN6 hN9
        go_wp2_with fail
        go_ret
        exact ⟨by first | rfl | simp, hup⟩
    · have hbI : 400 < M + 1 := by omega
      have call9 := fun wx => iNfaMany (some ⟨g, 0, none⟩) (M + 1) lc hbI (by omega) wx
      obtain ⟨n1, Hn1⟩ : ∃ n1, Hid (n1 = M + 1) := ⟨_, rfl⟩
      rw [← Hn1.out] at call9 ⊢
      clear hpr hcap hbig hnl hR HX hbI
      by_cases hX0 : X = []
      · subst hX0
        go_wp2_with (first | (go_at_call 11; with_reducible refine call8.mono ?_; rintro e w7 ⟨rfl, hb7⟩) | (go_at_call 12; refine (call9 w7).mono ?_; rintro e w8 ⟨rfl, hw⟩; have hw := hw.symm; subst hw))
        go_ret
        exact ⟨rfl, up w7 (hb6a.trans (hb7.mono hb6a.size))⟩
      · have hX1 : 0 < X.length := List.length_pos_iff.2 hX0
        have hX2 : ((X.length : Int) == 0) = false := by simp [hX0]
        clear hX0
        have okT' := fun w7 (hb7 : Below w6.heap.size w6 w7) => okT w7 (hb6a.trans (hb7.mono hb6a.size))
        have bA' := fun w7 (hb7 : Below w6.heap.size w6 w7) => bA w7 (hb6a.trans (hb7.mono hb6a.size))
        go_upto_region 9 with (first | (go_at_call 11; with_reducible refine call8.mono ?_; rintro e w7 ⟨rfl, hb7⟩) | (go_at_call 12; refine (call9 w7).mono ?_; rintro e w8 ⟨rfl, hw⟩; have hw := hw.symm; subst hw))
        clear a0 a1 a2 a3 a4 call8
        obtain ⟨a0, a1, a2, a3, a4⟩ := (bA' w7 hb7).cell
        have call12 := okT' w7 hb7
        go_wp2_with (go_at_call 11; refine call12.mono ?_; rintro e w9 ⟨rfl, hb9⟩)
        go_ret
        exact ⟨rfl, up w9 ((hb6a.trans (hb7.mono hb6a.size)).trans (hb9.mono (by have := hb6a.size; have := hb7.size; omega)))⟩
  · have okT := okA
    rw [okB_not hR] at okT
    have hX0 : X = [] := by rw [HX.out]; exact ends_out (.inl (okB_not hR))
    have call7 := iNfaNot op c s no ao n cp w5 (fun wx hb => okT wx (hb5.trans (hb.mono hb5.size)))
    subst hX0
    go_upto_region 8 with (go_at_call 10; refine call7.mono ?_; rintro e w6 ⟨rfl, hb6⟩)
    have hb6a : Below wa.heap.size wa w6 := hb5.trans (hb6.mono hb5.size)
    clear a0 a1 a2 a3 a4
    obtain ⟨a0, a1, a2, a3, a4⟩ := (bA w6 hb6a).cell
    have call8 := okT w6 hb6a
    go_wp2_with (go_at_call 11; refine call8.mono ?_; rintro e w7 ⟨rfl, hb7⟩)
    go_ret
    exact ⟨rfl, up w7 (hb6a.trans (hb7.mono hb6a.size))⟩

theorem lawAll (sa : Option Addr) (len cap : Nat) (a : Addr) (m : Int) (w : World) (hP : Dr.ParseOk) (hc : w.cell? ⟨0, 0, none⟩ = some (.iface 183 (.pointer (some a))))
    (hm : w.cell? ⟨1, 0, none⟩ = some (.int .i64 m)) (hy : Bytes w.heap.size w sa len) :
    Calls Tryz.prog 3 #[.slice sa len cap] w fun e w' => e = .returned (.bool true) ∧ Below w.heap.size w w' := by
  by_cases h : len ≤ 1048576
  · exact lawFit hP sa len cap a w h (setOk hm) hc hy
  · exact fit_big sa len cap w (by omega)

end Ft
end Go.Proofs.YtgdnlmaacnnfiaaGreatDoor

