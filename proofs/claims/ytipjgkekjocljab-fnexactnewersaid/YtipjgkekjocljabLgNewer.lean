/-
  Newer: the program's and the specification's; the law FnExactNewer at every log, number and term.
-/
import Derived.Test.YtipjgkekjocljabLgLast
namespace Go.Proofs.Ytipjgkekjocljab
open Go.RowKit
namespace Lg
open Oc (hold Blk)
set_option linter.unusedSimpArgs false
set_option linter.unusedVariables false

/-- Whether a last number and its term are no older than P and Q. -/
def newB (P Q i u : Int) : Bool := decide (Q < u) || (decide (u = Q) && decide (P ≤ i))

set_option maxRecDepth 100000 in
theorem iNewer {ao : Option Addr} {cap : Nat} {vs : List En} {b t i u : Int} {w : World} (hA : RdE w ao vs) (hn : vs.length ≤ 1048576) :
    Calls Try.prog 7 #[aggL b t ao vs.length cap, .int .i64 i, .int .i64 u] w fun e w' => e = .returned (.bool (newB (lastN b vs) (lastT t vs) i u)) ∧ Below w.heap.size w w' := by
  have b0 := box w (.cells #[.int .i64 b, .int .i64 t, .slice ao vs.length cap] 29)
  have call := iLastOf (b := b) (t := t) (cap := cap) (hA.below b0) hn
  generalize lastN b vs = P at *
  generalize lastT t vs = Q at *
  have B0 : Hid _ := b0
  obtain ⟨R, hR⟩ : ∃ R, R = newB P Q i u := ⟨_, rfl⟩
  rw [← hR]
  unfold newB at hR
  clear hA b0
  by_cases h1 : Q < u
  · have H : Hid (R = true) := hR.trans (by rw [decide_eq_true h1]; rfl)
    clear hR
    go_enter Try.func7, Try.ntmps7
    go_wp2_with (go_at_call 12; refine call.mono ?_; rintro e w2 ⟨rfl, hb2⟩)
    go_ret
    exact ⟨by rw [H.out] <;> simp, B0.out.trans (hb2.mono B0.out.size)⟩
  · have d1 : decide (Q < u) = false := decide_eq_false h1
    by_cases h2 : u = Q
    · subst h2
      have H : Hid (R = decide (P ≤ i)) := hR.trans (by rw [d1]; simp)
      clear hR
      go_enter Try.func7, Try.ntmps7
      go_wp2_with (go_at_call 12; refine call.mono ?_; rintro e w2 ⟨rfl, hb2⟩)
      go_ret
      exact ⟨by rw [H.out] <;> simp, B0.out.trans (hb2.mono B0.out.size)⟩
    · have e2 : (u == Q) = false := beq_eq_false_iff_ne.2 h2
      have H : Hid (R = false) := hR.trans (by rw [d1, decide_eq_false h2]; rfl)
      clear hR
      go_enter Try.func7, Try.ntmps7
      go_wp2_with (go_at_call 12; refine call.mono ?_; rintro e w2 ⟨rfl, hb2⟩)
      go_ret
      exact ⟨by rw [H.out] <;> simp, B0.out.trans (hb2.mono B0.out.size)⟩

set_option maxRecDepth 100000 in
theorem sNewer {ao : Option Addr} {cap : Nat} {vs : List En} {b t i u : Int} {w : World} (hA : RdE w ao vs) (hn : vs.length ≤ 1048576) :
    Calls Try.prog 5 #[aggL b t ao vs.length cap, .int .i64 i, .int .i64 u] w fun e w' => e = .returned (.bool (newB (lastN b vs) (lastT t vs) i u)) ∧ Below w.heap.size w w' := by
  have b0 := box w (.cells #[.int .i64 b, .int .i64 t, .slice ao vs.length cap] 29)
  have call := sLastOf (b := b) (t := t) (cap := cap) (hA.below b0) hn
  generalize lastN b vs = P at *
  generalize lastT t vs = Q at *
  have B0 : Hid _ := b0
  obtain ⟨R, hR⟩ : ∃ R, R = newB P Q i u := ⟨_, rfl⟩
  rw [← hR]
  unfold newB at hR
  clear hA b0
  by_cases h1 : Q < u
  · have H : Hid (R = true) := hR.trans (by rw [decide_eq_true h1]; rfl)
    clear hR
    go_enter Try.func5, Try.ntmps5
    go_wp2_with (go_at_call 10; refine call.mono ?_; rintro e w2 ⟨rfl, hb2⟩)
    go_ret
    exact ⟨by rw [H.out] <;> simp, B0.out.trans (hb2.mono B0.out.size)⟩
  · have d1 : decide (Q < u) = false := decide_eq_false h1
    by_cases h2 : u = Q
    · subst h2
      have H : Hid (R = decide (P ≤ i)) := hR.trans (by rw [d1]; simp)
      clear hR
      go_enter Try.func5, Try.ntmps5
      go_wp2_with (go_at_call 10; refine call.mono ?_; rintro e w2 ⟨rfl, hb2⟩)
      go_ret
      exact ⟨by rw [H.out] <;> simp, B0.out.trans (hb2.mono B0.out.size)⟩
    · have e2 : (u == Q) = false := beq_eq_false_iff_ne.2 h2
      have H : Hid (R = false) := hR.trans (by rw [d1, decide_eq_false h2]; rfl)
      clear hR
      go_enter Try.func5, Try.ntmps5
      go_wp2_with (go_at_call 10; refine call.mono ?_; rintro e w2 ⟨rfl, hb2⟩)
      go_ret
      exact ⟨by rw [H.out] <;> simp, B0.out.trans (hb2.mono B0.out.size)⟩

set_option maxHeartbeats 2000000 in
set_option maxRecDepth 100000 in
theorem lawNewer {ao : Option Addr} {cap : Nat} {vs : List En} {b t : Int} {w : World} (hA : RdE w ao vs) (hn : vs.length ≤ maxLen) (wb : (Lit.int .i64 b).wf = true) (i u : Int) :
    Calls Try.prog 3 #[aggL b t ao vs.length cap, .int .i64 i, .int .i64 u] w fun e w' => e = .returned (.bool true) ∧ Below w.heap.size w w' := by
  have L0 : Hid (Lw w [.int .i64 b, .int .i64 t, .slice ao vs.length cap] (w.alloc (.cells #[.int .i64 b, .int .i64 t, .slice ao vs.length cap] 24))) := Lw.new w [.int .i64 b, .int .i64 t, .slice ao vs.length cap]
  clear wb
  go_enter Try.func3, Try.ntmps3
  go_wp2_with (go_at_call 4; refine hold ?_)
  refine (lSzLog (hA.below L0.out.below) hn (by omega) (by omega)).mono ?_
  rintro e w1 ⟨z, rfl, z0, z1, hz, hb1⟩
  have L1 := L0.out.later hb1
  by_cases hz0 : z < 0
  · have HL := L1.below
    clear hz L1 hA hn
    go_wp2_with fail
    go_ret
    exact ⟨rfl, HL⟩
  · obtain ⟨n1, sm⟩ := hz.resolve_left hz0
    have smx := sme_max sm
    have tL : ∀ w', Below w.heap.size w w' → _ := fun w' h => lToLog (cap := cap) (b := b) (t := t) (hA.below h) n1
    have iL : ∀ w' g, St.Rows 45 encE w' g vs → _ := fun w' g h => iNewer (w := w') (cap := vs.length) (b := b) (t := t) (i := i) (u := u) (rows_rd h smx) n1
    have sL : ∀ w' g, St.Rows 45 encE w' g vs → _ := fun w' g h => sNewer (w := w') (cap := vs.length) (b := b) (t := t) (i := i) (u := u) (rows_rd h smx) n1
    have eL : ∀ w' g1 g2, St.Rows 45 encE w' g1 vs → St.Rows 45 encE w' g2 vs → _ := fun w' g1 g2 h1 h2 => lEqLog (w := w') (c1 := vs.length) (c2 := vs.length) (b := b) (t := t) (rows_rd h1 smx) (rows_rd h2 smx) (by omega)
    generalize newB (lastN b vs) (lastT t vs) i u = V at *
    generalize vs.length = n at *
    clear L0 hA hn hz n1 sm smx
    have q0 := L1.arg.cell 0 rfl
    have q1 := L1.arg.cell 1 rfl
    have q2 := L1.arg.cell 2 rfl
    go_wp2_with (go_at_call 6; refine hold ?_)
    clear q0 q1 q2
    refine (tL _ L1.below).mono ?_
    rintro e w2 ⟨g2, rfl, hg2, R2, hb2⟩
    have L2 := L1.later hb2
    go_wp2_with (go_at_call 5; refine hold ?_)
    refine (sL _ _ R2).mono ?_
    rintro e w3 ⟨rfl, hb3⟩
    have L3 := L2.later hb3
    have q0 := L3.arg.cell 0 rfl
    have q1 := L3.arg.cell 1 rfl
    have q2 := L3.arg.cell 2 rfl
    go_wp2_with (go_at_call 6; refine hold ?_)
    clear q0 q1 q2
    refine (tL _ L3.below).mono ?_
    rintro e w4 ⟨g4, rfl, hg4, R4, hb4⟩
    have L4 := L3.later hb4
    have L4a := L4.alloc (.cells #[.int .i64 b, .int .i64 t, .slice (some ⟨g4, 0, none⟩) n n] 29)
    have R4a : St.Rows 45 encE (w4.alloc (.cells #[.int .i64 b, .int .i64 t, .slice (some ⟨g4, 0, none⟩) n n] 29)) g4 vs := R4.kept (Below.heap_alloc _ _ _ R4.lt)
    have K4 := Blk.new 29 w4 [.int .i64 b, .int .i64 t, .slice (some ⟨g4, 0, none⟩) n n]
    go_wp2_with (go_at_call 7; refine hold ?_)
    refine (iL _ _ R4a).mono ?_
    rintro e w5 ⟨rfl, hb5⟩
    have L5 := L4a.later hb5
    have K5 := K4.below hb5
    have R5 := R4a.kept (hb5.block _ R4a.lt)
    have hd5 : Below w5.heap.size w5 w5.drew := (Below.refl _ w5).drew
    have L6 := L5.later hd5
    have K6 := K5.below hd5
    have R6 := R5.kept (hd5.block _ R5.lt)
    have q0 := L6.arg.cell 0 rfl
    have q1 := L6.arg.cell 1 rfl
    have q2 := L6.arg.cell 2 rfl
    have p0 := K6.cell 0 rfl
    have p1 := K6.cell 1 rfl
    have p2 := K6.cell 2 rfl
    have t6 : Hid _ := tL _ L6.below
    have HK : Hid (Lw w [.int .i64 b, .int .i64 t, .slice ao n cap] w5.drew ∧ St.Rows 45 encE w5.drew g4 vs) := ⟨L6, R6⟩
    have hS : Hid (∀ w7, Below w5.drew.heap.size w5.drew w7 → w7.cell? ⟨w4.heap.size, 0, none⟩ = some (.int .i64 b) ∧ w7.cell? ⟨w4.heap.size, 1, none⟩ = some (.int .i64 t) ∧ w7.cell? ⟨w4.heap.size, 2, none⟩ = some (.slice (some ⟨g4, 0, none⟩) n n)) := fun w7 h7 => ⟨(K6.below h7).cell 0 rfl, (K6.below h7).cell 1 rfl, (K6.below h7).cell 2 rfl⟩
    have eQ : Hid (∀ w7 g7, Below w5.drew.heap.size w5.drew w7 → St.Rows 45 encE w7 g7 vs → Calls Try.prog 8 #[aggL b t (some ⟨g4, 0, none⟩) n n, aggL b t (some ⟨g7, 0, none⟩) n n] w7 fun e w' => e = .returned (.bool true) ∧ Below w7.heap.size w7 w') := fun w7 g7 h7 r7 => eL w7 g4 g7 (R6.kept (h7.block _ R6.lt)) r7
    clear L1 L2 L3 L4 L4a L5 L6 R2 R4 R4a R5 R6 K4 K5 K6 hb1 hb2 hb3 hb4 hb5 tL iL sL eL hg2 hg4 hd5
    go_wp2_with fail
    go_region_with (first
      | (go_at_call 6; refine Calls.mono t6.out ?_; rintro e w7 ⟨g7, rfl, hg7, R7, hb7⟩; obtain ⟨x0, x1, x2⟩ := hS.out w7 hb7; have e7 : Hid _ := eQ.out w7 g7 hb7 R7)
      | (go_at_call 8; refine Calls.mono e7.out ?_; rintro e w8 ⟨rfl, hb8⟩))
    all_goals go_wp2_with fail
    all_goals go_ret
    all_goals exact ⟨rfl, ((HK.out.1.later hb7).later hb8).below⟩

end Lg
end Go.Proofs.Ytipjgkekjocljab
