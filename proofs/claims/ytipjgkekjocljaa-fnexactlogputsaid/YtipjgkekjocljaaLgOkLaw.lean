/-
  The law FnExactLogOk at every log.
-/
import Derived.Test.YtipjgkekjocljaaLgOk
namespace Go.Proofs.Ytipjgkekjocljaa
open Go.RowKit
namespace Lg
open Oc (hold Blk)
set_option linter.unusedSimpArgs false
set_option linter.unusedVariables false

/-- The argument stands in its variable, and nothing that was has turned. -/
structure Lw (w : World) (p : List Value) (wr : World) : Prop where
  below : Below w.heap.size w wr
  arg : Blk 24 wr w.heap.size p
theorem Lw.new (w : World) (p : List Value) : Lw w p (w.alloc (.cells p.toArray 24)) := ⟨(Below.refl _ w).alloc (Nat.le_refl _) _, Blk.new _ _ _⟩
theorem Lw.later {w wr w' : World} {p : List Value} (h : Lw w p wr) (hb : Below wr.heap.size wr w') : Lw w p w' := ⟨h.below.trans (hb.mono h.below.size), h.arg.below hb⟩
theorem Lw.alloc {w wr : World} {p : List Value} (h : Lw w p wr) (o : Obj) : Lw w p (wr.alloc o) := h.later ((Below.refl _ wr).alloc (Nat.le_refl _) o)
theorem box (w : World) (o : Obj) : Below w.heap.size w (w.alloc o) := (Below.refl _ w).alloc (Nat.le_refl _) o

set_option maxHeartbeats 2000000 in
set_option maxRecDepth 100000 in
theorem lawLogOk {ao : Option Addr} {cap : Nat} {vs : List En} {b t : Int} {w : World} (hA : RdE w ao vs) (hn : vs.length ≤ maxLen) :
    Calls Try.prog 3 #[aggL b t ao vs.length cap] w fun e w' => e = .returned (.bool true) ∧ Below w.heap.size w w' := by
  have L0 : Hid (Lw w [.int .i64 b, .int .i64 t, .slice ao vs.length cap] (w.alloc (.cells #[.int .i64 b, .int .i64 t, .slice ao vs.length cap] 24))) := Lw.new w [.int .i64 b, .int .i64 t, .slice ao vs.length cap]
  go_enter Try.func3, Try.ntmps3
  go_wp2_with (go_at_call 6; refine hold ?_)
  refine (lSzLog (hA.below L0.out.below) hn (by omega) (by omega)).mono ?_
  rintro e w1 ⟨z, rfl, z0, z1, hz, hb1⟩
  have L1 := L0.out.later hb1
  by_cases hz0 : z < 0
  · have HL := L1.below
    clear hz L1 hA hn
    go_wp2_with fail
    go_ret
    exact ⟨rfl, HL⟩
  · obtain ⟨n1, sm⟩ := hz.resolve_left hz0
    have n2 : vs.length ≤ 4194304 := by omega
    have smx := sme_max sm
    have tL : ∀ w', Below w.heap.size w w' → _ := fun w' h => lToLog (cap := cap) (b := b) (t := t) (hA.below h) n1
    have iL : ∀ w' g, St.Rows 47 encE w' g vs → _ := fun w' g h => iLogOk (w := w') (cap := vs.length) (b := b) (t := t) (rows_rd h smx) sm n2
    have sL : ∀ w' g, St.Rows 47 encE w' g vs → _ := fun w' g h => sLogOk (w := w') (cap := vs.length) (b := b) (t := t) (rows_rd h smx) sm n2
    have eL : ∀ w' g1 g2, St.Rows 47 encE w' g1 vs → St.Rows 47 encE w' g2 vs → _ := fun w' g1 g2 h1 h2 => lEqLog (w := w') (c1 := vs.length) (c2 := vs.length) (b := b) (t := t) (rows_rd h1 smx) (rows_rd h2 smx) (by omega)
    generalize logB b t vs = V at *
    generalize vs.length = n at *
    clear L0 hA hn hz n1 sm smx n2
    have q0 := L1.arg.cell 0 rfl
    have q1 := L1.arg.cell 1 rfl
    have q2 := L1.arg.cell 2 rfl
    go_wp2_with (go_at_call 8; refine hold ?_)
    clear q0 q1 q2
    refine (tL _ L1.below).mono ?_
    rintro e w2 ⟨g2, rfl, hg2, R2, hb2⟩
    have L2 := L1.later hb2
    go_wp2_with (go_at_call 7; refine hold ?_)
    refine (sL _ _ R2).mono ?_
    rintro e w3 ⟨rfl, hb3⟩
    have L3 := L2.later hb3
    have q0 := L3.arg.cell 0 rfl
    have q1 := L3.arg.cell 1 rfl
    have q2 := L3.arg.cell 2 rfl
    go_wp2_with (go_at_call 8; refine hold ?_)
    clear q0 q1 q2
    refine (tL _ L3.below).mono ?_
    rintro e w4 ⟨g4, rfl, hg4, R4, hb4⟩
    have L4 := L3.later hb4
    have L4a := L4.alloc (.cells #[.int .i64 b, .int .i64 t, .slice (some ⟨g4, 0, none⟩) n n] 29)
    have R4a : St.Rows 47 encE (w4.alloc (.cells #[.int .i64 b, .int .i64 t, .slice (some ⟨g4, 0, none⟩) n n] 29)) g4 vs := R4.kept (Below.heap_alloc _ _ _ R4.lt)
    have K4 := Blk.new 29 w4 [.int .i64 b, .int .i64 t, .slice (some ⟨g4, 0, none⟩) n n]
    go_wp2_with (go_at_call 9; refine hold ?_)
    refine (iL _ _ R4a).mono ?_
    rintro e w5 ⟨rfl, hb5⟩
    have L5 := L4a.later hb5
    have K5 := K4.below hb5
    have R5 := R4a.kept (hb5.block _ R4a.lt)
    have hd5 : Below w5.heap.size w5 w5.drew := (Below.refl _ w5).drew
    have L6 := L5.later hd5
    have K6 := K5.below hd5
    have R6 := R5.kept (hd5.block _ R5.lt)
    have q0 := L6.arg.cell 0 rfl
    have q1 := L6.arg.cell 1 rfl
    have q2 := L6.arg.cell 2 rfl
    have p0 := K6.cell 0 rfl
    have p1 := K6.cell 1 rfl
    have p2 := K6.cell 2 rfl
    have t6 : Hid _ := tL _ L6.below
    have HK : Hid (Lw w [.int .i64 b, .int .i64 t, .slice ao n cap] w5.drew ∧ St.Rows 47 encE w5.drew g4 vs) := ⟨L6, R6⟩
    have hS : Hid (∀ w7, Below w5.drew.heap.size w5.drew w7 → w7.cell? ⟨w4.heap.size, 0, none⟩ = some (.int .i64 b) ∧ w7.cell? ⟨w4.heap.size, 1, none⟩ = some (.int .i64 t) ∧ w7.cell? ⟨w4.heap.size, 2, none⟩ = some (.slice (some ⟨g4, 0, none⟩) n n)) := fun w7 h7 => ⟨(K6.below h7).cell 0 rfl, (K6.below h7).cell 1 rfl, (K6.below h7).cell 2 rfl⟩
    have eQ : Hid (∀ w7 g7, Below w5.drew.heap.size w5.drew w7 → St.Rows 47 encE w7 g7 vs → Calls Try.prog 10 #[aggL b t (some ⟨g4, 0, none⟩) n n, aggL b t (some ⟨g7, 0, none⟩) n n] w7 fun e w' => e = .returned (.bool true) ∧ Below w7.heap.size w7 w') := fun w7 g7 h7 r7 => eL w7 g4 g7 (R6.kept (h7.block _ R6.lt)) r7
    clear L1 L2 L3 L4 L4a L5 L6 R2 R4 R4a R5 R6 K4 K5 K6 hb1 hb2 hb3 hb4 hb5 tL iL sL eL hg2 hg4 hd5
    go_wp2_with fail
    go_region_with (first
      | (go_at_call 8; refine Calls.mono t6.out ?_; rintro e w7 ⟨g7, rfl, hg7, R7, hb7⟩; obtain ⟨x0, x1, x2⟩ := hS.out w7 hb7; have e7 : Hid _ := eQ.out w7 g7 hb7 R7)
      | (go_at_call 10; refine Calls.mono e7.out ?_; rintro e w8 ⟨rfl, hb8⟩))
    all_goals go_wp2_with fail
    all_goals go_ret
    all_goals exact ⟨rfl, ((HK.out.1.later hb7).later hb8).below⟩

end Lg
end Go.Proofs.Ytipjgkekjocljaa
