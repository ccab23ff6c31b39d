/-
  LastOf: the program's and the specification's; the law FnExactLastOf at every log.
-/
import Derived.Test.YtipjgkekjocljaaLgOkLaw
namespace Go.Proofs.Ytipjgkekjocljaa
open Go.RowKit
namespace Lg
open Oc (hold Blk)
set_option linter.unusedSimpArgs false
set_option linter.unusedVariables false

/-- The last number, and its term. -/
def lastN (b : Int) (L : List En) : Int := if L.length = 0 then b else wrap64 (b + L.length)
def lastT (t : Int) (L : List En) : Int := match L.getLast? with | some v => v.1 | none => t
theorem lastT_at {t : Int} {L : List En} (h : 0 < L.length) : ∃ v, L[L.length - 1]? = some v ∧ lastT t L = v.1 := by
  obtain ⟨v, hv⟩ : ∃ v, L[L.length - 1]? = some v := ⟨_, List.getElem?_eq_getElem (by omega)⟩
  refine ⟨v, hv, ?_⟩
  unfold lastT
  rw [List.getLast?_eq_getElem?, hv]

theorem iEntriesOf (b t : Int) (ao : Option Addr) (n c : Nat) (w : World) :
    Calls Try.prog 25 #[aggL b t ao n c] w fun e w' => e = .returned (.agg #[.int .i64 b, .slice ao n c]) ∧ Below w.heap.size w w' := by
  go_enter Try.func25, Try.ntmps25
  go_wp2_with fail
  refine bodyPost_ret (v := .agg #[.int .i64 b, .slice ao n c]) ?_ rfl ⟨rfl, ?_⟩
  · simp [results, Try.results25, go_sem]
  · repeat (first | refine Below.setCell ?_ (by simp <;> omega) _ | refine Below.alloc ?_ (by simp <;> omega) _)
    exact Below.refl _ _

theorem iLast (b : Int) (ao : Option Addr) (n c : Nat) (w : World) (hn : n ≤ 1048576) :
    Calls Try.prog 26 #[.agg #[.int .i64 b, .slice ao n c]] w fun e w' => e = .returned (.int .i64 (wrap64 (b + n))) ∧ Below w.heap.size w w' := by
  have bn : (n : Int) ≤ 1048576 := by omega
  go_enter Try.func26, Try.ntmps26
  go_wp2_with fail
  go_ret
  exact ⟨rfl, box _ _⟩

set_option maxHeartbeats 4000000 in
set_option maxRecDepth 100000 in
theorem iLastOf {ao : Option Addr} {cap : Nat} {vs : List En} {b t : Int} {w : World} (hA : RdE w ao vs) (hn : vs.length ≤ 1048576) :
    Calls Try.prog 12 #[aggL b t ao vs.length cap] w fun e w' => e = .returned (.tuple #[.int .i64 (lastN b vs), .int .i64 (lastT t vs)]) ∧ Below w.heap.size w w' := by
  by_cases h0 : vs.length = 0
  · obtain rfl : vs = [] := List.eq_nil_of_length_eq_zero h0
    have e1 : lastN b ([] : List En) = b := rfl
    have e2 : lastT t ([] : List En) = t := rfl
    rw [e1, e2]
    clear hA hn h0 e1 e2
    simp only [List.length_nil]
    go_enter Try.func12, Try.ntmps12
    go_wp2_with fail
    go_quiet (fail)
    go_wp2_with fail
    go_ret2
    have hb := box w (.cells #[.int .i64 b, .int .i64 t, .slice ao 0 cap] 29)
    exact ⟨rfl, hb.os, hb.tape, hb.output, hb.size, hb.block⟩
  · obtain ⟨v, hv, hT⟩ := lastT_at (t := t) (L := vs) (by omega)
    obtain ⟨bb, o, rfl, hbl, _, p0, _⟩ := hA _ v hv
    have hN : lastN b vs = wrap64 (b + vs.length) := if_neg h0
    rw [hN, hT]
    have bn : (vs.length : Int) ≤ 1048576 := by omega
    clear hA hv hT hN
    obtain ⟨m, hm⟩ : ∃ m, m = vs.length - 1 := ⟨_, rfl⟩
    rw [← hm] at p0
    have em : (vs.length : Int) - 1 = m := by omega
    have lm : (m : Int) < vs.length := by omega
    have bm : (m : Int) ≤ 1048576 := by omega
    have wm : IntKind.i64.wrap (m : Int) = m := by rw [IntKind.wrap_i64]; omega
    have ez : ((vs.length : Int) == 0) = false := beq_eq_false_iff_ne.2 (by omega)
    generalize vs.length = n at *
    have hd : Below w.heap.size w (w.alloc (.cells #[.int .i64 b, .int .i64 t, .slice (some ⟨bb, o, none⟩) n cap] 29)).drew := (box _ _).drew
    have K1 : Hid (Blk 29 (w.alloc (.cells #[.int .i64 b, .int .i64 t, .slice (some ⟨bb, o, none⟩) n cap] 29)).drew w.heap.size [.int .i64 b, .int .i64 t, .slice (some ⟨bb, o, none⟩) n cap]) := (Blk.new 29 w [.int .i64 b, .int .i64 t, .slice (some ⟨bb, o, none⟩) n cap]).below ((Below.refl _ _).drew)
    have P1 : Hid (∀ w', Below (w.alloc (.cells #[.int .i64 b, .int .i64 t, .slice (some ⟨bb, o, none⟩) n cap] 29)).drew.heap.size (w.alloc (.cells #[.int .i64 b, .int .i64 t, .slice (some ⟨bb, o, none⟩) n cap] 29)).drew w' → w'.cell? ⟨w.heap.size, 2, none⟩ = some (.slice (some ⟨bb, o, none⟩) n cap) ∧ w'.cell? ⟨bb, o + m * 4, none⟩ = some (.int .i64 v.1)) := fun w' h => ⟨(K1.out.below h).cell 2 rfl, ((hd.trans (h.mono hd.size)).cell (p := ⟨bb, o + m * 4, none⟩) hbl).trans p0⟩
    have HD : Hid _ := hd
    clear hd h0 hm
    have ce := fun w => iEntriesOf b t (some ⟨bb, o, none⟩) n cap w
    have cl := fun w => iLast b (some ⟨bb, o, none⟩) n cap w hn
    go_enter Try.func12, Try.ntmps12
    go_wp2_with fail
    go_region_with (first
      | (go_at_call 25; refine (ce _).mono ?_; rintro e w2 ⟨rfl, hb2⟩; obtain ⟨x2, x3⟩ := P1.out _ hb2)
      | (go_at_call 26; refine (cl _).mono ?_; rintro e w3 ⟨rfl, hb3⟩; have hb23 := hb2.trans (hb3.mono hb2.size); obtain ⟨y2, y3⟩ := P1.out _ hb23))
    all_goals go_wp2_with fail
    all_goals go_ret2
    all_goals exact ⟨rfl, HD.out.trans (hb23.mono HD.out.size)⟩

set_option maxRecDepth 100000 in
theorem sLastOf {ao : Option Addr} {cap : Nat} {vs : List En} {b t : Int} {w : World} (hA : RdE w ao vs) (hn : vs.length ≤ 1048576) :
    Calls Try.prog 11 #[aggL b t ao vs.length cap] w fun e w' => e = .returned (.tuple #[.int .i64 (lastN b vs), .int .i64 (lastT t vs)]) ∧ Below w.heap.size w w' := by
  by_cases h0 : vs.length = 0
  · obtain rfl : vs = [] := List.eq_nil_of_length_eq_zero h0
    have e1 : lastN b ([] : List En) = b := rfl
    have e2 : lastT t ([] : List En) = t := rfl
    rw [e1, e2]
    clear hA hn h0 e1 e2
    simp only [List.length_nil]
    go_enter Try.func11, Try.ntmps11
    go_wp2_with fail
    go_quiet (fail)
    go_wp2_with fail
    go_ret2
    have hb := box w (.cells #[.int .i64 b, .int .i64 t, .slice ao 0 cap] 29)
    exact ⟨rfl, hb.os, hb.tape, hb.output, hb.size, hb.block⟩
  · obtain ⟨v, hv, hT⟩ := lastT_at (t := t) (L := vs) (by omega)
    obtain ⟨bb, o, rfl, hbl, _, p0, _⟩ := hA _ v hv
    have hN : lastN b vs = wrap64 (b + vs.length) := if_neg h0
    rw [hN, hT]
    have bn : (vs.length : Int) ≤ 1048576 := by omega
    clear hA hv hT hN
    obtain ⟨m, hm⟩ : ∃ m, m = vs.length - 1 := ⟨_, rfl⟩
    rw [← hm] at p0
    have em : (vs.length : Int) - 1 = m := by omega
    have lm : (m : Int) < vs.length := by omega
    have bm : (m : Int) ≤ 1048576 := by omega
    have wm : IntKind.i64.wrap (m : Int) = m := by rw [IntKind.wrap_i64]; omega
    have ez : ((vs.length : Int) == 0) = false := beq_eq_false_iff_ne.2 (by omega)
    generalize vs.length = n at *
    clear h0 hm
    go_enter Try.func11, Try.ntmps11
    go_wp2_with fail
    go_quiet (fail)
    go_wp2_with fail
    go_ret2
    have hb := box w (.cells #[.int .i64 b, .int .i64 t, .slice (some ⟨bb, o, none⟩) n cap] 29)
    exact ⟨rfl, hb.os, hb.tape, hb.output, hb.size, hb.block⟩

set_option maxHeartbeats 2000000 in
set_option maxRecDepth 100000 in
theorem lawLastOf {ao : Option Addr} {cap : Nat} {vs : List En} {b t : Int} {w : World} (hA : RdE w ao vs) (hn : vs.length ≤ maxLen) (wb : (Lit.int .i64 b).wf = true) :
    Calls Try.prog 4 #[aggL b t ao vs.length cap] w fun e w' => e = .returned (.bool true) ∧ Below w.heap.size w w' := by
  have L0 : Hid (Lw w [.int .i64 b, .int .i64 t, .slice ao vs.length cap] (w.alloc (.cells #[.int .i64 b, .int .i64 t, .slice ao vs.length cap] 24))) := Lw.new w [.int .i64 b, .int .i64 t, .slice ao vs.length cap]
  clear wb
  go_enter Try.func4, Try.ntmps4
  go_wp2_with (go_at_call 6; refine hold ?_)
  refine (lSzLog (hA.below L0.out.below) hn (by omega) (by omega)).mono ?_
  rintro e w1 ⟨z, rfl, z0, z1, hz, hb1⟩
  have L1 := L0.out.later hb1
  by_cases hz0 : z < 0
  · have HL := L1.below
    clear hz L1 hA hn
    go_wp2_with fail
    go_ret
    exact ⟨rfl, HL⟩
  · obtain ⟨n1, sm⟩ := hz.resolve_left hz0
    have smx := sme_max sm
    have tL : ∀ w', Below w.heap.size w w' → _ := fun w' h => lToLog (cap := cap) (b := b) (t := t) (hA.below h) n1
    have iL : ∀ w' g, St.Rows 47 encE w' g vs → _ := fun w' g h => iLastOf (w := w') (cap := vs.length) (b := b) (t := t) (rows_rd h smx) n1
    have sL : ∀ w' g, St.Rows 47 encE w' g vs → _ := fun w' g h => sLastOf (w := w') (cap := vs.length) (b := b) (t := t) (rows_rd h smx) n1
    have eL : ∀ w' g1 g2, St.Rows 47 encE w' g1 vs → St.Rows 47 encE w' g2 vs → _ := fun w' g1 g2 h1 h2 => lEqLog (w := w') (c1 := vs.length) (c2 := vs.length) (b := b) (t := t) (rows_rd h1 smx) (rows_rd h2 smx) (by omega)
    generalize lastN b vs = V at *
    generalize lastT t vs = U at *
    generalize vs.length = n at *
    clear L0 hA hn hz n1 sm smx
    have q0 := L1.arg.cell 0 rfl
    have q1 := L1.arg.cell 1 rfl
    have q2 := L1.arg.cell 2 rfl
    go_wp2_with (go_at_call 8; refine hold ?_)
    clear q0 q1 q2
    refine (tL _ L1.below).mono ?_
    rintro e w2 ⟨g2, rfl, hg2, R2, hb2⟩
    have L2 := L1.later hb2
    go_wp2_with (go_at_call 11; refine hold ?_)
    refine (sL _ _ R2).mono ?_
    rintro e w3 ⟨rfl, hb3⟩
    have L3 := L2.later hb3
    have q0 := L3.arg.cell 0 rfl
    have q1 := L3.arg.cell 1 rfl
    have q2 := L3.arg.cell 2 rfl
    go_wp2_with (go_at_call 8; refine hold ?_)
    clear q0 q1 q2
    refine (tL _ L3.below).mono ?_
    rintro e w4 ⟨g4, rfl, hg4, R4, hb4⟩
    have L4 := L3.later hb4
    have L4a := L4.alloc (.cells #[.int .i64 b, .int .i64 t, .slice (some ⟨g4, 0, none⟩) n n] 29)
    have R4a : St.Rows 47 encE (w4.alloc (.cells #[.int .i64 b, .int .i64 t, .slice (some ⟨g4, 0, none⟩) n n] 29)) g4 vs := R4.kept (Below.heap_alloc _ _ _ R4.lt)
    have K4 := Blk.new 29 w4 [.int .i64 b, .int .i64 t, .slice (some ⟨g4, 0, none⟩) n n]
    go_wp2_with (go_at_call 12; refine hold ?_)
    refine (iL _ _ R4a).mono ?_
    rintro e w5 ⟨rfl, hb5⟩
    have L5 := L4a.later hb5
    have K5 := K4.below hb5
    have R5 := R4a.kept (hb5.block _ R4a.lt)
    have hd5 : Below w5.heap.size w5 w5.drew := (Below.refl _ w5).drew
    have L6 := L5.later hd5
    have K6 := K5.below hd5
    have R6 := R5.kept (hd5.block _ R5.lt)
    have q0 := L6.arg.cell 0 rfl
    have q1 := L6.arg.cell 1 rfl
    have q2 := L6.arg.cell 2 rfl
    have p0 := K6.cell 0 rfl
    have p1 := K6.cell 1 rfl
    have p2 := K6.cell 2 rfl
    have t6 : Hid _ := tL _ L6.below
    have HK : Hid (Lw w [.int .i64 b, .int .i64 t, .slice ao n cap] w5.drew ∧ St.Rows 47 encE w5.drew g4 vs) := ⟨L6, R6⟩
    have hS : Hid (∀ w7, Below w5.drew.heap.size w5.drew w7 → w7.cell? ⟨w4.heap.size, 0, none⟩ = some (.int .i64 b) ∧ w7.cell? ⟨w4.heap.size, 1, none⟩ = some (.int .i64 t) ∧ w7.cell? ⟨w4.heap.size, 2, none⟩ = some (.slice (some ⟨g4, 0, none⟩) n n)) := fun w7 h7 => ⟨(K6.below h7).cell 0 rfl, (K6.below h7).cell 1 rfl, (K6.below h7).cell 2 rfl⟩
    have eQ : Hid (∀ w7 g7, Below w5.drew.heap.size w5.drew w7 → St.Rows 47 encE w7 g7 vs → Calls Try.prog 10 #[aggL b t (some ⟨g4, 0, none⟩) n n, aggL b t (some ⟨g7, 0, none⟩) n n] w7 fun e w' => e = .returned (.bool true) ∧ Below w7.heap.size w7 w') := fun w7 g7 h7 r7 => eL w7 g4 g7 (R6.kept (h7.block _ R6.lt)) r7
    clear L1 L2 L3 L4 L4a L5 L6 R2 R4 R4a R5 R6 K4 K5 K6 hb1 hb2 hb3 hb4 hb5 tL iL sL eL hg2 hg4 hd5
    go_wp2_with fail
    go_region_with (first
      | (go_at_call 8; refine Calls.mono t6.out ?_; rintro e w7 ⟨g7, rfl, hg7, R7, hb7⟩; obtain ⟨x0, x1, x2⟩ := hS.out w7 hb7; have e7 : Hid _ := eQ.out w7 g7 hb7 R7)
      | (go_at_call 10; refine Calls.mono e7.out ?_; rintro e w8 ⟨rfl, hb8⟩))
    all_goals go_wp2_with fail
    all_goals go_ret
    all_goals exact ⟨rfl, ((HK.out.1.later hb7).later hb8).below⟩

end Lg
end Go.Proofs.Ytipjgkekjocljaa
