/-
  LastOf: the program's and the specification's; the law FnExactLastOf at every log.
-/
import Derived.Test.YtipjgkekjocljabLgOkLaw
import Derived.Deep.RegionHeld3
namespace Go.Proofs.Ytipjgkekjocljab
open Go.RowKit
namespace Lg
open Oc (hold Blk)
set_option linter.unusedSimpArgs false
set_option linter.unusedVariables false

/-- The last number, and its term. -/
def lastN (b : Int) (L : List En) : Int := if L.length = 0 then b else wrap64 (b + L.length)
def lastT (t : Int) (L : List En) : Int := match L.getLast? with | some v => v.1 | none => t
theorem lastT_at {t : Int} {L : List En} (h : 0 < L.length) : ∃ v, L[L.length - 1]? = some v ∧ lastT t L = v.1 := by
  obtain ⟨v, hv⟩ : ∃ v, L[L.length - 1]? = some v := ⟨_, List.getElem?_eq_getElem (by omega)⟩
  refine ⟨v, hv, ?_⟩
  unfold lastT
  rw [List.getLast?_eq_getElem?, hv]

theorem iEntriesOf (b t : Int) (ao : Option Addr) (n c : Nat) (w : World) :
    Calls Try.prog 16 #[aggL b t ao n c] w fun e w' => e = .returned (.agg #[.int .i64 b, .slice ao n c]) ∧ Below w.heap.size w w' := by
  go_enter Try.func16, Try.ntmps16
  go_wp2_with fail
  refine bodyPost_ret (v := .agg #[.int .i64 b, .slice ao n c]) ?_ rfl ⟨rfl, ?_⟩
  · simp [results, Try.results16, go_sem]
  · repeat (first | refine Below.setCell ?_ (by simp <;> omega) _ | refine Below.alloc ?_ (by simp <;> omega) _)
    exact Below.refl _ _

theorem iLast (b : Int) (ao : Option Addr) (n c : Nat) (w : World) (hn : n ≤ 1048576) :
    Calls Try.prog 17 #[.agg #[.int .i64 b, .slice ao n c]] w fun e w' => e = .returned (.int .i64 (wrap64 (b + n))) ∧ Below w.heap.size w w' := by
  have bn : (n : Int) ≤ 1048576 := by omega
  go_enter Try.func17, Try.ntmps17
  go_wp2_with fail
  go_ret
  exact ⟨rfl, box _ _⟩

set_option maxHeartbeats 4000000 in
set_option maxRecDepth 100000 in
theorem iLastOf {ao : Option Addr} {cap : Nat} {vs : List En} {b t : Int} {w : World} (hA : RdE w ao vs) (hn : vs.length ≤ 1048576) :
    Calls Try.prog 12 #[aggL b t ao vs.length cap] w fun e w' => e = .returned (.tuple #[.int .i64 (lastN b vs), .int .i64 (lastT t vs)]) ∧ Below w.heap.size w w' := by
  by_cases h0 : vs.length = 0
  · obtain rfl : vs = [] := List.eq_nil_of_length_eq_zero h0
    have e1 : lastN b ([] : List En) = b := rfl
    have e2 : lastT t ([] : List En) = t := rfl
    rw [e1, e2]
    clear hA hn h0 e1 e2
    simp only [List.length_nil]
    go_enter Try.func12, Try.ntmps12
    go_wp2_with fail
    go_quiet (fail)
    go_wp2_with fail
    go_ret2
    have hb := box w (.cells #[.int .i64 b, .int .i64 t, .slice ao 0 cap] 29)
    exact ⟨rfl, hb.os, hb.tape, hb.output, hb.size, hb.block⟩
  · obtain ⟨v, hv, hT⟩ := lastT_at (t := t) (L := vs) (by omega)
    obtain ⟨bb, o, rfl, hbl, _, p0, _⟩ := hA _ v hv
    have hN : lastN b vs = wrap64 (b + vs.length) := if_neg h0
    rw [hN, hT]
    have bn : (vs.length : Int) ≤ 1048576 := by omega
    clear hA hv hT hN
    obtain ⟨m, hm⟩ : ∃ m, m = vs.length - 1 := ⟨_, rfl⟩
    rw [← hm] at p0
    have em : (vs.length : Int) - 1 = m := by omega
    have lm : (m : Int) < vs.length := by omega
    have bm : (m : Int) ≤ 1048576 := by omega
    have wm : IntKind.i64.wrap (m : Int) = m := by rw [IntKind.wrap_i64]; omega
    have ez : ((vs.length : Int) == 0) = false := beq_eq_false_iff_ne.2 (by omega)
    generalize vs.length = n at *
    obtain ⟨W, hW⟩ : ∃ W, W = w.alloc (.cells #[.int .i64 b, .int .i64 t, .slice (some ⟨bb, o, none⟩) n cap] 29) := ⟨_, rfl⟩
    have hd : Below w.heap.size w W := by rw [hW]; exact box _ _
    have K1 : Blk 29 W w.heap.size [.int .i64 b, .int .i64 t, .slice (some ⟨bb, o, none⟩) n cap] := by rw [hW]; exact Blk.new 29 w [.int .i64 b, .int .i64 t, .slice (some ⟨bb, o, none⟩) n cap]
    have hS : Hid (∀ w', Below W.heap.size W w' → w'.cell? ⟨w.heap.size, 0, none⟩ = some (.int .i64 b) ∧ w'.cell? ⟨w.heap.size, 1, none⟩ = some (.int .i64 t) ∧ w'.cell? ⟨w.heap.size, 2, none⟩ = some (.slice (some ⟨bb, o, none⟩) n cap) ∧ w'.cell? ⟨bb, o + m * 4, none⟩ = some (.int .i64 v.1)) := fun w' h => ⟨(K1.below h).cell 0 rfl, (K1.below h).cell 1 rfl, (K1.below h).cell 2 rfl, ((hd.trans (h.mono hd.size)).cell (p := ⟨bb, o + m * 4, none⟩) hbl).trans p0⟩
    have HD : Hid _ := hd
    have ce := fun w => iEntriesOf b t (some ⟨bb, o, none⟩) n cap w
    have cl := fun w => iLast b (some ⟨bb, o, none⟩) n cap w hn
    clear hd h0 hm K1
    go_enter Try.func12, Try.ntmps12
    go_wp2_with fail
    rw [← hW]
    clear hW
    go_region_held3 (fun w' => w'.cell? ⟨w.heap.size, 0, none⟩ = some (.int .i64 b) ∧ w'.cell? ⟨w.heap.size, 1, none⟩ = some (.int .i64 t) ∧ w'.cell? ⟨w.heap.size, 2, none⟩ = some (.slice (some ⟨bb, o, none⟩) n cap) ∧ w'.cell? ⟨bb, o + m * 4, none⟩ = some (.int .i64 v.1)) (first | exact hS.out _ B3 | exact hS.out _ B2 | exact hS.out _ (Below.refl _ _).drew) (first
      | (go_at_call 16; refine (ce _).mono ?_; rintro e w2 ⟨rfl, hb2⟩; have B2 : Below W.heap.size W w2 := ((Below.refl _ W).drew).trans hb2)
      | (go_at_call 17; refine (cl _).mono ?_; rintro e w3 ⟨rfl, hb3⟩; have B3 : Below W.heap.size W w3 := B2.trans (hb3.mono B2.size)))
    all_goals go_wp2_with fail
    all_goals go_ret2
    all_goals exact ⟨rfl, HD.out.trans (B3.mono HD.out.size)⟩

set_option maxRecDepth 100000 in
theorem sLastOf {ao : Option Addr} {cap : Nat} {vs : List En} {b t : Int} {w : World} (hA : RdE w ao vs) (hn : vs.length ≤ 1048576) :
    Calls Try.prog 10 #[aggL b t ao vs.length cap] w fun e w' => e = .returned (.tuple #[.int .i64 (lastN b vs), .int .i64 (lastT t vs)]) ∧ Below w.heap.size w w' := by
  by_cases h0 : vs.length = 0
  · obtain rfl : vs = [] := List.eq_nil_of_length_eq_zero h0
    have e1 : lastN b ([] : List En) = b := rfl
    have e2 : lastT t ([] : List En) = t := rfl
    rw [e1, e2]
    clear hA hn h0 e1 e2
    simp only [List.length_nil]
    go_enter Try.func10, Try.ntmps10
    go_wp2_with fail
    go_quiet (fail)
    go_wp2_with fail
    go_ret2
    have hb := box w (.cells #[.int .i64 b, .int .i64 t, .slice ao 0 cap] 29)
    exact ⟨rfl, hb.os, hb.tape, hb.output, hb.size, hb.block⟩
  · obtain ⟨v, hv, hT⟩ := lastT_at (t := t) (L := vs) (by omega)
    obtain ⟨bb, o, rfl, hbl, _, p0, _⟩ := hA _ v hv
    have hN : lastN b vs = wrap64 (b + vs.length) := if_neg h0
    rw [hN, hT]
    have bn : (vs.length : Int) ≤ 1048576 := by omega
    clear hA hv hT hN
    obtain ⟨m, hm⟩ : ∃ m, m = vs.length - 1 := ⟨_, rfl⟩
    rw [← hm] at p0
    have em : (vs.length : Int) - 1 = m := by omega
    have lm : (m : Int) < vs.length := by omega
    have bm : (m : Int) ≤ 1048576 := by omega
    have wm : IntKind.i64.wrap (m : Int) = m := by rw [IntKind.wrap_i64]; omega
    have ez : ((vs.length : Int) == 0) = false := beq_eq_false_iff_ne.2 (by omega)
    generalize vs.length = n at *
    clear h0 hm
    go_enter Try.func10, Try.ntmps10
    go_wp2_with fail
    go_quiet (fail)
    go_wp2_with fail
    go_ret2
    have hb := box w (.cells #[.int .i64 b, .int .i64 t, .slice (some ⟨bb, o, none⟩) n cap] 29)
    exact ⟨rfl, hb.os, hb.tape, hb.output, hb.size, hb.block⟩

end Lg
end Go.Proofs.Ytipjgkekjocljab
