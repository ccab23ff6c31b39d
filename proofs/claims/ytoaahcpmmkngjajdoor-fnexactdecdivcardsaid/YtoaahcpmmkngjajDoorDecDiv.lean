/-
  Proved: at all two ints, FnExactDecDiv (DecDiv against its specification) returns true and the arguments read as they did, errNotRight holding what the program's own text lays (the card ties it).
-/
import Derived.Test.YtoaahcpmmkngjajDoorDecLaid
import Derived.Test.YtoaahcpmmkngjajDoorDecDivWalks
import Derived.Test.YtoaahcpmmkngjajDoorTie
import Derived.Test.YtoaahcpmmkngjajDoorCards
import Derived.SevenTiedAt
namespace Go.Proofs.YtoaahcpmmkngjajDoor
open Go.ChangeShapes Go.WideShapes Go.ChangeAt Go.RowKit
set_option linter.unusedVariables false

set_option maxRecDepth 100000 in
theorem fnExactDecDiv_lifted (os : Os) (started : os.Started) (H : Type) (enc : TypeId × Value → H) :
    ReturnsInHanded {} Tryd.checked os 7 .any (fun w args => (Rows.fnExactDecDivSpec.pre enc Tryd.prog Tryd.f7 [] false w args ∧ laidMetH Tryd.prog laidE w) ∧ sizedMet enc Tryd.prog Tryd.f7 (OpenSpec.ofChange Rows.fnExactDecDivSpec) false w args)
      (Rows.fnExactDecDivSpec.post enc Tryd.prog Tryd.f7 false true false false) := by
  refine returnsInHanded_of_change_and (C := Tryd.checked) (X := fun w _ => laidMetH Tryd.prog laidE w) (fun _ _ _ hh h => h.of_heap hh) own started (by kernel_rfl) Tryd.func7
    (ChangeSpec.witness_shaped (enc := enc) (C := Tryd.checked) (os := os) (X := fun w _ => laidMetH Tryd.prog laidE w) false (World.doorLaid Tryd.prog 28 os) #[.int .i64 0, .int .i64 0] 8 rfl (World.shaped_of_RefB (by kernel_rfl) (by kernel_rfl)) (by kernel_rfl) (by kernel_rfl) (by kernel_rfl) (door_met os _)) ?_
  intro W base args ds gs before hval0 hW _ _ hL _
  have hval : ∀ (j : Nat) t v, Tryd.f7.params[j]? = some t → args[j]? = some v → Value.okWide Tryd.prog W .any base t v := hval0
  have hW' := hW
  obtain ⟨p, q, hA0, hV0, rfl, hfz, hnd⟩ := hW
  have hA : DataW.TrodAll enc Tryd.prog W 0 (fun _ => true) true Tryd.f7.params.toList args.toList ds p := hA0
  have hV : DataW.TrodVars enc Tryd.prog W (fun _ => true) ["loop.example/g00289/impl.errNotRight"] gs q := hV0
  rw [Tryd.params7] at hA hval
  obtain ⟨v0, vs0, d0, ds0, p0, q0, hargs, rfl, rfl, h0, r0⟩ := trodAll_cons hA
  obtain ⟨v1, vs1, d1, ds1, p1, q1, rfl, rfl, rfl, h1, r1⟩ := trodAll_cons r0
  obtain ⟨rfl, rfl, rfl⟩ := trodAll_nil r1
  obtain rfl : args = #[v0, v1] := by cases args; simp_all
  obtain ⟨x0, rfl, rfl, rfl, wx0⟩ := open_int Tryd.underlying3 (hval 0 3 v0 rfl rfl) h0
  obtain ⟨x1, rfl, rfl, rfl, wx1⟩ := open_int Tryd.underlying3 (hval 1 3 v1 rfl rfl) h1
  obtain ⟨a, hv, hc⟩ := of_laid hL
  obtain ⟨rfl, rfl⟩ := hV.unique (vars_read1 enc gErr tErr Tryd.underlying30 hv trivial _)
  clear hA0 hV0 hval0
  refine (lawDecDiv x0 x1 wx0 wx1 a W hc).mono fun e W' ⟨he, n, hw⟩ => ?_
  subst he
  refine ⟨_, rfl, ChangeSpec.post_alike (W'' := W) ?_ (by rw [hw]; exact World.drewN_alike _ _)⟩
  have e1 : Rows.fnExactDecDivSpec.fn H ([.lit (.int .i64 x0), .lit (.int .i64 x1)] ++ [tok enc (.iface 55 (.pointer (some a)))]) = { results := [.lit (.bool true)], args := [.lit (.int .i64 x0), .lit (.int .i64 x1)], vars := [tok enc (.iface 55 (.pointer (some a)))] } := rfl
  refine ⟨_, _, _, [], [], [.cell 0 0], hW', ?_, ?_, ?_, World.keptBut_refl _ _, fun h => by cases h⟩
  · exact trodAll_cons_mk (shut_bool Tryd.underlying4 true) trodAll_mk0
  · exact (trodAll_cons_mk (shut_int Tryd.underlying3 wx0) (trodAll_cons_mk (shut_int Tryd.underlying3 wx1) trodAll_mk0))
  · exact vars_read1 enc gErr tErr Tryd.underlying30 hv trivial _

theorem fnExactDecDiv_row : Rows.FnExactDecDivSaid :=
  OpenClaim.holds_of_wide 7 Tryd.f7 rfl rfl rfl rfl rfl rfl rfl ⟨rfl, rfl, rfl, rfl, rfl⟩ rfl rfl rfl rfl rfl (by kernel_rfl) Tryd.func7 (by kernel_rfl)
    (of_decide_eq_true (by kernel_rfl)) (by unfold Func.isWrapper; first | (rw [if_pos (by decide +kernel)]; kernel_rfl) | (rw [if_neg (by decide +kernel)]; exact ⟨rfl, rfl⟩))
    (fun os started H enc _ => fnExactDecDiv_lifted os started H enc)

theorem fnExactDecDiv_card : Rows.FnExactDecDivCardSaid :=
  Claim7.holds_tied_plain_at .later [] [.sentinel] true (true, "3b279bd45cea1e7389b83f5a4d3be19bd7cada59d4f441746384fce062845071") true
    fnExactDecDiv_row (fun _ h => by cases h) (by kernel_rfl) (fun _ h => by cases h) fnExactDecDiv_row_tie rfl ⟨rfl, rfl⟩ (by kernel_rfl) rfl
    (fun f fn hf hfn => by
      obtain rfl : f = 7 := Option.some.inj ((show Tryd.prog.funcNamed "loop.example/g00289/laws.FnExactDecDiv" = some 7 by kernel_rfl).symm.trans hf) |>.symm
      obtain rfl : fn = Tryd.f7 := (Option.some.inj (Tryd.func7.symm.trans hfn)).symm
      exact ⟨by kernel_rfl, fun j t ht => by
        rw [Tryd.params7] at ht
        have hm : t ∈ [3, 3] := by simpa using Array.mem_of_getElem? ht
        have hall : ([3, 3].all fun u => !Tryd.prog.wantsStandIn u) = true := by kernel_rfl
        exact (show Tryd.prog.wantsStandIn t = false by simpa using List.all_eq_true.1 hall t hm)⟩)
    (by kernel_rfl)
#print axioms fnExactDecDiv_card
end Go.Proofs.YtoaahcpmmkngjajDoor
