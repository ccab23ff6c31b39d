/-
  Proved: at every program and every Mach, FnExactMachBytes (MachBytes answers as the specification's, and writes into no argument) returns true and the arguments read as they did, the listed variables holding what the program's own text lays (the card ties it).
-/
import Derived.Test.YtkhoccjfkkfipaaGreatDoorRows
import Derived.Test.YtkhoccjfkkfipaaGreatDoorP51
import Derived.Test.YtkhoccjfkkfipaaGreatDoorP52
import Derived.Test.YtkhoccjfkkfipaaGreatDoorTie
import Derived.Test.YtkhoccjfkkfipaaGreatDoorCards
import Derived.WalkKit
import Derived.ProofKit
import Derived.LaidMore
import Derived.OpenShut
import Derived.LaidLaws
import Derived.RowKitTokens
import Derived.Stop.LaidErr
import Derived.Stop.Joined
import Derived.SevenTiedAt
import Derived.ShutString
import Derived.ChangeOld
import Derived.OpenVars
import Derived.Below
namespace Go.Proofs.YtkhoccjfkkfipaaGreatDoor
open Go.ChangeShapes Go.WideShapes Go.ChangeAt Go.RowKit
set_option linter.unusedVariables false

theorem own : ownKnob Tryz.prog.godebug = none := by kernel_rfl
theorem gErr : Tryz.prog.globalNamed "loop.example/g00289/impl.errNotRight" = some 1 := by kernel_rfl
theorem tErr : (Tryz.prog.globals[1]?).map (·.type) = some 165 := by kernel_rfl
theorem gPat : Tryz.prog.globalNamed "loop.example/g00289/impl.errNoPattern" = some 0 := by kernel_rfl
theorem tPat : (Tryz.prog.globals[0]?).map (·.type) = some 165 := by kernel_rfl
theorem cellsEs : Tryz.prog.cellsOf 295 = 1 := by kernel_rfl
theorem cellsStr : Tryz.prog.cellsOf 9 = 1 := by kernel_rfl
theorem star : "*" ++ "errors.errorString" = "*errors.errorString" := by decide
theorem rowEs (u : TypeId) (h : Tryz.prog.typeName? 3 u = some "*errors.errorString") : u = 273 :=
  typeName_ptr_named (nm := "errors.errorString") (by rw [star]; kernel_rfl) (by kernel_rfl) (by decide) u (by rw [star]; exact h)

def laidC : List (String × DataW Unit) := [("loop.example/g00289/impl.errNotRight", Rows.laid_loop_example_g00289_impl_errNotRight), ("loop.example/g00289/impl.errNoPattern", Rows.laid_loop_example_g00289_impl_errNoPattern)]

theorem door_met (os : Os) (args : Array Value) : laidMetH Tryz.prog laidC ((World.doorLaid Tryz.prog 47 os).forCall (fun _ _ => 0) ⟨#[], args, []⟩).memory :=
  laidMetH_of_parts3 (fuel := 8) (laidMet_of_run' 8 (by kernel_rfl) (by kernel_rfl)) (by kernel_rfl) (by kernel_rfl)

theorem of_laidC {W : World} (h : laidMetH Tryz.prog laidC W) : ∃ a b, Oc.Sn W a b := by
  rw [MakeChecks.laidMetH_plain _ _ _ (by kernel_rfl)] at h
  obtain ⟨a, s, hv, _⟩ := laid_sentinel h gErr tErr Tryz.underlying165 rowEs Tryz.underlying273 Tryz.underlying295 rfl rfl Tryz.underlying9 cellsEs cellsStr
  obtain ⟨b, s2, hv2, _⟩ := laid_sentinel h.tail gPat tPat Tryz.underlying165 rowEs Tryz.underlying273 Tryz.underlying295 rfl rfl Tryz.underlying9 cellsEs cellsStr
  exact ⟨a, b, by simpa using World.var?_cell gErr hv 0, by simpa using World.var?_cell gPat hv2 0⟩
theorem laidOut : laidOutB Tryz.prog = true := by kernel_rfl

theorem two_vars {H : Type} {enc : TypeId × Value → H} {W : World} {gs : List (DataW H)} {q : List MemPlace} {n0 n1 : String} (h : DataW.TrodVars enc Tryz.prog W (fun _ => true) [n0, n1] gs q) : ∃ g1 g2, gs = [g1, g2] := by
  match gs, h with
  | [], h => exact h.elim
  | [g1], h => obtain ⟨_, _, _, _, _, _, _, _, _, _, h2, _⟩ := h; exact h2.elim
  | [g1, g2], _ => exact ⟨g1, g2, rfl⟩
  | g1 :: g2 :: g3 :: r, h =>
    obtain ⟨_, _, _, _, _, _, _, _, _, _, h2, _⟩ := h
    obtain ⟨_, _, _, _, _, _, _, _, _, _, h3, _⟩ := h2
    exact h3.elim

set_option maxRecDepth 100000 in
theorem fnExactMachBytes_lifted (os : Os) (started : os.Started) (H : Type) (enc : TypeId × Value → H) :
    ReturnsInHanded {} Tryz.checked os 3 .any (fun w args => (Rows.fnExactMachBytesSpec.pre enc Tryz.prog Tryz.f3 [] false w args ∧ laidMetH Tryz.prog laidC w) ∧ sizedMet enc Tryz.prog Tryz.f3 (OpenSpec.ofChange Rows.fnExactMachBytesSpec) false w args)
      (Rows.fnExactMachBytesSpec.post enc Tryz.prog Tryz.f3 false true false false) := by
  refine returnsInHanded_of_change_and (C := Tryz.checked) (X := fun w _ => laidMetH Tryz.prog laidC w) (fun _ _ _ hh h => h.of_heap hh) own started (by kernel_rfl) Tryz.func3
    (ChangeSpec.witness_shaped (enc := enc) (C := Tryz.checked) (os := os) (X := fun w _ => laidMetH Tryz.prog laidC w) false (World.doorLaid Tryz.prog 47 os) #[.agg #[.slice none 0 0, .slice none 0 0, .slice none 0 0, .slice none 0 0], .agg #[.slice none 0 0, .slice none 0 0, .int .i64 0, .int .i64 0, .slice none 0 0, .string ⟨#[]⟩]] 8 rfl (World.shaped_of_RefB (by kernel_rfl) (by kernel_rfl)) (by kernel_rfl) (by kernel_rfl) (by kernel_rfl) (door_met os _)) ?_
  intro W base args ds gs before hval0 hW _ _ hL _
  have hval : ∀ (j : Nat) t v, Tryz.f3.params[j]? = some t → args[j]? = some v → Value.okWide Tryz.prog W .any base t v := hval0
  have hW' := hW
  obtain ⟨p, q, hA0, hV0, rfl, hfz, hnd⟩ := hW
  have hA : DataW.TrodAll enc Tryz.prog W 0 (fun _ => true) true Tryz.f3.params.toList args.toList ds p := hA0
  have hV : DataW.TrodVars enc Tryz.prog W (fun _ => true) ["loop.example/g00289/impl.errNotRight", "loop.example/g00289/impl.errNoPattern"] gs q := hV0
  rw [Tryz.params3] at hA hval
  obtain ⟨v0, vs0, d0, ds0, p0, q0, hargs, rfl, rfl, h0, r0⟩ := trodAll_cons hA
  obtain ⟨v1, vs1, d1, ds1, p1, q1, rfl, rfl, rfl, h1, r1⟩ := trodAll_cons r0
  obtain ⟨rfl, rfl, rfl⟩ := trodAll_nil r1
  obtain rfl : args = #[v0, v1] := by cases args; simp_all
  have k0 := h0
  have k1 := h1
  have lt1 : ∀ x ∈ p1, x.block < W.heap.size := by obtain ⟨m, hm⟩ := k1; exact DataW.trod_lt m _ _ _ hm
  have lt0 : ∀ x ∈ p0, x.block < W.heap.size := by obtain ⟨m, hm⟩ := k0; exact DataW.trod_lt m _ _ _ hm
  obtain ⟨va, ca, sa, ma, vc, cc, sc, mc, vars, cells, st, mn, rfl, n1, n2, n3, n4, hR⟩ := Pg.prog_of (hval 0 25 v0 rfl rfl) h0
  obtain ⟨a, b, c, xa, xb, xc, vs, cs, nr, er, dn, out, rfl, m1, m2, m3, m4, hM⟩ := Mh.mach_of (hval 1 32 v1 rfl rfl) h1
  obtain ⟨ad, bd, hG⟩ := of_laidC hL
  obtain ⟨g1, g2, rfl⟩ := two_vars hV
  clear hA0 hV0 hval0
  refine (Mb.lawMB hG hR n1 n2 n3 n4 hM m1 m2 m3 m4).mono fun e W' ⟨he, bel⟩ => ?_
  subst he
  exact ⟨_, rfl, _, _, _, [], _, q, hW', trodAll_mk1 (shut_bool Tryz.underlying4 _), (trodAll_cons_mk (Below.trod laidOut (by kernel_rfl) (of_decide_eq_true (by kernel_rfl)) k0 bel lt0) (trodAll_cons_mk (Below.trod laidOut (by kernel_rfl) (of_decide_eq_true (by kernel_rfl)) k1 bel lt1) trodAll_mk0)), Below.trodVars laidOut bel (by kernel_rfl) hV, bel.frame _, fun h => by cases h⟩

theorem fnExactMachBytes_row : Rows.FnExactMachBytesSaid :=
  OpenClaim.holds_of_wide 3 Tryz.f3 rfl rfl rfl rfl rfl rfl rfl ⟨rfl, rfl, rfl, rfl, rfl⟩ rfl rfl rfl rfl rfl (by kernel_rfl) Tryz.func3 (by kernel_rfl)
    (of_decide_eq_true (by kernel_rfl)) (by unfold Func.isWrapper; first | (rw [if_pos (by decide +kernel)]; kernel_rfl) | (rw [if_neg (by decide +kernel)]; exact ⟨rfl, rfl⟩))
    (fun os started H enc _ => fnExactMachBytes_lifted os started H enc)

theorem fnExactMachBytes_card : Rows.FnExactMachBytesCardSaid :=
  Claim7.holds_tied_plain_at .later [] [.sentinel, .sentinel] true (true, "85ccc661ab22a9a60ac99c46a5e47b76d62436f87f2e6a04e1d23fc4aa3b6e21") true
    fnExactMachBytes_row (fun _ h => by cases h) (by kernel_rfl) (fun _ h => by cases h) fnExactMachBytes_row_tie rfl ⟨rfl, rfl⟩ (by kernel_rfl) rfl
    (fun f fn hf hfn => by
      obtain rfl : f = 3 := Option.some.inj ((show Tryz.prog.funcNamed "loop.example/g00289/laws.FnExactMachBytes" = some 3 by kernel_rfl).symm.trans hf) |>.symm
      obtain rfl : fn = Tryz.f3 := (Option.some.inj (Tryz.func3.symm.trans hfn)).symm
      exact ⟨by kernel_rfl, fun j t ht => by
        rw [Tryz.params3] at ht
        have hm : t ∈ [25, 32] := by simpa using Array.mem_of_getElem? ht
        have hall : ([25, 32].all fun u => !Tryz.prog.wantsStandIn u) = true := by kernel_rfl
        exact (show Tryz.prog.wantsStandIn t = false by simpa using List.all_eq_true.1 hall t hm)⟩)
    (by kernel_rfl)
#print axioms fnExactMachBytes_card
end Go.Proofs.YtkhoccjfkkfipaaGreatDoor
