/-
  Proved: at every node FnExactDeep (Deep answers as the specification's, writes into no argument, keeps nothing) returns true, and the node reads as it did; no condition beyond the row's own.
-/
import Derived.Test.YtofapfcneggllaaRows
import Derived.Test.YtofapfcneggllaaNdDeepLaw
import Derived.WalkKit
import Derived.ProofKit
import Derived.OpenShut
import Derived.ShutString
import Derived.ChangeOld
import Derived.Below
import Derived.Carry
import Derived.Deep.Slices
import Derived.ChangeSlices
namespace Go.Proofs.Ytofapfcneggllaa.fnExactDeep
open Go.ChangeShapes Go.WideShapes Go.ChangeAt Go.RowKit
open Go.ChangeMaps (open_string shut_string)
open Go.Deep (add_add)
set_option linter.unusedVariables false

theorem own : ownKnob Try.prog.godebug = none := by kernel_rfl
theorem laidOut : laidOutB Try.prog = true := by kernel_rfl
theorem cellsNode : Try.prog.cellsOf 24 = 4 := by kernel_rfl
theorem cellsInt : Try.prog.cellsOf 3 = 1 := by kernel_rfl
theorem cellsString : Try.prog.cellsOf 9 = 1 := by kernel_rfl
theorem cellsRow : Try.prog.cellsOf 22 = 1 := by kernel_rfl

theorem args_of {W : World} {a : Addr} (hspot : a.spot = none) : ∀ (len i : Nat), (∀ j, i ≤ j → j < i + len → ∃ (x0 x1 x2 x3 : Value) (t : Data), W.cell? ⟨a.block, a.off + j * 4, none⟩ = some x0 ∧ W.cell? ⟨a.block, a.off + j * 4 + 1, none⟩ = some x1 ∧ W.cell? ⟨a.block, a.off + j * 4 + 2, none⟩ = some x2 ∧ W.cell? ⟨a.block, a.off + j * 4 + 3, none⟩ = some x3 ∧ Nd.ArgIs W t [x0, x1, x2, x3]) →
    ∃ ts : List Data, ts.length = len ∧ Nd.ArgsIs W ts (some a) i
  | 0, i, _ => ⟨[], rfl, trivial⟩
  | len + 1, i, h => by
    obtain ⟨x0, x1, x2, x3, t, c0, c1, c2, c3, ht⟩ := h i (Nat.le_refl _) (by omega)
    obtain ⟨ts, hl, hts⟩ := args_of hspot len (i + 1) fun j h1 h2 => h j (by omega) (by omega)
    refine ⟨t :: ts, by simp [hl], ⟨a.block, a.off, x0, x1, x2, x3, ?_, World.block_lt_of_cell? W ⟨a.block, a.off + i * 4, none⟩ c0, c0, c1, c2, c3, ht⟩, hts⟩
    obtain ⟨b, o, sp⟩ := a
    simp at hspot
    subst hspot
    rfl

theorem arg_of {H : Type} {enc : TypeId × Value → H} {W : World} {sp : Nat → Bool} : ∀ (fuel : Nat) {cs : List Value} {x : DataW H × List MemPlace}, DataW.trod enc Try.prog W 0 sp true fuel 24 cs = some x → ∃ t, Nd.ArgIs W t cs := by
  intro fuel
  induction fuel using Nat.strongRecOn with
  | ind fuel ih =>
    intro cs x h
    obtain ⟨xs, k, hfk, _, hcl, hxs, hf⟩ := DataW.trod_struct Try.underlying24 h
    rw [cellsNode] at hcl
    match cs, hcl, xs, hxs with
    | [v0, v1, v2, v3], _, [y0, y1, y2, y3], _ =>
      have f0 := hf 0 _ rfl
      have f1 := hf 1 _ rfl
      have f2 := hf 2 _ rfl
      have f3 := hf 3 _ rfl
      simp [cellsInt, cellsRow, cellsString] at f0 f1 f2 f3
      obtain ⟨z0, e0, _⟩ := DataW.trod_int Try.underlying3 f0
      obtain ⟨z1, e1, _⟩ := DataW.trod_int Try.underlying3 f1
      obtain ⟨s, e2, _, hs⟩ := DataW.trod_string Try.underlying9 f2
      simp only [List.cons.injEq, and_true] at e0 e1 e2
      subst e0 e1 e2
      have hsl : (s.data.toList.length : Nat) ≤ maxLen := by simpa using hs
      have hss : (⟨s.data.toList.toArray⟩ : ByteArray) = s := by cases s; simp
      rcases DataW.trod_slice Try.underlying22 f3 with ⟨hcs, _⟩ | ⟨a, len, cap, elems, rest, n, hn, hcs, _, _, hlc, hcm, hel, hall, _⟩
      · simp only [List.cons.injEq, and_true] at hcs
        subst hcs
        refine ⟨Nd.nd z0 z1 s.data.toList [], ?_⟩
        unfold Nd.nd
        rw [Nd.ArgIs]
        exact ⟨z0, z1, s.data.toList, none, 0, rfl, by rw [hss]; rfl, hsl, by simp, trivial⟩
      · simp only [List.cons.injEq, and_true] at hcs
        subst hcs
        have each : ∀ i, i < len → ∃ cs', W.cells? 0 (a.add (i * 4)) 4 = some cs' ∧ ∃ y, DataW.trod enc Try.prog W 0 sp true n 24 cs' = some y := fun i hi => by
          have hi' := hall i hi
          rw [cellsNode, List.getElem?_eq_getElem (by omega)] at hi'
          cases hq : W.cells? 0 (a.add (i * 4)) 4 with
          | none => rw [hq] at hi'; simp at hi'
          | some cs' => rw [hq] at hi'; exact ⟨cs', rfl, _, hi'⟩
        have hspot : 0 < len → a.spot = none := by
          intro h0
          obtain ⟨cs', h1, _⟩ := each 0 h0
          obtain ⟨_, hlen, hcell⟩ := World.cells?_some h1
          match cs', hlen with
          | [v0, v1, v2, v3], _ =>
            have c0 := hcell 0 (by omega)
            have := World.cell?_spot c0
            simpa [Addr.add] using this
        obtain ⟨ts, hl, hts⟩ : ∃ ts : List Data, ts.length = len ∧ Nd.ArgsIs W ts (some a) 0 := by
          by_cases h0 : 0 < len
          · refine args_of (hspot h0) len 0 fun j _ hj => ?_
            obtain ⟨cs', h1, y, h2⟩ := each j (by omega)
            obtain ⟨t, ht⟩ := ih n (by omega) h2
            obtain ⟨_, hlen, hcell⟩ := World.cells?_some h1
            match cs', hlen with
            | [w0, w1, w2, w3], _ =>
              have c0 := hcell 0 (by omega)
              have c1 := hcell 1 (by omega)
              have c2 := hcell 2 (by omega)
              have c3 := hcell 3 (by omega)
              rw [add_add] at c0 c1 c2 c3
              have hsp := hspot h0
              obtain ⟨b, o, spot⟩ := a
              simp at hsp
              subst hsp
              have hadd : ∀ j, (⟨b, o, none⟩ : Addr).add j = ⟨b, o + j, none⟩ := fun j => by unfold Addr.add; split <;> simp_all
              simp only [List.getElem?_cons_zero, List.getElem?_cons_succ, Nat.add_zero] at c0 c1 c2 c3
              simp only [hadd, ← Nat.add_assoc] at c0 c1 c2 c3
              exact ⟨w0, w1, w2, w3, t, c0, c1, c2, c3, ht⟩
          · obtain rfl : len = 0 := by omega
            exact ⟨[], rfl, trivial⟩
        subst hl
        refine ⟨Nd.nd z0 z1 s.data.toList ts, ?_⟩
        unfold Nd.nd
        rw [Nd.ArgIs]
        exact ⟨z0, z1, s.data.toList, some a, cap, rfl, by rw [hss], hsl, by omega, hts⟩

theorem four {cs : Array Value} (h : cs.size = 4) : ∃ a b c u, cs = #[a, b, c, u] := by
  obtain ⟨cl⟩ := cs
  have h' : cl.length = 4 := by simpa using h
  match cl, h' with
  | [a, b, c, u], _ => exact ⟨a, b, c, u, rfl⟩
theorem walk {W : World} {t : Data} {a b c u : Value} (ht : Nd.ArgIs W t [a, b, c, u]) :
    Calls Try.prog 3 #[.agg #[a, b, c, u]] W fun e w' => e = .returned (.bool true) ∧ Below W.heap.size W w' := Nd.lawDeep ht

set_option maxRecDepth 100000 in
theorem lifted (os : Os) (started : os.Started) (H : Type) (enc : TypeId × Value → H) :
    ReturnsInHanded {} Try.checked os 3 .any (Rows.fnExactDeepSpec.pre6 enc Try.prog Try.f3 Rows.fnExactDeepRow.domain false) (Rows.fnExactDeepSpec.post enc Try.prog Try.f3 false true false false) := by
  refine returnsInHanded_of_change (C := Try.checked) own started (by kernel_rfl) Try.func3
    (ChangeSpec.witness6 (enc := enc) (C := Try.checked) false ⟨#[], #[.agg #[.int .i64 0, .int .i64 0, .string ⟨#[]⟩, .slice none 0 0]], []⟩ 8 (by kernel_rfl) (by kernel_rfl) (by kernel_rfl) (by kernel_rfl)) ?_
  intro W base args ds gs before hval0 hW hcnd _
  have hval : ∀ (j : Nat) t v, Try.f3.params[j]? = some t → args[j]? = some v → Value.okWide Try.prog W .any base t v := hval0
  have hW' := hW
  obtain ⟨p, q, hA0, hV, rfl, hfz, hnd⟩ := hW
  have hA : DataW.TrodAll enc Try.prog W 0 (fun _ => true) true Try.f3.params.toList args.toList ds p := hA0
  rw [Try.params3] at hA hval
  obtain ⟨v0, vs0, d0, ds0, p0, q0, hargs, rfl, rfl, h0, r0⟩ := trodAll_cons hA
  obtain ⟨rfl, rfl, rfl⟩ := trodAll_nil r0
  obtain rfl : args = #[v0] := by cases args; simp_all
  obtain ⟨rfl, rfl⟩ := trodVars_none hV
  obtain ⟨cs, rfl, hcs⟩ := okWide_struct Try.underlying24 (hval 0 24 v0 rfl rfl)
  have k0 := h0
  have lt0 : ∀ x ∈ p0, x.block < W.heap.size := by obtain ⟨m, hm⟩ := k0; exact DataW.trod_lt m _ _ _ hm
  obtain ⟨t, ht⟩ : ∃ t, Nd.ArgIs W t cs.toList := by
    obtain ⟨fuel, hf⟩ := h0
    exact arg_of fuel hf
  obtain ⟨a, b, c, u, rfl⟩ := four (hcs.trans cellsNode)
  have ht' : Nd.ArgIs W t [a, b, c, u] := ht
  clear hA0 hval0 ht
  refine (walk ht').mono fun e W' ⟨he, bel⟩ => ?_
  subst he
  exact ⟨_, rfl, _, _, _, [], _, [], hW', trodAll_mk1 (shut_bool Try.underlying4 _), (trodAll_cons_mk (Below.trod laidOut (by kernel_rfl) (of_decide_eq_true (by kernel_rfl)) k0 bel lt0) trodAll_mk0), rfl, bel.frame _, fun h => by cases h⟩

theorem over : Rows.fnExactDeepRow.holds Try.pinned (OpenSpec.ofChange Rows.fnExactDeepSpec) :=
  OpenClaim.holds_of_wide 3 Try.f3 rfl rfl rfl rfl rfl rfl rfl ⟨rfl, rfl, rfl, rfl, rfl⟩ rfl rfl rfl rfl rfl (by kernel_rfl) Try.func3 (by kernel_rfl)
    (of_decide_eq_true (by kernel_rfl)) (by unfold Func.isWrapper; first | (rw [if_pos (by decide +kernel)]; kernel_rfl) | (rw [if_neg (by decide +kernel)]; exact ⟨rfl, rfl⟩))
    (fun os started H enc _ => lifted os started H enc)

theorem proved : Rows.FnExactDeepSaid :=
  over
#print axioms proved
end Go.Proofs.Ytofapfcneggllaa.fnExactDeep
