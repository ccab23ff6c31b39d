/-
  What is read of a log in an argument.
-/
import Derived.Test.YtipjgkekjocljabLgMath
import Derived.WalkKit
import Derived.ProofKit
import Derived.OpenShut
import Derived.ShutString
import Derived.ChangeOld
import Derived.ChangeMaps5
import Derived.Lib.SmallJoins
import Derived.Below
import Derived.Carry
import Derived.Deep.Slices
import Derived.ChangeSlices
namespace Go.Proofs.Ytipjgkekjocljab
open Go.ChangeShapes Go.WideShapes Go.ChangeAt Go.RowKit
open Go.ChangeMaps (open_string shut_string)
open Go.Deep (open_slice add_add)
namespace Lg

theorem cellsEnt : Try.prog.cellsOf 42 = 4 := by kernel_rfl
theorem cellsCm : Try.prog.cellsOf 40 = 3 := by kernel_rfl
theorem cellsLg : Try.prog.cellsOf 24 = 3 := by kernel_rfl
theorem cellsRow : Try.prog.cellsOf 22 = 1 := by kernel_rfl
theorem cellsInt : Try.prog.cellsOf 3 = 1 := by kernel_rfl
theorem cellsString : Try.prog.cellsOf 9 = 1 := by kernel_rfl

theorem list_of {α : Type} {P : Nat → α → Prop} : ∀ n : Nat, (∀ i, i < n → ∃ x, P i x) → ∃ l : List α, l.length = n ∧ ∀ i x, l[i]? = some x → P i x
  | 0, _ => ⟨[], rfl, fun i x h => by simp at h⟩
  | n + 1, h => by
    obtain ⟨l, hl, hp⟩ := list_of n fun i hi => h i (by omega)
    obtain ⟨x, hx⟩ := h n (by omega)
    refine ⟨l ++ [x], by simp [hl], fun i y hy => ?_⟩
    by_cases hi : i < n
    · rw [List.getElem?_append_left (by omega)] at hy
      exact hp i y hy
    · have hil := (List.getElem?_eq_some_iff.1 hy).1
      simp at hil
      obtain rfl : i = n := by omega
      rw [List.getElem?_append_right (by omega), hl, Nat.sub_self] at hy
      simp at hy
      subst hy
      exact hx
theorem array3 {α : Type} {cs : Array α} (h : cs.size = 3) : ∃ c0 c1 c2, cs = #[c0, c1, c2] := by
  obtain ⟨l⟩ := cs
  match l, h with
  | [c0, c1, c2], _ => exact ⟨c0, c1, c2, rfl⟩

set_option maxRecDepth 100000 in
theorem rowE {H : Type} {enc : TypeId × Value → H} {W : World} {sp : Nat → Bool} {fuel : Nat} {v : Value} {x : DataW H × List MemPlace} (h : DataW.trod enc Try.prog W 0 sp true fuel 22 [v] = some x) :
    ∃ (a : Option Addr) (cap : Nat) (vs : List En), v = .slice a vs.length cap ∧ vs.length ≤ maxLen ∧ RdE W a vs := by
  rcases open_slice Try.underlying22 h with ⟨hcs, _⟩ | ⟨a, len, cap, m, n, D, Pl, hcs, _, hl, hm, hmm, _, hx⟩
  · simp at hcs
    subst hcs
    exact ⟨none, 0, [], rfl, by unfold maxLen; simp, fun i v hi => by simp at hi⟩
  · simp at hcs
    subst hcs
    have hlm : len ≤ m := by rw [hmm]; split <;> omega
    have each : ∀ i, i < len → ∃ v : En, ∃ b o, (some a : Option Addr) = some ⟨b, o, none⟩ ∧ b < W.heap.size ∧ v.2.2.2.size ≤ maxLen ∧
        W.cell? ⟨b, o + i * 4, none⟩ = some (.int .i64 v.1) ∧ W.cell? ⟨b, o + i * 4 + 1, none⟩ = some (.int .i64 v.2.1) ∧ W.cell? ⟨b, o + i * 4 + 2, none⟩ = some (.int .i64 v.2.2.1) ∧ W.cell? ⟨b, o + i * 4 + 3, none⟩ = some (.string v.2.2.2) := by
      intro i hi
      have hspot : a.spot = none := by
        obtain ⟨cs', h1, h2⟩ := hx 0 (by omega)
        rw [cellsEnt] at h1
        obtain ⟨_, hlen, hcell⟩ := World.cells?_some h1
        match cs', hlen with
        | [v0, v1, v2, v3], _ =>
          have c0 := hcell 0 (by omega)
          have := World.cell?_spot c0
          simpa [Addr.add] using this
      obtain ⟨cs', h1, h2⟩ := hx i (by omega)
      rw [cellsEnt] at h1
      obtain ⟨_, hlen, hcell⟩ := World.cells?_some h1
      obtain ⟨xs, k, _, _, _, hxs, hf⟩ := DataW.trod_struct Try.underlying42 h2
      match cs', hlen, xs, hxs with
      | [v0, v1, v2, v3], _, [y0, y1], _ =>
        have f0 := hf 0 _ rfl
        have f1 := hf 1 _ rfl
        simp [cellsInt, cellsCm] at f0 f1
        obtain ⟨ys, k', _, _, _, hys, hg⟩ := DataW.trod_struct Try.underlying40 f1
        match ys, hys with
        | [u0, u1, u2], _ =>
          have g0 := hg 0 _ rfl
          have g1 := hg 1 _ rfl
          have g2 := hg 2 _ rfl
          simp [cellsInt, cellsString] at g0 g1 g2
          obtain ⟨z0, e0, _⟩ := DataW.trod_int Try.underlying3 f0
          obtain ⟨z1, e1, _⟩ := DataW.trod_int Try.underlying3 g0
          obtain ⟨z2, e2, _⟩ := DataW.trod_int Try.underlying3 g1
          obtain ⟨s, e3, _, hs⟩ := DataW.trod_string Try.underlying9 g2
          simp only [List.cons.injEq, and_true] at e0 e1 e2 e3
          subst e0 e1 e2 e3
          have c0 := hcell 0 (by omega)
          have c1 := hcell 1 (by omega)
          have c2 := hcell 2 (by omega)
          have c3 := hcell 3 (by omega)
          rw [add_add] at c0 c1 c2 c3
          obtain ⟨b, o, spot⟩ := a
          simp only [List.getElem?_cons_zero, List.getElem?_cons_succ, Nat.add_zero] at c0 c1 c2 c3
          simp at hspot
          subst hspot
          have hadd : ∀ j, (⟨b, o, none⟩ : Addr).add j = ⟨b, o + j, none⟩ := fun j => by unfold Addr.add; split <;> simp_all
          simp only [hadd, ← Nat.add_assoc] at c0 c1 c2 c3
          exact ⟨(z0, z1, z2, s), b, o, rfl, World.block_lt_of_cell? W _ c0, hs, c0, c1, c2, c3⟩
    obtain ⟨vs, hv, hp⟩ := list_of len each
    subst hv
    exact ⟨some a, cap, vs, rfl, by omega, hp⟩

theorem log_of {H : Type} {enc : TypeId × Value → H} {W : World} {b0 : Nat} {r : Reach} {v : Value} {d : DataW H} {p : List MemPlace} (hv : Value.okWide Try.prog W r b0 24 v) (h : DataW.Trod enc Try.prog W 0 (fun _ => true) true 24 v d p) :
    ∃ (ao : Option Addr) (cap : Nat) (vs : List En) (b t : Int), v = aggL b t ao vs.length cap ∧ vs.length ≤ maxLen ∧ RdE W ao vs ∧ (Lit.int .i64 b).wf = true ∧ (Lit.int .i64 t).wf = true := by
  obtain ⟨l, rfl, hsz⟩ := okWide_struct Try.underlying24 hv
  obtain ⟨c0, c1, c2, rfl⟩ := array3 (hsz.trans cellsLg)
  obtain ⟨fuel, hf⟩ := h
  obtain ⟨xs, n, _, _, _, hlen, hx⟩ := DataW.trod_struct Try.underlying24 hf
  match xs, hlen with
  | [y0, y1, y2], _ =>
    have f0 := hx 0 _ rfl
    have f1 := hx 1 _ rfl
    have f2 := hx 2 _ rfl
    simp [Value.cells, cellsRow, cellsInt] at f0 f1 f2
    obtain ⟨b, e0, _, wb⟩ := DataW.trod_int Try.underlying3 f0
    obtain ⟨t, e1, _, wt⟩ := DataW.trod_int Try.underlying3 f1
    obtain ⟨a, xa, vs, rfl, n1, r1⟩ := rowE f2
    simp only [List.cons.injEq, and_true] at e0 e1
    subst e0 e1
    exact ⟨a, xa, vs, b, t, rfl, n1, r1, wb, wt⟩

theorem list_arg {H : Type} {enc : TypeId × Value → H} {W : World} {v : Value} {d : DataW H} {p : List MemPlace} {a : Option Addr} {l c : Nat} (hv : v = .slice a l c) (h : DataW.Trod enc Try.prog W 0 (fun _ => true) true 22 v d p) :
    ∃ (ao : Option Addr) (cap : Nat) (vs : List En), v = .slice ao vs.length cap ∧ vs.length ≤ maxLen ∧ RdE W ao vs := by
  subst hv
  obtain ⟨fuel, hf⟩ := h
  exact rowE (v := .slice a l c) hf

end Lg
end Go.Proofs.Ytipjgkekjocljab
