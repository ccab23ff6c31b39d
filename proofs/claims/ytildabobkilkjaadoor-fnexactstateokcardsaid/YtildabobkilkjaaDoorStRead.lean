/-
  What is read of a state in an argument.
-/
import Derived.Test.YtildabobkilkjaaDoorStRow
import Derived.WalkKit
import Derived.ProofKit
import Derived.OpenShut
import Derived.ShutString
import Derived.ChangeOld
import Derived.ChangeMaps5
import Derived.Lib.SmallJoins
import Derived.Below
import Derived.Carry
import Derived.Deep.Slices
import Derived.ChangeSlices
namespace Go.Proofs.YtildabobkilkjaaDoor
open Go.ChangeShapes Go.WideShapes Go.ChangeAt Go.RowKit
open Go.ChangeMaps (open_string shut_string)
open Go.Deep (open_slice add_add)
namespace St

theorem cellsV : Tryd.prog.cellsOf 51 = 3 := by kernel_rfl
theorem cellsC : Tryd.prog.cellsOf 54 = 5 := by kernel_rfl
theorem cellsS : Tryd.prog.cellsOf 25 = 4 := by kernel_rfl
theorem cellsInt : Tryd.prog.cellsOf 3 = 1 := by kernel_rfl
theorem cellsString : Tryd.prog.cellsOf 9 = 1 := by kernel_rfl

theorem list_of {α : Type} {P : Nat → α → Prop} : ∀ n : Nat, (∀ i, i < n → ∃ x, P i x) → ∃ l : List α, l.length = n ∧ ∀ i x, l[i]? = some x → P i x
  | 0, _ => ⟨[], rfl, fun i x h => by simp at h⟩
  | n + 1, h => by
    obtain ⟨l, hl, hp⟩ := list_of n fun i hi => h i (by omega)
    obtain ⟨x, hx⟩ := h n (by omega)
    refine ⟨l ++ [x], by simp [hl], fun i y hy => ?_⟩
    by_cases hi : i < n
    · rw [List.getElem?_append_left (by omega)] at hy
      exact hp i y hy
    · have hil := (List.getElem?_eq_some_iff.1 hy).1
      simp at hil
      obtain rfl : i = n := by omega
      rw [List.getElem?_append_right (by omega), hl, Nat.sub_self] at hy
      simp at hy
      subst hy
      exact hx

set_option maxRecDepth 100000 in
theorem rowV {H : Type} {enc : TypeId × Value → H} {W : World} {sp : Nat → Bool} {fuel : Nat} {v : Value} {x : DataW H × List MemPlace} (h : DataW.trod enc Tryd.prog W 0 sp true fuel 22 [v] = some x) :
    ∃ (a : Option Addr) (cap : Nat) (vs : List Vl), v = .slice a vs.length cap ∧ vs.length ≤ maxLen ∧ RdV W a vs := by
  rcases open_slice Tryd.underlying22 h with ⟨hcs, _⟩ | ⟨a, len, cap, m, n, D, Pl, hcs, _, hl, hm, hmm, _, hx⟩
  · simp at hcs
    subst hcs
    exact ⟨none, 0, [], rfl, by unfold maxLen; simp, fun i v hi => by simp at hi⟩
  · simp at hcs
    subst hcs
    have hlm : len ≤ m := by rw [hmm]; split <;> omega
    have each : ∀ i, i < len → ∃ v : Vl, ∃ b o, (some a : Option Addr) = some ⟨b, o, none⟩ ∧ b < W.heap.size ∧ v.2.2.size ≤ maxLen ∧
        W.cell? ⟨b, o + i * 3, none⟩ = some (.int .i64 v.1) ∧ W.cell? ⟨b, o + i * 3 + 1, none⟩ = some (.int .i64 v.2.1) ∧ W.cell? ⟨b, o + i * 3 + 2, none⟩ = some (.string v.2.2) := by
      intro i hi
      have hspot : a.spot = none := by
        obtain ⟨cs', h1, h2⟩ := hx 0 (by omega)
        rw [cellsV] at h1
        obtain ⟨_, hlen, hcell⟩ := World.cells?_some h1
        match cs', hlen with
        | [v0, v1, v2], _ =>
          have c0 := hcell 0 (by omega)
          have := World.cell?_spot c0
          simpa [Addr.add] using this
      obtain ⟨cs', h1, h2⟩ := hx i (by omega)
      rw [cellsV] at h1
      obtain ⟨_, hlen, hcell⟩ := World.cells?_some h1
      obtain ⟨xs, k, _, _, _, hxs, hf⟩ := DataW.trod_struct Tryd.underlying51 h2
      match cs', hlen, xs, hxs with
      | [v0, v1, v2], _, [y0, y1, y2], _ =>
        have f0 := hf 0 _ rfl
        have f1 := hf 1 _ rfl
        have f2 := hf 2 _ rfl
        simp [cellsInt, cellsString] at f0 f1 f2
        obtain ⟨z0, e0, _⟩ := DataW.trod_int Tryd.underlying3 f0
        obtain ⟨z1, e1, _⟩ := DataW.trod_int Tryd.underlying3 f1
        obtain ⟨s, e2, _, hs⟩ := DataW.trod_string Tryd.underlying9 f2
        simp only [List.cons.injEq, and_true] at e0 e1 e2
        subst e0 e1 e2
        have c0 := hcell 0 (by omega)
        have c1 := hcell 1 (by omega)
        have c2 := hcell 2 (by omega)
        rw [add_add] at c0 c1 c2
        obtain ⟨b, o, spot⟩ := a
        simp only [List.getElem?_cons_zero, List.getElem?_cons_succ, Nat.add_zero] at c0 c1 c2
        simp at hspot
        subst hspot
        have hadd : ∀ j, (⟨b, o, none⟩ : Addr).add j = ⟨b, o + j, none⟩ := fun j => by unfold Addr.add; split <;> simp_all
        simp only [hadd, ← Nat.add_assoc] at c0 c1 c2
        exact ⟨(z0, z1, s), b, o, rfl, World.block_lt_of_cell? W _ c0, hs, c0, c1, c2⟩
    obtain ⟨vs, hv, hp⟩ := list_of len each
    subst hv
    exact ⟨some a, cap, vs, rfl, by omega, hp⟩

set_option maxRecDepth 100000 in
theorem rowC {H : Type} {enc : TypeId × Value → H} {W : World} {sp : Nat → Bool} {fuel : Nat} {v : Value} {x : DataW H × List MemPlace} (h : DataW.trod enc Tryd.prog W 0 sp true fuel 23 [v] = some x) :
    ∃ (a : Option Addr) (cap : Nat) (cs : List Cl), v = .slice a cs.length cap ∧ cs.length ≤ maxLen ∧ RdC W a cs := by
  rcases open_slice Tryd.underlying23 h with ⟨hcs, _⟩ | ⟨a, len, cap, m, n, D, Pl, hcs, _, hl, hm, hmm, _, hx⟩
  · simp at hcs
    subst hcs
    exact ⟨none, 0, [], rfl, by unfold maxLen; simp, fun i v hi => by simp at hi⟩
  · simp at hcs
    subst hcs
    have hlm : len ≤ m := by rw [hmm]; split <;> omega
    have each : ∀ i, i < len → ∃ c : Cl, ∃ b o, (some a : Option Addr) = some ⟨b, o, none⟩ ∧ b < W.heap.size ∧ c.2.1.size ≤ maxLen ∧ c.2.2.2.2.size ≤ maxLen ∧
        W.cell? ⟨b, o + i * 5, none⟩ = some (.int .i64 c.1) ∧ W.cell? ⟨b, o + i * 5 + 1, none⟩ = some (.string c.2.1) ∧ W.cell? ⟨b, o + i * 5 + 2, none⟩ = some (.int .i64 c.2.2.1) ∧ W.cell? ⟨b, o + i * 5 + 3, none⟩ = some (.int .i64 c.2.2.2.1) ∧ W.cell? ⟨b, o + i * 5 + 4, none⟩ = some (.string c.2.2.2.2) := by
      intro i hi
      have hspot : a.spot = none := by
        obtain ⟨cs', h1, h2⟩ := hx 0 (by omega)
        rw [cellsC] at h1
        obtain ⟨_, hlen, hcell⟩ := World.cells?_some h1
        match cs', hlen with
        | [v0, v1, v2, v3, v4], _ =>
          have c0 := hcell 0 (by omega)
          have := World.cell?_spot c0
          simpa [Addr.add] using this
      obtain ⟨cs', h1, h2⟩ := hx i (by omega)
      rw [cellsC] at h1
      obtain ⟨_, hlen, hcell⟩ := World.cells?_some h1
      obtain ⟨xs, k, _, _, _, hxs, hf⟩ := DataW.trod_struct Tryd.underlying54 h2
      match cs', hlen, xs, hxs with
      | [v0, v1, v2, v3, v4], _, [y0, y1, y2], _ =>
        have f0 := hf 0 _ rfl
        have f1 := hf 1 _ rfl
        have f2 := hf 2 _ rfl
        simp [cellsInt, cellsString, cellsV] at f0 f1 f2
        obtain ⟨z0, e0, _⟩ := DataW.trod_int Tryd.underlying3 f0
        obtain ⟨s1, e1, _, hs1⟩ := DataW.trod_string Tryd.underlying9 f1
        obtain ⟨xs2, k2, _, _, _, hxs2, hf2⟩ := DataW.trod_struct Tryd.underlying51 f2
        match xs2, hxs2 with
        | [q0, q1, q2], _ =>
          have g0 := hf2 0 _ rfl
          have g1 := hf2 1 _ rfl
          have g2 := hf2 2 _ rfl
          simp [cellsInt, cellsString] at g0 g1 g2
          obtain ⟨z2, e2, _⟩ := DataW.trod_int Tryd.underlying3 g0
          obtain ⟨z3, e3, _⟩ := DataW.trod_int Tryd.underlying3 g1
          obtain ⟨s, e4, _, hs⟩ := DataW.trod_string Tryd.underlying9 g2
          simp only [List.cons.injEq, and_true] at e0 e1 e2 e3 e4
          subst e0 e1 e2 e3 e4
          have c0 := hcell 0 (by omega)
          have c1 := hcell 1 (by omega)
          have c2 := hcell 2 (by omega)
          have c3 := hcell 3 (by omega)
          have c4 := hcell 4 (by omega)
          rw [add_add] at c0 c1 c2 c3 c4
          obtain ⟨b, o, spot⟩ := a
          simp only [List.getElem?_cons_zero, List.getElem?_cons_succ, Nat.add_zero] at c0 c1 c2 c3 c4
          simp at hspot
          subst hspot
          have hadd : ∀ j, (⟨b, o, none⟩ : Addr).add j = ⟨b, o + j, none⟩ := fun j => by unfold Addr.add; split <;> simp_all
          simp only [hadd, ← Nat.add_assoc] at c0 c1 c2 c3 c4
          exact ⟨(z0, s1, z2, z3, s), b, o, rfl, World.block_lt_of_cell? W _ c0, hs1, hs, c0, c1, c2, c3, c4⟩
    obtain ⟨vs, hv, hp⟩ := list_of len each
    subst hv
    exact ⟨some a, cap, vs, rfl, by omega, hp⟩

set_option maxRecDepth 100000 in
theorem state_of {H : Type} {enc : TypeId × Value → H} {W : World} {b0 : Nat} {r : Reach} {v : Value} {d : DataW H} {p : List MemPlace} (hv : Value.okWide Tryd.prog W r b0 25 v) (h : DataW.Trod enc Tryd.prog W 0 (fun _ => true) true 25 v d p) :
    ∃ (a b : Option Addr) (ca cb : Nat) (vs : List Vl) (cs : List Cl) (nr er : Int), v = .agg #[.slice a vs.length ca, .slice b cs.length cb, .int .i64 nr, .int .i64 er] ∧ vs.length ≤ maxLen ∧ cs.length ≤ maxLen ∧ RdV W a vs ∧ RdC W b cs := by
  obtain ⟨c0, c1, c2, c3, y0, y1, y2, y3, m, rfl, _, _, hy0, hy1, hy2, hy3⟩ := Joins.open_agg4 Tryd.underlying25 (by kernel_rfl) cellsS hv h
  obtain ⟨a, ca, vs, rfl, hl, hR⟩ := rowV hy0
  obtain ⟨b, cb, cs, rfl, hm, hC⟩ := rowC hy1
  obtain ⟨nr, e2, _⟩ := DataW.trod_int Tryd.underlying3 hy2
  obtain ⟨er, e3, _⟩ := DataW.trod_int Tryd.underlying3 hy3
  simp at e2 e3
  subst e2 e3
  exact ⟨a, b, ca, cb, vs, cs, nr, er, rfl, hl, hm, hR, hC⟩

end St
end Go.Proofs.YtildabobkilkjaaDoor
