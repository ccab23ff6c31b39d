/-
  What is read of a list of places in an argument.
  What is read of a program in an argument.
  What is read of a state in an argument.
  What is read of a Mach in an argument.
-/
import Derived.Test.YtkhoccjfkkfipaaGreatDoorP06
import Derived.WalkKit
import Derived.ProofKit
import Derived.OpenShut
import Derived.ShutString
import Derived.ChangeOld
import Derived.ChangeMaps5
import Derived.Lib.SmallJoins
import Derived.Below
import Derived.Carry
import Derived.Deep.Slices
import Derived.ChangeSlices
import Derived.Test.YtkhoccjfkkfipaaGreatDoorP07
import Derived.Test.YtkhoccjfkkfipaaGreatDoorP01
import Derived.Test.YtkhoccjfkkfipaaGreatDoorP42
namespace Go.Proofs.YtkhoccjfkkfipaaGreatDoor
open Go.ChangeShapes Go.WideShapes Go.ChangeAt Go.RowKit
open Go.ChangeMaps (open_string shut_string)
open Go.Deep (open_slice add_add)
namespace Oc
open St (Vl RdV)

theorem cellsO : Tryz.prog.cellsOf 83 = 3 := by kernel_rfl
theorem cellsInt : Tryz.prog.cellsOf 3 = 1 := by kernel_rfl
theorem cellsString : Tryz.prog.cellsOf 9 = 1 := by kernel_rfl

theorem list_of {α : Type} {P : Nat → α → Prop} : ∀ n : Nat, (∀ i, i < n → ∃ x, P i x) → ∃ l : List α, l.length = n ∧ ∀ i x, l[i]? = some x → P i x
  | 0, _ => ⟨[], rfl, fun i x h => by simp at h⟩
  | n + 1, h => by
    obtain ⟨l, hl, hp⟩ := list_of n fun i hi => h i (by omega)
    obtain ⟨x, hx⟩ := h n (by omega)
    refine ⟨l ++ [x], by simp [hl], fun i y hy => ?_⟩
    by_cases hi : i < n
    · rw [List.getElem?_append_left (by omega)] at hy
      exact hp i y hy
    · have hil := (List.getElem?_eq_some_iff.1 hy).1
      simp at hil
      obtain rfl : i = n := by omega
      rw [List.getElem?_append_right (by omega), hl, Nat.sub_self] at hy
      simp at hy
      subst hy
      exact hx

set_option maxRecDepth 100000 in
theorem rowO {H : Type} {enc : TypeId × Value → H} {W : World} {sp : Nat → Bool} {fuel : Nat} {v : Value} {x : DataW H × List MemPlace} (h : DataW.trod enc Tryz.prog W 0 sp true fuel 23 [v] = some x) :
    ∃ (a : Option Addr) (cap : Nat) (vs : List Vl), v = .slice a vs.length cap ∧ vs.length ≤ maxLen ∧ RdV W a vs := by
  rcases open_slice Tryz.underlying23 h with ⟨hcs, _⟩ | ⟨a, len, cap, m, n, D, Pl, hcs, _, hl, hm, hmm, _, hx⟩
  · simp at hcs
    subst hcs
    exact ⟨none, 0, [], rfl, by unfold maxLen; simp, fun i v hi => by simp at hi⟩
  · simp at hcs
    subst hcs
    have hlm : len ≤ m := by rw [hmm]; split <;> omega
    have each : ∀ i, i < len → ∃ v : Vl, ∃ b o, (some a : Option Addr) = some ⟨b, o, none⟩ ∧ b < W.heap.size ∧ v.2.2.size ≤ maxLen ∧
        W.cell? ⟨b, o + i * 3, none⟩ = some (.int .i64 v.1) ∧ W.cell? ⟨b, o + i * 3 + 1, none⟩ = some (.int .i64 v.2.1) ∧ W.cell? ⟨b, o + i * 3 + 2, none⟩ = some (.string v.2.2) := by
      intro i hi
      have hspot : a.spot = none := by
        obtain ⟨cs', h1, h2⟩ := hx 0 (by omega)
        rw [cellsO] at h1
        obtain ⟨_, hlen, hcell⟩ := World.cells?_some h1
        match cs', hlen with
        | [v0, v1, v2], _ =>
          have c0 := hcell 0 (by omega)
          have := World.cell?_spot c0
          simpa [Addr.add] using this
      obtain ⟨cs', h1, h2⟩ := hx i (by omega)
      rw [cellsO] at h1
      obtain ⟨_, hlen, hcell⟩ := World.cells?_some h1
      obtain ⟨xs, k, _, _, _, hxs, hf⟩ := DataW.trod_struct Tryz.underlying83 h2
      match cs', hlen, xs, hxs with
      | [v0, v1, v2], _, [y0, y1, y2], _ =>
        have f0 := hf 0 _ rfl
        have f1 := hf 1 _ rfl
        have f2 := hf 2 _ rfl
        simp [cellsInt, cellsString] at f0 f1 f2
        obtain ⟨z0, e0, _⟩ := DataW.trod_int Tryz.underlying3 f0
        obtain ⟨z1, e1, _⟩ := DataW.trod_int Tryz.underlying3 f1
        obtain ⟨s, e2, _, hs⟩ := DataW.trod_string Tryz.underlying9 f2
        simp only [List.cons.injEq, and_true] at e0 e1 e2
        subst e0 e1 e2
        have c0 := hcell 0 (by omega)
        have c1 := hcell 1 (by omega)
        have c2 := hcell 2 (by omega)
        rw [add_add] at c0 c1 c2
        obtain ⟨b, o, spot⟩ := a
        simp only [List.getElem?_cons_zero, List.getElem?_cons_succ, Nat.add_zero] at c0 c1 c2
        simp at hspot
        subst hspot
        have hadd : ∀ j, (⟨b, o, none⟩ : Addr).add j = ⟨b, o + j, none⟩ := fun j => by unfold Addr.add; split <;> simp_all
        simp only [hadd, ← Nat.add_assoc] at c0 c1 c2
        exact ⟨(z0, z1, s), b, o, rfl, World.block_lt_of_cell? W _ c0, hs, c0, c1, c2⟩
    obtain ⟨vs, hv, hp⟩ := list_of len each
    subst hv
    exact ⟨some a, cap, vs, rfl, by omega, hp⟩

end Oc
end Go.Proofs.YtkhoccjfkkfipaaGreatDoor
namespace Go.Proofs.YtkhoccjfkkfipaaGreatDoor
open Go.ChangeShapes Go.WideShapes Go.ChangeAt Go.RowKit
open Go.ChangeMaps (open_string shut_string)
open Go.Deep (open_slice add_add)
namespace Pg
open Go.Proofs.YtkhoccjfkkfipaaGreatDoor.Oc (list_of cellsString rowO)

theorem cellsP : Tryz.prog.cellsOf 25 = 4 := by kernel_rfl

set_option maxRecDepth 100000 in
theorem rowT {H : Type} {enc : TypeId × Value → H} {W : World} {sp : Nat → Bool} {fuel : Nat} {v : Value} {x : DataW H × List MemPlace} (h : DataW.trod enc Tryz.prog W 0 sp true fuel 22 [v] = some x) :
    ∃ (a : Option Addr) (cap : Nat) (ss : List ByteArray), v = .slice a ss.length cap ∧ ss.length ≤ maxLen ∧ RdT W a ss := by
  rcases open_slice Tryz.underlying22 h with ⟨hcs, _⟩ | ⟨a, len, cap, m, n, D, Pl, hcs, _, hl, hm, hmm, _, hx⟩
  · simp at hcs
    subst hcs
    exact ⟨none, 0, [], rfl, by unfold maxLen; simp, fun i v hi => by simp at hi⟩
  · simp at hcs
    subst hcs
    have hlm : len ≤ m := by rw [hmm]; split <;> omega
    have each : ∀ i, i < len → ∃ s : ByteArray, ∃ b o, (some a : Option Addr) = some ⟨b, o, none⟩ ∧ b < W.heap.size ∧ s.size ≤ maxLen ∧ W.cell? ⟨b, o + i, none⟩ = some (.string s) := by
      intro i hi
      have hspot : a.spot = none := by
        obtain ⟨cs', h1, h2⟩ := hx 0 (by omega)
        rw [cellsString] at h1
        obtain ⟨_, hlen, hcell⟩ := World.cells?_some h1
        match cs', hlen with
        | [v0], _ =>
          have c0 := hcell 0 (by omega)
          have := World.cell?_spot c0
          simpa [Addr.add] using this
      obtain ⟨cs', h1, h2⟩ := hx i (by omega)
      rw [cellsString] at h1
      obtain ⟨_, hlen, hcell⟩ := World.cells?_some h1
      match cs', hlen with
      | [v0], _ =>
        obtain ⟨s, e2, _, hs⟩ := DataW.trod_string Tryz.underlying9 h2
        simp only [List.cons.injEq, and_true] at e2
        subst e2
        have c0 := hcell 0 (by omega)
        rw [add_add] at c0
        obtain ⟨b, o, spot⟩ := a
        simp at hspot
        subst hspot
        have hadd : ∀ j, (⟨b, o, none⟩ : Addr).add j = ⟨b, o + j, none⟩ := fun j => by unfold Addr.add; split <;> simp_all
        simp only [List.getElem?_cons_zero, Nat.add_zero, Nat.mul_one, hadd] at c0
        exact ⟨s, b, o, rfl, World.block_lt_of_cell? W _ c0, hs, c0⟩
    obtain ⟨ss, hv, hp⟩ := list_of len each
    subst hv
    exact ⟨some a, cap, ss, rfl, by omega, hp⟩

set_option maxRecDepth 100000 in
theorem prog_of {H : Type} {enc : TypeId × Value → H} {W : World} {b0 : Nat} {r : Reach} {v : Value} {d : DataW H} {p : List MemPlace} (hv : Value.okWide Tryz.prog W r b0 25 v) (h : DataW.Trod enc Tryz.prog W 0 (fun _ => true) true 25 v d p) :
    ∃ (va ca sa ma : Option Addr) (vc cc sc mc : Nat) (vars cells : List ByteArray) (st mn : List St.Vl), v = .agg #[.slice va vars.length vc, .slice ca cells.length cc, .slice sa st.length sc, .slice ma mn.length mc] ∧ vars.length ≤ maxLen ∧ cells.length ≤ maxLen ∧ st.length ≤ maxLen ∧ mn.length ≤ maxLen ∧ PRd W va ca sa ma vars cells st mn := by
  obtain ⟨c0, c1, c2, c3, y0, y1, y2, y3, m, rfl, _, _, hy0, hy1, hy2, hy3⟩ := Joins.open_agg4 Tryz.underlying25 (by kernel_rfl) cellsP hv h
  obtain ⟨va, vc, vars, rfl, n1, r1⟩ := rowT hy0
  obtain ⟨ca, cc, cells, rfl, n2, r2⟩ := rowT hy1
  obtain ⟨sa, sc, st, rfl, n3, r3⟩ := rowO hy2
  obtain ⟨ma, mc, mn, rfl, n4, r4⟩ := rowO hy3
  exact ⟨va, ca, sa, ma, vc, cc, sc, mc, vars, cells, st, mn, rfl, n1, n2, n3, n4, r1, r2, r3, r4⟩

end Pg
end Go.Proofs.YtkhoccjfkkfipaaGreatDoor
namespace Go.Proofs.YtkhoccjfkkfipaaGreatDoor
open Go.ChangeShapes Go.WideShapes Go.ChangeAt Go.RowKit
open Go.ChangeMaps (open_string shut_string)
open Go.Deep (open_slice add_add)
namespace St

theorem cellsV : Tryz.prog.cellsOf 104 = 3 := by kernel_rfl
theorem cellsC : Tryz.prog.cellsOf 107 = 5 := by kernel_rfl
theorem cellsS : Tryz.prog.cellsOf 29 = 4 := by kernel_rfl
theorem cellsInt : Tryz.prog.cellsOf 3 = 1 := by kernel_rfl
theorem cellsString : Tryz.prog.cellsOf 9 = 1 := by kernel_rfl

theorem list_of {α : Type} {P : Nat → α → Prop} : ∀ n : Nat, (∀ i, i < n → ∃ x, P i x) → ∃ l : List α, l.length = n ∧ ∀ i x, l[i]? = some x → P i x
  | 0, _ => ⟨[], rfl, fun i x h => by simp at h⟩
  | n + 1, h => by
    obtain ⟨l, hl, hp⟩ := list_of n fun i hi => h i (by omega)
    obtain ⟨x, hx⟩ := h n (by omega)
    refine ⟨l ++ [x], by simp [hl], fun i y hy => ?_⟩
    by_cases hi : i < n
    · rw [List.getElem?_append_left (by omega)] at hy
      exact hp i y hy
    · have hil := (List.getElem?_eq_some_iff.1 hy).1
      simp at hil
      obtain rfl : i = n := by omega
      rw [List.getElem?_append_right (by omega), hl, Nat.sub_self] at hy
      simp at hy
      subst hy
      exact hx

set_option maxRecDepth 100000 in
theorem rowV {H : Type} {enc : TypeId × Value → H} {W : World} {sp : Nat → Bool} {fuel : Nat} {v : Value} {x : DataW H × List MemPlace} (h : DataW.trod enc Tryz.prog W 0 sp true fuel 26 [v] = some x) :
    ∃ (a : Option Addr) (cap : Nat) (vs : List Vl), v = .slice a vs.length cap ∧ vs.length ≤ maxLen ∧ RdV W a vs := by
  rcases open_slice Tryz.underlying26 h with ⟨hcs, _⟩ | ⟨a, len, cap, m, n, D, Pl, hcs, _, hl, hm, hmm, _, hx⟩
  · simp at hcs
    subst hcs
    exact ⟨none, 0, [], rfl, by unfold maxLen; simp, fun i v hi => by simp at hi⟩
  · simp at hcs
    subst hcs
    have hlm : len ≤ m := by rw [hmm]; split <;> omega
    have each : ∀ i, i < len → ∃ v : Vl, ∃ b o, (some a : Option Addr) = some ⟨b, o, none⟩ ∧ b < W.heap.size ∧ v.2.2.size ≤ maxLen ∧
        W.cell? ⟨b, o + i * 3, none⟩ = some (.int .i64 v.1) ∧ W.cell? ⟨b, o + i * 3 + 1, none⟩ = some (.int .i64 v.2.1) ∧ W.cell? ⟨b, o + i * 3 + 2, none⟩ = some (.string v.2.2) := by
      intro i hi
      have hspot : a.spot = none := by
        obtain ⟨cs', h1, h2⟩ := hx 0 (by omega)
        rw [cellsV] at h1
        obtain ⟨_, hlen, hcell⟩ := World.cells?_some h1
        match cs', hlen with
        | [v0, v1, v2], _ =>
          have c0 := hcell 0 (by omega)
          have := World.cell?_spot c0
          simpa [Addr.add] using this
      obtain ⟨cs', h1, h2⟩ := hx i (by omega)
      rw [cellsV] at h1
      obtain ⟨_, hlen, hcell⟩ := World.cells?_some h1
      obtain ⟨xs, k, _, _, _, hxs, hf⟩ := DataW.trod_struct Tryz.underlying104 h2
      match cs', hlen, xs, hxs with
      | [v0, v1, v2], _, [y0, y1, y2], _ =>
        have f0 := hf 0 _ rfl
        have f1 := hf 1 _ rfl
        have f2 := hf 2 _ rfl
        simp [cellsInt, cellsString] at f0 f1 f2
        obtain ⟨z0, e0, _⟩ := DataW.trod_int Tryz.underlying3 f0
        obtain ⟨z1, e1, _⟩ := DataW.trod_int Tryz.underlying3 f1
        obtain ⟨s, e2, _, hs⟩ := DataW.trod_string Tryz.underlying9 f2
        simp only [List.cons.injEq, and_true] at e0 e1 e2
        subst e0 e1 e2
        have c0 := hcell 0 (by omega)
        have c1 := hcell 1 (by omega)
        have c2 := hcell 2 (by omega)
        rw [add_add] at c0 c1 c2
        obtain ⟨b, o, spot⟩ := a
        simp only [List.getElem?_cons_zero, List.getElem?_cons_succ, Nat.add_zero] at c0 c1 c2
        simp at hspot
        subst hspot
        have hadd : ∀ j, (⟨b, o, none⟩ : Addr).add j = ⟨b, o + j, none⟩ := fun j => by unfold Addr.add; split <;> simp_all
        simp only [hadd, ← Nat.add_assoc] at c0 c1 c2
        exact ⟨(z0, z1, s), b, o, rfl, World.block_lt_of_cell? W _ c0, hs, c0, c1, c2⟩
    obtain ⟨vs, hv, hp⟩ := list_of len each
    subst hv
    exact ⟨some a, cap, vs, rfl, by omega, hp⟩

set_option maxRecDepth 100000 in
theorem rowC {H : Type} {enc : TypeId × Value → H} {W : World} {sp : Nat → Bool} {fuel : Nat} {v : Value} {x : DataW H × List MemPlace} (h : DataW.trod enc Tryz.prog W 0 sp true fuel 27 [v] = some x) :
    ∃ (a : Option Addr) (cap : Nat) (cs : List Cl), v = .slice a cs.length cap ∧ cs.length ≤ maxLen ∧ RdC W a cs := by
  rcases open_slice Tryz.underlying27 h with ⟨hcs, _⟩ | ⟨a, len, cap, m, n, D, Pl, hcs, _, hl, hm, hmm, _, hx⟩
  · simp at hcs
    subst hcs
    exact ⟨none, 0, [], rfl, by unfold maxLen; simp, fun i v hi => by simp at hi⟩
  · simp at hcs
    subst hcs
    have hlm : len ≤ m := by rw [hmm]; split <;> omega
    have each : ∀ i, i < len → ∃ c : Cl, ∃ b o, (some a : Option Addr) = some ⟨b, o, none⟩ ∧ b < W.heap.size ∧ c.2.1.size ≤ maxLen ∧ c.2.2.2.2.size ≤ maxLen ∧
        W.cell? ⟨b, o + i * 5, none⟩ = some (.int .i64 c.1) ∧ W.cell? ⟨b, o + i * 5 + 1, none⟩ = some (.string c.2.1) ∧ W.cell? ⟨b, o + i * 5 + 2, none⟩ = some (.int .i64 c.2.2.1) ∧ W.cell? ⟨b, o + i * 5 + 3, none⟩ = some (.int .i64 c.2.2.2.1) ∧ W.cell? ⟨b, o + i * 5 + 4, none⟩ = some (.string c.2.2.2.2) := by
      intro i hi
      have hspot : a.spot = none := by
        obtain ⟨cs', h1, h2⟩ := hx 0 (by omega)
        rw [cellsC] at h1
        obtain ⟨_, hlen, hcell⟩ := World.cells?_some h1
        match cs', hlen with
        | [v0, v1, v2, v3, v4], _ =>
          have c0 := hcell 0 (by omega)
          have := World.cell?_spot c0
          simpa [Addr.add] using this
      obtain ⟨cs', h1, h2⟩ := hx i (by omega)
      rw [cellsC] at h1
      obtain ⟨_, hlen, hcell⟩ := World.cells?_some h1
      obtain ⟨xs, k, _, _, _, hxs, hf⟩ := DataW.trod_struct Tryz.underlying107 h2
      match cs', hlen, xs, hxs with
      | [v0, v1, v2, v3, v4], _, [y0, y1, y2], _ =>
        have f0 := hf 0 _ rfl
        have f1 := hf 1 _ rfl
        have f2 := hf 2 _ rfl
        simp [cellsInt, cellsString, cellsV] at f0 f1 f2
        obtain ⟨z0, e0, _⟩ := DataW.trod_int Tryz.underlying3 f0
        obtain ⟨s1, e1, _, hs1⟩ := DataW.trod_string Tryz.underlying9 f1
        obtain ⟨xs2, k2, _, _, _, hxs2, hf2⟩ := DataW.trod_struct Tryz.underlying104 f2
        match xs2, hxs2 with
        | [q0, q1, q2], _ =>
          have g0 := hf2 0 _ rfl
          have g1 := hf2 1 _ rfl
          have g2 := hf2 2 _ rfl
          simp [cellsInt, cellsString] at g0 g1 g2
          obtain ⟨z2, e2, _⟩ := DataW.trod_int Tryz.underlying3 g0
          obtain ⟨z3, e3, _⟩ := DataW.trod_int Tryz.underlying3 g1
          obtain ⟨s, e4, _, hs⟩ := DataW.trod_string Tryz.underlying9 g2
          simp only [List.cons.injEq, and_true] at e0 e1 e2 e3 e4
          subst e0 e1 e2 e3 e4
          have c0 := hcell 0 (by omega)
          have c1 := hcell 1 (by omega)
          have c2 := hcell 2 (by omega)
          have c3 := hcell 3 (by omega)
          have c4 := hcell 4 (by omega)
          rw [add_add] at c0 c1 c2 c3 c4
          obtain ⟨b, o, spot⟩ := a
          simp only [List.getElem?_cons_zero, List.getElem?_cons_succ, Nat.add_zero] at c0 c1 c2 c3 c4
          simp at hspot
          subst hspot
          have hadd : ∀ j, (⟨b, o, none⟩ : Addr).add j = ⟨b, o + j, none⟩ := fun j => by unfold Addr.add; split <;> simp_all
          simp only [hadd, ← Nat.add_assoc] at c0 c1 c2 c3 c4
          exact ⟨(z0, s1, z2, z3, s), b, o, rfl, World.block_lt_of_cell? W _ c0, hs1, hs, c0, c1, c2, c3, c4⟩
    obtain ⟨vs, hv, hp⟩ := list_of len each
    subst hv
    exact ⟨some a, cap, vs, rfl, by omega, hp⟩

set_option maxRecDepth 100000 in
theorem state_of {H : Type} {enc : TypeId × Value → H} {W : World} {b0 : Nat} {r : Reach} {v : Value} {d : DataW H} {p : List MemPlace} (hv : Value.okWide Tryz.prog W r b0 29 v) (h : DataW.Trod enc Tryz.prog W 0 (fun _ => true) true 29 v d p) :
    ∃ (a b : Option Addr) (ca cb : Nat) (vs : List Vl) (cs : List Cl) (nr er : Int), v = .agg #[.slice a vs.length ca, .slice b cs.length cb, .int .i64 nr, .int .i64 er] ∧ vs.length ≤ maxLen ∧ cs.length ≤ maxLen ∧ RdV W a vs ∧ RdC W b cs := by
  obtain ⟨c0, c1, c2, c3, y0, y1, y2, y3, m, rfl, _, _, hy0, hy1, hy2, hy3⟩ := Joins.open_agg4 Tryz.underlying29 (by kernel_rfl) cellsS hv h
  obtain ⟨a, ca, vs, rfl, hl, hR⟩ := rowV hy0
  obtain ⟨b, cb, cs, rfl, hm, hC⟩ := rowC hy1
  obtain ⟨nr, e2, _⟩ := DataW.trod_int Tryz.underlying3 hy2
  obtain ⟨er, e3, _⟩ := DataW.trod_int Tryz.underlying3 hy3
  simp at e2 e3
  subst e2 e3
  exact ⟨a, b, ca, cb, vs, cs, nr, er, rfl, hl, hm, hR, hC⟩

end St
end Go.Proofs.YtkhoccjfkkfipaaGreatDoor
namespace Go.Proofs.YtkhoccjfkkfipaaGreatDoor
open Go.ChangeShapes Go.WideShapes Go.ChangeAt Go.RowKit
open Go.ChangeMaps (open_string shut_string)
open Go.Deep (open_slice add_add)
namespace Mh
open Pg (RdI)
open St (list_of cellsInt cellsString rowV rowC)

theorem cellsM : Tryz.prog.cellsOf 32 = 6 := by kernel_rfl
theorem cellsS : Tryz.prog.cellsOf 29 = 4 := by kernel_rfl
theorem cellsL : Tryz.prog.cellsOf 30 = 1 := by kernel_rfl
theorem cellsVs : Tryz.prog.cellsOf 26 = 1 := by kernel_rfl
theorem cellsCs : Tryz.prog.cellsOf 27 = 1 := by kernel_rfl
theorem array6 {α : Type} {cs : Array α} (h : cs.size = 6) : ∃ c0 c1 c2 c3 c4 c5, cs = #[c0, c1, c2, c3, c4, c5] := by
  obtain ⟨l⟩ := cs
  match l, h with
  | [c0, c1, c2, c3, c4, c5], _ => exact ⟨c0, c1, c2, c3, c4, c5, rfl⟩

set_option maxRecDepth 100000 in
theorem rowI {H : Type} {enc : TypeId × Value → H} {W : World} {sp : Nat → Bool} {fuel : Nat} {v : Value} {x : DataW H × List MemPlace} (h : DataW.trod enc Tryz.prog W 0 sp true fuel 30 [v] = some x) :
    ∃ (a : Option Addr) (cap : Nat) (ss : List Int), v = .slice a ss.length cap ∧ ss.length ≤ maxLen ∧ RdI W a ss := by
  rcases open_slice Tryz.underlying30 h with ⟨hcs, _⟩ | ⟨a, len, cap, m, n, D, Pl, hcs, _, hl, hm, hmm, _, hx⟩
  · simp at hcs
    subst hcs
    exact ⟨none, 0, [], rfl, by unfold maxLen; simp, fun i v hi => by simp at hi⟩
  · simp at hcs
    subst hcs
    have hlm : len ≤ m := by rw [hmm]; split <;> omega
    have each : ∀ i, i < len → ∃ s : Int, ∃ b o, (some a : Option Addr) = some ⟨b, o, none⟩ ∧ b < W.heap.size ∧ W.cell? ⟨b, o + i, none⟩ = some (.int .i64 s) := by
      intro i hi
      have hspot : a.spot = none := by
        obtain ⟨cs', h1, h2⟩ := hx 0 (by omega)
        rw [cellsInt] at h1
        obtain ⟨_, hlen, hcell⟩ := World.cells?_some h1
        match cs', hlen with
        | [v0], _ =>
          have c0 := hcell 0 (by omega)
          have := World.cell?_spot c0
          simpa [Addr.add] using this
      obtain ⟨cs', h1, h2⟩ := hx i (by omega)
      rw [cellsInt] at h1
      obtain ⟨_, hlen, hcell⟩ := World.cells?_some h1
      match cs', hlen with
      | [v0], _ =>
        obtain ⟨s, e2, _⟩ := DataW.trod_int Tryz.underlying3 h2
        simp only [List.cons.injEq, and_true] at e2
        subst e2
        have c0 := hcell 0 (by omega)
        rw [add_add] at c0
        obtain ⟨b, o, spot⟩ := a
        simp at hspot
        subst hspot
        have hadd : ∀ j, (⟨b, o, none⟩ : Addr).add j = ⟨b, o + j, none⟩ := fun j => by unfold Addr.add; split <;> simp_all
        simp only [List.getElem?_cons_zero, Nat.add_zero, Nat.mul_one, hadd] at c0
        exact ⟨s, b, o, rfl, World.block_lt_of_cell? W _ c0, c0⟩
    obtain ⟨ss, hv, hp⟩ := list_of len each
    subst hv
    exact ⟨some a, cap, ss, rfl, by omega, hp⟩

set_option maxRecDepth 100000 in
theorem mach_of {H : Type} {enc : TypeId × Value → H} {W : World} {b0 : Nat} {r : Reach} {v : Value} {d : DataW H} {p : List MemPlace} (hv : Value.okWide Tryz.prog W r b0 32 v) (h : DataW.Trod enc Tryz.prog W 0 (fun _ => true) true 32 v d p) :
    ∃ (a b c : Option Addr) (xa xb xc : Nat) (vs : List St.Vl) (cs : List St.Cl) (nr er : Int) (dn : List Int) (out : ByteArray), v = .agg #[.slice a vs.length xa, .slice b cs.length xb, .int .i64 nr, .int .i64 er, .slice c dn.length xc, .string out] ∧ vs.length ≤ maxLen ∧ cs.length ≤ maxLen ∧ dn.length ≤ maxLen ∧ out.size ≤ maxLen ∧ MRd W a b c vs cs dn := by
  obtain ⟨l, rfl, hsz⟩ := okWide_struct Tryz.underlying32 hv
  obtain ⟨c0, c1, c2, c3, c4, c5, rfl⟩ := array6 (hsz.trans cellsM)
  obtain ⟨fuel, hf⟩ := h
  obtain ⟨xs, n, _, _, _, hlen, hx⟩ := DataW.trod_struct Tryz.underlying32 hf
  match xs, hlen with
  | [y0, y1, y2], _ =>
    have f0 := hx 0 _ rfl
    have f1 := hx 1 _ rfl
    have f2 := hx 2 _ rfl
    simp [Value.cells, cellsS, cellsL, cellsString] at f0 f1 f2
    obtain ⟨zs, k, _, _, _, hzl, hz⟩ := DataW.trod_struct Tryz.underlying29 f0
    match zs, hzl with
    | [z0, z1, z2, z3], _ =>
      have g0 := hz 0 _ rfl
      have g1 := hz 1 _ rfl
      have g2 := hz 2 _ rfl
      have g3 := hz 3 _ rfl
      simp [cellsVs, cellsCs, cellsInt] at g0 g1 g2 g3
      obtain ⟨a, xa, vs, rfl, n1, r1⟩ := rowV g0
      obtain ⟨b, xb, cs, rfl, n2, r2⟩ := rowC g1
      obtain ⟨nr, e2, _⟩ := DataW.trod_int Tryz.underlying3 g2
      obtain ⟨er, e3, _⟩ := DataW.trod_int Tryz.underlying3 g3
      obtain ⟨c, xc, dn, rfl, n3, r3⟩ := rowI f1
      obtain ⟨out, e4, _, hs⟩ := DataW.trod_string Tryz.underlying9 f2
      simp only [List.cons.injEq, and_true] at e2 e3 e4
      subst e2 e3 e4
      exact ⟨a, b, c, xa, xb, xc, vs, cs, nr, er, dn, out, rfl, n1, n2, n3, hs, r1, r2, r3⟩

end Mh
end Go.Proofs.YtkhoccjfkkfipaaGreatDoor
