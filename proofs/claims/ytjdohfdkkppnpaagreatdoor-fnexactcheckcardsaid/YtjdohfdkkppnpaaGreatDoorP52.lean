/-
  The law FnExactCheck, at every list of rules.
  What is read of rules in an argument.
-/
import Derived.Test.YtjdohfdkkppnpaaGreatDoorP50
import Derived.Test.YtjdohfdkkppnpaaGreatDoorP51
import Derived.Test.YtjdohfdkkppnpaaGreatDoorP19
import Derived.WalkKit
import Derived.ProofKit
import Derived.OpenShut
import Derived.ShutString
import Derived.ChangeOld
import Derived.Below
import Derived.Carry
import Derived.Deep.Slices
import Derived.ChangeSlices
namespace Go.Proofs.YtjdohfdkkppnpaaGreatDoor
open Go.RowKit
namespace Ck
open Nd Ty

set_option maxHeartbeats 1000000 in
set_option maxRecDepth 100000 in
theorem lawCheck {w : World} {rs : List Ru} {ao : Option Addr} {cap : Nat} (hS : Sen w) (hP : SenP w) (hE : Ety w) (hn : rs.length ≤ maxLen) (hA : RArgs w rs ao 0) :
    Calls Tryz.prog 4 #[.slice ao rs.length cap] w fun e w' => e = .returned (.bool true) ∧ Below w.heap.size w w' := by
  have csz := lSzRuleS hn w ao cap 1048576 hA (by omega) (by omega)
  have ct := fun w' (h : Below w.heap.size w w') (hz : sizR rs ≤ 1048576) => lToRuleAp hz w' ao cap (rargs_frame h hA)
  clear hn
  go_enter Tryz.func4, Tryz.ntmps4
  go_wp2_with (first
    | (go_at_call 5; refine csz.mono ?_; rintro e w1 ⟨z, rfl, z0, z1, z2, hb1⟩)
    | (go_at_call 7; refine hold ?_))
  · go_ret
    exact ⟨rfl, hb1⟩
  have hz : sizR rs ≤ 1048576 := by omega
  refine (ct w1 hb1 hz).mono ?_
  rintro e w2 ⟨v2, xs2, rfl, o2, R2, -, hb2⟩
  have B2 := hb1.trans (hb2.mono hb1.size)
  obtain ⟨ao2, cap2, rfl⟩ := owns_slice o2
  go_wp2_with (go_at_call 10; refine hold ?_)
  refine (sCheck (hS.later B2) hz (fun k hk => hk.2) o2 (ap_is R2)).mono ?_
  rintro e w3 ⟨c, rfl, hc, hb3⟩
  have B3 := B2.trans (hb3.mono B2.size)
  go_wp2_with (go_at_call 7; refine hold ?_)
  refine (ct w3 B3 hz).mono ?_
  rintro e w4 ⟨v4, xs4, rfl, o4, R4, -, hb4⟩
  have B4 := B3.trans (hb4.mono B3.size)
  obtain ⟨ao4, cap4, rfl⟩ := owns_slice o4
  go_wp2_with (go_at_call 11; refine hold ?_)
  refine (iCheck (hS.later B4) (hP.later B4) (hE.later B4) hz (fun k hk => hk.2) o4 R4).mono ?_
  rintro e w5 ⟨d, rfl, hd, hb5⟩
  have B5 := B4.trans (hb5.mono B4.size)
  obtain rfl := check_one hc hd
  clear hc hd
  go_wp2_with (go_at_call 7; refine hold ?_)
  refine (ct w5 B5 hz).mono ?_
  rintro e w6 ⟨v6, xs6, rfl, o6, R6, -, hb6⟩
  have B6 := B5.trans (hb6.mono B5.size)
  obtain ⟨ao6, cap6, rfl⟩ := owns_slice o6
  go_wp2_with (go_at_call 9; refine hold ?_)
  have h46 : Below w4.heap.size w4 w6 := hb5.trans (hb6.mono hb5.size)
  refine (lEqRuleS hz (owns_same o4 fun g hg => h46.block g (o4.lt g hg).2) o6 (ap_is (ap_frame (fun k hk => h46.block k hk.2) R4)) (ap_is R6) (fun k hk => Nat.lt_of_lt_of_le hk.2 h46.size) (fun k hk => hk.2)).mono ?_
  rintro e w7 ⟨rfl, hb7⟩
  have B7 := B6.trans (hb7.mono B6.size)
  clear ct csz o2 R2 o4 R4 o6 R6
  go_wp2_with fail
  go_ret
  exact ⟨rfl, B7⟩

end Ck
end Go.Proofs.YtjdohfdkkppnpaaGreatDoor

namespace Go.Proofs.YtjdohfdkkppnpaaGreatDoor
open Go.ChangeShapes Go.WideShapes Go.ChangeAt Go.RowKit
open Go.ChangeMaps (open_string shut_string)
open Go.Deep (add_add)
namespace Ty

theorem laidOut : laidOutB Tryz.prog = true := by kernel_rfl
theorem cellsNode : Tryz.prog.cellsOf 33 = 4 := by kernel_rfl
theorem cellsRule : Tryz.prog.cellsOf 35 = 9 := by kernel_rfl
theorem cellsInt : Tryz.prog.cellsOf 3 = 1 := by kernel_rfl
theorem cellsString : Tryz.prog.cellsOf 9 = 1 := by kernel_rfl
theorem cellsRow : Tryz.prog.cellsOf 31 = 1 := by kernel_rfl

theorem args_of {W : World} {a : Addr} (hspot : a.spot = none) : ∀ (len i : Nat), (∀ j, i ≤ j → j < i + len → ∃ (x0 x1 x2 x3 : Value) (t : Data), W.cell? ⟨a.block, a.off + j * 4, none⟩ = some x0 ∧ W.cell? ⟨a.block, a.off + j * 4 + 1, none⟩ = some x1 ∧ W.cell? ⟨a.block, a.off + j * 4 + 2, none⟩ = some x2 ∧ W.cell? ⟨a.block, a.off + j * 4 + 3, none⟩ = some x3 ∧ Nd.ArgIs W t [x0, x1, x2, x3]) →
    ∃ ts : List Data, ts.length = len ∧ Nd.ArgsIs W ts (some a) i
  | 0, i, _ => ⟨[], rfl, trivial⟩
  | len + 1, i, h => by
    obtain ⟨x0, x1, x2, x3, t, c0, c1, c2, c3, ht⟩ := h i (Nat.le_refl _) (by omega)
    obtain ⟨ts, hl, hts⟩ := args_of hspot len (i + 1) fun j h1 h2 => h j (by omega) (by omega)
    refine ⟨t :: ts, by simp [hl], ⟨a.block, a.off, x0, x1, x2, x3, ?_, World.block_lt_of_cell? W ⟨a.block, a.off + i * 4, none⟩ c0, c0, c1, c2, c3, ht⟩, hts⟩
    obtain ⟨b, o, sp⟩ := a
    simp at hspot
    subst hspot
    rfl

set_option maxRecDepth 100000 in
theorem arg_of {H : Type} {enc : TypeId × Value → H} {W : World} {sp : Nat → Bool} : ∀ (fuel : Nat) {cs : List Value} {x : DataW H × List MemPlace}, DataW.trod enc Tryz.prog W 0 sp true fuel 33 cs = some x → ∃ t, Nd.ArgIs W t cs := by
  intro fuel
  induction fuel using Nat.strongRecOn with
  | ind fuel ih =>
    intro cs x h
    obtain ⟨xs, k, hfk, _, hcl, hxs, hf⟩ := DataW.trod_struct Tryz.underlying33 h
    rw [cellsNode] at hcl
    match cs, hcl, xs, hxs with
    | [v0, v1, v2, v3], _, [y0, y1, y2, y3], _ =>
      have f0 := hf 0 _ rfl
      have f1 := hf 1 _ rfl
      have f2 := hf 2 _ rfl
      have f3 := hf 3 _ rfl
      simp [cellsInt, cellsRow, cellsString] at f0 f1 f2 f3
      obtain ⟨z0, e0, _⟩ := DataW.trod_int Tryz.underlying3 f0
      obtain ⟨z1, e1, _⟩ := DataW.trod_int Tryz.underlying3 f1
      obtain ⟨s, e2, _, hs⟩ := DataW.trod_string Tryz.underlying9 f2
      simp only [List.cons.injEq, and_true] at e0 e1 e2
      subst e0 e1 e2
      have hsl : (s.data.toList.length : Nat) ≤ maxLen := by simpa using hs
      have hss : (⟨s.data.toList.toArray⟩ : ByteArray) = s := by cases s; simp
      rcases DataW.trod_slice Tryz.underlying31 f3 with ⟨hcs, _⟩ | ⟨a, len, cap, elems, rest, n, hn, hcs, _, _, hlc, hcm, hel, hall, _⟩
      · simp only [List.cons.injEq, and_true] at hcs
        subst hcs
        refine ⟨Nd.nd z0 z1 s.data.toList [], ?_⟩
        unfold Nd.nd
        rw [Nd.ArgIs]
        exact ⟨z0, z1, s.data.toList, none, 0, rfl, by rw [hss]; rfl, hsl, by simp, trivial⟩
      · simp only [List.cons.injEq, and_true] at hcs
        subst hcs
        have each : ∀ i, i < len → ∃ cs', W.cells? 0 (a.add (i * 4)) 4 = some cs' ∧ ∃ y, DataW.trod enc Tryz.prog W 0 sp true n 33 cs' = some y := fun i hi => by
          have hi' := hall i hi
          rw [cellsNode, List.getElem?_eq_getElem (by omega)] at hi'
          cases hq : W.cells? 0 (a.add (i * 4)) 4 with
          | none => rw [hq] at hi'; simp at hi'
          | some cs' => rw [hq] at hi'; exact ⟨cs', rfl, _, hi'⟩
        have hspot : 0 < len → a.spot = none := by
          intro h0
          obtain ⟨cs', h1, _⟩ := each 0 h0
          obtain ⟨_, hlen, hcell⟩ := World.cells?_some h1
          match cs', hlen with
          | [v0, v1, v2, v3], _ =>
            have c0 := hcell 0 (by omega)
            have := World.cell?_spot c0
            simpa [Addr.add] using this
        obtain ⟨ts, hl, hts⟩ : ∃ ts : List Data, ts.length = len ∧ Nd.ArgsIs W ts (some a) 0 := by
          by_cases h0 : 0 < len
          · refine args_of (hspot h0) len 0 fun j _ hj => ?_
            obtain ⟨cs', h1, y, h2⟩ := each j (by omega)
            obtain ⟨t, ht⟩ := ih n (by omega) h2
            obtain ⟨_, hlen, hcell⟩ := World.cells?_some h1
            match cs', hlen with
            | [w0, w1, w2, w3], _ =>
              have c0 := hcell 0 (by omega)
              have c1 := hcell 1 (by omega)
              have c2 := hcell 2 (by omega)
              have c3 := hcell 3 (by omega)
              rw [add_add] at c0 c1 c2 c3
              have hsp := hspot h0
              obtain ⟨b, o, spot⟩ := a
              simp at hsp
              subst hsp
              have hadd : ∀ j, (⟨b, o, none⟩ : Addr).add j = ⟨b, o + j, none⟩ := fun j => by unfold Addr.add; split <;> simp_all
              simp only [List.getElem?_cons_zero, List.getElem?_cons_succ, Nat.add_zero] at c0 c1 c2 c3
              simp only [hadd, ← Nat.add_assoc] at c0 c1 c2 c3
              exact ⟨w0, w1, w2, w3, t, c0, c1, c2, c3, ht⟩
          · obtain rfl : len = 0 := by omega
            exact ⟨[], rfl, trivial⟩
        subst hl
        refine ⟨Nd.nd z0 z1 s.data.toList ts, ?_⟩
        unfold Nd.nd
        rw [Nd.ArgIs]
        exact ⟨z0, z1, s.data.toList, some a, cap, rfl, by rw [hss], hsl, by omega, hts⟩


set_option maxRecDepth 100000 in
theorem rule_of {H : Type} {enc : TypeId × Value → H} {W : World} {sp : Nat → Bool} {fuel : Nat} {cs : List Value} {x : DataW H × List MemPlace} (h : DataW.trod enc Tryz.prog W 0 sp true fuel 35 cs = some x) :
    ∃ (r : Ru) (p0 p1 p2 p3 b0 b1 b2 b3 : Value), cs = [.int .i64 r.1, p0, p1, p2, p3, b0, b1, b2, b3] ∧ Nd.ArgIs W r.2.1 [p0, p1, p2, p3] ∧ Nd.ArgIs W r.2.2 [b0, b1, b2, b3] := by
  obtain ⟨xs, k, hfk, _, hcl, hxs, hf⟩ := DataW.trod_struct Tryz.underlying35 h
  rw [cellsRule] at hcl
  match cs, hcl, xs, hxs with
  | [v0, v1, v2, v3, v4, v5, v6, v7, v8], _, [y0, y1, y2], _ =>
    have f0 := hf 0 _ rfl
    have f1 := hf 1 _ rfl
    have f2 := hf 2 _ rfl
    simp [cellsInt, cellsNode] at f0 f1 f2
    obtain ⟨z0, e0, _⟩ := DataW.trod_int Tryz.underlying3 f0
    simp only [List.cons.injEq, and_true] at e0
    subst e0
    obtain ⟨t1, h1⟩ := arg_of k f1
    obtain ⟨t2, h2⟩ := arg_of k f2
    exact ⟨(z0, t1, t2), v1, v2, v3, v4, v5, v6, v7, v8, rfl, h1, h2⟩

theorem rargs_of {W : World} {a : Addr} (hspot : a.spot = none) : ∀ (len i : Nat), (∀ j, i ≤ j → j < i + len → ∃ (r : Ru) (p0 p1 p2 p3 b0 b1 b2 b3 : Value), W.cell? ⟨a.block, a.off + j * 9, none⟩ = some (.int .i64 r.1) ∧ W.cell? ⟨a.block, a.off + j * 9 + 1, none⟩ = some p0 ∧ W.cell? ⟨a.block, a.off + j * 9 + 2, none⟩ = some p1 ∧ W.cell? ⟨a.block, a.off + j * 9 + 3, none⟩ = some p2 ∧ W.cell? ⟨a.block, a.off + j * 9 + 4, none⟩ = some p3 ∧
      W.cell? ⟨a.block, a.off + j * 9 + 5, none⟩ = some b0 ∧ W.cell? ⟨a.block, a.off + j * 9 + 6, none⟩ = some b1 ∧ W.cell? ⟨a.block, a.off + j * 9 + 7, none⟩ = some b2 ∧ W.cell? ⟨a.block, a.off + j * 9 + 8, none⟩ = some b3 ∧ Nd.ArgIs W r.2.1 [p0, p1, p2, p3] ∧ Nd.ArgIs W r.2.2 [b0, b1, b2, b3]) →
    ∃ rs : List Ru, rs.length = len ∧ RArgs W rs (some a) i
  | 0, i, _ => ⟨[], rfl, trivial⟩
  | len + 1, i, h => by
    obtain ⟨r, p0, p1, p2, p3, b0, b1, b2, b3, c0, c1, c2, c3, c4, c5, c6, c7, c8, hp, hb⟩ := h i (Nat.le_refl _) (by omega)
    obtain ⟨rs, hl, hrs⟩ := rargs_of hspot len (i + 1) fun j h1 h2 => h j (by omega) (by omega)
    refine ⟨r :: rs, by simp [hl], ⟨a.block, a.off, p0, p1, p2, p3, b0, b1, b2, b3, ?_, World.block_lt_of_cell? W ⟨a.block, a.off + i * 9, none⟩ c0, c0, c1, c2, c3, c4, c5, c6, c7, c8, hp, hb⟩, hrs⟩
    obtain ⟨b, o, sp⟩ := a
    simp at hspot
    subst hspot
    rfl

set_option maxRecDepth 100000 in
/-- What is read of a list of rules. -/
theorem rules_of {H : Type} {enc : TypeId × Value → H} {W : World} {sp : Nat → Bool} {fuel : Nat} {a0 : Option Addr} {len0 cap0 : Nat} {x : DataW H × List MemPlace} (h : DataW.trod enc Tryz.prog W 0 sp true fuel 22 [.slice a0 len0 cap0] = some x) :
    ∃ rs : List Ru, rs.length = len0 ∧ rs.length ≤ maxLen ∧ RArgs W rs a0 0 := by
  rcases DataW.trod_slice Tryz.underlying22 h with ⟨hcs, _⟩ | ⟨a, len, cap, elems, rest, n, hn, hcs, _, _, hlc, hcm, hel, hall, _⟩
  · simp only [List.cons.injEq, and_true, Value.slice.injEq] at hcs
    obtain ⟨rfl, rfl, rfl⟩ := hcs
    exact ⟨[], rfl, by simp, trivial⟩
  · simp only [List.cons.injEq, and_true, Value.slice.injEq] at hcs
    obtain ⟨rfl, rfl, rfl⟩ := hcs
    have each : ∀ i, i < len0 → ∃ cs', W.cells? 0 (a.add (i * 9)) 9 = some cs' ∧ ∃ y, DataW.trod enc Tryz.prog W 0 sp true n 35 cs' = some y := fun i hi => by
      have hi' := hall i hi
      rw [cellsRule, List.getElem?_eq_getElem (by omega)] at hi'
      cases hq : W.cells? 0 (a.add (i * 9)) 9 with
      | none => rw [hq] at hi'; simp at hi'
      | some cs' => rw [hq] at hi'; exact ⟨cs', rfl, _, hi'⟩
    have hspot : 0 < len0 → a.spot = none := by
      intro h0
      obtain ⟨cs', h1, y, h2⟩ := each 0 h0
      obtain ⟨_, hlen, hcell⟩ := World.cells?_some h1
      obtain ⟨r, p0, p1, p2, p3, b0, b1, b2, b3, rfl, _⟩ := rule_of h2
      have c0 := hcell 0 (by omega)
      have := World.cell?_spot c0
      simpa [Addr.add] using this
    by_cases h0 : 0 < len0
    · obtain ⟨rs, hl, hrs⟩ := rargs_of (hspot h0) len0 0 fun j _ hj => by
        obtain ⟨cs', h1, y, h2⟩ := each j (by omega)
        obtain ⟨_, hlen, hcell⟩ := World.cells?_some h1
        obtain ⟨r, p0, p1, p2, p3, b0, b1, b2, b3, rfl, hp, hb⟩ := rule_of h2
        have c0 := hcell 0 (by omega)
        have c1 := hcell 1 (by omega)
        have c2 := hcell 2 (by omega)
        have c3 := hcell 3 (by omega)
        have c4 := hcell 4 (by omega)
        have c5 := hcell 5 (by omega)
        have c6 := hcell 6 (by omega)
        have c7 := hcell 7 (by omega)
        have c8 := hcell 8 (by omega)
        rw [add_add] at c0 c1 c2 c3 c4 c5 c6 c7 c8
        have hsp := hspot h0
        obtain ⟨b, o, spot⟩ := a
        simp at hsp
        subst hsp
        have hadd : ∀ j, (⟨b, o, none⟩ : Addr).add j = ⟨b, o + j, none⟩ := fun j => by unfold Addr.add; split <;> simp_all
        simp only [List.getElem?_cons_zero, List.getElem?_cons_succ, Nat.add_zero] at c0 c1 c2 c3 c4 c5 c6 c7 c8
        simp only [hadd, ← Nat.add_assoc] at c0 c1 c2 c3 c4 c5 c6 c7 c8
        exact ⟨r, p0, p1, p2, p3, b0, b1, b2, b3, c0, c1, c2, c3, c4, c5, c6, c7, c8, hp, hb⟩
      exact ⟨rs, hl, by omega, hrs⟩
    · obtain rfl : len0 = 0 := by omega
      exact ⟨[], rfl, by simp, trivial⟩

end Ty
end Go.Proofs.YtjdohfdkkppnpaaGreatDoor

