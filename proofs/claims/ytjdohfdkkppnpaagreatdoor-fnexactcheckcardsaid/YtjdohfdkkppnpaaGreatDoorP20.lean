/-
  Rules copied: toRuleS.
  The nodes of rules: what a round over them keeps.
-/
import Derived.Test.YtjdohfdkkppnpaaGreatDoorP19
import Derived.Test.YtjdohfdkkppnpaaGreatDoorP02
import Derived.Test.YtjdohfdkkppnpaaGreatDoorP18
import Derived.RangeFuncNested
import Derived.RangeFuncBound
import Derived.RangeFuncCalls
import Derived.RangeFuncLeaves
import Derived.OwnWalkIn
import Derived.TacticsInMore
import Derived.LoopNIn
import Derived.LoopIn
namespace Go.Proofs.YtjdohfdkkppnpaaGreatDoor
open Go.RowKit
namespace Ty
open Nd

def z9 : List Value := [.int .i64 0, .int .i64 0, .int .i64 0, .string ⟨#[]⟩, .slice none 0 0, .int .i64 0, .int .i64 0, .string ⟨#[]⟩, .slice none 0 0]
def zeros9 (n : Nat) : List Value := (List.replicate n z9).flatten
theorem zeros9_len (n : Nat) : (zeros9 n).length = n * 9 := by
  induction n with
  | zero => rfl
  | succ n ih => simp [zeros9, List.replicate_succ] at ih ⊢; simp [z9]; omega
theorem zeros9_succ (n : Nat) : zeros9 (n + 1) = z9 ++ zeros9 n := by simp [zeros9, List.replicate_succ]
theorem zeros9_get : ∀ (n j : Nat), j < n * 9 → (zeros9 n)[j]? = z9[j % 9]?
  | 0, j, h => by omega
  | n + 1, j, h => by
    rw [zeros9_succ]
    by_cases hj : j < 9
    · rw [List.getElem?_append_left (by simp [z9]; omega), Nat.mod_eq_of_lt hj]
    · rw [List.getElem?_append_right (by simp [z9]; omega)]
      have := zeros9_get n (j - 9) (by omega)
      simp only [z9, List.length_cons, List.length_nil] at this ⊢
      rw [this]
      congr 1
      omega
theorem made_zeros9 (n : Nat) : madeCells #[.int .i64 0, .int .i64 0, .int .i64 0, .string ⟨#[]⟩, .slice none 0 0, .int .i64 0, .int .i64 0, .string ⟨#[]⟩, .slice none 0 0] (n * 9) = (zeros9 n).toArray := by
  apply Array.ext_getElem?
  intro j
  by_cases h : j < n * 9
  · have h9 : j % 9 < 9 := Nat.mod_lt _ (by omega)
    have hz : (zeros9 n).toArray[j]? = z9[j % 9]? := by rw [List.getElem?_toArray]; exact zeros9_get n j h
    rw [hz]
    simp only [madeCells, Array.getElem?_map, Array.getElem?_range, h, if_true, Option.map_some]
    generalize j % 9 = r at h9
    match r, h9 with
    | 0, _ => rfl
    | 1, _ => rfl
    | 2, _ => rfl
    | 3, _ => rfl
    | 4, _ => rfl
    | 5, _ => rfl
    | 6, _ => rfl
    | 7, _ => rfl
    | 8, _ => rfl
  · rw [Array.getElem?_eq_none (by simp [madeCells]; omega), Array.getElem?_eq_none (by simp [zeros9_len]; omega)]

theorem Tryz.infoRuler : (Tryz.prog.info? 41).map (fun i => (i.zero, i.size, i.bytes)) = some (some (.agg #[.int .i64 0, .int .i64 0, .int .i64 0, .string ⟨#[]⟩, .slice none 0 0, .int .i64 0, .int .i64 0, .string ⟨#[]⟩, .slice none 0 0]), 9, 120) := by kernel_rfl

theorem make_rules (n : Nat) (hn : n ≤ 1048576) (w : World) : (Instr.makeSlice 25 (.int .i64 n) (.int .i64 n)).run Tryz.prog w = .ok (.slice (some ⟨w.heap.size, 0, none⟩) n n) (w.alloc (.cells (zeros9 n).toArray 41)) := by
  obtain ⟨i0, hi0, hz0, hz1, hz2⟩ := info_parts Tryz.infoRuler
  have := run_make (P := Tryz.prog) w 25 41 i0 _ Tryz.underlying25 hi0 hz0 .i64 .i64 n n (by omega) (Int.le_refl _) (by rw [hz2]; omega) (by omega)
  rw [this, hz1]
  simp only [Int.toNat_natCast]
  rw [← made_zeros9]
  rfl

theorem set9 {xs ys : List Value} {k : Nat} (hx : xs.length = k * 9) (v0 v1 v2 v3 v4 v5 v6 v7 v8 z0 z1 z2 z3 z4 z5 z6 z7 z8 : Value) :
    (((((((((xs ++ [z0, z1, z2, z3, z4, z5, z6, z7, z8] ++ ys).toArray.set! (k * 9) v0).set! (k * 9 + 1) v1).set! (k * 9 + 1 + 1) v2).set! (k * 9 + 1 + 2) v3).set! (k * 9 + 1 + 3) v4).set! (k * 9 + 5) v5).set! (k * 9 + 5 + 1) v6).set! (k * 9 + 5 + 2) v7).set! (k * 9 + 5 + 3) v8 = (xs ++ [v0, v1, v2, v3, v4, v5, v6, v7, v8] ++ ys).toArray := by
  rw [← hx]
  apply Array.ext'
  simp [Nat.add_assoc]

theorem put9_row {w : World} {g k n : Nat} {xs : List Value} (h : w.heap[g]? = some (.cells (xs ++ zeros9 (n + 1)).toArray 41 (0, 0))) (hx : xs.length = k * 9) (v0 v1 v2 v3 v4 v5 v6 v7 v8 : Value) :
    (put9 w g (k * 9) v0 v1 v2 v3 v4 v5 v6 v7 v8).heap[g]? = some (.cells (xs ++ [v0, v1, v2, v3, v4, v5, v6, v7, v8] ++ zeros9 n).toArray 41 (0, 0)) := by
  have hs := set9 (ys := zeros9 n) hx v0 v1 v2 v3 v4 v5 v6 v7 v8 (.int .i64 0) (.int .i64 0) (.int .i64 0) (.string ⟨#[]⟩) (.slice none 0 0) (.int .i64 0) (.int .i64 0) (.string ⟨#[]⟩) (.slice none 0 0)
  rw [zeros9_succ, ← List.append_assoc] at h
  rw [← hs]
  simp [put9, put4, World.setCell, Array.getElem?_modify, h, z9]

theorem row9_at {w : World} {g k n : Nat} {xs : List Value} (h : w.heap[g]? = some (.cells (xs ++ zeros9 (n + 1)).toArray 41 (0, 0))) (hx : xs.length = k * 9) :
    w.cell? ⟨g, k * 9, none⟩ = some (.int .i64 0) ∧ w.cell? ⟨g, k * 9 + 1, none⟩ = some (.int .i64 0) ∧ w.cell? ⟨g, k * 9 + 1 + 1, none⟩ = some (.int .i64 0) ∧ w.cell? ⟨g, k * 9 + 1 + 2, none⟩ = some (.string ⟨#[]⟩) ∧ w.cell? ⟨g, k * 9 + 1 + 3, none⟩ = some (.slice none 0 0) ∧
      w.cell? ⟨g, k * 9 + 5, none⟩ = some (.int .i64 0) ∧ w.cell? ⟨g, k * 9 + 5 + 1, none⟩ = some (.int .i64 0) ∧ w.cell? ⟨g, k * 9 + 5 + 2, none⟩ = some (.string ⟨#[]⟩) ∧ w.cell? ⟨g, k * 9 + 5 + 3, none⟩ = some (.slice none 0 0) ∧ ∀ j, w.frozen? ⟨g, j, none⟩ = false := by
  have hc : ∀ j, j < 9 → w.cell? ⟨g, k * 9 + j, none⟩ = z9[j]? := fun j hj => by
    simp only [World.cell?, h]
    rw [List.getElem?_toArray, zeros9_succ, List.getElem?_append_right (by omega), List.getElem?_append_left (by simp [z9]; omega), show k * 9 + j - xs.length = j by omega]
    rfl
  exact ⟨hc 0 (by omega), hc 1 (by omega), hc 2 (by omega), hc 3 (by omega), hc 4 (by omega), hc 5 (by omega), hc 6 (by omega), hc 7 (by omega), hc 8 (by omega), fun j => by simp [World.frozen?, h]⟩

/-- The cells of rules, nine each; the memory of each node apart, within S. -/
def RulesAp (w : World) : List Ru → (Nat → Prop) → List Value → Prop
  | [], _, xs => xs = []
  | r :: rs, S, xs => ∃ (p0 p1 p2 p3 b0 b1 b2 b3 : Value) (c : List Value) (Sp Sb Sr : Nat → Prop), xs = .int .i64 r.1 :: p0 :: p1 :: p2 :: p3 :: b0 :: b1 :: b2 :: b3 :: c ∧ NodeIs w r.2.1 Sp [p0, p1, p2, p3] ∧ NodeIs w r.2.2 Sb [b0, b1, b2, b3] ∧ RulesAp w rs Sr c ∧
      (∀ k, Sp k → S k ∧ ¬ Sb k ∧ ¬ Sr k) ∧ (∀ k, Sb k → S k ∧ ¬ Sr k) ∧ (∀ k, Sr k → S k)
theorem ap_is {w : World} : ∀ {rs : List Ru} {S : Nat → Prop} {xs : List Value}, RulesAp w rs S xs → RulesIs w S rs xs
  | [], S, xs, h => h
  | r :: rs, S, xs, h => by
    obtain ⟨p0, p1, p2, p3, b0, b1, b2, b3, c, Sp, Sb, Sr, rfl, h1, h2, h3, k1, k2, k3⟩ := h
    exact ⟨p0, p1, p2, p3, b0, b1, b2, b3, c, rfl, node_mono h1 fun k hk => (k1 k hk).1, node_mono h2 fun k hk => (k2 k hk).1, rules_mono k3 (ap_is h3)⟩
theorem ap_frame {w w' : World} : ∀ {rs : List Ru} {S : Nat → Prop} {xs : List Value}, (∀ k, S k → w'.heap[k]? = w.heap[k]?) → RulesAp w rs S xs → RulesAp w' rs S xs
  | [], S, xs, _, h => h
  | r :: rs, S, xs, hS, h => by
    obtain ⟨p0, p1, p2, p3, b0, b1, b2, b3, c, Sp, Sb, Sr, rfl, h1, h2, h3, k1, k2, k3⟩ := h
    exact ⟨p0, p1, p2, p3, b0, b1, b2, b3, c, Sp, Sb, Sr, rfl, node_frame _ _ _ (fun k hk => hS k (k1 k hk).1) h1, node_frame _ _ _ (fun k hk => hS k (k2 k hk).1) h2, ap_frame (fun k hk => hS k (k3 k hk)) h3, k1, k2, k3⟩
theorem ap_mono {w : World} : ∀ {rs : List Ru} {S S' : Nat → Prop} {xs : List Value}, (∀ k, S k → S' k) → RulesAp w rs S xs → RulesAp w rs S' xs
  | [], S, S', xs, _, h => h
  | r :: rs, S, S', xs, hS, h => by
    obtain ⟨p0, p1, p2, p3, b0, b1, b2, b3, c, Sp, Sb, Sr, rfl, h1, h2, h3, k1, k2, k3⟩ := h
    exact ⟨p0, p1, p2, p3, b0, b1, b2, b3, c, Sp, Sb, Sr, rfl, h1, h2, h3, fun k hk => ⟨hS k (k1 k hk).1, (k1 k hk).2⟩, fun k hk => ⟨hS k (k2 k hk).1, (k2 k hk).2⟩, fun k hk => hS k (k3 k hk)⟩
theorem ap_snoc {w : World} {r : Ru} {p0 p1 p2 p3 b0 b1 b2 b3 : Value} {Sp Sb : Nat → Prop} (h1 : NodeIs w r.2.1 Sp [p0, p1, p2, p3]) (h2 : NodeIs w r.2.2 Sb [b0, b1, b2, b3]) (hd : ∀ k, Sp k → ¬ Sb k) : ∀ {rs : List Ru} {S : Nat → Prop} {xs : List Value}, (∀ k, S k → ¬ Sp k ∧ ¬ Sb k) → RulesAp w rs S xs →
    RulesAp w (rs ++ [r]) (fun k => S k ∨ Sp k ∨ Sb k) (xs ++ [.int .i64 r.1, p0, p1, p2, p3, b0, b1, b2, b3])
  | [], S, xs, hS, h => by
    simp only [RulesAp] at h
    subst h
    exact ⟨p0, p1, p2, p3, b0, b1, b2, b3, [], Sp, Sb, fun _ => False, rfl, h1, h2, rfl, fun k hk => ⟨.inr (.inl hk), hd k hk, id⟩, fun k hk => ⟨.inr (.inr hk), id⟩, fun k hk => hk.elim⟩
  | r' :: rs, S, xs, hS, h => by
    obtain ⟨q0, q1, q2, q3, d0, d1, d2, d3, c, Tp, Tb, Tr, rfl, a1, a2, a3, k1, k2, k3⟩ := h
    have ih := ap_snoc h1 h2 hd (fun k hk => hS k (k3 k hk)) a3
    refine ⟨q0, q1, q2, q3, d0, d1, d2, d3, _, Tp, Tb, _, rfl, a1, a2, ih, fun k hk => ⟨.inl (k1 k hk).1, (k1 k hk).2.1, ?_⟩, fun k hk => ⟨.inl (k2 k hk).1, ?_⟩, fun k hk => ?_⟩
    · have := hS k (k1 k hk).1
      exact fun h => h.elim (k1 k hk).2.2 fun h => h.elim this.1 this.2
    · have := hS k (k2 k hk).1
      exact fun h => h.elim (k2 k hk).2 fun h => h.elim this.1 this.2
    · exact hk.imp (k3 k) id

set_option maxHeartbeats 1000000 in
set_option maxRecDepth 100000 in
theorem lToRuleAp {rs : List Ru} (hsz : sizR rs ≤ 1048576) (w : World) (ao : Option Addr) (cap : Nat) (hA : RArgs w rs ao 0) :
    Calls Tryz.prog 7 #[.slice ao rs.length cap] w fun e w' => ∃ v xs, e = .returned v ∧ w'.ownsRow w.heap.size 41 9 v rs.length xs ∧ RulesAp w' rs (Iv (w.heap.size + 1) w'.heap.size) xs ∧ v.ownBlock = some w.heap.size ∧ Below w.heap.size w w' := by
  have hlen := sizR_len rs
  have hmk := make_rules rs.length (by omega)
  have bn : (rs.length : Int) ≤ 1048576 := by omega
  go_enter Tryz.func7, Tryz.ntmps7
  go_wp2_with fail
  go_loopw [4] (fun i wr => ∃ (k : Nat) (xs : List Value), i = .int .i64 k ∧ k ≤ rs.length ∧ wr.heap[w.heap.size]? = some (.cells (xs ++ zeros9 (rs.length - k)).toArray 41 (0, 0)) ∧ RulesAp wr (rs.take k) (Iv (w.heap.size + 1) wr.heap.size) xs ∧ Below w.heap.size w wr) (fun i _ => rs.length - (intOf i).toNat)
  case atStart => exact ⟨0, [], rfl, Nat.zero_le _, heap_new _ _, by simp [RulesAp], (Below.refl _ w).alloc (Nat.le_refl _) _⟩
  case round =>
    obtain ⟨k, xs, rfl, hkn, hP, hN, hb⟩ := hrel
    have hql := heap_lt hP
    by_cases hkl : k < rs.length
    · have hki : rs[k]? = some rs[k] := List.getElem?_eq_getElem hkl
      obtain ⟨b, o, p0, p1, p2, p3, b0, b1, b2, b3, rfl, hbl, c0, c1, c2, c3, c4, c5, c6, c7, c8, hp, hbd⟩ := rargs_at (rargs_frame hb hA) hki
      simp only [Nat.zero_add] at c0 c1 c2 c3 c4 c5 c6 c7 c8
      have hszr := sizR_mem (List.getElem_mem hkl)
      have call := lToRule (r := rs[k]) hp hbd (by have := cnts_siz rs[k].2.1; omega) (by have := cnts_siz rs[k].2.2; omega)
      have hxl := rules_len (ap_is hN)
      rw [List.length_take, Nat.min_eq_left (by omega)] at hxl
      have hTK : rs.take (k + 1) = rs.take k ++ [rs[k]] := by rw [List.take_add_one, hki]; rfl
      obtain ⟨m, hm⟩ : ∃ m, rs.length - k = m + 1 := ⟨rs.length - k - 1, by omega⟩
      have hm2 : rs.length - (k + 1) = m := by omega
      rw [hm] at hP
      obtain ⟨pao, pcap, rfl, rfl, rfl, rfl, -, -⟩ := arg_open hp
      obtain ⟨bao, bcap, rfl, rfl, rfl, rfl, -, -⟩ := arg_open hbd
      have HTK : Hid (rs.take (k + 1) = rs.take k ++ [rs[k]]) := hTK
      have HM2 : Hid (rs.length - (k + 1) = m) := hm2
      clear hp hbd hki hm hm2 hTK hszr
      have bk : (k : Int) < rs.length := by omega
      clear hsz hlen hmk
      go_wp2_with (go_at_call 16; refine call.mono ?_; rintro e w2 ⟨vp, vb, mid, rfl, hm1, hm2, hN2, hM2, hb2⟩; have hP2 := (hb2.block _ hql).trans hP; obtain ⟨_, _, _, ao2, cap2, _, -, -, -, -, hv, -⟩ := node_form hN2; subst hv; obtain ⟨_, _, _, ao3, cap3, _, -, -, -, -, hv, -⟩ := node_form hM2; subst hv; obtain ⟨y0, y1, y2, y3, y4, y5, y6, y7, y8, fz⟩ := row9_at hP2 hxl)
      have hb3 : Below w.heap.size w w2 := hb.trans (hb2.mono hb.size)
      go_roundw
      case rel =>
        refine ⟨k + 1, xs ++ [.int .i64 rs[k].1, .int .i64 (opOf rs[k].2.1), .int .i64 (numOf rs[k].2.1), .string ⟨(txtOf rs[k].2.1).toArray⟩, .slice ao2 (kidsOf rs[k].2.1).length cap2, .int .i64 (opOf rs[k].2.2), .int .i64 (numOf rs[k].2.2), .string ⟨(txtOf rs[k].2.2).toArray⟩, .slice ao3 (kidsOf rs[k].2.2).length cap3], by go_num, hkl, ?_, ?_, below_put9 hb3 (Nat.le_refl _) _ _ _ _ _ _ _ _ _ _⟩
        · rw [HM2.out]
          exact put9_row hP2 hxl _ _ _ _ _ _ _ _ _
        · rw [HTK.out]
          have hz2 := hb2.size
          refine ap_frame (w := w2) (S := Iv (w.heap.size + 1) (put9 w2 w.heap.size (k * 9) (.int .i64 rs[k].1) (.int .i64 (opOf rs[k].2.1)) (.int .i64 (numOf rs[k].2.1)) (.string ⟨(txtOf rs[k].2.1).toArray⟩) (.slice ao2 (kidsOf rs[k].2.1).length cap2) (.int .i64 (opOf rs[k].2.2)) (.int .i64 (numOf rs[k].2.2)) (.string ⟨(txtOf rs[k].2.2).toArray⟩) (.slice ao3 (kidsOf rs[k].2.2).length cap3)).heap.size) (fun j hj => put9_other _ _ _ _ _ _ _ _ _ _ _ _ _ (by have := hj.1; omega)) ?_
          rw [put9_size]
          refine ap_mono (fun j hj => ?_) (ap_snoc (S := Iv (w.heap.size + 1) wr.heap.size) hN2 hM2 (fun j hj hj' => by have := hj.2; have := hj'.1; omega) (fun j hj => ⟨fun h => by have := hj.2; have := h.1; omega, fun h => by have := hj.2; have := h.1; omega⟩) (ap_frame (fun j hj => hb2.block j hj.2) hN))
          rcases hj with hj | hj | hj
          · exact ⟨hj.1, by have := hj.2; omega⟩
          · exact ⟨by have := hj.1; omega, by have := hj.2; omega⟩
          · exact ⟨by have := hj.1; omega, hj.2⟩
      case measure => simp [intOf]; omega
    · obtain rfl : k = rs.length := by omega
      go_wp2_with fail
      go_ret
      rw [Nat.sub_self] at hP
      rw [List.take_length] at hN
      simp only [zeros9, List.replicate_zero, List.flatten_nil, List.append_nil] at hP
      refine ⟨_, xs, rfl, ⟨rules_len (ap_is hN), .inr ⟨w.heap.size, rs.length, _, rfl, Nat.le_refl _, hP, Nat.le_refl _, by unfold maxLen; omega, by simp [rules_len (ap_is hN)], by rw [← rules_len (ap_is hN)]; simp⟩⟩, hN, rfl, hb⟩

theorem lToRuleS {rs : List Ru} (hsz : sizR rs ≤ 1048576) (w : World) (ao : Option Addr) (cap : Nat) (hA : RArgs w rs ao 0) :
    Calls Tryz.prog 7 #[.slice ao rs.length cap] w fun e w' => ∃ v xs, e = .returned v ∧ w'.ownsRow w.heap.size 41 9 v rs.length xs ∧ RulesIs w' (Iv w.heap.size w'.heap.size) rs xs ∧ Below w.heap.size w w' := by
  refine (lToRuleAp hsz w ao cap hA).mono ?_
  rintro e w' ⟨v, xs, rfl, h1, h2, -, h3⟩
  exact ⟨v, xs, rfl, h1, rules_mono (fun k hk => ⟨by have := hk.1; omega, hk.2⟩) (ap_is h2), h3⟩

end Ty
end Go.Proofs.YtjdohfdkkppnpaaGreatDoor

namespace Go.Proofs.YtjdohfdkkppnpaaGreatDoor
open Go.RowKit
namespace Ck
open Nd Ty

/-- Cells and maps lie as they lay, but those of S; none of S turns to nodes. -/
structure Keep (S : Nat → Prop) (W W' : World) : Prop where
  size : W.heap.size ≤ W'.heap.size
  same : ∀ k o, W.heap[k]? = some o → ¬ S k → (o.isCells = true ∨ o.isWalk = true) → W'.heap[k]? = some o
  no : ∀ k, S k → ¬ Cellsy W k → ¬ Cellsy W' k
theorem Keep.refl (S : Nat → Prop) (W : World) : Keep S W W := ⟨Nat.le_refl _, fun _ _ h _ _ => h, fun _ _ h => h⟩
theorem Keep.trans {S : Nat → Prop} {A B C : World} (h : Keep S A B) (h' : Keep S B C) : Keep S A C :=
  ⟨Nat.le_trans h.size h'.size, fun k o hk hS ho => h'.same k o (h.same k o hk hS ho) hS ho, fun k hS hn => h'.no k hS (h.no k hS hn)⟩
theorem Keep.put {S : Nat → Prop} {n : Nat} (hS : ∀ k, S k → k < n) (W : World) (l : Nat) (o o' : Obj) (hl : n ≤ l) (h : W.heap[l]? = some o) (ho : o.isCells = false) (hw : o.isWalk = false) : Keep S W (W.putObj l o') := by
  have hlt := heap_lt h
  refine ⟨by simp [World.putObj], fun k x hk _ hx => ?_, fun k hk hn => ?_⟩
  · have : k ≠ l := by
      rintro rfl
      rw [h] at hk
      cases hk
      rw [ho, hw] at hx
      simp at hx
    rw [World.putObj_heap_other this]
    exact hk
  · have : k ≠ l := by have := hS k hk; omega
    unfold Cellsy
    rw [World.putObj_heap_other this]
    exact hn
theorem Keep.below {S : Nat → Prop} {W W' : World} (hS : ∀ k, S k → k < W.heap.size) (h : Below W.heap.size W W') : Keep S W W' :=
  ⟨h.size, fun k o hk _ _ => (h.block k (heap_lt hk)).trans hk, fun k hk hn hc => hn (by obtain ⟨cur, hc⟩ := hc; exact ⟨cur, (h.block k (hS k hk)).symm.trans hc⟩)⟩
theorem Keep.nodes {S : Nat → Prop} {W W' : World} (h : Keep S W W') (hS : ∀ k, S k → ¬ Cellsy W k) {g : Nat} (hg : Cellsy W g) : W'.heap[g]? = W.heap[g]? := by
  have hn : ¬ S g := fun hs => hS g hs hg
  obtain ⟨cur, hc⟩ := hg
  rw [hc]
  exact h.same g _ hc hn (.inl rfl)
theorem Keep.cells {S : Nat → Prop} {W W' : World} (h : Keep S W W') {g : Nat} {cur : Array Value} {t : TypeId} {r : Nat × Nat} (hn : ¬ S g) (hg : W.heap[g]? = some (.cells cur t r)) : W'.heap[g]? = some (.cells cur t r) := h.same g _ hg hn (.inl rfl)
theorem Keep.map {S : Nat → Prop} {W W' : World} (h : Keep S W W') {m : Nat} {G : List Nat} (hn : ¬ S m) (hg : MapIs W m G) : MapIs W' m G := by
  obtain ⟨es, c, h1, h2⟩ := hg
  exact ⟨es, c, h.same m _ h1 hn (.inr rfl), h2⟩
theorem Keep.row {S : Nat → Prop} {W W' : World} (h : Keep S W W') {B e size n : Nat} {v : Value} {xs : List Value} (ho : W.ownsRow B e size v n xs) (hn : ∀ g, v.ownBlock = some g → ¬ S g) : W'.ownsRow B e size v n xs :=
  owns_same ho fun g hg => by
    rcases ho.2 with ⟨e, _⟩ | ⟨g', cap, cur, e, _, hb, _⟩
    · rw [e] at hg; simp [Value.ownBlock] at hg
    · rw [e] at hg; simp [Value.ownBlock] at hg; subst hg
      rw [hb]
      exact h.same _ _ hb (hn _ (by rw [e]; rfl)) (.inl rfl)

theorem ap_cells {w : World} : ∀ {rs : List Ru} {S : Nat → Prop} {xs : List Value}, RulesAp w rs S xs → RulesAp w rs (fun k => S k ∧ Cellsy w k) xs
  | [], S, xs, h => h
  | r :: rs, S, xs, h => by
    obtain ⟨p0, p1, p2, p3, b0, b1, b2, b3, c, Sp, Sb, Sr, rfl, h1, h2, h3, k1, k2, k3⟩ := h
    exact ⟨p0, p1, p2, p3, b0, b1, b2, b3, c, _, _, _, rfl, nodes_cells _ _ _ h1, nodes_cells _ _ _ h2, ap_cells h3, fun k hk => ⟨⟨(k1 k hk.1).1, hk.2⟩, fun h => (k1 k hk.1).2.1 h.1, fun h => (k1 k hk.1).2.2 h.1⟩, fun k hk => ⟨⟨(k2 k hk.1).1, hk.2⟩, fun h => (k2 k hk.1).2 h.1⟩, fun k hk => ⟨k3 k hk.1, hk.2⟩⟩
theorem ap_open {w : World} {r : Ru} {rs : List Ru} {S : Nat → Prop} {xs : List Value} (h : RulesAp w (r :: rs) S xs) : ∃ (p0 p1 p2 p3 b0 b1 b2 b3 : Value) (Sp Sb Sr : Nat → Prop), xs = .int .i64 r.1 :: p0 :: p1 :: p2 :: p3 :: b0 :: b1 :: b2 :: b3 :: xs.drop 9 ∧ NodeIs w r.2.1 Sp [p0, p1, p2, p3] ∧ NodeIs w r.2.2 Sb [b0, b1, b2, b3] ∧ RulesAp w rs Sr (xs.drop 9) ∧
      (∀ k, Sp k → S k ∧ ¬ Sb k ∧ ¬ Sr k) ∧ (∀ k, Sb k → S k ∧ ¬ Sr k) ∧ (∀ k, Sr k → S k) := by
  obtain ⟨p0, p1, p2, p3, b0, b1, b2, b3, c, Sp, Sb, Sr, rfl, h⟩ := h
  exact ⟨p0, p1, p2, p3, b0, b1, b2, b3, Sp, Sb, Sr, rfl, h⟩

/-- A node that comes: of which rule, its tree, its cells in the world where the loop began. -/
structure Nde (w : World) (rs : List Ru) where
  rule : Nat
  t : Data
  a : Value
  b : Value
  c : Value
  u : Value
  S : Nat → Prop
  is : NodeIs w t S [a, b, c, u]
  cy : ∀ k, S k → Cellsy w k
  sz : siz t ≤ 1048576
  mem : (rule, t) ∈ visit 0 rs
def Nde.key {w : World} {rs : List Ru} (x : Nde w rs) : Nat × Data := (x.rule, x.t)
def Nde.encs {w : World} {rs : List Ru} (x : Nde w rs) : Array Value := #[.int .i64 x.rule, .agg #[x.a, x.b, x.c, x.u]]

theorem siz_kid {t : Data} : ∀ {k : Data}, k ∈ kidsOf t → siz k ≤ siz t := fun h => by have := sizs_mem h; have := siz_kids t; omega
theorem siz_below {ls : List (List Data)} {n : Nat} (h : ∀ t ∈ ls.flatten, siz t ≤ n) : ∀ t ∈ (below ls).flatten, siz t ≤ n := by
  rw [below_flat]
  generalize ls.flatten = ts at h
  induction ts with
  | nil => intro t ht; simp [below1] at ht
  | cons a ts ih =>
    intro t ht
    rw [below1, List.flatten_append, List.mem_append] at ht
    rcases ht with ht | ht
    · split at ht
      · simp at ht
      · simp at ht
        have := siz_kid ht
        have := h a (by simp)
        omega
    · exact ih (fun t ht => h t (by simp [ht])) t ht
theorem visit_rule : ∀ {k : Nat} {rs : List Ru} {p : Nat × Data}, p ∈ visit k rs → p.1 < k + rs.length
  | k, [], p, h => by simp [visit] at h
  | k, r :: rs, p, h => by
    rw [visit, List.mem_append] at h
    rcases h with h | h
    · simp at h
      obtain ⟨_, _, rfl⟩ := h
      simp
    · have := visit_rule h
      simp only [List.length_cons]
      omega
theorem visit_sub {rs : List Ru} (k : Nat) : ∃ q, visit 0 rs = visit 0 (rs.take k) ++ q := ⟨visit (0 + (rs.take k).length) (rs.drop k), by rw [← visit_append, List.take_append_drop]⟩
theorem len_flat {ls : List (List Data)} (h : ∀ l ∈ ls, l ≠ []) : ls.length ≤ ls.flatten.length := by
  induction ls with
  | nil => simp
  | cons l ls ih =>
    have h1 := h l (by simp)
    have h2 := ih fun l hl => h l (by simp [hl])
    have : 0 < l.length := List.length_pos_iff.2 h1
    simp only [List.length_cons, List.flatten_cons, List.length_append]
    omega

end Ck
end Go.Proofs.YtjdohfdkkppnpaaGreatDoor

