/-
  The law FnExactNames, at every list of rules.
-/
import Derived.Test.YtjhkkpjggphnjaaEnNames
import Derived.Test.YtjhkkpjggphnjaaRuEq
import Derived.Test.YtjhkkpjggphnjaaMkRule
import Derived.Test.YtjhkkpjggphnjaaMkStr
namespace Go.Proofs.Ytjhkkpjggphnjaa
open Go.RowKit
namespace Ck
open Nd Ty Mk

theorem asc_eq {ns ms : List (List UInt8)} (h : ∀ x, x ∈ ns ↔ x ∈ ms) : ascS ns = ascS ms := by
  have h1 := sort_asc (asc_nodup (ascS_asc ns)) (ns := ns) fun x => ascS_mem
  have h2 := sort_asc (asc_nodup (ascS_asc ns)) (ns := ms) fun x => by rw [ascS_mem, h]
  exact h1.symm.trans h2
theorem vars_same (rs : List Ru) : ascS (varsIn (allOf rs)) = ascS (varsIn (dfs rs)) := asc_eq fun x => by
  unfold varsIn
  rw [List.mem_filterMap, List.mem_filterMap]
  simp only [mem_allOf, mem_dfs]
theorem cells_same (rs : List Ru) : ascS (cellsIn (allOf rs)) = ascS (cellsIn (dfs rs)) := asc_eq fun x => by
  unfold cellsIn
  rw [List.mem_filterMap, List.mem_filterMap]
  simp only [mem_allOf, mem_dfs]

theorem row_kept {w w' : World} {B n : Nat} {v : Value} {xs : List Value} (h : w.ownsRow B 9 1 v n xs) (hb : Below w.heap.size w w') : w'.ownsRow B 9 1 v n xs := owns_same h fun g hg => hb.block g (h.lt g hg).2
theorem row_turned {w w' : World} {S : Nat → Prop} {u : Value} {B n : Nat} {v : Value} {xs : List Value} (h : w.ownsRow B 9 1 v n xs) (hb : Turned S u w w') (hn : ∀ g, v.ownBlock = some g → ¬ S g ∧ u.ownBlock ≠ some g) : w'.ownsRow B 9 1 v n xs := owns_same h fun g hg => hb.block g (h.lt g hg).2 (hn g hg).1 (hn g hg).2
theorem below_turned {n : Nat} {a w w' : World} {S : Nat → Prop} {u : Value} (h : Below n a w) (ht : Turned S u w w') (hn : n ≤ w.heap.size) (hS : ∀ k, k < n → ¬ S k ∧ u.ownBlock ≠ some k) : Below n a w' :=
  ⟨ht.os.trans h.os, ht.tape.trans h.tape, ht.output.trans h.output, Nat.le_trans h.size ht.size, fun k hk => (ht.block k (by omega) (hS k hk).1 (hS k hk).2).trans (h.block k hk)⟩

theorem below_drewN {n : Nat} {a b : World} (h : Below n a b) (k : Nat) : Below n a (b.drewN k) := ⟨h.os, h.tape, h.output, h.size, h.block⟩

set_option maxHeartbeats 2000000 in
set_option maxRecDepth 100000 in
theorem lawNames {w : World} {rs : List Ru} {ao : Option Addr} {cap : Nat} (hn : rs.length ≤ maxLen) (hA : RArgs w rs ao 0) :
    Calls Try.prog 3 #[.slice ao rs.length cap] w fun e w' => e = .returned (.bool true) ∧ Below w.heap.size w w' := by
  have csz := lSzRuleS hn w ao cap 1048576 hA (by omega) (by omega)
  have ct := fun w' (h : Below w.heap.size w w') (hz : sizR rs ≤ 1048576) => lToRuleAp hz w' ao cap (rargs_frame h hA)
  clear hn
  go_enter Try.func3, Try.ntmps3
  go_wp2_with (first
    | (go_at_call 4; refine csz.mono ?_; rintro e w1 ⟨z, rfl, z0, z1, z2, hb1⟩)
    | (go_at_call 6; refine hold ?_))
  · go_ret
    exact ⟨rfl, hb1⟩
  have hz : sizR rs ≤ 1048576 := by omega
  have hlV : (ascS (varsIn (dfs rs))).length ≤ 3000000 := by have := foldl_len (varsIn (dfs rs)) []; have := varsIn_len (dfs rs); have := dfs_len rs; unfold ascS; simp at *; omega
  have hlC : (ascS (cellsIn (dfs rs))).length ≤ 3000000 := by have := foldl_len (cellsIn (dfs rs)) []; have := cellsIn_len (dfs rs); have := dfs_len rs; unfold ascS; simp at *; omega
  have iN := fun (w' : World) (v : Value) (xs : List Value) (B : Nat) (S : Nat → Prop) (h1 : w'.ownsRow B 45 9 v rs.length xs) (h2 : RulesAp w' rs S xs) => iNames hz h1 h2
  have sN := fun (w' : World) (v : Value) (xs : List Value) (B : Nat) (S : Nat → Prop) (h0 : ∀ k, S k → k < w'.heap.size) (h1 : w'.ownsRow B 45 9 v rs.length xs) (h2 : RulesIs w' S rs xs) => sNames hz h0 h1 h2
  rw [vars_same, cells_same] at iN
  generalize ascS (varsIn (dfs rs)) = V at *
  generalize ascS (cellsIn (dfs rs)) = C at *
  refine (ct w1 hb1 hz).mono ?_
  rintro e w2 ⟨v2, xs2, rfl, o2, R2, -, hb2⟩
  have B2 := hb1.trans (hb2.mono hb1.size)
  obtain ⟨ao2, cap2, rfl⟩ := owns_slice o2
  go_wp2_with (go_at_call 5; refine hold ?_)
  refine (sN _ _ _ _ _ (fun k hk => hk.2) o2 (ap_is R2)).mono ?_
  rintro e w3 ⟨gv, kv, gc, kc, rfl, tv, tc, hb3⟩
  have B3 := B2.trans (hb3.mono B2.size)
  go_wp2_with (go_at_call 6; refine hold ?_)
  refine (ct w3 B3 hz).mono ?_
  rintro e w4 ⟨v4, xs4, rfl, o4, R4, hown4, hb4⟩
  have B4 := B3.trans (hb4.mono B3.size)
  have tv4 := tv.later hb4
  have tc4 := tc.later hb4
  obtain ⟨ao4, cap4, rfl⟩ := owns_slice o4
  go_wp2_with (go_at_call 7; refine hold ?_)
  refine (iN _ _ _ _ _ o4 R4).mono ?_
  rintro e w5 ⟨g0, g1, rfl, og, oh, hgh, hb5⟩
  have B5 := B4.trans (hb5.mono B4.size)
  have tv5 := tv4.later hb5
  have tc5 := tc4.later hb5
  obtain ⟨ao5, cap5, rfl⟩ := owns_slice og
  obtain ⟨ao6, cap6, rfl⟩ := owns_slice oh
  have E1 := lEqTxt og tv5 hlV
  have E2 := fun n => lEqTxt (w := w5.drewN n) oh tc5 hlC
  go_wp2_with (first
    | (go_at_call 8; with_reducible refine E1.mono ?_; rintro e w6 ⟨rfl, n6, rfl⟩)
    | (go_at_call 8; with_reducible refine (E2 n6).mono ?_; rintro e w7 ⟨rfl, n7, rfl⟩)
    | (go_at_call 6; refine hold ?_))
  obtain ⟨W7, hW7⟩ : ∃ W7, W7 = w5.drewN (n6 + n7) := ⟨_, rfl⟩
  have hb7 : Below w5.heap.size w5 W7 := by rw [hW7]; exact below_drewN (Below.refl _ _) _
  have B7 := B5.trans (hb7.mono B5.size)
  rw [← hW7]
  refine (ct W7 B7 hz).mono ?_
  clear hW7 E1 E2
  rintro e w8 ⟨v8, xs8, rfl, o8, R8, -, hb8⟩
  have h48 : Below w4.heap.size w4 w8 := (hb5.trans (hb7.mono hb5.size)).trans (hb8.mono (Nat.le_trans hb5.size hb7.size))
  have B8 := B7.trans (hb8.mono B7.size)
  obtain ⟨ao8, cap8, rfl⟩ := owns_slice o8
  go_wp2_with (go_at_call 9; refine hold ?_)
  have R48 := ap_frame (w' := w8) (fun k hk => h48.block k hk.2) R4
  have o48 := owns_same (w' := w8) o4 fun g hg => h48.block g (o4.lt g hg).2
  refine (lEqRuleS hz o48 o8 (ap_is R48) (ap_is R8) (fun k hk => Nat.lt_of_lt_of_le hk.2 h48.size) (fun k hk => hk.2)).mono ?_
  rintro e w9 ⟨rfl, hb9⟩
  have B9 := B8.trans (hb9.mono B8.size)
  have h49 : Below w4.heap.size w4 w9 := h48.trans (hb9.mono h48.size)
  have h59 : Below w5.heap.size w5 w9 := (hb7.trans (hb8.mono hb7.size)).trans (hb9.mono (Nat.le_trans hb7.size hb8.size))
  have R9 := ap_frame (w' := w9) (fun k hk => h49.block k hk.2) R4
  have o9 := owns_same (w' := w9) o4 fun g hg => h49.block g (o4.lt g hg).2
  have tv9 := tv5.later h59
  have tc9 := tc5.later h59
  have og9 := row_kept og h59
  have oh9 := row_kept oh h59
  have bvl : gv < w3.heap.size := tv.lt
  have bcl : gc < w3.heap.size := tc.lt
  have s34 := hb4.size
  have s45 := hb5.size
  have hX : ∀ k, (Iv (w3.heap.size + 1) w4.heap.size k ∨ (Value.slice ao4 rs.length cap4).ownBlock = some k) → w3.heap.size ≤ k ∧ k < w4.heap.size := fun k hk => hk.elim (fun h => ⟨by have := h.1; omega, h.2⟩) fun h => o4.lt k h
  have s13 : w.heap.size ≤ w3.heap.size := B3.size
  have hmark := lMarkRules hz o9 R9 (fun k hk => ⟨Nat.lt_of_lt_of_le hk.2 h49.size, fun e => by rw [hown4] at e; have := hk.1; simp at e; omega⟩)
  clear o2 R2 o4 R4 o8 R8 o48 R48 tv tc tv4 tc4 tv5 tc5 og oh o9 R9 sN
  go_wp2_with (go_at_call 10; refine hold ?_)
  refine hmark.mono ?_
  rintro e w10 ⟨⟨K, rfl⟩, hT⟩
  have hN1 : ∀ k, w4.heap.size ≤ k → ¬ Iv (w3.heap.size + 1) w4.heap.size k ∧ (Value.slice ao4 rs.length cap4).ownBlock ≠ some k := fun k hk => ⟨fun h => by have := (hX k (.inl h)).2; omega, fun h => by have := (hX k (.inr h)).2; omega⟩
  have hN2 : ∀ k, k < w3.heap.size → ¬ Iv (w3.heap.size + 1) w4.heap.size k ∧ (Value.slice ao4 rs.length cap4).ownBlock ≠ some k := fun k hk => ⟨fun h => by have := (hX k (.inl h)).1; omega, fun h => by have := (hX k (.inr h)).1; omega⟩
  have B10 : Below w.heap.size w w10 := below_turned B9 hT B9.size fun k hk => hN2 k (by omega)
  have tv10 : TxtRow w10 gv kv V := row_turned tv9 hT fun g hg => by simp [Value.ownBlock] at hg; subst hg; exact hN2 _ bvl
  have tc10 : TxtRow w10 gc kc C := row_turned tc9 hT fun g hg => by simp [Value.ownBlock] at hg; subst hg; exact hN2 _ bcl
  have og10 := row_turned og9 hT fun g hg => hN1 g (og9.lt g hg).1
  have oh10 := row_turned oh9 hT fun g hg => hN1 g (oh9.lt g hg).1
  have E1 := lEqTxt og10 tv10 hlV
  have E2 := fun n => lEqTxt (w := w10.drewN n) oh10 tc10 hlC
  have hKn : ¬ ((K : Int) < 0) := by omega
  go_wp2_with (first
    | (go_at_call 8; with_reducible refine E1.mono ?_; rintro e w11 ⟨rfl, n11, rfl⟩)
    | (go_at_call 8; with_reducible refine (E2 n11).mono ?_; rintro e w12 ⟨rfl, n12, rfl⟩)
    | (go_at_call 11; refine hold ?_))
  obtain ⟨W12, hW12⟩ : ∃ W12, W12 = w10.drewN (n11 + n12) := ⟨_, rfl⟩
  have hb12 : Below w10.heap.size w10 W12 := by rw [hW12]; exact below_drewN (Below.refl _ _) _
  have B12 := B10.trans (hb12.mono B10.size)
  have s9 : w4.heap.size ≤ w9.heap.size := h49.size
  have s10 : w9.heap.size ≤ w10.heap.size := hT.size
  have og12 := row_kept og10 hb12
  have oh12 := row_kept oh10 hb12
  have tv12 := tv10.later hb12
  have tc12 := tc10.later hb12
  rw [← hW12]
  clear hW12 E1 E2 og9 oh9 tv9 tc9 hT hmark
  refine (lMarkTxt (k := 1) og12 (fun x hx => by obtain ⟨y, _, rfl⟩ := List.mem_map.1 hx; exact ⟨_, rfl⟩) hlV (by omega) (by omega)).mono ?_
  rintro e w13 ⟨rfl, og13, hT13⟩
  have B13 : Below w.heap.size w w13 := below_turned B12 hT13 B12.size fun k hk => ⟨id, fun e => by have := (og12.lt k e).1; omega⟩
  have oh13 := row_turned oh12 hT13 fun g hg => ⟨id, fun e => hgh g e hg⟩
  have tv13 : TxtRow w13 gv kv V := row_turned tv12 hT13 fun g hg => ⟨id, fun e => by simp [Value.ownBlock] at hg; subst hg; have := (og12.lt _ e).1; omega⟩
  have tc13 : TxtRow w13 gc kc C := row_turned tc12 hT13 fun g hg => ⟨id, fun e => by simp [Value.ownBlock] at hg; subst hg; have := (og12.lt _ e).1; omega⟩
  have hMv : ((1 + V.length : Nat) : Int) ≤ 4000000 := by omega
  have cm2 := lMarkTxt (k := 1 + V.length) oh13 (fun x hx => by obtain ⟨y, _, rfl⟩ := List.mem_map.1 hx; exact ⟨_, rfl⟩) hlC (by omega) (by omega)
  obtain ⟨M1, hM1⟩ : ∃ M1, M1 = 1 + V.length := ⟨_, rfl⟩
  rw [← hM1] at cm2 hMv ⊢
  have HM1 : Hid (M1 = 1 + V.length) := hM1
  have cm3 : Hid (Calls Try.prog 11 #[.slice ao6 C.length cap6, .int .i64 M1] w13 _) := cm2
  clear hM1 cm2
  go_wp2_with (go_at_call 11; refine hold ?_)
  refine (Calls.mono cm3.out ?_)
  have hM1 := HM1.out
  rintro e w14 ⟨rfl, oh14, hT14⟩
  have B14 : Below w.heap.size w w14 := below_turned B13 hT14 B13.size fun k hk => ⟨id, fun e => by have := (oh13.lt k e).1; omega⟩
  have og14 := row_turned og13 hT14 fun g hg => ⟨id, fun e => hgh g hg e⟩
  have tv14 : TxtRow w14 gv kv V := row_turned tv13 hT14 fun g hg => ⟨id, fun e => by simp [Value.ownBlock] at hg; subst hg; have := (oh13.lt _ e).1; omega⟩
  have tc14 : TxtRow w14 gc kc C := row_turned tc13 hT14 fun g hg => ⟨id, fun e => by simp [Value.ownBlock] at hg; subst hg; have := (oh13.lt _ e).1; omega⟩
  have hM1b : 1 ≤ M1 ∧ M1 ≤ 4000000 := by omega
  have held1 : ∀ (w' : World) (h : Below w14.heap.size w14 w'), Calls Try.prog 12 #[.slice ao5 V.length cap5, .int .i64 1] w' fun e w'' => e = .returned (.int .i64 (1 + V.length : Nat)) ∧ Below w'.heap.size w' w'' := fun w' h => lHeldTxt (k := 1) (row_kept og14 h) hlV (by omega) (by omega)
  have held2 := fun (w' : World) (h : Below w14.heap.size w14 w') => lHeldTxt (k := M1) (row_kept oh14 h) hlC hM1b.1 hM1b.2
  rw [← hM1] at held1
  obtain ⟨M2, hM2⟩ : ∃ M2, M2 = M1 + C.length := ⟨_, rfl⟩
  rw [← hM2] at held2 ⊢
  have hM1n : ¬ ((M1 : Int) < 0) := by omega
  have hM2n : ¬ ((M2 : Int) < 0) := by omega
  have h14 := Below.refl w14.heap.size w14
  clear cm3 hT13 hT14 og12 oh12 og13 oh13 tv12 tc12 tv13 tc13 tv10 tc10 og10 oh10 hM1 hM2 hMv hM1b
  go_wp2_with (first
    | (go_at_call 12; with_reducible refine (held1 _ h14).mono ?_; rintro e w15 ⟨rfl, hb15⟩)
    | (go_at_call 12; with_reducible refine (held2 _ hb15).mono ?_; rintro e w16 ⟨rfl, hb16⟩; have h16 := hb15.trans (hb16.mono hb15.size))
    | (go_at_call 6; refine hold ?_))
  have B16 := B14.trans (h16.mono B14.size)
  refine (ct w16 B16 hz).mono ?_
  rintro e w17 ⟨v17, xs17, rfl, o17, R17, -, hb17⟩
  have h17 := h16.trans (hb17.mono h16.size)
  have B17 := B16.trans (hb17.mono B16.size)
  obtain ⟨ao17, cap17, rfl⟩ := owns_slice o17
  go_wp2_with (go_at_call 7; refine hold ?_)
  refine (iN _ _ _ _ _ o17 R17).mono ?_
  rintro e w18 ⟨q0, q1, rfl, oq, oq1, -, hb18⟩
  have h18 := h17.trans (hb18.mono h17.size)
  have B18 := B17.trans (hb18.mono B17.size)
  obtain ⟨ao18, cap18, rfl⟩ := owns_slice oq
  obtain ⟨ao19, cap19, rfl⟩ := owns_slice oq1
  have E1 := lEqTxt oq (tv14.later h18) hlV
  have tc18 := tc14.later h18
  have E2 := fun n => lEqTxt (w := w18.drewN n) oq1 tc18 hlC
  have h20 := fun n => h18.trans ((below_drewN (Below.refl w18.heap.size w18) n).mono h18.size)
  clear o17 R17 oq oq1
  go_wp2_with (first
    | (go_at_call 8; with_reducible refine E1.mono ?_; rintro e w19 ⟨rfl, n19, rfl⟩)
    | (go_at_call 8; with_reducible refine (E2 n19).mono ?_; rintro e w20 ⟨rfl, n20, rfl⟩)
    | (go_at_call 12; with_reducible refine (held1 _ (h20 _)).mono ?_; rintro e w21 ⟨rfl, hb21⟩; have h21 := (h20 _).trans (hb21.mono (h20 _).size))
    | (go_at_call 12; with_reducible refine (held2 _ h21).mono ?_; rintro e w22 ⟨rfl, hb22⟩; have h22 := h21.trans (hb22.mono h21.size)))
  go_ret
  exact ⟨rfl, B14.trans (h22.mono B14.size)⟩

end Ck
end Go.Proofs.Ytjhkkpjggphnjaa
