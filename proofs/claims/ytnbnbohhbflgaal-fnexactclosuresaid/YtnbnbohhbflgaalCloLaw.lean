/-
  FnExactClosure's own walk.
-/
import Derived.Test.YtnbnbohhbflgaalCloEq
namespace Go.Proofs.Ytnbnbohhbflgaal
open Go.RowKit
namespace Clo

theorem owns_below {B n : Nat} {v : Value} {xs : List Value} {w w' : World} (h : w.ownsRow B 3 1 v n xs) (hb : Below w.heap.size w w') : w'.ownsRow B 3 1 v n xs := owns_same h fun g hg => hb.block g (h.lt g hg).2
theorem Is.below {g : Nat} {l : List Int} {w w' : World} (h : Is g l w) (hb : Below w.heap.size w w') : Is g l w' := h.kept (hb.block _ h.lt)
theorem Ps.below {g n : Nat} {P : Nat → Pl} {w w' : World} (h : Ps g n P w) (hb : Below w.heap.size w w') : Ps g n P w' := h.kept (hb.block _ h.lt)
theorem row_reads {B : Nat} {ao : Option Addr} {cap : Nat} {l : List Int} {w : World} (h : w.ownsRow B 3 1 (.slice ao l.length cap) l.length (ints l)) : Reads w ao l := by
  intro i x hi
  have hl : 0 < l.length := by have := (List.getElem?_eq_some_iff.1 hi).1; omega
  obtain ⟨g, cap', he, hg, _⟩ := owns_form h hl
  simp at he
  obtain ⟨rfl, rfl⟩ := he
  exact ⟨g, rfl, (h.lt g rfl).2, owns_cell h hi⟩
theorem drewN_below (w : World) (n : Nat) : Below w.heap.size w (w.drewN n) := ⟨rfl, rfl, rfl, Nat.le_refl _, fun _ _ => rfl⟩

theorem nums_same {n : Nat} {sc : Nat → List Int} {ats : List Int} {M M' : Nat → Bool} (h : IsClos n sc ats M) (h' : IsClos n sc ats M') : nums M n = nums M' n := by
  unfold nums
  rw [list_same fun k hk => clos_same h h' hk]

set_option maxHeartbeats 4000000 in
set_option maxRecDepth 100000 in
theorem lawClosure {ao ai : Option Addr} {n cn cl : Nat} {P : Nat → Pl} {l : List Int} {W : World} (hA : ArgP W ao n P) (hI : ArgI W ai l) (hn0 : n ≤ maxLen) (hl0 : l.length ≤ maxLen) (begin fin : Bool) :
    Calls Try.prog 4 #[.slice ao n cn, .slice ai l.length cl, .bool begin, .bool fin] W fun e w' => e = .returned (.bool true) ∧ Below W.heap.size W w' := by
  have bl : (l.length : Int) ≤ 9223372036854775807 := by unfold maxLen at hl0; omega
  by_cases hl : 1048576 < l.length
  · have e1 : decide ((1048576 : Int) < l.length) = true := decide_eq_true (by omega)
    have e2 : decide (1048576 < l.length) = true := decide_eq_true hl
    go_enter Try.func4, Try.ntmps4
    go_wp2_with fail
    go_ret
    exact ⟨rfl, Below.refl _ _⟩
  · have e1 : decide ((1048576 : Int) < l.length) = false := decide_eq_false (by omega)
    have e2 : decide (1048576 < l.length) = false := decide_eq_false hl
    have hl1 : l.length ≤ 1048576 := by omega
    go_enter Try.func4, Try.ntmps4
    go_wp2_with fail
    refine (lSzPlaceS hA hn0).mono ?_
    rintro e w1 ⟨z, rfl, hz, hb1⟩
    rcases (show z < 0 ∨ 0 ≤ z by omega) with hz0 | hz0
    · have e3 : decide (z < 0) = true := decide_eq_true hz0
      go_wp2_with fail
      go_ret
      exact ⟨rfl, hb1⟩
    have e3 : decide (z < 0) = false := decide_eq_false (by omega)
    have hn : n ≤ 1048576 := hz.resolve_left (by omega)
    clear hz hz0
    go_wp2_with fail
    refine (lToPlaceS (hA.below hb1) hn).mono ?_
    rintro e w2 ⟨g1, rfl, hg1, hP1, hb2'⟩
    have hb2 : Below W.heap.size W w2 := hb1.trans (hb2'.mono hb1.size)
    go_wp2_with fail
    refine (lToIntS (hI.below hb2) hl1).mono ?_
    rintro e w3 ⟨i1, rfl, hi1, hI1, hb3'⟩
    have hb3 : Below W.heap.size W w3 := hb2.trans (hb3'.mono hb2.size)
    go_wp2_with fail
    refine (sClosure (hP1.below hb3') hI1 hn hl1 begin fin).mono ?_
    rintro e w4 ⟨v0, M0, rfl, hC0, hO4, hb4'⟩
    have hb4 : Below W.heap.size W w4 := hb3.trans (hb4'.mono hb3.size)
    obtain ⟨L, hL⟩ : ∃ L, L = nums M0 n := ⟨_, rfl⟩
    have hLn : L.length ≤ 1048576 := by rw [hL]; exact Nat.le_trans (nums_len M0 n) hn
    rw [← hL] at hO4
    have HL : Hid (L = nums M0 n) := hL
    clear hL
    unfold OwnInts at hO4
    obtain ⟨a0, c0, rfl⟩ := owns_len hO4
    go_wp2_with fail
    refine (lToPlaceS (hA.below hb4) hn).mono ?_
    rintro e w5 ⟨gx, rfl, hgx, hX5, hb5'⟩
    have hb5 : Below W.heap.size W w5 := hb4.trans (hb5'.mono hb4.size)
    have hO5 := owns_below hO4 hb5'
    go_wp2_with fail
    refine (lToIntS (hI.below hb5) hl1).mono ?_
    rintro e w6 ⟨ix, rfl, hix, hY6, hb6'⟩
    have hb6 : Below W.heap.size W w6 := hb5.trans (hb6'.mono hb5.size)
    have hO6 := owns_below hO5 hb6'
    have hX6 := hX5.below hb6'
    go_wp2_with fail
    refine (iClosure hX6 hY6 hn hl1 begin fin).mono ?_
    rintro e w7 ⟨vg, Mg, rfl, hCg, hG7, hb7'⟩
    have hb7 : Below W.heap.size W w7 := hb6.trans (hb7'.mono hb6.size)
    have hLg : nums Mg n = L := by rw [HL.out]; exact nums_same hCg hC0
    rw [hLg] at hG7
    unfold OwnInts at hG7
    obtain ⟨ag, cg, rfl⟩ := owns_len hG7
    have hO7 := owns_below hO6 hb7'
    have hX7 := hX6.below hb7'
    have hY7 := hY6.below hb7'
    have hxl := hX5.lt
    have hyl := hY6.lt
    have d0x : Value.ownBlock (.slice a0 L.length c0) ≠ some gx := fun e => by have := (hO4.lt gx e).2; omega
    have d0y : Value.ownBlock (.slice a0 L.length c0) ≠ some ix := fun e => by have := (hO4.lt ix e).2; have := hb5'.size; omega
    have dgx : Value.ownBlock (.slice ag L.length cg) ≠ some gx := fun e => by have := (hG7.lt gx e).1; have := hb6'.size; omega
    have dgy : Value.ownBlock (.slice ag L.length cg) ≠ some ix := fun e => by have := (hG7.lt ix e).1; omega
    have d0g : Value.ownBlock (.slice a0 L.length c0) = none ∨ Value.ownBlock (.slice a0 L.length c0) ≠ Value.ownBlock (.slice ag L.length cg) := by
      cases e0 : Value.ownBlock (.slice a0 L.length c0) with
      | none => exact .inl rfl
      | some b =>
        refine .inr fun e => ?_
        have h1 := (hO4.lt b e0).2
        have h2 := (hG7.lt b e.symm).1
        have := hb5'.size
        have := hb6'.size
        omega
    have hxy : gx ≠ ix := by omega
    have hBg : W.heap.size ≤ w6.heap.size := hb6.size
    have hBx : W.heap.size ≤ gx := by have := hb4.size; omega
    have hBy : W.heap.size ≤ ix := by have := hb5.size; omega
    have hSame : ∀ M, IsClos n (scOf P begin fin) l M → nums M n = L := fun M hM => by rw [HL.out]; exact nums_same hM hC0
    clear hO4 hO5 hO6 hX5 hX6 hY6 hC0 hCg HL hLg hP1 hI1 hb2' hb3' hb4' hb5' hb6' hb7' hg1 hi1 hgx hix
    go_wp2_with fail
    refine (lEqIntS (row_reads hG7) (row_reads hO7) (by omega)).mono ?_
    rintro e w8 ⟨rfl, n8, rfl⟩
    have q8 := drewN_below w7 n8
    have hG8 := owns_below hG7 q8
    have hO8 := owns_below hO7 q8
    have hX8 := hX7.below q8
    have hY8 := hY7.below q8
    have hb8 := hb7.trans (q8.mono hb7.size)
    clear hG7 hO7 hX7 hY7
    generalize w7.drewN n8 = w8 at *
    go_wp2_with fail
    refine (lToPlaceS (hA.below hb8) hn).mono ?_
    rintro e w9 ⟨gy, rfl, hgy, hY9, hb9'⟩
    have hb9 : Below W.heap.size W w9 := hb8.trans (hb9'.mono hb8.size)
    have hG9 := owns_below hG8 hb9'
    have hO9 := owns_below hO8 hb9'
    have hX9 := hX8.below hb9'
    have hYY9 := hY8.below hb9'
    go_wp2_with fail
    refine (lEqPlaceS hX9 hY9 hn).mono ?_
    rintro e w10 ⟨rfl, q10⟩
    have hb10 := hb9.trans (q10.mono hb9.size)
    have hG10 := owns_below hG9 q10
    have hO10 := owns_below hO9 q10
    have hX10 := hX9.below q10
    have hY10 := hYY9.below q10
    go_wp2_with fail
    refine (lToIntS (hI.below hb10) hl1).mono ?_
    rintro e w11 ⟨iy, rfl, hiy, hZ11, hb11'⟩
    have hb11 : Below W.heap.size W w11 := hb10.trans (hb11'.mono hb10.size)
    have hG11 := owns_below hG10 hb11'
    have hO11 := owns_below hO10 hb11'
    have hX11 := hX10.below hb11'
    have hY11 := hY10.below hb11'
    go_wp2_with fail
    refine (lEqIntS hY11.reads hZ11.reads (by omega)).mono ?_
    rintro e w12 ⟨rfl, n12, rfl⟩
    have q12 := drewN_below w11 n12
    have hG12 := owns_below hG11 q12
    have hO12 := owns_below hO11 q12
    have hX12 := hX11.below q12
    have hY12 := hY11.below q12
    have hb12 := hb11.trans (q12.mono hb11.size)
    clear hG8 hG9 hG10 hG11 hO8 hO9 hO10 hO11 hX8 hX9 hX10 hX11 hY8 hY9 hYY9 hY10 hY11 hZ11 q8 q10 hb9' hb11' hgy hiy
    generalize w11.drewN n12 = w12 at *
    go_wp2_with fail
    refine (lMarkPlaceS hX12.row6 hn).mono ?_
    rintro e w13 ⟨he, hg13⟩
    obtain ⟨K, hK⟩ : ∃ K, K = 1 + 6 * n := ⟨_, rfl⟩
    rw [← hK] at he
    subst he
    have bK : (K : Int) ≤ 6291457 := by omega
    have bK' : K ≤ 8000000 := by omega
    clear hK
    have hb13 := hb12.grown hg13 hb12.size (fun b hb => by cases hb; exact hBx)
    have hG13 := hG12.kept hg13 (.inr dgx)
    have hO13 := hO12.kept hg13 (.inr d0x)
    have hY13 := hY12.kept (hg13.block _ hY12.lt (fun e => hxy (Option.some.inj e).symm))
    go_wp2_with fail
    refine (lMarkIntS (is_owns hY13 (by omega)) (by omega) bK').mono ?_
    rintro e w14 ⟨he, _, hg14⟩
    obtain ⟨K2, hK2⟩ : ∃ K2, K2 = K + l.length := ⟨_, rfl⟩
    rw [← hK2] at he
    subst he
    have bK2 : (K2 : Int) ≤ 9000000 := by omega
    clear hK2
    have hb14 := hb13.grown hg14 hb13.size (fun b hb => by cases hb; exact hBy)
    have hG14 := hG13.kept hg14 (.inr dgy)
    have hO14 := hO13.kept hg14 (.inr d0y)
    have e4 : decide ((K2 : Int) < 0) = false := decide_eq_false (by omega)
    clear hG12 hG13 hO12 hO13 hX12 hY12 hY13 hg13 hg14
    go_wp2_with fail
    refine (lEqIntS (row_reads hG14) (row_reads hO14) (by omega)).mono ?_
    rintro e w15 ⟨rfl, n15, rfl⟩
    have q15 := drewN_below w14 n15
    have hG15 := owns_below hG14 q15
    have hO15 := owns_below hO14 q15
    have hb15 := hb14.trans (q15.mono hb14.size)
    clear hG14 hO14
    generalize w14.drewN n15 = w15 at *
    go_wp2_with fail
    refine (lMarkIntS (k := 1) hG15 (by omega) (by omega)).mono ?_
    rintro e w16 ⟨he, hG16, hg16⟩
    obtain ⟨m, hm⟩ : ∃ m, m = 1 + L.length := ⟨_, rfl⟩
    rw [← hm] at he
    subst he
    have Hm : Hid (m = 1 + L.length) := hm
    have bm : (m : Int) ≤ 2000000 := by omega
    clear hm
    have hb16 := hb15.grown hg16 hb15.size (fun b hb => by have := (hG15.lt b hb).1; omega)
    have hO16 := hO15.kept hg16 d0g
    have hR16 : Reads w16 ag (numsFrom 1 L.length) := row_reads (cap := cg) (by rw [numsFrom_len]; exact hG16)
    clear hG15 hO15 hg16
    have e5 : decide ((m : Int) < 0) = false := decide_eq_false (by omega)
    go_wp2_with fail
    refine (lHeldIntS (k := 1) hR16 (by omega) (by omega)).mono ?_
    rintro e w17 ⟨he, hw⟩
    rw [← Hm.out] at he
    subst he
    have hw := hw.symm
    subst hw
    go_wp2_with fail
    refine (lToPlaceS (hA.below hb16) hn).mono ?_
    rintro e w18 ⟨gh, rfl, hgh, hP18, hb18'⟩
    have hb18 : Below W.heap.size W w18 := hb16.trans (hb18'.mono hb16.size)
    have hO18 := owns_below hO16 hb18'
    have hR18 := hR16.below hb18'
    go_wp2_with fail
    refine (lToIntS (hI.below hb18) hl1).mono ?_
    rintro e w19 ⟨ih, rfl, hih, hI19, hb19'⟩
    have hb19 : Below W.heap.size W w19 := hb18.trans (hb19'.mono hb18.size)
    have hO19 := owns_below hO18 hb19'
    have hR19 := hR18.below hb19'
    go_wp2_with fail
    refine (iClosure (hP18.below hb19') hI19 hn hl1 begin fin).mono ?_
    rintro e w20 ⟨vh, Mh, rfl, hCh, hH20, hb20'⟩
    have hb20 : Below W.heap.size W w20 := hb19.trans (hb20'.mono hb19.size)
    rw [hSame Mh hCh] at hH20
    unfold OwnInts at hH20
    obtain ⟨ah, ch, rfl⟩ := owns_len hH20
    have hO20 := owns_below hO19 hb20'
    have hR20 := hR19.below hb20'
    go_wp2_with fail
    refine (lEqIntS (row_reads hH20) (row_reads hO20) (by omega)).mono ?_
    rintro e w21 ⟨rfl, n21, rfl⟩
    have q21 := drewN_below w20 n21
    have hR21 := hR20.below q21
    have hb21 := hb20.trans (q21.mono hb20.size)
    generalize w20.drewN n21 = w21 at *
    go_wp2_with fail
    refine (lHeldIntS (k := 1) hR21 (by omega) (by omega)).mono ?_
    rintro e w22 ⟨he, hw⟩
    rw [← Hm.out] at he
    subst he
    have hw := hw.symm
    subst hw
    go_wp2_with fail
    go_ret
    exact ⟨rfl, hb21⟩

end Clo
end Go.Proofs.Ytnbnbohhbflgaal
