/-
  The laws FnExactGetNum, FnExactGetInt, FnExactGetText at every argument.
-/
import Derived.Test.YtmhmoopijfhhbaaBtGetS
import Derived.Test.YtmhmoopijfhhbaaBtMark
import Derived.OpenShut
import Derived.ChangeOld
namespace Go.Proofs.Ytmhmoopijfhhbaa
open Go.RowKit Go.WideShapes
namespace Bt
set_option linter.unusedSimpArgs false
set_option linter.unusedVariables false

theorem rd_of {W : World} {x : Addr} {len : Nat} {zs : List Int} (hl : len ≤ zs.length) (hcell : ∀ i, i < zs.length → W.cell? (x.add i) = some (.int .u8 (zs.getD i 0))) (hwz : ∀ n ∈ zs, (Lit.int .u8 n).wf = true) : ∃ L : List UInt8, L.length = len ∧ Rd W (some x) L := by
  by_cases h0 : len = 0
  · exact ⟨[], h0.symm, fun i y h => by simp at h⟩
  · obtain ⟨b, o, rfl, hc⟩ := ints_at hcell (by omega)
    refine ⟨(zs.take len).map fun n => UInt8.ofNat n.toNat, by simp; omega, fun i y hi => ?_⟩
    rw [List.getElem?_map, Option.map_eq_some_iff] at hi
    obtain ⟨z, hz, rfl⟩ := hi
    have hil : i < len := by
      have := (List.getElem?_eq_some_iff.1 hz).1
      rw [List.length_take] at this
      omega
    rw [List.getElem?_take_of_lt hil] at hz
    have hb := bounds_u8 (hwz z (List.mem_of_getElem? hz))
    have hc2 := hc i (by omega)
    have e : zs.getD i 0 = z := by rw [List.getD_eq_getElem?_getD, hz]; rfl
    rw [e] at hc2
    have e2 : ((UInt8.ofNat z.toNat).toNat : Int) = z := by
      have h3 : (UInt8.ofNat z.toNat).toNat = z.toNat % 256 := UInt8.toNat_ofNat'
      rw [h3]
      omega
    refine ⟨b, o, rfl, ?_, by rw [e2]; exact hc2⟩
    rcases Nat.lt_or_ge b W.heap.size with h | h
    · exact h
    · simp [World.cell?, Array.getElem?_eq_none h] at hc2

theorem lawGetNumBig {L : List UInt8} {ao : Option Addr} {cap : Nat} {w : World} (hm : L.length ≤ maxLen) (hb : ¬ L.length ≤ 1048576) (i : Int) : Calls Try.prog 4 #[.slice ao L.length cap, .int .i64 i] w fun e w' => e = .returned (.bool true) ∧ Below w.heap.size w w' := by
  unfold maxLen at hm
  have b1 : (1048576 : Int) < L.length := by omega
  have b2 : (L.length : Int) ≤ 9223372036854775807 := by omega
  go_enter Try.func4, Try.ntmps4
  go_wp2_with fail
  go_ret
  exact ⟨rfl, Below.refl _ _⟩

set_option maxHeartbeats 2000000 in
set_option maxRecDepth 100000 in
theorem lawGetNum {L : List UInt8} {ao : Option Addr} {cap : Nat} {w : World} (hR : Rd w ao L) (hm : L.length ≤ maxLen) (i : Int) (hw : (Lit.int .i64 i).wf = true) : Calls Try.prog 4 #[.slice ao L.length cap, .int .i64 i] w fun e w' => e = .returned (.bool true) ∧ Below w.heap.size w w' := by
  by_cases hl : L.length ≤ 1048576
  · have bl : (L.length : Int) ≤ 1048576 := by omega
    have H4 : Hid (L.length ≤ 4000000) := by show _ ≤ _; omega
    have c1 := fun (w : World) (g : Nat) (hR : Rd w (some ⟨g, 0, none⟩) L) => sGetNum (c := L.length) (i := i) hR hl
    have c2 := fun (w : World) (g : Nat) (hR : Rd w (some ⟨g, 0, none⟩) L) (hg : g < w.heap.size) => iGetNum (c := L.length) (i := i) hR hg hl
    obtain ⟨X, hX⟩ : ∃ X : Int, X = nOf (getV L i) := ⟨_, rfl⟩
    obtain ⟨O, hO⟩ : ∃ O, O = getV L i := ⟨_, rfl⟩
    simp only [← hX, ← hO, three] at c1 c2
    generalize ((O.map (·.2)).getD 0 : Nat) = J at c1 c2
    generalize O.isSome = T at c1 c2
    clear hX hO hw
    go_enter Try.func4, Try.ntmps4
    go_wp2_with (first
      | (go_at_call 15; first
          | (refine (lToByteS (hR.below b5 (Nat.le_refl _)) hl).mono ?_; rintro e w6 ⟨g6, rfl, hg6, hr6, hb6⟩; have b6 := b5.trans (hb6.mono b5.size); have q6 := hr4.rd.below (b45.trans (hb6.mono b45.size)) (Nat.le_refl _))
          | (refine (lToByteS (hR.below b2 (Nat.le_refl _)) hl).mono ?_; rintro e w4 ⟨g4, rfl, hg4, hr4, hb4⟩; have b4 := b2.trans (hb4.mono b2.size); have l4 := (hr4.lt rfl).2)
          | (refine (lToByteS hR hl).mono ?_; rintro e w2 ⟨g2, rfl, hg2, hr2, b2⟩))
      | (go_at_call 14; refine (c1 _ _ hr2.rd).mono ?_; rintro e w3 ⟨rfl, hw⟩; have hw := hw.symm; subst hw)
      | (go_at_call 16; refine (c2 _ _ hr4.rd l4).mono ?_; rintro e w5 ⟨rfl, hb5⟩; have b5 := b4.trans (hb5.mono b4.size); have b45 := hb5)
      | (go_at_call 11; refine (lEqByteS q6 hr6.rd rfl H4.out).mono ?_; rintro e w7 ⟨rfl, n7, rfl⟩))
    go_ret
    exact ⟨rfl, b6.os, b6.tape, b6.output, b6.size, b6.block⟩
  · exact lawGetNumBig hm hl i

theorem lawGetIntBig {L : List UInt8} {ao : Option Addr} {cap : Nat} {w : World} (hm : L.length ≤ maxLen) (hb : ¬ L.length ≤ 1048576) (i : Int) : Calls Try.prog 6 #[.slice ao L.length cap, .int .i64 i] w fun e w' => e = .returned (.bool true) ∧ Below w.heap.size w w' := by
  unfold maxLen at hm
  have b1 : (1048576 : Int) < L.length := by omega
  have b2 : (L.length : Int) ≤ 9223372036854775807 := by omega
  go_enter Try.func6, Try.ntmps6
  go_wp2_with fail
  go_ret
  exact ⟨rfl, Below.refl _ _⟩

set_option maxHeartbeats 2000000 in
set_option maxRecDepth 100000 in
theorem lawGetInt {L : List UInt8} {ao : Option Addr} {cap : Nat} {w : World} (hR : Rd w ao L) (hm : L.length ≤ maxLen) (i : Int) (hw : (Lit.int .i64 i).wf = true) : Calls Try.prog 6 #[.slice ao L.length cap, .int .i64 i] w fun e w' => e = .returned (.bool true) ∧ Below w.heap.size w w' := by
  by_cases hl : L.length ≤ 1048576
  · have bl : (L.length : Int) ≤ 1048576 := by omega
    have H4 : Hid (L.length ≤ 4000000) := by show _ ≤ _; omega
    have c1 := fun (w : World) (g : Nat) (hR : Rd w (some ⟨g, 0, none⟩) L) => sGetInt (c := L.length) (i := i) hR hl
    have c2 := fun (w : World) (g : Nat) (hR : Rd w (some ⟨g, 0, none⟩) L) (hg : g < w.heap.size) => iGetInt (c := L.length) (i := i) hR hg hl
    obtain ⟨X, hX⟩ : ∃ X : Int, X = iOf (getI L i) := ⟨_, rfl⟩
    obtain ⟨O, hO⟩ : ∃ O, O = getI L i := ⟨_, rfl⟩
    simp only [← hX, ← hO, three] at c1 c2
    generalize ((O.map (·.2)).getD 0 : Nat) = J at c1 c2
    generalize O.isSome = T at c1 c2
    clear hX hO hw
    go_enter Try.func6, Try.ntmps6
    go_wp2_with (first
      | (go_at_call 15; first
          | (refine (lToByteS (hR.below b5 (Nat.le_refl _)) hl).mono ?_; rintro e w6 ⟨g6, rfl, hg6, hr6, hb6⟩; have b6 := b5.trans (hb6.mono b5.size); have q6 := hr4.rd.below (b45.trans (hb6.mono b45.size)) (Nat.le_refl _))
          | (refine (lToByteS (hR.below b2 (Nat.le_refl _)) hl).mono ?_; rintro e w4 ⟨g4, rfl, hg4, hr4, hb4⟩; have b4 := b2.trans (hb4.mono b2.size); have l4 := (hr4.lt rfl).2)
          | (refine (lToByteS hR hl).mono ?_; rintro e w2 ⟨g2, rfl, hg2, hr2, b2⟩))
      | (go_at_call 19; refine (c1 _ _ hr2.rd).mono ?_; rintro e w3 ⟨rfl, hw⟩; have hw := hw.symm; subst hw)
      | (go_at_call 20; refine (c2 _ _ hr4.rd l4).mono ?_; rintro e w5 ⟨rfl, hb5⟩; have b5 := b4.trans (hb5.mono b4.size); have b45 := hb5)
      | (go_at_call 11; refine (lEqByteS q6 hr6.rd rfl H4.out).mono ?_; rintro e w7 ⟨rfl, n7, rfl⟩))
    go_ret
    exact ⟨rfl, b6.os, b6.tape, b6.output, b6.size, b6.block⟩
  · exact lawGetIntBig hm hl i

theorem lawGetTextBig {L : List UInt8} {ao : Option Addr} {cap : Nat} {w : World} (hm : L.length ≤ maxLen) (hb : ¬ L.length ≤ 1048576) (i : Int) : Calls Try.prog 8 #[.slice ao L.length cap, .int .i64 i] w fun e w' => e = .returned (.bool true) ∧ Below w.heap.size w w' := by
  unfold maxLen at hm
  have b1 : (1048576 : Int) < L.length := by omega
  have b2 : (L.length : Int) ≤ 9223372036854775807 := by omega
  go_enter Try.func8, Try.ntmps8
  go_wp2_with fail
  go_ret
  exact ⟨rfl, Below.refl _ _⟩

set_option maxHeartbeats 2000000 in
set_option maxRecDepth 100000 in
theorem lawGetText {L : List UInt8} {ao : Option Addr} {cap : Nat} {w : World} (hR : Rd w ao L) (hm : L.length ≤ maxLen) (i : Int) (hw : (Lit.int .i64 i).wf = true) : Calls Try.prog 8 #[.slice ao L.length cap, .int .i64 i] w fun e w' => e = .returned (.bool true) ∧ Below w.heap.size w w' := by
  by_cases hl : L.length ≤ 1048576
  · have bl : (L.length : Int) ≤ 1048576 := by omega
    have H4 : Hid (L.length ≤ 4000000) := by show _ ≤ _; omega
    have c1 := fun (w : World) (g : Nat) (hR : Rd w (some ⟨g, 0, none⟩) L) => sGetText (c := L.length) (i := i) hR hl (Nat.le_refl _)
    have c2 := fun (w : World) (g : Nat) (hR : Rd w (some ⟨g, 0, none⟩) L) (hg : g < w.heap.size) => iGetText (c := L.length) (i := i) hR hg hl (Nat.le_refl _)
    obtain ⟨X, hX⟩ : ∃ X : ByteArray, X = sOf (getT L i) := ⟨_, rfl⟩
    obtain ⟨O, hO⟩ : ∃ O, O = getT L i := ⟨_, rfl⟩
    simp only [← hX, ← hO, three] at c1 c2
    generalize ((O.map (·.2)).getD 0 : Nat) = J at c1 c2
    generalize O.isSome = T at c1 c2
    clear hX hO hw
    go_enter Try.func8, Try.ntmps8
    go_wp2_with (first
      | (go_at_call 15; first
          | (refine (lToByteS (hR.below b5 (Nat.le_refl _)) hl).mono ?_; rintro e w6 ⟨g6, rfl, hg6, hr6, hb6⟩; have b6 := b5.trans (hb6.mono b5.size); have q6 := hr4.rd.below (b45.trans (hb6.mono b45.size)) (Nat.le_refl _))
          | (refine (lToByteS (hR.below b2 (Nat.le_refl _)) hl).mono ?_; rintro e w4 ⟨g4, rfl, hg4, hr4, hb4⟩; have b4 := b2.trans (hb4.mono b2.size); have l4 := (hr4.lt rfl).2)
          | (refine (lToByteS hR hl).mono ?_; rintro e w2 ⟨g2, rfl, hg2, hr2, b2⟩))
      | (go_at_call 23; refine (c1 _ _ hr2.rd).mono ?_; rintro e w3 ⟨rfl, hw⟩; have hw := hw.symm; subst hw)
      | (go_at_call 24; refine (c2 _ _ hr4.rd l4).mono ?_; rintro e w5 ⟨rfl, hb5⟩; have b5 := b4.trans (hb5.mono b4.size); have b45 := hb5)
      | (go_at_call 11; refine (lEqByteS q6 hr6.rd rfl H4.out).mono ?_; rintro e w7 ⟨rfl, n7, rfl⟩))
    go_ret
    exact ⟨rfl, b6.os, b6.tape, b6.output, b6.size, b6.block⟩
  · exact lawGetTextBig hm hl i

end Bt
end Go.Proofs.Ytmhmoopijfhhbaa
