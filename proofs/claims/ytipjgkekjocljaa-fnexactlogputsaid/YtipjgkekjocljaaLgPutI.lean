/-
  LogPut, the program's.
-/
import Derived.Test.YtipjgkekjocljaaLgCopy
namespace Go.Proofs.Ytipjgkekjocljaa
open Go.RowKit
namespace Lg
open Oc (hold Blk heap_new)
set_option linter.unusedSimpArgs false
set_option linter.unusedVariables false

/-- The place of a number in a list; -1 where it is nowhere. -/
def placeV (b : Int) (n : Nat) (i : Int) : Int := if b < i ∧ i - b ≤ n then i - b - 1 else -1

set_option maxRecDepth 100000 in
theorem iPlace {ao : Option Addr} {n cap : Nat} {b i : Int} {w : World} (hb0 : 0 ≤ b) (hb1 : b ≤ 300) (hn : n ≤ 1048576) (hi0 : -9223372036854775808 ≤ i) (hi1 : i ≤ 9223372036854775807) :
    Calls Try.prog 43 #[.agg #[.int .i64 b, .slice ao n cap], .int .i64 i] w fun e w' => e = .returned (.int .i64 (placeV b n i)) ∧ Below w.heap.size w w' := by
  have bn : (n : Int) ≤ 1048576 := by omega
  obtain ⟨R, hR⟩ : ∃ R, R = placeV b n i := ⟨_, rfl⟩
  rw [← hR]
  unfold placeV at hR
  by_cases h1 : i ≤ b
  · have H : Hid (R = -1) := hR.trans (if_neg (by omega))
    clear hR
    go_enter Try.func43, Try.ntmps43
    go_wp2_with fail
    go_ret
    exact ⟨by rw [H.out] <;> simp, box _ _⟩
  · have g1 : 0 ≤ i := by omega
    have g2 : i ≤ 18446744073709551615 := by omega
    have g3 : 0 ≤ i - b := by omega
    by_cases h2 : i - b ≤ n
    · have H : Hid (R = i - b - 1) := hR.trans (if_pos (by omega))
      clear hR
      go_enter Try.func43, Try.ntmps43
      go_wp2_with fail
      go_ret
      exact ⟨by rw [H.out] <;> simp, box _ _⟩
    · have H : Hid (R = -1) := hR.trans (if_neg (by omega))
      clear hR
      go_enter Try.func43, Try.ntmps43
      go_wp2_with fail
      go_ret
      exact ⟨by rw [H.out] <;> simp, box _ _⟩

set_option maxHeartbeats 1000000 in
set_option maxRecDepth 100000 in
theorem iTermAt {ao : Option Addr} {cap : Nat} {vs : List En} {b t i : Int} {w : World} (hA : RdE w ao vs) (hb0 : 0 ≤ b) (hb1 : b ≤ 300) (hn : vs.length ≤ 1048576) (hi0 : -9223372036854775808 ≤ i) (hi1 : i ≤ 9223372036854775807) :
    Calls Try.prog 31 #[aggL b t ao vs.length cap, .int .i64 i] w fun e w' => e = .returned (.int .i64 (termAt b t vs i)) ∧ Below w.heap.size w w' := by
  have bn : (vs.length : Int) ≤ 1048576 := by omega
  have b0 := box w (.cells #[.int .i64 b, .int .i64 t, .slice ao vs.length cap] 29)
  have K0 := Blk.new 29 w [.int .i64 b, .int .i64 t, .slice ao vs.length cap]
  have ce := fun w => iOf b t ao vs.length cap w
  have cp := fun w => iPlace (ao := ao) (cap := cap) (w := w) hb0 hb1 hn hi0 hi1
  obtain ⟨R, hR⟩ : ∃ R, R = termAt b t vs i := ⟨_, rfl⟩
  rw [← hR]
  unfold termAt at hR
  by_cases h1 : i = b
  · have H : Hid (R = t) := hR.trans (if_pos h1)
    have B0 : Hid _ := b0
    clear hR ce cp K0 b0 hA
    go_enter Try.func31, Try.ntmps31
    go_wp2_with fail
    go_ret
    exact ⟨by rw [H.out] <;> simp, B0.out⟩
  · rw [if_neg h1] at hR
    by_cases h2 : b < i ∧ i - b ≤ vs.length
    · have e1 : placeV b vs.length i = i - b - 1 := if_pos h2
      obtain ⟨k, hk⟩ : ∃ k : Nat, i - b - 1 = k := ⟨(i - b - 1).toNat, by omega⟩
      have hkl : k < vs.length := by omega
      obtain ⟨v, hv⟩ : ∃ v, vs[k]? = some v := ⟨_, List.getElem?_eq_getElem hkl⟩
      rw [if_pos h2.1, show (i - b - 1).toNat = k by omega, hv] at hR
      have H : Hid (R = v.1) := hR
      clear hR
      obtain ⟨bb, o, rfl, hbl, _, p0, _⟩ := hA k v hv
      rw [e1, hk] at cp
      have bk : (k : Int) < vs.length := by omega
      have kk : ((k : Int) == -1) = false := beq_eq_false_iff_ne.2 (by omega)
      have hne : (i == b) = false := beq_eq_false_iff_ne.2 h1
      have ST : Hid (∀ w', Below (w.alloc (.cells #[.int .i64 b, .int .i64 t, .slice (some ⟨bb, o, none⟩) vs.length cap] 29)).heap.size (w.alloc (.cells #[.int .i64 b, .int .i64 t, .slice (some ⟨bb, o, none⟩) vs.length cap] 29)) w' → w'.cell? ⟨w.heap.size, 2, none⟩ = some (.slice (some ⟨bb, o, none⟩) vs.length cap) ∧ w'.cell? ⟨bb, o + k * 4, none⟩ = some (.int .i64 v.1)) := fun w' h => ⟨(K0.below h).cell 2 rfl, ((b0.trans (h.mono b0.size)).cell (p := ⟨bb, o + k * 4, none⟩) hbl).trans p0⟩
      have B0 : Hid _ := b0
      clear K0 b0 hA e1 h2 hv p0
      go_enter Try.func31, Try.ntmps31
      go_wp2_with (first
        | (go_at_call 25; refine (ce _).mono ?_; rintro e w2 ⟨rfl, hb2⟩)
        | (go_at_call 43; refine (cp _).mono ?_; rintro e w3 ⟨rfl, hb3⟩; have hb23 := hb2.trans (hb3.mono hb2.size); obtain ⟨y2, y3⟩ := ST.out _ hb23))
      go_ret
      exact ⟨by rw [H.out] <;> simp, B0.out.trans (hb23.mono B0.out.size)⟩
    · have e1 : placeV b vs.length i = -1 := if_neg h2
      rw [e1] at cp
      have H : Hid (R = -1) := hR.trans (by
        by_cases h3 : b < i
        · rw [if_pos h3, List.getElem?_eq_none (by omega)]
        · rw [if_neg h3])
      have hne : (i == b) = false := beq_eq_false_iff_ne.2 h1
      have B0 : Hid _ := b0
      clear K0 b0 hA e1 h2 hR
      go_enter Try.func31, Try.ntmps31
      go_wp2_with (first
        | (go_at_call 25; refine (ce _).mono ?_; rintro e w2 ⟨rfl, hb2⟩)
        | (go_at_call 43; refine (cp _).mono ?_; rintro e w3 ⟨rfl, hb3⟩; have hb23 := hb2.trans (hb3.mono hb2.size)))
      go_ret
      exact ⟨by rw [H.out] <;> simp, B0.out.trans (hb23.mono B0.out.size)⟩

theorem iOneTerm (u v : En) (w : World) : Calls Try.prog 34 #[aggE u, aggE v] w fun e w' => e = .returned (.bool (u.1 == v.1)) ∧ Below w.heap.size w w' := by
  have b0 : ∀ o p, Below w.heap.size w ((w.alloc o).alloc p) := fun o p => ((Below.refl _ w).alloc (Nat.le_refl _) _).alloc (by simp) _
  go_enter Try.func34, Try.ntmps34
  go_wp2_with fail
  go_ret
  exact ⟨by simp, b0 _ _⟩

end Lg
end Go.Proofs.Ytipjgkekjocljaa
