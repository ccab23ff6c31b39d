/-
  LogPut, the specification's: the place of a number, a log's copy.
-/
import Derived.Test.YtipjgkekjocljaaLgRow
import Derived.Test.YtipjgkekjocljaaLgPutK
namespace Go.Proofs.Ytipjgkekjocljaa
open Go.RowKit
namespace Lg
open Oc (hold Blk heap_new)
set_option linter.unusedSimpArgs false
set_option linter.unusedVariables false

set_option maxRecDepth 100000 in
theorem sAt {ao : Option Addr} {n cap : Nat} {b t i : Int} {w : World} (hb0 : 0 ≤ b) (hb1 : b ≤ 300) (hn : (n : Int) ≤ 300 - b) :
    Calls Try.prog 41 #[aggL b t ao n cap, .int .i64 i] w fun e w' => e = .returned (.int .i64 (placeV b n i)) ∧ Below w.heap.size w w' := by
  have bn : (n : Int) ≤ 1048576 := by omega
  obtain ⟨R, hR⟩ : ∃ R, R = placeV b n i := ⟨_, rfl⟩
  rw [← hR]
  unfold placeV at hR
  by_cases h1 : i ≤ b
  · have H : Hid (R = -1) := hR.trans (if_neg (by omega))
    clear hR
    go_enter Try.func41, Try.ntmps41
    go_wp2_with fail
    go_ret
    exact ⟨by rw [H.out] <;> simp, box _ _⟩
  · have h1' : b < i := by omega
    by_cases h3 : i ≤ 300
    · have g3 : 0 ≤ i - b - 1 := by omega
      by_cases h2 : i - b - 1 < n
      · have H : Hid (R = i - b - 1) := hR.trans (if_pos (by omega))
        clear hR
        go_enter Try.func41, Try.ntmps41
        go_wp2_with fail
        go_ret
        exact ⟨by rw [H.out] <;> simp, box _ _⟩
      · have H : Hid (R = -1) := hR.trans (if_neg (by omega))
        clear hR
        go_enter Try.func41, Try.ntmps41
        go_wp2_with fail
        go_ret
        exact ⟨by rw [H.out] <;> simp, box _ _⟩
    · have H : Hid (R = -1) := hR.trans (if_neg (by omega))
      clear hR
      go_enter Try.func41, Try.ntmps41
      go_wp2_with fail
      go_ret
      exact ⟨by rw [H.out] <;> simp, box _ _⟩

set_option maxHeartbeats 1000000 in
set_option maxRecDepth 100000 in
theorem sTermAt {ao : Option Addr} {cap : Nat} {vs : List En} {b t i : Int} {w : World} (hA : RdE w ao vs) (hb0 : 0 ≤ b) (hb1 : b ≤ 300) (hn : (vs.length : Int) ≤ 300 - b) :
    Calls Try.prog 29 #[aggL b t ao vs.length cap, .int .i64 i] w fun e w' => e = .returned (.int .i64 (termAt b t vs i)) ∧ Below w.heap.size w w' := by
  have bn : (vs.length : Int) ≤ 1048576 := by omega
  have b0 := box w (.cells #[.int .i64 b, .int .i64 t, .slice ao vs.length cap] 29)
  have K0 := Blk.new 29 w [.int .i64 b, .int .i64 t, .slice ao vs.length cap]
  have cp := fun w => sAt (ao := ao) (cap := cap) (t := t) (i := i) (w := w) hb0 hb1 hn
  obtain ⟨R, hR⟩ : ∃ R, R = termAt b t vs i := ⟨_, rfl⟩
  rw [← hR]
  unfold termAt at hR
  by_cases h1 : i = b
  · have H : Hid (R = t) := hR.trans (if_pos h1)
    have B0 : Hid _ := b0
    clear hR cp K0 b0 hA
    go_enter Try.func29, Try.ntmps29
    go_wp2_with fail
    go_ret
    exact ⟨by rw [H.out] <;> simp, B0.out⟩
  · rw [if_neg h1] at hR
    by_cases h2 : b < i ∧ i - b ≤ vs.length
    · have e1 : placeV b vs.length i = i - b - 1 := if_pos h2
      obtain ⟨k, hk⟩ : ∃ k : Nat, i - b - 1 = k := ⟨(i - b - 1).toNat, by omega⟩
      have hkl : k < vs.length := by omega
      obtain ⟨v, hv⟩ : ∃ v, vs[k]? = some v := ⟨_, List.getElem?_eq_getElem hkl⟩
      rw [if_pos h2.1, show (i - b - 1).toNat = k by omega, hv] at hR
      have H : Hid (R = v.1) := hR
      clear hR
      obtain ⟨bb, o, rfl, hbl, _, p0, _⟩ := hA k v hv
      rw [e1, hk] at cp
      have bk : (k : Int) < vs.length := by omega
      have kk : ¬ ((k : Int) < 0) := by omega
      have hne : (i == b) = false := beq_eq_false_iff_ne.2 h1
      have ST : Hid (∀ w', Below (w.alloc (.cells #[.int .i64 b, .int .i64 t, .slice (some ⟨bb, o, none⟩) vs.length cap] 29)).heap.size (w.alloc (.cells #[.int .i64 b, .int .i64 t, .slice (some ⟨bb, o, none⟩) vs.length cap] 29)) w' → w'.cell? ⟨w.heap.size, 2, none⟩ = some (.slice (some ⟨bb, o, none⟩) vs.length cap) ∧ w'.cell? ⟨bb, o + k * 4, none⟩ = some (.int .i64 v.1)) := fun w' h => ⟨(K0.below h).cell 2 rfl, ((b0.trans (h.mono b0.size)).cell (p := ⟨bb, o + k * 4, none⟩) hbl).trans p0⟩
      have B0 : Hid _ := b0
      clear K0 b0 hA e1 h2 hv p0
      go_enter Try.func29, Try.ntmps29
      go_wp2_with (go_at_call 41; refine (cp _).mono ?_; rintro e w3 ⟨rfl, hb3⟩; obtain ⟨y2, y3⟩ := ST.out _ hb3)
      go_ret
      exact ⟨by rw [H.out] <;> simp, B0.out.trans (hb3.mono B0.out.size)⟩
    · have e1 : placeV b vs.length i = -1 := if_neg h2
      rw [e1] at cp
      have H : Hid (R = -1) := hR.trans (by
        by_cases h3 : b < i
        · rw [if_pos h3, List.getElem?_eq_none (by omega)]
        · rw [if_neg h3])
      have hne : (i == b) = false := beq_eq_false_iff_ne.2 h1
      have B0 : Hid _ := b0
      clear K0 b0 hA e1 h2 hR
      go_enter Try.func29, Try.ntmps29
      go_wp2_with (go_at_call 41; refine (cp _).mono ?_; rintro e w3 ⟨rfl, hb3⟩)
      go_ret
      exact ⟨by rw [H.out] <;> simp, B0.out.trans (hb3.mono B0.out.size)⟩

set_option maxHeartbeats 4000000 in
set_option maxRecDepth 100000 in
theorem sCopy {ad : Addr} {cap : Nat} {vs : List En} {b t : Int} {w : World} (hA : RdE w (some ad) vs) (hn : vs.length ≤ 1048576) :
    Calls Try.prog 28 #[aggL b t (some ad) vs.length cap] w fun e w' => ∃ ao' c', e = .returned (aggL b t ao' vs.length c') ∧ ERow w.heap.size w' ao' c' vs ∧ Below w.heap.size w w' := by
  obtain ⟨W, hW⟩ : ∃ W, W = (w.alloc (.cells #[.int .i64 b, .int .i64 t, .slice (some ad) vs.length cap] 29)).alloc (.cells #[.int .i64 0, .int .i64 0, .slice none 0 0] 29) := ⟨_, rfl⟩
  have P0 : Lp w [.int .i64 b, .int .i64 t, .slice (some ad) vs.length cap] zP W := by rw [hW]; exact Lp.new w [.int .i64 b, .int .i64 t, .slice (some ad) vs.length cap] zP
  have hsW : W.heap.size = w.heap.size + 1 + 1 := by rw [hW]; simp
  have HW : Hid (W = (w.alloc (.cells #[.int .i64 b, .int .i64 t, .slice (some ad) vs.length cap] 29)).alloc (.cells #[.int .i64 0, .int .i64 0, .slice none 0 0] 29)) := hW
  go_enter Try.func28, Try.ntmps28
  go_wp2_with fail
  rw [← hW]
  clear hW
  have PD : Lp w [.int .i64 b, .int .i64 t, .slice (some ad) vs.length cap] zP W.drew := P0.later (Below.refl _ _).drew
  have q0 := PD.arg.cell 0 rfl
  have q1 := PD.arg.cell 1 rfl
  have q2 := PD.arg.cell 2 rfl
  have hAD : Hid (RdE W.drew (some ad) vs) := hA.below PD.below
  have sB : Hid (∀ w', Blk 29 w' w.heap.size [.int .i64 b, .int .i64 t, .slice (some ad) vs.length cap] → w'.cell? ⟨w.heap.size, 0, none⟩ = some (.int .i64 b) ∧ w'.cell? ⟨w.heap.size, 1, none⟩ = some (.int .i64 t) ∧ w'.cell? ⟨w.heap.size, 2, none⟩ = some (.slice (some ad) vs.length cap)) := fun w' h => ⟨h.cell 0 rfl, h.cell 1 rfl, h.cell 2 rfl⟩
  have hP0 : Hid _ := P0
  have KB : Hid (∀ w', Below W.heap.size W w' → Lp w [.int .i64 b, .int .i64 t, .slice (some ad) vs.length cap] zP w') := fun w' h => hP0.out.later h
  have HN : Hid (([] : List En).length + vs.length ≤ 3000000) := by show _ ≤ _; simp; omega
  have HS : Hid (w.heap.size + 1 < W.heap.size) := by show _ < _; omega
  have E0 : Hid (ERow W.heap.size (W.alloc (.cells #[] 47)).drew (some ⟨W.heap.size, 0, none⟩) 0 []) := ERow.new W (Nat.le_refl _)
  have A0 : Hid (RdE (W.alloc (.cells #[] 47)).drew (some ad) vs) := hAD.out.below (box W.drew (.cells #[] 47))
  have B0 : Hid (Below W.heap.size W (W.alloc (.cells #[] 47)).drew) := ((Below.refl _ W).alloc (Nat.le_refl _) _).drew
  clear P0 PD q0 q1 q2 hA hn hsW HW
  go_region_held3 (fun w' => w'.cell? ⟨w.heap.size, 0, none⟩ = some (.int .i64 b) ∧ w'.cell? ⟨w.heap.size, 1, none⟩ = some (.int .i64 t) ∧ w'.cell? ⟨w.heap.size, 2, none⟩ = some (.slice (some ad) vs.length cap)) (first | exact sB.out _ (KB.out _ B4).arg | exact sB.out _ ((((KB.out _ B4).arg.other (by omega) _ _).other (by omega) _ _).other (by omega) _ _) | exact sB.out _ (KB.out _ (Below.refl _ _).drew).arg | exact sB.out _ (KB.out _ ((Below.refl _ _).drew.alloc (Nat.le_refl _) _)).arg) (first
    | (refine step_app (B := W.heap.size) rfl (.tmp 7) (.tmp 9) rfl rfl [] vs _ ad _ _ rfl rfl E0.out A0.out HN.out B0.out.size ?_; intro ao' cap' w4 hr4 hb4 hc4; have B4 : Below W.heap.size W w4 := B0.out.trans hb4; have y0 := (KB.out _ B4).res.cell 0 rfl; have y1 := (KB.out _ B4).res.cell 1 rfl; have y2 := (KB.out _ B4).res.cell 2 rfl; have fy := (KB.out _ B4).res.frozen))
  all_goals
    rw [List.nil_append] at hr4
    have PK := KB.out _ B4
    have HR4 : Hid _ := hr4
    clear hr4
    go_wp2_with fail
    have k := ((PK.res.set 0 (.int .i64 b)).set 1 (.int .i64 t)).set 2 (.slice ao' vs.length cap')
    have x0 := k.cell 0 rfl
    have x1 := k.cell 1 rfl
    have x2 := k.cell 2 rfl
    refine bodyPost_ret (v := aggL b t ao' vs.length cap') ?_ rfl ⟨ao', cap', rfl, ?_, ?_⟩
    · simp [results, Try.results28, go_sem, x0, x1, x2]
    · have hl := HS.out
      refine ERow.same (w := w4) ?_ fun a ha => ?_
      · obtain ⟨h1, h2⟩ := HR4.out
        refine ⟨h1, ?_⟩
        rcases h2 with h2 | ⟨g, c, cur, e, hg, h3⟩
        · exact .inl h2
        · exact .inr ⟨g, c, cur, e, by omega, h3⟩
      · have hl2 := (ERow.lt HR4.out ha).1
        rw [Below.heap_setCell _ _ _ _ (by simp; omega), Below.heap_setCell _ _ _ _ (by simp; omega), Below.heap_setCell _ _ _ _ (by simp; omega)]
    · exact ((PK.below.setCell (by simp) _).setCell (by simp) _).setCell (by simp) _

end Lg
end Go.Proofs.Ytipjgkekjocljaa
