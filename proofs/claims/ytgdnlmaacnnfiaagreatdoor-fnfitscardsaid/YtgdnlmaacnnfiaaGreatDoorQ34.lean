/-
  The draw of a text to be fitted: l5DrawText.
  A pattern in brackets is that pattern.
  FnBrackets: a text in brackets tells what the text tells.
-/
import Derived.Test.YtgdnlmaacnnfiaaGreatDoorQ33
import Derived.Test.YtgdnlmaacnnfiaaGreatDoorQ01
import Derived.Test.YtgdnlmaacnnfiaaGreatDoorQ06
namespace Go.Proofs.YtgdnlmaacnnfiaaGreatDoor
open Go.RowKit Go.Extern
namespace Dr
set_option linter.unusedVariables false

def LX : List ByteArray := [⟨#[97]⟩, ⟨#[98]⟩, ⟨#[99]⟩, ⟨#[120, 46, 121]⟩, ⟨#[41]⟩]
theorem pick_strs3 (B p n cap : Nat) (xs : List ByteArray) (t : TypeId) (w : World) (hC : Cur B p w) (hn : xs.length = n) (h0 : 0 < n) (h1 : n ≤ 256) (hs : ∀ s ∈ xs, s.size ≤ 3) :
    Calls Tryz.prog 39 #[.pointer (some ⟨p, 0, none⟩), .slice (some ⟨w.heap.size, 0, none⟩) n cap] (w.alloc (.cells (xs.map Value.string).toArray t)) fun e w' => ∃ x : ByteArray, e = .returned (.string x) ∧ (x.size : Int) ≤ 3 ∧ Only p w w' ∧ Cur B p w' := by
  subst hn
  have hlt := hC.lt
  refine (pick_str B p w.heap.size cap xs _ (hC.alloc _) (by omega) (by simp) h0 h1 (alloc_strs w xs t)).mono ?_
  rintro e w' ⟨x, hx, rfl, ho, hC'⟩
  exact ⟨x, rfl, by have := hs x hx; omega, ((Only.refl p w).alloc _).trans ho, hC'⟩
theorem LX_in : ∀ s ∈ LX, s.size ≤ 3 := by decide +kernel
theorem pick_LX (B p cap : Nat) (t : TypeId) (w : World) (hC : Cur B p w) :
    Calls Tryz.prog 39 #[.pointer (some ⟨p, 0, none⟩), .slice (some ⟨w.heap.size, 0, none⟩) 5 cap] (w.alloc (.cells #[.string ⟨#[97]⟩, .string ⟨#[98]⟩, .string ⟨#[99]⟩, .string ⟨#[120, 46, 121]⟩, .string ⟨#[41]⟩] t)) fun e w' => ∃ x : ByteArray, e = .returned (.string x) ∧ (x.size : Int) ≤ 3 ∧ Only p w w' ∧ Cur B p w' :=
  pick_strs3 B p 5 cap LX t w hC rfl (by decide) (by decide) LX_in

set_option maxHeartbeats 1000000 in
set_option maxRecDepth 100000 in
theorem drawFit (B p : Nat) (w : World) (hC : Cur B p w) :
    Calls Tryz.prog 18 #[.pointer (some ⟨p, 0, none⟩)] w fun e w' => ∃ s : ByteArray, e = .returned (.string s) ∧ (s.size : Int) ≤ 24 ∧ Only p w w' ∧ Cur B p w' := by
  go_enter Tryz.func18, Tryz.ntmps18
  go_wp2_with fail
  go_loopw [3, 4] (fun v i wr => ∃ (s : ByteArray) (k : Nat), v = .string s ∧ i = .int .i64 k ∧ k ≤ 7 ∧ (s.size : Int) ≤ 3 * k ∧ Only p w wr ∧ Cur B p wr) (fun _ i _ => 8 - (intOf i).toNat)
  case atStart => exact ⟨⟨#[]⟩, 0, rfl, rfl, by omega, by decide, Only.refl _ _, hC⟩
  case round =>
    obtain ⟨s, k, rfl, rfl, hk, hs, ho, hCr⟩ := hrel
    have hkI : (k : Int) ≤ 7 := by omega
    clear hC
    go_upto_region 5 with (go_at_call 19; refine (below_small B p 8 _ hCr (by decide) (by decide)).mono ?_; rintro e w2 ⟨x, rfl, hx0, hx1, ho2, hC2⟩)
    · rename_i hlt
      go_wp2_with (go_at_call 39; with_reducible refine (pick_LX B p _ _ _ hC2).mono ?_; rintro e w3 ⟨y, rfl, hy, ho3, hC3⟩)
      go_roundw
      case rel => exact ⟨s ++ y, k + 1, rfl, by go_num, by omega, by rw [ByteArray.size_append]; omega, (ho.trans ho2).trans ho3, hC3⟩
      case measure => simp [intOf]; omega
    · go_ret
      exact ⟨s, rfl, by omega, ho.trans ho2, hC2⟩

end Dr
end Go.Proofs.YtgdnlmaacnnfiaaGreatDoor

namespace Go.Proofs.YtgdnlmaacnnfiaaGreatDoor
namespace Rx

/-- The text g', with g between its first byte and a closing bracket. -/
structure Sh (g g' : Nat → Nat) (N : Nat) : Prop where
  mid : ∀ i, i < N → g' (i + 1) = g i
  shut : g' (N + 1) = 41
  out : ∀ i, N ≤ i → g i = 256

section
variable {g g' : Nat → Nat} {N N' : Nat}

theorem Sh.lt (h : Sh g g' N) {i : Nat} (hi : g i ≠ 256) : i < N := lt_of_some h.out hi

theorem setLoop_ne {f i : Nat} {M : Nat → Bool} {r : (Nat → Bool) × Nat} (h : setLoop g f i M = some r) : g i ≠ 256 := by
  intro e
  cases f with
  | zero => simp [setLoop] at h
  | succ f => rw [setLoop, if_pos e] at h; simp at h

theorem setLoop_sh (hS : Sh g g' N) : ∀ (f i : Nat) (M M' : Nat → Bool) (k : Nat), setLoop g f i M = some (M', k) → ∀ f', f ≤ f' → setLoop g' f' (i + 1) M = some (M', k + 1) := by
  intro f
  induction f with
  | zero => intro i M M' k h; simp [setLoop] at h
  | succ f ih =>
    intro i M M' k h f' hf
    obtain ⟨f', rfl⟩ : ∃ x, f' = x + 1 := ⟨f' - 1, by omega⟩
    have h256 := setLoop_ne h
    have hi := hS.lt h256
    have e0 := hS.mid i hi
    rw [setLoop, if_neg h256] at h
    rw [setLoop, e0, if_neg h256]
    by_cases h93 : g i = 93
    · rw [if_pos h93] at h ⊢
      simp at h
      obtain ⟨rfl, rfl⟩ := h
      rfl
    · rw [if_neg h93] at h ⊢
      by_cases hc : g (i + 1) = 45 ∧ g (i + 2) ≠ 93
      · rw [if_pos hc] at h
        split at h
        · simp at h
        · rename_i hb
          have e1 := hS.mid (i + 1) (hS.lt (by rw [hc.1]; omega))
          have e2 := hS.mid (i + 2) (hS.lt (fun e => hb (.inl e)))
          rw [show i + 1 + 1 = i + 1 + 1 from rfl, e1, show i + 1 + 2 = i + 2 + 1 from rfl, e2, if_pos hc, if_neg hb]
          exact ih (i + 3) _ _ _ h f' (by omega)
      · rw [if_neg hc] at h
        have e1 := hS.mid (i + 1) (hS.lt (setLoop_ne h))
        have hc' : ¬ (g' (i + 1 + 1) = 45 ∧ g' (i + 1 + 2) ≠ 93) := by
          intro hh
          rw [e1] at hh
          apply hc
          refine ⟨hh.1, fun e => ?_⟩
          have e2 := hS.mid (i + 2) (hS.lt (by rw [e]; omega))
          exact hh.2 (by rw [show i + 1 + 2 = i + 2 + 1 from rfl, e2]; exact e)
        rw [if_neg hc']
        exact ih (i + 1) _ _ _ h f' (by omega)

theorem setAt_sh (hS : Sh g g' N) (hN : N ≤ N') {i k : Nat} {t : Data} (h : setAt g N i = some (t, k)) : setAt g' N' (i + 1) = some (t, k + 1) := by
  unfold setAt at h ⊢
  rcases hr : setLoop g (N + 1) (if g i = 94 then i + 1 else i) (fun _ => false) with _ | ⟨M, k'⟩
  · rw [hr] at h; simp [setEnd] at h
  · have hne := setLoop_ne hr
    have hi : i < N := by
      have := hS.lt hne
      split at this <;> omega
    have e0 := hS.mid i hi
    have h2 := setLoop_sh hS _ _ _ _ _ hr (N' + 1) (by omega)
    have hst : (if g' (i + 1) = 94 then i + 1 + 1 else i + 1) = (if g i = 94 then i + 1 else i) + 1 := by
      rw [e0]
      split <;> rfl
    rw [hst, h2, e0]
    rw [hr] at h
    simp only [setEnd] at h ⊢
    split at h
    · simp at h
    · rename_i hb
      simp at h
      rw [if_neg hb, h.1, h.2]

theorem atomAt_sh (hS : Sh g g' N) (hN : N ≤ N') {F F' : Nat → Option (Data × Nat)} (hF : ∀ i t j, i ≤ N → F i = some (t, j) → F' (i + 1) = some (t, j + 1)) {i j : Nat} {t : Data} (h : atomAt g N F i = some (t, j)) : atomAt g' N' F' (i + 1) = some (t, j + 1) := by
  unfold atomAt at h ⊢
  by_cases h256 : g i = 256
  · rw [if_pos h256] at h; simp at h
  have hi := hS.lt h256
  have e0 := hS.mid i hi
  rw [if_neg h256] at h
  rw [e0, if_neg h256]
  split at h
  · rename_i hc
    rw [if_pos hc]
    rcases hr : F (i + 1) with _ | ⟨t1, j1⟩
    · rw [hr] at h; simp [shut] at h
    · rw [hr] at h
      rw [hF (i + 1) t1 j1 (by omega) hr]
      simp only [shut] at h ⊢
      split at h
      · rename_i h41
        rw [hS.mid j1 (hS.lt (by omega)), if_pos h41]
        simp at h
        rw [h.1, h.2]
      · simp at h
  · rename_i hc
    rw [if_neg hc]
    split at h
    · rename_i hc; rw [if_pos hc]; simp at h; rw [h.1, h.2]
    · rename_i hc
      rw [if_neg hc]
      split at h
      · rename_i hc; rw [if_pos hc]; simp at h; rw [h.1, h.2]
      · rename_i hc
        rw [if_neg hc]
        split at h
        · rename_i hc; rw [if_pos hc]; simp at h; rw [h.1, h.2]
        · rename_i hc
          rw [if_neg hc]
          split at h
          · rename_i hc; rw [if_pos hc]; exact setAt_sh hS hN h
          · rename_i hc
            rw [if_neg hc]
            split at h
            · rename_i hc
              rw [if_pos hc]
              split at h
              · simp at h
              · rename_i h2
                have e1 := hS.mid (i + 1) (hS.lt h2)
                rw [e1, if_neg h2]
                simp at h
                rw [← h.1, ← h.2]
            · rename_i hc
              rw [if_neg hc]
              split at h
              · simp at h
              · rename_i hc; rw [if_neg hc]; simp at h; rw [h.1, h.2]

theorem stars_sh (hS : Sh g g' N) : ∀ (f f' : Nat) (t : Data) (i : Nat), i ≤ N → N < f + i → N < f' + i → stars g' f' t (i + 1) = ((stars g f t i).1, (stars g f t i).2 + 1) := by
  intro f
  induction f with
  | zero => intro f' t i h1 h2; omega
  | succ f ih =>
    intro f' t i h1 h2 h3
    obtain ⟨f', rfl⟩ : ∃ x, f' = x + 1 := ⟨f' - 1, by omega⟩
    rcases Nat.lt_or_ge i N with hi | hi
    · have e0 := hS.mid i hi
      simp only [stars]
      rw [e0]
      split
      · exact ih f' _ (i + 1) (by omega) (by omega) (by omega)
      · split
        · exact ih f' _ (i + 1) (by omega) (by omega) (by omega)
        · split
          · exact ih f' _ (i + 1) (by omega) (by omega) (by omega)
          · rfl
    · obtain rfl : i = N := by omega
      have e0 := hS.out i (Nat.le_refl _)
      have e1 := hS.shut
      simp [stars, e0, e1]

theorem pieceAt_sh (hS : Sh g g' N) (hN : N ≤ N') {A A' : Nat → Option (Data × Nat)} (hin : ∀ i t j, A i = some (t, j) → i < j ∧ j ≤ N) (hA : ∀ i t j, A i = some (t, j) → A' (i + 1) = some (t, j + 1)) {i j : Nat} {t : Data} (h : pieceAt g N A i = some (t, j)) : pieceAt g' N' A' (i + 1) = some (t, j + 1) := by
  unfold pieceAt at h ⊢
  rcases hr : A i with _ | ⟨t1, j1⟩
  · rw [hr] at h; simp at h
  · rw [hr] at h
    rw [hA i t1 j1 hr]
    simp only [Option.some.injEq] at h ⊢
    have h1 := hin i t1 j1 hr
    rw [stars_sh hS (N + 1) (N' + 1) t1 j1 h1.2 (by omega) (by omega), h]

theorem partLoop_sh (hS : Sh g g' N) (hN : N ≤ N') {A A' : Nat → Option (Data × Nat)} (hin : ∀ i t j, A i = some (t, j) → i < j ∧ j ≤ N) (hA : ∀ i t j, A i = some (t, j) → A' (i + 1) = some (t, j + 1)) :
    ∀ (f f' i : Nat) (ts us : List Data) (j : Nat), i ≤ N → N < f' + i → partLoop g N A f i ts = some (us, j) → partLoop g' N' A' f' (i + 1) ts = some (us, j + 1) := by
  intro f
  induction f with
  | zero => intro f' i ts us j _ _ h; simp [partLoop] at h
  | succ f ih =>
    intro f' i ts us j hi hf h
    obtain ⟨f', rfl⟩ : ∃ x, f' = x + 1 := ⟨f' - 1, by omega⟩
    rw [partLoop] at h ⊢
    rcases Nat.lt_or_ge i N with hi2 | hi2
    · rw [hS.mid i hi2]
      split at h
      · rename_i hc
        rw [if_pos hc]
        simp at h
        rw [h.1, h.2]
      · rename_i hc
        rw [if_neg hc]
        rcases hr : pieceAt g N A i with _ | ⟨t1, j1⟩
        · rw [hr] at h; simp at h
        · rw [hr] at h
          rw [pieceAt_sh hS hN hin hA hr]
          have h1 := pieceAt_in hS.out hin hr
          exact ih f' j1 _ us j h1.2 (by omega) h
    · obtain rfl : i = N := by omega
      rw [if_pos (.inl (hS.out i (Nat.le_refl _)))] at h
      rw [if_pos (.inr (.inr hS.shut))]
      simp at h
      rw [h.1, h.2]

theorem partAt_sh (hS : Sh g g' N) (hN : N ≤ N') {A A' : Nat → Option (Data × Nat)} (hin : ∀ i t j, A i = some (t, j) → i < j ∧ j ≤ N) (hA : ∀ i t j, A i = some (t, j) → A' (i + 1) = some (t, j + 1)) {i j : Nat} {t : Data} (hi : i ≤ N) (h : partAt g N A i = some (t, j)) : partAt g' N' A' (i + 1) = some (t, j + 1) := by
  unfold partAt at h ⊢
  rcases hr : partLoop g N A (N + 1) i [] with _ | ⟨us, j1⟩
  · rw [hr] at h; simp [partEnd] at h
  · rw [hr] at h
    rw [partLoop_sh hS hN hin hA (N + 1) (N' + 1) i [] us j1 hi (by omega) hr]
    simp only [partEnd, Option.some.injEq, Prod.mk.injEq] at h ⊢
    rw [h.1, h.2]
    exact ⟨rfl, rfl⟩

theorem patLoop_sh (hS : Sh g g' N) (hN : N ≤ N') {A A' : Nat → Option (Data × Nat)} (hin : ∀ i t j, A i = some (t, j) → i < j ∧ j ≤ N) (hA : ∀ i t j, A i = some (t, j) → A' (i + 1) = some (t, j + 1)) :
    ∀ (f f' i : Nat) (ts us : List Data) (j : Nat), i ≤ N → N < f' + i → patLoop g N A f i ts = some (us, j) → patLoop g' N' A' f' (i + 1) ts = some (us, j + 1) := by
  intro f
  induction f with
  | zero => intro f' i ts us j _ _ h; simp [patLoop] at h
  | succ f ih =>
    intro f' i ts us j hi hf h
    obtain ⟨f', rfl⟩ : ∃ x, f' = x + 1 := ⟨f' - 1, by omega⟩
    rw [patLoop] at h ⊢
    rcases Nat.lt_or_ge i N with hi2 | hi2
    · rw [hS.mid i hi2]
      split at h
      · rename_i hc
        rw [if_pos hc]
        rcases hr : partAt g N A (i + 1) with _ | ⟨t1, j1⟩
        · rw [hr] at h; simp at h
        · rw [hr] at h
          rw [partAt_sh hS hN hin hA (by omega) hr]
          have h1 := partAt_in hS.out hin hr
          exact ih f' j1 _ us j (h1.2 (by omega)) (by omega) h
      · rename_i hc
        rw [if_neg hc]
        simp at h
        rw [h.1, h.2]
    · obtain rfl : i = N := by omega
      rw [if_neg (by rw [hS.out i (Nat.le_refl _)]; omega)] at h
      rw [if_neg (by rw [hS.shut]; omega)]
      simp at h
      rw [h.1, h.2]

theorem patAt_sh (hS : Sh g g' N) (hN : N ≤ N') {A A' : Nat → Option (Data × Nat)} (hin : ∀ i t j, A i = some (t, j) → i < j ∧ j ≤ N) (hA : ∀ i t j, A i = some (t, j) → A' (i + 1) = some (t, j + 1)) {i j : Nat} {t : Data} (hi : i ≤ N) (h : patAt g N A i = some (t, j)) : patAt g' N' A' (i + 1) = some (t, j + 1) := by
  unfold patAt at h ⊢
  rcases hr : partAt g N A i with _ | ⟨t1, j1⟩
  · rw [hr] at h; simp at h
  · rw [hr] at h
    rw [partAt_sh hS hN hin hA hi hr]
    have h1 := (partAt_in hS.out hin hr).2 hi
    simp only at h ⊢
    rcases hq : patLoop g N A (N + 1) j1 [t1] with _ | ⟨us, j2⟩
    · rw [hq] at h; simp [patEnd] at h
    · rw [hq] at h
      rw [patLoop_sh hS hN hin hA (N + 1) (N' + 1) j1 [t1] us j2 h1 (by omega) hq]
      simp only [patEnd, Option.some.injEq, Prod.mk.injEq] at h ⊢
      rw [h.1, h.2]
      exact ⟨rfl, rfl⟩

theorem atomN_sh (hS : Sh g g' N) (hN : N ≤ N') : ∀ (n i : Nat) (t : Data) (j : Nat), atomN g N n i = some (t, j) → atomN g' N' n (i + 1) = some (t, j + 1) := by
  intro n
  induction n with
  | zero => intro i t j h; simp [atomN] at h
  | succ n ih =>
    intro i t j h
    rw [atomN] at h ⊢
    exact atomAt_sh hS hN (fun i t j hi h => patAt_sh hS hN (atomN_in hS.out n) ih hi h) h

theorem patN_brk (hS : Sh g g' N) (h0 : g' 0 = 40) (hend : ∀ i, N + 2 ≤ i → g' i = 256) {n : Nat} {t : Data} (h : patN g N n 0 = some (t, N)) : patN g' (N + 2) (n + 1) 0 = some (t, N + 2) := by
  have h1 : patAt g' (N + 2) (atomN g' (N + 2) n) (0 + 1) = some (t, N + 1) := patAt_sh hS (by omega) (atomN_in hS.out n) (atomN_sh hS (by omega) n) (Nat.zero_le _) h
  have e2 : g' (N + 2) = 256 := hend _ (Nat.le_refl _)
  have ha : atomN g' (N + 2) (n + 1) 0 = some (t, N + 2) := by
    rw [atomN]
    unfold atomAt
    rw [h0, if_neg (by omega), if_pos rfl, h1]
    simp [shut, hS.shut]
  have hs : stars g' (N + 2 + 1) t (N + 2) = (t, N + 2) := by simp [stars, e2]
  have hp : pieceAt g' (N + 2) (atomN g' (N + 2) (n + 1)) 0 = some (t, N + 2) := by unfold pieceAt; rw [ha]; simp [hs]
  have hl : partLoop g' (N + 2) (atomN g' (N + 2) (n + 1)) (N + 2 + 1) 0 [] = some ([t], N + 2) := by
    rw [partLoop, if_neg (by rw [h0]; omega), hp]
    simp [partLoop, e2]
  unfold patN patAt partAt
  rw [hl]
  simp [partEnd, catOf, patLoop, e2, patEnd, orOf]

theorem whole_brk (hS : Sh g g' N) (h0 : g' 0 = 40) (hend : ∀ i, N + 2 ≤ i → g' i = 256) (hN : N ≤ 58) {t : Data} (h : wholeV g N 61 = some t) : wholeV g' (N + 2) 61 = some t := by
  unfold wholeV at h
  rcases hr : patN g N 61 0 with _ | ⟨t1, j⟩
  · rw [hr] at h; simp at h
  · rw [hr] at h
    simp only at h
    split at h
    · rename_i hc
      simp at h
      subst h
      obtain ⟨rfl, hd⟩ := hc
      have h2 := patN_agree (n := 60) hS.out (by omega) (by omega) hr
      have h3 := patN_brk hS h0 hend h2
      unfold wholeV
      rw [h3]
      simp [hd]
    · simp at h

end
end Rx
end Go.Proofs.YtgdnlmaacnnfiaaGreatDoor

namespace Go.Proofs.YtgdnlmaacnnfiaaGreatDoor
open Go.RowKit
namespace Rx

/-- A text in brackets. -/
def brk (s : ByteArray) : ByteArray := (⟨#[40]⟩ ++ s) ++ ⟨#[41]⟩

theorem brk_size (s : ByteArray) : (brk s).size = s.size + 2 := by
  unfold brk
  rw [ByteArray.size_append, ByteArray.size_append]
  show 1 + s.size + 1 = _
  omega

theorem brk_data (s : ByteArray) : (brk s).data.toList = 40 :: (s.data.toList ++ [41]) := by
  unfold brk
  simp [ByteArray.data_append]

theorem gOf_list (s : ByteArray) (i : Nat) : gOf s i = (s.data.toList[i]?.map UInt8.toNat).getD 256 := by
  unfold gOf
  split
  · rename_i h
    have h' : i < s.data.toList.length := by simpa using h
    rw [List.getElem?_eq_getElem h']
    simp
    rfl
  · rename_i h
    have h' : s.data.toList.length ≤ i := by
      have : s.data.toList.length = s.size := by simp
      omega
    rw [List.getElem?_eq_none h']
    rfl

theorem brk_sh (s : ByteArray) : Sh (gOf s) (gOf (brk s)) s.size where
  mid := by
    intro i hi
    have h' : i < s.data.toList.length := by simpa using hi
    rw [gOf_list, gOf_list, brk_data, List.getElem?_cons_succ, List.getElem?_append_left h']
  shut := by
    have h' : s.data.toList.length = s.size := by simp
    rw [gOf_list, brk_data, List.getElem?_cons_succ, List.getElem?_append_right (by omega), h']
    simp
  out := fun i h => gOf_out h

theorem parse_brk {s : ByteArray} {t : Data} (hs : s.size ≤ 58) (h : parseV s = some t) : parseV (brk s) = some t := by
  unfold parseV at h ⊢
  rw [if_neg (by omega)] at h
  rw [brk_size, if_neg (by omega)]
  refine whole_brk (brk_sh s) ?_ ?_ hs h
  · rw [gOf_list, brk_data]; rfl
  · intro i hi
    exact gOf_out (by rw [brk_size]; omega)

theorem parse_empty : (parseV ⟨#[]⟩).isSome = true := by decide

theorem parse_right {s : ByteArray} {t : Data} (h : parseV s = some t) : RightD 12 t ∧ cnt t ≤ 1000 := by
  unfold parseV at h
  split at h
  · simp at h
  · refine ⟨whole_right (fun i => ?_) h, ?_⟩
    · rcases Nat.lt_or_ge i s.size with hi | hi
      · exact Nat.le_of_lt (gOf_lt hi)
      · rw [gOf_out hi]; exact Nat.le_refl _
    · have := whole_cnt (fun i h => gOf_out h) h
      omega

end Rx
end Go.Proofs.YtgdnlmaacnnfiaaGreatDoor

