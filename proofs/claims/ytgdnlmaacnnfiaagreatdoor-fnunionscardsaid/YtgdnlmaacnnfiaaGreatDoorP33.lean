/-
  A pattern in brackets is that pattern.
  FnBrackets: a text in brackets tells what the text tells.
  The draw of a right Rex: l3DrawRight.
-/
import Derived.Test.YtgdnlmaacnnfiaaGreatDoorP02
import Derived.Test.YtgdnlmaacnnfiaaGreatDoorP06
import Derived.Test.YtgdnlmaacnnfiaaGreatDoorP32
namespace Go.Proofs.YtgdnlmaacnnfiaaGreatDoor
namespace Rx

/-- The text g', with g between its first byte and a closing bracket. -/
structure Sh (g g' : Nat → Nat) (N : Nat) : Prop where
  mid : ∀ i, i < N → g' (i + 1) = g i
  shut : g' (N + 1) = 41
  out : ∀ i, N ≤ i → g i = 256

section
variable {g g' : Nat → Nat} {N N' : Nat}

theorem Sh.lt (h : Sh g g' N) {i : Nat} (hi : g i ≠ 256) : i < N := lt_of_some h.out hi

theorem setLoop_ne {f i : Nat} {M : Nat → Bool} {r : (Nat → Bool) × Nat} (h : setLoop g f i M = some r) : g i ≠ 256 := by
  intro e
  cases f with
  | zero => simp [setLoop] at h
  | succ f => rw [setLoop, if_pos e] at h; simp at h

theorem setLoop_sh (hS : Sh g g' N) : ∀ (f i : Nat) (M M' : Nat → Bool) (k : Nat), setLoop g f i M = some (M', k) → ∀ f', f ≤ f' → setLoop g' f' (i + 1) M = some (M', k + 1) := by
  intro f
  induction f with
  | zero => intro i M M' k h; simp [setLoop] at h
  | succ f ih =>
    intro i M M' k h f' hf
    obtain ⟨f', rfl⟩ : ∃ x, f' = x + 1 := ⟨f' - 1, by omega⟩
    have h256 := setLoop_ne h
    have hi := hS.lt h256
    have e0 := hS.mid i hi
    rw [setLoop, if_neg h256] at h
    rw [setLoop, e0, if_neg h256]
    by_cases h93 : g i = 93
    · rw [if_pos h93] at h ⊢
      simp at h
      obtain ⟨rfl, rfl⟩ := h
      rfl
    · rw [if_neg h93] at h ⊢
      by_cases hc : g (i + 1) = 45 ∧ g (i + 2) ≠ 93
      · rw [if_pos hc] at h
        split at h
        · simp at h
        · rename_i hb
          have e1 := hS.mid (i + 1) (hS.lt (by rw [hc.1]; omega))
          have e2 := hS.mid (i + 2) (hS.lt (fun e => hb (.inl e)))
          rw [show i + 1 + 1 = i + 1 + 1 from rfl, e1, show i + 1 + 2 = i + 2 + 1 from rfl, e2, if_pos hc, if_neg hb]
          exact ih (i + 3) _ _ _ h f' (by omega)
      · rw [if_neg hc] at h
        have e1 := hS.mid (i + 1) (hS.lt (setLoop_ne h))
        have hc' : ¬ (g' (i + 1 + 1) = 45 ∧ g' (i + 1 + 2) ≠ 93) := by
          intro hh
          rw [e1] at hh
          apply hc
          refine ⟨hh.1, fun e => ?_⟩
          have e2 := hS.mid (i + 2) (hS.lt (by rw [e]; omega))
          exact hh.2 (by rw [show i + 1 + 2 = i + 2 + 1 from rfl, e2]; exact e)
        rw [if_neg hc']
        exact ih (i + 1) _ _ _ h f' (by omega)

theorem setAt_sh (hS : Sh g g' N) (hN : N ≤ N') {i k : Nat} {t : Data} (h : setAt g N i = some (t, k)) : setAt g' N' (i + 1) = some (t, k + 1) := by
  unfold setAt at h ⊢
  rcases hr : setLoop g (N + 1) (if g i = 94 then i + 1 else i) (fun _ => false) with _ | ⟨M, k'⟩
  · rw [hr] at h; simp [setEnd] at h
  · have hne := setLoop_ne hr
    have hi : i < N := by
      have := hS.lt hne
      split at this <;> omega
    have e0 := hS.mid i hi
    have h2 := setLoop_sh hS _ _ _ _ _ hr (N' + 1) (by omega)
    have hst : (if g' (i + 1) = 94 then i + 1 + 1 else i + 1) = (if g i = 94 then i + 1 else i) + 1 := by
      rw [e0]
      split <;> rfl
    rw [hst, h2, e0]
    rw [hr] at h
    simp only [setEnd] at h ⊢
    split at h
    · simp at h
    · rename_i hb
      simp at h
      rw [if_neg hb, h.1, h.2]

theorem atomAt_sh (hS : Sh g g' N) (hN : N ≤ N') {F F' : Nat → Option (Data × Nat)} (hF : ∀ i t j, i ≤ N → F i = some (t, j) → F' (i + 1) = some (t, j + 1)) {i j : Nat} {t : Data} (h : atomAt g N F i = some (t, j)) : atomAt g' N' F' (i + 1) = some (t, j + 1) := by
  unfold atomAt at h ⊢
  by_cases h256 : g i = 256
  · rw [if_pos h256] at h; simp at h
  have hi := hS.lt h256
  have e0 := hS.mid i hi
  rw [if_neg h256] at h
  rw [e0, if_neg h256]
  split at h
  · rename_i hc
    rw [if_pos hc]
    rcases hr : F (i + 1) with _ | ⟨t1, j1⟩
    · rw [hr] at h; simp [shut] at h
    · rw [hr] at h
      rw [hF (i + 1) t1 j1 (by omega) hr]
      simp only [shut] at h ⊢
      split at h
      · rename_i h41
        rw [hS.mid j1 (hS.lt (by omega)), if_pos h41]
        simp at h
        rw [h.1, h.2]
      · simp at h
  · rename_i hc
    rw [if_neg hc]
    split at h
    · rename_i hc; rw [if_pos hc]; simp at h; rw [h.1, h.2]
    · rename_i hc
      rw [if_neg hc]
      split at h
      · rename_i hc; rw [if_pos hc]; simp at h; rw [h.1, h.2]
      · rename_i hc
        rw [if_neg hc]
        split at h
        · rename_i hc; rw [if_pos hc]; simp at h; rw [h.1, h.2]
        · rename_i hc
          rw [if_neg hc]
          split at h
          · rename_i hc; rw [if_pos hc]; exact setAt_sh hS hN h
          · rename_i hc
            rw [if_neg hc]
            split at h
            · rename_i hc
              rw [if_pos hc]
              split at h
              · simp at h
              · rename_i h2
                have e1 := hS.mid (i + 1) (hS.lt h2)
                rw [e1, if_neg h2]
                simp at h
                rw [← h.1, ← h.2]
            · rename_i hc
              rw [if_neg hc]
              split at h
              · simp at h
              · rename_i hc; rw [if_neg hc]; simp at h; rw [h.1, h.2]

theorem stars_sh (hS : Sh g g' N) : ∀ (f f' : Nat) (t : Data) (i : Nat), i ≤ N → N < f + i → N < f' + i → stars g' f' t (i + 1) = ((stars g f t i).1, (stars g f t i).2 + 1) := by
  intro f
  induction f with
  | zero => intro f' t i h1 h2; omega
  | succ f ih =>
    intro f' t i h1 h2 h3
    obtain ⟨f', rfl⟩ : ∃ x, f' = x + 1 := ⟨f' - 1, by omega⟩
    rcases Nat.lt_or_ge i N with hi | hi
    · have e0 := hS.mid i hi
      simp only [stars]
      rw [e0]
      split
      · exact ih f' _ (i + 1) (by omega) (by omega) (by omega)
      · split
        · exact ih f' _ (i + 1) (by omega) (by omega) (by omega)
        · split
          · exact ih f' _ (i + 1) (by omega) (by omega) (by omega)
          · rfl
    · obtain rfl : i = N := by omega
      have e0 := hS.out i (Nat.le_refl _)
      have e1 := hS.shut
      simp [stars, e0, e1]

theorem pieceAt_sh (hS : Sh g g' N) (hN : N ≤ N') {A A' : Nat → Option (Data × Nat)} (hin : ∀ i t j, A i = some (t, j) → i < j ∧ j ≤ N) (hA : ∀ i t j, A i = some (t, j) → A' (i + 1) = some (t, j + 1)) {i j : Nat} {t : Data} (h : pieceAt g N A i = some (t, j)) : pieceAt g' N' A' (i + 1) = some (t, j + 1) := by
  unfold pieceAt at h ⊢
  rcases hr : A i with _ | ⟨t1, j1⟩
  · rw [hr] at h; simp at h
  · rw [hr] at h
    rw [hA i t1 j1 hr]
    simp only [Option.some.injEq] at h ⊢
    have h1 := hin i t1 j1 hr
    rw [stars_sh hS (N + 1) (N' + 1) t1 j1 h1.2 (by omega) (by omega), h]

theorem partLoop_sh (hS : Sh g g' N) (hN : N ≤ N') {A A' : Nat → Option (Data × Nat)} (hin : ∀ i t j, A i = some (t, j) → i < j ∧ j ≤ N) (hA : ∀ i t j, A i = some (t, j) → A' (i + 1) = some (t, j + 1)) :
    ∀ (f f' i : Nat) (ts us : List Data) (j : Nat), i ≤ N → N < f' + i → partLoop g N A f i ts = some (us, j) → partLoop g' N' A' f' (i + 1) ts = some (us, j + 1) := by
  intro f
  induction f with
  | zero => intro f' i ts us j _ _ h; simp [partLoop] at h
  | succ f ih =>
    intro f' i ts us j hi hf h
    obtain ⟨f', rfl⟩ : ∃ x, f' = x + 1 := ⟨f' - 1, by omega⟩
    rw [partLoop] at h ⊢
    rcases Nat.lt_or_ge i N with hi2 | hi2
    · rw [hS.mid i hi2]
      split at h
      · rename_i hc
        rw [if_pos hc]
        simp at h
        rw [h.1, h.2]
      · rename_i hc
        rw [if_neg hc]
        rcases hr : pieceAt g N A i with _ | ⟨t1, j1⟩
        · rw [hr] at h; simp at h
        · rw [hr] at h
          rw [pieceAt_sh hS hN hin hA hr]
          have h1 := pieceAt_in hS.out hin hr
          exact ih f' j1 _ us j h1.2 (by omega) h
    · obtain rfl : i = N := by omega
      rw [if_pos (.inl (hS.out i (Nat.le_refl _)))] at h
      rw [if_pos (.inr (.inr hS.shut))]
      simp at h
      rw [h.1, h.2]

theorem partAt_sh (hS : Sh g g' N) (hN : N ≤ N') {A A' : Nat → Option (Data × Nat)} (hin : ∀ i t j, A i = some (t, j) → i < j ∧ j ≤ N) (hA : ∀ i t j, A i = some (t, j) → A' (i + 1) = some (t, j + 1)) {i j : Nat} {t : Data} (hi : i ≤ N) (h : partAt g N A i = some (t, j)) : partAt g' N' A' (i + 1) = some (t, j + 1) := by
  unfold partAt at h ⊢
  rcases hr : partLoop g N A (N + 1) i [] with _ | ⟨us, j1⟩
  · rw [hr] at h; simp [partEnd] at h
  · rw [hr] at h
    rw [partLoop_sh hS hN hin hA (N + 1) (N' + 1) i [] us j1 hi (by omega) hr]
    simp only [partEnd, Option.some.injEq, Prod.mk.injEq] at h ⊢
    rw [h.1, h.2]
    exact ⟨rfl, rfl⟩

theorem patLoop_sh (hS : Sh g g' N) (hN : N ≤ N') {A A' : Nat → Option (Data × Nat)} (hin : ∀ i t j, A i = some (t, j) → i < j ∧ j ≤ N) (hA : ∀ i t j, A i = some (t, j) → A' (i + 1) = some (t, j + 1)) :
    ∀ (f f' i : Nat) (ts us : List Data) (j : Nat), i ≤ N → N < f' + i → patLoop g N A f i ts = some (us, j) → patLoop g' N' A' f' (i + 1) ts = some (us, j + 1) := by
  intro f
  induction f with
  | zero => intro f' i ts us j _ _ h; simp [patLoop] at h
  | succ f ih =>
    intro f' i ts us j hi hf h
    obtain ⟨f', rfl⟩ : ∃ x, f' = x + 1 := ⟨f' - 1, by omega⟩
    rw [patLoop] at h ⊢
    rcases Nat.lt_or_ge i N with hi2 | hi2
    · rw [hS.mid i hi2]
      split at h
      · rename_i hc
        rw [if_pos hc]
        rcases hr : partAt g N A (i + 1) with _ | ⟨t1, j1⟩
        · rw [hr] at h; simp at h
        · rw [hr] at h
          rw [partAt_sh hS hN hin hA (by omega) hr]
          have h1 := partAt_in hS.out hin hr
          exact ih f' j1 _ us j (h1.2 (by omega)) (by omega) h
      · rename_i hc
        rw [if_neg hc]
        simp at h
        rw [h.1, h.2]
    · obtain rfl : i = N := by omega
      rw [if_neg (by rw [hS.out i (Nat.le_refl _)]; omega)] at h
      rw [if_neg (by rw [hS.shut]; omega)]
      simp at h
      rw [h.1, h.2]

theorem patAt_sh (hS : Sh g g' N) (hN : N ≤ N') {A A' : Nat → Option (Data × Nat)} (hin : ∀ i t j, A i = some (t, j) → i < j ∧ j ≤ N) (hA : ∀ i t j, A i = some (t, j) → A' (i + 1) = some (t, j + 1)) {i j : Nat} {t : Data} (hi : i ≤ N) (h : patAt g N A i = some (t, j)) : patAt g' N' A' (i + 1) = some (t, j + 1) := by
  unfold patAt at h ⊢
  rcases hr : partAt g N A i with _ | ⟨t1, j1⟩
  · rw [hr] at h; simp at h
  · rw [hr] at h
    rw [partAt_sh hS hN hin hA hi hr]
    have h1 := (partAt_in hS.out hin hr).2 hi
    simp only at h ⊢
    rcases hq : patLoop g N A (N + 1) j1 [t1] with _ | ⟨us, j2⟩
    · rw [hq] at h; simp [patEnd] at h
    · rw [hq] at h
      rw [patLoop_sh hS hN hin hA (N + 1) (N' + 1) j1 [t1] us j2 h1 (by omega) hq]
      simp only [patEnd, Option.some.injEq, Prod.mk.injEq] at h ⊢
      rw [h.1, h.2]
      exact ⟨rfl, rfl⟩

theorem atomN_sh (hS : Sh g g' N) (hN : N ≤ N') : ∀ (n i : Nat) (t : Data) (j : Nat), atomN g N n i = some (t, j) → atomN g' N' n (i + 1) = some (t, j + 1) := by
  intro n
  induction n with
  | zero => intro i t j h; simp [atomN] at h
  | succ n ih =>
    intro i t j h
    rw [atomN] at h ⊢
    exact atomAt_sh hS hN (fun i t j hi h => patAt_sh hS hN (atomN_in hS.out n) ih hi h) h

theorem patN_brk (hS : Sh g g' N) (h0 : g' 0 = 40) (hend : ∀ i, N + 2 ≤ i → g' i = 256) {n : Nat} {t : Data} (h : patN g N n 0 = some (t, N)) : patN g' (N + 2) (n + 1) 0 = some (t, N + 2) := by
  have h1 : patAt g' (N + 2) (atomN g' (N + 2) n) (0 + 1) = some (t, N + 1) := patAt_sh hS (by omega) (atomN_in hS.out n) (atomN_sh hS (by omega) n) (Nat.zero_le _) h
  have e2 : g' (N + 2) = 256 := hend _ (Nat.le_refl _)
  have ha : atomN g' (N + 2) (n + 1) 0 = some (t, N + 2) := by
    rw [atomN]
    unfold atomAt
    rw [h0, if_neg (by omega), if_pos rfl, h1]
    simp [shut, hS.shut]
  have hs : stars g' (N + 2 + 1) t (N + 2) = (t, N + 2) := by simp [stars, e2]
  have hp : pieceAt g' (N + 2) (atomN g' (N + 2) (n + 1)) 0 = some (t, N + 2) := by unfold pieceAt; rw [ha]; simp [hs]
  have hl : partLoop g' (N + 2) (atomN g' (N + 2) (n + 1)) (N + 2 + 1) 0 [] = some ([t], N + 2) := by
    rw [partLoop, if_neg (by rw [h0]; omega), hp]
    simp [partLoop, e2]
  unfold patN patAt partAt
  rw [hl]
  simp [partEnd, catOf, patLoop, e2, patEnd, orOf]

theorem whole_brk (hS : Sh g g' N) (h0 : g' 0 = 40) (hend : ∀ i, N + 2 ≤ i → g' i = 256) (hN : N ≤ 58) {t : Data} (h : wholeV g N 61 = some t) : wholeV g' (N + 2) 61 = some t := by
  unfold wholeV at h
  rcases hr : patN g N 61 0 with _ | ⟨t1, j⟩
  · rw [hr] at h; simp at h
  · rw [hr] at h
    simp only at h
    split at h
    · rename_i hc
      simp at h
      subst h
      obtain ⟨rfl, hd⟩ := hc
      have h2 := patN_agree (n := 60) hS.out (by omega) (by omega) hr
      have h3 := patN_brk hS h0 hend h2
      unfold wholeV
      rw [h3]
      simp [hd]
    · simp at h

end
end Rx
end Go.Proofs.YtgdnlmaacnnfiaaGreatDoor

namespace Go.Proofs.YtgdnlmaacnnfiaaGreatDoor
open Go.RowKit
namespace Rx

/-- A text in brackets. -/
def brk (s : ByteArray) : ByteArray := (⟨#[40]⟩ ++ s) ++ ⟨#[41]⟩

theorem brk_size (s : ByteArray) : (brk s).size = s.size + 2 := by
  unfold brk
  rw [ByteArray.size_append, ByteArray.size_append]
  show 1 + s.size + 1 = _
  omega

theorem brk_data (s : ByteArray) : (brk s).data.toList = 40 :: (s.data.toList ++ [41]) := by
  unfold brk
  simp [ByteArray.data_append]

theorem gOf_list (s : ByteArray) (i : Nat) : gOf s i = (s.data.toList[i]?.map UInt8.toNat).getD 256 := by
  unfold gOf
  split
  · rename_i h
    have h' : i < s.data.toList.length := by simpa using h
    rw [List.getElem?_eq_getElem h']
    simp
    rfl
  · rename_i h
    have h' : s.data.toList.length ≤ i := by
      have : s.data.toList.length = s.size := by simp
      omega
    rw [List.getElem?_eq_none h']
    rfl

theorem brk_sh (s : ByteArray) : Sh (gOf s) (gOf (brk s)) s.size where
  mid := by
    intro i hi
    have h' : i < s.data.toList.length := by simpa using hi
    rw [gOf_list, gOf_list, brk_data, List.getElem?_cons_succ, List.getElem?_append_left h']
  shut := by
    have h' : s.data.toList.length = s.size := by simp
    rw [gOf_list, brk_data, List.getElem?_cons_succ, List.getElem?_append_right (by omega), h']
    simp
  out := fun i h => gOf_out h

theorem parse_brk {s : ByteArray} {t : Data} (hs : s.size ≤ 58) (h : parseV s = some t) : parseV (brk s) = some t := by
  unfold parseV at h ⊢
  rw [if_neg (by omega)] at h
  rw [brk_size, if_neg (by omega)]
  refine whole_brk (brk_sh s) ?_ ?_ hs h
  · rw [gOf_list, brk_data]; rfl
  · intro i hi
    exact gOf_out (by rw [brk_size]; omega)

theorem parse_empty : (parseV ⟨#[]⟩).isSome = true := by decide

theorem parse_right {s : ByteArray} {t : Data} (h : parseV s = some t) : RightD 12 t ∧ cnt t ≤ 1000 := by
  unfold parseV at h
  split at h
  · simp at h
  · refine ⟨whole_right (fun i => ?_) h, ?_⟩
    · rcases Nat.lt_or_ge i s.size with hi | hi
      · exact Nat.le_of_lt (gOf_lt hi)
      · rw [gOf_out hi]; exact Nat.le_refl _
    · have := whole_cnt (fun i h => gOf_out h) h
      omega

end Rx
end Go.Proofs.YtgdnlmaacnnfiaaGreatDoor

namespace Go.Proofs.YtgdnlmaacnnfiaaGreatDoor
open Go.RowKit Go.Extern
namespace Dr
set_option linter.unusedVariables false

/-- What the specification's RexParse answers. -/
def ParseOk : Prop := ∀ (s : ByteArray) (w : World), Calls Tryz.prog 67 #[.string s] w fun e w' => Rx.RexOut (Rx.parseV s) w e w'
/-- Some right Rex of its own. -/
def RightRet (B p : Nat) (w : World) (e : Ending) (w' : World) : Prop := ∃ t a b c d u, e = .returned (.agg #[a, b, c, d, u]) ∧ Rx.RightD 12 t ∧ Rx.cnt t ≤ 121 ∧ Rx.RexIs w' t (Rx.Iv w.heap.size w'.heap.size) [a, b, c, d, u] ∧ Only p w w' ∧ Cur B p w'

theorem only_set {B p b : Nat} {W w : World} (h : Only p W w) (hC : Cur B p w) (hb : W.heap.size ≤ b) (hp : p < W.heap.size) (j : Nat) (v : Value) : Only p W (w.setCell ⟨b, j, none⟩ v) ∧ Cur B p (w.setCell ⟨b, j, none⟩ v) := by
  have hB := hC.le
  refine ⟨?_, hC.frame (q := b) ((Only.refl b w).setCell j v) (by omega) (by omega)⟩
  have hs := (Below.refl b w).setCell (p := ⟨b, j, none⟩) (Nat.le_refl _) v
  exact ⟨hs.os.trans h.os, hs.tape.trans h.tape, hs.output.trans h.output, Nat.le_trans h.size hs.size, fun k hk hl => (Below.heap_setCell w ⟨b, j, none⟩ v k (show k ≠ b by omega)).trans (h.block k hk hl)⟩
/-- five cells written in a row -/
def set5 (w : World) (q : Nat) (a b c d u : Value) : World := ((((w.setCell ⟨q, 0, none⟩ a).setCell ⟨q, 1, none⟩ b).setCell ⟨q, 2, none⟩ c).setCell ⟨q, 3, none⟩ d).setCell ⟨q, 4, none⟩ u
theorem set5_only {B p q : Nat} {W w : World} (h : Only p W w) (hC : Cur B p w) (hb : W.heap.size ≤ q) (hp : p < W.heap.size) (a b c d u : Value) : Only p W (set5 w q a b c d u) ∧ Cur B p (set5 w q a b c d u) := by
  unfold set5
  obtain ⟨h1, c1⟩ := only_set h hC hb hp 0 a
  obtain ⟨h2, c2⟩ := only_set h1 c1 hb hp 1 b
  obtain ⟨h3, c3⟩ := only_set h2 c2 hb hp 2 c
  obtain ⟨h4, c4⟩ := only_set h3 c3 hb hp 3 d
  exact only_set h4 c4 hb hp 4 u
theorem set5_var {w : World} {q : Nat} {a b c d u a' b' c' d' u' : Value} (h : Rx.Var w q a b c d u) : Rx.Var (set5 w q a' b' c' d' u') q a' b' c' d' u' := ((((h.set0 a').set1 b').set2 c').set3 d').set4 u'
theorem set5_block (w : World) (q k : Nat) (hk : k ≠ q) (a b c d u : Value) : (set5 w q a b c d u).heap[k]? = w.heap[k]? := by
  unfold set5
  rw [Below.heap_setCell _ ⟨q, 4, none⟩ _ _ hk, Below.heap_setCell _ ⟨q, 3, none⟩ _ _ hk, Below.heap_setCell _ ⟨q, 2, none⟩ _ _ hk, Below.heap_setCell _ ⟨q, 1, none⟩ _ _ hk, Below.heap_setCell _ ⟨q, 0, none⟩ _ _ hk]
theorem set5_size (w : World) (q : Nat) (a b c d u : Value) : (set5 w q a b c d u).heap.size = w.heap.size := by simp [set5]

/-- A Rex and a flag come back; where the flag is set the Rex is right. -/
def ParseRet (w : World) (e : Ending) (w' : World) : Prop := ∃ T ok op cc ss no ao n cap, e = .returned (.tuple #[.agg #[.int .i64 op, .int .i64 cc, .string ss, .bool no, .slice ao n cap], .bool ok]) ∧ Below w.heap.size w w' ∧ Rx.RexIs w' T (Rx.Iv w.heap.size w'.heap.size) [.int .i64 op, .int .i64 cc, .string ss, .bool no, .slice ao n cap] ∧ (ok = true → Rx.RightD 12 T ∧ Rx.cnt T ≤ 121)
theorem parse_small {s : ByteArray} {t : Data} (h : Rx.parseV s = some t) : Rx.RightD 12 t ∧ Rx.cnt t ≤ 121 := by
  refine ⟨(Rx.parse_right h).1, ?_⟩
  unfold Rx.parseV at h
  split at h
  · simp at h
  · have := Rx.whole_cnt (fun i h => Rx.gOf_out h) h
    omega
theorem parse_ret {s : ByteArray} {w : World} {e : Ending} {w' : World} (h : Rx.RexOut (Rx.parseV s) w e w') : ParseRet w e w' := by
  rcases hr : Rx.parseV s with _ | t
  · rw [hr] at h
    obtain ⟨rfl, hb⟩ := h
    exact ⟨_, _, _, _, _, _, _, _, _, rfl, hb, Rx.rex_leaf _ _ 0 0 [] false, fun h => by simp at h⟩
  · rw [hr] at h
    obtain ⟨a, b, c, d, u, rfl, hb, hx⟩ := h
    obtain ⟨op, c', ss, no, a', n', cap', rfl, rfl, rfl, rfl, rfl⟩ := Rx.rex_cells hx
    exact ⟨t, true, _, _, _, _, _, _, _, rfl, hb, hx, fun _ => parse_small hr⟩

set_option maxHeartbeats 2000000 in
set_option maxRecDepth 100000 in
theorem drawRight (hP : ParseOk) (B p : Nat) (w : World) (hC : Cur B p w) :
    Calls Tryz.prog 36 #[.pointer (some ⟨p, 0, none⟩)] w fun e w' => RightRet B p w e w' := by
  have hlt := hC.lt
  have hne : w.heap.size ≠ p := by omega
  obtain ⟨W1, hW1⟩ : ∃ W1, W1 = w.alloc (.cells #[.int .i64 0, .int .i64 0, .string ⟨#[]⟩, .bool false, .slice none 0 0] 26) := ⟨_, rfl⟩
  have hV : Rx.Var W1 w.heap.size (.int .i64 0) (.int .i64 0) (.string ⟨#[]⟩) (.bool false) (.slice none 0 0) := by rw [hW1]; exact heap_alloc_last _ _
  have hO1 : Only p w W1 := by rw [hW1]; exact (Only.refl _ _).alloc _
  have hC1 : Cur B p W1 := by rw [hW1]; exact hC.alloc _
  have hz1 : W1.heap.size = w.heap.size + 1 := by rw [hW1]; simp
  go_enter Tryz.func36, Tryz.ntmps36
  go_wp2_with fail
  rw [← hW1]
  clear hW1 hC
  go_loopw [3] (fun i wr => ∃ k : Nat, i = .int .i64 k ∧ k ≤ 6 ∧ Only p W1 wr ∧ Cur B p wr) (fun i _ => 6 - (intOf i).toNat)
  case atStart => exact ⟨0, rfl, by omega, Only.refl _ _, hC1⟩
  case round =>
    obtain ⟨k, rfl, hk, ho, hCr⟩ := hrel
    have hkI : (k : Int) ≤ 6 := by omega
    have hVr := hV.kept (ho.block w.heap.size hne (by omega))
    have hzr := ho.size
    by_cases hk6 : k < 6
    · have hk6I : (k : Int) < 6 := by omega
      go_upto_region 5 with (first | (go_at_call 69; refine (drawText B p _ hCr).mono ?_; rintro e w2 ⟨s, rfl, hs, ho2, hC2⟩) | (go_at_call 68; refine (dent B p s hs _ hC2).mono ?_; rintro e w3 ⟨s3, rfl, hs3, ho3, hC3⟩; have call := (hP s3 w3).mono (fun _ _ h => parse_ret h)) | (go_at_call 67; refine call.mono ?_; rintro e w4 ⟨T, ok, op, cc, ss, no, ao, n, cap, rfl, hb4, hx4, hok⟩))
      have hz2 := ho2.size
      have hz3 := ho3.size
      have hz4 := hb4.size
      obtain ⟨w5, hw5⟩ : ∃ w5, w5 = w4.alloc (.cells #[.int .i64 op, .int .i64 cc, .string ss, .bool no, .slice ao n cap] 26) := ⟨_, rfl⟩
      have hz5 : w5.heap.size = w4.heap.size + 1 := by rw [hw5]; simp
      have hV5 : Rx.Var w5 w4.heap.size (.int .i64 op) (.int .i64 cc) (.string ss) (.bool no) (.slice ao n cap) := by rw [hw5]; exact heap_alloc_last _ _
      have hk5 : ∀ j, j < w4.heap.size → w5.heap[j]? = w4.heap[j]? := fun j hj => by rw [hw5]; exact Below.heap_alloc _ _ _ hj
      have hO5 : Only p W1 w5 := by rw [hw5]; exact (((ho.trans ho2).trans ho3).trans (only_below hb4)).alloc _
      have hC5 : Cur B p w5 := by rw [hw5]; exact (cur_grown hC3 hb4).alloc _
      have hVz : Rx.Var w5 w.heap.size (.int .i64 0) (.int .i64 0) (.string ⟨#[]⟩) (.bool false) (.slice none 0 0) := hV.kept (hO5.block w.heap.size hne (by omega))
      rw [← hw5]
      clear call hP
      cases ok with
      | false =>
        clear hVr hV5 hk5 hVz hok hw5
        go_wp2_with fail
        go_roundw
        case rel => exact ⟨k + 1, by go_num, by omega, hO5, hC5⟩
        case measure => simp [intOf]; omega
      | true =>
        obtain ⟨hT1, hT2⟩ := hok rfl
        obtain ⟨v0, v1, v2, v3, v4⟩ := hV5.cell
        obtain ⟨z0, z1, z2, z3, z4⟩ := hVz.cell
        have y0 := hVz.frozen 0
        have y1 := hVz.frozen 1
        have y2 := hVz.frozen 2
        have y3 := hVz.frozen 3
        have y4 := hVz.frozen 4
        have HR : Hid (RightRet B p w (.returned (.agg #[.int .i64 op, .int .i64 cc, .string ss, .bool no, .slice ao n cap])) (set5 w5 w.heap.size (.int .i64 op) (.int .i64 cc) (.string ss) (.bool no) (.slice ao n cap))) := by
          obtain ⟨h1, h2⟩ := set5_only (hO1.trans hO5) hC5 (Nat.le_refl _) hlt (.int .i64 op) (.int .i64 cc) (.string ss) (.bool no) (.slice ao n cap)
          refine ⟨T, _, _, _, _, _, rfl, hT1, hT2, ?_, h1, h2⟩
          refine Rx.rex_mono (Rx.rex_frame _ _ _ (fun j hj => ?_) hx4) (fun j hj => ⟨by have := hj.1; omega, by have := hj.2; rw [set5_size]; omega⟩)
          have j1 := hj.1
          rw [set5_block _ _ _ (by omega), hk5 j hj.2]
        have hVf := set5_var (a' := .int .i64 op) (b' := .int .i64 cc) (c' := .string ss) (d' := .bool no) (u' := .slice ao n cap) hVz
        obtain ⟨x0, x1, x2, x3, x4⟩ := hVf.cell
        unfold set5 at x0 x1 x2 x3 x4
        clear hVr hV5 hk5 hVz hok hw5 hVf hx4 hT1 hT2
        go_wp2_with fail
        refine bodyPost_ret (v := .agg #[.int .i64 op, .int .i64 cc, .string ss, .bool no, .slice ao n cap]) (by simp [results, Tryz.results36, x0, x1, x2, x3, x4, go_sem]) rfl ?_
        exact HR.out
    · obtain rfl : k = 6 := by omega
      obtain ⟨z0, z1, z2, z3, z4⟩ := hVr.cell
      have y0 := hVr.frozen 0
      have y1 := hVr.frozen 1
      have y2 := hVr.frozen 2
      have y3 := hVr.frozen 3
      have y4 := hVr.frozen 4
      have HR : Hid (RightRet B p w (.returned (.agg #[.int .i64 11, .int .i64 0, .string ⟨#[]⟩, .bool false, .slice none 0 0])) (set5 wr w.heap.size (.int .i64 11) (.int .i64 0) (.string ⟨#[]⟩) (.bool false) (.slice none 0 0))) := by
        obtain ⟨h1, h2⟩ := set5_only (hO1.trans ho) hCr (Nat.le_refl _) hlt (.int .i64 11) (.int .i64 0) (.string ⟨#[]⟩) (.bool false) (.slice none 0 0)
        exact ⟨Rx.leaf 11, _, _, _, _, _, rfl, .inr (.inl ⟨11, .inr (.inr (.inr rfl)), rfl⟩), by decide, Rx.rex_leaf _ _ 11 0 [] false, h1, h2⟩
      have hVf := set5_var (a' := .int .i64 11) (b' := .int .i64 0) (c' := .string ⟨#[]⟩) (d' := .bool false) (u' := .slice none 0 0) hVr
      obtain ⟨x0, x1, x2, x3, x4⟩ := hVf.cell
      unfold set5 at x0 x1 x2 x3 x4
      clear hVf hVr hP
      go_wp2_with fail
      refine bodyPost_ret (v := .agg #[.int .i64 11, .int .i64 0, .string ⟨#[]⟩, .bool false, .slice none 0 0]) (by simp [results, Tryz.results36, x0, x1, x2, x3, x4, go_sem]) rfl ?_
      exact HR.out

end Dr
end Go.Proofs.YtgdnlmaacnnfiaaGreatDoor

