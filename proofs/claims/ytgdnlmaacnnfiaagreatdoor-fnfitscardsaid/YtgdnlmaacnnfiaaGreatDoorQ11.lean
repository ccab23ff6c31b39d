/-
  The specification's l3Up, l3Right and RexOk at any Rex.
  Where a pattern fits: pieces of a text, by the pattern itself (chapter 5).
  Chapter 4's Closure as plain functions: what is reached from places by steps that take no byte.
-/
import Derived.Test.YtgdnlmaacnnfiaaGreatDoorQ08
import Derived.Test.YtgdnlmaacnnfiaaGreatDoorQ10
import Derived.Deep.QuietTactic
import Derived.BigQuiet
import Derived.Test.YtgdnlmaacnnfiaaGreatDoorQ06
import GoSem.ClaimData
namespace Go.Proofs.YtgdnlmaacnnfiaaGreatDoor
open Go.RowKit
namespace Rx

/-- A text whose bytes ascend. -/
def upB (s : ByteArray) : Bool := (List.range (s.size - 1)).all fun i => decide (gOf s i < gOf s (i + 1))
theorem upB_iff {s : ByteArray} : upB s = true ↔ ∀ i, i + 1 < s.size → gOf s i < gOf s (i + 1) := by
  unfold upB
  rw [List.all_eq_true]
  constructor
  · intro h i hi
    have := h i (by rw [List.mem_range]; omega)
    simpa using this
  · intro h i hi
    rw [List.mem_range] at hi
    simpa using h i (by omega)

set_option maxRecDepth 100000 in
theorem sUp (s : ByteArray) (hs : (s.size : Int) ≤ 1000) (w : World) : Calls Tryz.prog 81 #[.string s] w fun e w' => e = .returned (.bool (upB s)) ∧ Below w.heap.size w w' := by
  go_enter Tryz.func81, Tryz.ntmps81
  go_wp2_with fail
  go_loopw [3] (fun i wr => ∃ k : Nat, i = .int .i64 (k : Int) ∧ 1 ≤ k ∧ (k ≤ s.size ∨ k = 1) ∧ (∀ j, j + 1 < k → gOf s j < gOf s (j + 1)) ∧ Below w.heap.size w wr) (fun i _ => s.size + 1 - (intOf i).toNat)
  case atStart => exact ⟨1, rfl, by omega, .inr rfl, fun j hj => by omega, Below.refl _ _⟩
  case round =>
    obtain ⟨k, rfl, hk1, hk2, hno, hb⟩ := hrel
    by_cases hkl : k < s.size
    · obtain ⟨k0, rfl⟩ : ∃ k0, k = k0 + 1 := ⟨k - 1, by omega⟩
      obtain ⟨k1, hk1'⟩ : ∃ k1, k1 = k0 + 1 := ⟨_, rfl⟩
      have t1 : (k1 : Int) - 1 = (k0 : Int) := by omega
      have l0 : k0 < s.size := by omega
      have l1 : k1 < s.size := by omega
      have g0 := gOf_in l0
      have g1 := gOf_in l1
      have bk : (k1 : Int) < s.size := by omega
      have bk0 : (k0 : Int) < s.size := by omega
      rw [← hk1']
      have HK : Hid (k1 = k0 + 1) := hk1'
      by_cases hlt : gOf s k0 < gOf s k1
      · have e1 : ¬ ((s[k1].toNat : Int) ≤ s[k0].toNat) := by rw [← g0, ← g1]; omega
        have e2 : decide ((s[k1].toNat : Int) ≤ s[k0].toNat) = false := decide_eq_false e1
        have HNO : Hid (∀ j, j + 1 < k0 + 1 → gOf s j < gOf s (j + 1)) := hno
        have HL1 : Hid (k1 < s.size) := l1
        have HLT : Hid (gOf s k0 < gOf s k1) := hlt
        have b1 : (1 : Int) ≤ k1 := by omega
        have b2 : (k1 : Int) ≤ 1000 := by omega
        have hwk : IntKind.i64.wrap (k0 : Int) = k0 := by rw [IntKind.wrap_i64]; omega
        have e4 : ¬ s[k1].toNat ≤ s[k0].toNat := by omega
        have e3 : decide (s[k1].toNat ≤ s[k0].toNat) = false := decide_eq_false e4
        clear e1
        clear hk1' hno hk1 hk2 hkl hlt g0 g1
        go_wp2_with fail
        go_quiet (fail)
        go_wp2_with fail
        go_roundw
        case rel =>
          have hk := HK.out
          have hl1 := HL1.out
          refine ⟨k1 + 1, by go_num, by omega, .inl (by omega), fun j hj => ?_, ?_⟩
          · rcases Nat.lt_or_ge (j + 1) k1 with h | h
            · exact HNO.out j (by omega)
            · have : j = k0 := by omega
              subst this
              rw [← hk]
              exact HLT.out
          · first | exact hb | exact ⟨hb.os, hb.tape, hb.output, hb.size, hb.block⟩
        case measure =>
          have hl1 := HL1.out
          simp [intOf]
          omega
      · have e1 : ((s[k1].toNat : Int) ≤ s[k0].toNat) := by rw [← g0, ← g1]; omega
        have e2 : decide ((s[k1].toNat : Int) ≤ s[k0].toNat) = true := decide_eq_true e1
        have e3 : decide (s[k1].toNat ≤ s[k0].toNat) = true := decide_eq_true (by omega)
        have hwk : IntKind.i64.wrap (k0 : Int) = k0 := by rw [IntKind.wrap_i64]; omega
        have b2 : (k1 : Int) ≤ 1000 := by omega
        have H : Hid (upB s = false) := by
          show upB s = false
          rcases hu : upB s with _ | _
          · rfl
          · exact absurd (by rw [hk1']; exact upB_iff.1 hu k0 (by omega)) hlt
        clear hk1'
        go_wp2_with fail
        go_quiet (fail)
        go_wp2_with fail
        go_ret
        exact ⟨by rw [H.out]; rfl, by first | exact hb | exact ⟨hb.os, hb.tape, hb.output, hb.size, hb.block⟩⟩
    · have H : Hid (upB s = true) := upB_iff.2 fun i hi => hno i (by omega)
      have e1 : ¬ (k : Int) < s.size := by omega
      go_wp2_with fail
      go_ret
      exact ⟨by rw [H.out]; rfl, hb⟩

end Rx
end Go.Proofs.YtgdnlmaacnnfiaaGreatDoor

namespace Go.Proofs.YtgdnlmaacnnfiaaGreatDoor
namespace Rx

/-- On by R as often as it goes. -/
def Star (R : Nat → Nat → Prop) (i j : Nat) : Prop := ∀ P : Nat → Prop, P i → (∀ a b, P a → R a b → P b) → P j

theorem star_refl (R : Nat → Nat → Prop) (i : Nat) : Star R i i := fun _ h _ => h
theorem star_step {R : Nat → Nat → Prop} {i j k : Nat} (h : Star R i j) (hr : R j k) : Star R i k := fun P h1 h2 => h2 j k (h P h1 h2) hr
theorem star_trans {R : Nat → Nat → Prop} {i j k : Nat} (h : Star R i j) (h' : Star R j k) : Star R i k := fun P h1 h2 => h' P (h P h1 h2) h2
theorem star_head {R : Nat → Nat → Prop} {i j k : Nat} (hr : R i j) (h : Star R j k) : Star R i k := star_trans (star_step (star_refl R i) hr) h
theorem star_cases {R : Nat → Nat → Prop} {i j : Nat} (h : Star R i j) : i = j ∨ ∃ k, R i k ∧ Star R k j := by
  refine h (fun j => i = j ∨ ∃ k, R i k ∧ Star R k j) (.inl rfl) ?_
  intro a b ha hr
  rcases ha with rfl | ⟨k, h1, h2⟩
  · exact .inr ⟨b, hr, star_refl R b⟩
  · exact .inr ⟨k, h1, star_step h2 hr⟩

mutual
def Fit (g : Nat → Nat) (n : Nat) : Data → Nat → Nat → Prop
  | .slice ks lab, i, j => ∃ (op c : Nat) (s : List UInt8) (no : Bool), lab = [.lit (.int .i64 op), .lit (.int .i64 c), .lit (.string s), .lit (.bool no)] ∧
      ((op = 1 ∧ i < n ∧ j = i + 1 ∧ g i = c) ∨ (op = 2 ∧ i < n ∧ j = i + 1) ∨ (op = 3 ∧ i < n ∧ j = i + 1 ∧ ((∃ b, b ∈ s ∧ b.toNat = g i) ↔ no = false)) ∨
       (op = 4 ∧ i = 0 ∧ j = i) ∨ (op = 5 ∧ i = n ∧ j = i) ∨ (op = 6 ∧ FitCat g n ks i j) ∨ (op = 7 ∧ FitOr g n ks i j) ∨
       (op = 8 ∧ FitStar g n ks i j) ∨ (op = 9 ∧ FitPlus g n ks i j) ∨ (op = 10 ∧ (j = i ∨ FitOr g n ks i j)) ∨ (op = 11 ∧ j = i))
  | _, _, _ => False
def FitCat (g : Nat → Nat) (n : Nat) : List Data → Nat → Nat → Prop
  | [], i, j => j = i
  | t :: ts, i, j => ∃ k, Fit g n t i k ∧ FitCat g n ts k j
def FitOr (g : Nat → Nat) (n : Nat) : List Data → Nat → Nat → Prop
  | [], _, _ => False
  | t :: ts, i, j => Fit g n t i j ∨ FitOr g n ts i j
def FitStar (g : Nat → Nat) (n : Nat) : List Data → Nat → Nat → Prop
  | [], _, _ => False
  | t :: _, i, j => ∀ P : Nat → Prop, P i → (∀ a b, P a → Fit g n t a b → P b) → P j
def FitPlus (g : Nat → Nat) (n : Nat) : List Data → Nat → Nat → Prop
  | [], _, _ => False
  | t :: _, i, j => ∃ k, Fit g n t i k ∧ ∀ P : Nat → Prop, P k → (∀ a b, P a → Fit g n t a b → P b) → P j
end

section
variable {g : Nat → Nat} {n : Nat}

theorem fit_nd {op c : Nat} {s : List UInt8} {no : Bool} {ks : List Data} {i j : Nat} : Fit g n (nd op c s no ks) i j ↔
    ((op = 1 ∧ i < n ∧ j = i + 1 ∧ g i = c) ∨ (op = 2 ∧ i < n ∧ j = i + 1) ∨ (op = 3 ∧ i < n ∧ j = i + 1 ∧ ((∃ b, b ∈ s ∧ b.toNat = g i) ↔ no = false)) ∨
       (op = 4 ∧ i = 0 ∧ j = i) ∨ (op = 5 ∧ i = n ∧ j = i) ∨ (op = 6 ∧ FitCat g n ks i j) ∨ (op = 7 ∧ FitOr g n ks i j) ∨
       (op = 8 ∧ FitStar g n ks i j) ∨ (op = 9 ∧ FitPlus g n ks i j) ∨ (op = 10 ∧ (j = i ∨ FitOr g n ks i j)) ∨ (op = 11 ∧ j = i)) := by
  unfold nd
  rw [Fit]
  constructor
  · rintro ⟨op', c', s', no', hl, h⟩
    have := nd_inj (show nd op c s no [] = nd op' c' s' no' [] by unfold nd; rw [hl])
    obtain ⟨rfl, rfl, rfl, rfl, _⟩ := this
    exact h
  · intro h
    exact ⟨op, c, s, no, rfl, h⟩

theorem fit_chr {b i j : Nat} : Fit g n (chr b) i j ↔ i < n ∧ j = i + 1 ∧ g i = b := by unfold chr; rw [fit_nd]; simp
theorem fit_any {i j : Nat} : Fit g n (leaf 2) i j ↔ i < n ∧ j = i + 1 := by unfold leaf; rw [fit_nd]; simp
theorem fit_start {i j : Nat} : Fit g n (leaf 4) i j ↔ i = 0 ∧ j = i := by unfold leaf; rw [fit_nd]; simp
theorem fit_end {i j : Nat} : Fit g n (leaf 5) i j ↔ i = n ∧ j = i := by unfold leaf; rw [fit_nd]; simp
theorem fit_none {i j : Nat} : Fit g n (leaf 11) i j ↔ j = i := by unfold leaf; rw [fit_nd]; simp
theorem fit_set {M : Nat → Bool} {no : Bool} {i j : Nat} : Fit g n (setOf M no) i j ↔ i < n ∧ j = i + 1 ∧ ((∃ b, b ∈ bytesOf M ∧ b.toNat = g i) ↔ no = false) := by unfold setOf; rw [fit_nd]; simp
theorem fit_cat {ks : List Data} {i j : Nat} : Fit g n (nd 6 0 [] false ks) i j ↔ FitCat g n ks i j := by rw [fit_nd]; simp
theorem fit_or {ks : List Data} {i j : Nat} : Fit g n (nd 7 0 [] false ks) i j ↔ FitOr g n ks i j := by rw [fit_nd]; simp
theorem fit_star {t : Data} {i j : Nat} : Fit g n (one 8 t) i j ↔ Star (Fit g n t) i j := by unfold one; rw [fit_nd]; simp [FitStar, Star]
theorem fit_plus {t : Data} {i j : Nat} : Fit g n (one 9 t) i j ↔ ∃ k, Fit g n t i k ∧ Star (Fit g n t) k j := by unfold one; rw [fit_nd]; simp [FitPlus, Star]
theorem fit_may {t : Data} {i j : Nat} : Fit g n (one 10 t) i j ↔ j = i ∨ Fit g n t i j := by unfold one; rw [fit_nd]; simp [FitOr]

theorem fitOr_mem : ∀ {ks : List Data} {i j : Nat}, FitOr g n ks i j ↔ ∃ t, t ∈ ks ∧ Fit g n t i j
  | [], i, j => by simp [FitOr]
  | t :: ts, i, j => by
    rw [FitOr, fitOr_mem (ks := ts)]
    simp

theorem fitCat_take : ∀ {ks : List Data} {i j : Nat} {t : Data}, FitCat g n (ks ++ [t]) i j ↔ ∃ k, FitCat g n ks i k ∧ Fit g n t k j
  | [], i, j, t => by simp [FitCat]
  | t' :: ts, i, j, t => by
    simp only [List.cons_append, FitCat]
    constructor
    · rintro ⟨k, h1, h2⟩
      obtain ⟨m, h3, h4⟩ := fitCat_take.1 h2
      exact ⟨m, ⟨k, h1, h3⟩, h4⟩
    · rintro ⟨m, ⟨k, h1, h3⟩, h4⟩
      exact ⟨k, h1, fitCat_take.2 ⟨m, h3, h4⟩⟩

/-- A piece ends within the text. -/
theorem fit_le : ∀ (d : Nat) (t : Data), RightD d t → ∀ i j, Fit g n t i j → i ≤ n → j ≤ n := by
  intro d
  induction d with
  | zero => intro t h; exact h.elim
  | succ d ih =>
    intro t h i j hf hi
    rw [RightD] at h
    rcases h with ⟨b, hb, rfl⟩ | ⟨op, ho, rfl⟩ | ⟨M, no, hM, rfl⟩ | ⟨op, k, ho, rfl, hk⟩ | ⟨op, ks, ho, rfl, hl, hk⟩
    · have := fit_chr.1 hf; omega
    · rcases ho with rfl | rfl | rfl | rfl
      · have := fit_any.1 hf; omega
      · have := fit_start.1 hf; omega
      · have := fit_end.1 hf; omega
      · have := fit_none.1 hf; omega
    · have := fit_set.1 hf; omega
    · have st : ∀ a b, a ≤ n → Star (Fit g n k) a b → b ≤ n := fun a b ha hs => hs (fun x => x ≤ n) ha fun x y hx hy => ih k hk x y hy hx
      rcases ho with rfl | rfl | rfl
      · exact st i j hi (fit_star.1 hf)
      · obtain ⟨m, h1, h2⟩ := fit_plus.1 hf
        exact st m j (ih k hk i m h1 hi) h2
      · rcases fit_may.1 hf with rfl | h1
        · exact hi
        · exact ih k hk i j h1 hi
    · rcases ho with rfl | rfl
      · have : ∀ (ks : List Data), (∀ k ∈ ks, RightD d k) → ∀ i j, i ≤ n → FitCat g n ks i j → j ≤ n := by
          intro ks
          induction ks with
          | nil => intro _ i j hi h; simp [FitCat] at h; omega
          | cons t ts ih2 =>
            intro hk i j hi h
            rw [FitCat] at h
            obtain ⟨m, h1, h2⟩ := h
            exact ih2 (fun k hm => hk k (by simp [hm])) m j (ih t (hk t (by simp)) i m h1 hi) h2
        exact this ks hk i j hi (fit_cat.1 hf)
      · obtain ⟨t, hm, h1⟩ := fitOr_mem.1 (fit_or.1 hf)
        exact ih t (hk t hm) i j h1 hi

end

/-- A byte of a set. -/
theorem mem_bytesM {M : Nat → Bool} {b : Nat} (hb : b < 256) : (∃ x, x ∈ bytesOf M ∧ x.toNat = b) ↔ M b = true := by
  unfold bytesOf
  constructor
  · rintro ⟨x, hx, rfl⟩
    rw [List.mem_map] at hx
    obtain ⟨y, hy, rfl⟩ := hx
    rw [List.mem_filter, List.mem_range] at hy
    have : (UInt8.ofNat y).toNat = y := by rw [UInt8.toNat_ofNat']; omega
    rw [this]
    exact hy.2
  · intro h
    refine ⟨UInt8.ofNat b, List.mem_map.2 ⟨b, by rw [List.mem_filter, List.mem_range]; exact ⟨hb, h⟩, rfl⟩, ?_⟩
    rw [UInt8.toNat_ofNat']
    omega

/-- The flags of the ends. -/
noncomputable def endsB (g : Nat → Nat) (n : Nat) (t : Data) (i : Nat) : Nat → Bool := fun j => @decide (Fit g n t i j) (Classical.propDecidable _)
theorem endsB_iff {g : Nat → Nat} {n : Nat} {t : Data} {i j : Nat} : endsB g n t i j = true ↔ Fit g n t i j := by
  unfold endsB
  exact @decide_eq_true_iff _ (Classical.propDecidable _)

end Rx
end Go.Proofs.YtgdnlmaacnnfiaaGreatDoor

namespace Go.Proofs.YtgdnlmaacnnfiaaGreatDoor
namespace Clo

/-- Whether a number is a place of so many. -/
def inN (n : Nat) (x : Int) : Prop := 0 ≤ x ∧ x < n
def inB (n : Nat) (x : Int) : Bool := decide (0 ≤ x) && decide (x < n)
theorem inB_iff {n : Nat} {x : Int} : inB n x = true ↔ inN n x := by simp [inB, inN]

/-- What is reached: it is in all that has the beginnings and goes on. -/
def Reach (n : Nat) (sc : Nat → List Int) (ats : List Int) (k : Nat) : Prop :=
  ∀ P : Nat → Prop, (∀ x ∈ ats, inN n x → P x.toNat) → (∀ k, k < n → P k → ∀ x ∈ sc k, inN n x → P x.toNat) → P k

theorem reach_at {n : Nat} {sc : Nat → List Int} {ats : List Int} {x : Int} (h : x ∈ ats) (hx : inN n x) : Reach n sc ats x.toNat := fun _ h1 _ => h1 x h hx
theorem reach_step {n : Nat} {sc : Nat → List Int} {ats : List Int} {k : Nat} {x : Int} (hk : k < n) (h : Reach n sc ats k) (hm : x ∈ sc k) (hx : inN n x) : Reach n sc ats x.toNat := fun P h1 h2 => h2 k hk (h P h1 h2) x hm hx

/-- The marks that tell what is reached. -/
def IsClos (n : Nat) (sc : Nat → List Int) (ats : List Int) (M : Nat → Bool) : Prop := ∀ k, k < n → (M k = true ↔ Reach n sc ats k)

theorem clos_same {n : Nat} {sc : Nat → List Int} {ats : List Int} {M M' : Nat → Bool} (h : IsClos n sc ats M) (h' : IsClos n sc ats M') {k : Nat} (hk : k < n) : M k = M' k := by
  have h1 := (h k hk).trans (h' k hk).symm
  cases e : M k <;> cases e' : M' k <;> simp_all

/-- The places that are marked, in order. -/
def listV (M : Nat → Bool) (n : Nat) : List Nat := (List.range n).filter M

theorem list_same {n : Nat} {M M' : Nat → Bool} (h : ∀ k, k < n → M k = M' k) : listV M n = listV M' n := by
  unfold listV
  refine List.filter_congr fun k hk => h k (List.mem_range.1 hk)

theorem listV_succ (M : Nat → Bool) (n : Nat) : listV M (n + 1) = if M n = true then listV M n ++ [n] else listV M n := by
  unfold listV
  rw [List.range_succ, List.filter_append]
  by_cases h : M n = true <;> simp [h]

theorem listV_len (M : Nat → Bool) (n : Nat) : (listV M n).length ≤ n := by
  have := List.length_filter_le M (List.range n)
  simpa [listV] using this

def mark (M : Nat → Bool) (k : Nat) : Nat → Bool := fun b => M b || decide (b = k)

theorem mark_self (M : Nat → Bool) (k : Nat) : mark M k k = true := by simp [mark]
theorem mark_old {M : Nat → Bool} {k b : Nat} (h : M b = true) : mark M k b = true := by simp [mark, h]
theorem mark_or {M : Nat → Bool} {k b : Nat} (h : mark M k b = true) : M b = true ∨ b = k := by simpa [mark] using h

/-- How many are not marked. -/
def open' (M : Nat → Bool) (n : Nat) : Nat := ((List.range n).filter fun k => !M k).length

theorem filter_mark (M : Nat → Bool) (k : Nat) : ∀ l : List Nat, l.Nodup → k ∈ l → M k = false → (l.filter fun b => !(mark M k b)).length + 1 = (l.filter fun b => !M b).length
  | [], _, h, _ => by simp at h
  | a :: l, hn, h, hk => by
    rw [List.nodup_cons] at hn
    by_cases e : a = k
    · subst e
      have h1 : l.filter (fun b => !(mark M a b)) = l.filter fun b => !M b := List.filter_congr fun b hb => by
        have : b ≠ a := fun e => hn.1 (e ▸ hb)
        simp [mark, this]
      simp [mark_self, hk, h1]
    · have h2 : k ∈ l := by
        rcases List.mem_cons.1 h with h | h
        · exact absurd h.symm e
        · exact h
      have h3 := filter_mark M k l hn.2 h2 hk
      have h4 : mark M k a = M a := by simp [mark, e]
      cases e2 : M a
      · simp [h4, e2]; omega
      · simp [h4, e2]; omega

theorem open_mark {M : Nat → Bool} {k n : Nat} (hk : k < n) (h : M k = false) : open' (mark M k) n + 1 = open' M n :=
  filter_mark M k _ List.nodup_range (List.mem_range.2 hk) h

theorem open_le (M : Nat → Bool) (n : Nat) : open' M n ≤ n := by
  have := List.length_filter_le (fun k => !M k) (List.range n)
  simpa [open'] using this

/-- Going on through a list of ways, one behind the other. -/
structure Goes (n : Nat) (sc : Nat → List Int) (ats ways : List Int) (i : Nat) (M : Nat → Bool) : Prop where
  sound : ∀ k, k < n → M k = true → Reach n sc ats k
  way : ∀ x ∈ ways, inN n x → Reach n sc ats x.toNat
  on : ∀ k, k < n → M k = true → ∀ x ∈ sc k, x ∈ ways
  did : ∀ j x, j < i → ways[j]? = some x → inN n x → M x.toNat = true
  all : ∀ x ∈ ats, x ∈ ways

theorem goes_start (n : Nat) (sc : Nat → List Int) (ats : List Int) : Goes n sc ats ats 0 (fun _ => false) :=
  ⟨fun _ _ h => by simp at h, fun x hx h => reach_at hx h, fun _ _ h => by simp at h, fun j x hj => by omega, fun x h => h⟩

theorem Goes.skip {n : Nat} {sc : Nat → List Int} {ats ways : List Int} {i : Nat} {M : Nat → Bool} (h : Goes n sc ats ways i M) {x : Int} (hx : ways[i]? = some x) (hs : ¬ inN n x ∨ M x.toNat = true) : Goes n sc ats ways (i + 1) M := by
  refine ⟨h.sound, h.way, h.on, fun j y hj hy hin => ?_, h.all⟩
  by_cases e : j = i
  · subst e
    rw [hx] at hy
    cases hy
    exact hs.resolve_left fun h => h hin
  · exact h.did j y (by omega) hy hin

theorem Goes.step {n : Nat} {sc : Nat → List Int} {ats ways : List Int} {i : Nat} {M : Nat → Bool} (h : Goes n sc ats ways i M) {x : Int} (hx : ways[i]? = some x) (hin : inN n x) : Goes n sc ats (ways ++ sc x.toNat) (i + 1) (mark M x.toNat) := by
  have hk : x.toNat < n := by have h1 := hin.1; have h2 := hin.2; omega
  have hr : Reach n sc ats x.toNat := h.way x (List.mem_of_getElem? hx) hin
  refine ⟨fun k hk h1 => ?_, fun y hy hyn => ?_, fun k hkn h1 y hy => ?_, fun j y hj hy hyn => ?_, fun y hy => List.mem_append.2 (.inl (h.all y hy))⟩
  · rcases mark_or h1 with h1 | rfl
    · exact h.sound k hk h1
    · exact hr
  · rcases List.mem_append.1 hy with hy | hy
    · exact h.way y hy hyn
    · exact reach_step hk hr hy hyn
  · rcases mark_or h1 with h1 | rfl
    · exact List.mem_append.2 (.inl (h.on k hkn h1 y hy))
    · exact List.mem_append.2 (.inr hy)
  · have hl : i < ways.length := (List.getElem?_eq_some_iff.1 hx).1
    rw [List.getElem?_append_left (by omega)] at hy
    by_cases e : j = i
    · subst e
      rw [hx] at hy
      cases hy
      exact mark_self _ _
    · exact mark_old (h.did j y (by omega) hy hyn)

theorem Goes.done {n : Nat} {sc : Nat → List Int} {ats ways : List Int} {i : Nat} {M : Nat → Bool} (h : Goes n sc ats ways i M) (hi : ways.length ≤ i) : IsClos n sc ats M := by
  have hd : ∀ x ∈ ways, inN n x → M x.toNat = true := by
    intro x hx hin
    obtain ⟨j, hj⟩ := List.getElem?_of_mem hx
    exact h.did j x (by have := (List.getElem?_eq_some_iff.1 hj).1; omega) hj hin
  intro k hk
  refine ⟨h.sound k hk, fun hr => ?_⟩
  exact hr (fun k => M k = true) (fun x hx hin => hd x (h.all x hx) hin) (fun k hk hm x hx hin => hd x (h.on k hk hm x hx) hin)

/-- Going on from a pile of what is to do; of the beginnings those below j were put there. -/
structure Piles (n : Nat) (sc : Nat → List Int) (ats todo : List Int) (j : Nat) (M : Nat → Bool) : Prop where
  sound : ∀ k, k < n → M k = true → Reach n sc ats k
  way : ∀ x ∈ todo, inN n x → Reach n sc ats x.toNat
  on : ∀ k, k < n → M k = true → ∀ x ∈ sc k, inN n x → M x.toNat = true ∨ x ∈ todo
  did : ∀ i x, i < j → ats[i]? = some x → inN n x → M x.toNat = true ∨ x ∈ todo

theorem piles_start (n : Nat) (sc : Nat → List Int) (ats : List Int) : Piles n sc ats [] 0 (fun _ => false) :=
  ⟨fun _ _ h => by simp at h, fun _ h => by simp at h, fun _ _ h => by simp at h, fun i x hi => by omega⟩

theorem Piles.push {n : Nat} {sc : Nat → List Int} {ats : List Int} {j : Nat} {M : Nat → Bool} (h : Piles n sc ats [] j M) {x : Int} (hx : ats[j]? = some x) : Piles n sc ats [x] (j + 1) M := by
  refine ⟨h.sound, fun y hy hin => ?_, fun k hk h1 y hy hin => .inl ((h.on k hk h1 y hy hin).resolve_right (by simp)), fun i y hi hy hin => ?_⟩
  · obtain rfl : y = x := by simpa using hy
    exact reach_at (List.mem_of_getElem? hx) hin
  · by_cases e : i = j
    · subst e
      rw [hx] at hy
      cases hy
      exact .inr (by simp)
    · exact .inl ((h.did i y (by omega) hy hin).resolve_right (by simp))

theorem Piles.skip {n : Nat} {sc : Nat → List Int} {ats todo : List Int} {j : Nat} {M : Nat → Bool} {x : Int} (h : Piles n sc ats (todo ++ [x]) j M) (hs : ¬ inN n x ∨ M x.toNat = true) : Piles n sc ats todo j M := by
  have key : ∀ y, inN n y → M y.toNat = true ∨ y ∈ todo ++ [x] → M y.toNat = true ∨ y ∈ todo := by
    intro y hin hy
    rcases hy with hy | hy
    · exact .inl hy
    · rcases List.mem_append.1 hy with hy | hy
      · exact .inr hy
      · obtain rfl : y = x := by simpa using hy
        exact .inl (hs.resolve_left fun h => h hin)
  exact ⟨h.sound, fun y hy hin => h.way y (List.mem_append.2 (.inl hy)) hin, fun k hk h1 y hy hin => key y hin (h.on k hk h1 y hy hin), fun i y hi hy hin => key y hin (h.did i y hi hy hin)⟩

theorem Piles.step {n : Nat} {sc : Nat → List Int} {ats todo : List Int} {j : Nat} {M : Nat → Bool} {x : Int} (h : Piles n sc ats (todo ++ [x]) j M) (hin : inN n x) : Piles n sc ats (todo ++ sc x.toNat) j (mark M x.toNat) := by
  have hk : x.toNat < n := by have h1 := hin.1; have h2 := hin.2; omega
  have hr : Reach n sc ats x.toNat := h.way x (by simp) hin
  have key : ∀ y, M y.toNat = true ∨ y ∈ todo ++ [x] → mark M x.toNat y.toNat = true ∨ y ∈ todo ++ sc x.toNat := by
    intro y hy
    rcases hy with hy | hy
    · exact .inl (mark_old hy)
    · rcases List.mem_append.1 hy with hy | hy
      · exact .inr (List.mem_append.2 (.inl hy))
      · obtain rfl : y = x := by simpa using hy
        exact .inl (mark_self _ _)
  refine ⟨fun k hk h1 => ?_, fun y hy hyn => ?_, fun k hkn h1 y hy hyn => ?_, fun i y hi hy hyn => key y (h.did i y hi hy hyn)⟩
  · rcases mark_or h1 with h1 | rfl
    · exact h.sound k hk h1
    · exact hr
  · rcases List.mem_append.1 hy with hy | hy
    · exact h.way y (List.mem_append.2 (.inl hy)) hyn
    · exact reach_step hk hr hy hyn
  · rcases mark_or h1 with h1 | rfl
    · exact key y (h.on k hkn h1 y hy hyn)
    · exact .inr (List.mem_append.2 (.inr hy))

theorem Piles.done {n : Nat} {sc : Nat → List Int} {ats : List Int} {j : Nat} {M : Nat → Bool} (h : Piles n sc ats [] j M) (hj : ats.length ≤ j) : IsClos n sc ats M := by
  intro k hk
  refine ⟨h.sound k hk, fun hr => ?_⟩
  refine hr (fun k => M k = true) (fun x hx hin => ?_) (fun k hk hm x hx hin => (h.on k hk hm x hx hin).resolve_right (by simp))
  obtain ⟨i, hi⟩ := List.getElem?_of_mem hx
  exact (h.did i x (by have := (List.getElem?_eq_some_iff.1 hi).1; omega) hi hin).resolve_right (by simp)

/-- Where it goes on from a place of this op, without a byte. -/
def nextV (op a b : Int) (k : Nat) (begin fin : Bool) : List Int :=
  if op = 6 then [a] else if op = 7 then [a, b] else if op = 4 ∧ begin = true then [(k : Int) + 1] else if op = 5 ∧ fin = true then [(k : Int) + 1] else []

theorem nextV_len (op a b : Int) (k : Nat) (begin fin : Bool) : (nextV op a b k begin fin).length ≤ 2 := by
  unfold nextV
  split
  · simp
  · split
    · simp
    · split
      · simp
      · split <;> simp

end Clo
end Go.Proofs.YtgdnlmaacnnfiaaGreatDoor

