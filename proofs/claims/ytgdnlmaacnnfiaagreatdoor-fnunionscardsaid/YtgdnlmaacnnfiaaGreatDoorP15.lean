/-
  The specification's l3Deep.
  The specification's l3Up, l3Right and RexOk at any Rex.
  Where a pattern fits: pieces of a text, by the pattern itself (chapter 5).
-/
import Derived.Test.YtgdnlmaacnnfiaaGreatDoorP08
import Derived.Test.YtgdnlmaacnnfiaaGreatDoorP12
import Derived.Deep.QuietTactic
import Derived.BigQuiet
import Derived.Test.YtgdnlmaacnnfiaaGreatDoorP09
namespace Go.Proofs.YtgdnlmaacnnfiaaGreatDoor
open Go.RowKit
namespace Rx

theorem sMax (a b : Nat) (w : World) : Calls Tryz.prog 80 #[.int .i64 a, .int .i64 b] w fun e w' => e = .returned (.int .i64 (max a b : Nat)) ∧ w' = w := by
  by_cases h : b < a
  · have h' : (b : Int) < a := by omega
    have HM : Hid (max a b = a) := by show _ = _; omega
    go_enter Tryz.func80, Tryz.ntmps80
    go_wp2_with fail
    go_ret
    exact ⟨by rw [HM.out]; rfl, rfl⟩
  · have h' : (a : Int) ≤ b := by omega
    have HM : Hid (max a b = b) := by show _ = _; omega
    clear h
    go_enter Tryz.func80, Tryz.ntmps80
    go_wp2_with fail
    go_ret
    exact ⟨by rw [HM.out]; rfl, rfl⟩

def DeepOk (t : Data) : Prop := ∀ (w : World) (S : Nat → Prop) (a b c d u : Value), RexIs w t S [a, b, c, d, u] → (∀ k, S k → k < w.heap.size) →
  Calls Tryz.prog 56 #[.agg #[a, b, c, d, u]] w fun e w' => e = .returned (.int .i64 (dep t)) ∧ Below w.heap.size w w'

theorem sDeep : ∀ (n : Nat) (t : Data), dep t ≤ n → cnt t ≤ 100000 → DeepOk t := by
  intro n
  induction n with
  | zero => intro t hd _ w S a b c d u h; obtain ⟨op, c, s, no, ks, rfl⟩ := rex_node h; rw [dep_nd] at hd; omega
  | succ n ih =>
    intro t hd hc w S a b c d u h hS
    obtain ⟨op, cc, s, no, ks, rfl⟩ := rex_node h
    rw [dep_nd] at hd ⊢
    rw [cnt_nd] at hc
    rw [rex_nd] at h
    obtain ⟨v, xs, he, ho, hg, hx⟩ := h
    simp at he
    obtain ⟨rfl, rfl, rfl, rfl, rfl⟩ := he
    have hlen := cnts_len ks
    have hnI : (ks.length : Int) ≤ 100000 := by omega
    have hdc : deps ks ≤ 100000 := by have := dep_cnt (nd op cc s no ks); rw [dep_nd, cnt_nd] at this; omega
    have HD : Hid (deps (ks.take ks.length) = deps ks) := by show _ = _; rw [List.take_length]
    have HI := fun i => deps_le ks i
    have hkids : ∀ t ∈ ks, DeepOk t := fun t ht => ih t (by have := deps_mem ht; omega) (by have := cnts_mem ht; omega)
    obtain ⟨ao, cap, rfl⟩ := owns_slice ho
    obtain ⟨o1, ho1⟩ : ∃ o1, o1 = Obj.cells #[.int .i64 op, .int .i64 cc, .string ⟨s.toArray⟩, .bool no, .slice ao ks.length cap] 26 := ⟨_, rfl⟩
    have hb0 : Below w.heap.size w (w.alloc o1) := (Below.refl _ w).alloc (Nat.le_refl _) _
    have hv0 : Var (w.alloc o1) w.heap.size (.int .i64 op) (.int .i64 cc) (.string ⟨s.toArray⟩) (.bool no) (.slice ao ks.length cap) := by rw [ho1]; exact heap_alloc_last _ _
    subst ho1
    clear ih
    go_enter Tryz.func56, Tryz.ntmps56
    go_wp2_with fail
    go_loopw [3, 4] (fun mo i wr => ∃ k : Nat, k ≤ ks.length ∧ i = .int .i64 k ∧ mo = .int .i64 (deps (ks.take k)) ∧ Below w.heap.size w wr ∧ Var wr w.heap.size (.int .i64 op) (.int .i64 cc) (.string ⟨s.toArray⟩) (.bool no) (.slice ao ks.length cap)) (fun _ i _ => ks.length - (intOf i).toNat)
    case atStart => exact ⟨0, Nat.zero_le _, rfl, rfl, hb0, hv0⟩
    case round =>
      obtain ⟨k, hkn, rfl, rfl, hb, hV⟩ := hrel
      have v4 := hV.cell.2.2.2.2
      by_cases hkl : k < ks.length
      · have hki : ks[k]? = some ks[k] := List.getElem?_eq_getElem hkl
        obtain ⟨T1, a, b, c, d, u, x0, x1, x2, x3, x4, hr1, hs1⟩ := rexs_at hx hki
        obtain ⟨g, rfl, hg', hc'⟩ := row_cells ho hkl
        have cl : ∀ j x, xs[j]? = some x → wr.cell? ⟨g, j, none⟩ = some x := fun j x hx => (hb.cell (p := ⟨g, j, none⟩) hg').trans (hc' j x hx)
        have p0 := cl _ _ x0
        have p1 := cl _ _ x1
        have p2 := cl _ _ x2
        have p3 := cl _ _ x3
        have p4 := cl _ _ x4
        have call := hkids ks[k] (List.getElem_mem hkl) wr T1 a b c d u (rex_frame _ _ _ (fun j hj => hb.block j (hS j (hs1 j hj).1)) hr1) (fun j hj => Nat.lt_of_lt_of_le (hS j (hs1 j hj).1) hb.size)
        have hm : ks[k] ∈ ks := List.getElem_mem hkl
        have d1 := deps_mem hm
        have HT2 : Hid (deps (ks.take (k + 1)) = max (deps (ks.take k)) (dep ks[k])) := deps_take ks k ks[k] hki
        have hi1 := HI k
        have hd1 : (dep ks[k] : Int) ≤ 100000 := by omega
        have hi2 : (deps (ks.take k) : Int) ≤ 100000 := by omega
        have hlt := hV.lt
        clear x0 x1 x2 x3 x4 hc' cl hr1 hs1 hx ho hki hkids hm d1 HI hi1 HD hdc hd hc
        generalize dep ks[k] = D at *
        generalize deps (ks.take k) = M at *
        go_wp2_with (first | (go_at_call 56; refine call.mono ?_; rintro e w2 ⟨rfl, hb2⟩) | (go_at_call 80; refine (sMax M D _).mono ?_; rintro e w3 ⟨rfl, hw⟩; have hw := hw.symm; subst hw))
        go_roundw
        case rel => exact ⟨k + 1, by omega, by go_num, by rw [HT2.out], hb.trans (hb2.mono hb.size), hV.kept (hb2.block _ hlt)⟩
        case measure => simp [intOf]; omega
      · obtain rfl : k = ks.length := by omega
        have hi2 := HI ks.length
        have hi3 : (deps (ks.take ks.length) : Int) ≤ 100000 := by omega
        clear HI hi2 hx ho hkids
        go_wp2_with fail
        go_ret
        exact ⟨by rw [← HD.out]; rfl, hb⟩

end Rx
end Go.Proofs.YtgdnlmaacnnfiaaGreatDoor

namespace Go.Proofs.YtgdnlmaacnnfiaaGreatDoor
open Go.RowKit
namespace Rx

/-- A text whose bytes ascend. -/
def upB (s : ByteArray) : Bool := (List.range (s.size - 1)).all fun i => decide (gOf s i < gOf s (i + 1))
theorem upB_iff {s : ByteArray} : upB s = true ↔ ∀ i, i + 1 < s.size → gOf s i < gOf s (i + 1) := by
  unfold upB
  rw [List.all_eq_true]
  constructor
  · intro h i hi
    have := h i (by rw [List.mem_range]; omega)
    simpa using this
  · intro h i hi
    rw [List.mem_range] at hi
    simpa using h i (by omega)

set_option maxRecDepth 100000 in
theorem sUp (s : ByteArray) (hs : (s.size : Int) ≤ 1000) (w : World) : Calls Tryz.prog 81 #[.string s] w fun e w' => e = .returned (.bool (upB s)) ∧ Below w.heap.size w w' := by
  go_enter Tryz.func81, Tryz.ntmps81
  go_wp2_with fail
  go_loopw [3] (fun i wr => ∃ k : Nat, i = .int .i64 (k : Int) ∧ 1 ≤ k ∧ (k ≤ s.size ∨ k = 1) ∧ (∀ j, j + 1 < k → gOf s j < gOf s (j + 1)) ∧ Below w.heap.size w wr) (fun i _ => s.size + 1 - (intOf i).toNat)
  case atStart => exact ⟨1, rfl, by omega, .inr rfl, fun j hj => by omega, Below.refl _ _⟩
  case round =>
    obtain ⟨k, rfl, hk1, hk2, hno, hb⟩ := hrel
    by_cases hkl : k < s.size
    · obtain ⟨k0, rfl⟩ : ∃ k0, k = k0 + 1 := ⟨k - 1, by omega⟩
      obtain ⟨k1, hk1'⟩ : ∃ k1, k1 = k0 + 1 := ⟨_, rfl⟩
      have t1 : (k1 : Int) - 1 = (k0 : Int) := by omega
      have l0 : k0 < s.size := by omega
      have l1 : k1 < s.size := by omega
      have g0 := gOf_in l0
      have g1 := gOf_in l1
      have bk : (k1 : Int) < s.size := by omega
      have bk0 : (k0 : Int) < s.size := by omega
      rw [← hk1']
      have HK : Hid (k1 = k0 + 1) := hk1'
      by_cases hlt : gOf s k0 < gOf s k1
      · have e1 : ¬ ((s[k1].toNat : Int) ≤ s[k0].toNat) := by rw [← g0, ← g1]; omega
        have e2 : decide ((s[k1].toNat : Int) ≤ s[k0].toNat) = false := decide_eq_false e1
        have HNO : Hid (∀ j, j + 1 < k0 + 1 → gOf s j < gOf s (j + 1)) := hno
        have HL1 : Hid (k1 < s.size) := l1
        have HLT : Hid (gOf s k0 < gOf s k1) := hlt
        have b1 : (1 : Int) ≤ k1 := by omega
        have b2 : (k1 : Int) ≤ 1000 := by omega
        have hwk : IntKind.i64.wrap (k0 : Int) = k0 := by rw [IntKind.wrap_i64]; omega
        have e4 : ¬ s[k1].toNat ≤ s[k0].toNat := by omega
        have e3 : decide (s[k1].toNat ≤ s[k0].toNat) = false := decide_eq_false e4
        clear e1
        clear hk1' hno hk1 hk2 hkl hlt g0 g1
        go_wp2_with fail
        go_quiet (fail)
        go_wp2_with fail
        go_roundw
        case rel =>
          have hk := HK.out
          have hl1 := HL1.out
          refine ⟨k1 + 1, by go_num, by omega, .inl (by omega), fun j hj => ?_, ?_⟩
          · rcases Nat.lt_or_ge (j + 1) k1 with h | h
            · exact HNO.out j (by omega)
            · have : j = k0 := by omega
              subst this
              rw [← hk]
              exact HLT.out
          · first | exact hb | exact ⟨hb.os, hb.tape, hb.output, hb.size, hb.block⟩
        case measure =>
          have hl1 := HL1.out
          simp [intOf]
          omega
      · have e1 : ((s[k1].toNat : Int) ≤ s[k0].toNat) := by rw [← g0, ← g1]; omega
        have e2 : decide ((s[k1].toNat : Int) ≤ s[k0].toNat) = true := decide_eq_true e1
        have e3 : decide (s[k1].toNat ≤ s[k0].toNat) = true := decide_eq_true (by omega)
        have hwk : IntKind.i64.wrap (k0 : Int) = k0 := by rw [IntKind.wrap_i64]; omega
        have b2 : (k1 : Int) ≤ 1000 := by omega
        have H : Hid (upB s = false) := by
          show upB s = false
          rcases hu : upB s with _ | _
          · rfl
          · exact absurd (by rw [hk1']; exact upB_iff.1 hu k0 (by omega)) hlt
        clear hk1'
        go_wp2_with fail
        go_quiet (fail)
        go_wp2_with fail
        go_ret
        exact ⟨by rw [H.out]; rfl, by first | exact hb | exact ⟨hb.os, hb.tape, hb.output, hb.size, hb.block⟩⟩
    · have H : Hid (upB s = true) := upB_iff.2 fun i hi => hno i (by omega)
      have e1 : ¬ (k : Int) < s.size := by omega
      go_wp2_with fail
      go_ret
      exact ⟨by rw [H.out]; rfl, hb⟩

end Rx
end Go.Proofs.YtgdnlmaacnnfiaaGreatDoor

namespace Go.Proofs.YtgdnlmaacnnfiaaGreatDoor
namespace Rx

/-- On by R as often as it goes. -/
def Star (R : Nat → Nat → Prop) (i j : Nat) : Prop := ∀ P : Nat → Prop, P i → (∀ a b, P a → R a b → P b) → P j

theorem star_refl (R : Nat → Nat → Prop) (i : Nat) : Star R i i := fun _ h _ => h
theorem star_step {R : Nat → Nat → Prop} {i j k : Nat} (h : Star R i j) (hr : R j k) : Star R i k := fun P h1 h2 => h2 j k (h P h1 h2) hr
theorem star_trans {R : Nat → Nat → Prop} {i j k : Nat} (h : Star R i j) (h' : Star R j k) : Star R i k := fun P h1 h2 => h' P (h P h1 h2) h2
theorem star_head {R : Nat → Nat → Prop} {i j k : Nat} (hr : R i j) (h : Star R j k) : Star R i k := star_trans (star_step (star_refl R i) hr) h
theorem star_cases {R : Nat → Nat → Prop} {i j : Nat} (h : Star R i j) : i = j ∨ ∃ k, R i k ∧ Star R k j := by
  refine h (fun j => i = j ∨ ∃ k, R i k ∧ Star R k j) (.inl rfl) ?_
  intro a b ha hr
  rcases ha with rfl | ⟨k, h1, h2⟩
  · exact .inr ⟨b, hr, star_refl R b⟩
  · exact .inr ⟨k, h1, star_step h2 hr⟩

mutual
def Fit (g : Nat → Nat) (n : Nat) : Data → Nat → Nat → Prop
  | .slice ks lab, i, j => ∃ (op c : Nat) (s : List UInt8) (no : Bool), lab = [.lit (.int .i64 op), .lit (.int .i64 c), .lit (.string s), .lit (.bool no)] ∧
      ((op = 1 ∧ i < n ∧ j = i + 1 ∧ g i = c) ∨ (op = 2 ∧ i < n ∧ j = i + 1) ∨ (op = 3 ∧ i < n ∧ j = i + 1 ∧ ((∃ b, b ∈ s ∧ b.toNat = g i) ↔ no = false)) ∨
       (op = 4 ∧ i = 0 ∧ j = i) ∨ (op = 5 ∧ i = n ∧ j = i) ∨ (op = 6 ∧ FitCat g n ks i j) ∨ (op = 7 ∧ FitOr g n ks i j) ∨
       (op = 8 ∧ FitStar g n ks i j) ∨ (op = 9 ∧ FitPlus g n ks i j) ∨ (op = 10 ∧ (j = i ∨ FitOr g n ks i j)) ∨ (op = 11 ∧ j = i))
  | _, _, _ => False
def FitCat (g : Nat → Nat) (n : Nat) : List Data → Nat → Nat → Prop
  | [], i, j => j = i
  | t :: ts, i, j => ∃ k, Fit g n t i k ∧ FitCat g n ts k j
def FitOr (g : Nat → Nat) (n : Nat) : List Data → Nat → Nat → Prop
  | [], _, _ => False
  | t :: ts, i, j => Fit g n t i j ∨ FitOr g n ts i j
def FitStar (g : Nat → Nat) (n : Nat) : List Data → Nat → Nat → Prop
  | [], _, _ => False
  | t :: _, i, j => ∀ P : Nat → Prop, P i → (∀ a b, P a → Fit g n t a b → P b) → P j
def FitPlus (g : Nat → Nat) (n : Nat) : List Data → Nat → Nat → Prop
  | [], _, _ => False
  | t :: _, i, j => ∃ k, Fit g n t i k ∧ ∀ P : Nat → Prop, P k → (∀ a b, P a → Fit g n t a b → P b) → P j
end

section
variable {g : Nat → Nat} {n : Nat}

theorem fit_nd {op c : Nat} {s : List UInt8} {no : Bool} {ks : List Data} {i j : Nat} : Fit g n (nd op c s no ks) i j ↔
    ((op = 1 ∧ i < n ∧ j = i + 1 ∧ g i = c) ∨ (op = 2 ∧ i < n ∧ j = i + 1) ∨ (op = 3 ∧ i < n ∧ j = i + 1 ∧ ((∃ b, b ∈ s ∧ b.toNat = g i) ↔ no = false)) ∨
       (op = 4 ∧ i = 0 ∧ j = i) ∨ (op = 5 ∧ i = n ∧ j = i) ∨ (op = 6 ∧ FitCat g n ks i j) ∨ (op = 7 ∧ FitOr g n ks i j) ∨
       (op = 8 ∧ FitStar g n ks i j) ∨ (op = 9 ∧ FitPlus g n ks i j) ∨ (op = 10 ∧ (j = i ∨ FitOr g n ks i j)) ∨ (op = 11 ∧ j = i)) := by
  unfold nd
  rw [Fit]
  constructor
  · rintro ⟨op', c', s', no', hl, h⟩
    have := nd_inj (show nd op c s no [] = nd op' c' s' no' [] by unfold nd; rw [hl])
    obtain ⟨rfl, rfl, rfl, rfl, _⟩ := this
    exact h
  · intro h
    exact ⟨op, c, s, no, rfl, h⟩

theorem fit_chr {b i j : Nat} : Fit g n (chr b) i j ↔ i < n ∧ j = i + 1 ∧ g i = b := by unfold chr; rw [fit_nd]; simp
theorem fit_any {i j : Nat} : Fit g n (leaf 2) i j ↔ i < n ∧ j = i + 1 := by unfold leaf; rw [fit_nd]; simp
theorem fit_start {i j : Nat} : Fit g n (leaf 4) i j ↔ i = 0 ∧ j = i := by unfold leaf; rw [fit_nd]; simp
theorem fit_end {i j : Nat} : Fit g n (leaf 5) i j ↔ i = n ∧ j = i := by unfold leaf; rw [fit_nd]; simp
theorem fit_none {i j : Nat} : Fit g n (leaf 11) i j ↔ j = i := by unfold leaf; rw [fit_nd]; simp
theorem fit_set {M : Nat → Bool} {no : Bool} {i j : Nat} : Fit g n (setOf M no) i j ↔ i < n ∧ j = i + 1 ∧ ((∃ b, b ∈ bytesOf M ∧ b.toNat = g i) ↔ no = false) := by unfold setOf; rw [fit_nd]; simp
theorem fit_cat {ks : List Data} {i j : Nat} : Fit g n (nd 6 0 [] false ks) i j ↔ FitCat g n ks i j := by rw [fit_nd]; simp
theorem fit_or {ks : List Data} {i j : Nat} : Fit g n (nd 7 0 [] false ks) i j ↔ FitOr g n ks i j := by rw [fit_nd]; simp
theorem fit_star {t : Data} {i j : Nat} : Fit g n (one 8 t) i j ↔ Star (Fit g n t) i j := by unfold one; rw [fit_nd]; simp [FitStar, Star]
theorem fit_plus {t : Data} {i j : Nat} : Fit g n (one 9 t) i j ↔ ∃ k, Fit g n t i k ∧ Star (Fit g n t) k j := by unfold one; rw [fit_nd]; simp [FitPlus, Star]
theorem fit_may {t : Data} {i j : Nat} : Fit g n (one 10 t) i j ↔ j = i ∨ Fit g n t i j := by unfold one; rw [fit_nd]; simp [FitOr]

theorem fitOr_mem : ∀ {ks : List Data} {i j : Nat}, FitOr g n ks i j ↔ ∃ t, t ∈ ks ∧ Fit g n t i j
  | [], i, j => by simp [FitOr]
  | t :: ts, i, j => by
    rw [FitOr, fitOr_mem (ks := ts)]
    simp

theorem fitCat_take : ∀ {ks : List Data} {i j : Nat} {t : Data}, FitCat g n (ks ++ [t]) i j ↔ ∃ k, FitCat g n ks i k ∧ Fit g n t k j
  | [], i, j, t => by simp [FitCat]
  | t' :: ts, i, j, t => by
    simp only [List.cons_append, FitCat]
    constructor
    · rintro ⟨k, h1, h2⟩
      obtain ⟨m, h3, h4⟩ := fitCat_take.1 h2
      exact ⟨m, ⟨k, h1, h3⟩, h4⟩
    · rintro ⟨m, ⟨k, h1, h3⟩, h4⟩
      exact ⟨k, h1, fitCat_take.2 ⟨m, h3, h4⟩⟩

/-- A piece ends within the text. -/
theorem fit_le : ∀ (d : Nat) (t : Data), RightD d t → ∀ i j, Fit g n t i j → i ≤ n → j ≤ n := by
  intro d
  induction d with
  | zero => intro t h; exact h.elim
  | succ d ih =>
    intro t h i j hf hi
    rw [RightD] at h
    rcases h with ⟨b, hb, rfl⟩ | ⟨op, ho, rfl⟩ | ⟨M, no, hM, rfl⟩ | ⟨op, k, ho, rfl, hk⟩ | ⟨op, ks, ho, rfl, hl, hk⟩
    · have := fit_chr.1 hf; omega
    · rcases ho with rfl | rfl | rfl | rfl
      · have := fit_any.1 hf; omega
      · have := fit_start.1 hf; omega
      · have := fit_end.1 hf; omega
      · have := fit_none.1 hf; omega
    · have := fit_set.1 hf; omega
    · have st : ∀ a b, a ≤ n → Star (Fit g n k) a b → b ≤ n := fun a b ha hs => hs (fun x => x ≤ n) ha fun x y hx hy => ih k hk x y hy hx
      rcases ho with rfl | rfl | rfl
      · exact st i j hi (fit_star.1 hf)
      · obtain ⟨m, h1, h2⟩ := fit_plus.1 hf
        exact st m j (ih k hk i m h1 hi) h2
      · rcases fit_may.1 hf with rfl | h1
        · exact hi
        · exact ih k hk i j h1 hi
    · rcases ho with rfl | rfl
      · have : ∀ (ks : List Data), (∀ k ∈ ks, RightD d k) → ∀ i j, i ≤ n → FitCat g n ks i j → j ≤ n := by
          intro ks
          induction ks with
          | nil => intro _ i j hi h; simp [FitCat] at h; omega
          | cons t ts ih2 =>
            intro hk i j hi h
            rw [FitCat] at h
            obtain ⟨m, h1, h2⟩ := h
            exact ih2 (fun k hm => hk k (by simp [hm])) m j (ih t (hk t (by simp)) i m h1 hi) h2
        exact this ks hk i j hi (fit_cat.1 hf)
      · obtain ⟨t, hm, h1⟩ := fitOr_mem.1 (fit_or.1 hf)
        exact ih t (hk t hm) i j h1 hi

end

/-- A byte of a set. -/
theorem mem_bytesM {M : Nat → Bool} {b : Nat} (hb : b < 256) : (∃ x, x ∈ bytesOf M ∧ x.toNat = b) ↔ M b = true := by
  unfold bytesOf
  constructor
  · rintro ⟨x, hx, rfl⟩
    rw [List.mem_map] at hx
    obtain ⟨y, hy, rfl⟩ := hx
    rw [List.mem_filter, List.mem_range] at hy
    have : (UInt8.ofNat y).toNat = y := by rw [UInt8.toNat_ofNat']; omega
    rw [this]
    exact hy.2
  · intro h
    refine ⟨UInt8.ofNat b, List.mem_map.2 ⟨b, by rw [List.mem_filter, List.mem_range]; exact ⟨hb, h⟩, rfl⟩, ?_⟩
    rw [UInt8.toNat_ofNat']
    omega

/-- The flags of the ends. -/
noncomputable def endsB (g : Nat → Nat) (n : Nat) (t : Data) (i : Nat) : Nat → Bool := fun j => @decide (Fit g n t i j) (Classical.propDecidable _)
theorem endsB_iff {g : Nat → Nat} {n : Nat} {t : Data} {i j : Nat} : endsB g n t i j = true ↔ Fit g n t i j := by
  unfold endsB
  exact @decide_eq_true_iff _ (Classical.propDecidable _)

end Rx
end Go.Proofs.YtgdnlmaacnnfiaaGreatDoor

