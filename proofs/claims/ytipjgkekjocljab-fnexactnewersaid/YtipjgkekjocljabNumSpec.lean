/-
  Chapter 2: the front of a text, place by place, as the specification goes through it. Nothing of the program stands here.
-/
import Derived.Test.YtipjgkekjocljabNumMath
namespace Go.Proofs.Ytipjgkekjocljab.Num
open Go.Lib

theorem row_next {p : UInt8 → Bool} {l : List UInt8} {k : Nat} (h : k + rowFrom p l k < l.length) : p l[k + rowFrom p l k] = false := by
  have key : ∀ m : List UInt8, ∀ b, m[(m.takeWhile p).length]? = some b → p b = false := by
    intro m
    induction m with
    | nil => intro b hb; simp at hb
    | cons c r ih =>
      intro b hb
      cases hc : p c with
      | true => rw [List.takeWhile_cons, hc] at hb; simp at hb; exact ih b hb
      | false => rw [List.takeWhile_cons, hc] at hb; simp at hb; rw [← hb]; exact hc
  apply key (l.drop k)
  rw [List.getElem?_drop]
  exact List.getElem?_eq_getElem h
theorem row_in {p : UInt8 → Bool} {l : List UInt8} {k j : Nat} (h1 : k ≤ j) (h2 : j < k + rowFrom p l k) : ∃ hj : j < l.length, p l[j] = true := by
  have hle := row_le p l k
  have hj : j < l.length := by omega
  refine ⟨hj, ?_⟩
  have key : ∀ m : List UInt8, ∀ i, i < (m.takeWhile p).length → ∀ b, m[i]? = some b → p b = true := by
    intro m
    induction m with
    | nil => intro i hi; simp at hi
    | cons c r ih =>
      intro i hi b hb
      cases hc : p c with
      | false => rw [List.takeWhile_cons, hc] at hi; simp at hi
      | true =>
        rw [List.takeWhile_cons, hc] at hi
        cases i with
        | zero => simp at hb; rw [← hb]; exact hc
        | succ i => simp at hb hi; exact ih i hi b hb
  apply key (l.drop k) (j - k) (by unfold rowFrom at h2; omega)
  rw [List.getElem?_drop, show k + (j - k) = j by omega]
  exact List.getElem?_eq_getElem hj

theorem sign_end {l : List UInt8} (h : rowFrom blank l 0 = l.length) : negB l = false ∧ behindSign l = l.drop (rowFrom blank l 0) := by
  unfold negB behindSign
  rw [h, List.drop_length]
  exact ⟨rfl, rfl⟩
theorem drop_at {l : List UInt8} {k : Nat} (h : k < l.length) : l.drop k = l[k] :: l.drop (k + 1) := List.drop_eq_getElem_cons h
theorem sign_minus {l : List UInt8} (h : rowFrom blank l 0 < l.length) (hb : l[rowFrom blank l 0] = 45) : negB l = true ∧ behindSign l = l.drop (rowFrom blank l 0 + 1) := by
  unfold negB behindSign
  rw [drop_at h, hb]
  exact ⟨rfl, rfl⟩
theorem sign_plus {l : List UInt8} (h : rowFrom blank l 0 < l.length) (hb : l[rowFrom blank l 0] = 43) : negB l = false ∧ behindSign l = l.drop (rowFrom blank l 0 + 1) := by
  unfold negB behindSign
  rw [drop_at h, hb]
  exact ⟨rfl, rfl⟩
theorem sign_none {l : List UInt8} (h : rowFrom blank l 0 < l.length) (h1 : l[rowFrom blank l 0] ≠ 45) (h2 : l[rowFrom blank l 0] ≠ 43) : negB l = false ∧ behindSign l = l.drop (rowFrom blank l 0) := by
  have h1' : ¬ 45 = l[rowFrom blank l 0] := fun e => h1 e.symm
  have h2' : ¬ 43 = l[rowFrom blank l 0] := fun e => h2 e.symm
  unfold negB behindSign
  rw [drop_at h]
  generalize l[rowFrom blank l 0] = b at h1' h2'
  refine ⟨by simp [hasPrefix, List.isPrefixOf, h1'], by simp [hasPrefix, trimPrefix, List.isPrefixOf, h1', h2']⟩

theorem plain_nofrac {l : List UInt8} {k : Nat} (h : ∀ h1 : k + rowFrom digB l k + 1 < l.length, l[k + rowFrom digB l k] = 46 → digB l[k + rowFrom digB l k + 1] = false) :
    plainP (l.drop k) = ⟨false, (l.drop k).takeWhile digB, [], rowFrom digB l k⟩ := by
  unfold plainP
  simp only [List.drop_drop]
  have e : ((l.drop k).takeWhile digB).length = rowFrom digB l k := rfl
  have hr : (if (l.drop (k + ((l.drop k).takeWhile digB).length)).head? = some 46 then (l.drop (k + ((l.drop k).takeWhile digB).length + 1)).takeWhile digB else []) = [] := by
    rw [e]
    split
    · rename_i hh
      by_cases h1 : k + rowFrom digB l k + 1 < l.length
      · rw [drop_at (by omega)] at hh
        simp only [List.head?_cons, Option.some.injEq] at hh
        rw [drop_at h1, List.takeWhile_cons, h h1 hh]; rfl
      · rw [List.drop_eq_nil_of_le (by omega)]; rfl
    · rfl
  rw [hr, e]; simp
theorem plain_frac {l : List UInt8} {k : Nat} (h1 : k + rowFrom digB l k + 1 < l.length) (h2 : l[k + rowFrom digB l k] = 46) (h3 : digB l[k + rowFrom digB l k + 1] = true) :
    plainP (l.drop k) = ⟨false, (l.drop k).takeWhile digB, (l.drop (k + rowFrom digB l k + 1)).takeWhile digB, rowFrom digB l k + 1 + rowFrom digB l (k + rowFrom digB l k + 1)⟩ := by
  unfold plainP
  simp only [List.drop_drop]
  have e : ((l.drop k).takeWhile digB).length = rowFrom digB l k := rfl
  have hr : (if (l.drop (k + ((l.drop k).takeWhile digB).length)).head? = some 46 then (l.drop (k + ((l.drop k).takeWhile digB).length + 1)).takeWhile digB else []) = (l.drop (k + rowFrom digB l k + 1)).takeWhile digB := by
    rw [e, drop_at (show k + rowFrom digB l k < l.length by omega), h2]; rfl
  have hn : (l.drop (k + rowFrom digB l k + 1)).takeWhile digB ≠ [] := by
    rw [drop_at h1, List.takeWhile_cons, h3]; simp
  rw [hr, e, if_neg hn]
  simp only [Parts.mk.injEq, true_and]
  unfold rowFrom; omega

theorem plain_all (l : List UInt8) : (plainP l).whole.all digB = true ∧ (plainP l).rest.all digB = true := by
  refine ⟨List.all_takeWhile, ?_⟩
  unfold plainP; simp only; split
  · exact List.all_takeWhile
  · rfl
theorem plain_nought (l : List UInt8) : (plainP l).size = 0 ↔ (plainP l).whole.length + (plainP l).rest.length = 0 := by
  unfold plainP; simp only
  generalize (if (l.drop (l.takeWhile digB).length).head? = some 46 then ((l.drop (l.takeWhile digB).length).drop 1).takeWhile digB else []) = r
  cases r with
  | nil => simp
  | cons b t => simp
theorem rest_le (l : List UInt8) : (plainP l).rest.length ≤ (plainP l).size := by
  unfold plainP; simp only
  generalize (if (l.drop (l.takeWhile digB).length).head? = some 46 then ((l.drop (l.takeWhile digB).length).drop 1).takeWhile digB else []) = r
  cases r with
  | nil => simp
  | cons b t => simp; omega
/-- how the specification ends -/
theorem spec_ok {l : List UInt8} {p : Parts} (hp : plainP (behindSign l) = p) :
    (frontB l = true → p.whole.length + p.rest.length ≠ 0 ∧ fracN (satN 0 p.whole) 100000 p.rest ≤ 9000000000000 ∧ fracN (satN 0 p.whole) 100000 p.rest = valP p ∧ 0 ≤ valP p) ∧
    (frontB l = false → p.whole.length + p.rest.length = 0 ∨ 9000000000000 < fracN (satN 0 p.whole) 100000 p.rest) := by
  obtain ⟨hw, hr⟩ := plain_all (behindSign l)
  have hz := plain_nought (behindSign l)
  rw [hp] at hw hr hz
  have hv : valP p = fold10 0 p.whole * 1000000 + fold10 0 (mil p.rest) := fold10_six _ (mil_length _)
  obtain ⟨b1, b2⟩ := fold6_bd (mil_length p.rest) (mil_digits hr)
  have hs := satN_is (Int.le_refl 0) hw
  rw [Int.zero_mul] at hs
  have hge := fold10_ge (Int.le_refl 0) hw
  rw [fracN_eq]
  unfold frontB okP
  rw [hp]
  constructor
  · intro h
    simp only [Bool.and_eq_true, decide_eq_true_eq] at h
    have e := hs.1 (by omega)
    refine ⟨by omega, by omega, by omega, by omega⟩
  · intro h
    have h' : ¬ (p.size ≠ 0 ∧ valP p ≤ 9000000000000) := by
      intro hh
      have : (decide (p.size ≠ 0) && decide (valP p ≤ 9000000000000)) = true := by simp only [Bool.and_eq_true, decide_eq_true_eq]; exact hh
      rw [this] at h; cases h
    by_cases h0 : p.size = 0
    · left; omega
    · right
      by_cases h1 : fold10 0 p.whole * 1000000 ≤ 9000000000000
      · have := hs.1 h1; omega
      · have := hs.2 (by omega); omega
end Go.Proofs.Ytipjgkekjocljab.Num
namespace Go.Proofs.Ytipjgkekjocljab.Num
open Go.Lib
/-! The front, as the program cuts it -/
theorem take_row (p : UInt8 → Bool) (l : List UInt8) : l.take (rowFrom p l 0) = l.takeWhile p := by
  unfold rowFrom; rw [List.drop_zero]
  exact (List.prefix_iff_eq_take.mp (List.takeWhile_prefix p)).symm
theorem head_pre (l : List UInt8) (c : UInt8) : hasPrefix l [c] = decide (l.head? = some c) := by
  cases l with
  | nil => simp [hasPrefix, List.isPrefixOf]
  | cons b t =>
    by_cases h : c = b
    · subst h; simp [hasPrefix, List.isPrefixOf]
    · have h' : ¬ b = c := fun e => h e.symm
      simp [hasPrefix, List.isPrefixOf, h, h']
theorem plain_none {l : List UInt8} {k : Nat} (hk : k = rowFrom digB l 0) (h : hasPrefix (l.drop k) [46] = false) : plainP l = ⟨false, l.take k, [], k⟩ := by
  rw [head_pre, decide_eq_false_iff_not] at h
  have e : (l.takeWhile digB).length = k := by rw [hk]; rfl
  unfold plainP
  simp only [e, h]
  rw [hk, take_row]; simp
theorem plain_some {l : List UInt8} {k m : Nat} (hk : k = rowFrom digB l 0) (h : hasPrefix (l.drop k) [46] = true) (hm : m = rowFrom digB ((l.drop k).drop 1) 0) :
    plainP l = ⟨false, l.take k, ((l.drop k).drop 1).take m, if m = 0 then k else k + (1 + m)⟩ := by
  rw [head_pre, decide_eq_true_eq] at h
  have e : (l.takeWhile digB).length = k := by rw [hk]; rfl
  have e2 : (((l.drop k).drop 1).takeWhile digB).length = m := by rw [hm]; rfl
  have e3 : ((l.drop k).drop 1).take m = ((l.drop k).drop 1).takeWhile digB := by rw [hm]; exact take_row _ _
  have e4 : ((l.drop k).drop 1).takeWhile digB = [] ↔ m = 0 := by rw [← e2]; exact List.length_eq_zero_iff.symm
  have e5 : l.take k = l.takeWhile digB := by rw [hk]; exact take_row _ _
  unfold plainP
  simp only [e, h, if_true]
  rw [e3, e5, e2]
  by_cases h0 : m = 0
  · rw [if_pos (e4.mpr h0), if_pos h0]; rfl
  · rw [if_neg (fun hh => h0 (e4.mp hh)), if_neg h0]
/-- the numeral with its blanks and its sign -/
def signedP (l : List UInt8) : Parts :=
  ⟨if (plainP (behindSign l)).size = 0 then false else negB l, (plainP (behindSign l)).whole, (plainP (behindSign l)).rest, if (plainP (behindSign l)).size = 0 then 0 else (plainP (behindSign l)).size + (l.length - (behindSign l).length)⟩
theorem fin_of {l : List UInt8} {k : Nat} {nb : Bool} {p : Parts} (hneg : negB l = nb) (hbe : behindSign l = l.drop k) (hk : k ≤ l.length) (hp : plainP (l.drop k) = p) :
    (p.whole.length + p.rest.length ≠ 0 ∧ fracN (satN 0 p.whole) 100000 p.rest ≤ 9000000000000 ∧ 0 ≤ fracN (satN 0 p.whole) 100000 p.rest ∧
      frontV l = (if nb then 0 - fracN (satN 0 p.whole) 100000 p.rest else fracN (satN 0 p.whole) 100000 p.rest) ∧ frontN l = k + p.size) ∨
    ((p.whole.length + p.rest.length = 0 ∨ 9000000000000 < fracN (satN 0 p.whole) 100000 p.rest) ∧ frontV l = 0 ∧ frontN l = 0) := by
  have hp' : plainP (behindSign l) = p := by rw [hbe]; exact hp
  obtain ⟨f1, f2⟩ := spec_ok hp'
  cases hB : frontB l with
  | true =>
    obtain ⟨g1, g2, g3, g4⟩ := f1 hB
    refine Or.inl ⟨g1, g2, by omega, ?_, ?_⟩
    · unfold frontV; rw [hB, hneg, hp', g3, Int.zero_sub]; rfl
    · unfold frontN; rw [hB, hp', hbe, List.length_drop, if_pos rfl]; omega
  | false =>
    refine Or.inr ⟨f2 hB, ?_, ?_⟩
    · unfold frontV; rw [hB]; rfl
    · unfold frontN; rw [hB]; rfl
theorem take_stop {l : List UInt8} {k : Nat} (h : rowFrom digB l k = 0) : (l.drop k).takeWhile digB = [] := List.eq_nil_of_length_eq_zero h
theorem take_on {l : List UInt8} {k : Nat} (hk : k < l.length) (h : digB l[k] = true) : (l.drop k).takeWhile digB = l[k] :: (l.drop (k + 1)).takeWhile digB := by
  rw [drop_at hk, List.takeWhile_cons, h]; rfl
theorem row_move {p : UInt8 → Bool} {l : List UInt8} {k j : Nat} (h1 : k ≤ j) (h2 : j ≤ k + rowFrom p l k) : j + rowFrom p l j = k + rowFrom p l k := by
  induction h1 with
  | refl => rfl
  | step h ih =>
    rename_i m
    have hm : k ≤ m := h
    obtain ⟨hj, hp⟩ := row_in (p := p) (l := l) (k := k) (j := m) hm (by omega)
    have h5 := row_step hj hp
    have h6 := ih (by omega)
    show m + 1 + rowFrom p l (m + 1) = _
    omega
end Go.Proofs.Ytipjgkekjocljab.Num
