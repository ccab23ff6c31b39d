/-
  Chapter 2 as plain functions on lists of bytes. Nothing of the program stands here.
-/
import Derived.WalkKit
import Derived.Lib.ItoaNum
import Derived.Lib.TrimByte
import Derived.Lib.Repeat
import Derived.Lib.Strings
import Derived.Test.YtipjgkekjocljabDecMath
namespace Go.Proofs.Ytipjgkekjocljab.Num
open Go.Lib

/-! Rows of bytes -/
/-- how many bytes from k on fit -/
def rowFrom (p : UInt8 → Bool) (l : List UInt8) (k : Nat) : Nat := ((l.drop k).takeWhile p).length
theorem row_end (p : UInt8 → Bool) {l : List UInt8} {k : Nat} (h : l.length ≤ k) : rowFrom p l k = 0 := by
  simp [rowFrom, List.drop_eq_nil_of_le h]
theorem row_stop {p : UInt8 → Bool} {l : List UInt8} {k : Nat} (hk : k < l.length) (h : p l[k] = false) : rowFrom p l k = 0 := by
  unfold rowFrom; rw [List.drop_eq_getElem_cons hk, List.takeWhile_cons, h]; simp
theorem row_step {p : UInt8 → Bool} {l : List UInt8} {k : Nat} (hk : k < l.length) (h : p l[k] = true) : rowFrom p l k = rowFrom p l (k + 1) + 1 := by
  unfold rowFrom; rw [List.drop_eq_getElem_cons hk, List.takeWhile_cons, h]; simp
theorem row_le (p : UInt8 → Bool) (l : List UInt8) (k : Nat) : rowFrom p l k ≤ l.length - k := by
  unfold rowFrom
  have := (List.takeWhile_sublist p (l := l.drop k)).length_le
  simpa using this
theorem row_all (p : UInt8 → Bool) (l : List UInt8) : rowFrom p l 0 = l.length ↔ l.all p = true := by
  induction l with
  | nil => simp [rowFrom]
  | cons b r ih =>
    simp only [rowFrom, List.drop_zero] at ih ⊢
    cases h : p b <;> simp [h, ih]

def blank (b : UInt8) : Bool := b == 32
def digB (b : UInt8) : Bool := decide (48 ≤ b.toNat) && decide (b.toNat ≤ 57)
def dv (b : UInt8) : Int := (b.toNat : Int) - 48
theorem dv_bd {b : UInt8} (h : digB b = true) : 0 ≤ dv b ∧ dv b ≤ 9 := by
  simp only [digB, Bool.and_eq_true, decide_eq_true_eq] at h
  unfold dv; omega

/-! Digits put behind one another -/
def fold10 (d : Int) : List UInt8 → Int
  | [] => d
  | b :: r => fold10 (d * 10 + dv b) r
theorem fold10_append (d : Int) (l m : List UInt8) : fold10 d (l ++ m) = fold10 (fold10 d l) m := by
  induction l generalizing d with
  | nil => rfl
  | cons b r ih => exact ih _
theorem fold10_ge {d : Int} (h : 0 ≤ d) {l : List UInt8} (hl : l.all digB = true) : d ≤ fold10 d l := by
  induction l generalizing d with
  | nil => exact Int.le_refl _
  | cons b r ih =>
    simp only [List.all_cons, Bool.and_eq_true] at hl
    have := dv_bd hl.1
    have := ih (d := d * 10 + dv b) (by omega) hl.2
    simp only [fold10]; omega
theorem fold10_six (d : Int) {l : List UInt8} (h : l.length = 6) : fold10 d l = d * 1000000 + fold10 0 l := by
  match l, h with
  | [a, b, c, e, f, g], _ => simp only [fold10]; omega

/-- the six digits of a rest -/
def mil (r : List UInt8) : List UInt8 := if 6 < r.length then r.take 6 else r ++ List.replicate (6 - r.length) 48
theorem mil_length (r : List UInt8) : (mil r).length = 6 := by
  unfold mil; split <;> simp <;> omega
theorem mil_digits {r : List UInt8} (h : r.all digB = true) : (mil r).all digB = true := by
  unfold mil; split
  · rw [List.all_eq_true] at h ⊢
    exact fun b hb => h b (List.mem_of_mem_take hb)
  · rw [List.all_append, h, Bool.true_and, List.all_eq_true]
    intro b hb
    rw [(List.mem_replicate.mp hb).2]; decide

/-- a row of digits, worked out with a limit: what the specification does ahead of the byte 46 -/
def satN (n : Int) : List UInt8 → Int
  | [] => n
  | b :: r => satN (if n ≤ 9000000000000 then 10 * n + dv b * 1000000 else n) r
theorem satN_far {n : Int} (h : 9000000000000 < n) (l : List UInt8) : satN n l = n := by
  induction l with
  | nil => rfl
  | cons b r ih => simp only [satN, if_neg (show ¬ n ≤ 9000000000000 by omega), ih]
/-- the same, behind the byte 46 -/
def fracN (n u : Int) : List UInt8 → Int
  | [] => n
  | b :: r => fracN (n + dv b * u) (u / 10) r
theorem fracN_nought (n : Int) (l : List UInt8) : fracN n 0 l = n := by
  induction l generalizing n with
  | nil => rfl
  | cons b r ih => simp [fracN, ih]
theorem fracN_eq (n : Int) (l : List UInt8) : fracN n 100000 l = n + fold10 0 (mil l) := by
  match l with
  | [] => simp [fracN, mil, fold10, dv]
  | [a] => simp [fracN, mil, fold10, dv, List.replicate]; omega
  | [a, b] => simp [fracN, mil, fold10, dv, List.replicate]; omega
  | [a, b, c] => simp [fracN, mil, fold10, dv, List.replicate]; omega
  | [a, b, c, d] => simp [fracN, mil, fold10, dv, List.replicate]; omega
  | [a, b, c, d, e] => simp [fracN, mil, fold10, dv]; omega
  | a :: b :: c :: d :: e :: f :: r =>
    have hm : mil (a :: b :: c :: d :: e :: f :: r) = [a, b, c, d, e, f] := by
      unfold mil; split
      · simp
      · have : r = [] := List.eq_nil_of_length_eq_zero (by simp at *; omega)
        simp [this]
    rw [hm]
    have e0 : (1 : Int) / 10 = 0 := by decide
    simp only [fracN, fold10, show (100000 : Int) / 10 = 10000 by decide, show (10000 : Int) / 10 = 1000 by decide, show (1000 : Int) / 10 = 100 by decide, show (100 : Int) / 10 = 10 by decide, show (10 : Int) / 10 = 1 by decide, e0, fracN_nought]
    omega
theorem fold6_bd {l : List UInt8} (h : l.length = 6) (hl : l.all digB = true) : 0 ≤ fold10 0 l ∧ fold10 0 l ≤ 999999 := by
  match l, h, hl with
  | [a, b, c, e, f, g], _, hl =>
    simp only [List.all_cons, List.all_nil, Bool.and_eq_true] at hl
    have := dv_bd hl.1; have := dv_bd hl.2.1; have := dv_bd hl.2.2.1; have := dv_bd hl.2.2.2.1; have := dv_bd hl.2.2.2.2.1; have := dv_bd hl.2.2.2.2.2.1
    simp only [fold10]; omega
theorem satN_is {W : Int} (hW : 0 ≤ W) {l : List UInt8} (hl : l.all digB = true) :
    (fold10 W l * 1000000 ≤ 9000000000000 → satN (W * 1000000) l = fold10 W l * 1000000) ∧
    (9000000000000 < fold10 W l * 1000000 → 9000000000000 < satN (W * 1000000) l) := by
  induction l generalizing W with
  | nil => simp [satN, fold10]
  | cons b r ih =>
    simp only [List.all_cons, Bool.and_eq_true] at hl
    have hd := dv_bd hl.1
    by_cases hc : W * 1000000 ≤ 9000000000000
    · have e : 10 * (W * 1000000) + dv b * 1000000 = (W * 10 + dv b) * 1000000 := by omega
      simp only [satN, fold10, if_pos hc, e]
      exact ih (by omega) hl.2
    · have hge : W ≤ fold10 W (b :: r) := fold10_ge hW (by simp [hl.1, hl.2])
      rw [satN_far (by omega)]
      constructor <;> intro h <;> omega

/-! The front of a text -/
structure Parts where
  below : Bool
  whole : List UInt8
  rest : List UInt8
  size : Nat

/-- digits, and behind a byte 46 digits again -/
def plainP (l : List UInt8) : Parts :=
  let whole := l.takeWhile digB
  let l3 := l.drop whole.length
  let rest := if l3.head? = some 46 then (l3.drop 1).takeWhile digB else []
  ⟨false, whole, rest, whole.length + (if rest = [] then 0 else 1 + rest.length)⟩
def negB (l : List UInt8) : Bool := hasPrefix (l.drop (rowFrom blank l 0)) [45]
def behindSign (l : List UInt8) : List UInt8 :=
  let l1 := l.drop (rowFrom blank l 0)
  if hasPrefix l1 [45] then l1.drop 1 else trimPrefix l1 [43]
def valP (p : Parts) : Int := fold10 (fold10 0 p.whole) (mil p.rest)
def okP (p : Parts) : Bool := decide (p.size ≠ 0) && decide (valP p ≤ 9000000000000)
def frontB (l : List UInt8) : Bool := okP (plainP (behindSign l))
def frontV (l : List UInt8) : Int := if frontB l then (if negB l then - valP (plainP (behindSign l)) else valP (plainP (behindSign l))) else 0
def frontN (l : List UInt8) : Nat := if frontB l then l.length - (behindSign l).length + (plainP (behindSign l)).size else 0
def looksB (l : List UInt8) : Bool := decide (frontN l ≠ 0) && (l.drop (frontN l)).all blank
def looksV (l : List UInt8) : Int := if looksB l then frontV l else 0

/-- a number as text -/
def textL (a : Int) : List UInt8 :=
  (if a < 0 then [45] else []) ++ decDigits (Dec.absI a / 1000000).toNat ++ (if Dec.absI a % 1000000 = 0 then [] else 46 :: trimRightB ((decDigits (1000000 + Dec.absI a % 1000000).toNat).drop 1) 48)
def decTextL (a : Int) : List UInt8 := if Dec.okB a then textL a else []

/-! What is shown looks like the number -/
theorem dec_all (u : Nat) : (decDigits u).all digB = true := by
  induction u using Nat.strongRecOn with
  | _ u ih =>
    rw [decDigits]
    have hd : ∀ k, k < 10 → digB (UInt8.ofNat (48 + k)) = true := by decide
    split
    · rename_i h; simp only [List.all_cons, List.all_nil, hd u h, Bool.and_true]
    · rename_i h
      rw [List.all_append, ih (u / 10) (by omega)]
      simp only [List.all_cons, List.all_nil, hd (u % 10) (by omega), Bool.and_true]
theorem dec_ne (u : Nat) : decDigits u ≠ [] := by
  rw [decDigits]; split <;> simp
theorem dv_of (k : Nat) (h : k < 10) : dv (UInt8.ofNat (48 + k)) = k := by
  have : ∀ k, k < 10 → dv (UInt8.ofNat (48 + k)) = (k : Int) := by decide
  exact this k h
theorem fold_dec (u : Nat) : fold10 0 (decDigits u) = u := by
  induction u using Nat.strongRecOn with
  | _ u ih =>
    rw [decDigits]
    split
    · rename_i h; simp only [fold10, dv_of u h]; omega
    · rename_i h
      rw [fold10_append, ih (u / 10) (by omega)]
      simp only [fold10, dv_of (u % 10) (by omega)]; omega
theorem trim_back (l : List UInt8) (c : UInt8) : trimRightB l c ++ List.replicate (l.length - (trimRightB l c).length) c = l := by
  have key : ∀ m : List UInt8, m = List.replicate (m.length - (m.dropWhile (· == c)).length) c ++ m.dropWhile (· == c) := by
    intro m
    induction m with
    | nil => simp
    | cons b r ih =>
      by_cases hb : b = c
      · subst hb
        have hle : (r.dropWhile (· == b)).length ≤ r.length := (List.dropWhile_sublist _).length_le
        simp only [List.dropWhile_cons, beq_self_eq_true, if_true, List.length_cons]
        rw [show r.length + 1 - (r.dropWhile (· == b)).length = (r.length - (r.dropWhile (· == b)).length) + 1 by omega, List.replicate_succ, List.cons_append, ← ih]
      · simp [hb]
  have h := congrArg List.reverse (key l.reverse)
  rw [List.reverse_reverse, List.reverse_append, List.reverse_replicate] at h
  simp only [trimRightB, List.length_reverse] at h ⊢
  exact h.symm
theorem trim_all {l : List UInt8} {c : UInt8} {p : UInt8 → Bool} (h : l.all p = true) : (trimRightB l c).all p = true := by
  have e := trim_back l c
  rw [← e, List.all_append, Bool.and_eq_true] at h
  exact h.1
theorem seven {r : Nat} (h : r < 1000000) : ∃ D, decDigits (1000000 + r) = 49 :: D ∧ D.length = 6 ∧ D.all digB = true ∧ fold10 0 D = r := by
  have e : decDigits (1000000 + r) = 49 :: [UInt8.ofNat (48 + r / 100000 % 10), UInt8.ofNat (48 + r / 10000 % 10), UInt8.ofNat (48 + r / 1000 % 10), UInt8.ofNat (48 + r / 100 % 10), UInt8.ofNat (48 + r / 10 % 10), UInt8.ofNat (48 + r % 10)] := by
    have step : ∀ u, ¬ u < 10 → decDigits u = decDigits (u / 10) ++ [UInt8.ofNat (48 + u % 10)] := fun u hu => by rw [decDigits, dif_neg hu]
    rw [step _ (by omega), step _ (by omega), step _ (by omega), step _ (by omega), step _ (by omega), step _ (by omega)]
    rw [show (1000000 + r) / 10 / 10 / 10 / 10 / 10 / 10 = 1 by omega, show (1000000 + r) / 10 / 10 / 10 / 10 / 10 % 10 = r / 100000 % 10 by omega, show (1000000 + r) / 10 / 10 / 10 / 10 % 10 = r / 10000 % 10 by omega, show (1000000 + r) / 10 / 10 / 10 % 10 = r / 1000 % 10 by omega, show (1000000 + r) / 10 / 10 % 10 = r / 100 % 10 by omega, show (1000000 + r) / 10 % 10 = r / 10 % 10 by omega, show (1000000 + r) % 10 = r % 10 by omega, decDigits_one (show 1 < 10 by omega)]
    rfl
  refine ⟨_, e, rfl, ?_, ?_⟩
  · have := dec_all (1000000 + r)
    rw [e, List.all_cons, Bool.and_eq_true] at this
    exact this.2
  · simp only [fold10]
    rw [dv_of _ (by omega), dv_of _ (by omega), dv_of _ (by omega), dv_of _ (by omega), dv_of _ (by omega), dv_of _ (by omega)]
    omega
def restL (r : Nat) : List UInt8 := trimRightB ((decDigits (1000000 + r)).drop 1) 48
theorem rest_is {r : Nat} (h : r < 1000000) : (restL r).all digB = true ∧ (restL r).length ≤ 6 ∧ mil (restL r) = (decDigits (1000000 + r)).drop 1 ∧ fold10 0 (mil (restL r)) = r ∧ (restL r = [] → r = 0) := by
  obtain ⟨D, e, h6, hall, hf⟩ := seven h
  have hd : (decDigits (1000000 + r)).drop 1 = D := by rw [e]; rfl
  have hb := trim_back D 48
  have hl : (trimRightB D 48).length ≤ 6 := by
    have := congrArg List.length hb
    simp only [List.length_append, List.length_replicate] at this; omega
  have hm : mil (trimRightB D 48) = D := by
    rw [mil, if_neg (by omega), ← h6]; exact hb
  unfold restL
  rw [hd]
  refine ⟨trim_all hall, hl, hm, by rw [hm, hf], fun h0 => ?_⟩
  rw [h0] at hm
  have : fold10 0 D = 0 := by rw [← hm]; decide
  omega
def restTail (r : Nat) : List UInt8 := if r = 0 then [] else 46 :: restL r
theorem textL_is (a : Int) : textL a = (if a < 0 then [45] else []) ++ (decDigits (Dec.absI a / 1000000).toNat ++ restTail (Dec.absI a % 1000000).toNat) := by
  have h0 : 0 ≤ Dec.absI a := Dec.absI_nonneg a
  unfold textL restTail restL
  rw [List.append_assoc]
  congr 2
  by_cases hr : Dec.absI a % 1000000 = 0
  · simp [hr]
  · have e1 : (Dec.absI a % 1000000).toNat ≠ 0 := by omega
    have e2 : (1000000 + Dec.absI a % 1000000).toNat = 1000000 + (Dec.absI a % 1000000).toNat := by omega
    rw [if_neg hr, if_neg e1, e2]
theorem plain_body (q r : Nat) (hr : r < 1000000) : plainP (decDigits q ++ restTail r) = ⟨false, decDigits q, if r = 0 then [] else restL r, (decDigits q ++ restTail r).length⟩ := by
  obtain ⟨hall, hl, hm, hf, hz⟩ := rest_is hr
  have ht : (restTail r).takeWhile digB = [] := by
    unfold restTail; split
    · rfl
    · rw [List.takeWhile_cons]; rfl
  have hw : (decDigits q ++ restTail r).takeWhile digB = decDigits q := by
    rw [List.takeWhile_append_of_pos (fun b hb => List.all_eq_true.mp (dec_all q) b hb), ht, List.append_nil]
  have hd : (decDigits q ++ restTail r).drop (decDigits q).length = restTail r := List.drop_left
  unfold plainP
  simp only [hw, hd]
  by_cases h0 : r = 0
  · subst h0; simp [restTail]
  · have hn : restL r ≠ [] := fun h => h0 (hz h)
    have hk : (restL r).takeWhile digB = restL r := by
      have := List.takeWhile_append_of_pos (p := digB) (l₁ := restL r) (l₂ := []) (fun b hb => List.all_eq_true.mp hall b hb)
      simpa using this
    simp [restTail, h0, hk, hn]; omega
theorem body_front (q r : Nat) : ∃ b t, decDigits q ++ restTail r = b :: t ∧ digB b = true := by
  cases h : decDigits q with
  | nil => exact absurd h (dec_ne q)
  | cons b t =>
    have := dec_all q
    rw [h, List.all_cons, Bool.and_eq_true] at this
    exact ⟨b, _, rfl, this.1⟩
theorem dig_not {b : UInt8} (h : digB b = true) : b ≠ 32 ∧ b ≠ 45 ∧ b ≠ 43 := by
  refine ⟨?_, ?_, ?_⟩ <;> rintro rfl <;> simp [digB] at h
theorem body_sign (q r : Nat) : rowFrom blank (decDigits q ++ restTail r) 0 = 0 ∧ hasPrefix (decDigits q ++ restTail r) [45] = false ∧ trimPrefix (decDigits q ++ restTail r) [43] = decDigits q ++ restTail r := by
  obtain ⟨b, t, e, hb⟩ := body_front q r
  obtain ⟨h1, h2, h3⟩ := dig_not hb
  rw [e]
  have h2' : ¬ 45 = b := fun h => h2 h.symm
  have h3' : ¬ 43 = b := fun h => h3 h.symm
  refine ⟨by simp [rowFrom, blank, h1], by simp [hasPrefix, List.isPrefixOf, h2'], by simp [trimPrefix, hasPrefix, List.isPrefixOf, h3']⟩
theorem front_text {a : Int} (h : Dec.okB a = true) : frontB (textL a) = true ∧ frontV (textL a) = a ∧ frontN (textL a) = (textL a).length := by
  obtain ⟨ha1, ha2⟩ := Dec.of_okB h
  have h0 := Dec.absI_nonneg a
  have hle : Dec.absI a ≤ 9000000000000 := Dec.absI_le ha1 ha2
  generalize hq : (Dec.absI a / 1000000).toNat = q
  generalize hr : (Dec.absI a % 1000000).toNat = r
  have hr6 : r < 1000000 := by omega
  have hqr : (q : Int) * 1000000 + r = Dec.absI a := by omega
  obtain ⟨hall, hl, hm, hf, hz⟩ := rest_is hr6
  obtain ⟨s1, s2, s3⟩ := body_sign q r
  have hv : valP (plainP (decDigits q ++ restTail r)) = Dec.absI a := by
    rw [plain_body q r hr6]
    simp only [valP]
    rw [fold10_six _ (mil_length _), fold_dec]
    split
    · rename_i hr0; subst hr0
      rw [show fold10 0 (mil []) = 0 by decide]; omega
    · rw [hf]; exact hqr
  have hs : (plainP (decDigits q ++ restTail r)).size = (decDigits q ++ restTail r).length := by rw [plain_body q r hr6]
  have hpos : 0 < (decDigits q ++ restTail r).length := by
    obtain ⟨b, t, e, _⟩ := body_front q r
    rw [e]; simp
  have hok : okP (plainP (decDigits q ++ restTail r)) = true := by
    simp only [okP, hv, hs, Bool.and_eq_true, decide_eq_true_eq]; omega
  have ht : textL a = (if a < 0 then [45] else []) ++ (decDigits q ++ restTail r) := by rw [textL_is, hq, hr]
  by_cases hn : a < 0
  · have e1 : textL a = 45 :: (decDigits q ++ restTail r) := by rw [ht, if_pos hn]; rfl
    have k1 : rowFrom blank (textL a) 0 = 0 := by rw [e1]; simp [rowFrom, blank]
    have k2 : negB (textL a) = true := by unfold negB; rw [k1, e1]; rfl
    have k3 : behindSign (textL a) = decDigits q ++ restTail r := by unfold behindSign; rw [k1, e1]; rfl
    refine ⟨by rw [frontB, k3, hok], ?_, ?_⟩
    · rw [frontV, frontB, k3, hok, k2, hv, Dec.absI_neg hn]; simp
    · rw [frontN, frontB, k3, hok, hs, e1]; simp; omega
  · have e1 : textL a = decDigits q ++ restTail r := by rw [ht, if_neg hn]; rfl
    have k1 : rowFrom blank (textL a) 0 = 0 := by rw [e1]; exact s1
    have k2 : negB (textL a) = false := by unfold negB; rw [k1, e1]; exact s2
    have k3 : behindSign (textL a) = decDigits q ++ restTail r := by unfold behindSign; rw [k1, e1]; simp only [List.drop_zero, s2, s3]; rfl
    refine ⟨by rw [frontB, k3, hok], ?_, ?_⟩
    · rw [frontV, frontB, k3, hok, k2, hv, Dec.absI_pos (by omega)]; simp
    · rw [frontN, frontB, k3, hok, hs, e1]; simp
theorem text_pos (a : Int) : 0 < (textL a).length := by
  rw [textL_is]
  obtain ⟨b, t, e, _⟩ := body_front (Dec.absI a / 1000000).toNat (Dec.absI a % 1000000).toNat
  rw [e]; simp; omega
theorem looks_text {a : Int} (h : Dec.okB a = true) : looksB (textL a) = true ∧ looksV (textL a) = a := by
  obtain ⟨h1, h2, h3⟩ := front_text h
  have hb : looksB (textL a) = true := by
    have := text_pos a
    simp only [looksB, h3, List.drop_length, List.all_nil, Bool.and_true, decide_eq_true_eq]; omega
  exact ⟨hb, by rw [looksV, hb, h2]; rfl⟩
theorem looks_shown (a : Int) : looksB (decTextL a) = Dec.okB a := by
  unfold decTextL
  cases h : Dec.okB a with
  | true => rw [if_pos rfl]; exact (looks_text h).1
  | false => rfl
theorem looks_value {a : Int} (h : Dec.okB a = true) : looksV (decTextL a) = a := by
  unfold decTextL; rw [if_pos h]; exact (looks_text h).2

/-! What is read is right -/
theorem valP_bd {l : List UInt8} : 0 ≤ valP (plainP l) := by
  have hw : (plainP l).whole.all digB = true := List.all_takeWhile
  have hr : (plainP l).rest.all digB = true := by
    unfold plainP; simp only; split
    · exact List.all_takeWhile
    · rfl
  have h1 := fold10_ge (Int.le_refl 0) hw
  have h2 := fold10_ge h1 (mil_digits hr)
  unfold valP; omega
theorem frontV_ok (l : List UInt8) : Dec.okB (frontV l) = true := by
  unfold frontV
  split
  · rename_i h
    simp only [frontB, okP, Bool.and_eq_true, decide_eq_true_eq] at h
    have := valP_bd (l := behindSign l)
    split <;> exact Dec.okB_true (by omega) (by omega)
  · decide
theorem looksV_ok (l : List UInt8) : Dec.okB (looksV l) = true := by
  unfold looksV; split
  · exact frontV_ok l
  · decide
theorem plain_size (l : List UInt8) : (plainP l).size ≤ l.length := by
  have h1 : (l.takeWhile digB).length ≤ l.length := (List.takeWhile_sublist _).length_le
  unfold plainP; simp only
  by_cases hh : (l.drop (l.takeWhile digB).length).head? = some 46
  · rw [if_pos hh]
    have h2 : (((l.drop (l.takeWhile digB).length).drop 1).takeWhile digB).length ≤ ((l.drop (l.takeWhile digB).length).drop 1).length := (List.takeWhile_sublist _).length_le
    have h3 : 0 < (l.drop (l.takeWhile digB).length).length := by
      cases hc : l.drop (l.takeWhile digB).length with
      | nil => rw [hc] at hh; cases hh
      | cons b t => simp
    rw [List.length_drop] at h3
    rw [List.length_drop, List.length_drop] at h2
    split <;> omega
  · rw [if_neg hh, if_pos rfl]; omega
theorem behind_le (l : List UInt8) : (behindSign l).length ≤ l.length := by
  unfold behindSign trimPrefix; simp only
  split
  · simp
  · split <;> simp
theorem frontN_le (l : List UInt8) : frontN l ≤ l.length := by
  have := plain_size (behindSign l)
  have := behind_le l
  unfold frontN; split <;> omega
end Go.Proofs.Ytipjgkekjocljab.Num
