/-
  The specification's DecFront and DecLooks, at every text.
  Chapter 6 as plain functions: what a value is as a number, as a text, as a truth, whether it is right, what is read of a text.
-/
import Derived.Test.YtkhoccjfkkfipaaGreatDoorP23
import Derived.Test.YtkhoccjfkkfipaaGreatDoorP20
import Derived.Test.YtkhoccjfkkfipaaGreatDoorP12
namespace Go.Proofs.YtkhoccjfkkfipaaGreatDoor
open Go.RowKit Go.Extern.Stop Go.Stop Go.Extern

theorem satN_bd {n : Int} (h0 : 0 ≤ n) (h1 : n ≤ 90000009000000) {l : List UInt8} (hl : l.all Num.digB = true) : 0 ≤ Num.satN n l ∧ Num.satN n l ≤ 90000009000000 := by
  induction l generalizing n with
  | nil => exact ⟨h0, h1⟩
  | cons b r ih =>
    simp only [List.all_cons, Bool.and_eq_true] at hl
    obtain ⟨d1, d2⟩ := Num.dv_bd hl.1
    by_cases hc : n ≤ 9000000000000
    · simp only [Num.satN, if_pos hc]; exact ih (by omega) (by omega) hl.2
    · simp only [Num.satN, if_neg hc]; exact ih h0 h1 hl.2
theorem head_at {s : ByteArray} {k : Nat} (h : k < s.size) (c : UInt8) : Lib.hasPrefix (s.data.toList.drop k) [c] = true ↔ (s[k].toNat : Int) = c.toNat := by
  have hl : k < s.data.toList.length := by simpa using h
  rw [Num.head_pre, decide_eq_true_eq, Num.drop_at hl, List.head?_cons, Option.some.injEq]
  constructor
  · intro e
    have e' : s[k] = c := e
    rw [e']
  · intro e
    have e' : s[k].toNat = c.toNat := by omega
    exact UInt8.toNat_inj.mp e'
theorem head_off {s : ByteArray} {k : Nat} (h : ¬ k < s.size) (c : UInt8) : Lib.hasPrefix (s.data.toList.drop k) [c] = false := by
  rw [List.drop_eq_nil_of_le (by simpa using h)]; rfl

theorem sDecFront (s : ByteArray) (w : World) (hs : (s.size : Int) ≤ 9223372036854775806) :
    Calls Tryz.prog 104 #[.string s] w fun e w' => e = .returned (.tuple #[.int .i64 (Num.frontV s.data.toList), .int .i64 (Num.frontN s.data.toList)]) ∧ w' = w := by
  have hlen : s.data.toList.length = s.size := by simp
  generalize hl : s.data.toList = l at *
  obtain ⟨k, hk⟩ : ∃ k, k = Num.rowFrom Num.blank l 0 := ⟨_, rfl⟩
  have hkl : k ≤ s.size := by rw [hk]; have := Num.row_le Num.blank l 0; omega
  obtain ⟨sg, hsg⟩ : ∃ sg, sg = (Lib.hasPrefix (l.drop k) [45] || Lib.hasPrefix (l.drop k) [43]) := ⟨_, rfl⟩
  obtain ⟨j, hj⟩ : ∃ j, j = if sg then k + 1 else k := ⟨_, rfl⟩
  have hsg' : sg = true ↔ ∃ h : k < s.size, (s[k].toNat : Int) = 45 ∨ (s[k].toNat : Int) = 43 := by
    rw [hsg, ← hl]
    by_cases h : k < s.size
    · rw [Bool.or_eq_true, head_at h, head_at h]
      exact ⟨fun hh => ⟨h, hh⟩, fun ⟨_, hh⟩ => hh⟩
    · rw [head_off h, head_off h]
      exact ⟨fun hh => (by cases hh), fun ⟨hh, _⟩ => absurd hh h⟩
  have hnb : Num.negB l = true ↔ ∃ h : k < s.size, (s[k].toNat : Int) = 45 := by
    unfold Num.negB
    rw [← hk, ← hl]
    by_cases h : k < s.size
    · rw [head_at h]
      exact ⟨fun hh => ⟨h, hh⟩, fun ⟨_, hh⟩ => hh⟩
    · rw [head_off h]
      exact ⟨fun hh => (by cases hh), fun ⟨hh, _⟩ => absurd hh h⟩
  have hbe : Num.behindSign l = l.drop j := by
    unfold Num.behindSign
    rw [← hk]
    simp only
    cases h1 : Lib.hasPrefix (l.drop k) [45] with
    | true => rw [hj, hsg, h1]; simp
    | false =>
      rw [hj, hsg, h1]
      unfold Lib.trimPrefix
      cases h2 : Lib.hasPrefix (l.drop k) [43] <;> simp
  have hjl : j ≤ s.size := by
    rw [hj]
    cases hc : sg with
    | true => have := (hsg'.mp hc).1; simp; omega
    | false => simpa using hkl
  obtain ⟨m, hm⟩ : ∃ m, m = j + Num.rowFrom Num.digB l j := ⟨_, rfl⟩
  have hml : m ≤ s.size := by have := Num.row_le Num.digB l j; omega
  obtain ⟨q, hq⟩ : ∃ q, q = m + 1 + Num.rowFrom Num.digB l (m + 1) := ⟨_, rfl⟩
  have hql : m + 1 ≤ s.size → q ≤ s.size := by intro h; have := Num.row_le Num.digB l (m + 1); omega
  obtain ⟨fr, hfr⟩ : ∃ fr, fr = (Lib.hasPrefix (l.drop m) [46] && decide (0 < Num.rowFrom Num.digB l (m + 1))) := ⟨_, rfl⟩
  have hpos : 0 < Num.rowFrom Num.digB l (m + 1) ↔ ∃ h : m + 1 < s.size, Num.digB s[m + 1] = true := by
    constructor
    · intro h
      obtain ⟨h1, h2⟩ := Num.row_in (p := Num.digB) (l := l) (k := m + 1) (j := m + 1) (Nat.le_refl _) (by omega)
      subst hl
      exact ⟨by omega, h2⟩
    · rintro ⟨h1, h2⟩
      subst hl
      have := Num.row_step (p := Num.digB) (l := s.data.toList) (k := m + 1) (by omega) h2
      omega
  have hfr' : fr = true ↔ ∃ h : m + 1 < s.size, (s[m].toNat : Int) = 46 ∧ Num.digB s[m + 1] = true := by
    rw [hfr, Bool.and_eq_true, decide_eq_true_eq, hpos]
    constructor
    · rintro ⟨h1, h2, h3⟩
      rw [← hl, head_at (by omega)] at h1
      exact ⟨h2, h1, h3⟩
    · rintro ⟨h2, h1, h3⟩
      rw [← hl, head_at (by omega)]
      exact ⟨h1, h2, h3⟩
  obtain ⟨N0, hN0⟩ : ∃ N0, N0 = Num.satN 0 ((l.drop j).takeWhile Num.digB) := ⟨_, rfl⟩
  have hN0b : 0 ≤ N0 ∧ N0 ≤ 90000009000000 := by rw [hN0]; exact satN_bd (by decide) (by decide) List.all_takeWhile
  obtain ⟨N1, hN1⟩ : ∃ N1, N1 = if fr then Num.fracN N0 100000 ((l.drop (m + 1)).takeWhile Num.digB) else N0 := ⟨_, rfl⟩
  have hN1b : N1 ≤ 90000010000000 ∧ 0 ≤ N1 := by
    rw [hN1]
    cases fr with
    | false => simp; omega
    | true =>
      have hb := Num.fold6_bd (Num.mil_length ((l.drop (m + 1)).takeWhile Num.digB)) (Num.mil_digits List.all_takeWhile)
      rw [Num.fracN_eq]; simp; omega
  obtain ⟨A, hA⟩ : ∃ A, A = if fr then q else m := ⟨_, rfl⟩
  obtain ⟨C1, hC1⟩ : ∃ C1 : Int, C1 = if fr then (q : Int) - 1 - j else (m : Int) - j := ⟨_, rfl⟩
  have hF : Front s k j m q A (Num.negB l) sg fr (decide (C1 = 0 ∨ 9000000000000 < N1)) N0 N1 C1 := by
    have hget : ∀ i (h : i < s.size) (h' : i < l.length), l[i] = s[i] := by intro i h h'; subst hl; rfl
    have h32 : ∀ b : UInt8, Num.blank b = true ↔ (b.toNat : Int) = 32 := by
      intro b
      unfold Num.blank
      rw [beq_iff_eq]
      constructor
      · rintro rfl; rfl
      · intro e; exact UInt8.toNat_inj.mp (by show b.toNat = 32; omega)
    refine { hs := hs, hk := ?_, hkl := hkl, hke := ?_, hnb := hnb, hsg := hsg', hj1 := ?_, hj0 := ?_, hm := ?_, hjm := by omega, hml := hml, hme := ?_, hN0 := by rw [hl, hN0], hN0b := hN0b, hM := ?_, hfr := hfr', hq := ?_, hqd := ?_, hqe := ?_, hN1 := ?_, hQ := ?_, hA1 := ?_, hA0 := ?_, hbad := by simp, hN1b := hN1b }
    · intro i hi
      obtain ⟨h1, h2⟩ := Num.row_in (p := Num.blank) (l := l) (k := 0) (j := i) (Nat.zero_le _) (by omega)
      have h3 : i < s.size := by omega
      rw [hget i h3 h1] at h2
      exact ⟨h3, (h32 _).mp h2⟩
    · intro h e
      have h1 := Num.row_next (p := Num.blank) (l := l) (k := 0) (by omega)
      simp only [Nat.zero_add, ← hk] at h1
      rw [hget k h (by omega), (h32 _).mpr e] at h1
      cases h1
    · intro h; rw [hj, if_pos h]
    · intro h; rw [hj, h]; rfl
    · intro i h1 h2
      obtain ⟨h3, h4⟩ := Num.row_in (p := Num.digB) (l := l) (k := j) (j := i) h1 (by omega)
      have h5 : i < s.size := by omega
      rw [hget i h5 h3] at h4
      exact ⟨h5, h4⟩
    · intro h
      have h1 := Num.row_next (p := Num.digB) (l := l) (k := j) (by omega)
      simp only [← hm] at h1
      rw [hget m h (by omega)] at h1
      exact h1
    · rw [hl]
      apply Num.take_stop
      have := Num.row_move (p := Num.digB) (l := l) (k := j) (j := m) (by omega) (by omega)
      omega
    · intro h
      obtain ⟨h1, h2, h3⟩ := hfr'.mp h
      have := hpos.mpr ⟨h1, h3⟩
      exact ⟨by omega, hql (by omega)⟩
    · intro i h1 h2
      obtain ⟨h3, h4⟩ := Num.row_in (p := Num.digB) (l := l) (k := m + 1) (j := i) h1 (by omega)
      have h5 : i < s.size := by omega
      rw [hget i h5 h3] at h4
      exact ⟨h5, h4⟩
    · intro h
      have h1 := Num.row_next (p := Num.digB) (l := l) (k := m + 1) (by omega)
      simp only [← hq] at h1
      rw [hget q h (by omega)] at h1
      exact h1
    · intro h; rw [hl, hN1, if_pos h]
    · rw [hl]
      apply Num.take_stop
      have := Num.row_move (p := Num.digB) (l := l) (k := m + 1) (j := q) (by omega) (by omega)
      omega
    · intro h; rw [hA, hC1, if_pos h, if_pos h]; exact ⟨rfl, rfl⟩
    · intro h; rw [hA, hC1, hN1, h]; exact ⟨rfl, rfl, rfl⟩
  have hfin : (C1 ≠ 0 ∧ N1 ≤ 9000000000000 ∧ 0 ≤ N1 ∧ Num.frontV l = (if Num.negB l then 0 - N1 else N1) ∧ Num.frontN l = A) ∨ ((C1 = 0 ∨ 9000000000000 < N1) ∧ Num.frontV l = 0 ∧ Num.frontN l = 0) := by
    have e1 : ((l.drop j).takeWhile Num.digB).length = Num.rowFrom Num.digB l j := rfl
    have e2 : ((l.drop (m + 1)).takeWhile Num.digB).length = Num.rowFrom Num.digB l (m + 1) := rfl
    cases hc : fr with
    | false =>
      have hp := Num.plain_nofrac (l := l) (k := j) (by
        intro h1 h2
        rw [← hm] at h1
        simp only [← hm] at h2 ⊢
        cases hd : Num.digB (l[m + 1]'h1) with
        | false => rfl
        | true =>
          have : fr = true := hfr'.mpr ⟨by omega, by subst hl; have e' : s[m] = 46 := h2; rw [e']; rfl, by subst hl; exact hd⟩
          rw [hc] at this; cases this)
      have := Num.fin_of rfl hbe (by omega) hp
      simp only [e1, List.length_nil, Num.fracN] at this
      rw [← hN0] at this
      have hN : N1 = N0 := by rw [hN1, hc]; rfl
      have hAm : A = m := by rw [hA, hc]; rfl
      have hCm : C1 = (m : Int) - j := by rw [hC1, hc]; rfl
      rw [hN, hAm, hCm]
      rcases this with ⟨g1, g2, g3, g4, g5⟩ | ⟨g1, g2, g3⟩
      · exact Or.inl ⟨by omega, g2, g3, g4, by omega⟩
      · exact Or.inr ⟨by rcases g1 with g1 | g1; exact Or.inl (by omega); exact Or.inr g1, g2, g3⟩
    | true =>
      obtain ⟨h1, h2, h3⟩ := hfr'.mp hc
      have hp := Num.plain_frac (l := l) (k := j) (by omega) (by
        simp only [← hm]
        subst hl
        exact UInt8.toNat_inj.mp (by show s[m].toNat = 46; omega)) (by
        simp only [← hm]
        subst hl
        exact h3)
      have := Num.fin_of rfl hbe (by omega) hp
      simp only [← hm] at this
      simp only [e1, e2] at this
      rw [← hN0] at this
      have hN : N1 = Num.fracN N0 100000 ((l.drop (m + 1)).takeWhile Num.digB) := by rw [hN1, hc]; rfl
      have hAm : A = q := by rw [hA, hc]; rfl
      have hCm : C1 = (q : Int) - 1 - j := by rw [hC1, hc]; rfl
      rw [← hN] at this
      rw [hAm, hCm]
      rcases this with ⟨g1, g2, g3, g4, g5⟩ | ⟨g1, g2, g3⟩
      · exact Or.inl ⟨by omega, g2, g3, g4, by omega⟩
      · exact Or.inr ⟨by rcases g1 with g1 | g1; exact Or.inl (by omega); exact Or.inr g1, g2, g3⟩
  have := sFrontWalk s w k j m q A _ _ _ _ _ _ _ hF
  rcases hfin with ⟨g1, g2, g3, g4, g5⟩ | ⟨g1, g2, g3⟩
  · have hb : decide (C1 = 0 ∨ 9000000000000 < N1) = false := by simp; omega
    rw [g4, g5]
    simp only [hb] at this
    exact this
  · have hb : decide (C1 = 0 ∨ 9000000000000 < N1) = true := by simpa using g1
    rw [g2, g3]
    simp only [hb] at this
    exact this

theorem sDecLooks (s : ByteArray) (w : World) (hs : (s.size : Int) ≤ 9223372036854775806) :
    Calls Tryz.prog 87 #[.string s] w fun e w' => e = .returned (.tuple #[.int .i64 (Num.looksV s.data.toList), .bool (Num.looksB s.data.toList)]) ∧ w' = w := by
  have hfr := sDecFront s w hs
  have hle := Num.frontN_le s.data.toList
  have hlen : s.data.toList.length = s.size := by simp
  by_cases h0 : Num.frontN s.data.toList = 0
  · have e1 : Num.looksB s.data.toList = false := by unfold Num.looksB; rw [h0]; rfl
    have e2 : Num.looksV s.data.toList = 0 := by unfold Num.looksV; rw [e1]; rfl
    rw [e1, e2]
    rw [h0] at hfr
    go_enter Tryz.func87, Tryz.ntmps87
    go_wp2_with (go_at_call 104; refine hfr.mono ?_; rintro e w' ⟨rfl, rfl⟩)
    refine bodyPost_ret (v := .tuple #[.int .i64 0, .bool false]) (by simp [results, Tryz.results87, go_sem]) rfl ⟨rfl, rfl⟩
  · have e1 : Num.looksB s.data.toList = (s.data.toList.drop (Num.frontN s.data.toList)).all Num.blank := by unfold Num.looksB; simp [h0]
    have e2 : Num.looksV s.data.toList = if (s.data.toList.drop (Num.frontN s.data.toList)).all Num.blank then Num.frontV s.data.toList else 0 := by unfold Num.looksV; rw [e1]
    rw [e1, e2]
    have hne : ¬ (Num.frontN s.data.toList : Int) = 0 := by omega
    clear e1 e2 h0
    generalize Num.frontN s.data.toList = n at *
    generalize Num.frontV s.data.toList = V at *
    obtain ⟨X, hX⟩ : ∃ X, X = (s.data.toList.drop n).all Num.blank := ⟨_, rfl⟩
    rw [← hX]
    obtain ⟨Y, hY⟩ : ∃ Y : Int, Y = if X then V else 0 := ⟨_, rfl⟩
    rw [← hY]
    have HY : Hid (Y = if X then V else 0) := hY
    clear hY
    have HX : Hid ((s.data.toList.drop n).all Num.blank = X) := hX.symm
    clear hX
    go_enter Tryz.func87, Tryz.ntmps87
    go_wp2_with (go_at_call 104; refine hfr.mono ?_; rintro e w' ⟨rfl, rfl⟩)
    go_loop [5] (fun v => ∃ i : Nat, i ≤ s.size ∧ v = .int .i64 i ∧ (s.data.toList.drop i).all Num.blank = X) (fun v => s.size - (intOf v).toNat)
    case atStart => exact ⟨n, by omega, rfl, HX.out⟩
    case round =>
      obtain ⟨i, hi, rfl, hx⟩ := hrel
      have H : Hid ((s.data.toList.drop i).all Num.blank = X) := hx
      clear hx
      by_cases hq : i < s.size
      · have HD : Hid (s.data.toList.drop i = s[i] :: s.data.toList.drop (i + 1)) := Num.drop_at (by omega)
        by_cases hb : (s[i].toNat : Int) = 32
        · have h32 : s[i] = 32 := UInt8.toNat_inj.mp (by show s[i].toNat = 32; omega)
          have HB : Hid ((s.data.toList.drop (i + 1)).all Num.blank = X) := by
            show _ = _
            rw [← H.out, HD.out, List.all_cons, h32]; rfl
          clear h32
          go_wp2
          go_round
          case rel => exact ⟨i + 1, by omega, by go_num, HB.out⟩
          case measure => simp [intOf]; omega
        · have hb' : ((s[i].toNat : Int) == 32) = false := by simp [hb]
          have HB : Hid (X = false) := by
            show _ = _
            have e : Num.blank s[i] = false := by
              unfold Num.blank; rw [beq_eq_false_iff_ne]; intro e; rw [e] at hb; exact hb rfl
            rw [← H.out, HD.out, List.all_cons, e]; rfl
          go_wp2
          refine bodyPost_ret (v := .tuple #[.int .i64 0, .bool false]) (by simp [results, Tryz.results87, go_sem]) rfl ⟨?_, rfl⟩
          rw [HY.out, HB.out]; rfl
      · have HB : Hid (X = true) := by
          show _ = _
          rw [← H.out, List.drop_eq_nil_of_le (by omega)]; rfl
        go_wp2
        refine bodyPost_ret (v := .tuple #[.int .i64 V, .bool true]) (by simp [results, Tryz.results87, go_sem]) rfl ⟨?_, rfl⟩
        rw [HY.out, HB.out]; rfl
end Go.Proofs.YtkhoccjfkkfipaaGreatDoor
namespace Go.Proofs.YtkhoccjfkkfipaaGreatDoor
namespace Vl

def numV (k n : Int) (s : ByteArray) : Int := if k = 1 then n else if k = 3 then n else if k = 2 then Num.frontV s.data.toList else 0
theorem num1 (n : Int) (s : ByteArray) : numV 1 n s = n := rfl
theorem num3 (n : Int) (s : ByteArray) : numV 3 n s = n := rfl
theorem num2 (n : Int) (s : ByteArray) : numV 2 n s = Num.frontV s.data.toList := rfl
theorem num0 {k : Int} (h1 : k ≠ 1) (h2 : k ≠ 2) (h3 : k ≠ 3) (n : Int) (s : ByteArray) : numV k n s = 0 := by simp [numV, h1, h2, h3]
def textV (k n : Int) (s : ByteArray) : ByteArray := if k = 1 then ⟨(Num.decTextL n).toArray⟩ else s
theorem text1 (n : Int) (s : ByteArray) : textV 1 n s = ⟨(Num.decTextL n).toArray⟩ := rfl
theorem text0 {k : Int} (h1 : k ≠ 1) (n : Int) (s : ByteArray) : textV k n s = s := by simp [textV, h1]
/-- an empty text -/
def mtB (s : ByteArray) : Bool := s.toList.isEmpty
def truthB (k n : Int) (s : ByteArray) : Bool := if k = 1 then !(n == 0) else if k = 3 then !(n == 0) else if k = 2 then !(mtB s) else false
theorem truth1 (n : Int) (s : ByteArray) : truthB 1 n s = !(n == 0) := rfl
theorem truth3 (n : Int) (s : ByteArray) : truthB 3 n s = !(n == 0) := rfl
theorem truth2 (n : Int) (s : ByteArray) : truthB 2 n s = !(mtB s) := rfl
theorem truth0 {k : Int} (h1 : k ≠ 1) (h2 : k ≠ 2) (h3 : k ≠ 3) (n : Int) (s : ByteArray) : truthB k n s = false := by simp [truthB, h1, h2, h3]
/-- right, but for the number and the length -/
def kindB (k n : Int) (s : ByteArray) : Bool := if k = 0 then (n == 0 && mtB s) else if k = 1 then mtB s else if k = 2 then n == 0 else if k = 3 then (Num.looksB s.data.toList && Num.looksV s.data.toList == n) else false
theorem kind0 (n : Int) (s : ByteArray) : kindB 0 n s = (n == 0 && mtB s) := rfl
theorem kind1 (n : Int) (s : ByteArray) : kindB 1 n s = (mtB s) := rfl
theorem kind2 (n : Int) (s : ByteArray) : kindB 2 n s = (n == 0) := rfl
theorem kind3 (n : Int) (s : ByteArray) : kindB 3 n s = (Num.looksB s.data.toList && Num.looksV s.data.toList == n) := rfl
theorem kind9 {k : Int} (h0 : k ≠ 0) (h1 : k ≠ 1) (h2 : k ≠ 2) (h3 : k ≠ 3) (n : Int) (s : ByteArray) : kindB k n s = false := by simp [kindB, h0, h1, h2, h3]
def okV (k n : Int) (s : ByteArray) : Bool := Dec.okB n && decide ((s.size : Int) ≤ 300) && kindB k n s
theorem ok_num {n : Int} (h : Dec.okB n = false) (k : Int) (s : ByteArray) : okV k n s = false := by simp [okV, h]
theorem ok_long {s : ByteArray} (h : (300 : Int) < s.size) (k n : Int) : okV k n s = false := by
  have : decide ((s.size : Int) ≤ 300) = false := by simp; omega
  simp [okV, this]
theorem ok_kind {n : Int} {s : ByteArray} (h : Dec.okB n = true) (hs : (s.size : Int) ≤ 300) (k : Int) : okV k n s = kindB k n s := by simp [okV, h, hs]
/-- what is not more than a value may hold -/
def cutV (s : ByteArray) : ByteArray := if (300 : Int) < s.size then s.extract 0 300 else s
theorem cut_long {s : ByteArray} (h : (300 : Int) < s.size) : cutV s = s.extract 0 300 := by simp [cutV, h]
theorem cut_short {s : ByteArray} (h : (s.size : Int) ≤ 300) : cutV s = s := by unfold cutV; rw [if_neg (by omega)]
theorem cut_size (s : ByteArray) : ((cutV s).size : Int) ≤ 300 := by
  unfold cutV; split
  · rw [ByteArray.size_extract]; omega
  · omega
/-- what is read of a text -/
def rdK (s : ByteArray) : Int := if Num.looksB (cutV s).data.toList then 3 else 2
def rdN (s : ByteArray) : Int := if Num.looksB (cutV s).data.toList then Num.looksV (cutV s).data.toList else 0
end Vl
end Go.Proofs.YtkhoccjfkkfipaaGreatDoor
