/-
  Rows of bytes at the front of a text: rowOf, blanksOf, digitsOf.
  The front of a text, as the program cuts it: plainFront, signedFront.
-/
import Derived.Test.YtkhoccjfkkfipaaGreatDoorP17
import Derived.Test.YtkhoccjfkkfipaaGreatDoorP20
import Derived.Laws.RangeString
import Derived.Laws.RangeAny
import Derived.LoopTactic
import Derived.Test.YtkhoccjfkkfipaaGreatDoorP13
namespace Go.Proofs.YtkhoccjfkkfipaaGreatDoor
open Go.RowKit Go.Extern.Stop Go.Stop Go.Extern

theorem low_of {b : UInt8} {lo hi : Nat} (h : (decide (lo ≤ b.toNat) && decide (b.toNat ≤ hi)) = true) : lo ≤ b.toNat ∧ b.toNat ≤ hi := by simpa using h
theorem get_l {s : ByteArray} {k : Nat} (h : k < s.size) : s.data.toList[k]'(by simpa using h) = s[k] := rfl
theorem below_iter (w : World) (s : ByteArray) (pos : Nat) : Below w.heap.size w (w.iter s pos) := (Below.refl _ w).alloc (Nat.le_refl _) _

theorem ret_nat {a b : Nat} (h : a = b) : Ending.returned (.int .i64 (a : Int)) = .returned (.int .i64 (b : Int)) := by rw [h]

set_option maxRecDepth 1000000 in
theorem iRowOf (s : ByteArray) (lo hi : Nat) (p : UInt8 → Bool) (hp : ∀ b, p b = (decide (lo ≤ b.toNat) && decide (b.toNat ≤ hi))) (hhi : (hi : Int) < 128) (w : World) :
    Calls Tryz.prog 158 #[.string s, .int .i32 lo, .int .i32 hi] w fun e w' => e = .returned (.int .i64 (Num.rowFrom p s.data.toList 0)) ∧ Below w.heap.size w w' := by
  have hlen : s.data.toList.length = s.size := by simp
  go_enter Tryz.func158, Tryz.ntmps158
  go_wp2
  go_loopw [] (fun w' => ∃ pos : Nat, w' = w.iter s pos ∧ pos ≤ s.size ∧ pos + Num.rowFrom p s.data.toList pos = Num.rowFrom p s.data.toList 0) (fun w' => s.size - w'.iterPos w.heap.size)
  case atStart => exact ⟨0, rfl, Nat.zero_le _, by omega⟩
  case round =>
    obtain ⟨pos, rfl, hle, hrow⟩ := hrel
    have H : Hid (pos + Num.rowFrom p s.data.toList pos = Num.rowFrom p s.data.toList 0) := hrow
    clear hrow
    by_cases hq : pos < s.size
    · have hnx : ∀ ty, (Instr.next (.pointer (some ⟨w.heap.size, 0, none⟩)) true ty).run Tryz.prog (w.iter s pos) = _ := fun ty => run_next_any w s pos ty hq
      by_cases hb : p s[pos] = true
      · obtain ⟨b1, b2⟩ := low_of ((hp _).symm.trans hb)
        have hd := decode_ascii s pos hq (by omega)
        rw [hd] at hnx
        have b1' : (lo : Int) ≤ (s[pos].toNat : Int) := by omega
        have b2' : (s[pos].toNat : Int) ≤ (hi : Int) := by omega
        have HS := Num.row_step (p := p) (l := s.data.toList) (k := pos) (by omega) hb
        have H2 : Hid (Num.rowFrom p s.data.toList pos = Num.rowFrom p s.data.toList (pos + 1) + 1) := HS
        clear HS hd hb b1 b2
        go_wp2
        go_roundw
        case rel => exact ⟨pos + 1, rfl, by omega, by have := H.out; have := H2.out; omega⟩
        case measure => simp; omega
      · have hb' : p s[pos] = false := by simpa using hb
        have H2 : Hid (Num.rowFrom p s.data.toList pos = 0) := Num.row_stop (by omega) hb'
        have hr : ((Utf8.decode s pos).1 : Int) < lo ∨ (hi : Int) < ((Utf8.decode s pos).1 : Int) := by
          rcases Nat.lt_or_ge s[pos].toNat 128 with hl | hl
          · rw [decode_ascii s pos hq hl]
            have : ¬ (lo ≤ s[pos].toNat ∧ s[pos].toNat ≤ hi) := fun hh => by
              rw [hp] at hb'; simp [hh.1, hh.2] at hb'
            show (s[pos].toNat : Int) < lo ∨ (hi : Int) < (s[pos].toNat : Int)
            omega
          · have := (decode_high s pos hq hl).1
            omega
        have e : Hid (Num.rowFrom p s.data.toList 0 = pos) := by have := H.out; have := H2.out; show _ = _; omega
        clear hb hb'
        generalize (Utf8.decode s pos).1 = r at *
        have hge : ¬ (r : Int) < lo → (hi : Int) < r := fun h => by omega
        by_cases h1 : (r : Int) < lo
        · go_wp2
          go_ret
          exact ⟨ret_nat e.out.symm, below_iter _ _ _⟩
        · have h2 := hge h1
          clear hr hge
          go_wp2
          go_ret
          exact ⟨ret_nat e.out.symm, below_iter _ _ _⟩
    · have hnx : ∀ ty, (Instr.next (.pointer (some ⟨w.heap.size, 0, none⟩)) true ty).run Tryz.prog (w.iter s pos) = _ := fun ty => run_next_end w s pos ty hq
      have e : Hid (Num.rowFrom p s.data.toList 0 = s.size) := by
        have := H.out; have := Num.row_end p (l := s.data.toList) (k := pos) (by omega); show _ = _; omega
      go_wp2
      go_ret
      exact ⟨ret_nat e.out.symm, below_iter _ _ _⟩

theorem iBlanksOf (s : ByteArray) (w : World) :
    Calls Tryz.prog 135 #[.string s] w fun e w' => e = .returned (.int .i64 (Num.rowFrom Num.blank s.data.toList 0)) ∧ Below w.heap.size w w' := by
  have hp : ∀ b : UInt8, Num.blank b = (decide (32 ≤ b.toNat) && decide (b.toNat ≤ 32)) := by
    intro b
    by_cases h : b = 32
    · subst h; rfl
    · have hn : b.toNat ≠ 32 := fun e => h (UInt8.toNat_inj.mp e)
      have e1 : Num.blank b = false := by simp [Num.blank, h]
      rw [e1]; symm; simp; omega
  have hr := fun w => iRowOf s 32 32 Num.blank hp (by decide) w
  go_enter Tryz.func135, Tryz.ntmps135
  go_wp2_with (go_at_call 158; refine (hr _).mono ?_; rintro e w' ⟨rfl, hb⟩)
  go_ret
  exact ⟨rfl, hb⟩
theorem iDigitsOf (s : ByteArray) (w : World) :
    Calls Tryz.prog 178 #[.string s] w fun e w' => e = .returned (.int .i64 (Num.rowFrom Num.digB s.data.toList 0)) ∧ Below w.heap.size w w' := by
  have hr := fun w => iRowOf s 48 57 Num.digB (fun _ => rfl) (by decide) w
  go_enter Tryz.func178, Tryz.ntmps178
  go_wp2_with (go_at_call 158; refine (hr _).mono ?_; rintro e w' ⟨rfl, hb⟩)
  go_ret
  exact ⟨rfl, hb⟩
end Go.Proofs.YtkhoccjfkkfipaaGreatDoor
namespace Go.Proofs.YtkhoccjfkkfipaaGreatDoor
open Go.RowKit Go.Extern.Stop Go.Stop Go.Extern

theorem bcell {W w1 : World} (hb : Below W.heap.size W w1) : (∀ b o, b < W.heap.size → w1.cell? ⟨b, o, none⟩ = W.cell? ⟨b, o, none⟩) ∧ (∀ b o, b < W.heap.size → w1.frozen? ⟨b, o, none⟩ = W.frozen? ⟨b, o, none⟩) :=
  ⟨fun b o h => hb.cell (p := ⟨b, o, none⟩) h, fun b o h => hb.frozen (p := ⟨b, o, none⟩) h⟩
def partsV (p : Num.Parts) : Value := .agg #[.bool p.below, .string ⟨p.whole.toArray⟩, .string ⟨p.rest.toArray⟩, .int .i64 p.size]
theorem mk_data (s : ByteArray) : (⟨s.data.toList.toArray⟩ : ByteArray) = s := by simp

theorem plain_no (s : ByteArray) (w : World) (k : Nat) (hk : k = Num.rowFrom Num.digB s.data.toList 0) (h : Lib.hasPrefix (s.data.toList.drop k) [46] = false) :
    Calls Tryz.prog 169 #[.string s] w fun e w' => e = .returned (partsV (Num.plainP s.data.toList)) ∧ Below w.heap.size w w' := by
  have hkl : k ≤ s.size := by rw [hk]; have := Num.row_le Num.digB s.data.toList 0; simpa using this
  have hdig : ∀ w, Calls Tryz.prog 178 #[.string s] w fun e w' => e = .returned (.int .i64 k) ∧ Below w.heap.size w w' := by intro w; rw [hk]; exact iDigitsOf s w
  have hcut : ∃ B, ∀ w, Calls Tryz.prog 167 #[.string (s.extract k s.size), .string ⟨#[46]⟩] w fun e w' => e = .returned (.tuple #[.string B, .bool false]) ∧ w' = w := by
    refine ⟨⟨(Lib.trimPrefix (s.data.toList.drop k) [46]).toArray⟩, fun w => ?_⟩
    have := Tryz.strings_CutPrefix (s.extract k s.size) ⟨#[46]⟩ w
    rw [Lib.extract_from] at this ⊢
    rw [show Lib.hasPrefix (⟨(s.data.toList.drop k).toArray⟩ : ByteArray).data.toList (⟨#[46]⟩ : ByteArray).data.toList = false by simpa using h] at this
    exact this
  obtain ⟨B, hcut⟩ := hcut
  have HP : Hid (partsV (Num.plainP s.data.toList) = .agg #[.bool false, .string (s.extract 0 k), .string ⟨#[]⟩, .int .i64 k]) := by
    show _ = _
    rw [Num.plain_none hk h, Lib.extract_upto]; rfl
  clear hk h
  go_enter Tryz.func169, Tryz.ntmps169
  go_wp2_with (first | (go_at_call 178; refine (hdig _).mono ?_; rintro e w1 ⟨rfl, hb⟩; obtain ⟨hc, hf⟩ := bcell hb; have hz : w.heap.size < w1.heap.size := by (have := hb.size; simp at this; omega)) | (go_at_call 167; refine (hcut _).mono ?_; rintro e w' ⟨rfl, rfl⟩))
  refine bodyPost_ret (v := .agg #[.bool false, .string (s.extract 0 k), .string ⟨#[]⟩, .int .i64 k]) (by simp [results, Tryz.results169, hc, hz, go_sem]) rfl ⟨?_, ?_⟩
  · rw [HP.out]
  · repeat (first | refine Below.setCell ?_ (by simp <;> omega) _ | refine Below.alloc ?_ (by simp <;> omega) _)
    exact ((Below.refl _ _).alloc (Nat.le_refl _) _).trans (hb.mono (by simp))

theorem plain_yes (s : ByteArray) (w : World) (hs : s.size ≤ maxLen) (k m : Nat) (hk : k = Num.rowFrom Num.digB s.data.toList 0) (h : Lib.hasPrefix (s.data.toList.drop k) [46] = true)
    (hm : m = Num.rowFrom Num.digB ((s.data.toList.drop k).drop 1) 0) :
    Calls Tryz.prog 169 #[.string s] w fun e w' => e = .returned (partsV (Num.plainP s.data.toList)) ∧ Below w.heap.size w w' := by
  unfold maxLen at hs
  have hlen : s.data.toList.length = s.size := by simp
  have hkl : k ≤ s.size := by rw [hk]; have := Num.row_le Num.digB s.data.toList 0; simpa using this
  have hk1 : k + 1 ≤ s.size := by
    rw [Num.head_pre, decide_eq_true_eq] at h
    rcases Nat.lt_or_ge k s.size with hh | hh
    · exact hh
    · rw [List.drop_eq_nil_of_le (by omega)] at h; cases h
  obtain ⟨B, hB⟩ : ∃ B : ByteArray, B = ⟨((s.data.toList.drop k).drop 1).toArray⟩ := ⟨_, rfl⟩
  have hBl : B.data.toList = (s.data.toList.drop k).drop 1 := by rw [hB]
  have hBs : B.size = s.size - k - 1 := by rw [hB, Lib.size_mk]; simp; omega
  have hml : m ≤ B.size := by
    rw [hm, ← hBl]; have := Num.row_le Num.digB B.data.toList 0; simpa using this
  have hdig : ∀ w, Calls Tryz.prog 178 #[.string s] w fun e w' => e = .returned (.int .i64 k) ∧ Below w.heap.size w w' := by intro w; rw [hk]; exact iDigitsOf s w
  have hdig2 : ∀ w, Calls Tryz.prog 178 #[.string B] w fun e w' => e = .returned (.int .i64 m) ∧ Below w.heap.size w w' := by intro w; rw [hm, ← hBl]; exact iDigitsOf B w
  have hcut : ∀ w, Calls Tryz.prog 167 #[.string (s.extract k s.size), .string ⟨#[46]⟩] w fun e w' => e = .returned (.tuple #[.string B, .bool true]) ∧ w' = w := by
    intro w
    have := Tryz.strings_CutPrefix (s.extract k s.size) ⟨#[46]⟩ w
    rw [Lib.extract_from] at this ⊢
    have e1 : Lib.hasPrefix (⟨(s.data.toList.drop k).toArray⟩ : ByteArray).data.toList (⟨#[46]⟩ : ByteArray).data.toList = true := by simpa using h
    have e2 : Lib.trimPrefix (⟨(s.data.toList.drop k).toArray⟩ : ByteArray).data.toList (⟨#[46]⟩ : ByteArray).data.toList = (s.data.toList.drop k).drop 1 := by
      unfold Lib.trimPrefix; rw [e1]; simp
    rw [e1, e2, ← hB] at this
    exact this
  have HP : Hid (partsV (Num.plainP s.data.toList) = .agg #[.bool false, .string (s.extract 0 k), .string (B.extract 0 m), .int .i64 (if m = 0 then (k : Int) else (k : Int) + 1 + m)]) := by
    show _ = _
    rw [Num.plain_some hk h hm, Lib.extract_upto, Lib.extract_upto, hBl]
    unfold partsV
    by_cases h0 : m = 0
    · simp [h0]
    · simp [h0]; omega
  have hb1 : (k : Int) + 1 + m ≤ s.size := by omega
  clear hk h hm hB hBl hlen
  by_cases h0 : m = 0
  · subst h0
    have HE : Hid (B.extract 0 0 = ⟨#[]⟩) := by show _ = _; rw [Lib.extract_upto]; rfl
    go_enter Tryz.func169, Tryz.ntmps169
    go_wp2_with (first | (go_at_call 178; with_reducible refine (hdig _).mono ?_; rintro e w1 ⟨rfl, hb⟩; obtain ⟨hc, hf⟩ := bcell hb; have hz : w.heap.size < w1.heap.size := by (have := hb.size; simp at this; omega)) | (go_at_call 178; refine (hdig2 _).mono ?_; rintro e w2 ⟨rfl, hb2⟩; obtain ⟨hc2, hf2⟩ := bcell hb2; have hz2 : w1.heap.size < w2.heap.size := by (have := hb2.size; simp at this; omega)) | (go_at_call 167; refine (hcut _).mono ?_; rintro e w' ⟨rfl, rfl⟩))
    have hz4 : w.heap.size < w1.heap.size + 1 := by omega
    refine bodyPost_ret (v := .agg #[.bool false, .string (s.extract 0 k), .string ⟨#[]⟩, .int .i64 k]) (by simp [results, Tryz.results169, hc, hc2, hz, hz4, go_sem]) rfl ⟨?_, ?_⟩
    · rw [HP.out, HE.out]; rfl
    · repeat (first | refine Below.setCell ?_ (by simp <;> omega) _ | refine Below.alloc ?_ (by simp <;> omega) _)
      have e1 : Below w.heap.size w w1 := ((Below.refl _ _).alloc (Nat.le_refl _) _).trans (hb.mono (by simp))
      exact (e1.alloc (Nat.le_of_lt hz) _).trans (hb2.mono (by simp; omega))
  · have hpos : (0 : Int) < m := by omega
    have HE : Hid ((if m = 0 then (k : Int) else (k : Int) + 1 + m) = (k : Int) + 1 + m) := if_neg h0
    clear h0
    go_enter Tryz.func169, Tryz.ntmps169
    go_wp2_with (first | (go_at_call 178; with_reducible refine (hdig _).mono ?_; rintro e w1 ⟨rfl, hb⟩; obtain ⟨hc, hf⟩ := bcell hb; have hz : w.heap.size < w1.heap.size := by (have := hb.size; simp at this; omega)) | (go_at_call 178; refine (hdig2 _).mono ?_; rintro e w2 ⟨rfl, hb2⟩; obtain ⟨hc2, hf2⟩ := bcell hb2; have hz2 : w1.heap.size < w2.heap.size := by (have := hb2.size; simp at this; omega)) | (go_at_call 167; refine (hcut _).mono ?_; rintro e w' ⟨rfl, rfl⟩))
    have hz4 : w.heap.size < w1.heap.size + 1 := by omega
    refine bodyPost_ret (v := .agg #[.bool false, .string (s.extract 0 k), .string (B.extract 0 m), .int .i64 ((k : Int) + 1 + m)]) (by simp [results, Tryz.results169, hc, hc2, hz, hz4, go_sem]) rfl ⟨?_, ?_⟩
    · rw [HP.out, HE.out]
    · repeat (first | refine Below.setCell ?_ (by simp <;> omega) _ | refine Below.alloc ?_ (by simp <;> omega) _)
      have e1 : Below w.heap.size w w1 := ((Below.refl _ _).alloc (Nat.le_refl _) _).trans (hb.mono (by simp))
      exact (e1.alloc (Nat.le_of_lt hz) _).trans (hb2.mono (by simp; omega))

theorem iPlainFront (s : ByteArray) (w : World) (hs : s.size ≤ maxLen) :
    Calls Tryz.prog 169 #[.string s] w fun e w' => e = .returned (partsV (Num.plainP s.data.toList)) ∧ Below w.heap.size w w' := by
  cases h : Lib.hasPrefix (s.data.toList.drop (Num.rowFrom Num.digB s.data.toList 0)) [46] with
  | false => exact plain_no s w _ rfl h
  | true => exact plain_yes s w hs _ _ rfl h rfl

theorem signed_neg (s B wh re : ByteArray) (sz k : Nat) (w : World) (hs : (s.size : Int) ≤ 9223372036854775807) (hkl : k ≤ s.size) (hBs : (B.size : Int) ≤ s.size) (hsz : (sz : Int) ≤ B.size)
    (hbl : ∀ w, Calls Tryz.prog 135 #[.string s] w fun e w' => e = .returned (.int .i64 k) ∧ Below w.heap.size w w')
    (hpl : ∀ w, Calls Tryz.prog 169 #[.string B] w fun e w' => e = .returned (.agg #[.bool false, .string wh, .string re, .int .i64 sz]) ∧ Below w.heap.size w w')
    (hcut : ∀ w, Calls Tryz.prog 167 #[.string (s.extract k s.size), .string ⟨#[45]⟩] w fun e w' => e = .returned (.tuple #[.string B, .bool true]) ∧ w' = w) :
    Calls Tryz.prog 156 #[.string s] w fun e w' => e = .returned (.agg #[.bool (if sz = 0 then false else true), .string wh, .string re, .int .i64 (if sz = 0 then 0 else (sz : Int) + ((s.size : Int) - B.size))]) ∧ Below w.heap.size w w' := by
  rcases Nat.eq_zero_or_pos sz with h0 | h0
  · subst h0
    go_enter Tryz.func156, Tryz.ntmps156
    go_wp2_with (first | (go_at_call 135; refine (hbl _).mono ?_; rintro e w1 ⟨rfl, hb⟩; obtain ⟨hc, hf⟩ := bcell hb; have hz : w.heap.size < w1.heap.size := by (have := hb.size; simp at this; omega)) | (go_at_call 167; refine (hcut _).mono ?_; rintro e w' ⟨rfl, hw⟩; have hw := hw.symm; subst hw) | (go_at_call 169; refine (hpl _).mono ?_; rintro e w2 ⟨rfl, hb2⟩; obtain ⟨hc2, hf2⟩ := bcell hb2; have hz2 : w1.heap.size ≤ w2.heap.size := hb2.size; have hz4 : w.heap.size < w2.heap.size := by omega))
    refine bodyPost_ret (v := .agg #[.bool false, .string wh, .string re, .int .i64 0]) (by simp [results, Tryz.results156, hc, hc2, hz, hz4, go_sem]) rfl ⟨rfl, ?_⟩
    · repeat (first | refine Below.setCell ?_ (by simp <;> omega) _ | refine Below.alloc ?_ (by simp <;> omega) _)
      have e1 : Below w.heap.size w w1 := ((Below.refl _ _).alloc (Nat.le_refl _) _).trans (hb.mono (by simp))
      exact e1.trans (hb2.mono (Nat.le_of_lt hz))
  · have hpos : (0 : Int) < sz := by omega
    have hne : ¬ (sz : Int) = 0 := by omega
    clear h0
    go_enter Tryz.func156, Tryz.ntmps156
    go_wp2_with (first | (go_at_call 135; refine (hbl _).mono ?_; rintro e w1 ⟨rfl, hb⟩; obtain ⟨hc, hf⟩ := bcell hb; have hz : w.heap.size < w1.heap.size := by (have := hb.size; simp at this; omega)) | (go_at_call 167; refine (hcut _).mono ?_; rintro e w' ⟨rfl, hw⟩; have hw := hw.symm; subst hw) | (go_at_call 169; refine (hpl _).mono ?_; rintro e w2 ⟨rfl, hb2⟩; obtain ⟨hc2, hf2⟩ := bcell hb2; have hz2 : w1.heap.size ≤ w2.heap.size := hb2.size; have hz4 : w.heap.size < w2.heap.size := by omega))
    refine bodyPost_ret (v := .agg #[.bool true, .string wh, .string re, .int .i64 ((sz : Int) + ((s.size : Int) - B.size))]) (by simp [results, Tryz.results156, hc, hc2, hz, hz4, go_sem]) rfl ⟨?_, ?_⟩
    · rfl
    · repeat (first | refine Below.setCell ?_ (by simp <;> omega) _ | refine Below.alloc ?_ (by simp <;> omega) _)
      have e1 : Below w.heap.size w w1 := ((Below.refl _ _).alloc (Nat.le_refl _) _).trans (hb.mono (by simp))
      exact e1.trans (hb2.mono (Nat.le_of_lt hz))

theorem signed_pos (s B wh re : ByteArray) (sz k : Nat) (w : World) (hs : (s.size : Int) ≤ 9223372036854775807) (hkl : k ≤ s.size) (hBs : (B.size : Int) ≤ s.size) (hsz : (sz : Int) ≤ B.size)
    (hbl : ∀ w, Calls Tryz.prog 135 #[.string s] w fun e w' => e = .returned (.int .i64 k) ∧ Below w.heap.size w w')
    (hpl : ∀ w, Calls Tryz.prog 169 #[.string B] w fun e w' => e = .returned (.agg #[.bool false, .string wh, .string re, .int .i64 sz]) ∧ Below w.heap.size w w')
    (C : ByteArray) (hcut : ∀ w, Calls Tryz.prog 167 #[.string (s.extract k s.size), .string ⟨#[45]⟩] w fun e w' => e = .returned (.tuple #[.string C, .bool false]) ∧ w' = w)
    (htr : ∀ w, Calls Tryz.prog 168 #[.string C, .string ⟨#[43]⟩] w fun e w' => e = .returned (.string B) ∧ w' = w) :
    Calls Tryz.prog 156 #[.string s] w fun e w' => e = .returned (.agg #[.bool (if sz = 0 then false else false), .string wh, .string re, .int .i64 (if sz = 0 then 0 else (sz : Int) + ((s.size : Int) - B.size))]) ∧ Below w.heap.size w w' := by
  rcases Nat.eq_zero_or_pos sz with h0 | h0
  · subst h0
    go_enter Tryz.func156, Tryz.ntmps156
    go_wp2_with (first | (go_at_call 135; refine (hbl _).mono ?_; rintro e w1 ⟨rfl, hb⟩; obtain ⟨hc, hf⟩ := bcell hb; have hz : w.heap.size < w1.heap.size := by (have := hb.size; simp at this; omega)) | (go_at_call 167; refine (hcut _).mono ?_; rintro e w' ⟨rfl, hw⟩; have hw := hw.symm; subst hw) | (go_at_call 168; refine (htr _).mono ?_; rintro e w' ⟨rfl, hw⟩; have hw := hw.symm; subst hw) | (go_at_call 169; refine (hpl _).mono ?_; rintro e w2 ⟨rfl, hb2⟩; obtain ⟨hc2, hf2⟩ := bcell hb2; have hz2 : w1.heap.size ≤ w2.heap.size := hb2.size; have hz4 : w.heap.size < w2.heap.size := by omega))
    refine bodyPost_ret (v := .agg #[.bool false, .string wh, .string re, .int .i64 0]) (by simp [results, Tryz.results156, hc, hc2, hz, hz4, go_sem]) rfl ⟨rfl, ?_⟩
    · repeat (first | refine Below.setCell ?_ (by simp <;> omega) _ | refine Below.alloc ?_ (by simp <;> omega) _)
      have e1 : Below w.heap.size w w1 := ((Below.refl _ _).alloc (Nat.le_refl _) _).trans (hb.mono (by simp))
      exact e1.trans (hb2.mono (Nat.le_of_lt hz))
  · have hpos : (0 : Int) < sz := by omega
    have hne : ¬ (sz : Int) = 0 := by omega
    clear h0
    go_enter Tryz.func156, Tryz.ntmps156
    go_wp2_with (first | (go_at_call 135; refine (hbl _).mono ?_; rintro e w1 ⟨rfl, hb⟩; obtain ⟨hc, hf⟩ := bcell hb; have hz : w.heap.size < w1.heap.size := by (have := hb.size; simp at this; omega)) | (go_at_call 167; refine (hcut _).mono ?_; rintro e w' ⟨rfl, hw⟩; have hw := hw.symm; subst hw) | (go_at_call 168; refine (htr _).mono ?_; rintro e w' ⟨rfl, hw⟩; have hw := hw.symm; subst hw) | (go_at_call 169; refine (hpl _).mono ?_; rintro e w2 ⟨rfl, hb2⟩; obtain ⟨hc2, hf2⟩ := bcell hb2; have hz2 : w1.heap.size ≤ w2.heap.size := hb2.size; have hz4 : w.heap.size < w2.heap.size := by omega))
    refine bodyPost_ret (v := .agg #[.bool false, .string wh, .string re, .int .i64 ((sz : Int) + ((s.size : Int) - B.size))]) (by simp [results, Tryz.results156, hc, hc2, hz, hz4, go_sem]) rfl ⟨?_, ?_⟩
    · rfl
    · repeat (first | refine Below.setCell ?_ (by simp <;> omega) _ | refine Below.alloc ?_ (by simp <;> omega) _)
      have e1 : Below w.heap.size w w1 := ((Below.refl _ _).alloc (Nat.le_refl _) _).trans (hb.mono (by simp))
      exact e1.trans (hb2.mono (Nat.le_of_lt hz))

theorem iSignedFront (s : ByteArray) (w : World) (hs : s.size ≤ maxLen) :
    Calls Tryz.prog 156 #[.string s] w fun e w' => e = .returned (partsV (Num.signedP s.data.toList)) ∧ Below w.heap.size w w' := by
  unfold maxLen at hs
  have hlen : s.data.toList.length = s.size := by simp
  have hkl : Num.rowFrom Num.blank s.data.toList 0 ≤ s.size := by have := Num.row_le Num.blank s.data.toList 0; simpa using this
  obtain ⟨B, hB⟩ : ∃ B : ByteArray, B = ⟨(Num.behindSign s.data.toList).toArray⟩ := ⟨_, rfl⟩
  have hBl : B.data.toList = Num.behindSign s.data.toList := by rw [hB]
  have hBs : B.size = (Num.behindSign s.data.toList).length := by rw [hB, Lib.size_mk]
  have hle := Num.behind_le s.data.toList
  have hsz := Num.plain_size (Num.behindSign s.data.toList)
  have hpl := fun w => iPlainFront B w (by unfold maxLen; omega)
  rw [hBl] at hpl
  have hcut := fun w => Tryz.strings_CutPrefix (s.extract (Num.rowFrom Num.blank s.data.toList 0) s.size) ⟨#[45]⟩ w
  have hx : (s.extract (Num.rowFrom Num.blank s.data.toList 0) s.size).data.toList = s.data.toList.drop (Num.rowFrom Num.blank s.data.toList 0) := by rw [Lib.extract_from]
  have hsg : Hid (partsV (Num.signedP s.data.toList) = .agg #[.bool (if (Num.plainP (Num.behindSign s.data.toList)).size = 0 then false else Num.negB s.data.toList), .string ⟨(Num.plainP (Num.behindSign s.data.toList)).whole.toArray⟩, .string ⟨(Num.plainP (Num.behindSign s.data.toList)).rest.toArray⟩, .int .i64 (if (Num.plainP (Num.behindSign s.data.toList)).size = 0 then 0 else ((Num.plainP (Num.behindSign s.data.toList)).size : Int) + ((s.size : Int) - B.size))]) := by
    show _ = _
    have e : (((if (Num.plainP (Num.behindSign s.data.toList)).size = 0 then 0 else (Num.plainP (Num.behindSign s.data.toList)).size + (s.data.toList.length - (Num.behindSign s.data.toList).length) : Nat)) : Int) = if (Num.plainP (Num.behindSign s.data.toList)).size = 0 then 0 else ((Num.plainP (Num.behindSign s.data.toList)).size : Int) + ((s.size : Int) - B.size) := by split <;> omega
    unfold partsV Num.signedP
    rw [e]
  rw [hsg.out]
  rw [hx] at hcut
  cases h : Num.negB s.data.toList with
  | true =>
    have h1 : Lib.hasPrefix (s.data.toList.drop (Num.rowFrom Num.blank s.data.toList 0)) [45] = true := h
    have h2 : Lib.trimPrefix (s.data.toList.drop (Num.rowFrom Num.blank s.data.toList 0)) [45] = Num.behindSign s.data.toList := by
      unfold Lib.trimPrefix Num.behindSign; simp only [h1, if_true]; rfl
    exact signed_neg s B _ _ _ _ w (by omega) hkl (by omega) (by omega) (fun w => iBlanksOf s w) hpl (fun w => by
      have := hcut w
      rw [show (⟨#[45]⟩ : ByteArray).data.toList = [45] from rfl, h1, h2, ← hB] at this; exact this)
  | false =>
    have h1 : Lib.hasPrefix (s.data.toList.drop (Num.rowFrom Num.blank s.data.toList 0)) [45] = false := h
    have h2 : Lib.trimPrefix (s.data.toList.drop (Num.rowFrom Num.blank s.data.toList 0)) [45] = s.data.toList.drop (Num.rowFrom Num.blank s.data.toList 0) := by
      unfold Lib.trimPrefix; rw [h1]; rfl
    have h3 : Lib.trimPrefix (s.data.toList.drop (Num.rowFrom Num.blank s.data.toList 0)) [43] = Num.behindSign s.data.toList := by
      unfold Num.behindSign; simp only [h1]; rfl
    exact signed_pos s B _ _ _ _ w (by omega) hkl (by omega) (by omega) (fun w => iBlanksOf s w) hpl ⟨(s.data.toList.drop (Num.rowFrom Num.blank s.data.toList 0)).toArray⟩ (fun w => by
      have := hcut w
      rw [show (⟨#[45]⟩ : ByteArray).data.toList = [45] from rfl, h1, h2] at this; exact this) (fun w => by
      have := Tryz.strings_TrimPrefix ⟨(s.data.toList.drop (Num.rowFrom Num.blank s.data.toList 0)).toArray⟩ ⟨#[43]⟩ w
      rw [show (⟨#[43]⟩ : ByteArray).data.toList = [43] from rfl, show (⟨(s.data.toList.drop (Num.rowFrom Num.blank s.data.toList 0)).toArray⟩ : ByteArray).data.toList = s.data.toList.drop (Num.rowFrom Num.blank s.data.toList 0) from rfl, h3, ← hB] at this
      exact this)
end Go.Proofs.YtkhoccjfkkfipaaGreatDoor
