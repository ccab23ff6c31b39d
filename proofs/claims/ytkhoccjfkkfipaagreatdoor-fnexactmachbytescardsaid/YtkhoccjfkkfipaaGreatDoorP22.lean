/-
  What a numeral is worth: withDigits, millionths, worth.
-/
import Derived.Test.YtkhoccjfkkfipaaGreatDoorP21
namespace Go.Proofs.YtkhoccjfkkfipaaGreatDoor
open Go.RowKit Go.Extern.Stop Go.Stop Go.Extern

def wdV (d : Int) (l : List UInt8) : Int := if Num.fold10 d l ≤ 9000000000000 then Num.fold10 d l else 0
def wdE (a : Addr) (d : Int) (l : List UInt8) : Value := if Num.fold10 d l ≤ 9000000000000 then .nilIface else .iface 273 (.pointer (some a))

set_option maxRecDepth 1000000 in
theorem iWithDigits (d : Int) (s : ByteArray) (a : Addr) (w : World) (hc : w.cell? ⟨1, 0, none⟩ = some (.iface 273 (.pointer (some a))))
    (h0 : 0 ≤ d) (h1 : d ≤ 9000000000000) (hd : s.data.toList.all Num.digB = true) :
    Calls Tryz.prog 170 #[.int .i64 d, .string s] w fun e w' => e = .returned (.tuple #[.int .i64 (wdV d s.data.toList), wdE a d s.data.toList]) ∧ Below w.heap.size w w' := by
  have hlen : s.data.toList.length = s.size := by simp
  have hci : ∀ pos, (w.iter s pos).cell? ⟨1, 0, none⟩ = some (.iface 273 (.pointer (some a))) := fun pos => sent_later hc (below_iter w s pos)
  have HD : Hid (s.data.toList.all Num.digB = true) := hd
  clear hd hc
  go_enter Tryz.func170, Tryz.ntmps170
  go_wp2
  go_loopw [0] (fun v w' => ∃ (pos : Nat) (dd : Int), w' = w.iter s pos ∧ v = .int .i64 dd ∧ 0 ≤ dd ∧ dd ≤ 9000000000000 ∧ pos ≤ s.size ∧ Num.fold10 dd (s.data.toList.drop pos) = Num.fold10 d s.data.toList) (fun _ w' => s.size - w'.iterPos w.heap.size)
  case atStart => exact ⟨0, d, rfl, rfl, h0, h1, Nat.zero_le _, rfl⟩
  case round =>
    obtain ⟨pos, dd, rfl, rfl, hd0, hd1, hle, hf⟩ := hrel
    have H : Hid (Num.fold10 dd (s.data.toList.drop pos) = Num.fold10 d s.data.toList) := hf
    clear hf
    by_cases hq : pos < s.size
    · have hb : Num.digB s[pos] = true := List.all_eq_true.mp HD.out _ (List.getElem_mem (by omega))
      obtain ⟨b1, b2⟩ := Num.dv_bd hb
      have hnx : ∀ ty, (Instr.next (.pointer (some ⟨w.heap.size, 0, none⟩)) true ty).run Tryz.prog (w.iter s pos) = _ := fun ty => run_next_any w s pos ty hq
      have hx : Num.dv s[pos] = (s[pos].toNat : Int) - 48 := rfl
      rw [decode_ascii s pos hq (by omega)] at hnx
      have H2 : Hid (Num.fold10 (dd * 10 + ((s[pos].toNat : Int) - 48)) (s.data.toList.drop (pos + 1)) = Num.fold10 d s.data.toList) := by
        show _ = _
        rw [← H.out, Num.drop_at (show pos < s.data.toList.length by omega)]; rfl
      have hb1 : (48 : Int) ≤ (s[pos].toNat : Int) := by omega
      have hb2 : (s[pos].toNat : Int) ≤ 57 := by omega
      clear b1 b2 hx hb H
      generalize (s[pos].toNat) = x at *
      by_cases hok : dd * 10 + ((x : Int) - 48) ≤ 9000000000000
      · have hck := fun w => checked_ok (dd * 10 + ((x : Int) - 48)) w (by omega) hok
        go_wp2_with (go_at_call 117; refine (hck _).mono ?_; rintro e w' ⟨rfl, hw⟩; have hw := hw.symm; subst hw)
        go_roundw
        case rel => exact ⟨pos + 1, _, rfl, rfl, by omega, hok, by omega, H2.out⟩
        case measure => simp; omega
      · have hck := checked_bad (dd * 10 + ((x : Int) - 48)) a (w.iter s (pos + 1)) (hci _) (by omega)
        have HE : Hid (wdV d s.data.toList = 0 ∧ wdE a d s.data.toList = .iface 273 (.pointer (some a))) := by
          have hge := Num.fold10_ge (d := dd * 10 + ((x : Int) - 48)) (l := s.data.toList.drop (pos + 1)) (by omega) (by
            rw [List.all_eq_true]; exact fun b hb => List.all_eq_true.mp HD.out b (List.mem_of_mem_drop hb))
          rw [H2.out] at hge
          exact ⟨if_neg (by omega), if_neg (by omega)⟩
        go_wp2_with (go_at_call 117; refine hck.mono ?_; rintro e w' ⟨rfl, n, rfl⟩)
        refine bodyPost_ret (v := .tuple #[.int .i64 0, .iface 273 (.pointer (some a))]) (by simp [results, Tryz.results170, go_sem]) rfl ⟨?_, below_drewN (below_iter _ _ _) _⟩
        rw [HE.out.1, HE.out.2]
    · have hnx : ∀ ty, (Instr.next (.pointer (some ⟨w.heap.size, 0, none⟩)) true ty).run Tryz.prog (w.iter s pos) = _ := fun ty => run_next_end w s pos ty hq
      have HE : Hid (wdV d s.data.toList = dd ∧ wdE a d s.data.toList = .nilIface) := by
        have h := H.out
        rw [List.drop_eq_nil_of_le (by omega)] at h
        have h' : dd = Num.fold10 d s.data.toList := h
        exact ⟨(if_pos (by omega)).trans h'.symm, if_pos (by omega)⟩
      go_wp2
      refine bodyPost_ret (v := .tuple #[.int .i64 dd, .nilIface]) (by simp [results, Tryz.results170, go_sem]) rfl ⟨?_, below_iter _ _ _⟩
      rw [HE.out.1, HE.out.2]

theorem iMillionths (s : ByteArray) (w : World) (hs : s.size ≤ maxLen) :
    Calls Tryz.prog 171 #[.string s] w fun e w' => e = .returned (.string ⟨(Num.mil s.data.toList).toArray⟩) ∧ Below w.heap.size w w' := by
  unfold maxLen at hs
  have hlen : s.data.toList.length = s.size := by simp
  by_cases h : (s.size : Int) ≤ 6
  · have hrep := fun w => Tryz.strings_Repeat ⟨#[48]⟩ (6 - s.size) w (by omega) (by rw [show (⟨#[48]⟩ : ByteArray).size = 1 from rfl]; omega)
    rw [show ((6 - s.size : Nat) : Int) = 6 - (s.size : Int) by omega] at hrep
    obtain ⟨R, hR⟩ : ∃ R : ByteArray, R = ⟨(Lib.repeatL (⟨#[48]⟩ : ByteArray).data.toList (6 - s.size)).toArray⟩ := ⟨_, rfl⟩
    rw [← hR] at hrep
    have hRs : R.size = 6 - s.size := by rw [hR, Lib.size_mk, Lib.repeatL_length]; simp
    have HM : Hid ((⟨(Num.mil s.data.toList).toArray⟩ : ByteArray) = s ++ R) := by
      show _ = _
      unfold Num.mil
      rw [if_neg (by omega), hlen, hR, show (⟨#[48]⟩ : ByteArray).data.toList = List.replicate 1 48 from rfl, Lib.repeatL_replicate, Nat.mul_one]
      apply ByteArray.ext
      simp
    clear hR
    go_enter Tryz.func171, Tryz.ntmps171
    go_wp2_with (go_at_call 179; refine (hrep _).mono ?_; rintro e w1 ⟨rfl, hb⟩)
    go_ret
    exact ⟨by rw [HM.out]; rfl, hb⟩
  · have HM : Hid ((⟨(Num.mil s.data.toList).toArray⟩ : ByteArray) = s.extract 0 6) := by
      show _ = _
      unfold Num.mil
      rw [if_pos (by omega), Lib.extract_upto]
    go_enter Tryz.func171, Tryz.ntmps171
    go_wp2
    go_ret
    exact ⟨by rw [HM.out]; rfl, Below.refl _ _⟩

def woV (b : Bool) (v : Int) : Int := if v ≤ 9000000000000 then (if b then -v else v) else 0
def woE (a : Addr) (v : Int) : Value := if v ≤ 9000000000000 then .nilIface else .iface 273 (.pointer (some a))
abbrev boxed (w : World) (b : Bool) (wh re : ByteArray) (sz : Int) : World := w.alloc (.cells #[.bool b, .string wh, .string re, .int .i64 sz] 210)

theorem worth_far (b : Bool) (wh re : ByteArray) (sz : Int) (a : Addr) (w : World)
    (hwd1 : ∀ w1, Below (boxed w b wh re sz).heap.size (boxed w b wh re sz) w1 → Calls Tryz.prog 170 #[.int .i64 0, .string wh] w1 fun e w' => e = .returned (.tuple #[.int .i64 0, .iface 273 (.pointer (some a))]) ∧ Below (boxed w b wh re sz).heap.size (boxed w b wh re sz) w') :
    Calls Tryz.prog 157 #[.agg #[.bool b, .string wh, .string re, .int .i64 sz]] w fun e w' => e = .returned (.tuple #[.int .i64 0, .iface 273 (.pointer (some a))]) ∧ Below w.heap.size w w' := by
  go_enter Tryz.func157, Tryz.ntmps157
  go_wp2_with (go_at_call 170; with_reducible refine (hwd1 _ ?_).mono ?_; exact Below.refl _ _; rintro e w1 ⟨rfl, hb1⟩; obtain ⟨hc1, hf1⟩ := bcell hb1; have hz1 : w.heap.size < w1.heap.size := by (have := hb1.size; simp at this; omega))
  refine bodyPost_ret (v := .tuple #[.int .i64 0, .iface 273 (.pointer (some a))]) (by simp [results, Tryz.results157, go_sem]) rfl ⟨rfl, ?_⟩
  exact ((Below.refl _ w).alloc (Nat.le_refl _) _).trans (hb1.mono (by simp))

set_option maxRecDepth 100000 in
theorem worth_near (b : Bool) (wh re M : ByteArray) (sz W V V' : Int) (E : Value) (w : World) (hE : E = .nilIface ∨ ∃ a, E = .iface 273 (.pointer (some a))) (hV : V' = if b then -V else V) (hv1 : 0 ≤ V) (hv2 : V ≤ 9000000000000)
    (hwd1 : ∀ w1, Below (boxed w b wh re sz).heap.size (boxed w b wh re sz) w1 → Calls Tryz.prog 170 #[.int .i64 0, .string wh] w1 fun e w' => e = .returned (.tuple #[.int .i64 W, .nilIface]) ∧ Below (boxed w b wh re sz).heap.size (boxed w b wh re sz) w')
    (hmi : ∀ w1, Below (boxed w b wh re sz).heap.size (boxed w b wh re sz) w1 → Calls Tryz.prog 171 #[.string re] w1 fun e w' => e = .returned (.string M) ∧ Below (boxed w b wh re sz).heap.size (boxed w b wh re sz) w')
    (hwd2 : ∀ w1, Below (boxed w b wh re sz).heap.size (boxed w b wh re sz) w1 → Calls Tryz.prog 170 #[.int .i64 W, .string M] w1 fun e w' => e = .returned (.tuple #[.int .i64 V, E]) ∧ Below (boxed w b wh re sz).heap.size (boxed w b wh re sz) w') :
    Calls Tryz.prog 157 #[.agg #[.bool b, .string wh, .string re, .int .i64 sz]] w fun e w' => e = .returned (.tuple #[.int .i64 V', E]) ∧ Below w.heap.size w w' := by
  cases b with
  | false =>
    replace hV : V' = V := hV
    subst hV
    clear hv1 hv2
    rcases hE with rfl | ⟨a, rfl⟩
    all_goals
      go_enter Tryz.func157, Tryz.ntmps157
      go_wp2_with (first | (go_at_call 170; with_reducible refine (hwd1 _ ?_).mono ?_; exact Below.refl _ _; rintro e w1 ⟨rfl, hb1⟩; obtain ⟨hc1, hf1⟩ := bcell hb1; have hz1 : w.heap.size < w1.heap.size := by (have := hb1.size; simp at this; omega)) | (go_at_call 171; with_reducible refine (hmi _ ?_).mono ?_; exact hb1; rintro e w2 ⟨rfl, hb2⟩; obtain ⟨hc2, hf2⟩ := bcell hb2) | (go_at_call 170; with_reducible refine (hwd2 _ ?_).mono ?_; exact hb2; rintro e w3 ⟨rfl, hb3⟩; obtain ⟨hc3, hf3⟩ := bcell hb3))
      refine bodyPost_ret (by simp [results, Tryz.results157, go_sem]) rfl ⟨rfl, ?_⟩
      exact ((Below.refl _ w).alloc (Nat.le_refl _) _).trans (hb3.mono (by simp))
  | true =>
    replace hV : V' = -V := hV
    subst hV
    rcases hE with rfl | ⟨a, rfl⟩
    all_goals
      go_enter Tryz.func157, Tryz.ntmps157
      go_wp2_with (first | (go_at_call 170; with_reducible refine (hwd1 _ ?_).mono ?_; exact Below.refl _ _; rintro e w1 ⟨rfl, hb1⟩; obtain ⟨hc1, hf1⟩ := bcell hb1; have hz1 : w.heap.size < w1.heap.size := by (have := hb1.size; simp at this; omega)) | (go_at_call 171; with_reducible refine (hmi _ ?_).mono ?_; exact hb1; rintro e w2 ⟨rfl, hb2⟩; obtain ⟨hc2, hf2⟩ := bcell hb2) | (go_at_call 170; with_reducible refine (hwd2 _ ?_).mono ?_; exact hb2; rintro e w3 ⟨rfl, hb3⟩; obtain ⟨hc3, hf3⟩ := bcell hb3))
      refine bodyPost_ret (by simp [results, Tryz.results157, go_sem]) rfl ⟨rfl, ?_⟩
      exact ((Below.refl _ w).alloc (Nat.le_refl _) _).trans (hb3.mono (by simp))

theorem iWorth (b : Bool) (wh re : ByteArray) (sz : Int) (a : Addr) (w : World) (hc : w.cell? ⟨1, 0, none⟩ = some (.iface 273 (.pointer (some a))))
    (hw : wh.data.toList.all Num.digB = true) (hr : re.data.toList.all Num.digB = true) (hs : re.size ≤ maxLen) :
    Calls Tryz.prog 157 #[.agg #[.bool b, .string wh, .string re, .int .i64 sz]] w fun e w' =>
      e = .returned (.tuple #[.int .i64 (woV b (Num.fold10 (Num.fold10 0 wh.data.toList) (Num.mil re.data.toList))), woE a (Num.fold10 (Num.fold10 0 wh.data.toList) (Num.mil re.data.toList))]) ∧ Below w.heap.size w w' := by
  have hW0 : 0 ≤ Num.fold10 0 wh.data.toList := Num.fold10_ge (Int.le_refl 0) hw
  have hVW := Num.fold10_ge hW0 (Num.mil_digits hr)
  have hb0 : Below w.heap.size w (boxed w b wh re sz) := (Below.refl _ w).alloc (Nat.le_refl _) _
  have hci : ∀ w1, Below (boxed w b wh re sz).heap.size (boxed w b wh re sz) w1 → w1.cell? ⟨1, 0, none⟩ = some (.iface 273 (.pointer (some a))) := fun w1 h => sent_later (sent_later hc hb0) h
  have step : ∀ {w1 w2 : World}, Below (boxed w b wh re sz).heap.size (boxed w b wh re sz) w1 → Below w1.heap.size w1 w2 → Below (boxed w b wh re sz).heap.size (boxed w b wh re sz) w2 := fun h k => h.trans (k.mono h.size)
  have hwd1 : ∀ w1, Below (boxed w b wh re sz).heap.size (boxed w b wh re sz) w1 → Calls Tryz.prog 170 #[.int .i64 0, .string wh] w1 fun e w' => e = .returned (.tuple #[.int .i64 (wdV 0 wh.data.toList), wdE a 0 wh.data.toList]) ∧ Below (boxed w b wh re sz).heap.size (boxed w b wh re sz) w' :=
    fun w1 h => (iWithDigits 0 wh a w1 (hci w1 h) (Int.le_refl 0) (by decide) hw).mono fun e w' ⟨h1, h2⟩ => ⟨h1, step h h2⟩
  have hmi : ∀ w1, Below (boxed w b wh re sz).heap.size (boxed w b wh re sz) w1 → Calls Tryz.prog 171 #[.string re] w1 fun e w' => e = .returned (.string ⟨(Num.mil re.data.toList).toArray⟩) ∧ Below (boxed w b wh re sz).heap.size (boxed w b wh re sz) w' :=
    fun w1 h => (iMillionths re w1 hs).mono fun e w' ⟨h1, h2⟩ => ⟨h1, step h h2⟩
  by_cases h1 : Num.fold10 0 wh.data.toList ≤ 9000000000000
  · have e1 : wdV 0 wh.data.toList = Num.fold10 0 wh.data.toList := if_pos h1
    have e2 : wdE a 0 wh.data.toList = .nilIface := if_pos h1
    rw [e1, e2] at hwd1
    have hwd2 : ∀ w1, Below (boxed w b wh re sz).heap.size (boxed w b wh re sz) w1 → Calls Tryz.prog 170 #[.int .i64 (Num.fold10 0 wh.data.toList), .string ⟨(Num.mil re.data.toList).toArray⟩] w1 fun e w' => e = .returned (.tuple #[.int .i64 (wdV (Num.fold10 0 wh.data.toList) (Num.mil re.data.toList)), wdE a (Num.fold10 0 wh.data.toList) (Num.mil re.data.toList)]) ∧ Below (boxed w b wh re sz).heap.size (boxed w b wh re sz) w' :=
      fun w1 h => (iWithDigits _ ⟨(Num.mil re.data.toList).toArray⟩ a w1 (hci w1 h) hW0 h1 (Num.mil_digits hr)).mono fun e w' ⟨h1, h2⟩ => ⟨h1, step h h2⟩
    by_cases h2 : Num.fold10 (Num.fold10 0 wh.data.toList) (Num.mil re.data.toList) ≤ 9000000000000
    · have e3 : wdV (Num.fold10 0 wh.data.toList) (Num.mil re.data.toList) = Num.fold10 (Num.fold10 0 wh.data.toList) (Num.mil re.data.toList) := if_pos h2
      have e4 : wdE a (Num.fold10 0 wh.data.toList) (Num.mil re.data.toList) = .nilIface := if_pos h2
      rw [e3, e4] at hwd2
      have e5 : woE a (Num.fold10 (Num.fold10 0 wh.data.toList) (Num.mil re.data.toList)) = .nilIface := if_pos h2
      rw [e5]
      exact worth_near b wh re _ sz _ _ _ _ w (Or.inl rfl) (if_pos h2) (by omega) h2 hwd1 hmi hwd2
    · have e3 : wdV (Num.fold10 0 wh.data.toList) (Num.mil re.data.toList) = 0 := if_neg h2
      have e4 : wdE a (Num.fold10 0 wh.data.toList) (Num.mil re.data.toList) = .iface 273 (.pointer (some a)) := if_neg h2
      rw [e3, e4] at hwd2
      have e5 : woE a (Num.fold10 (Num.fold10 0 wh.data.toList) (Num.mil re.data.toList)) = .iface 273 (.pointer (some a)) := if_neg h2
      have e6 : woV b (Num.fold10 (Num.fold10 0 wh.data.toList) (Num.mil re.data.toList)) = 0 := if_neg h2
      rw [e5, e6]
      exact worth_near b wh re _ sz _ 0 0 _ w (Or.inr ⟨a, rfl⟩) (by cases b <;> rfl) (by decide) (by decide) hwd1 hmi hwd2
  · have e1 : wdV 0 wh.data.toList = 0 := if_neg h1
    have e2 : wdE a 0 wh.data.toList = .iface 273 (.pointer (some a)) := if_neg h1
    rw [e1, e2] at hwd1
    have e5 : woE a (Num.fold10 (Num.fold10 0 wh.data.toList) (Num.mil re.data.toList)) = .iface 273 (.pointer (some a)) := if_neg (by omega)
    have e6 : woV b (Num.fold10 (Num.fold10 0 wh.data.toList) (Num.mil re.data.toList)) = 0 := if_neg (by omega)
    rw [e5, e6]
    exact worth_far b wh re sz a w hwd1

/-! DecFront -/
theorem front_good (s wh re : ByteArray) (b : Bool) (sz V : Int) (a : Addr) (w : World) (hc : w.cell? ⟨1, 0, none⟩ = some (.iface 273 (.pointer (some a))))
    (hsf : ∀ w, Calls Tryz.prog 156 #[.string s] w fun e w' => e = .returned (.agg #[.bool b, .string wh, .string re, .int .i64 sz]) ∧ Below w.heap.size w w')
    (hwo : ∀ w1, Below w.heap.size w w1 → Calls Tryz.prog 157 #[.agg #[.bool b, .string wh, .string re, .int .i64 sz]] w1 fun e w' => e = .returned (.tuple #[.int .i64 V, .nilIface]) ∧ Below w1.heap.size w1 w') :
    Calls Tryz.prog 134 #[.string s] w fun e w' => e = .returned (.tuple #[.int .i64 V, .int .i64 sz]) ∧ Below w.heap.size w w' := by
  go_enter Tryz.func134, Tryz.ntmps134
  go_wp2_with (first | (go_at_call 156; refine (hsf _).mono ?_; rintro e w1 ⟨rfl, hb1⟩) | (go_at_call 157; have ha1 := hb1.alloc hb1.size (.cells #[.bool b, .string wh, .string re, .int .i64 sz] 210); refine (hwo _ ha1).mono ?_; rintro e w2 ⟨rfl, hb2⟩; obtain ⟨hc2, hf2⟩ := bcell hb2; have hB : Below w.heap.size w w2 := ha1.trans (hb2.mono ha1.size); have hs2 := sent_later hc hB) | (go_at_call 116; refine (told_ok _ a _ ?_).mono ?_; exact hs2; rintro e w' ⟨rfl, hw⟩; have hw := hw.symm; subst hw))
  go_quiet (fail)
  go_wp2
  refine bodyPost_ret (v := .tuple #[.int .i64 V, .int .i64 sz]) (by simp [results, Tryz.results134, go_sem]) rfl ⟨rfl, ?_⟩
  exact below_drewN hB _
theorem front_bad (s wh re : ByteArray) (b : Bool) (sz : Int) (a : Addr) (w : World) (hc : w.cell? ⟨1, 0, none⟩ = some (.iface 273 (.pointer (some a))))
    (hsf : ∀ w, Calls Tryz.prog 156 #[.string s] w fun e w' => e = .returned (.agg #[.bool b, .string wh, .string re, .int .i64 sz]) ∧ Below w.heap.size w w')
    (hwo : ∀ w1, Below w.heap.size w w1 → Calls Tryz.prog 157 #[.agg #[.bool b, .string wh, .string re, .int .i64 sz]] w1 fun e w' => e = .returned (.tuple #[.int .i64 0, .iface 273 (.pointer (some a))]) ∧ Below w1.heap.size w1 w') :
    Calls Tryz.prog 134 #[.string s] w fun e w' => e = .returned (.tuple #[.int .i64 0, .int .i64 0]) ∧ Below w.heap.size w w' := by
  go_enter Tryz.func134, Tryz.ntmps134
  go_wp2_with (first | (go_at_call 156; refine (hsf _).mono ?_; rintro e w1 ⟨rfl, hb1⟩) | (go_at_call 157; have ha1 := hb1.alloc hb1.size (.cells #[.bool b, .string wh, .string re, .int .i64 sz] 210); refine (hwo _ ha1).mono ?_; rintro e w2 ⟨rfl, hb2⟩; obtain ⟨hc2, hf2⟩ := bcell hb2; have hB : Below w.heap.size w w2 := ha1.trans (hb2.mono ha1.size); have hs2 := sent_later hc hB) | (go_at_call 116; refine (told_bad _ a _ ?_).mono ?_; exact hs2; rintro e w' ⟨rfl, hw⟩; have hw := hw.symm; subst hw))
  refine bodyPost_ret (v := .tuple #[.int .i64 0, .int .i64 0]) (by simp [results, Tryz.results134, go_sem]) rfl ⟨rfl, hB⟩

theorem front_eq (l : List UInt8) :
    (Num.valP (Num.signedP l) ≤ 9000000000000 → Num.frontV l = woV (Num.signedP l).below (Num.valP (Num.signedP l)) ∧ Num.frontN l = (Num.signedP l).size) ∧
    (¬ Num.valP (Num.signedP l) ≤ 9000000000000 → Num.frontV l = 0 ∧ Num.frontN l = 0) := by
  have hv : Num.valP (Num.signedP l) = Num.valP (Num.plainP (Num.behindSign l)) := rfl
  rw [hv]
  have hz := Num.plain_nought (Num.behindSign l)
  have es : (Num.signedP l).size = if (Num.plainP (Num.behindSign l)).size = 0 then 0 else (Num.plainP (Num.behindSign l)).size + (l.length - (Num.behindSign l).length) := rfl
  constructor
  · intro h
    by_cases h0 : (Num.plainP (Num.behindSign l)).size = 0
    · have hB : Num.frontB l = false := by unfold Num.frontB Num.okP; rw [h0]; rfl
      have hw : (Num.plainP (Num.behindSign l)).whole = [] := List.eq_nil_of_length_eq_zero (by omega)
      have hr : (Num.plainP (Num.behindSign l)).rest = [] := List.eq_nil_of_length_eq_zero (by omega)
      have e : Num.valP (Num.plainP (Num.behindSign l)) = 0 := by unfold Num.valP; rw [hw, hr]; decide
      refine ⟨?_, ?_⟩
      · rw [e]; unfold Num.frontV woV; rw [hB]; cases (Num.signedP l).below <;> rfl
      · rw [es, if_pos h0]; unfold Num.frontN; rw [hB]; rfl
    · have hB : Num.frontB l = true := by
        unfold Num.frontB Num.okP
        rw [Bool.and_eq_true, decide_eq_true_eq, decide_eq_true_eq]; exact ⟨h0, h⟩
      refine ⟨?_, ?_⟩
      · unfold Num.frontV woV Num.signedP; rw [hB, if_pos h, if_neg h0]; rfl
      · rw [es, if_neg h0]; unfold Num.frontN; rw [hB]; exact Nat.add_comm _ _
  · intro h
    have hB : Num.frontB l = false := by
      unfold Num.frontB Num.okP
      rw [decide_eq_false h, Bool.and_false]
    unfold Num.frontV Num.frontN; rw [hB]; exact ⟨rfl, rfl⟩

theorem iDecFront (s : ByteArray) (a : Addr) (w : World) (hc : w.cell? ⟨1, 0, none⟩ = some (.iface 273 (.pointer (some a)))) (hs : s.size ≤ maxLen) :
    Calls Tryz.prog 134 #[.string s] w fun e w' => e = .returned (.tuple #[.int .i64 (Num.frontV s.data.toList), .int .i64 (Num.frontN s.data.toList)]) ∧ Below w.heap.size w w' := by
  have hsf := fun w => iSignedFront s w hs
  obtain ⟨hw, hr⟩ := Num.plain_all (Num.behindSign s.data.toList)
  have hrl : (Num.plainP (Num.behindSign s.data.toList)).rest.length ≤ s.size := by
    have h1 := Num.plain_size (Num.behindSign s.data.toList)
    have h2 := Num.behind_le s.data.toList
    have h3 : s.data.toList.length = s.size := by simp
    have h4 := Num.rest_le (Num.behindSign s.data.toList)
    omega
  have hwo := fun w1 (h : Below w.heap.size w w1) => iWorth (Num.signedP s.data.toList).below ⟨(Num.signedP s.data.toList).whole.toArray⟩ ⟨(Num.signedP s.data.toList).rest.toArray⟩ (Num.signedP s.data.toList).size a w1 (sent_later hc h) hw hr (by
    rw [Lib.size_mk]; exact Nat.le_trans hrl hs)
  obtain ⟨f1, f2⟩ := front_eq s.data.toList
  by_cases h : Num.valP (Num.signedP s.data.toList) ≤ 9000000000000
  · obtain ⟨e1, e2⟩ := f1 h
    rw [e1, e2]
    refine front_good s _ _ _ _ _ a w hc hsf (fun w1 h1 => ?_)
    have := hwo w1 h1
    rw [show woE a (Num.fold10 (Num.fold10 0 (⟨(Num.signedP s.data.toList).whole.toArray⟩ : ByteArray).data.toList) (Num.mil (⟨(Num.signedP s.data.toList).rest.toArray⟩ : ByteArray).data.toList)) = .nilIface from if_pos h] at this
    exact this
  · obtain ⟨e1, e2⟩ := f2 h
    rw [e1, e2]
    refine front_bad s _ _ _ _ a w hc hsf (fun w1 h1 => ?_)
    have := hwo w1 h1
    rw [show woE a (Num.fold10 (Num.fold10 0 (⟨(Num.signedP s.data.toList).whole.toArray⟩ : ByteArray).data.toList) (Num.mil (⟨(Num.signedP s.data.toList).rest.toArray⟩ : ByteArray).data.toList)) = .iface 273 (.pointer (some a)) from if_neg h,
      show woV (Num.signedP s.data.toList).below (Num.fold10 (Num.fold10 0 (⟨(Num.signedP s.data.toList).whole.toArray⟩ : ByteArray).data.toList) (Num.mil (⟨(Num.signedP s.data.toList).rest.toArray⟩ : ByteArray).data.toList)) = 0 from if_neg h] at this
    exact this

theorem iDecLooks (s : ByteArray) (a : Addr) (w : World) (hc : w.cell? ⟨1, 0, none⟩ = some (.iface 273 (.pointer (some a)))) (hs : s.size ≤ maxLen) :
    Calls Tryz.prog 118 #[.string s] w fun e w' => e = .returned (.tuple #[.int .i64 (Num.looksV s.data.toList), .bool (Num.looksB s.data.toList)]) ∧ Below w.heap.size w w' := by
  have hfr := iDecFront s a w hc hs
  have hle := Num.frontN_le s.data.toList
  have hlen : s.data.toList.length = s.size := by simp
  unfold maxLen at hs
  by_cases h0 : Num.frontN s.data.toList = 0
  · have e1 : Num.looksB s.data.toList = false := by unfold Num.looksB; rw [h0]; rfl
    have e2 : Num.looksV s.data.toList = 0 := by unfold Num.looksV; rw [e1]; rfl
    rw [e1, e2]
    rw [h0] at hfr
    go_enter Tryz.func118, Tryz.ntmps118
    go_wp2_with (go_at_call 134; refine hfr.mono ?_; rintro e w1 ⟨rfl, hb⟩)
    refine bodyPost_ret (v := .tuple #[.int .i64 0, .bool false]) (by simp [results, Tryz.results118, go_sem]) rfl ⟨rfl, hb⟩
  · have hbl := fun w => iBlanksOf (s.extract (Num.frontN s.data.toList) s.size) w
    have hall := Num.row_all Num.blank (s.data.toList.drop (Num.frontN s.data.toList))
    rw [Lib.extract_from] at hbl
    have hdl : (s.data.toList.drop (Num.frontN s.data.toList)).length = s.size - Num.frontN s.data.toList := by rw [List.length_drop, hlen]
    have e1 : Num.looksB s.data.toList = (s.data.toList.drop (Num.frontN s.data.toList)).all Num.blank := by unfold Num.looksB; simp [h0]
    have e2 : Num.looksV s.data.toList = if (s.data.toList.drop (Num.frontN s.data.toList)).all Num.blank then Num.frontV s.data.toList else 0 := by unfold Num.looksV; rw [e1]
    rw [e1, e2]
    change ∀ w, Calls _ _ _ w fun e w' => e = .returned (.int .i64 (Num.rowFrom Num.blank (s.data.toList.drop (Num.frontN s.data.toList)) 0)) ∧ _ at hbl
    rw [← Lib.extract_from] at hbl
    generalize Num.rowFrom Num.blank (s.data.toList.drop (Num.frontN s.data.toList)) 0 = r at hbl hall
    rw [hdl] at hall
    have hne : ¬ (Num.frontN s.data.toList : Int) = 0 := by omega
    generalize Num.frontN s.data.toList = n at *
    generalize Num.frontV s.data.toList = V at *
    by_cases hr : r = s.size - n
    · rw [hall.mp hr]
      have hri : (r : Int) = (s.size : Int) - n := by omega
      clear hr hall h0 e1 e2 hdl
      go_enter Tryz.func118, Tryz.ntmps118
      go_wp2_with (first | (go_at_call 134; refine hfr.mono ?_; rintro e w1 ⟨rfl, hb⟩) | (go_at_call 135; refine (hbl _).mono ?_; rintro e w2 ⟨rfl, hb2⟩))
      refine bodyPost_ret (v := .tuple #[.int .i64 V, .bool true]) (by simp [results, Tryz.results118, go_sem]) rfl ⟨rfl, hb.trans (hb2.mono hb.size)⟩
    · have hf : (s.data.toList.drop n).all Num.blank = false := by
        cases hx : (s.data.toList.drop n).all Num.blank with
        | false => rfl
        | true => exact absurd (hall.mpr hx) hr
      rw [hf]
      have hri : ¬ (r : Int) = ((s.size - n : Nat) : Int) := by omega
      clear hr hall h0 e1 e2 hdl hf
      go_enter Tryz.func118, Tryz.ntmps118
      go_wp2_with (first | (go_at_call 134; refine hfr.mono ?_; rintro e w1 ⟨rfl, hb⟩) | (go_at_call 135; refine (hbl _).mono ?_; rintro e w2 ⟨rfl, hb2⟩))
      refine bodyPost_ret (v := .tuple #[.int .i64 0, .bool false]) (by simp [results, Tryz.results118, go_sem]) rfl ⟨rfl, hb.trans (hb2.mono hb.size)⟩
end Go.Proofs.YtkhoccjfkkfipaaGreatDoor
