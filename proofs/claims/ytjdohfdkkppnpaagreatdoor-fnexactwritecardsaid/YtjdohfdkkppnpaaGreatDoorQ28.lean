/-
  A number as text: the specification's l2Digits and DecText.
-/
import Derived.Test.YtjdohfdkkppnpaaGreatDoorQ27
import Derived.LoopTactic
import Derived.Laws.IdiomStrings
import Derived.Deep.CutRange
import Derived.Deep.CutBlock
import Derived.Deep.DeepCutAuto
namespace Go.Proofs.YtjdohfdkkppnpaaGreatDoor
open Go.RowKit Go.Extern.Stop Go.Stop Go.Extern

def digs (n : Nat) : List UInt8 := if n = 0 then [] else Lib.decDigits n
theorem digs_step {n : Nat} (h : 0 < n) : digs n = digs (n / 10) ++ [UInt8.ofNat (48 + n % 10)] := by
  unfold digs
  rw [if_neg (by omega)]
  by_cases h1 : n < 10
  · rw [if_pos (by omega), Lib.decDigits_one h1, show n % 10 = n by omega]; rfl
  · rw [if_neg (by omega)]
    rw [Lib.decDigits, dif_neg h1]

/-- string([]byte{c}) of a byte that has just been laid -/
theorem one_byte (w : World) (c : UInt8) (x : Int) (hx : x = c.toNat) :
    (convert 44 9 (.slice (some ⟨w.heap.size, 0, none⟩) 1 1)).run Tryz.prog (w.alloc (.cells #[.int .u8 x] 5)) = .ok (.string ⟨#[c]⟩) (w.alloc (.cells #[.int .u8 x] 5)) := by
  subst hx
  have := run_convert_bytes_back (P := Tryz.prog) (w.alloc (.cells #[.int .u8 (c.toNat : Int)] 5)) 44 9 5 ⟨w.heap.size, 0, none⟩ 1 [c] Tryz.underlying44 Tryz.underlying5 Tryz.underlying9 (by
    intro j hj
    have h0 : j = 0 := by simpa using hj
    subst h0
    simp [Addr.add])
  exact this
theorem cat_size (c : UInt8) (out : ByteArray) : ((⟨#[c]⟩ : ByteArray) ++ out).size = out.size + 1 := by
  rw [ByteArray.size_append]; show 1 + out.size = _; omega
theorem cat_list (c : UInt8) (out : ByteArray) : ((⟨#[c]⟩ : ByteArray) ++ out).data.toList = c :: out.data.toList := by simp

set_option maxRecDepth 100000 in
set_option maxHeartbeats 1000000 in
theorem sL2Digits_pos (n : Nat) (w : World) (h0 : (0 : Int) < n) (h1 : (n : Int) ≤ 9223372036854775807) :
    Calls Tryz.prog 75 #[.int .i64 n] w fun e w' => e = .returned (.string ⟨(Lib.decDigits n).toArray⟩) ∧ Below w.heap.size w w' := by
  go_enter Tryz.func75, Tryz.ntmps75
  go_wp2
  go_loopw [0, 3] (fun v o w' => ∃ (k : Nat) (out : ByteArray), Below w.heap.size w w' ∧ v = .int .i64 k ∧ o = .string out ∧ (k : Int) + out.size ≤ n ∧ digs k ++ out.data.toList = Lib.decDigits n) (fun v _ _ => (intOf v).toNat)
  case atStart => exact ⟨n, ⟨#[]⟩, Below.refl _ _, rfl, rfl, by simp [ByteArray.size], by unfold digs; rw [if_neg (by omega)]; simp⟩
  case round =>
    obtain ⟨k, out, hb, rfl, rfl, hsz, hd⟩ := hrel
    have HD : Hid (digs k ++ out.data.toList = Lib.decDigits n) := hd
    clear hd
    by_cases hk : (0 : Int) < k
    · have hkn : (k : Int) ≤ 9223372036854775807 := by omega
      have hm0 : 0 ≤ (k : Int) % 10 := by omega
      have hm9 : (k : Int) % 10 ≤ 9 := by omega
      have hon : (1 : Int) + out.size ≤ 9223372036854775807 := by omega
      have hcv := fun w => one_byte w (UInt8.ofNat (48 + k % 10)) (48 + (k : Int) % 10) (by rw [UInt8.toNat_ofNat']; omega)
      have HC : Hid (digs k = digs (k / 10) ++ [UInt8.ofNat (48 + k % 10)]) := digs_step (by omega)
      generalize UInt8.ofNat (48 + k % 10) = c at *
      go_wp2
      go_roundw
      case rel => exact ⟨k / 10, _, hb.alloc hb.size _, by go_num, rfl, by rw [cat_size]; omega, by rw [cat_list, ← HD.out, HC.out]; simp⟩
      case measure => simp [intOf]; omega
    · have he : k = 0 := by omega
      subst he
      have HE : Hid ((⟨(Lib.decDigits n).toArray⟩ : ByteArray) = out) := by
        show _ = _
        rw [← HD.out]; simp [digs]
      go_wp2
      go_ret
      exact ⟨by rw [HE.out]; rfl, hb⟩

theorem sL2Digits (n : Int) (w : World) (h0 : 0 ≤ n) (h1 : n ≤ 9223372036854775807) :
    Calls Tryz.prog 75 #[.int .i64 n] w fun e w' => e = .returned (.string ⟨(Lib.decDigits n.toNat).toArray⟩) ∧ Below w.heap.size w w' := by
  by_cases h : n = 0
  · subst h
    rw [show (⟨(Lib.decDigits (0 : Int).toNat).toArray⟩ : ByteArray) = ⟨#[48]⟩ by rw [show (0 : Int).toNat = 0 from rfl, Lib.decDigits_one (by decide)]; rfl]
    go_enter Tryz.func75, Tryz.ntmps75
    go_wp2
    go_ret
    exact ⟨rfl, Below.refl _ _⟩
  · have := sL2Digits_pos n.toNat w (by omega) (by omega)
    rw [show ((n.toNat : Nat) : Int) = n by omega] at this
    exact this
theorem snoc_of {l : List UInt8} {n : Nat} (h : l.length = n + 1) : l = l.take n ++ [l[n]] := by
  have := List.take_succ_eq_append_getElem (l := l) (i := n) (by omega)
  rw [← this, List.take_of_length_le (by omega)]
theorem trim_on {l : List UInt8} {n : Nat} (h : l.length = n + 1) (hb : l[n] = 48) : Lib.trimRightB (l.take n) 48 = Lib.trimRightB l 48 := by
  have e := snoc_of h
  rw [hb] at e
  unfold Lib.trimRightB
  conv => rhs; rw [e]
  simp
theorem trim_stop {l : List UInt8} {n : Nat} (h : l.length = n + 1) (hb : l[n] ≠ 48) : Lib.trimRightB l 48 = l := by
  have e := snoc_of h
  generalize l[n] = b at e hb
  unfold Lib.trimRightB
  rw [e]
  simp [hb]

set_option maxRecDepth 100000 in
set_option maxHeartbeats 1000000 in
theorem sText_pos (x : Int) (w : World) (h0 : 0 ≤ x) (h1 : x ≤ 9000000000000) :
    Calls Tryz.prog 38 #[.int .i64 x] w fun e w' => e = .returned (.string ⟨(Num.textL x).toArray⟩) ∧ Below w.heap.size w w' := by
  have hok : Dec.okB x = true := Dec.okB_true (by omega) (by omega)
  have hi1 := fun w1 => sL2Digits (x / 1000000) w1 (by omega) (by omega)
  have hi2 := fun w1 => sL2Digits (1000000 + x % 1000000) w1 (by omega) (by omega)
  obtain ⟨Q, hQ⟩ : ∃ Q : ByteArray, Q = ⟨(Lib.decDigits (x / 1000000).toNat).toArray⟩ := ⟨_, rfl⟩
  obtain ⟨D, hD⟩ : ∃ D : ByteArray, D = ⟨(Lib.decDigits (1000000 + x % 1000000).toNat).toArray⟩ := ⟨_, rfl⟩
  have hQs : Q.size ≤ 20 := by rw [hQ]; exact dec_size (by omega)
  have hDs : D.size = 7 := by
    rw [hD, Lib.size_mk]
    obtain ⟨E, e, e6, _⟩ := Num.seven (r := (x % 1000000).toNat) (by omega)
    rw [show (1000000 + x % 1000000).toNat = 1000000 + (x % 1000000).toNat by omega, e]; simp [e6]
  rw [← hQ] at hi1
  rw [← hD] at hi2
  have hD1 : 1 ≤ D.size := by omega
  have hD2 : D.size ≤ 7 := by omega
  have habs : Dec.absI x = x := Dec.absI_pos h0
  have hso := sDecOk x w
  rw [hok] at hso
  clear hok
  by_cases hr : x % 1000000 = 0
  · have HE : Hid ((⟨(Num.textL x).toArray⟩ : ByteArray) = Q) := by
      show _ = _
      unfold Num.textL; rw [habs, if_neg (by omega), if_pos hr, hQ]
      apply ByteArray.ext
      simp
    clear hQ hD hi2 habs hDs
    go_enter Tryz.func38, Tryz.ntmps38
    go_wp2_with (first | (go_at_call 73; refine hso.mono ?_; rintro e w' ⟨rfl, hw⟩; have hw := hw.symm; subst hw) | (go_at_call 75; with_reducible refine (hi1 _).mono ?_; rintro e w1 ⟨rfl, hb1⟩) | go_in)
    go_ret
    exact ⟨by rw [HE.out]; rfl, hb1⟩
  · have hrp : 0 < x % 1000000 := by omega
    obtain ⟨T, hTr⟩ : ∃ T : ByteArray, T = ⟨(Lib.trimRightB (D.extract 1 D.size).data.toList 48).toArray⟩ := ⟨_, rfl⟩
    have hTl : Lib.trimRightB (D.extract 1 D.size).data.toList 48 = T.data.toList := by rw [hTr]
    have hTn : T.data.toList ≠ [] := by
      rw [← hTl, Lib.extract_from, hD]
      obtain ⟨_, _, _, _, hz⟩ := Num.rest_is (r := (x % 1000000).toNat) (by omega)
      intro h
      have := hz (by
        unfold Num.restL
        rw [show 1000000 + (x % 1000000).toNat = (1000000 + x % 1000000).toNat by omega]
        exact h)
      omega
    have hxs : (D.extract 1 D.size).size ≤ 6 := by rw [ByteArray.size_extract]; omega
    have HE : Hid ((⟨(Num.textL x).toArray⟩ : ByteArray) = Q ++ ⟨#[46]⟩ ++ T) := by
      show _ = _
      unfold Num.textL
      rw [habs, if_neg (by omega), if_neg hr, hTr, Lib.extract_from, hD, hQ]
      apply ByteArray.ext
      simp
    have HT0 : Hid (Lib.trimRightB (D.extract 1 D.size).data.toList 48 = T.data.toList) := hTl
    have HTn : Hid (T.data.toList ≠ []) := hTn
    have HXs : Hid ((D.extract 1 D.size).size ≤ 6) := hxs
    clear hTr hQ hD habs hDs hTl hTn hxs hr
    go_enter Tryz.func38, Tryz.ntmps38
    go_wp2_with (first | (go_at_call 73; refine hso.mono ?_; rintro e w' ⟨rfl, hw⟩; have hw := hw.symm; subst hw) | (go_at_call 75; with_reducible refine (hi1 _).mono ?_; rintro e w1 ⟨rfl, hb1⟩) | (go_at_call 75; with_reducible refine (hi2 _).mono ?_; rintro e w2 ⟨rfl, hb2⟩) | go_in)
    go_loop [6] (fun o => ∃ t : ByteArray, o = .string t ∧ t.size ≤ 6 ∧ Lib.trimRightB t.data.toList 48 = T.data.toList) (fun o => match o with | .string t => t.size | _ => 0)
    case atStart => exact ⟨_, rfl, HXs.out, HT0.out⟩
    case round =>
      obtain ⟨t, rfl, hts, ht⟩ := hrel
      have HT : Hid (Lib.trimRightB t.data.toList 48 = T.data.toList) := ht
      obtain ⟨n, hn⟩ : ∃ n, t.size = n + 1 := by
        rcases Nat.eq_zero_or_pos t.size with hz | hz
        · exfalso
          have e : t.data.toList = [] := List.eq_nil_of_length_eq_zero (by simpa using hz)
          rw [e] at ht
          exact HTn.out ht.symm
        · exact ⟨t.size - 1, by omega⟩
      clear ht
      have hq : n < t.size := by omega
      have hn6 : (n : Int) ≤ 5 := by omega
      have hln : t.data.toList.length = n + 1 := by simpa using hn
      by_cases hb : (t[n].toNat : Int) = 48
      · have HB : Hid (Lib.trimRightB (t.data.toList.take n) 48 = T.data.toList) := by
          show _ = _
          rw [trim_on hln (UInt8.toNat_inj.mp (by show t[n].toNat = 48; omega))]; exact HT.out
        clear hln
        go_wp2
        go_round
        case rel => exact ⟨_, rfl, by rw [ByteArray.size_extract]; omega, by rw [Lib.extract_upto]; exact HB.out⟩
        case measure => simp; omega
      · have hb' : ((t[n].toNat : Int) == 48) = false := by simp [hb]
        have HB : Hid (t = T) := by
          have h := trim_stop hln (fun e => hb (by rw [show t[n] = 48 from e]; rfl))
          rw [HT.out] at h
          show _ = _
          apply ByteArray.ext
          exact (Array.toList_inj.mp h).symm
        clear hln
        go_wp2
        go_ret
        refine ⟨?_, hb1.trans (hb2.mono hb1.size)⟩
        rw [HE.out, ← HB.out]
        rfl

set_option maxRecDepth 100000 in
set_option maxHeartbeats 1000000 in
theorem sText_neg (x : Int) (w : World) (h0 : 0 < x) (h1 : x ≤ 9000000000000) :
    Calls Tryz.prog 38 #[.int .i64 (-x)] w fun e w' => e = .returned (.string ⟨(Num.textL (-x)).toArray⟩) ∧ Below w.heap.size w w' := by
  have hok : Dec.okB (-x) = true := Dec.okB_true (by omega) (by omega)
  have hi1 := fun w1 => sL2Digits (x / 1000000) w1 (by omega) (by omega)
  have hi2 := fun w1 => sL2Digits (1000000 + x % 1000000) w1 (by omega) (by omega)
  obtain ⟨Q, hQ⟩ : ∃ Q : ByteArray, Q = ⟨(Lib.decDigits (x / 1000000).toNat).toArray⟩ := ⟨_, rfl⟩
  obtain ⟨D, hD⟩ : ∃ D : ByteArray, D = ⟨(Lib.decDigits (1000000 + x % 1000000).toNat).toArray⟩ := ⟨_, rfl⟩
  have hQs : Q.size ≤ 20 := by rw [hQ]; exact dec_size (by omega)
  have hDs : D.size = 7 := by
    rw [hD, Lib.size_mk]
    obtain ⟨E, e, e6, _⟩ := Num.seven (r := (x % 1000000).toNat) (by omega)
    rw [show (1000000 + x % 1000000).toNat = 1000000 + (x % 1000000).toNat by omega, e]; simp [e6]
  rw [← hQ] at hi1
  rw [← hD] at hi2
  have hD1 : 1 ≤ D.size := by omega
  have hD2 : D.size ≤ 7 := by omega
  have habs : Dec.absI (-x) = x := by rw [Dec.absI_neg (by omega)]; omega
  have hso := sDecOk (-x) w
  rw [hok] at hso
  clear hok
  by_cases hr : x % 1000000 = 0
  · have HE : Hid ((⟨(Num.textL (-x)).toArray⟩ : ByteArray) = ⟨#[45]⟩ ++ Q) := by
      show _ = _
      unfold Num.textL; rw [habs, if_pos (by omega), if_pos hr, hQ]
      apply ByteArray.ext
      simp
    clear hQ hD hi2 habs hDs
    go_enter Tryz.func38, Tryz.ntmps38
    go_wp2_with (first | (go_at_call 73; refine hso.mono ?_; rintro e w' ⟨rfl, hw⟩; have hw := hw.symm; subst hw) | (go_at_call 75; with_reducible refine (hi1 _).mono ?_; rintro e w1 ⟨rfl, hb1⟩) | go_in)
    go_ret
    exact ⟨by rw [HE.out]; rfl, hb1⟩
  · have hrp : 0 < x % 1000000 := by omega
    obtain ⟨T, hTr⟩ : ∃ T : ByteArray, T = ⟨(Lib.trimRightB (D.extract 1 D.size).data.toList 48).toArray⟩ := ⟨_, rfl⟩
    have hTl : Lib.trimRightB (D.extract 1 D.size).data.toList 48 = T.data.toList := by rw [hTr]
    have hTn : T.data.toList ≠ [] := by
      rw [← hTl, Lib.extract_from, hD]
      obtain ⟨_, _, _, _, hz⟩ := Num.rest_is (r := (x % 1000000).toNat) (by omega)
      intro h
      have := hz (by
        unfold Num.restL
        rw [show 1000000 + (x % 1000000).toNat = (1000000 + x % 1000000).toNat by omega]
        exact h)
      omega
    have hxs : (D.extract 1 D.size).size ≤ 6 := by rw [ByteArray.size_extract]; omega
    have HE : Hid ((⟨(Num.textL (-x)).toArray⟩ : ByteArray) = ⟨#[45]⟩ ++ (Q ++ ⟨#[46]⟩ ++ T)) := by
      show _ = _
      unfold Num.textL
      rw [habs, if_pos (by omega), if_neg hr, hTr, Lib.extract_from, hD, hQ]
      apply ByteArray.ext
      simp
    have HT0 : Hid (Lib.trimRightB (D.extract 1 D.size).data.toList 48 = T.data.toList) := hTl
    have HTn : Hid (T.data.toList ≠ []) := hTn
    have HXs : Hid ((D.extract 1 D.size).size ≤ 6) := hxs
    clear hTr hQ hD habs hDs hTl hTn hxs hr
    go_enter Tryz.func38, Tryz.ntmps38
    go_wp2_with (first | (go_at_call 73; refine hso.mono ?_; rintro e w' ⟨rfl, hw⟩; have hw := hw.symm; subst hw) | (go_at_call 75; with_reducible refine (hi1 _).mono ?_; rintro e w1 ⟨rfl, hb1⟩) | (go_at_call 75; with_reducible refine (hi2 _).mono ?_; rintro e w2 ⟨rfl, hb2⟩) | go_in)
    go_loop [6] (fun o => ∃ t : ByteArray, o = .string t ∧ t.size ≤ 6 ∧ Lib.trimRightB t.data.toList 48 = T.data.toList) (fun o => match o with | .string t => t.size | _ => 0)
    case atStart => exact ⟨_, rfl, HXs.out, HT0.out⟩
    case round =>
      obtain ⟨t, rfl, hts, ht⟩ := hrel
      have HT : Hid (Lib.trimRightB t.data.toList 48 = T.data.toList) := ht
      obtain ⟨n, hn⟩ : ∃ n, t.size = n + 1 := by
        rcases Nat.eq_zero_or_pos t.size with hz | hz
        · exfalso
          have e : t.data.toList = [] := List.eq_nil_of_length_eq_zero (by simpa using hz)
          rw [e] at ht
          exact HTn.out ht.symm
        · exact ⟨t.size - 1, by omega⟩
      clear ht
      have hq : n < t.size := by omega
      have hn6 : (n : Int) ≤ 5 := by omega
      have hln : t.data.toList.length = n + 1 := by simpa using hn
      by_cases hb : (t[n].toNat : Int) = 48
      · have HB : Hid (Lib.trimRightB (t.data.toList.take n) 48 = T.data.toList) := by
          show _ = _
          rw [trim_on hln (UInt8.toNat_inj.mp (by show t[n].toNat = 48; omega))]; exact HT.out
        clear hln
        go_wp2
        go_round
        case rel => exact ⟨_, rfl, by rw [ByteArray.size_extract]; omega, by rw [Lib.extract_upto]; exact HB.out⟩
        case measure => simp; omega
      · have hb' : ((t[n].toNat : Int) == 48) = false := by simp [hb]
        have HB : Hid (t = T) := by
          have h := trim_stop hln (fun e => hb (by rw [show t[n] = 48 from e]; rfl))
          rw [HT.out] at h
          show _ = _
          apply ByteArray.ext
          exact (Array.toList_inj.mp h).symm
        clear hln
        go_wp2
        go_ret
        refine ⟨?_, hb1.trans (hb2.mono hb1.size)⟩
        rw [HE.out, ← HB.out]
        rfl

theorem sDecText (x : Int) (w : World) :
    Calls Tryz.prog 38 #[.int .i64 x] w fun e w' => e = .returned (.string ⟨(Num.decTextL x).toArray⟩) ∧ Below w.heap.size w w' := by
  cases h : Dec.okB x with
  | false =>
    have e : (⟨(Num.decTextL x).toArray⟩ : ByteArray) = ⟨#[]⟩ := by unfold Num.decTextL; rw [h]; rfl
    have hso := sDecOk x w
    rw [h] at hso
    rw [e]
    go_enter Tryz.func38, Tryz.ntmps38
    go_wp2_with (go_at_call 73; refine hso.mono ?_; rintro e w' ⟨rfl, hw⟩; have hw := hw.symm; subst hw)
    go_ret
    exact ⟨rfl, Below.refl _ _⟩
  | true =>
    obtain ⟨h1, h2⟩ := Dec.of_okB h
    rw [show Num.decTextL x = Num.textL x by unfold Num.decTextL; rw [h]; rfl]
    rcases Int.lt_or_le x 0 with hx | hx
    · have := sText_neg (-x) w (by omega) (by omega)
      rw [Int.neg_neg] at this; exact this
    · exact sText_pos x w hx h2

end Go.Proofs.YtjdohfdkkppnpaaGreatDoor

