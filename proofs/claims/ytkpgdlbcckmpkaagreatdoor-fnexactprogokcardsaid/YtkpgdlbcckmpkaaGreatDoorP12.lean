/-
  Names in order, the program's: slices.Index, areAll at texts, isNameList, areRight.
-/
import Derived.Test.YtkpgdlbcckmpkaaGreatDoorP09
import Derived.Test.YtkpgdlbcckmpkaaGreatDoorP11
import Derived.Deep.QuietTactic
import Derived.BigQuiet
namespace Go.Proofs.YtkpgdlbcckmpkaaGreatDoor
open Go.RowKit
namespace Pg
open St (Vl RdV)
open Oc (hold heap_new Blk)

set_option maxRecDepth 100000 in
theorem iIndex {ss : List ByteArray} {ao : Option Addr} {cap : Nat} {w : World} (hA : RdT w ao ss) (hn : ss.length ≤ 1048576) (s : ByteArray) :
    Calls Tryz.prog 41 #[.slice ao ss.length cap, .string s] w fun e w' => e = .returned (.int .i64 (idx ss s)) ∧ w' = w := by
  have bn : (ss.length : Int) ≤ 1048576 := by omega
  go_enter Tryz.func41, Tryz.ntmps41
  go_wp2_with fail
  go_loopw [5, 8] (fun _ i wr => ∃ k : Nat, k ≤ ss.length ∧ i = .int .i64 k ∧ Hid ((ss.take k).any (eqB · s) = false) ∧ wr = w) (fun _ i _ => ss.length - (intOf i).toNat)
  case atStart => exact ⟨0, Nat.zero_le _, rfl, (show (ss.take 0).any (eqB · s) = false from rfl), rfl⟩
  case round =>
    obtain ⟨k, hkn, rfl, HN, rfl⟩ := hrel
    by_cases hkl : k < ss.length
    · have hki : ss[k]? = some ss[k] := List.getElem?_eq_getElem hkl
      obtain ⟨b, o, rfl, hbl, hss, c0⟩ := hA k _ hki
      have bk : (k : Int) < ss.length := by omega
      by_cases he : ss[k].toList = s.toList
      · have HR : Hid (idx ss s = k) := (idx_at hki (decide_eq_true he) HN.out).1
        generalize ss[k] = v at *
        have e1 : (s.toList == v.toList) = true := by simpa using he.symm
        clear hA hki he
        go_wp2_with fail
        go_ret
        exact ⟨by rw [HR.out]; rfl, rfl⟩
      · have HN' : Hid ((ss.take (k + 1)).any (eqB · s) = false) := by
          show (ss.take (k + 1)).any (eqB · s) = false
          rw [any_takeT hki, HN.out, eqB, decide_eq_false he]
          rfl
        generalize ss[k] = v at *
        have e1 : (s.toList == v.toList) = false := beq_eq_false_iff_ne.2 (fun h => he h.symm)
        clear hA hki he
        go_wp2_with fail
        go_roundw
        case rel => exact ⟨k + 1, hkl, by go_num, HN', trivial⟩
        case measure => simp [intOf]; omega
    · obtain rfl : k = ss.length := by omega
      have HR : Hid (idx ss s = -1) := (idx_none (by have := HN.out; rwa [List.take_length] at this)).1
      go_wp2_with fail
      go_ret
      exact ⟨by rw [HR.out]; rfl, rfl⟩

set_option maxRecDepth 100000 in
theorem iAreAllT {f : Nat} {fc : Array Value} {p : ByteArray → Bool} {ss : List ByteArray} {w : World} (hf : ∀ s ∈ ss, ∀ w', Below w.heap.size w w' → Calls Tryz.prog f (#[.string s] ++ fc) w' fun e w'' => e = .returned (.bool (p s)) ∧ Below w'.heap.size w' w'') (hent : ∀ (vs : Array Value) (w : World), (callFunc f vs).run Tryz.prog w = .ok (.enter f vs) w) (hn : ss.length ≤ 1048577) (ao : Option Addr) (cap : Nat) (hA : RdT w ao ss) :
    Calls Tryz.prog 27 #[.slice ao ss.length cap, .func (.func f) #[] fc] w fun e w' => e = .returned (.bool (ss.all p)) ∧ Below w.heap.size w w' := by
  have bn : (ss.length : Int) ≤ 1048577 := by omega
  have HE : Hid (∀ (vs : Array Value) (w : World), (callFunc f vs).run Tryz.prog w = .ok (.enter f vs) w) := hent
  clear hn hent
  go_enter Tryz.func27, Tryz.ntmps27
  go_wp2_with fail
  go_loopw [6, 9] (fun _ i wr => ∃ k : Nat, k ≤ ss.length ∧ i = .int .i64 k ∧ (ss.take k).all p = true ∧ Below w.heap.size w wr) (fun _ i _ => ss.length - (intOf i).toNat)
  case atStart => exact ⟨0, Nat.zero_le _, rfl, rfl, Below.refl _ _⟩
  case round =>
    obtain ⟨k, hkn, rfl, hall, hb⟩ := hrel
    by_cases hkl : k < ss.length
    · have hki : ss[k]? = some ss[k] := List.getElem?_eq_getElem hkl
      obtain ⟨b, o, rfl, hbl, hss, c0⟩ := hA.below hb k _ hki
      have bk : (k : Int) < ss.length := by omega
      have hT := all_takeT (p := p) hki
      rw [hall, Bool.true_and] at hT
      have call := hf ss[k] (List.getElem_mem hkl) wr hb
      have HN : Hid (p ss[k] = false → ss.all p = false) := all_noT (List.getElem_mem hkl)
      have HT : Hid ((ss.take (k + 1)).all p = p ss[k]) := hT
      clear hf hA hki hall hT
      generalize p ss[k] = B at *
      generalize ss[k] = v at *
      cases B
      · replace HN : Hid (ss.all p = false) := HN.out rfl
        go_wp2_with fail
        rw [HE.out]
        refine Calls.mono call ?_
        rintro e w2 ⟨rfl, hb2⟩
        go_wp2_with fail
        go_ret
        exact ⟨by rw [HN.out]; rfl, hb.trans (hb2.mono hb.size)⟩
      · go_wp2_with fail
        rw [HE.out]
        refine Calls.mono call ?_
        rintro e w2 ⟨rfl, hb2⟩
        go_wp2_with fail
        go_roundw
        case rel => exact ⟨k + 1, hkl, by go_num, HT.out, hb.trans (hb2.mono hb.size)⟩
        case measure => simp [intOf]; omega
    · obtain rfl : k = ss.length := by omega
      rw [List.take_length] at hall
      have H : Hid (ss.all p = true) := hall
      clear hall
      go_wp2_with fail
      go_ret
      exact ⟨by rw [H.out]; rfl, hb⟩

theorem enterName (vs : Array Value) (w : World) : (callFunc 40 vs).run Tryz.prog w = .ok (.enter 40 vs) w := by kernel_rfl
theorem iTidyNameT (s : ByteArray) (hs : SmT s) (w : World) : Calls Tryz.prog 40 #[.string s] w fun e w' => e = .returned (.bool (nmB s)) ∧ Below w.heap.size w w' := by
  have := Ty.iTidyName s.data.toList (by unfold SmT at hs; simpa using hs) w
  simpa [nmB] using this
theorem geq_str (t : TypeId) (a b : ByteArray) : binOp .geq t (.string a) (.string b) = pure (.bool !(ltB a b)) := by simp [binOp, Op.stringOp, ltB]

set_option maxRecDepth 100000 in
theorem iIsNameList {ss : List ByteArray} {ao : Option Addr} {cap : Nat} {w : World} (hA : RdT w ao ss) (hs : ∀ s ∈ ss, SmT s) (hn : ss.length ≤ 1048576) :
    Calls Tryz.prog 26 #[.slice ao ss.length cap] w fun e w' => e = .returned (.bool (namesB ss)) ∧ Below w.heap.size w w' := by
  obtain ⟨R, hR⟩ : ∃ R, R = namesB ss := ⟨_, rfl⟩
  have HR : Hid (R = (decide (ss.length ≤ 8) && (ss.all nmB && upB ss ss.length))) := hR
  rw [← hR]
  clear hR
  have bn : (ss.length : Int) ≤ 1048576 := by omega
  have hg := geq_str
  by_cases h8 : ss.length ≤ 8
  · have CA : Hid (Calls Tryz.prog 27 #[.slice ao ss.length cap, .func (.func 40) #[] #[]] w fun e w' => e = .returned (.bool (ss.all nmB)) ∧ Below w.heap.size w w') := iAreAllT (fc := #[]) (fun s hm w' _ => iTidyNameT s (hs s hm) w') enterName (by omega) ao cap hA
    have b8 : (ss.length : Int) ≤ 8 := by omega
    rw [decide_eq_true h8, Bool.true_and] at HR
    generalize hV : ss.all nmB = V at *
    clear hV hs
    cases V with
    | false =>
      have H : Hid (R = false) := HR.out
      go_enter Tryz.func26, Tryz.ntmps26
      go_wp2_with (go_at_call 27; refine Calls.mono CA.out ?_; rintro e w2 ⟨rfl, hb2⟩)
      go_ret
      exact ⟨by rw [H.out]; rfl, hb2⟩
    | true =>
      have H : Hid (R = upB ss ss.length) := by show R = _; rw [HR.out]; simp
      clear HR
      go_enter Tryz.func26, Tryz.ntmps26
      go_wp2_with (go_at_call 27; refine Calls.mono CA.out ?_; rintro e w2 ⟨rfl, hb2⟩)
      clear CA
      go_loopw [3] (fun i wr => ∃ k : Nat, k ≤ ss.length + 1 ∧ 1 ≤ k ∧ (k ≤ ss.length ∨ ss.length = 0) ∧ i = .int .i64 k ∧ upB ss k = true ∧ Below w.heap.size w wr) (fun i _ => ss.length - (intOf i).toNat)
      case atStart => exact ⟨1, by omega, by omega, by omega, rfl, rfl, hb2⟩
      case round =>
        obtain ⟨k, hkn, hk1, hk2, rfl, hU, hb⟩ := hrel
        by_cases hkl : k < ss.length
        · have hki : ss[k]? = some ss[k] := List.getElem?_eq_getElem hkl
          have hkj : ss[k - 1]? = some ss[k - 1] := List.getElem?_eq_getElem (by omega)
          obtain ⟨b, o, rfl, hbl, hss, c0⟩ := hA.below hb k _ hki
          obtain ⟨b', o', hbo, hbl', hss', c1⟩ := hA.below hb (k - 1) _ hkj
          simp at hbo
          obtain ⟨rfl, rfl⟩ := hbo
          have bk : (k : Int) < ss.length := by omega
          obtain ⟨j, rfl⟩ : ∃ j, k = j + 1 := ⟨k - 1, by omega⟩
          have hat : upAt ss (j + 1) = ltB ss[j] ss[j + 1] := by
            unfold upAt
            rw [nm_get hki, nm_get hkj]
            simp
          have hT := upB_succ ss (j + 1)
          rw [hU, hat, Bool.true_and] at hT
          have HN : Hid (ltB ss[j] ss[j + 1] = false → upB ss ss.length = false) := fun h => upB_no hkl (hat.trans h)
          have HT : Hid (upB ss (j + 1 + 1) = ltB ss[j] ss[j + 1]) := hT
          simp only [Nat.add_sub_cancel] at c1
          clear hA hki hkj hat hT hU hss hss' hbl hbl'
          have e1 : ((j + 1 : Nat) : Int) - 1 = (j : Int) := by omega
          generalize ss[j] = x at *
          generalize ss[j + 1] = y at *
          generalize hB : ltB x y = B at *
          cases B
          · replace HN : Hid (upB ss ss.length = false) := HN.out rfl
            go_wp2_with fail
            go_quiet (fail)
            go_wp2_with fail
            go_ret
            exact ⟨by rw [H.out, HN.out]; rfl, ⟨hb.os, hb.tape, hb.output, hb.size, hb.block⟩⟩
          · go_wp2_with fail
            go_quiet (fail)
            go_wp2_with fail
            go_roundw
            case rel => exact ⟨j + 1 + 1, by omega, by omega, by omega, by go_num, HT.out, ⟨hb.os, hb.tape, hb.output, hb.size, hb.block⟩⟩
            case measure => simp [intOf]; omega
        · have HU : Hid (upB ss ss.length = true) := by
            show upB ss ss.length = true
            rcases hk2 with h | h
            · obtain rfl : k = ss.length := by omega
              exact hU
            · rw [h]; rfl
          have hge : ¬ (k : Int) < ss.length := by omega
          clear hA
          go_wp2_with fail
          go_ret
          exact ⟨by rw [H.out, HU.out]; rfl, hb⟩
  · have H : Hid (R = false) := by show R = false; rw [HR.out, decide_eq_false h8]; rfl
    have b8 : (8 : Int) < ss.length := by omega
    clear HR
    go_enter Tryz.func26, Tryz.ntmps26
    go_wp2_with fail
    go_ret
    exact ⟨by rw [H.out]; rfl, Below.refl _ _⟩

end Pg
end Go.Proofs.YtkpgdlbcckmpkaaGreatDoor

