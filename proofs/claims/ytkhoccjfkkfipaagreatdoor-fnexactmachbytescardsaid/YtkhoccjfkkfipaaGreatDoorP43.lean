/-
  ProgOk, the specification's.
-/
import Derived.Test.YtkhoccjfkkfipaaGreatDoorP13
import Derived.Test.YtkhoccjfkkfipaaGreatDoorP14
import Derived.Test.YtkhoccjfkkfipaaGreatDoorP28
import Derived.Test.YtkhoccjfkkfipaaGreatDoorP27
import Derived.Deep.QuietTactic
import Derived.BigQuiet
namespace Go.Proofs.YtkhoccjfkkfipaaGreatDoor
open Go.RowKit
namespace Pg
open St (Vl RdV)
open Oc (hold heap_new Blk)

theorem sNameT (s : ByteArray) (hs : SmT s) (w : World) : Calls Tryz.prog 66 #[.string s] w fun e w' => e = .returned (.bool (nmB s)) ∧ Below w.heap.size w w' := by
  have := Ty.sName s.data.toList (by unfold SmT at hs; simpa using hs) w
  simpa [nmB] using this
theorem geqS (t : TypeId) (a b : ByteArray) : binOp .geq t (.string a) (.string b) = pure (.bool !(ltB a b)) := by simp [binOp, Op.stringOp, ltB]

set_option maxRecDepth 100000 in
theorem sWithinT {ss : List ByteArray} {ao : Option Addr} {cap : Nat} {w : World} (hA : RdT w ao ss) (hn : ss.length ≤ 1048576) (s : ByteArray) :
    Calls Tryz.prog 67 #[.slice ao ss.length cap, .string s] w fun e w' => e = .returned (.bool (hasT ss s)) ∧ w' = w := by
  have bn : (ss.length : Int) ≤ 1048576 := by omega
  go_enter Tryz.func67, Tryz.ntmps67
  go_wp2_with fail
  go_loopw [5] (fun i wr => ∃ k : Nat, k ≤ ss.length ∧ i = .int .i64 k ∧ Hid ((ss.take k).any (eqB · s) = false) ∧ wr = w) (fun i _ => ss.length - (intOf i).toNat)
  case atStart => exact ⟨0, Nat.zero_le _, rfl, (show (ss.take 0).any (eqB · s) = false from rfl), rfl⟩
  case round =>
    obtain ⟨k, hkn, rfl, HN, rfl⟩ := hrel
    by_cases hkl : k < ss.length
    · have hki : ss[k]? = some ss[k] := List.getElem?_eq_getElem hkl
      obtain ⟨b, o, rfl, hbl, hss, c0⟩ := hA k _ hki
      have bk : (k : Int) < ss.length := by omega
      by_cases he : ss[k].toList = s.toList
      · have HR : Hid (hasT ss s = true) := (idx_at hki (decide_eq_true he) HN.out).2
        generalize ss[k] = v at *
        have e1 : (v.toList == s.toList) = true := by simpa using he
        clear hA hki he
        go_wp2_with fail
        go_ret
        exact ⟨by rw [HR.out]; rfl, rfl⟩
      · have HN' : Hid ((ss.take (k + 1)).any (eqB · s) = false) := by
          show (ss.take (k + 1)).any (eqB · s) = false
          rw [any_takeT hki, HN.out, eqB, decide_eq_false he]
          rfl
        generalize ss[k] = v at *
        have e1 : (v.toList == s.toList) = false := beq_eq_false_iff_ne.2 he
        clear hA hki he
        go_wp2_with fail
        go_roundw
        case rel => exact ⟨k + 1, hkl, by go_num, HN', trivial⟩
        case measure => simp [intOf]; omega
    · obtain rfl : k = ss.length := by omega
      have HR : Hid (hasT ss s = false) := (idx_none (by have := HN.out; rwa [List.take_length] at this)).2
      go_wp2_with fail
      go_ret
      exact ⟨by rw [HR.out]; rfl, rfl⟩

def vOk (vars cells : List ByteArray) (i : Nat) : Bool := nmB (nm vars i) && (freeOf cells (nm vars i) && upAt vars i)
def cOk (cells : List ByteArray) (i : Nat) : Bool := nmB (nm cells i) && upAt cells i
theorem nm_mem {ss : List ByteArray} {i : Nat} (h : i < ss.length) : nm ss i ∈ ss := by
  rw [nm_get (List.getElem?_eq_getElem h)]
  exact List.getElem_mem h
theorem names_no {ss : List ByteArray} {i : Nat} (h : i < ss.length) (hc : cOk ss i = false) : namesB ss = false := by
  unfold cOk at hc
  unfold namesB
  rcases Bool.and_eq_false_iff.1 hc with h1 | h1
  · rw [all_noT (nm_mem h) h1]; simp
  · rw [upB_no h h1]; simp
theorem prog_noV {P : ByteArray → Bool} {vars cells : List ByteArray} {st mn : List Vl} {i : Nat} (h : i < vars.length) (hv : vOk vars cells i = false) : progB P vars cells st mn = false := by
  unfold progB listsB
  unfold vOk at hv
  rcases Bool.and_eq_false_iff.1 hv with h1 | h1
  · rw [names_no h (by unfold cOk; rw [h1]; rfl)]; rfl
  · rcases Bool.and_eq_false_iff.1 h1 with h2 | h2
    · rw [all_noT (nm_mem h) h2]; simp
    · rw [names_no h (by unfold cOk; rw [h2]; simp)]; rfl
theorem prog_noC {P : ByteArray → Bool} {vars cells : List ByteArray} {st mn : List Vl} {i : Nat} (h : i < cells.length) (hv : cOk cells i = false) : progB P vars cells st mn = false := by
  unfold progB listsB
  rw [names_no h hv]
  simp
theorem names_yes {ss : List ByteArray} (h : ∀ i, i < ss.length → cOk ss i = true) : namesB ss = decide (ss.length ≤ 8) := by
  have h1 : ss.all nmB = true := List.all_eq_true.2 fun x hx => by
    obtain ⟨i, hi⟩ := List.mem_iff_getElem?.1 hx
    have := h i (List.getElem?_eq_some_iff.1 hi).1
    unfold cOk at this
    rw [nm_get hi] at this
    exact (Bool.and_eq_true_iff.1 this).1
  have h2 : upB ss ss.length = true := List.all_eq_true.2 fun i hi => by
    have := h i (List.mem_range.1 hi)
    unfold cOk at this
    exact (Bool.and_eq_true_iff.1 this).2
  unfold namesB
  rw [h1, h2]
  simp
theorem prog_yes {P : ByteArray → Bool} {vars cells : List ByteArray} {st mn : List Vl} (hv : ∀ i, i < vars.length → vOk vars cells i = true) (hc : ∀ i, i < cells.length → cOk cells i = true) :
    progB P vars cells st mn = (decide (vars.length ≤ 8) && (decide (cells.length ≤ 8) && (Oc.opsB P st vars.length cells.length && Oc.opsB P mn vars.length cells.length))) := by
  have h1 := names_yes (ss := vars) fun i hi => by
    have := hv i hi
    unfold vOk at this
    unfold cOk
    simp only [Bool.and_eq_true] at this ⊢
    exact ⟨this.1, this.2.2⟩
  have h2 := names_yes hc
  have h3 : vars.all (freeOf cells) = true := List.all_eq_true.2 fun x hx => by
    obtain ⟨i, hi⟩ := List.mem_iff_getElem?.1 hx
    have := hv i (List.getElem?_eq_some_iff.1 hi).1
    unfold vOk at this
    rw [nm_get hi] at this
    simp only [Bool.and_eq_true] at this
    exact this.2.1
  unfold progB listsB
  rw [h1, h2, h3, Bool.and_true, Bool.and_assoc]

/-- What is kept while the loops go. -/
structure Kp (w : World) (vs : List Value) (wr : World) : Prop where
  below : Below w.heap.size w wr
  blk : Blk 39 wr w.heap.size vs
theorem Kp.later {w wr wr' : World} {vs : List Value} (h : Kp w vs wr) (hb : Below wr.heap.size wr wr') : Kp w vs wr' := ⟨h.below.trans (hb.mono h.below.size), h.blk.below hb⟩

set_option maxHeartbeats 8000000 in
set_option maxRecDepth 100000 in
theorem sProgOk {P : ByteArray → Bool} (hP : Oc.ParseS P) {vars cells : List ByteArray} {st mn : List Vl} {va ca sa ma : Option Addr} {vc cc sc mc : Nat} {w : World} (hV : RdT w va vars) (hC : RdT w ca cells) (hT : RdV w sa st) (hM : RdV w ma mn) (hsv : ∀ s ∈ vars, SmT s) (hsc : ∀ s ∈ cells, SmT s) (hst : ∀ v ∈ st, Oc.SmV v) (hsm : ∀ v ∈ mn, Oc.SmV v) (hnv : vars.length ≤ 1048576) (hn : cells.length ≤ 1048576) (hns : st.length ≤ 40000000) (hnm : mn.length ≤ 40000000) :
    Calls Tryz.prog 46 #[.agg #[.slice va vars.length vc, .slice ca cells.length cc, .slice sa st.length sc, .slice ma mn.length mc]] w fun e w' => e = .returned (.bool (progB P vars cells st mn)) ∧ Below w.heap.size w w' := by
  obtain ⟨R, hR⟩ : ∃ R, R = progB P vars cells st mn := ⟨_, rfl⟩
  have HNV : Hid (∀ i, i < vars.length → vOk vars cells i = false → R = false) := fun i hi hv => by rw [hR]; exact prog_noV hi hv
  have HNC : Hid (∀ i, i < cells.length → cOk cells i = false → R = false) := fun i hi hv => by rw [hR]; exact prog_noC hi hv
  have HYES : Hid ((∀ i, i < vars.length → vOk vars cells i = true) → (∀ i, i < cells.length → cOk cells i = true) → R = (decide (vars.length ≤ 8) && (decide (cells.length ≤ 8) && (Oc.opsB P st vars.length cells.length && Oc.opsB P mn vars.length cells.length)))) := fun h1 h2 => by rw [hR]; exact prog_yes h1 h2
  rw [← hR]
  have bv : (vars.length : Int) ≤ 1048576 := by omega
  have bc : (cells.length : Int) ≤ 1048576 := by omega
  have HV : Hid (RdT w va vars) := hV
  have HC : Hid (RdT w ca cells) := hC
  have HSV : Hid (∀ s ∈ vars, SmT s) := hsv
  have HSC : Hid (∀ s ∈ cells, SmT s) := hsc
  have CW : Hid (∀ s w', Below w.heap.size w w' → Calls Tryz.prog 67 #[.slice ca cells.length cc, .string s] w' fun e w'' => e = .returned (.bool (hasT cells s)) ∧ w'' = w') := fun s w' h => sWithinT (hC.below h) hn s
  have CS : Hid (∀ w', Below w.heap.size w w' → Calls Tryz.prog 68 #[.slice sa st.length sc, .int .i64 vars.length, .int .i64 cells.length] w' fun e w'' => e = .returned (.bool (Oc.opsB P st vars.length cells.length)) ∧ Below w'.heap.size w' w'') := fun w' h => Oc.sOpsOk hP (hT.below h) hns hst
  have CM : Hid (∀ w', Below w.heap.size w w' → Calls Tryz.prog 68 #[.slice ma mn.length mc, .int .i64 vars.length, .int .i64 cells.length] w' fun e w'' => e = .returned (.bool (Oc.opsB P mn vars.length cells.length)) ∧ Below w'.heap.size w' w'') := fun w' h => Oc.sOpsOk hP (hM.below h) hnm hsm
  obtain ⟨W0, hW0⟩ : ∃ W0, W0 = w.alloc (.cells #[.slice va vars.length vc, .slice ca cells.length cc, .slice sa st.length sc, .slice ma mn.length mc] 39) := ⟨_, rfl⟩
  have HK0 : Hid (Kp w [.slice va vars.length vc, .slice ca cells.length cc, .slice sa st.length sc, .slice ma mn.length mc] W0) := by rw [hW0]; exact ⟨(Below.refl _ w).alloc (Nat.le_refl _) _, Blk.new _ _ _⟩
  have hg := geqS
  clear hR hV hC hsv hsc hT hM hst hsm hP hnv hn
  go_enter Tryz.func46, Tryz.ntmps46
  go_wp2_with fail
  rw [← hW0]
  clear hW0
  go_loopw [3] (fun i wr => ∃ k : Nat, k ≤ vars.length ∧ i = .int .i64 k ∧ Hid (∀ i, i < k → vOk vars cells i = true) ∧ Hid (Kp w [.slice va vars.length vc, .slice ca cells.length cc, .slice sa st.length sc, .slice ma mn.length mc] wr)) (fun i _ => vars.length - (intOf i).toNat)
  case atStart => exact ⟨0, Nat.zero_le _, rfl, (show ∀ i, i < 0 → vOk vars cells i = true by omega), HK0⟩
  case round =>
    clear HK0
    obtain ⟨k, hkn, rfl, HA, HK⟩ := hrel
    have q0 := HK.out.blk.cell 0 rfl
    by_cases hkl : k < vars.length
    · have hki : vars[k]? = some vars[k] := List.getElem?_eq_getElem hkl
      have bk : (k : Int) < vars.length := by omega
      have hat : vOk vars cells k = (nmB vars[k] && (freeOf cells vars[k] && upAt vars k)) := by unfold vOk; rw [nm_get hki]
      have HNo : Hid (vOk vars cells k = false → R = false) := HNV.out k hkl
      have HYes : Hid (vOk vars cells k = true → ∀ i, i < k + 1 → vOk vars cells i = true) := fun h i hi => by
        by_cases e : i = k
        · rw [e]; exact h
        · exact HA.out i (by omega)
      have HD : Hid (Kp w [.slice va vars.length vc, .slice ca cells.length cc, .slice sa st.length sc, .slice ma mn.length mc] wr.drew) := HK.out.later (Below.refl _ wr).drew
      obtain ⟨I, F, hI, hF, hF2⟩ := Fam.family wr.drew
      have HF2 : Hid (∀ w', Below wr.drew.heap.size wr.drew w' → ∃ i, w' = F i) := hF2
      have HF3 : Hid (∀ i w', Below (F i).heap.size (F i) w' → ∃ i', w' = F i') := fun i w' h => hF2 _ ((hF i).trans (h.mono (hF i).size))
      have KF : Hid (∀ i, Kp w [.slice va vars.length vc, .slice ca cells.length cc, .slice sa st.length sc, .slice ma mn.length mc] (F i)) := fun i => HD.out.later (hF i)
      have y0 := fun i => (KF.out i).blk.cell 0 rfl
      have y1 := fun i => (KF.out i).blk.cell 1 rfl
      obtain ⟨b, o, e, _, _, _⟩ := HV.out k _ hki
      have y2 : ∀ i, (F i).cell? ⟨b, o + k, none⟩ = some (.string vars[k]) := fun i => by
        obtain ⟨b', o', e', _, _, c0⟩ := HV.out.below (KF.out i).below k _ hki
        rw [e] at e'
        simp at e'
        obtain ⟨rfl, rfl⟩ := e'
        exact c0
      have CN : Hid (∀ w', Calls Tryz.prog 66 #[.string vars[k]] w' fun e w'' => e = .returned (.bool (nmB vars[k])) ∧ Below w'.heap.size w' w'') := fun w' => sNameT _ (HSV.out _ (List.getElem_mem hkl)) w'
      have CH : Hid (∀ i, Calls Tryz.prog 67 #[.slice ca cells.length cc, .string vars[k]] (F i) fun e w'' => e = .returned (.bool (hasT cells vars[k])) ∧ w'' = F i) := fun i => CW.out _ _ (KF.out i).below
      have hfr : freeOf cells vars[k] = !hasT cells vars[k] := rfl
      subst e
      clear HA hF hF2 CW HNV
      cases hB : nmB vars[k] with
      | false =>
        have H : Hid (R = false) := HNo.out (by rw [hat, hB]; rfl)
        rw [show nmB vars[k] = false from hB] at CN
        clear HNo HYes hat hfr
        generalize vars[k] = v at *
        go_wp2_with fail
        refine Fam.wp_region_fam (F := F) (by kernel_rfl) (by kernel_rfl) (HF2.out _ (Below.refl _ _)) ?_
        repeat (go_big_quiet_step ((go_at_call 66; refine Calls.mono (CN.out _) ?_; rintro e w3 ⟨rfl, hb3⟩; exact ⟨rfl, HF3.out _ _ hb3⟩)))
        refine wpQuiet_nil ?_
        rintro _ ⟨iq, rfl⟩
        have K3 := KF.out iq
        go_wp2_with fail
        go_ret
        exact ⟨by rw [H.out]; rfl, K3.below⟩
      | true =>
        rw [show nmB vars[k] = true from hB] at CN
        rw [hB, Bool.true_and] at hat
        cases hH : hasT cells vars[k] with
        | true =>
          have H : Hid (R = false) := HNo.out (by rw [hat, hfr, hH]; rfl)
          rw [show hasT cells vars[k] = true from hH] at CH
          clear HNo HYes hat hfr
          generalize vars[k] = v at *
          go_wp2_with fail
          refine Fam.wp_region_fam (F := F) (by kernel_rfl) (by kernel_rfl) (HF2.out _ (Below.refl _ _)) ?_
          repeat (go_big_quiet_step ((first | (go_at_call 66; refine Calls.mono (CN.out _) ?_; rintro e w3 ⟨rfl, hb3⟩; exact ⟨rfl, HF3.out _ _ hb3⟩) | (go_at_call 67; refine Calls.mono (CH.out _) ?_; rintro e w3 ⟨rfl, rfl⟩; exact ⟨rfl, _, rfl⟩))))
          refine wpQuiet_nil ?_
          rintro _ ⟨iq, rfl⟩
          have K3 := KF.out iq
          go_wp2_with fail
          go_ret
          exact ⟨by rw [H.out]; rfl, K3.below⟩
        | false =>
          rw [show hasT cells vars[k] = false from hH] at CH
          rw [hfr, hH, Bool.not_false, Bool.true_and] at hat
          by_cases hk0 : k = 0
          · subst hk0
            have HY : Hid (∀ i, i < 0 + 1 → vOk vars cells i = true) := HYes.out (by rw [hat]; rfl)
            clear HNo HYes hat hfr
            simp only [Nat.add_zero] at y2
            generalize vars[0] = v at *
            go_wp2_with fail
            refine Fam.wp_region_fam (F := F) (by kernel_rfl) (by kernel_rfl) (HF2.out _ (Below.refl _ _)) ?_
            repeat (go_big_quiet_step ((first | (go_at_call 66; refine Calls.mono (CN.out _) ?_; rintro e w3 ⟨rfl, hb3⟩; exact ⟨rfl, HF3.out _ _ hb3⟩) | (go_at_call 67; refine Calls.mono (CH.out _) ?_; rintro e w3 ⟨rfl, rfl⟩; exact ⟨rfl, _, rfl⟩))))
            refine wpQuiet_nil ?_
            rintro _ ⟨iq, rfl⟩
            have K3 := KF.out iq
            go_wp2_with fail
            go_roundw
            case rel => exact ⟨_, hkl, by go_num, HY.out, K3⟩
            case measure => simp [intOf]; omega
          · obtain ⟨j, rfl⟩ : ∃ j, k = j + 1 := ⟨k - 1, by omega⟩
            have hkj : vars[j]? = some vars[j] := List.getElem?_eq_getElem (by omega)
            have y3 : ∀ i, (F i).cell? ⟨b, o + j, none⟩ = some (.string vars[j]) := fun i => by
              obtain ⟨b', o', e', _, _, c0⟩ := HV.out.below (KF.out i).below j _ hkj
              simp at e'
              obtain ⟨rfl, rfl⟩ := e'
              exact c0
            have hup : upAt vars (j + 1) = ltB vars[j] vars[j + 1] := by
              unfold upAt
              rw [nm_get hki, Nat.add_sub_cancel, nm_get hkj]
              simp
            rw [hup] at hat
            have e1 : ((j + 1 : Nat) : Int) - 1 = (j : Int) := by omega
            cases hL : ltB vars[j] vars[j + 1] with
            | false =>
              have H : Hid (R = false) := HNo.out (by rw [hat, hL])
              clear HNo HYes hat hfr hup hki hkj hB
              generalize vars[j + 1] = v at *
              generalize vars[j] = v' at *
              go_wp2_with fail
              refine Fam.wp_region_fam (F := F) (by kernel_rfl) (by kernel_rfl) (HF2.out _ (Below.refl _ _)) ?_
              repeat (go_big_quiet_step ((first | (go_at_call 66; refine Calls.mono (CN.out _) ?_; rintro e w3 ⟨rfl, hb3⟩; exact ⟨rfl, HF3.out _ _ hb3⟩) | (go_at_call 67; refine Calls.mono (CH.out _) ?_; rintro e w3 ⟨rfl, rfl⟩; exact ⟨rfl, _, rfl⟩))))
              refine wpQuiet_nil ?_
              rintro _ ⟨iq, rfl⟩
              have K3 := KF.out iq
              go_wp2_with fail
              go_ret
              exact ⟨by rw [H.out]; rfl, K3.below⟩
            | true =>
              have HY : Hid (∀ i, i < j + 1 + 1 → vOk vars cells i = true) := HYes.out (by rw [hat, hL])
              clear HNo HYes hat hfr hup hki hkj hB
              generalize vars[j + 1] = v at *
              generalize vars[j] = v' at *
              go_wp2_with fail
              refine Fam.wp_region_fam (F := F) (by kernel_rfl) (by kernel_rfl) (HF2.out _ (Below.refl _ _)) ?_
              repeat (go_big_quiet_step ((first | (go_at_call 66; refine Calls.mono (CN.out _) ?_; rintro e w3 ⟨rfl, hb3⟩; exact ⟨rfl, HF3.out _ _ hb3⟩) | (go_at_call 67; refine Calls.mono (CH.out _) ?_; rintro e w3 ⟨rfl, rfl⟩; exact ⟨rfl, _, rfl⟩))))
              refine wpQuiet_nil ?_
              rintro _ ⟨iq, rfl⟩
              have K3 := KF.out iq
              go_wp2_with fail
              go_roundw
              case rel => exact ⟨_, hkl, by go_num, HY.out, K3⟩
              case measure => simp [intOf]; omega
    · obtain rfl : k = vars.length := by omega
      go_wp2_with fail
      clear q0
      go_loopw [4] (fun i wr2 => ∃ j : Nat, j ≤ cells.length ∧ i = .int .i64 j ∧ Hid (∀ i, i < j → cOk cells i = true) ∧ Hid (Kp w [.slice va vars.length vc, .slice ca cells.length cc, .slice sa st.length sc, .slice ma mn.length mc] wr2)) (fun i _ => cells.length - (intOf i).toNat)
      case atStart => exact ⟨0, Nat.zero_le _, rfl, (show ∀ i, i < 0 → cOk cells i = true by omega), HK⟩
      case round =>
        clear HK
        obtain ⟨k, hj, rfl, HJ, HK⟩ := hrel
        have q1 := HK.out.blk.cell 1 rfl
        by_cases hkl : k < cells.length
        · have hki : cells[k]? = some cells[k] := List.getElem?_eq_getElem hkl
          have bk : (k : Int) < cells.length := by omega
          have hat : cOk cells k = (nmB cells[k] && upAt cells k) := by unfold cOk; rw [nm_get hki]
          have HNo : Hid (cOk cells k = false → R = false) := HNC.out k hkl
          have HYes : Hid (cOk cells k = true → ∀ i, i < k + 1 → cOk cells i = true) := fun h i hi => by
            by_cases e : i = k
            · rw [e]; exact h
            · exact HJ.out i (by omega)
          have HD : Hid (Kp w [.slice va vars.length vc, .slice ca cells.length cc, .slice sa st.length sc, .slice ma mn.length mc] wr.drew) := HK.out.later (Below.refl _ wr).drew
          obtain ⟨I, F, hI, hF, hF2⟩ := Fam.family wr.drew
          have HF2 : Hid (∀ w', Below wr.drew.heap.size wr.drew w' → ∃ i, w' = F i) := hF2
          have HF3 : Hid (∀ i w', Below (F i).heap.size (F i) w' → ∃ i', w' = F i') := fun i w' h => hF2 _ ((hF i).trans (h.mono (hF i).size))
          have KF : Hid (∀ i, Kp w [.slice va vars.length vc, .slice ca cells.length cc, .slice sa st.length sc, .slice ma mn.length mc] (F i)) := fun i => HD.out.later (hF i)
          have y1 := fun i => (KF.out i).blk.cell 1 rfl
          obtain ⟨b, o, e, _, _, _⟩ := HC.out k _ hki
          have y2 : ∀ i, (F i).cell? ⟨b, o + k, none⟩ = some (.string cells[k]) := fun i => by
            obtain ⟨b', o', e', _, _, c0⟩ := HC.out.below (KF.out i).below k _ hki
            rw [e] at e'
            simp at e'
            obtain ⟨rfl, rfl⟩ := e'
            exact c0
          have CN : Hid (∀ w', Calls Tryz.prog 66 #[.string cells[k]] w' fun e w'' => e = .returned (.bool (nmB cells[k])) ∧ Below w'.heap.size w' w'') := fun w' => sNameT _ (HSC.out _ (List.getElem_mem hkl)) w'
          subst e
          clear HJ hF hF2 CW HNC HNV
          cases hB : nmB cells[k] with
          | false =>
            have H : Hid (R = false) := HNo.out (by rw [hat, hB]; rfl)
            rw [show nmB cells[k] = false from hB] at CN
            clear HNo HYes hat
            generalize cells[k] = v at *
            go_wp2_with fail
            refine Fam.wp_region_fam (F := F) (by kernel_rfl) (by kernel_rfl) (HF2.out _ (Below.refl _ _)) ?_
            repeat (go_big_quiet_step ((go_at_call 66; refine Calls.mono (CN.out _) ?_; rintro e w3 ⟨rfl, hb3⟩; exact ⟨rfl, HF3.out _ _ hb3⟩)))
            refine wpQuiet_nil ?_
            rintro _ ⟨iq, rfl⟩
            have K3 := KF.out iq
            go_wp2_with fail
            go_ret
            exact ⟨by rw [H.out]; rfl, K3.below⟩
          | true =>
            rw [show nmB cells[k] = true from hB] at CN
            rw [hB, Bool.true_and] at hat
            by_cases hk0 : k = 0
            · subst hk0
              have HY : Hid (∀ i, i < 0 + 1 → cOk cells i = true) := HYes.out (by rw [hat]; rfl)
              clear HNo HYes hat
              simp only [Nat.add_zero] at y2
              generalize cells[0] = v at *
              go_wp2_with fail
              refine Fam.wp_region_fam (F := F) (by kernel_rfl) (by kernel_rfl) (HF2.out _ (Below.refl _ _)) ?_
              repeat (go_big_quiet_step ((go_at_call 66; refine Calls.mono (CN.out _) ?_; rintro e w3 ⟨rfl, hb3⟩; exact ⟨rfl, HF3.out _ _ hb3⟩)))
              refine wpQuiet_nil ?_
              rintro _ ⟨iq, rfl⟩
              have K3 := KF.out iq
              go_wp2_with fail
              go_roundw
              case rel => exact ⟨_, hkl, by go_num, HY.out, K3⟩
              case measure => simp [intOf]; omega
            · obtain ⟨j, rfl⟩ : ∃ j, k = j + 1 := ⟨k - 1, by omega⟩
              have hkj : cells[j]? = some cells[j] := List.getElem?_eq_getElem (by omega)
              have y3 : ∀ i, (F i).cell? ⟨b, o + j, none⟩ = some (.string cells[j]) := fun i => by
                obtain ⟨b', o', e', _, _, c0⟩ := HC.out.below (KF.out i).below j _ hkj
                simp at e'
                obtain ⟨rfl, rfl⟩ := e'
                exact c0
              have hup : upAt cells (j + 1) = ltB cells[j] cells[j + 1] := by
                unfold upAt
                rw [nm_get hki, Nat.add_sub_cancel, nm_get hkj]
                simp
              rw [hup] at hat
              have e1 : ((j + 1 : Nat) : Int) - 1 = (j : Int) := by omega
              cases hL : ltB cells[j] cells[j + 1] with
              | false =>
                have H : Hid (R = false) := HNo.out (by rw [hat, hL])
                clear HNo HYes hat hup hki hkj hB
                generalize cells[j + 1] = v at *
                generalize cells[j] = v' at *
                go_wp2_with fail
                refine Fam.wp_region_fam (F := F) (by kernel_rfl) (by kernel_rfl) (HF2.out _ (Below.refl _ _)) ?_
                repeat (go_big_quiet_step ((go_at_call 66; refine Calls.mono (CN.out _) ?_; rintro e w3 ⟨rfl, hb3⟩; exact ⟨rfl, HF3.out _ _ hb3⟩)))
                refine wpQuiet_nil ?_
                rintro _ ⟨iq, rfl⟩
                have K3 := KF.out iq
                go_wp2_with fail
                go_ret
                exact ⟨by rw [H.out]; rfl, K3.below⟩
              | true =>
                have HY : Hid (∀ i, i < j + 1 + 1 → cOk cells i = true) := HYes.out (by rw [hat, hL])
                clear HNo HYes hat hup hki hkj hB
                generalize cells[j + 1] = v at *
                generalize cells[j] = v' at *
                go_wp2_with fail
                refine Fam.wp_region_fam (F := F) (by kernel_rfl) (by kernel_rfl) (HF2.out _ (Below.refl _ _)) ?_
                repeat (go_big_quiet_step ((go_at_call 66; refine Calls.mono (CN.out _) ?_; rintro e w3 ⟨rfl, hb3⟩; exact ⟨rfl, HF3.out _ _ hb3⟩)))
                refine wpQuiet_nil ?_
                rintro _ ⟨iq, rfl⟩
                have K3 := KF.out iq
                go_wp2_with fail
                go_roundw
                case rel => exact ⟨_, hkl, by go_num, HY.out, K3⟩
                case measure => simp [intOf]; omega
        · obtain rfl : k = cells.length := by omega
          have q0 := HK.out.blk.cell 0 rfl
          have HD : Hid (∀ n, Kp w [.slice va vars.length vc, .slice ca cells.length cc, .slice sa st.length sc, .slice ma mn.length mc] (wr.drewN n)) := fun n => ⟨⟨HK.out.below.os, HK.out.below.tape, HK.out.below.output, HK.out.below.size, HK.out.below.block⟩, HK.out.blk⟩
          have d0 := HK.out.blk.cell 0 rfl
          have d1 := HK.out.blk.cell 1 rfl
          have d2 := fun n => (HD.out n).blk.cell 2 rfl
          have d3 := fun n => (HD.out n).blk.cell 3 rfl
          have hYY := HYES.out HA.out HJ.out
          have HR : Hid _ := hYY
          have h8v : decide (vars.length ≤ 8) = decide ((vars.length : Int) ≤ 8) := by simp; omega
          have h8c : decide (cells.length ≤ 8) = decide ((cells.length : Int) ≤ 8) := by simp; omega
          clear HYES HA HJ HNV HNC hYY HSV HSC HV HC CW
          generalize Oc.opsB P st vars.length cells.length = C at *
          generalize Oc.opsB P mn vars.length cells.length = F at *
          by_cases h1 : (vars.length : Int) ≤ 8
          · rw [h8v, decide_eq_true h1, Bool.true_and] at HR
            by_cases h2 : (cells.length : Int) ≤ 8
            · rw [h8c, decide_eq_true h2, Bool.true_and] at HR
              go_wp2_with fail
              go_quiet (fail)
              go_wp2_with (go_at_call 68; refine hold ?_)
              refine Calls.mono (CS.out _ (HD.out _).below) ?_
              rintro e w3 ⟨rfl, hb3⟩
              have HK3 : Hid (Kp w [.slice va vars.length vc, .slice ca cells.length cc, .slice sa st.length sc, .slice ma mn.length mc] w3) := (HD.out _).later hb3
              have x3 := HK3.out.blk.cell 3 rfl
              clear hb3 HD d0 d1 d2 d3 CS
              cases C with
              | false =>
                go_wp2_with fail
                go_ret
                exact ⟨by rw [HR.out]; rfl, HK3.out.below⟩
              | true =>
                go_wp2_with (go_at_call 68; refine hold ?_)
                refine Calls.mono (CM.out _ HK3.out.below) ?_
                rintro e w4 ⟨rfl, hb4⟩
                go_wp2_with fail
                go_ret
                exact ⟨by rw [HR.out]; rfl, (HK3.out.later hb4).below⟩
            · have H : Hid (R = false) := by show R = false; rw [HR.out, h8c, decide_eq_false h2]; rfl
              clear HR
              go_wp2_with fail
              go_quiet (fail)
              go_wp2_with fail
              go_ret
              exact ⟨by rw [H.out]; rfl, (HD.out _).below⟩
          · have H : Hid (R = false) := by show R = false; rw [HR.out, h8v, decide_eq_false h1]; rfl
            clear HR
            go_wp2_with fail
            go_quiet (fail)
            go_wp2_with fail
            go_ret
            exact ⟨by rw [H.out]; rfl, (HD.out _).below⟩

end Pg
end Go.Proofs.YtkhoccjfkkfipaaGreatDoor
