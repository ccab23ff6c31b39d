/-
  The specification's OpsOk at every list of places.
-/
import Derived.Test.YtkpgdlbcckmpkaaGreatDoorP23
import Derived.Test.YtkpgdlbcckmpkaaGreatDoorP20
namespace Go.Proofs.YtkpgdlbcckmpkaaGreatDoor
open Go.RowKit
namespace Oc
open St (Vl RdV)

set_option maxHeartbeats 1000000 in
set_option maxRecDepth 100000 in
theorem sOpsOk {P : ByteArray → Bool} (hP : ParseS P) {ao : Option Addr} {cap : Nat} {l : List Vl} {vars lists : Int} {w : World} (hA : RdV w ao l) (hn : l.length ≤ 1048576) (hs : ∀ o ∈ l, o.2.2.size ≤ 1048576) :
    Calls Tryz.prog 13 #[.slice ao l.length cap, .int .i64 vars, .int .i64 lists] w fun e w' => e = .returned (.bool (opsB P l vars lists)) ∧ Below w.heap.size w w' := by
  obtain ⟨R, hR⟩ : ∃ R, R = opsB P l vars lists := ⟨_, rfl⟩
  rw [← hR]
  unfold opsB at hR
  have bn : (l.length : Int) ≤ 1048576 := by omega
  have ci := fun w => sIn (l.length : Int) 1 1500 w
  by_cases h0 : 1 ≤ l.length ∧ l.length ≤ 1500
  · rw [show decide ((1 : Int) ≤ (l.length : Int) ∧ (l.length : Int) ≤ 1500) = true from decide_eq_true (by omega)] at ci
    obtain ⟨m, hm⟩ : ∃ m, l.length = m + 1 := ⟨l.length - 1, by omega⟩
    have hml : m < l.length := by omega
    have hom : l[m]? = some l[m] := List.getElem?_eq_getElem hml
    have hl := last_of hm hom
    rw [decide_eq_true h0, hl, Bool.true_and] at hR
    obtain ⟨b0, o0, e', hbl, -, q0, -, -⟩ := hA m l[m] hom
    have e2 : (l.length : Int) - 1 = (m : Int) := by omega
    have bm : (m : Int) < l.length := by omega
    have wm : IntKind.i64.wrap (m : Int) = m := by simp [IntKind.wrap, IntKind.bits, IntKind.signed]; omega
    by_cases h2 : l[m].1 = 36
    · have H : Hid (R = l.all (opB P vars lists l.length)) := by show R = _; rw [hR, decide_eq_true h2, Bool.true_and]
      rw [h2] at q0
      have CALL : Hid (∀ o ∈ l, ∀ w', Calls Tryz.prog 24 #[.agg #[.int .i64 o.1, .int .i64 o.2.1, .string o.2.2], .int .i64 (l.length : Int), .int .i64 vars, .int .i64 lists] w' fun e w'' => e = .returned (.bool (opB P vars lists l.length o)) ∧ Below w'.heap.size w' w'') := fun o ho w' => by
        obtain ⟨o1, o2, ⟨⟨o3⟩⟩⟩ := o
        rw [hm]
        exact sOp hP o1 o2 vars lists o3 (by simpa [ByteArray.size] using hs _ ho) (M := m) (by omega) w'
      have b1 : (l.length : Int) ≤ 1500 := by omega
      have HA : Hid (RdV w ao l) := hA
      generalize opB P vars lists l.length = p at *
      subst e'
      clear hR hP hs hm hml hom hl h2 hn hA h0
      go_enter Tryz.func13, Tryz.ntmps13
      go_wp2_with (go_at_call 22; refine (ci _).mono ?_; rintro e w2 ⟨rfl, hw⟩; have hw := hw.symm; subst hw)
      clear ci q0 e2 wm
      go_loopw [8] (fun i wr => ∃ k : Nat, k ≤ l.length ∧ i = .int .i64 k ∧ Hid ((l.take k).all p = true) ∧ Below w.heap.size w wr) (fun i _ => l.length - (intOf i).toNat)
      case atStart => exact ⟨0, Nat.zero_le _, rfl, (show (l.take 0).all p = true by simp), Below.refl _ _⟩
      case round =>
        obtain ⟨k, hkn, rfl, hall, hb⟩ := hrel
        by_cases hkl : k < l.length
        · have hvk : l[k]? = some l[k] := List.getElem?_eq_getElem hkl
          obtain ⟨b, o, e3, -, -, p0, p1, p2⟩ := HA.out.below hb k l[k] hvk
          cases e3
          have call := CALL.out l[k] (List.getElem_mem hkl)
          have bk : (k : Int) < l.length := by omega
          have HT : Hid ((l.take (k + 1)).all p = p l[k]) := by
            show _ = _
            rw [List.take_add_one, hvk, List.all_append, hall.out]
            simp
          have HNo : Hid (p l[k] = false → l.all p = false) := fun h => by
            cases hb : l.all p
            · rfl
            · rw [List.all_eq_true.1 hb _ (List.getElem_mem hkl)] at h; cases h
          clear hvk hall CALL HA
          generalize p l[k] = B at *
          generalize l[k] = v at *
          cases B
          · replace HNo : Hid (l.all p = false) := HNo.out rfl
            go_wp2_with (go_at_call 24; refine (call _).mono ?_; rintro e w2 ⟨rfl, hb2⟩)
            go_ret
            exact ⟨by rw [H.out, HNo.out]; rfl, hb.trans (hb2.mono hb.size)⟩
          · go_wp2_with (go_at_call 24; refine (call _).mono ?_; rintro e w2 ⟨rfl, hb2⟩)
            go_roundw
            case rel => exact ⟨k + 1, hkl, by go_num, HT.out, hb.trans (hb2.mono hb.size)⟩
            case measure => simp [intOf]; omega
        · obtain rfl : k = l.length := by omega
          have H2 : Hid (l.all p = true) := by have := hall.out; rwa [List.take_length] at this
          clear hall
          go_wp2_with fail
          go_ret
          exact ⟨by rw [H.out, H2.out]; rfl, hb⟩
    · have H : Hid (R = false) := by show R = _; rw [hR, decide_eq_false h2]; rfl
      have h2' : (l[m].1 == 36) = false := beq_eq_false_iff_ne.2 h2
      have h2'' : (l[m].1 != 36) = true := by simp [bne, h2']
      generalize l[m].1 = c at *
      subst e'
      clear hR hP hA hs hm hml hom hl hn h0
      generalize l.length = N at *
      go_enter Tryz.func13, Tryz.ntmps13
      go_wp2_with (go_at_call 22; refine (ci _).mono ?_; rintro e w2 ⟨rfl, hw⟩; have hw := hw.symm; subst hw)
      go_ret
      exact ⟨by rw [H.out]; rfl, Below.refl _ _⟩
  · rw [show decide ((1 : Int) ≤ (l.length : Int) ∧ (l.length : Int) ≤ 1500) = false from decide_eq_false (by omega)] at ci
    have H : Hid (R = false) := by show R = false; rw [hR, decide_eq_false h0]; rfl
    clear hR hP hA hs h0
    generalize l.length = N at *
    go_enter Tryz.func13, Tryz.ntmps13
    go_wp2_with (go_at_call 22; refine (ci _).mono ?_; rintro e w2 ⟨rfl, hw⟩; have hw := hw.symm; subst hw)
    go_ret
    exact ⟨by rw [H.out]; rfl, Below.refl _ _⟩

end Oc
end Go.Proofs.YtkpgdlbcckmpkaaGreatDoor

