/-
  MachOk, the specification's.
-/
import Derived.Test.YtaakeecliehjgaaGreatDoorP45
import Derived.Test.YtaakeecliehjgaaGreatDoorP47
import Derived.Test.YtaakeecliehjgaaGreatDoorP48
namespace Go.Proofs.YtaakeecliehjgaaGreatDoor
open Go.RowKit
namespace Mh
open Pg (RdI PSm PRd)
open St (Vl Cl RdV RdC SmC)
open Oc (hold heap_new Blk)

set_option maxHeartbeats 2000000 in
set_option maxRecDepth 100000 in
theorem sMachOk {va ca sa ma a b c : Option Addr} {vc cc sc mc xa xb xc : Nat} {vars cells : List ByteArray} {st mn vs : List St.Vl} {cs : List St.Cl} {dn : List Int} {nr er : Int} {out : ByteArray} {w : World} (hP : PRd w va ca sa ma vars cells st mn) (hm : PSm vars cells st mn) (hM : MRd w a b c vs cs dn) (ho : MSm vs cs dn out) :
    Calls Tryz.prog 6 #[.agg #[.slice va vars.length vc, .slice ca cells.length cc, .slice sa st.length sc, .slice ma mn.length mc], .agg #[.slice a vs.length xa, .slice b cs.length xb, .int .i64 nr, .int .i64 er, .slice c dn.length xc, .string out]] w fun e w' => e = .returned (.bool (machB vars cells st mn vs cs nr er dn out)) ∧ Below w.heap.size w w' := by
  have CP : Hid (∀ w', Below w.heap.size w w' → Calls Tryz.prog 17 #[.agg #[.slice va vars.length vc, .slice ca cells.length cc, .slice sa st.length sc, .slice ma mn.length mc]] w' fun e w'' => e = .returned (.bool (Pg.progB Oc.patB vars cells st mn)) ∧ Below w'.heap.size w' w'') := fun w' h => by
    have hd := hP.below h
    exact Pg.sProgOk Oc.parseS hd.vs hd.cs hd.ss hd.ms hm.vs hm.cs hm.ss hm.ms hm.vn hm.cn (Nat.le_trans hm.sn (by decide)) (Nat.le_trans hm.mm (by decide))
  have CS : Hid (∀ w', Below w.heap.size w w' → Calls Tryz.prog 18 #[.agg #[.slice a vs.length xa, .slice b cs.length xb, .int .i64 nr, .int .i64 er], .int .i64 vars.length, .int .i64 cells.length] w' fun e w'' => e = .returned (.bool (St.stateB vs cs nr er vars.length cells.length)) ∧ Below w'.heap.size w' w'') := fun w' h =>
    St.sStateOk (hM.vs.below h) (hM.cs.below h) ho.vn ho.cn ho.vs ho.cs
  have CI : Hid (∀ x w', Calls Tryz.prog 16 #[.int .i64 x, .int .i64 0, .int .i64 100000] w' fun e w'' => e = .returned (.bool (seqB x)) ∧ w'' = w') := fun x w' => St.sIn x 0 100000 w'
  have HD : Hid (RdI w c dn) := hM.dn
  obtain ⟨R, hR⟩ : ∃ R, R = machB vars cells st mn vs cs nr er dn out := ⟨_, rfl⟩
  have HR : Hid (R = (decide (out.size ≤ 1500) && ((decide (dn.length = 3) && dn.all seqB) && (Pg.progB Oc.patB vars cells st mn && St.stateB vs cs nr er vars.length cells.length)))) := hR
  rw [← hR]
  have bo : (out.size : Int) ≤ 1048576 := by have := ho.out; omega
  have bv : (vars.length : Int) ≤ 1048576 := by have := hm.vn; omega
  have bc : (cells.length : Int) ≤ 1048576 := by have := hm.cn; omega
  have bd : (dn.length : Int) ≤ 1048576 := by have := ho.dn; omega
  clear hR hP hm hM ho
  generalize Pg.progB Oc.patB vars cells st mn = Q at *
  generalize St.stateB vs cs nr er vars.length cells.length = F at *
  obtain ⟨W1, hW1⟩ : ∃ W1, W1 = (w.alloc (.cells #[.slice va vars.length vc, .slice ca cells.length cc, .slice sa st.length sc, .slice ma mn.length mc] 38)).alloc (.cells #[.slice a vs.length xa, .slice b cs.length xb, .int .i64 nr, .int .i64 er, .slice c dn.length xc, .string out] 45) := ⟨_, rfl⟩
  have HK1 : Hid (Below w.heap.size w W1 ∧ Blk 38 W1 w.heap.size [.slice va vars.length vc, .slice ca cells.length cc, .slice sa st.length sc, .slice ma mn.length mc] ∧ Blk 45 W1 (w.heap.size + 1) [.slice a vs.length xa, .slice b cs.length xb, .int .i64 nr, .int .i64 er, .slice c dn.length xc, .string out]) := by
    have k1 := Blk.new 45 (w.alloc (.cells #[.slice va vars.length vc, .slice ca cells.length cc, .slice sa st.length sc, .slice ma mn.length mc] 38)) [.slice a vs.length xa, .slice b cs.length xb, .int .i64 nr, .int .i64 er, .slice c dn.length xc, .string out]
    rw [World.size_alloc] at k1
    rw [hW1]
    exact ⟨((Below.refl _ w).alloc (Nat.le_refl _) _).alloc (by simp) _, (Blk.new 38 w [.slice va vars.length vc, .slice ca cells.length cc, .slice sa st.length sc, .slice ma mn.length mc]).alloc _, k1⟩
  go_enter Tryz.func6, Tryz.ntmps6
  go_wp2_with fail
  rw [← hW1]
  clear hW1
  go_loopw [5] (fun i wr => ∃ k : Nat, k ≤ dn.length ∧ i = .int .i64 k ∧ wr = W1 ∧ (dn.take k).all seqB = true) (fun i _ => dn.length - (intOf i).toNat)
  case atStart => exact ⟨0, Nat.zero_le _, rfl, rfl, rfl⟩
  case round =>
    obtain ⟨k, hkn, rfl, rfl, hall⟩ := hrel
    have L1 := HK1.out.2.2.cell 4 rfl
    by_cases hkl : k < dn.length
    · have hki : dn[k]? = some dn[k] := List.getElem?_eq_getElem hkl
      have hr := HD.out.below HK1.out.1 k _ hki
      obtain ⟨b', o', rfl, hbl, c0⟩ := hr
      have bk : (k : Int) < dn.length := by omega
      have hT := all_takeT (p := seqB) hki
      rw [hall, Bool.true_and] at hT
      have HN : Hid (seqB dn[k] = false → dn.all seqB = false) := all_noT (List.getElem_mem hkl)
      have HT : Hid ((dn.take (k + 1)).all seqB = seqB dn[k]) := hT
      have ci := CI.out dn[k]
      clear hki hall hT CP CS CI
      generalize seqB dn[k] = B at *
      generalize dn[k] = v at *
      cases B
      · have H : Hid (R = false) := HR.out.trans (by rw [HN.out rfl]; simp)
        clear HR HN HT
        go_wp2_with (go_at_call 16; refine (ci _).mono ?_; rintro e w2 ⟨rfl, hw⟩; have hw := hw.symm; subst hw)
        go_ret
        exact ⟨by rw [H.out] <;> rfl, HK1.out.1⟩
      · go_wp2_with (go_at_call 16; refine (ci _).mono ?_; rintro e w2 ⟨rfl, hw⟩; have hw := hw.symm; subst hw)
        go_roundw
        case rel => exact ⟨k + 1, hkl, by go_num, by trivial, HT.out⟩
        case measure => simp [intOf]; omega
    · obtain rfl : k = dn.length := by omega
      rw [List.take_length] at hall
      have H0 : Hid (R = (decide (out.size ≤ 1500) && (decide (dn.length = 3) && (Q && F)))) := HR.out.trans (by rw [hall]; simp)
      have x0 := HK1.out.2.1.cell 0 rfl
      have x1 := HK1.out.2.1.cell 1 rfl
      have x2 := HK1.out.2.1.cell 2 rfl
      have x3 := HK1.out.2.1.cell 3 rfl
      clear hall HR CI HD hkn hkl
      go_wp2_with (go_at_call 17; refine hold ?_)
      refine Calls.mono (CP.out _ HK1.out.1) ?_
      rintro e w2 ⟨rfl, hb2⟩
      have HK2 : Hid (Below w.heap.size w w2 ∧ Blk 38 w2 w.heap.size [.slice va vars.length vc, .slice ca cells.length cc, .slice sa st.length sc, .slice ma mn.length mc] ∧ Blk 45 w2 (w.heap.size + 1) [.slice a vs.length xa, .slice b cs.length xb, .int .i64 nr, .int .i64 er, .slice c dn.length xc, .string out]) := ⟨HK1.out.1.trans (hb2.mono HK1.out.1.size), HK1.out.2.1.below hb2, HK1.out.2.2.below hb2⟩
      clear x0 x1 x2 x3 L1
      have x0 := HK2.out.2.1.cell 0 rfl
      have x1 := HK2.out.2.1.cell 1 rfl
      have y0 := HK2.out.2.2.cell 0 rfl
      have y1 := HK2.out.2.2.cell 1 rfl
      have y2 := HK2.out.2.2.cell 2 rfl
      have y3 := HK2.out.2.2.cell 3 rfl
      clear hb2 HK1 CP
      cases Q with
      | false =>
        go_wp2_with fail
        go_ret
        exact ⟨by rw [H0.out] <;> simp, HK2.out.1⟩
      | true =>
        go_wp2_with (go_at_call 18; refine hold ?_)
        refine Calls.mono (CS.out _ HK2.out.1) ?_
        rintro e w3 ⟨rfl, hb3⟩
        have HK3 : Hid (Below w.heap.size w w3 ∧ Blk 45 w3 (w.heap.size + 1) [.slice a vs.length xa, .slice b cs.length xb, .int .i64 nr, .int .i64 er, .slice c dn.length xc, .string out]) := ⟨HK2.out.1.trans (hb3.mono HK2.out.1.size), HK2.out.2.2.below hb3⟩
        clear x0 x1 y0 y1 y2 y3
        have y4 := HK3.out.2.cell 4 rfl
        have y5 := HK3.out.2.cell 5 rfl
        clear hb3 HK2 CS
        cases F with
        | false =>
          go_wp2_with fail
          go_ret
          exact ⟨by rw [H0.out] <;> simp, HK3.out.1⟩
        | true =>
          by_cases h3 : dn.length = 3
          · have e1 : ((dn.length : Int) == 3) = true := by rw [h3]; rfl
            by_cases h4 : out.size ≤ 1500
            · have H : Hid (R = true) := H0.out.trans (by rw [decide_eq_true h4, decide_eq_true h3]; rfl)
              have e2 : (out.size : Int) ≤ 1500 := by omega
              clear H0 h4 h3
              go_wp2_with fail
              go_ret
              exact ⟨by rw [H.out] <;> simp, HK3.out.1⟩
            · have H : Hid (R = false) := H0.out.trans (by rw [decide_eq_false h4]; rfl)
              have e2 : decide ((out.size : Int) ≤ 1500) = false := decide_eq_false (by omega)
              clear H0 h4 h3
              go_wp2_with fail
              go_ret
              exact ⟨by rw [H.out] <;> simp, HK3.out.1⟩
          · have e1 : ((dn.length : Int) == 3) = false := beq_eq_false_iff_ne.2 (by omega)
            have H : Hid (R = false) := H0.out.trans (by rw [decide_eq_false h3]; simp)
            clear H0 h3
            go_wp2_with fail
            go_ret
            exact ⟨by rw [H.out] <;> simp, HK3.out.1⟩

end Mh
end Go.Proofs.YtaakeecliehjgaaGreatDoor
