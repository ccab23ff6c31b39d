/-
  ProgOk, the program's.
-/
import Derived.Test.YtkpgdlbcckmpkaaGreatDoorP12
import Derived.Test.YtkpgdlbcckmpkaaGreatDoorP20
namespace Go.Proofs.YtkpgdlbcckmpkaaGreatDoor
open Go.RowKit
namespace Pg
open St (Vl RdV)
open Oc (hold heap_new Blk)

set_option maxRecDepth 100000 in
theorem iCellNumber {vars cells : List ByteArray} {va ca : Option Addr} {vc cc : Nat} {w : World} (hC : RdT w ca cells) (hn : cells.length ≤ 1048576) (s : ByteArray) :
    Calls Tryz.prog 29 #[.agg #[.slice va vars.length vc, .slice ca cells.length cc], .string s] w fun e w' => e = .returned (.int .i64 (idx cells s)) ∧ Below w.heap.size w w' := by
  have b0 : ∀ o, Below w.heap.size w (w.alloc o) := fun o => (Below.refl _ w).alloc (Nat.le_refl _) o
  have CI : Hid (∀ o, Calls Tryz.prog 41 #[.slice ca cells.length cc, .string s] (w.alloc o) fun e w' => e = .returned (.int .i64 (idx cells s)) ∧ w' = w.alloc o) := fun o => iIndex (hC.below (b0 o)) hn s
  clear hC hn
  go_enter Tryz.func29, Tryz.ntmps29
  go_wp2_with (go_at_call 41; refine Calls.mono (CI.out _) ?_; rintro e w2 ⟨rfl, rfl⟩)
  go_ret
  exact ⟨rfl, b0 _⟩

theorem enterFree (vs : Array Value) (w : World) : (callFunc 28 vs).run Tryz.prog w = .ok (.enter 28 vs) w := by kernel_rfl

set_option maxRecDepth 100000 in
theorem iFree {vars cells : List ByteArray} {va ca : Option Addr} {vc cc B : Nat} {w : World} (hK : Blk 42 w B [.slice va vars.length vc, .slice ca cells.length cc]) (hC : RdT w ca cells) (hn : cells.length ≤ 1048576) (s : ByteArray) :
    Calls Tryz.prog 28 #[.string s, .pointer (some ⟨B, 0, none⟩)] w fun e w' => e = .returned (.bool (freeOf cells s)) ∧ Below w.heap.size w w' := by
  have x0 := hK.cell 0 rfl
  have x1 := hK.cell 1 rfl
  have HI : Hid (decide (idx cells s < 0) = freeOf cells s) := idx_neg cells s
  have CI := iCellNumber (vars := vars) (va := va) (vc := vc) (cc := cc) hC hn s
  clear hC hn hK
  generalize idx cells s = z at *
  go_enter Tryz.func28, Tryz.ntmps28
  go_wp2_with (go_at_call 29; refine Calls.mono CI ?_; rintro e w2 ⟨rfl, hb2⟩)
  go_ret
  exact ⟨by rw [← HI.out]; rfl, hb2⟩

set_option maxRecDepth 100000 in
theorem iAreRight {vars cells : List ByteArray} {va ca : Option Addr} {vc cc : Nat} {w : World} (hV : RdT w va vars) (hC : RdT w ca cells) (hsv : ∀ s ∈ vars, SmT s) (hsc : ∀ s ∈ cells, SmT s) (hnv : vars.length ≤ 1048576) (hn : cells.length ≤ 1048576) :
    Calls Tryz.prog 16 #[.agg #[.slice va vars.length vc, .slice ca cells.length cc]] w fun e w' => e = .returned (.bool (listsB vars cells)) ∧ Below w.heap.size w w' := by
  have b0 : ∀ o, Below w.heap.size w (w.alloc o) := fun o => (Below.refl _ w).alloc (Nat.le_refl _) o
  have HB0 : Hid (∀ o, Below w.heap.size w (w.alloc o)) := b0
  obtain ⟨o0, ho0⟩ : ∃ o0, o0 = Obj.cells #[.slice va vars.length vc, .slice ca cells.length cc] 42 := ⟨_, rfl⟩
  have KS : Hid (Blk 42 (w.alloc o0) w.heap.size [.slice va vars.length vc, .slice ca cells.length cc]) := by rw [ho0]; exact Blk.new _ _ _
  have CV : Hid (Calls Tryz.prog 26 #[.slice va vars.length vc] (w.alloc o0) fun e w' => e = .returned (.bool (namesB vars)) ∧ Below (w.alloc o0).heap.size (w.alloc o0) w') := iIsNameList (hV.below (b0 _)) hsv hnv
  have CC : Hid (∀ w', Below w.heap.size w w' → Calls Tryz.prog 26 #[.slice ca cells.length cc] w' fun e w'' => e = .returned (.bool (namesB cells)) ∧ Below w'.heap.size w' w'') := fun w' h => iIsNameList (hC.below h) hsc hn
  have CA : Hid (∀ w', Below w.heap.size w w' → Blk 42 w' w.heap.size [.slice va vars.length vc, .slice ca cells.length cc] → Calls Tryz.prog 27 #[.slice va vars.length vc, .func (.func 28) #[] #[.pointer (some ⟨w.heap.size, 0, none⟩)]] w' fun e w'' => e = .returned (.bool (vars.all (freeOf cells))) ∧ Below w'.heap.size w' w'') := fun w' h hK =>
    iAreAllT (fc := #[.pointer (some ⟨w.heap.size, 0, none⟩)]) (fun s _ w'' h'' => iFree (hK.below h'') ((hC.below h).below h'') hn s) enterFree (by omega) va vc (hV.below h)
  obtain ⟨R, hR⟩ : ∃ R, R = listsB vars cells := ⟨_, rfl⟩
  have HR : Hid (R = (namesB vars && (namesB cells && vars.all (freeOf cells)))) := hR
  rw [← hR]
  clear hR hV hC hsv hsc hnv hn b0
  subst ho0
  generalize namesB vars = V at *
  generalize namesB cells = C at *
  generalize vars.all (freeOf cells) = F at *
  cases V with
  | false =>
    clear CC CA KS
    go_enter Tryz.func16, Tryz.ntmps16
    go_wp2_with (go_at_call 26; refine Calls.mono CV.out ?_; rintro e w2 ⟨rfl, hb2⟩)
    go_ret
    exact ⟨by rw [HR.out]; rfl, (HB0.out _).trans (hb2.mono (HB0.out _).size)⟩
  | true =>
    go_enter Tryz.func16, Tryz.ntmps16
    go_wp2_with (go_at_call 26; refine hold ?_)
    refine Calls.mono CV.out ?_
    rintro e w2 ⟨rfl, hb2⟩
    have B2 := (HB0.out _).trans (hb2.mono (HB0.out _).size)
    have K2 := KS.out.below hb2
    have x0 := K2.cell 0 rfl
    have x1 := K2.cell 1 rfl
    have HK2 : Hid (Below w.heap.size w w2 ∧ Blk 42 w2 w.heap.size [.slice va vars.length vc, .slice ca cells.length cc]) := ⟨B2, K2⟩
    clear B2 K2 hb2 KS CV
    go_wp2_with (go_at_call 26; refine hold ?_)
    refine Calls.mono (CC.out _ HK2.out.1) ?_
    rintro e w3 ⟨rfl, hb3⟩
    have B3 := HK2.out.1.trans (hb3.mono HK2.out.1.size)
    have K3 := HK2.out.2.below hb3
    clear x0 x1
    have x0 := K3.cell 0 rfl
    have x1 := K3.cell 1 rfl
    have HK3 : Hid (Below w.heap.size w w3 ∧ Blk 42 w3 w.heap.size [.slice va vars.length vc, .slice ca cells.length cc]) := ⟨B3, K3⟩
    clear B3 K3 hb3 HK2 CC HB0
    cases C with
    | false =>
      go_wp2_with fail
      go_ret
      exact ⟨by rw [HR.out]; rfl, HK3.out.1⟩
    | true =>
      go_wp2_with (go_at_call 27; refine hold ?_)
      refine Calls.mono (CA.out _ HK3.out.1 HK3.out.2) ?_
      rintro e w4 ⟨rfl, hb4⟩
      go_wp2_with fail
      go_ret
      exact ⟨by rw [HR.out]; rfl, HK3.out.1.trans (hb4.mono HK3.out.1.size)⟩

set_option maxHeartbeats 1000000 in
set_option maxRecDepth 100000 in
theorem iProgOk {P : ByteArray → Bool} (hP : Oc.ParseI P) {vars cells : List ByteArray} {st mn : List Vl} {va ca sa ma : Option Addr} {vc cc sc mc : Nat} {a b : Addr} {w : World} (hS : Oc.Sn w a b) (hV : RdT w va vars) (hC : RdT w ca cells) (hT : RdV w sa st) (hM : RdV w ma mn) (hsv : ∀ s ∈ vars, SmT s) (hsc : ∀ s ∈ cells, SmT s) (hst : ∀ v ∈ st, Oc.SmV v) (hsm : ∀ v ∈ mn, Oc.SmV v) (hnv : vars.length ≤ 1048576) (hn : cells.length ≤ 1048576) (hns : st.length ≤ 1048576) (hnm : mn.length ≤ 1048576) :
    Calls Tryz.prog 7 #[.agg #[.slice va vars.length vc, .slice ca cells.length cc, .slice sa st.length sc, .slice ma mn.length mc]] w fun e w' => e = .returned (.bool (progB P vars cells st mn)) ∧ Below w.heap.size w w' := by
  have CR : Hid (∀ w', Below w.heap.size w w' → Calls Tryz.prog 16 #[.agg #[.slice va vars.length vc, .slice ca cells.length cc]] w' fun e w'' => e = .returned (.bool (listsB vars cells)) ∧ Below w'.heap.size w' w'') := fun w' h => iAreRight (hV.below h) (hC.below h) hsv hsc hnv hn
  have CS : Hid (∀ w', Below w.heap.size w w' → Calls Tryz.prog 17 #[.slice sa st.length sc, .int .i64 vars.length, .int .i64 cells.length] w' fun e w'' => e = .returned (.bool (Oc.opsB P st vars.length cells.length)) ∧ Below w'.heap.size w' w'') := fun w' h => Oc.iOpsOk hP (hT.below h) hns hst (hS.below h)
  have CM : Hid (∀ w', Below w.heap.size w w' → Calls Tryz.prog 17 #[.slice ma mn.length mc, .int .i64 vars.length, .int .i64 cells.length] w' fun e w'' => e = .returned (.bool (Oc.opsB P mn vars.length cells.length)) ∧ Below w'.heap.size w' w'') := fun w' h => Oc.iOpsOk hP (hM.below h) hnm hsm (hS.below h)
  obtain ⟨R, hR⟩ : ∃ R, R = progB P vars cells st mn := ⟨_, rfl⟩
  have HR : Hid (R = (listsB vars cells && (Oc.opsB P st vars.length cells.length && Oc.opsB P mn vars.length cells.length))) := hR
  rw [← hR]
  clear hR hV hC hsv hsc hT hM hst hsm hS hP
  have bv : (vars.length : Int) ≤ 1048576 := by omega
  have bc : (cells.length : Int) ≤ 1048576 := by omega
  generalize listsB vars cells = V at *
  generalize Oc.opsB P st vars.length cells.length = C at *
  generalize Oc.opsB P mn vars.length cells.length = F at *
  obtain ⟨W1, hW1⟩ : ∃ W1, W1 = (w.alloc (.cells #[.slice va vars.length vc, .slice ca cells.length cc, .slice sa st.length sc, .slice ma mn.length mc] 30)).alloc (.cells #[.slice va vars.length vc, .slice ca cells.length cc] 42) := ⟨_, rfl⟩
  have HK1 : Hid (Below w.heap.size w W1 ∧ Blk 30 W1 w.heap.size [.slice va vars.length vc, .slice ca cells.length cc, .slice sa st.length sc, .slice ma mn.length mc]) := by
    rw [hW1]
    exact ⟨((Below.refl _ w).alloc (Nat.le_refl _) _).alloc (by simp) _, (Blk.new 30 w [.slice va vars.length vc, .slice ca cells.length cc, .slice sa st.length sc, .slice ma mn.length mc]).alloc _⟩
  go_enter Tryz.func7, Tryz.ntmps7
  go_wp2_with (go_at_call 16; refine hold ?_)
  rw [← hW1]
  clear hW1
  refine Calls.mono (CR.out _ HK1.out.1) ?_
  rintro e w2 ⟨rfl, hb2⟩
  have B2 := HK1.out.1.trans (hb2.mono HK1.out.1.size)
  have K2 := HK1.out.2.below hb2
  have x0 := K2.cell 0 rfl
  have x1 := K2.cell 1 rfl
  have x2 := K2.cell 2 rfl
  have x3 := K2.cell 3 rfl
  have HK2 : Hid (Below w.heap.size w w2 ∧ Blk 30 w2 w.heap.size [.slice va vars.length vc, .slice ca cells.length cc, .slice sa st.length sc, .slice ma mn.length mc]) := ⟨B2, K2⟩
  clear B2 K2 hb2 HK1 CR
  cases V with
  | false =>
    go_wp2_with fail
    go_ret
    exact ⟨by rw [HR.out]; rfl, HK2.out.1⟩
  | true =>
    go_wp2_with (go_at_call 17; refine hold ?_)
    refine Calls.mono (CS.out _ HK2.out.1) ?_
    rintro e w3 ⟨rfl, hb3⟩
    have B3 := HK2.out.1.trans (hb3.mono HK2.out.1.size)
    have K3 := HK2.out.2.below hb3
    clear x0 x1 x2 x3
    have x0 := K3.cell 0 rfl
    have x1 := K3.cell 1 rfl
    have x2 := K3.cell 2 rfl
    have x3 := K3.cell 3 rfl
    have HK3 : Hid (Below w.heap.size w w3) := B3
    clear B3 K3 hb3 HK2 CS
    cases C with
    | false =>
      go_wp2_with fail
      go_ret
      exact ⟨by rw [HR.out]; rfl, HK3.out⟩
    | true =>
      go_wp2_with (go_at_call 17; refine hold ?_)
      refine Calls.mono (CM.out _ HK3.out) ?_
      rintro e w4 ⟨rfl, hb4⟩
      go_wp2_with fail
      go_ret
      exact ⟨by rw [HR.out]; rfl, HK3.out.trans (hb4.mono HK3.out.size)⟩

end Pg
end Go.Proofs.YtkpgdlbcckmpkaaGreatDoor

