/-
  ProgOk, the program's.
  Cells held against each other by the program's compareCells.
-/
import Derived.Test.YtkhoccjfkkfipaaGreatDoorP15
import Derived.Test.YtkhoccjfkkfipaaGreatDoorP18
import Derived.Test.YtkhoccjfkkfipaaGreatDoorP01
import Derived.Test.YtkhoccjfkkfipaaGreatDoorP08
import Derived.Deep.QuietTactic
import Derived.BigQuiet
import Derived.Sort.Walk0
import Derived.Deep.RegionLaw
import Derived.Shelf.Abstract
namespace Go.Proofs.YtkhoccjfkkfipaaGreatDoor
open Go.RowKit
namespace Pg
open St (Vl RdV)
open Oc (hold heap_new Blk)

set_option maxRecDepth 100000 in
theorem iCellNumber {vars cells : List ByteArray} {va ca : Option Addr} {vc cc : Nat} {w : World} (hC : RdT w ca cells) (hn : cells.length ≤ 1048576) (s : ByteArray) :
    Calls Tryz.prog 91 #[.agg #[.slice va vars.length vc, .slice ca cells.length cc], .string s] w fun e w' => e = .returned (.int .i64 (idx cells s)) ∧ Below w.heap.size w w' := by
  have b0 : ∀ o, Below w.heap.size w (w.alloc o) := fun o => (Below.refl _ w).alloc (Nat.le_refl _) o
  have CI : Hid (∀ o, Calls Tryz.prog 106 #[.slice ca cells.length cc, .string s] (w.alloc o) fun e w' => e = .returned (.int .i64 (idx cells s)) ∧ w' = w.alloc o) := fun o => iIndex (hC.below (b0 o)) hn s
  clear hC hn
  go_enter Tryz.func91, Tryz.ntmps91
  go_wp2_with (go_at_call 106; refine Calls.mono (CI.out _) ?_; rintro e w2 ⟨rfl, rfl⟩)
  go_ret
  exact ⟨rfl, b0 _⟩

theorem enterFree (vs : Array Value) (w : World) : (callFunc 90 vs).run Tryz.prog w = .ok (.enter 90 vs) w := by kernel_rfl

set_option maxRecDepth 100000 in
theorem iFree {vars cells : List ByteArray} {va ca : Option Addr} {vc cc B : Nat} {w : World} (hK : Blk 118 w B [.slice va vars.length vc, .slice ca cells.length cc]) (hC : RdT w ca cells) (hn : cells.length ≤ 1048576) (s : ByteArray) :
    Calls Tryz.prog 90 #[.string s, .pointer (some ⟨B, 0, none⟩)] w fun e w' => e = .returned (.bool (freeOf cells s)) ∧ Below w.heap.size w w' := by
  have x0 := hK.cell 0 rfl
  have x1 := hK.cell 1 rfl
  have HI : Hid (decide (idx cells s < 0) = freeOf cells s) := idx_neg cells s
  have CI := iCellNumber (vars := vars) (va := va) (vc := vc) (cc := cc) hC hn s
  clear hC hn hK
  generalize idx cells s = z at *
  go_enter Tryz.func90, Tryz.ntmps90
  go_wp2_with (go_at_call 91; refine Calls.mono CI ?_; rintro e w2 ⟨rfl, hb2⟩)
  go_ret
  exact ⟨by rw [← HI.out]; rfl, hb2⟩

set_option maxRecDepth 100000 in
theorem iAreRight {vars cells : List ByteArray} {va ca : Option Addr} {vc cc : Nat} {w : World} (hV : RdT w va vars) (hC : RdT w ca cells) (hsv : ∀ s ∈ vars, SmT s) (hsc : ∀ s ∈ cells, SmT s) (hnv : vars.length ≤ 1048576) (hn : cells.length ≤ 1048576) :
    Calls Tryz.prog 76 #[.agg #[.slice va vars.length vc, .slice ca cells.length cc]] w fun e w' => e = .returned (.bool (listsB vars cells)) ∧ Below w.heap.size w w' := by
  have b0 : ∀ o, Below w.heap.size w (w.alloc o) := fun o => (Below.refl _ w).alloc (Nat.le_refl _) o
  have HB0 : Hid (∀ o, Below w.heap.size w (w.alloc o)) := b0
  obtain ⟨o0, ho0⟩ : ∃ o0, o0 = Obj.cells #[.slice va vars.length vc, .slice ca cells.length cc] 118 := ⟨_, rfl⟩
  have KS : Hid (Blk 118 (w.alloc o0) w.heap.size [.slice va vars.length vc, .slice ca cells.length cc]) := by rw [ho0]; exact Blk.new _ _ _
  have CV : Hid (Calls Tryz.prog 88 #[.slice va vars.length vc] (w.alloc o0) fun e w' => e = .returned (.bool (namesB vars)) ∧ Below (w.alloc o0).heap.size (w.alloc o0) w') := iIsNameList (hV.below (b0 _)) hsv hnv
  have CC : Hid (∀ w', Below w.heap.size w w' → Calls Tryz.prog 88 #[.slice ca cells.length cc] w' fun e w'' => e = .returned (.bool (namesB cells)) ∧ Below w'.heap.size w' w'') := fun w' h => iIsNameList (hC.below h) hsc hn
  have CA : Hid (∀ w', Below w.heap.size w w' → Blk 118 w' w.heap.size [.slice va vars.length vc, .slice ca cells.length cc] → Calls Tryz.prog 89 #[.slice va vars.length vc, .func (.func 90) #[] #[.pointer (some ⟨w.heap.size, 0, none⟩)]] w' fun e w'' => e = .returned (.bool (vars.all (freeOf cells))) ∧ Below w'.heap.size w' w'') := fun w' h hK =>
    iAreAllT (fc := #[.pointer (some ⟨w.heap.size, 0, none⟩)]) (fun s _ w'' h'' => iFree (hK.below h'') ((hC.below h).below h'') hn s) enterFree (by omega) va vc (hV.below h)
  obtain ⟨R, hR⟩ : ∃ R, R = listsB vars cells := ⟨_, rfl⟩
  have HR : Hid (R = (namesB vars && (namesB cells && vars.all (freeOf cells)))) := hR
  rw [← hR]
  clear hR hV hC hsv hsc hnv hn b0
  subst ho0
  generalize namesB vars = V at *
  generalize namesB cells = C at *
  generalize vars.all (freeOf cells) = F at *
  cases V with
  | false =>
    clear CC CA KS
    go_enter Tryz.func76, Tryz.ntmps76
    go_wp2_with (go_at_call 88; refine Calls.mono CV.out ?_; rintro e w2 ⟨rfl, hb2⟩)
    go_ret
    exact ⟨by rw [HR.out]; rfl, (HB0.out _).trans (hb2.mono (HB0.out _).size)⟩
  | true =>
    go_enter Tryz.func76, Tryz.ntmps76
    go_wp2_with (go_at_call 88; refine hold ?_)
    refine Calls.mono CV.out ?_
    rintro e w2 ⟨rfl, hb2⟩
    have B2 := (HB0.out _).trans (hb2.mono (HB0.out _).size)
    have K2 := KS.out.below hb2
    have x0 := K2.cell 0 rfl
    have x1 := K2.cell 1 rfl
    have HK2 : Hid (Below w.heap.size w w2 ∧ Blk 118 w2 w.heap.size [.slice va vars.length vc, .slice ca cells.length cc]) := ⟨B2, K2⟩
    clear B2 K2 hb2 KS CV
    go_wp2_with (go_at_call 88; refine hold ?_)
    refine Calls.mono (CC.out _ HK2.out.1) ?_
    rintro e w3 ⟨rfl, hb3⟩
    have B3 := HK2.out.1.trans (hb3.mono HK2.out.1.size)
    have K3 := HK2.out.2.below hb3
    clear x0 x1
    have x0 := K3.cell 0 rfl
    have x1 := K3.cell 1 rfl
    have HK3 : Hid (Below w.heap.size w w3 ∧ Blk 118 w3 w.heap.size [.slice va vars.length vc, .slice ca cells.length cc]) := ⟨B3, K3⟩
    clear B3 K3 hb3 HK2 CC HB0
    cases C with
    | false =>
      go_wp2_with fail
      go_ret
      exact ⟨by rw [HR.out]; rfl, HK3.out.1⟩
    | true =>
      go_wp2_with (go_at_call 89; refine hold ?_)
      refine Calls.mono (CA.out _ HK3.out.1 HK3.out.2) ?_
      rintro e w4 ⟨rfl, hb4⟩
      go_wp2_with fail
      go_ret
      exact ⟨by rw [HR.out]; rfl, HK3.out.1.trans (hb4.mono HK3.out.1.size)⟩

set_option maxHeartbeats 1000000 in
set_option maxRecDepth 100000 in
theorem iProgOk {P : ByteArray → Bool} (hP : Oc.ParseI P) {vars cells : List ByteArray} {st mn : List Vl} {va ca sa ma : Option Addr} {vc cc sc mc : Nat} {a b : Addr} {w : World} (hS : Oc.Sn w a b) (hV : RdT w va vars) (hC : RdT w ca cells) (hT : RdV w sa st) (hM : RdV w ma mn) (hsv : ∀ s ∈ vars, SmT s) (hsc : ∀ s ∈ cells, SmT s) (hst : ∀ v ∈ st, Oc.SmV v) (hsm : ∀ v ∈ mn, Oc.SmV v) (hnv : vars.length ≤ 1048576) (hn : cells.length ≤ 1048576) (hns : st.length ≤ 1048576) (hnm : mn.length ≤ 1048576) :
    Calls Tryz.prog 55 #[.agg #[.slice va vars.length vc, .slice ca cells.length cc, .slice sa st.length sc, .slice ma mn.length mc]] w fun e w' => e = .returned (.bool (progB P vars cells st mn)) ∧ Below w.heap.size w w' := by
  have CR : Hid (∀ w', Below w.heap.size w w' → Calls Tryz.prog 76 #[.agg #[.slice va vars.length vc, .slice ca cells.length cc]] w' fun e w'' => e = .returned (.bool (listsB vars cells)) ∧ Below w'.heap.size w' w'') := fun w' h => iAreRight (hV.below h) (hC.below h) hsv hsc hnv hn
  have CS : Hid (∀ w', Below w.heap.size w w' → Calls Tryz.prog 77 #[.slice sa st.length sc, .int .i64 vars.length, .int .i64 cells.length] w' fun e w'' => e = .returned (.bool (Oc.opsB P st vars.length cells.length)) ∧ Below w'.heap.size w' w'') := fun w' h => Oc.iOpsOk hP (hT.below h) hns hst (hS.below h)
  have CM : Hid (∀ w', Below w.heap.size w w' → Calls Tryz.prog 77 #[.slice ma mn.length mc, .int .i64 vars.length, .int .i64 cells.length] w' fun e w'' => e = .returned (.bool (Oc.opsB P mn vars.length cells.length)) ∧ Below w'.heap.size w' w'') := fun w' h => Oc.iOpsOk hP (hM.below h) hnm hsm (hS.below h)
  obtain ⟨R, hR⟩ : ∃ R, R = progB P vars cells st mn := ⟨_, rfl⟩
  have HR : Hid (R = (listsB vars cells && (Oc.opsB P st vars.length cells.length && Oc.opsB P mn vars.length cells.length))) := hR
  rw [← hR]
  clear hR hV hC hsv hsc hT hM hst hsm hS hP
  have bv : (vars.length : Int) ≤ 1048576 := by omega
  have bc : (cells.length : Int) ≤ 1048576 := by omega
  generalize listsB vars cells = V at *
  generalize Oc.opsB P st vars.length cells.length = C at *
  generalize Oc.opsB P mn vars.length cells.length = F at *
  obtain ⟨W1, hW1⟩ : ∃ W1, W1 = (w.alloc (.cells #[.slice va vars.length vc, .slice ca cells.length cc, .slice sa st.length sc, .slice ma mn.length mc] 39)).alloc (.cells #[.slice va vars.length vc, .slice ca cells.length cc] 118) := ⟨_, rfl⟩
  have HK1 : Hid (Below w.heap.size w W1 ∧ Blk 39 W1 w.heap.size [.slice va vars.length vc, .slice ca cells.length cc, .slice sa st.length sc, .slice ma mn.length mc]) := by
    rw [hW1]
    exact ⟨((Below.refl _ w).alloc (Nat.le_refl _) _).alloc (by simp) _, (Blk.new 39 w [.slice va vars.length vc, .slice ca cells.length cc, .slice sa st.length sc, .slice ma mn.length mc]).alloc _⟩
  go_enter Tryz.func55, Tryz.ntmps55
  go_wp2_with (go_at_call 76; refine hold ?_)
  rw [← hW1]
  clear hW1
  refine Calls.mono (CR.out _ HK1.out.1) ?_
  rintro e w2 ⟨rfl, hb2⟩
  have B2 := HK1.out.1.trans (hb2.mono HK1.out.1.size)
  have K2 := HK1.out.2.below hb2
  have x0 := K2.cell 0 rfl
  have x1 := K2.cell 1 rfl
  have x2 := K2.cell 2 rfl
  have x3 := K2.cell 3 rfl
  have HK2 : Hid (Below w.heap.size w w2 ∧ Blk 39 w2 w.heap.size [.slice va vars.length vc, .slice ca cells.length cc, .slice sa st.length sc, .slice ma mn.length mc]) := ⟨B2, K2⟩
  clear B2 K2 hb2 HK1 CR
  cases V with
  | false =>
    go_wp2_with fail
    go_ret
    exact ⟨by rw [HR.out]; rfl, HK2.out.1⟩
  | true =>
    go_wp2_with (go_at_call 77; refine hold ?_)
    refine Calls.mono (CS.out _ HK2.out.1) ?_
    rintro e w3 ⟨rfl, hb3⟩
    have B3 := HK2.out.1.trans (hb3.mono HK2.out.1.size)
    have K3 := HK2.out.2.below hb3
    clear x0 x1 x2 x3
    have x0 := K3.cell 0 rfl
    have x1 := K3.cell 1 rfl
    have x2 := K3.cell 2 rfl
    have x3 := K3.cell 3 rfl
    have HK3 : Hid (Below w.heap.size w w3) := B3
    clear B3 K3 hb3 HK2 CS
    cases C with
    | false =>
      go_wp2_with fail
      go_ret
      exact ⟨by rw [HR.out]; rfl, HK3.out⟩
    | true =>
      go_wp2_with (go_at_call 77; refine hold ?_)
      refine Calls.mono (CM.out _ HK3.out) ?_
      rintro e w4 ⟨rfl, hb4⟩
      go_wp2_with fail
      go_ret
      exact ⟨by rw [HR.out]; rfl, HK3.out.trans (hb4.mono HK3.out.size)⟩

end Pg
end Go.Proofs.YtkhoccjfkkfipaaGreatDoor
namespace Go.Proofs.YtkhoccjfkkfipaaGreatDoor
open Go.RowKit
namespace St

/-- by texts -/
def cmpS (x y : ByteArray) : Int := if Op.bytesLess x.toList y.toList then -1 else if x.toList == y.toList then 0 else 1
/-- by numbers -/
def cmpI (x y : Int) : Int := if x < y then -1 else if y < x then 1 else 0
/-- by name, then by key -/
def cmpC (n : Int) (k : ByteArray) (n' : Int) (k' : ByteArray) : Int := if cmpI n n' = 0 then cmpS k k' else cmpI n n'

theorem gtr_str (t : TypeId) (a b : ByteArray) : binOp .gtr t (.string a) (.string b) = pure (.bool !(Op.bytesLess a.toList b.toList || a.toList == b.toList)) := by simp [binOp, Op.stringOp]
theorem iCmpS (x y : ByteArray) (w : World) :
    Calls Tryz.prog 120 #[.string x, .string y] w fun e w' => e = .returned (.int .i64 (cmpS x y)) ∧ w' = w := by
  unfold cmpS
  have hg := gtr_str
  cases h1 : Op.bytesLess x.toList y.toList with
  | true =>
    go_enter Tryz.func120, Tryz.ntmps120
    go_wp2_with (go_at_call 136; go_in)
    go_ret
    exact ⟨rfl, rfl⟩
  | false =>
    cases h2 : (x.toList == y.toList) with
    | true =>
      go_enter Tryz.func120, Tryz.ntmps120
      go_wp2_with (go_at_call 136; go_in)
      go_ret
      exact ⟨rfl, rfl⟩
    | false =>
      go_enter Tryz.func120, Tryz.ntmps120
      go_wp2_with (go_at_call 136; go_in)
      go_ret
      exact ⟨rfl, rfl⟩
theorem iCmpI (x y : Int) (w : World) :
    Calls Tryz.prog 110 #[.int .i64 x, .int .i64 y] w fun e w' => e = .returned (.int .i64 (cmpI x y)) ∧ w' = w := by
  unfold cmpI
  by_cases h1 : x < y
  · rw [if_pos h1]
    go_enter Tryz.func110, Tryz.ntmps110
    go_wp2_with (go_at_call 128; go_in)
    go_ret
    exact ⟨rfl, rfl⟩
  · rw [if_neg h1]
    by_cases h2 : y < x
    · rw [if_pos h2]
      have h1' : decide (x < y) = false := by simpa using h1
      clear h1
      go_enter Tryz.func110, Tryz.ntmps110
      go_wp2_with (go_at_call 128; go_in)
      go_ret
      exact ⟨rfl, rfl⟩
    · rw [if_neg h2]
      have h1' : decide (x < y) = false := by simpa using h1
      have h2' : decide (y < x) = false := by simpa using h2
      clear h1 h2
      go_enter Tryz.func110, Tryz.ntmps110
      go_wp2_with (go_at_call 128; go_in)
      go_ret
      exact ⟨rfl, rfl⟩

theorem iOr {g : Nat} {x y : Int} {w : World} (c0 : w.cell? ⟨g, 0, none⟩ = some (.int .i64 x)) (c1 : w.cell? ⟨g, 1, none⟩ = some (.int .i64 y)) :
    Calls Tryz.prog 119 #[.slice (some ⟨g, 0, none⟩) 2 2] w fun e w' => e = .returned (.int .i64 (if x = 0 then y else x)) ∧ w' = w := by
  obtain ⟨R, hR⟩ : ∃ R, R = (if x = 0 then y else x) := ⟨_, rfl⟩
  have HR : Hid (R = if x = 0 then y else x) := hR
  rw [← hR]
  clear hR
  go_enter Tryz.func119, Tryz.ntmps119
  go_wp2_with fail
  go_loopw [8] (fun i wr => ∃ k : Nat, i = .int .i64 k ∧ k ≤ 2 ∧ (1 ≤ k → x = 0) ∧ (2 ≤ k → y = 0) ∧ wr = w) (fun i _ => 2 - (intOf i).toNat)
  case atStart => exact ⟨0, rfl, by omega, by omega, by omega, rfl⟩
  case round =>
    obtain ⟨k, rfl, hk, hx, hy, rfl⟩ := hrel
    match k, hk with
    | 0, _ =>
      by_cases h0 : x = 0
      · subst h0
        go_wp2_with fail
        go_roundw
        case rel => exact ⟨1, rfl, by omega, by simp, by omega, by simp⟩
        case measure => simp [intOf]
      · have h1 : (x != 0) = true := by simpa using h0
        have h2 : Hid (R = x) := by have := HR.out; rw [if_neg h0] at this; exact this
        clear h0 HR
        go_wp2_with fail
        go_ret
        exact ⟨by rw [h2.out]; rfl, rfl⟩
    | 1, _ =>
      obtain rfl := hx (by omega)
      have h2 : Hid (R = y) := by have := HR.out; rw [if_pos rfl] at this; exact this
      by_cases h0 : y = 0
      · subst h0
        go_wp2_with fail
        go_roundw
        case rel => exact ⟨2, rfl, by omega, by simp, by simp, by simp⟩
        case measure => simp [intOf]
      · have h1 : (y != 0) = true := by simpa using h0
        clear h0 HR hx hy
        go_wp2_with fail
        go_ret
        exact ⟨by rw [h2.out]; rfl, rfl⟩
    | 2, _ =>
      obtain rfl := hx (by omega)
      obtain rfl := hy (by omega)
      have h2 : Hid (R = 0) := by have := HR.out; rw [if_pos rfl] at this; exact this
      clear HR hx hy
      go_wp2_with fail
      go_ret
      exact ⟨by rw [h2.out]; rfl, rfl⟩

theorem step_call1 {P : Program} {ops : Array Oper} {o : Oper} {a : Act} {w : World} {K : Act → World → Prop} {Q : Exit → Act → World → Prop} {E : Prop}
    (hg : o.guard = none) (f x : Nat) (t : TypeId) (hop : o.op = Op.call { callee := Callee.value (.func f), args := #[.tmp x], argTypes := #[t] }) (v : Value) (hx : a.eval (.tmp x) = v)
    (hcf : ∀ vs w, (callFunc f vs).run P w = .ok (.enter f vs) w)
    (hc : Calls P f #[v] w fun e w' => ∃ v, e = .returned v ∧ K (a.put o.dst v) w') :
    if Region.wanted o (yielded ops a.tmps) = true then Oper.wp P o a w K Q else E := by
  have hw : Region.wanted o (yielded ops a.tmps) = true := by simp [Region.wanted, hg]
  rw [if_pos hw]
  unfold Oper.wp
  simp [Act.eval] at hx
  simp [execOp, hop, resolve, invoke, hcf, go_sem, hx]
  refine hc.mono ?_
  rintro e w' ⟨v, rfl, hk⟩
  exact hk
theorem step_call2 {P : Program} {ops : Array Oper} {o : Oper} {a : Act} {w : World} {K : Act → World → Prop} {Q : Exit → Act → World → Prop} {E : Prop}
    (hg : o.guard = none) (f x y : Nat) (t u : TypeId) (hop : o.op = Op.call { callee := Callee.value (.func f), args := #[.tmp x, .tmp y], argTypes := #[t, u] }) (v v' : Value) (hx : a.eval (.tmp x) = v) (hy : a.eval (.tmp y) = v')
    (hcf : ∀ vs w, (callFunc f vs).run P w = .ok (.enter f vs) w)
    (hc : Calls P f #[v, v'] w fun e w' => ∃ v, e = .returned v ∧ K (a.put o.dst v) w') :
    if Region.wanted o (yielded ops a.tmps) = true then Oper.wp P o a w K Q else E := by
  have hw : Region.wanted o (yielded ops a.tmps) = true := by simp [Region.wanted, hg]
  rw [if_pos hw]
  unfold Oper.wp
  simp [Act.eval] at hx hy
  simp [execOp, hop, resolve, invoke, hcf, go_sem, hx, hy]
  refine hc.mono ?_
  rintro e w' ⟨v, rfl, hk⟩
  exact hk

set_option maxHeartbeats 1000000 in
set_option maxRecDepth 100000 in
theorem iCmpCells (n : Int) (k : ByteArray) (v1 v2 v3 : Value) (n' : Int) (k' : ByteArray) (u1 u2 u3 : Value) (w : World) :
    Calls Tryz.prog 101 #[.agg #[.int .i64 n, .string k, v1, v2, v3], .agg #[.int .i64 n', .string k', u1, u2, u3]] w fun e w' => e = .returned (.int .i64 (cmpC n k n' k')) ∧ Below w.heap.size w w' := by
  have ci := fun w => iCmpI n n' w
  have cs := fun w => iCmpS k k' w
  obtain ⟨R, hR⟩ : ∃ R, R = cmpC n k n' k' := ⟨_, rfl⟩
  have HR : Hid (R = if cmpI n n' = 0 then cmpS k k' else cmpI n n') := hR
  rw [← hR]
  clear hR
  generalize cmpI n n' = x at ci HR
  generalize cmpS k k' = y at cs HR
  have new2 : ∀ o1 o2, ((((w.alloc o1).alloc o2).alloc (.cells #[.int .i64 x, .int .i64 y] 3)).drew).cell? ⟨w.heap.size + 1 + 1, 0, none⟩ = some (.int .i64 x) ∧ ((((w.alloc o1).alloc o2).alloc (.cells #[.int .i64 x, .int .i64 y] 3)).drew).cell? ⟨w.heap.size + 1 + 1, 1, none⟩ = some (.int .i64 y) := fun o1 o2 => by
    have h : ((((w.alloc o1).alloc o2).alloc (.cells #[.int .i64 x, .int .i64 y] 3)).drew).heap[w.heap.size + 1 + 1]? = some (.cells #[.int .i64 x, .int .i64 y] 3) := by
      have := Nd.heap_new ((w.alloc o1).alloc o2) (.cells #[.int .i64 x, .int .i64 y] 3)
      simp only [World.size_alloc] at this
      exact this
    constructor <;> (simp only [World.cell?, h]; rfl)
  have cOr := fun o1 o2 => iOr (new2 o1 o2).1 (new2 o1 o2).2
  simp only [← HR.out] at cOr
  clear HR new2
  have eI : ∀ args w, (callFunc 110 args).run Tryz.prog w = .ok (.enter 110 args) w := enters_of Tryz.func110 (by kernel_rfl) rfl
  have eS : ∀ args w, (callFunc 120 args).run Tryz.prog w = .ok (.enter 120 args) w := enters_of Tryz.func120 (by kernel_rfl) rfl
  have eO : ∀ args w, (callFunc 119 args).run Tryz.prog w = .ok (.enter 119 args) w := enters_of Tryz.func119 (by kernel_rfl) rfl
  have bb : ∀ o1 o2 o3, Below w.heap.size w ((((w.alloc o1).alloc o2).alloc o3).drew) := fun o1 o2 o3 => ((((Below.refl _ w).alloc (Nat.le_refl _) _).alloc (by simp) _).alloc (by simp; omega) _).drew
  go_enter Tryz.func101, Tryz.ntmps101
  go_wp2_with fail
  go_region_law (first
    | (refine step_call2 rfl 110 6 8 3 3 rfl (.int .i64 n) (.int .i64 n') (by simp [Act.eval]) (by simp [Act.eval]) eI ?_; refine (ci _).mono ?_; rintro e w2 ⟨rfl, rfl⟩; refine ⟨_, rfl, ?_⟩)
    | (refine step_call2 rfl 120 11 13 9 9 rfl (.string k) (.string k') (by simp [Act.eval]) (by simp [Act.eval]) eS ?_; refine (cs _).mono ?_; rintro e w2 ⟨rfl, rfl⟩; refine ⟨_, rfl, ?_⟩)
    | (refine step_call1 rfl 119 15 30 rfl (.slice (some ⟨w.heap.size + 1 + 1, 0, none⟩) 2 2) (by simp [Act.eval]) eO ?_; refine (cOr _ _).mono ?_; rintro e w2 ⟨rfl, rfl⟩; refine ⟨_, rfl, ?_⟩))
  all_goals
    go_wp2_with fail
    go_ret
    exact ⟨rfl, bb _ _ _⟩

end St
end Go.Proofs.YtkhoccjfkkfipaaGreatDoor
