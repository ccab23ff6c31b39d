/-
  MachOk, the program's.
-/
import Derived.Test.YtaakeecliehjgaaGreatDoorP07
import Derived.Test.YtaakeecliehjgaaGreatDoorP17
import Derived.Test.YtaakeecliehjgaaGreatDoorP26
import Derived.Test.YtaakeecliehjgaaGreatDoorP44
namespace Go.Proofs.YtaakeecliehjgaaGreatDoor
open Go.RowKit
namespace Mh
open Pg (RdI PSm PRd)
open St (Vl Cl RdV RdC SmC)
open Oc (hold heap_new Blk)

theorem all_takeT {α : Type} {p : α → Bool} {ks : List α} {k : Nat} {t : α} (h : ks[k]? = some t) : (ks.take (k + 1)).all p = ((ks.take k).all p && p t) := by
  rw [List.take_add_one, List.all_append, h]
  simp
theorem all_noT {α : Type} {p : α → Bool} {ks : List α} {t : α} (h : t ∈ ks) (hp : p t = false) : ks.all p = false := by
  rw [List.all_eq_false]
  exact ⟨t, h, by simp [hp]⟩
def seqB (n : Int) : Bool := decide (0 ≤ n ∧ n ≤ 100000)
def doneB (dn : List Int) : Bool := decide (dn.length = 3) && dn.all seqB
/-- Whether a Mach is right. -/
def machB (vars cells : List ByteArray) (st mn vs : List Vl) (cs : List Cl) (nr er : Int) (dn : List Int) (out : ByteArray) : Bool :=
  decide (out.size ≤ 1500) && (doneB dn && (Pg.progB Oc.patB vars cells st mn && St.stateB vs cs nr er vars.length cells.length))

/-- A Mach that is read. -/
structure MRd (w : World) (a b c : Option Addr) (vs : List Vl) (cs : List Cl) (dn : List Int) : Prop where
  vs : RdV w a vs
  cs : RdC w b cs
  dn : RdI w c dn
theorem MRd.below {W w : World} {a b c : Option Addr} {vs : List Vl} {cs : List Cl} {dn : List Int} (h : MRd W a b c vs cs dn) (hb : Below W.heap.size W w) : MRd w a b c vs cs dn := ⟨h.vs.below hb, h.cs.below hb, h.dn.below hb⟩
structure MSm (vs : List Vl) (cs : List Cl) (dn : List Int) (out : ByteArray) : Prop where
  vn : vs.length ≤ 1048576
  vs : ∀ v ∈ vs, St.SmV v
  cn : cs.length ≤ 1048576
  cs : ∀ c ∈ cs, SmC c
  dn : dn.length ≤ 1048576
  out : out.size ≤ 1048576

set_option maxRecDepth 100000 in
theorem iAreAllI {f : Nat} {fc : Array Value} {p : Int → Bool} {ss : List Int} {w : World} (hf : ∀ s ∈ ss, ∀ w', Below w.heap.size w w' → Calls Tryz.prog f (#[.int .i64 s] ++ fc) w' fun e w'' => e = .returned (.bool (p s)) ∧ Below w'.heap.size w' w'') (hent : ∀ (vs : Array Value) (w : World), (callFunc f vs).run Tryz.prog w = .ok (.enter f vs) w) (hn : ss.length ≤ 1048577) (ao : Option Addr) (cap : Nat) (hA : RdI w ao ss) :
    Calls Tryz.prog 41 #[.slice ao ss.length cap, .func (.func f) #[] fc] w fun e w' => e = .returned (.bool (ss.all p)) ∧ Below w.heap.size w w' := by
  have bn : (ss.length : Int) ≤ 1048577 := by omega
  have HE : Hid (∀ (vs : Array Value) (w : World), (callFunc f vs).run Tryz.prog w = .ok (.enter f vs) w) := hent
  clear hn hent
  go_enter Tryz.func41, Tryz.ntmps41
  go_wp2_with fail
  go_loopw [6, 9] (fun _ i wr => ∃ k : Nat, k ≤ ss.length ∧ i = .int .i64 k ∧ (ss.take k).all p = true ∧ Below w.heap.size w wr) (fun _ i _ => ss.length - (intOf i).toNat)
  case atStart => exact ⟨0, Nat.zero_le _, rfl, rfl, Below.refl _ _⟩
  case round =>
    obtain ⟨k, hkn, rfl, hall, hb⟩ := hrel
    by_cases hkl : k < ss.length
    · have hki : ss[k]? = some ss[k] := List.getElem?_eq_getElem hkl
      obtain ⟨b, o, rfl, hbl, c0⟩ := hA.below hb k _ hki
      have bk : (k : Int) < ss.length := by omega
      have hT := all_takeT (p := p) hki
      rw [hall, Bool.true_and] at hT
      have call := hf ss[k] (List.getElem_mem hkl) wr hb
      have HN : Hid (p ss[k] = false → ss.all p = false) := all_noT (List.getElem_mem hkl)
      have HT : Hid ((ss.take (k + 1)).all p = p ss[k]) := hT
      clear hf hA hki hall hT
      generalize p ss[k] = B at *
      generalize ss[k] = v at *
      cases B
      · replace HN : Hid (ss.all p = false) := HN.out rfl
        go_wp2_with fail
        rw [HE.out]
        refine Calls.mono call ?_
        rintro e w2 ⟨rfl, hb2⟩
        go_wp2_with fail
        go_ret
        exact ⟨by rw [HN.out]; rfl, hb.trans (hb2.mono hb.size)⟩
      · go_wp2_with fail
        rw [HE.out]
        refine Calls.mono call ?_
        rintro e w2 ⟨rfl, hb2⟩
        go_wp2_with fail
        go_roundw
        case rel => exact ⟨k + 1, hkl, by go_num, HT.out, hb.trans (hb2.mono hb.size)⟩
        case measure => simp [intOf]; omega
    · obtain rfl : k = ss.length := by omega
      rw [List.take_length] at hall
      have H : Hid (ss.all p = true) := hall
      clear hall
      go_wp2_with fail
      go_ret
      exact ⟨by rw [H.out]; rfl, hb⟩

theorem enterSeq (vs : Array Value) (w : World) : (callFunc 42 vs).run Tryz.prog w = .ok (.enter 42 vs) w := by kernel_rfl
theorem iSeq (n : Int) (w : World) : Calls Tryz.prog 42 #[.int .i64 n] w fun e w' => e = .returned (.bool (seqB n)) ∧ Below w.heap.size w w' := by
  obtain ⟨R, hR⟩ : ∃ R, R = seqB n := ⟨_, rfl⟩
  rw [← hR]
  by_cases h0 : 0 ≤ n
  · by_cases h1 : n ≤ 100000
    · have H : Hid (R = true) := hR.trans (decide_eq_true ⟨h0, h1⟩)
      clear hR
      go_enter Tryz.func42, Tryz.ntmps42
      go_wp2_with fail
      go_ret
      exact ⟨by rw [H.out] <;> simp, Below.refl _ _⟩
    · have H : Hid (R = false) := hR.trans (decide_eq_false fun h => h1 h.2)
      have e1 : decide (n ≤ 100000) = false := decide_eq_false h1
      clear hR
      go_enter Tryz.func42, Tryz.ntmps42
      go_wp2_with fail
      go_ret
      exact ⟨by rw [H.out] <;> simp, Below.refl _ _⟩
  · have H : Hid (R = false) := hR.trans (decide_eq_false fun h => h0 h.1)
    have e1 : decide (0 ≤ n) = false := decide_eq_false h0
    clear hR
    go_enter Tryz.func42, Tryz.ntmps42
    go_wp2_with fail
    go_ret
    exact ⟨by rw [H.out] <;> simp, Below.refl _ _⟩

theorem iDone {dn : List Int} {c : Option Addr} {xc : Nat} {w : World} (hD : RdI w c dn) (hn : dn.length ≤ 1048576) :
    Calls Tryz.prog 23 #[.slice c dn.length xc] w fun e w' => e = .returned (.bool (doneB dn)) ∧ Below w.heap.size w w' := by
  have CA : Hid (Calls Tryz.prog 41 #[.slice c dn.length xc, .func (.func 42) #[] #[]] w fun e w' => e = .returned (.bool (dn.all seqB)) ∧ Below w.heap.size w w') :=
    iAreAllI (fc := #[]) (fun s _ w' _ => iSeq s w') enterSeq (by omega) c xc hD
  obtain ⟨R, hR⟩ : ∃ R, R = doneB dn := ⟨_, rfl⟩
  have HR : Hid (R = (decide (dn.length = 3) && dn.all seqB)) := hR
  rw [← hR]
  clear hR hD
  by_cases h : dn.length = 3
  · have e1 : (dn.length : Int) = 3 := by omega
    have H : Hid (R = dn.all seqB) := HR.out.trans (by rw [decide_eq_true h, Bool.true_and])
    clear HR hn
    generalize dn.all seqB = B at *
    generalize dn.length = n at *
    subst h
    go_enter Tryz.func23, Tryz.ntmps23
    go_wp2_with (go_at_call 41; refine Calls.mono CA.out ?_; rintro e w2 ⟨rfl, hb2⟩)
    go_ret
    exact ⟨by rw [H.out] <;> rfl, hb2⟩
  · have e1 : ((dn.length : Int) == 3) = false := beq_eq_false_iff_ne.2 (by omega)
    have H : Hid (R = false) := HR.out.trans (by rw [decide_eq_false h, Bool.false_and])
    clear HR CA
    go_enter Tryz.func23, Tryz.ntmps23
    go_wp2_with fail
    go_ret
    exact ⟨by rw [H.out] <;> rfl, Below.refl _ _⟩

set_option maxHeartbeats 2000000 in
set_option maxRecDepth 100000 in
theorem iMachOk {va ca sa ma a b c : Option Addr} {vc cc sc mc xa xb xc : Nat} {vars cells : List ByteArray} {st mn vs : List St.Vl} {cs : List St.Cl} {dn : List Int} {nr er : Int} {out : ByteArray} {ad bd : Addr} {w : World} (hS : Oc.Sn w ad bd) (hP : PRd w va ca sa ma vars cells st mn) (hm : PSm vars cells st mn) (hM : MRd w a b c vs cs dn) (ho : MSm vs cs dn out) :
    Calls Tryz.prog 9 #[.agg #[.slice va vars.length vc, .slice ca cells.length cc, .slice sa st.length sc, .slice ma mn.length mc], .agg #[.slice a vs.length xa, .slice b cs.length xb, .int .i64 nr, .int .i64 er, .slice c dn.length xc, .string out]] w fun e w' => e = .returned (.bool (machB vars cells st mn vs cs nr er dn out)) ∧ Below w.heap.size w w' := by
  have CD : Hid (∀ w', Below w.heap.size w w' → Calls Tryz.prog 23 #[.slice c dn.length xc] w' fun e w'' => e = .returned (.bool (doneB dn)) ∧ Below w'.heap.size w' w'') := fun w' h => iDone (hM.dn.below h) ho.dn
  have CP : Hid (∀ w', Below w.heap.size w w' → Calls Tryz.prog 24 #[.agg #[.slice va vars.length vc, .slice ca cells.length cc, .slice sa st.length sc, .slice ma mn.length mc]] w' fun e w'' => e = .returned (.bool (Pg.progB Oc.patB vars cells st mn)) ∧ Below w'.heap.size w' w'') := fun w' h => by
    have hd := hP.below h
    exact Pg.iProgOk Oc.parseI (hS.below h) hd.vs hd.cs hd.ss hd.ms hm.vs hm.cs hm.ss hm.ms hm.vn hm.cn (Nat.le_trans hm.sn (by decide)) (Nat.le_trans hm.mm (by decide))
  have CS : Hid (∀ w', Below w.heap.size w w' → Calls Tryz.prog 25 #[.agg #[.slice a vs.length xa, .slice b cs.length xb, .int .i64 nr, .int .i64 er], .int .i64 vars.length, .int .i64 cells.length] w' fun e w'' => e = .returned (.bool (St.stateB vs cs nr er vars.length cells.length)) ∧ Below w'.heap.size w' w'') := fun w' h =>
    St.iStateOk (hS.below h).1 (hM.vs.below h) (hM.cs.below h) ho.vn ho.cn ho.vs ho.cs
  obtain ⟨R, hR⟩ : ∃ R, R = machB vars cells st mn vs cs nr er dn out := ⟨_, rfl⟩
  have HR : Hid (R = (decide (out.size ≤ 1500) && (doneB dn && (Pg.progB Oc.patB vars cells st mn && St.stateB vs cs nr er vars.length cells.length)))) := hR
  rw [← hR]
  have bo : (out.size : Int) ≤ 1048576 := by have := ho.out; omega
  have bv : (vars.length : Int) ≤ 1048576 := by have := hm.vn; omega
  have bc : (cells.length : Int) ≤ 1048576 := by have := hm.cn; omega
  clear hR hS hP hm hM ho
  generalize doneB dn = D at *
  generalize Pg.progB Oc.patB vars cells st mn = Q at *
  generalize St.stateB vs cs nr er vars.length cells.length = F at *
  obtain ⟨W1, hW1⟩ : ∃ W1, W1 = (w.alloc (.cells #[.slice va vars.length vc, .slice ca cells.length cc, .slice sa st.length sc, .slice ma mn.length mc] 38)).alloc (.cells #[.slice a vs.length xa, .slice b cs.length xb, .int .i64 nr, .int .i64 er, .slice c dn.length xc, .string out] 45) := ⟨_, rfl⟩
  have HK1 : Hid (Below w.heap.size w W1 ∧ Blk 38 W1 w.heap.size [.slice va vars.length vc, .slice ca cells.length cc, .slice sa st.length sc, .slice ma mn.length mc] ∧ Blk 45 W1 (w.heap.size + 1) [.slice a vs.length xa, .slice b cs.length xb, .int .i64 nr, .int .i64 er, .slice c dn.length xc, .string out]) := by
    have k1 := Blk.new 45 (w.alloc (.cells #[.slice va vars.length vc, .slice ca cells.length cc, .slice sa st.length sc, .slice ma mn.length mc] 38)) [.slice a vs.length xa, .slice b cs.length xb, .int .i64 nr, .int .i64 er, .slice c dn.length xc, .string out]
    rw [World.size_alloc] at k1
    rw [hW1]
    exact ⟨((Below.refl _ w).alloc (Nat.le_refl _) _).alloc (by simp) _, (Blk.new 38 w [.slice va vars.length vc, .slice ca cells.length cc, .slice sa st.length sc, .slice ma mn.length mc]).alloc _, k1⟩
  by_cases h1 : (out.size : Int) ≤ 1500
  · have H1 : Hid (R = (D && (Q && F))) := HR.out.trans (by rw [decide_eq_true (show out.size ≤ 1500 by omega), Bool.true_and])
    clear HR
    go_enter Tryz.func9, Tryz.ntmps9
    go_wp2_with (go_at_call 23; refine hold ?_)
    rw [← hW1]
    clear hW1
    refine Calls.mono (CD.out _ HK1.out.1) ?_
    rintro e w2 ⟨rfl, hb2⟩
    have HK2 : Hid (Below w.heap.size w w2 ∧ Blk 38 w2 w.heap.size [.slice va vars.length vc, .slice ca cells.length cc, .slice sa st.length sc, .slice ma mn.length mc] ∧ Blk 45 w2 (w.heap.size + 1) [.slice a vs.length xa, .slice b cs.length xb, .int .i64 nr, .int .i64 er, .slice c dn.length xc, .string out]) := ⟨HK1.out.1.trans (hb2.mono HK1.out.1.size), HK1.out.2.1.below hb2, HK1.out.2.2.below hb2⟩
    have x0 := HK2.out.2.1.cell 0 rfl
    have x1 := HK2.out.2.1.cell 1 rfl
    have x2 := HK2.out.2.1.cell 2 rfl
    have x3 := HK2.out.2.1.cell 3 rfl
    clear hb2 HK1 CD
    cases D with
    | false =>
      go_wp2_with fail
      go_ret
      exact ⟨by rw [H1.out] <;> rfl, HK2.out.1⟩
    | true =>
      go_wp2_with (go_at_call 24; refine hold ?_)
      refine Calls.mono (CP.out _ HK2.out.1) ?_
      rintro e w3 ⟨rfl, hb3⟩
      have HK3 : Hid (Below w.heap.size w w3 ∧ Blk 38 w3 w.heap.size [.slice va vars.length vc, .slice ca cells.length cc, .slice sa st.length sc, .slice ma mn.length mc] ∧ Blk 45 w3 (w.heap.size + 1) [.slice a vs.length xa, .slice b cs.length xb, .int .i64 nr, .int .i64 er, .slice c dn.length xc, .string out]) := ⟨HK2.out.1.trans (hb3.mono HK2.out.1.size), HK2.out.2.1.below hb3, HK2.out.2.2.below hb3⟩
      clear x0 x1 x2 x3
      have x0 := HK3.out.2.1.cell 0 rfl
      have x1 := HK3.out.2.1.cell 1 rfl
      have y0 := HK3.out.2.2.cell 0 rfl
      have y1 := HK3.out.2.2.cell 1 rfl
      have y2 := HK3.out.2.2.cell 2 rfl
      have y3 := HK3.out.2.2.cell 3 rfl
      clear hb3 HK2 CP
      cases Q with
      | false =>
        go_wp2_with fail
        go_ret
        exact ⟨by rw [H1.out] <;> rfl, HK3.out.1⟩
      | true =>
        go_wp2_with (go_at_call 25; refine hold ?_)
        refine Calls.mono (CS.out _ HK3.out.1) ?_
        rintro e w4 ⟨rfl, hb4⟩
        go_wp2_with fail
        go_ret
        exact ⟨by rw [H1.out] <;> rfl, HK3.out.1.trans (hb4.mono HK3.out.1.size)⟩
  · have H : Hid (R = false) := HR.out.trans (by rw [decide_eq_false (show ¬ out.size ≤ 1500 by omega), Bool.false_and])
    clear HR CD CP CS
    go_enter Tryz.func9, Tryz.ntmps9
    go_wp2_with fail
    rw [← hW1]
    go_ret
    exact ⟨by rw [H.out] <;> rfl, HK1.out.1⟩

end Mh
end Go.Proofs.YtaakeecliehjgaaGreatDoor
