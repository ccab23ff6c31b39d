/-
  The program's OpsOk at every list of places.
  The program's OpsOk: each place, all of them, the whole list.
-/
import Derived.Test.YtkhoccjfkkfipaaGreatDoorP16
import Derived.Test.YtkhoccjfkkfipaaGreatDoorP17
namespace Go.Proofs.YtkhoccjfkkfipaaGreatDoor
open Go.RowKit
namespace Oc
open St (Vl RdV)

/-- The two errors that the program holds against others. -/
def Sn (w : World) (a b : Addr) : Prop := w.cell? ⟨1, 0, none⟩ = some (.iface 273 (.pointer (some a))) ∧ w.cell? ⟨0, 0, none⟩ = some (.iface 273 (.pointer (some b)))
theorem Sn.below {w w' : World} {a b : Addr} (h : Sn w a b) (hb : Below w.heap.size w w') : Sn w' a b := ⟨(hb.cell (World.block_lt_of_cell? w _ h.1)).trans h.1, (hb.cell (World.block_lt_of_cell? w _ h.2)).trans h.2⟩

/-- A parser tells whether a text is a pattern, and a tree. -/
def Told (f : Nat) (q : Bool) (s : ByteArray) (w : World) : Prop := Calls Tryz.prog f #[.string s] w fun e w' => (∃ (rop rc : Int) (rs : ByteArray) (rno : Bool) (rao : Option Addr) (rn rcap : Nat), e = .returned (.tuple #[.agg #[.int .i64 rop, .int .i64 rc, .string rs, .bool rno, .slice rao rn rcap], .bool q])) ∧ Below w.heap.size w w'
def ParseI (P : ByteArray → Bool) : Prop := ∀ (s : ByteArray) (w : World) (a b : Addr), Sn w a b → s.size ≤ 1048576 → Told 114 (P s) s w

theorem below_drewN {B : Nat} {W w : World} (h : Below B W w) (k : Nat) : Below B W (w.drewN k) := ⟨h.os, h.tape, h.output, h.size, h.block⟩

theorem iAmong (n c : Int) (w : World) : Calls Tryz.prog 113 #[.int .i64 n, .int .i64 c] w fun e w' => e = .returned (.bool (decide (0 ≤ n ∧ n < c))) ∧ w' = w := by
  obtain ⟨R, hR⟩ : ∃ R, R = decide (0 ≤ n ∧ n < c) := ⟨_, rfl⟩
  rw [← hR]
  by_cases h0 : 0 ≤ n
  · by_cases h1 : n < c
    · have H : Hid (R = true) := hR.trans (decide_eq_true ⟨h0, h1⟩)
      clear hR
      go_enter Tryz.func113, Tryz.ntmps113
      go_wp2_with fail
      go_ret
      exact ⟨by rw [H.out]; simp, rfl⟩
    · have H : Hid (R = false) := hR.trans (decide_eq_false fun h => h1 h.2)
      have e1 : decide (n < c) = false := decide_eq_false h1
      clear hR
      go_enter Tryz.func113, Tryz.ntmps113
      go_wp2_with fail
      go_ret
      exact ⟨by rw [H.out]; simp, rfl⟩
  · have H : Hid (R = false) := hR.trans (decide_eq_false fun h => h0 h.1)
    have e1 : decide (0 ≤ n) = false := decide_eq_false h0
    clear hR
    go_enter Tryz.func113, Tryz.ntmps113
    go_wp2_with fail
    go_ret
    exact ⟨by rw [H.out]; simp, rfl⟩

set_option maxHeartbeats 1000000 in
theorem iHoldN (vars lists places what n : Int) (a b : Addr) (w : World) (hS : Sn w a b) :
    Calls Tryz.prog 96 #[.agg #[.int .i64 vars, .int .i64 lists, .int .i64 places], .int .i64 what, .int .i64 n] w fun e w' => e = .returned (.bool (hN vars lists places what n)) ∧ Below w.heap.size w w' := by
  have hb : ∀ o, Below w.heap.size w (w.alloc o) := fun o => (Below.refl _ w).alloc (Nat.le_refl _) o
  have cd := fun o => iDecOk n a (w.alloc o) (hS.below (hb o)).1
  have ca := fun c w => iAmong n c w
  have drw : ∀ (o : Obj) (k : Nat), Below w.heap.size w ((w.alloc o).drewN k) := fun o k => below_drewN (hb o) k
  by_cases h1 : what = 1
  · subst h1
    have H : Hid (hN vars lists places 1 n = Dec.okB n) := rfl
    generalize Dec.okB n = D at *
    generalize hN vars lists places 1 n = R at *
    go_enter Tryz.func96, Tryz.ntmps96
    go_wp2_with (go_at_call 98; refine (cd _).mono ?_; rintro e w2 ⟨rfl, k, rfl⟩)
    go_ret
    exact ⟨by rw [H.out]; rfl, drw _ _⟩
  have e1 : (what == 1) = false := beq_eq_false_iff_ne.2 h1
  by_cases h2 : what = 2
  · subst h2
    have H : Hid (hN vars lists places 2 n = decide (0 ≤ n ∧ n < vars)) := rfl
    have ca := ca vars
    generalize decide (0 ≤ n ∧ n < vars) = D at *
    generalize hN vars lists places 2 n = R at *
    go_enter Tryz.func96, Tryz.ntmps96
    go_wp2_with (go_at_call 113; refine (ca _).mono ?_; rintro e w2 ⟨rfl, hw⟩; have hw := hw.symm; subst hw)
    go_ret
    exact ⟨by rw [H.out]; rfl, hb _⟩
  have e2 : (what == 2) = false := beq_eq_false_iff_ne.2 h2
  by_cases h3 : what = 3
  · subst h3
    have H : Hid (hN vars lists places 3 n = decide (0 ≤ n ∧ n < lists)) := rfl
    have ca := ca lists
    generalize decide (0 ≤ n ∧ n < lists) = D at *
    generalize hN vars lists places 3 n = R at *
    go_enter Tryz.func96, Tryz.ntmps96
    go_wp2_with (go_at_call 113; refine (ca _).mono ?_; rintro e w2 ⟨rfl, hw⟩; have hw := hw.symm; subst hw)
    go_ret
    exact ⟨by rw [H.out]; rfl, hb _⟩
  have e3 : (what == 3) = false := beq_eq_false_iff_ne.2 h3
  by_cases h4 : what = 4
  · subst h4
    have H : Hid (hN vars lists places 4 n = decide (0 ≤ n ∧ n < places)) := rfl
    have ca := ca places
    generalize decide (0 ≤ n ∧ n < places) = D at *
    generalize hN vars lists places 4 n = R at *
    go_enter Tryz.func96, Tryz.ntmps96
    go_wp2_with (go_at_call 113; refine (ca _).mono ?_; rintro e w2 ⟨rfl, hw⟩; have hw := hw.symm; subst hw)
    go_ret
    exact ⟨by rw [H.out]; rfl, hb _⟩
  have e4 : (what == 4) = false := beq_eq_false_iff_ne.2 h4
  clear cd ca drw
  by_cases h5 : what = 5
  · subst h5
    have H : Hid (hN vars lists places 5 n = decide (1 ≤ n ∧ n ≤ 3)) := rfl
    generalize hN vars lists places 5 n = R at *
    by_cases p1 : 1 ≤ n
    · by_cases p2 : n ≤ 3
      · replace H : Hid (R = true) := H.out.trans (decide_eq_true ⟨p1, p2⟩)
        go_enter Tryz.func96, Tryz.ntmps96
        go_wp2_with fail
        go_ret
        exact ⟨by rw [H.out]; simp, hb _⟩
      · replace H : Hid (R = false) := H.out.trans (decide_eq_false fun h => p2 h.2)
        have q2 : decide (n ≤ 3) = false := decide_eq_false p2
        go_enter Tryz.func96, Tryz.ntmps96
        go_wp2_with fail
        go_ret
        exact ⟨by rw [H.out]; simp, hb _⟩
    · replace H : Hid (R = false) := H.out.trans (decide_eq_false fun h => p1 h.1)
      have q1 : decide (1 ≤ n) = false := decide_eq_false p1
      go_enter Tryz.func96, Tryz.ntmps96
      go_wp2_with fail
      go_ret
      exact ⟨by rw [H.out]; simp, hb _⟩
  have e5 : (what == 5) = false := beq_eq_false_iff_ne.2 h5
  by_cases h6 : what = 6
  · subst h6
    have H : Hid (hN vars lists places 6 n = decide (n = 0 ∨ n = 1)) := rfl
    generalize hN vars lists places 6 n = R at *
    by_cases p1 : n = 0
    · subst p1
      replace H : Hid (R = true) := H.out.trans (decide_eq_true (.inl rfl))
      go_enter Tryz.func96, Tryz.ntmps96
      go_wp2_with fail
      go_ret
      exact ⟨by rw [H.out]; rfl, hb _⟩
    · have q1 : (n == 0) = false := beq_eq_false_iff_ne.2 p1
      by_cases p2 : n = 1
      · subst p2
        replace H : Hid (R = true) := H.out.trans (decide_eq_true (.inr rfl))
        go_enter Tryz.func96, Tryz.ntmps96
        go_wp2_with fail
        go_ret
        exact ⟨by rw [H.out]; rfl, hb _⟩
      · have q2 : (n == 1) = false := beq_eq_false_iff_ne.2 p2
        replace H : Hid (R = false) := H.out.trans (decide_eq_false fun h => h.elim p1 p2)
        go_enter Tryz.func96, Tryz.ntmps96
        go_wp2_with fail
        go_ret
        exact ⟨by rw [H.out]; simp, hb _⟩
  have e6 : (what == 6) = false := beq_eq_false_iff_ne.2 h6
  have H : Hid (hN vars lists places what n = decide (n = 0)) := by
    show hN vars lists places what n = _
    unfold hN
    rw [if_neg h1, if_neg h2, if_neg h3, if_neg h4, if_neg h5, if_neg h6]
  generalize hN vars lists places what n = R at *
  clear h1 h2 h3 h4 h5 h6
  by_cases p1 : n = 0
  · subst p1
    replace H : Hid (R = true) := H.out.trans rfl
    go_enter Tryz.func96, Tryz.ntmps96
    go_wp2_with fail
    go_ret
    exact ⟨by rw [H.out]; rfl, hb _⟩
  · have q1 : (n == 0) = false := beq_eq_false_iff_ne.2 p1
    replace H : Hid (R = false) := H.out.trans (decide_eq_false p1)
    go_enter Tryz.func96, Tryz.ntmps96
    go_wp2_with fail
    go_ret
    exact ⟨by rw [H.out]; simp, hb _⟩

theorem iRightS {P : ByteArray → Bool} (hP : ParseI P) (what : Int) (l : List UInt8) (hl : l.length ≤ 1048576) (a b : Addr) (w : World) (hS' : Sn w a b) :
    Calls Tryz.prog 97 #[.int .i64 what, .string ⟨l.toArray⟩] w fun e w' => e = .returned (.bool (hS P what ⟨l.toArray⟩)) ∧ Below w.heap.size w w' := by
  by_cases h1 : what = 1
  · subst h1
    have H : Hid (hS P 1 ⟨l.toArray⟩ = true) := rfl
    generalize hS P 1 ⟨l.toArray⟩ = R at *
    go_enter Tryz.func97, Tryz.ntmps97
    go_wp2_with fail
    go_ret
    exact ⟨by rw [H.out]; rfl, Below.refl _ _⟩
  have e1 : (what == 1) = false := beq_eq_false_iff_ne.2 h1
  by_cases h2 : what = 2
  · subst h2
    have H : Hid (hS P 2 ⟨l.toArray⟩ = P ⟨l.toArray⟩) := rfl
    have call := hP ⟨l.toArray⟩ w a b hS' (by simpa [ByteArray.size] using hl)
    unfold Told at call
    generalize P ⟨l.toArray⟩ = D at *
    generalize hS P 2 ⟨l.toArray⟩ = R at *
    clear hP
    go_enter Tryz.func97, Tryz.ntmps97
    go_wp2_with (go_at_call 114; refine call.mono ?_; rintro e w2 ⟨⟨rop, rc, rst, rno, rao, rn, rcap, rfl⟩, hb2⟩)
    go_ret
    exact ⟨by rw [H.out]; rfl, hb2.alloc hb2.size _⟩
  have e2 : (what == 2) = false := beq_eq_false_iff_ne.2 h2
  by_cases h3 : what = 3
  · subst h3
    have H : Hid (hS P 3 ⟨l.toArray⟩ = Ty.callB l) := rfl
    have call := iHasCall l w
    generalize Ty.callB l = D at *
    generalize hS P 3 ⟨l.toArray⟩ = R at *
    clear hP
    go_enter Tryz.func97, Tryz.ntmps97
    go_wp2_with (go_at_call 115; refine call.mono ?_; rintro e w2 ⟨rfl, hw⟩; have hw := hw.symm; subst hw)
    go_ret
    exact ⟨by rw [H.out]; rfl, Below.refl _ _⟩
  have e3 : (what == 3) = false := beq_eq_false_iff_ne.2 h3
  have H : Hid (hS P what ⟨l.toArray⟩ = decide (l = [])) := by
    show hS P what ⟨l.toArray⟩ = _
    unfold hS
    rw [if_neg h1, if_neg h2, if_neg h3]
    cases l <;> simp [ByteArray.size]
  generalize hS P what ⟨l.toArray⟩ = R at *
  clear h1 h2 h3 hP
  by_cases p1 : l = []
  · subst p1
    replace H : Hid (R = true) := H.out.trans rfl
    go_enter Tryz.func97, Tryz.ntmps97
    go_wp2_with fail
    go_ret
    exact ⟨by rw [H.out]; rfl, Below.refl _ _⟩
  · have q1 : (l == []) = false := beq_eq_false_iff_ne.2 p1
    replace H : Hid (R = false) := H.out.trans (decide_eq_false p1)
    go_enter Tryz.func97, Tryz.ntmps97
    go_wp2_with fail
    go_ret
    exact ⟨by rw [H.out]; simp, Below.refl _ _⟩

end Oc
end Go.Proofs.YtkhoccjfkkfipaaGreatDoor
namespace Go.Proofs.YtkhoccjfkkfipaaGreatDoor
open Go.RowKit
namespace Oc
open St (Vl RdV)

theorem eOk1 (args : Array Value) (w : World) : (callFunc 94 args).run Tryz.prog w = .ok (.enter 94 args) w := enters_of Tryz.func94 (by kernel_rfl) rfl args w

set_option maxHeartbeats 1000000 in
set_option maxRecDepth 100000 in
theorem iOk1 {P : ByteArray → Bool} (hP : ParseI P) {g cap B7 B8 : Nat} {vars lists places : Int} {a b : Addr} {w : World} (c n : Int) (l : List UInt8) (hl : l.length ≤ 1048576) (hS' : Sn w a b) (hF : RdF w g)
    (k7 : Blk 131 w B7 [.slice (some ⟨g, 0, none⟩) 36 cap]) (k8 : Blk 134 w B8 [.int .i64 vars, .int .i64 lists, .int .i64 places]) :
    Calls Tryz.prog 94 #[.agg #[.int .i64 c, .int .i64 n, .string ⟨l.toArray⟩], .pointer (some ⟨B7, 0, none⟩), .pointer (some ⟨B8, 0, none⟩)] w fun e w' => e = .returned (.bool (opB P vars lists places (c, n, ⟨l.toArray⟩))) ∧ Below w.heap.size w w' := by
  obtain ⟨o0, ho0⟩ : ∃ o0, o0 = Obj.cells #[.int .i64 c, .int .i64 n, .string ⟨l.toArray⟩] 92 := ⟨_, rfl⟩
  have b1 : Below w.heap.size w (w.alloc o0) := (Below.refl _ w).alloc (Nat.le_refl _) o0
  have kO : Blk 92 (w.alloc o0) w.heap.size [.int .i64 c, .int .i64 n, .string ⟨l.toArray⟩] := by rw [ho0]; exact Blk.new _ _ _
  have c7 := (k7.below b1).cell 0 rfl
  have cf := iFormOf (cap := cap) (hF.below b1) c
  have st : ∀ w2, Below (w.alloc o0).heap.size (w.alloc o0) w2 → Sn w2 a b ∧ Blk 134 w2 B8 [.int .i64 vars, .int .i64 lists, .int .i64 places] ∧ Blk 92 w2 w.heap.size [.int .i64 c, .int .i64 n, .string ⟨l.toArray⟩] ∧ Below w.heap.size w w2 := fun w2 h => ⟨(hS'.below b1).below h, (k8.below b1).below h, kO.below h, b1.trans (h.mono b1.size)⟩
  obtain ⟨R, hR⟩ : ∃ R, R = opB P vars lists places (c, n, ⟨l.toArray⟩) := ⟨_, rfl⟩
  rw [← hR]
  unfold opB at hR
  simp only [] at hR
  have ST : Hid (∀ w2, Below (w.alloc o0).heap.size (w.alloc o0) w2 → Sn w2 a b ∧ Blk 134 w2 B8 [.int .i64 vars, .int .i64 lists, .int .i64 places] ∧ Blk 92 w2 w.heap.size [.int .i64 c, .int .i64 n, .string ⟨l.toArray⟩] ∧ Below w.heap.size w w2) := st
  clear k7 k8 kO hF hS' st b1
  subst ho0
  cases hc : codeB c
  · rw [hc] at cf hR
    have H : Hid (R = false) := hR
    clear hR hP
    generalize formAt c = F at *
    go_enter Tryz.func94, Tryz.ntmps94
    go_wp2_with (go_at_call 95; refine cf.mono ?_; rintro e w2 ⟨rfl, hb2⟩)
    go_ret
    obtain ⟨-, -, -, B2⟩ := ST.out w2 hb2
    exact ⟨by rw [H.out]; rfl, B2.alloc B2.size _⟩
  · obtain ⟨kn1, ks1, -⟩ := form_kinds hc
    rw [hc] at cf hR
    simp only [Bool.true_and] at hR
    have CN := fun w2 (h : Sn w2 a b) => iHoldN vars lists places (kn c) n a b w2 h
    have CS := fun w2 (h : Sn w2 a b) => iRightS hP (ks c) l hl a b w2 h
    generalize hN vars lists places (kn c) n = D1 at *
    generalize hS P (ks c) ⟨l.toArray⟩ = D2 at *
    rw [kn1, ks1] at cf
    generalize (formAt c).1 = f0 at *
    generalize (⟨(formAt c).2.2.2.toArray⟩ : ByteArray) = f3 at *
    generalize kn c = f1 at *
    generalize ks c = f2 at *
    have HCN : Hid (∀ w2, Sn w2 a b → Calls Tryz.prog 96 #[.agg #[.int .i64 vars, .int .i64 lists, .int .i64 places], .int .i64 f1, .int .i64 n] w2 fun e w' => e = .returned (.bool D1) ∧ Below w2.heap.size w2 w') := CN
    have HCS : Hid (∀ w2, Sn w2 a b → Calls Tryz.prog 97 #[.int .i64 f2, .string ⟨l.toArray⟩] w2 fun e w' => e = .returned (.bool D2) ∧ Below w2.heap.size w2 w') := CS
    have HR : Hid (R = (D1 && D2)) := hR
    clear CN CS hR hP kn1 ks1 hc
    have NX : Hid (∀ w2 o, Below (w.alloc (.cells #[.int .i64 c, .int .i64 n, .string ⟨l.toArray⟩] 92)).heap.size (w.alloc (.cells #[.int .i64 c, .int .i64 n, .string ⟨l.toArray⟩] 92)) w2 → Sn (w2.alloc o) a b ∧ Blk 134 (w2.alloc o) B8 [.int .i64 vars, .int .i64 lists, .int .i64 places] ∧ Blk 92 (w2.alloc o) w.heap.size [.int .i64 c, .int .i64 n, .string ⟨l.toArray⟩] ∧ Below w.heap.size w (w2.alloc o)) := fun w2 o h => by
      obtain ⟨s1, s2, s3, s4⟩ := ST.out w2 h
      exact ⟨s1.below ((Below.refl _ w2).alloc (Nat.le_refl _) o), s2.alloc o, s3.alloc o, s4.alloc s4.size o⟩
    clear ST
    cases D1
    · replace HR : Hid (R = false) := HR.out
      clear HCS
      go_enter Tryz.func94, Tryz.ntmps94
      go_wp2_with (first
        | (go_at_call 95; refine cf.mono ?_; rintro e w2 ⟨rfl, hb2⟩; have nx := fun o => NX.out w2 o hb2; have y0 := fun o => (nx o).2.1.cell 0 rfl; have y1 := fun o => (nx o).2.1.cell 1 rfl; have y2 := fun o => (nx o).2.1.cell 2 rfl; have z1 := fun o => (nx o).2.2.1.cell 1 rfl; have z2 := fun o => (nx o).2.2.1.cell 2 rfl)
        | (go_at_call 96; refine (HCN.out _ (nx _).1).mono ?_; rintro e w3 ⟨rfl, hb3⟩))
      go_ret
      exact ⟨by rw [HR.out]; rfl, (nx _).2.2.2.trans (hb3.mono (nx _).2.2.2.size)⟩
    · replace HR : Hid (R = D2) := HR.out
      have NY : Hid (∀ w2 w3, Blk 137 w2 (w2.heap.size - 1) [.int .i64 f0, .int .i64 f1, .int .i64 f2, .string f3] → Below w2.heap.size w2 w3 → w3.cell? ⟨w2.heap.size - 1, 2, none⟩ = some (.int .i64 f2)) := fun w2 w3 h h3 => (h.below h3).cell 2 rfl
      go_enter Tryz.func94, Tryz.ntmps94
      go_wp2_with (first
        | (go_at_call 95; refine cf.mono ?_; rintro e w2 ⟨rfl, hb2⟩; have nx := fun o => NX.out w2 o hb2; have y0 := fun o => (nx o).2.1.cell 0 rfl; have y1 := fun o => (nx o).2.1.cell 1 rfl; have y2 := fun o => (nx o).2.1.cell 2 rfl; have z1 := fun o => (nx o).2.2.1.cell 1 rfl; have z2 := fun o => (nx o).2.2.1.cell 2 rfl)
        | (go_at_call 96; refine (HCN.out _ (nx _).1).mono ?_; rintro e w3 ⟨rfl, hb3⟩; have v2 := ((Blk.new 137 w2 [.int .i64 f0, .int .i64 f1, .int .i64 f2, .string f3]).below hb3).cell 2 rfl; have v3 := ((nx _).2.2.1.below hb3).cell 2 rfl; have sn3 := (nx _).1.below hb3)
        | (go_at_call 97; refine (HCS.out _ sn3).mono ?_; rintro e w4 ⟨rfl, hb4⟩))
      go_ret
      have B3 := (nx _).2.2.2.trans (hb3.mono (nx _).2.2.2.size)
      exact ⟨by rw [HR.out]; rfl, B3.trans (hb4.mono B3.size)⟩

set_option maxRecDepth 100000 in
theorem iAllOps {p : Vl → Bool} {vs : List Vl} {c7 c8 : Value} {ao : Option Addr} {cap : Nat} {w : World} (hA : RdV w ao vs) (hn : vs.length ≤ 1500)
    (hf : ∀ o ∈ vs, ∀ w', Below w.heap.size w w' → Calls Tryz.prog 94 #[.agg #[.int .i64 o.1, .int .i64 o.2.1, .string o.2.2], c7, c8] w' fun e w'' => e = .returned (.bool (p o)) ∧ Below w'.heap.size w' w'') :
    Calls Tryz.prog 93 #[.slice ao vs.length cap, .func (.func 94) #[] #[c7, c8]] w fun e w' => e = .returned (.bool (vs.all p)) ∧ Below w.heap.size w w' := by
  have bn : (vs.length : Int) ≤ 1500 := by omega
  have eg := eOk1
  clear hn
  go_enter Tryz.func93, Tryz.ntmps93
  go_wp2_with fail
  go_loopw [9] (fun i wr => ∃ k : Nat, k ≤ vs.length ∧ i = .int .i64 k ∧ Hid ((vs.take k).all p = true) ∧ Below w.heap.size w wr) (fun i _ => vs.length - (intOf i).toNat)
  case atStart => exact ⟨0, Nat.zero_le _, rfl, (show (vs.take 0).all p = true by simp), Below.refl _ _⟩
  case round =>
    obtain ⟨k, hkn, rfl, hall, hb⟩ := hrel
    by_cases hkl : k < vs.length
    · have hvk : vs[k]? = some vs[k] := List.getElem?_eq_getElem hkl
      obtain ⟨b, o, rfl, hbl, hss, q0, q1, q2⟩ := hA.below hb k vs[k] hvk
      have call := fun oo => hf vs[k] (List.getElem_mem hkl) (wr.alloc oo) (hb.alloc hb.size oo)
      have bk : (k : Int) < vs.length := by omega
      have HT : Hid ((vs.take (k + 1)).all p = p vs[k]) := by
        show _ = _
        rw [List.take_add_one, hvk, List.all_append, hall.out]
        simp
      have HN : Hid (p vs[k] = false → vs.all p = false) := fun h => by
        cases hb : vs.all p
        · rfl
        · rw [List.all_eq_true.1 hb _ (List.getElem_mem hkl)] at h; cases h
      have hbo : Hid (∀ oo, Below w.heap.size w (wr.alloc oo)) := fun oo => hb.alloc hb.size _
      clear hf hA hvk hall
      generalize p vs[k] = B at *
      generalize vs[k] = v at *
      cases B
      · replace HN : Hid (vs.all p = false) := HN.out rfl
        go_wp2_with (go_at_call 94; refine (call _).mono ?_; rintro e w2 ⟨rfl, hb2⟩)
        go_ret
        exact ⟨by rw [HN.out]; rfl, (hbo.out _).trans (hb2.mono (hbo.out _).size)⟩
      · go_wp2_with (go_at_call 94; refine (call _).mono ?_; rintro e w2 ⟨rfl, hb2⟩)
        go_roundw
        case rel => exact ⟨k + 1, hkl, by go_num, HT.out, (hbo.out _).trans (hb2.mono (hbo.out _).size)⟩
        case measure => simp [intOf]; omega
    · obtain rfl : k = vs.length := by omega
      have H : Hid (vs.all p = true) := by have := hall.out; rwa [List.take_length] at this
      clear hall hf hA
      go_wp2_with fail
      go_ret
      exact ⟨by rw [H.out]; rfl, hb⟩

theorem last_of {l : List Vl} {m : Nat} (h : l.length = m + 1) {o : Vl} (ho : l[m]? = some o) : lastB l = decide (o.1 = 36) := by
  unfold lastB
  rw [List.getLast?_eq_getElem?, h, Nat.add_sub_cancel, ho]

set_option maxHeartbeats 1000000 in
set_option maxRecDepth 100000 in
theorem iOpsOk {P : ByteArray → Bool} (hP : ParseI P) {ao : Option Addr} {cap : Nat} {l : List Vl} {vars lists : Int} {a b : Addr} {w : World} (hA : RdV w ao l) (hn : l.length ≤ 1048576) (hs : ∀ o ∈ l, o.2.2.size ≤ 1048576) (hS' : Sn w a b) :
    Calls Tryz.prog 77 #[.slice ao l.length cap, .int .i64 vars, .int .i64 lists] w fun e w' => e = .returned (.bool (opsB P l vars lists)) ∧ Below w.heap.size w w' := by
  obtain ⟨R, hR⟩ : ∃ R, R = opsB P l vars lists := ⟨_, rfl⟩
  rw [← hR]
  unfold opsB at hR
  have bn : (l.length : Int) ≤ 1048576 := by omega
  by_cases h0 : l.length = 0
  · have H : Hid (R = false) := by
      show R = false
      rw [hR, decide_eq_false (by omega)]
      rfl
    have e0 : (l.length : Int) = 0 := by omega
    clear hR hP hA hs hS'
    go_enter Tryz.func77, Tryz.ntmps77
    go_wp2_with fail
    go_ret
    exact ⟨by rw [H.out]; rfl, Below.refl _ _⟩
  by_cases h1 : 1500 < l.length
  · have H : Hid (R = false) := by
      show R = false
      rw [hR, decide_eq_false (by omega)]
      rfl
    have e0 : ((l.length : Int) == 0) = false := beq_eq_false_iff_ne.2 (by omega)
    have e1 : (1500 : Int) < l.length := by omega
    clear hR hP hA hs hS' h0
    go_enter Tryz.func77, Tryz.ntmps77
    go_wp2_with fail
    go_ret
    exact ⟨by rw [H.out]; rfl, Below.refl _ _⟩
  obtain ⟨m, hm⟩ : ∃ m, l.length = m + 1 := ⟨l.length - 1, by omega⟩
  have hml : m < l.length := by omega
  have hom : l[m]? = some l[m] := List.getElem?_eq_getElem hml
  have hl := last_of hm hom
  have hd1 : decide (1 ≤ l.length ∧ l.length ≤ 1500) = true := decide_eq_true (by omega)
  rw [hd1, hl, Bool.true_and] at hR
  obtain ⟨b0, o0, e', hbl, -, q0, -, -⟩ := hA m l[m] hom
  have e0 : ((l.length : Int) == 0) = false := beq_eq_false_iff_ne.2 (by omega)
  have e1 : decide ((1500 : Int) < l.length) = false := decide_eq_false (by omega)
  have e2 : (l.length : Int) - 1 = (m : Int) := by omega
  have e3 : ¬ (1500 : Int) < l.length := by omega
  have bm : (m : Int) < l.length := by omega
  have bm2 : (m : Int) ≤ 1500 := by omega
  have wm : IntKind.i64.wrap (m : Int) = m := by simp [IntKind.wrap, IntKind.bits, IntKind.signed]; omega
  by_cases h2 : l[m].1 = 36
  · have H : Hid (R = l.all (opB P vars lists l.length)) := by show R = _; rw [hR, decide_eq_true h2, Bool.true_and]
    rw [h2] at q0
    have hn2 : l.length ≤ 1500 := by omega
    have CALL : Hid (∀ (w1 : World) (g c1 : Nat) (B7 B8 : Nat), Below w.heap.size w w1 → RdF w1 g → Blk 131 w1 B7 [.slice (some ⟨g, 0, none⟩) 36 c1] → Blk 134 w1 B8 [.int .i64 vars, .int .i64 lists, .int .i64 l.length] → Calls Tryz.prog 93 #[.slice ao l.length cap, .func (.func 94) #[] #[.pointer (some ⟨B7, 0, none⟩), .pointer (some ⟨B8, 0, none⟩)]] w1 fun e w' => e = .returned (.bool (l.all (opB P vars lists l.length))) ∧ Below w1.heap.size w1 w') := fun w1 g c1 B7 B8 hb hF k7 k8 =>
      iAllOps (hA.below hb) hn2 fun o ho w' hw => by
        obtain ⟨o1, o2, ⟨⟨o3⟩⟩⟩ := o
        exact iOk1 hP o1 o2 o3 (by simpa [ByteArray.size] using hs _ ho) ((hS'.below hb).below hw) (hF.below hw) (k7.below hw) (k8.below hw)
    have cs := iSorted w
    have hmf : ∀ (fn : Fn) (first cap : Array Value) (w : World), (Instr.makeFunc fn first cap).run Tryz.prog w = .ok (.func fn first cap) w := fun _ _ _ _ => rfl
    generalize l.all (opB P vars lists l.length) = D at *
    subst e'
    clear hR hP hA hs hS' h0 h1 hm hml hom hl hd1 h2 hn2 hn
    generalize l.length = N at *
    go_enter Tryz.func77, Tryz.ntmps77
    go_wp2_with (first
      | (go_at_call 92; refine cs.mono ?_; rintro e w1 ⟨g, c1, rfl, hF, hb1⟩)
      | (go_at_call 93; refine hold ?_))
    have b2 : ∀ o o', Below w1.heap.size w1 ((w1.alloc o).alloc o') := fun o o' => ((Below.refl _ w1).alloc (Nat.le_refl _) o).alloc (by simp) o'
    have b3 : ∀ o o', Below w.heap.size w ((w1.alloc o).alloc o') := fun o o' => hb1.trans ((b2 o o').mono hb1.size)
    have k8 := Blk.new 134 (w1.alloc (.cells #[.slice (some ⟨g, 0, none⟩) 36 c1] 131)) [.int .i64 vars, .int .i64 lists, .int .i64 N]
    rw [World.size_alloc] at k8
    refine Calls.mono (CALL.out _ g c1 w1.heap.size (w1.heap.size + 1) (b3 _ _) (hF.below (b2 _ _)) ((Blk.new 131 w1 [.slice (some ⟨g, 0, none⟩) 36 c1]).alloc _) k8) ?_
    rintro e w2 ⟨rfl, hb2⟩
    have HB : Hid (Below w.heap.size w w2) := (b3 _ _).trans (hb2.mono (b3 _ _).size)
    clear b2 b3 k8 hb2 CALL cs
    go_wp2_with fail
    go_ret
    exact ⟨by rw [H.out]; rfl, HB.out⟩
  · have H : Hid (R = false) := by show R = _; rw [hR, decide_eq_false h2]; rfl
    have h2' : (l[m].1 == 36) = false := beq_eq_false_iff_ne.2 h2
    have h2'' : (l[m].1 != 36) = true := by simp [bne, h2']
    generalize l[m].1 = c at *
    subst e'
    clear hR hP hA hs hS' h0 h1 hm hml hom hl hd1 hn
    generalize l.length = N at *
    go_enter Tryz.func77, Tryz.ntmps77
    go_wp2_with fail
    go_ret
    exact ⟨by rw [H.out]; rfl, Below.refl _ _⟩

end Oc
end Go.Proofs.YtkhoccjfkkfipaaGreatDoor
