/-
  Walks over chapter 1's functions: the small ones by contracts; the laws of DecOk, DecAdd and DecSub return true at all arguments; memory is as it was.
  DecOk of the program and of the specification, at every argument, in any world that has grown.
  The program's OpsOk at every list of places.
-/
import Derived.Test.YtaakeecliehjgaaGreatDoorP14
import Derived.Deep.QuietTactic
import Derived.BigQuiet
import Derived.Test.YtaakeecliehjgaaGreatDoorP08
import Derived.Below
namespace Go.Proofs.YtaakeecliehjgaaGreatDoor
open Go.RowKit Go.Extern.Stop Go.Stop Go.Extern

theorem checked_ok (d : Int) (w : World) (h1 : -9000000000000 ≤ d) (h2 : d ≤ 9000000000000) :
    Calls Tryz.prog 91 #[.int .i64 d] w fun e w' => e = .returned (.tuple #[.int .i64 d, .nilIface]) ∧ w' = w := by
  go_enter Tryz.func91, Tryz.ntmps91
  go_wp2
  go_ret2
  exact ⟨rfl, rfl⟩

theorem checked_bad (d : Int) (a : Addr) (w : World) (hc : w.cell? ⟨1, 0, none⟩ = some (.iface 254 (.pointer (some a)))) (h : d < -9000000000000 ∨ 9000000000000 < d) :
    Calls Tryz.prog 91 #[.int .i64 d] w fun e w' => e = .returned (.tuple #[.int .i64 0, .iface 254 (.pointer (some a))]) ∧ ∃ n, w' = w.drewN n := by
  rcases h with h | h
  · go_enter Tryz.func91, Tryz.ntmps91
    go_wp2
    go_quiet (fail)
    go_wp2
    go_ret2
    exact ⟨rfl, _, rfl⟩
  · have h' : -9000000000000 ≤ d := by omega
    go_enter Tryz.func91, Tryz.ntmps91
    go_wp2
    go_quiet (fail)
    go_wp2
    go_ret2
    exact ⟨rfl, _, rfl⟩

/-- What checked answers, as two functions that the walk does not open. -/
def ckV (d : Int) : Int := if -9000000000000 ≤ d ∧ d ≤ 9000000000000 then d else 0
def ckE (a : Addr) (d : Int) : Value := if -9000000000000 ≤ d ∧ d ≤ 9000000000000 then .nilIface else .iface 254 (.pointer (some a))
theorem ckV_ok {d : Int} (h1 : -9000000000000 ≤ d) (h2 : d ≤ 9000000000000) : ckV d = d := by unfold ckV; rw [if_pos ⟨h1, h2⟩]
theorem ckE_ok (a : Addr) {d : Int} (h1 : -9000000000000 ≤ d) (h2 : d ≤ 9000000000000) : ckE a d = .nilIface := by unfold ckE; rw [if_pos ⟨h1, h2⟩]
theorem ckV_bad {d : Int} (h : d < -9000000000000 ∨ 9000000000000 < d) : ckV d = 0 := by unfold ckV; rw [if_neg (by omega)]
theorem ckE_bad (a : Addr) {d : Int} (h : d < -9000000000000 ∨ 9000000000000 < d) : ckE a d = .iface 254 (.pointer (some a)) := by unfold ckE; rw [if_neg (by omega)]

theorem checked_any (d : Int) (a : Addr) (w : World) (hc : w.cell? ⟨1, 0, none⟩ = some (.iface 254 (.pointer (some a)))) :
    Calls Tryz.prog 91 #[.int .i64 d] w fun e w' => e = .returned (.tuple #[.int .i64 (ckV d), ckE a d]) ∧ ∃ n, w' = w.drewN n := by
  by_cases h : d < -9000000000000 ∨ 9000000000000 < d
  · rw [ckV_bad h, ckE_bad a h]; exact checked_bad d a w hc h
  · rw [ckV_ok (by omega) (by omega), ckE_ok a (by omega) (by omega)]
    exact (checked_ok d w (by omega) (by omega)).mono fun e w' ⟨h1, h2⟩ => ⟨h1, 0, h2⟩



end Go.Proofs.YtaakeecliehjgaaGreatDoor
namespace Go.Proofs.YtaakeecliehjgaaGreatDoor
open Go.RowKit Go.Extern.Stop Go.Stop Go.Extern

theorem below_drewN {B : Nat} {W w : World} (h : Below B W w) (n : Nat) : Below B W (w.drewN n) := ⟨h.os, h.tape, h.output, h.size, h.block⟩
theorem sDecOk (d : Int) (w : World) : Calls Tryz.prog 56 #[.int .i64 d] w fun r w' => r = .returned (.bool (Dec.okB d)) ∧ w' = w := by
  by_cases h1 : -9000000000000 ≤ d
  · by_cases h2 : d ≤ 9000000000000
    · rw [Dec.okB_true h1 h2]
      go_enter Tryz.func56, Tryz.ntmps56
      go_wp2
      go_ret
      exact ⟨rfl, rfl⟩
    · rw [Dec.okB_false (by omega)]
      have h3 : decide (d ≤ 9000000000000) = false := by simp; omega
      clear h2
      go_enter Tryz.func56, Tryz.ntmps56
      go_wp2
      go_ret
      exact ⟨rfl, rfl⟩
  · rw [Dec.okB_false (by omega)]
    have h3 : d < -9000000000000 := by omega
    clear h1
    go_enter Tryz.func56, Tryz.ntmps56
    go_wp2
    go_ret
    exact ⟨rfl, rfl⟩

theorem iDecOk (x : Int) (a : Addr) (w : World) (hc : w.cell? ⟨1, 0, none⟩ = some (.iface 254 (.pointer (some a)))) :
    Calls Tryz.prog 70 #[.int .i64 x] w fun e w' => e = .returned (.bool (Dec.okB x)) ∧ ∃ n, w' = w.drewN n := by
  cases h : Dec.okB x with
  | true =>
    obtain ⟨h1, h2⟩ := Dec.of_okB h
    clear h
    go_enter Tryz.func70, Tryz.ntmps70
    go_wp2_with (first | (go_at_call 90; refine (told_ok _ a _ ?_).mono ?_; exact hc; rintro e w' ⟨rfl, rfl⟩) | go_in)
    go_ret
    exact ⟨rfl, 0, rfl⟩
  | false =>
    have hE := ckE_bad a (Dec.of_okB_false h)
    clear h
    go_enter Tryz.func70, Tryz.ntmps70
    go_wp2_with (first | (go_at_call 91; refine (checked_any _ a _ ?_).mono ?_; exact hc; rintro e w' ⟨rfl, n, rfl⟩) | (go_at_call 90; refine (told_bad _ a _ ?_).mono ?_; exact hc; rintro e w' ⟨rfl, rfl⟩) | go_in)
    go_ret
    exact ⟨rfl, _, rfl⟩

/-! The same contracts in any world that has grown out of W. -/
theorem sent_later {W w : World} {a : Addr} (hc : W.cell? ⟨1, 0, none⟩ = some (.iface 254 (.pointer (some a)))) (hb : Below W.heap.size W w) : w.cell? ⟨1, 0, none⟩ = some (.iface 254 (.pointer (some a))) := by
  have h0 : 1 < W.heap.size := by
    rcases Nat.lt_or_ge 1 W.heap.size with h | h
    · exact h
    · simp [World.cell?, Array.getElem?_eq_none h] at hc
  rw [hb.cell (p := ⟨1, 0, none⟩) h0]; exact hc
theorem lDecOk (x : Int) (a : Addr) (W w : World) (hc : W.cell? ⟨1, 0, none⟩ = some (.iface 254 (.pointer (some a)))) (hb : Below W.heap.size W w) :
    Calls Tryz.prog 70 #[.int .i64 x] w fun r w' => r = .returned (.bool (Dec.okB x)) ∧ Below W.heap.size W w' := by
  refine (iDecOk x a w (sent_later hc hb)).mono ?_
  rintro r w' ⟨rfl, n, rfl⟩
  exact ⟨rfl, below_drewN hb n⟩
end Go.Proofs.YtaakeecliehjgaaGreatDoor
namespace Go.Proofs.YtaakeecliehjgaaGreatDoor
open Go.RowKit
namespace Oc
open St (Vl RdV)

/-- The two errors that the program holds against others. -/
def Sn (w : World) (a b : Addr) : Prop := w.cell? ⟨1, 0, none⟩ = some (.iface 254 (.pointer (some a))) ∧ w.cell? ⟨0, 0, none⟩ = some (.iface 254 (.pointer (some b)))
theorem Sn.below {w w' : World} {a b : Addr} (h : Sn w a b) (hb : Below w.heap.size w w') : Sn w' a b := ⟨(hb.cell (World.block_lt_of_cell? w _ h.1)).trans h.1, (hb.cell (World.block_lt_of_cell? w _ h.2)).trans h.2⟩

/-- A parser tells whether a text is a pattern, and a tree. -/
def Told (f : Nat) (q : Bool) (s : ByteArray) (w : World) : Prop := Calls Tryz.prog f #[.string s] w fun e w' => (∃ (rop rc : Int) (rs : ByteArray) (rno : Bool) (rao : Option Addr) (rn rcap : Nat), e = .returned (.tuple #[.agg #[.int .i64 rop, .int .i64 rc, .string rs, .bool rno, .slice rao rn rcap], .bool q])) ∧ Below w.heap.size w w'
def ParseI (P : ByteArray → Bool) : Prop := ∀ (s : ByteArray) (w : World) (a b : Addr), Sn w a b → s.size ≤ 1048576 → Told 88 (P s) s w

theorem below_drewN {B : Nat} {W w : World} (h : Below B W w) (k : Nat) : Below B W (w.drewN k) := ⟨h.os, h.tape, h.output, h.size, h.block⟩

theorem iAmong (n c : Int) (w : World) : Calls Tryz.prog 87 #[.int .i64 n, .int .i64 c] w fun e w' => e = .returned (.bool (decide (0 ≤ n ∧ n < c))) ∧ w' = w := by
  obtain ⟨R, hR⟩ : ∃ R, R = decide (0 ≤ n ∧ n < c) := ⟨_, rfl⟩
  rw [← hR]
  by_cases h0 : 0 ≤ n
  · by_cases h1 : n < c
    · have H : Hid (R = true) := hR.trans (decide_eq_true ⟨h0, h1⟩)
      clear hR
      go_enter Tryz.func87, Tryz.ntmps87
      go_wp2_with fail
      go_ret
      exact ⟨by rw [H.out]; simp, rfl⟩
    · have H : Hid (R = false) := hR.trans (decide_eq_false fun h => h1 h.2)
      have e1 : decide (n < c) = false := decide_eq_false h1
      clear hR
      go_enter Tryz.func87, Tryz.ntmps87
      go_wp2_with fail
      go_ret
      exact ⟨by rw [H.out]; simp, rfl⟩
  · have H : Hid (R = false) := hR.trans (decide_eq_false fun h => h0 h.1)
    have e1 : decide (0 ≤ n) = false := decide_eq_false h0
    clear hR
    go_enter Tryz.func87, Tryz.ntmps87
    go_wp2_with fail
    go_ret
    exact ⟨by rw [H.out]; simp, rfl⟩

set_option maxHeartbeats 1000000 in
theorem iHoldN (vars lists places what n : Int) (a b : Addr) (w : World) (hS : Sn w a b) :
    Calls Tryz.prog 68 #[.agg #[.int .i64 vars, .int .i64 lists, .int .i64 places], .int .i64 what, .int .i64 n] w fun e w' => e = .returned (.bool (hN vars lists places what n)) ∧ Below w.heap.size w w' := by
  have hb : ∀ o, Below w.heap.size w (w.alloc o) := fun o => (Below.refl _ w).alloc (Nat.le_refl _) o
  have cd := fun o => iDecOk n a (w.alloc o) (hS.below (hb o)).1
  have ca := fun c w => iAmong n c w
  have drw : ∀ (o : Obj) (k : Nat), Below w.heap.size w ((w.alloc o).drewN k) := fun o k => below_drewN (hb o) k
  by_cases h1 : what = 1
  · subst h1
    have H : Hid (hN vars lists places 1 n = Dec.okB n) := rfl
    generalize Dec.okB n = D at *
    generalize hN vars lists places 1 n = R at *
    go_enter Tryz.func68, Tryz.ntmps68
    go_wp2_with (go_at_call 70; refine (cd _).mono ?_; rintro e w2 ⟨rfl, k, rfl⟩)
    go_ret
    exact ⟨by rw [H.out]; rfl, drw _ _⟩
  have e1 : (what == 1) = false := beq_eq_false_iff_ne.2 h1
  by_cases h2 : what = 2
  · subst h2
    have H : Hid (hN vars lists places 2 n = decide (0 ≤ n ∧ n < vars)) := rfl
    have ca := ca vars
    generalize decide (0 ≤ n ∧ n < vars) = D at *
    generalize hN vars lists places 2 n = R at *
    go_enter Tryz.func68, Tryz.ntmps68
    go_wp2_with (go_at_call 87; refine (ca _).mono ?_; rintro e w2 ⟨rfl, hw⟩; have hw := hw.symm; subst hw)
    go_ret
    exact ⟨by rw [H.out]; rfl, hb _⟩
  have e2 : (what == 2) = false := beq_eq_false_iff_ne.2 h2
  by_cases h3 : what = 3
  · subst h3
    have H : Hid (hN vars lists places 3 n = decide (0 ≤ n ∧ n < lists)) := rfl
    have ca := ca lists
    generalize decide (0 ≤ n ∧ n < lists) = D at *
    generalize hN vars lists places 3 n = R at *
    go_enter Tryz.func68, Tryz.ntmps68
    go_wp2_with (go_at_call 87; refine (ca _).mono ?_; rintro e w2 ⟨rfl, hw⟩; have hw := hw.symm; subst hw)
    go_ret
    exact ⟨by rw [H.out]; rfl, hb _⟩
  have e3 : (what == 3) = false := beq_eq_false_iff_ne.2 h3
  by_cases h4 : what = 4
  · subst h4
    have H : Hid (hN vars lists places 4 n = decide (0 ≤ n ∧ n < places)) := rfl
    have ca := ca places
    generalize decide (0 ≤ n ∧ n < places) = D at *
    generalize hN vars lists places 4 n = R at *
    go_enter Tryz.func68, Tryz.ntmps68
    go_wp2_with (go_at_call 87; refine (ca _).mono ?_; rintro e w2 ⟨rfl, hw⟩; have hw := hw.symm; subst hw)
    go_ret
    exact ⟨by rw [H.out]; rfl, hb _⟩
  have e4 : (what == 4) = false := beq_eq_false_iff_ne.2 h4
  clear cd ca drw
  by_cases h5 : what = 5
  · subst h5
    have H : Hid (hN vars lists places 5 n = decide (1 ≤ n ∧ n ≤ 3)) := rfl
    generalize hN vars lists places 5 n = R at *
    by_cases p1 : 1 ≤ n
    · by_cases p2 : n ≤ 3
      · replace H : Hid (R = true) := H.out.trans (decide_eq_true ⟨p1, p2⟩)
        go_enter Tryz.func68, Tryz.ntmps68
        go_wp2_with fail
        go_ret
        exact ⟨by rw [H.out]; simp, hb _⟩
      · replace H : Hid (R = false) := H.out.trans (decide_eq_false fun h => p2 h.2)
        have q2 : decide (n ≤ 3) = false := decide_eq_false p2
        go_enter Tryz.func68, Tryz.ntmps68
        go_wp2_with fail
        go_ret
        exact ⟨by rw [H.out]; simp, hb _⟩
    · replace H : Hid (R = false) := H.out.trans (decide_eq_false fun h => p1 h.1)
      have q1 : decide (1 ≤ n) = false := decide_eq_false p1
      go_enter Tryz.func68, Tryz.ntmps68
      go_wp2_with fail
      go_ret
      exact ⟨by rw [H.out]; simp, hb _⟩
  have e5 : (what == 5) = false := beq_eq_false_iff_ne.2 h5
  by_cases h6 : what = 6
  · subst h6
    have H : Hid (hN vars lists places 6 n = decide (n = 0 ∨ n = 1)) := rfl
    generalize hN vars lists places 6 n = R at *
    by_cases p1 : n = 0
    · subst p1
      replace H : Hid (R = true) := H.out.trans (decide_eq_true (.inl rfl))
      go_enter Tryz.func68, Tryz.ntmps68
      go_wp2_with fail
      go_ret
      exact ⟨by rw [H.out]; rfl, hb _⟩
    · have q1 : (n == 0) = false := beq_eq_false_iff_ne.2 p1
      by_cases p2 : n = 1
      · subst p2
        replace H : Hid (R = true) := H.out.trans (decide_eq_true (.inr rfl))
        go_enter Tryz.func68, Tryz.ntmps68
        go_wp2_with fail
        go_ret
        exact ⟨by rw [H.out]; rfl, hb _⟩
      · have q2 : (n == 1) = false := beq_eq_false_iff_ne.2 p2
        replace H : Hid (R = false) := H.out.trans (decide_eq_false fun h => h.elim p1 p2)
        go_enter Tryz.func68, Tryz.ntmps68
        go_wp2_with fail
        go_ret
        exact ⟨by rw [H.out]; simp, hb _⟩
  have e6 : (what == 6) = false := beq_eq_false_iff_ne.2 h6
  have H : Hid (hN vars lists places what n = decide (n = 0)) := by
    show hN vars lists places what n = _
    unfold hN
    rw [if_neg h1, if_neg h2, if_neg h3, if_neg h4, if_neg h5, if_neg h6]
  generalize hN vars lists places what n = R at *
  clear h1 h2 h3 h4 h5 h6
  by_cases p1 : n = 0
  · subst p1
    replace H : Hid (R = true) := H.out.trans rfl
    go_enter Tryz.func68, Tryz.ntmps68
    go_wp2_with fail
    go_ret
    exact ⟨by rw [H.out]; rfl, hb _⟩
  · have q1 : (n == 0) = false := beq_eq_false_iff_ne.2 p1
    replace H : Hid (R = false) := H.out.trans (decide_eq_false p1)
    go_enter Tryz.func68, Tryz.ntmps68
    go_wp2_with fail
    go_ret
    exact ⟨by rw [H.out]; simp, hb _⟩

theorem iRightS {P : ByteArray → Bool} (hP : ParseI P) (what : Int) (l : List UInt8) (hl : l.length ≤ 1048576) (a b : Addr) (w : World) (hS' : Sn w a b) :
    Calls Tryz.prog 69 #[.int .i64 what, .string ⟨l.toArray⟩] w fun e w' => e = .returned (.bool (hS P what ⟨l.toArray⟩)) ∧ Below w.heap.size w w' := by
  by_cases h1 : what = 1
  · subst h1
    have H : Hid (hS P 1 ⟨l.toArray⟩ = true) := rfl
    generalize hS P 1 ⟨l.toArray⟩ = R at *
    go_enter Tryz.func69, Tryz.ntmps69
    go_wp2_with fail
    go_ret
    exact ⟨by rw [H.out]; rfl, Below.refl _ _⟩
  have e1 : (what == 1) = false := beq_eq_false_iff_ne.2 h1
  by_cases h2 : what = 2
  · subst h2
    have H : Hid (hS P 2 ⟨l.toArray⟩ = P ⟨l.toArray⟩) := rfl
    have call := hP ⟨l.toArray⟩ w a b hS' (by simpa [ByteArray.size] using hl)
    unfold Told at call
    generalize P ⟨l.toArray⟩ = D at *
    generalize hS P 2 ⟨l.toArray⟩ = R at *
    clear hP
    go_enter Tryz.func69, Tryz.ntmps69
    go_wp2_with (go_at_call 88; refine call.mono ?_; rintro e w2 ⟨⟨rop, rc, rst, rno, rao, rn, rcap, rfl⟩, hb2⟩)
    go_ret
    exact ⟨by rw [H.out]; rfl, hb2.alloc hb2.size _⟩
  have e2 : (what == 2) = false := beq_eq_false_iff_ne.2 h2
  by_cases h3 : what = 3
  · subst h3
    have H : Hid (hS P 3 ⟨l.toArray⟩ = Ty.callB l) := rfl
    have call := iHasCall l w
    generalize Ty.callB l = D at *
    generalize hS P 3 ⟨l.toArray⟩ = R at *
    clear hP
    go_enter Tryz.func69, Tryz.ntmps69
    go_wp2_with (go_at_call 89; refine call.mono ?_; rintro e w2 ⟨rfl, hw⟩; have hw := hw.symm; subst hw)
    go_ret
    exact ⟨by rw [H.out]; rfl, Below.refl _ _⟩
  have e3 : (what == 3) = false := beq_eq_false_iff_ne.2 h3
  have H : Hid (hS P what ⟨l.toArray⟩ = decide (l = [])) := by
    show hS P what ⟨l.toArray⟩ = _
    unfold hS
    rw [if_neg h1, if_neg h2, if_neg h3]
    cases l <;> simp [ByteArray.size]
  generalize hS P what ⟨l.toArray⟩ = R at *
  clear h1 h2 h3 hP
  by_cases p1 : l = []
  · subst p1
    replace H : Hid (R = true) := H.out.trans rfl
    go_enter Tryz.func69, Tryz.ntmps69
    go_wp2_with fail
    go_ret
    exact ⟨by rw [H.out]; rfl, Below.refl _ _⟩
  · have q1 : (l == []) = false := beq_eq_false_iff_ne.2 p1
    replace H : Hid (R = false) := H.out.trans (decide_eq_false p1)
    go_enter Tryz.func69, Tryz.ntmps69
    go_wp2_with fail
    go_ret
    exact ⟨by rw [H.out]; simp, Below.refl _ _⟩

end Oc
end Go.Proofs.YtaakeecliehjgaaGreatDoor
