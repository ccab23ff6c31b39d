/-
  The specification's OpsOk at every place.
  The specification's OpsOk at every list of places.
-/
import Derived.Test.YtaakeecliehjgaaGreatDoorP26
import Derived.Test.YtaakeecliehjgaaGreatDoorP16
namespace Go.Proofs.YtaakeecliehjgaaGreatDoor
open Go.RowKit
namespace Oc
open St (Vl RdV)

set_option maxHeartbeats 4000000 in
set_option maxRecDepth 100000 in
theorem sOp {P : ByteArray → Bool} (hP : ParseS P) (c n vars cells : Int) (l : List UInt8) (_hl : l.length ≤ 1048576) {M : Nat} (hM : M ≤ 1500) (w : World) :
    Calls Tryz.prog 55 #[.agg #[.int .i64 c, .int .i64 n, .string ⟨l.toArray⟩], .int .i64 ((M + 1 : Nat) : Int), .int .i64 vars, .int .i64 cells] w fun e w' => e = .returned (.bool (opB P vars cells ((M + 1 : Nat) : Int) (c, n, ⟨l.toArray⟩))) ∧ Below w.heap.size w w' := by
  have hb0 : ∀ o, Below w.heap.size w (w.alloc o) := fun o => (Below.refl _ w).alloc (Nat.le_refl _) o
  have kO : Hid (Blk 80 (w.alloc (.cells #[.int .i64 c, .int .i64 n, .string ⟨l.toArray⟩] 80)) w.heap.size [.int .i64 c, .int .i64 n, .string ⟨l.toArray⟩]) := Blk.new _ _ _
  obtain ⟨R, hR⟩ : ∃ R, R = opB P vars cells ((M + 1 : Nat) : Int) (c, n, ⟨l.toArray⟩) := ⟨_, rfl⟩
  rw [← hR]
  obtain ⟨N, hN⟩ : ∃ N : Nat, N = M + 1 := ⟨_, rfl⟩
  have bN : (N : Int) ≤ 1501 := by omega
  have eN : (N : Int) - 1 = (M : Int) := by omega
  have wN : IntKind.i64.wrap (M : Int) = M := by simp [IntKind.wrap, IntKind.bits, IntKind.signed]; omega
  rw [← hN]
  have HN : Hid (N = M + 1) := hN
  clear hN
  by_cases h1 : c = 1
  · subst h1
    have H : Hid (R = (Dec.okB n && decide (l = []))) := by show R = _; rw [hR, ← empty_is]; rfl
    have cd := fun w => sDecOk n w
    generalize Dec.okB n = D at *
    clear hR hP _hl
    cases D
    · replace H : Hid (R = false) := H.out
      go_enter Tryz.func55, Tryz.ntmps55
      go_wp2_with (go_at_call 56; refine (cd _).mono ?_; rintro e w2 ⟨rfl, hw⟩; have hw := hw.symm; subst hw)
      go_ret
      exact ⟨by rw [H.out]; rfl, hb0 _⟩
    · replace H : Hid (R = decide (l = [])) := H.out.trans (Bool.true_and _)
      by_cases p : l = []
      · subst p
        replace H : Hid (R = true) := H.out
        go_enter Tryz.func55, Tryz.ntmps55
        go_wp2_with (go_at_call 56; refine (cd _).mono ?_; rintro e w2 ⟨rfl, hw⟩; have hw := hw.symm; subst hw)
        go_ret
        exact ⟨by rw [H.out]; first | rfl | simp, hb0 _⟩
      · have q : (l == []) = false := beq_eq_false_iff_ne.2 p
        replace H : Hid (R = false) := H.out.trans (decide_eq_false p)
        go_enter Tryz.func55, Tryz.ntmps55
        go_wp2_with (go_at_call 56; refine (cd _).mono ?_; rintro e w2 ⟨rfl, hw⟩; have hw := hw.symm; subst hw)
        go_ret
        exact ⟨by rw [H.out]; first | rfl | simp [q, p], hb0 _⟩
  have e1 : (c == 1) = false := beq_eq_false_iff_ne.2 h1
  by_cases h2 : c = 2
  · subst h2
    have H : Hid (R = decide (n = 0)) := by show R = _; rw [hR]; show (decide (n = 0) && true) = _; rw [Bool.and_true]
    clear hR hP _hl
    by_cases p : n = 0
    · subst p
      replace H : Hid (R = true) := H.out
      go_enter Tryz.func55, Tryz.ntmps55
      go_wp2_with fail
      go_ret
      exact ⟨by rw [H.out]; first | rfl | simp, hb0 _⟩
    · have q : (n == 0) = false := beq_eq_false_iff_ne.2 p
      replace H : Hid (R = false) := H.out.trans (decide_eq_false p)
      go_enter Tryz.func55, Tryz.ntmps55
      go_wp2_with fail
      go_ret
      exact ⟨by rw [H.out]; first | rfl | simp [q], hb0 _⟩
  have e2 : (c == 2) = false := beq_eq_false_iff_ne.2 h2
  by_cases hA : c = 3 ∨ c = 4 ∨ c = 5
  · have H : Hid (R = (decide (0 ≤ n ∧ n < vars) && decide (l = []))) := by
      show R = _
      rw [hR, ← empty_is]
      rcases hA with rfl | rfl | rfl <;> rfl
    clear hR hP _hl
    by_cases p1 : 0 ≤ n
    · by_cases p2 : n < vars
      · replace H : Hid (R = decide (l = [])) := H.out.trans (by rw [decide_eq_true (⟨p1, p2⟩ : 0 ≤ n ∧ n < vars), Bool.true_and])
        by_cases p : l = []
        · subst p
          replace H : Hid (R = true) := H.out
          rcases hA with rfl | rfl | rfl
          all_goals
            go_enter Tryz.func55, Tryz.ntmps55
            go_wp2_with fail
            go_ret
            exact ⟨by rw [H.out]; first | rfl | simp [p1, p2], hb0 _⟩
        · have q : (l == []) = false := beq_eq_false_iff_ne.2 p
          replace H : Hid (R = false) := H.out.trans (decide_eq_false p)
          rcases hA with rfl | rfl | rfl
          all_goals
            go_enter Tryz.func55, Tryz.ntmps55
            go_wp2_with fail
            go_ret
            exact ⟨by rw [H.out]; first | rfl | simp [q, p, p1, p2], hb0 _⟩
      · replace H : Hid (R = false) := H.out.trans (by rw [decide_eq_false (fun h => p2 h.2 : ¬ (0 ≤ n ∧ n < vars)), Bool.false_and])
        have q2 : decide (n < vars) = false := decide_eq_false p2
        rcases hA with rfl | rfl | rfl
        all_goals
          go_enter Tryz.func55, Tryz.ntmps55
          go_wp2_with fail
          go_ret
          exact ⟨by rw [H.out]; first | rfl | simp [q2], hb0 _⟩
    · replace H : Hid (R = false) := H.out.trans (by rw [decide_eq_false (fun h => p1 h.1 : ¬ (0 ≤ n ∧ n < vars)), Bool.false_and])
      have q1 : decide (0 ≤ n) = false := decide_eq_false p1
      rcases hA with rfl | rfl | rfl
      all_goals
        go_enter Tryz.func55, Tryz.ntmps55
        go_wp2_with fail
        go_ret
        exact ⟨by rw [H.out]; first | rfl | simp [q1], hb0 _⟩
  have e3 : (c == 3) = false := beq_eq_false_iff_ne.2 fun h => hA (by omega)
  have e4 : (c == 4) = false := beq_eq_false_iff_ne.2 fun h => hA (by omega)
  have e5 : (c == 5) = false := beq_eq_false_iff_ne.2 fun h => hA (by omega)
  by_cases hB : c = 6 ∨ c = 7 ∨ c = 8 ∨ c = 35
  · have H : Hid (R = (decide (0 ≤ n ∧ n < cells) && decide (l = []))) := by
      show R = _
      rw [hR, ← empty_is]
      rcases hB with rfl | rfl | rfl | rfl <;> rfl
    clear hR hP _hl
    by_cases p1 : 0 ≤ n
    · by_cases p2 : n < cells
      · replace H : Hid (R = decide (l = [])) := H.out.trans (by rw [decide_eq_true (⟨p1, p2⟩ : 0 ≤ n ∧ n < cells), Bool.true_and])
        by_cases p : l = []
        · subst p
          replace H : Hid (R = true) := H.out
          rcases hB with rfl | rfl | rfl | rfl
          all_goals
            go_enter Tryz.func55, Tryz.ntmps55
            go_wp2_with fail
            go_ret
            exact ⟨by rw [H.out]; first | rfl | simp [p1, p2], hb0 _⟩
        · have q : (l == []) = false := beq_eq_false_iff_ne.2 p
          replace H : Hid (R = false) := H.out.trans (decide_eq_false p)
          rcases hB with rfl | rfl | rfl | rfl
          all_goals
            go_enter Tryz.func55, Tryz.ntmps55
            go_wp2_with fail
            go_ret
            exact ⟨by rw [H.out]; first | rfl | simp [q, p, p1, p2], hb0 _⟩
      · replace H : Hid (R = false) := H.out.trans (by rw [decide_eq_false (fun h => p2 h.2 : ¬ (0 ≤ n ∧ n < cells)), Bool.false_and])
        have q2 : decide (n < cells) = false := decide_eq_false p2
        rcases hB with rfl | rfl | rfl | rfl
        all_goals
          go_enter Tryz.func55, Tryz.ntmps55
          go_wp2_with fail
          go_ret
          exact ⟨by rw [H.out]; first | rfl | simp [q2], hb0 _⟩
    · replace H : Hid (R = false) := H.out.trans (by rw [decide_eq_false (fun h => p1 h.1 : ¬ (0 ≤ n ∧ n < cells)), Bool.false_and])
      have q1 : decide (0 ≤ n) = false := decide_eq_false p1
      rcases hB with rfl | rfl | rfl | rfl
      all_goals
        go_enter Tryz.func55, Tryz.ntmps55
        go_wp2_with fail
        go_ret
        exact ⟨by rw [H.out]; first | rfl | simp [q1], hb0 _⟩
  have e6 : (c == 6) = false := beq_eq_false_iff_ne.2 fun h => hB (by omega)
  have e7 : (c == 7) = false := beq_eq_false_iff_ne.2 fun h => hB (by omega)
  have e8 : (c == 8) = false := beq_eq_false_iff_ne.2 fun h => hB (by omega)
  have e35 : (c == 35) = false := beq_eq_false_iff_ne.2 fun h => hB (by omega)
  by_cases hC : c = 24 ∨ c = 25
  · have H : Hid (R = (decide (n = 0) && P ⟨l.toArray⟩)) := by
      show R = _
      rw [hR]
      rcases hC with rfl | rfl <;> rfl
    have cp := fun w => hP ⟨l.toArray⟩ w
    unfold Told at cp
    generalize P ⟨l.toArray⟩ = D at *
    clear hR hP _hl
    cases D
    · replace H : Hid (R = false) := H.out.trans (Bool.and_false _)
      rcases hC with rfl | rfl
      all_goals
        go_enter Tryz.func55, Tryz.ntmps55
        go_wp2_with (go_at_call 77; refine (cp _).mono ?_; rintro e w2 ⟨⟨rop, rc, rst, rno, rao, rn, rcap, rfl⟩, hb2⟩; have x1 := ((kO.out).below hb2).cell 1 rfl; have x1' := fun o => (((kO.out).below hb2).alloc o).cell 1 rfl)
        go_ret
        exact ⟨by rw [H.out]; rfl, ((hb0 _).trans (hb2.mono (hb0 _).size)).alloc (Nat.le_trans (hb0 _).size hb2.size) _⟩
    · replace H : Hid (R = decide (n = 0)) := H.out.trans (Bool.and_true _)
      by_cases p : n = 0
      · subst p
        replace H : Hid (R = true) := H.out
        rcases hC with rfl | rfl
        all_goals
          go_enter Tryz.func55, Tryz.ntmps55
          go_wp2_with (go_at_call 77; refine (cp _).mono ?_; rintro e w2 ⟨⟨rop, rc, rst, rno, rao, rn, rcap, rfl⟩, hb2⟩; have x1 := ((kO.out).below hb2).cell 1 rfl; have x1' := fun o => (((kO.out).below hb2).alloc o).cell 1 rfl)
          go_ret
          exact ⟨by rw [H.out]; first | rfl | simp, ((hb0 _).trans (hb2.mono (hb0 _).size)).alloc (Nat.le_trans (hb0 _).size hb2.size) _⟩
      · have q : (n == 0) = false := beq_eq_false_iff_ne.2 p
        replace H : Hid (R = false) := H.out.trans (decide_eq_false p)
        rcases hC with rfl | rfl
        all_goals
          go_enter Tryz.func55, Tryz.ntmps55
          go_wp2_with (go_at_call 77; refine (cp _).mono ?_; rintro e w2 ⟨⟨rop, rc, rst, rno, rao, rn, rcap, rfl⟩, hb2⟩; have x1 := ((kO.out).below hb2).cell 1 rfl; have x1' := fun o => (((kO.out).below hb2).alloc o).cell 1 rfl)
          go_ret
          exact ⟨by rw [H.out]; first | rfl | simp [q], ((hb0 _).trans (hb2.mono (hb0 _).size)).alloc (Nat.le_trans (hb0 _).size hb2.size) _⟩
  have e24 : (c == 24) = false := beq_eq_false_iff_ne.2 fun h => hC (by omega)
  have e25 : (c == 25) = false := beq_eq_false_iff_ne.2 fun h => hC (by omega)
  by_cases h29 : c = 29
  · subst h29
    rw [hR, HN.out]
    exact sOp29 n vars cells l w
  have e29 : (c == 29) = false := beq_eq_false_iff_ne.2 h29
  by_cases hD : c = 30 ∨ c = 31
  · have H : Hid (R = (decide (0 ≤ n ∧ n ≤ (M : Int)) && decide (l = []))) := by
      show R = _
      rw [hR, ← empty_is]
      rw [show decide (0 ≤ n ∧ n ≤ (M : Int)) = decide (0 ≤ n ∧ n < ((M + 1 : Nat) : Int)) by congr 1; exact propext ⟨fun h => by omega, fun h => by omega⟩]
      rcases hD with rfl | rfl <;> rfl
    have ci := fun w => sIn n 0 (M : Int) w
    generalize decide (0 ≤ n ∧ n ≤ (M : Int)) = D at *
    clear hR hP _hl
    cases D
    · replace H : Hid (R = false) := H.out
      rcases hD with rfl | rfl
      all_goals
        go_enter Tryz.func55, Tryz.ntmps55
        go_wp2_with (go_at_call 16; refine (ci _).mono ?_; rintro e w2 ⟨rfl, hw⟩; have hw := hw.symm; subst hw)
        go_ret
        exact ⟨by rw [H.out]; rfl, hb0 _⟩
    · replace H : Hid (R = decide (l = [])) := H.out.trans (Bool.true_and _)
      by_cases p : l = []
      · subst p
        replace H : Hid (R = true) := H.out
        rcases hD with rfl | rfl
        all_goals
          go_enter Tryz.func55, Tryz.ntmps55
          go_wp2_with (go_at_call 16; refine (ci _).mono ?_; rintro e w2 ⟨rfl, hw⟩; have hw := hw.symm; subst hw)
          go_ret
          exact ⟨by rw [H.out]; first | rfl | simp, hb0 _⟩
      · have q : (l == []) = false := beq_eq_false_iff_ne.2 p
        replace H : Hid (R = false) := H.out.trans (decide_eq_false p)
        rcases hD with rfl | rfl
        all_goals
          go_enter Tryz.func55, Tryz.ntmps55
          go_wp2_with (go_at_call 16; refine (ci _).mono ?_; rintro e w2 ⟨rfl, hw⟩; have hw := hw.symm; subst hw)
          go_ret
          exact ⟨by rw [H.out]; first | rfl | simp [q, p], hb0 _⟩
  have e30 : (c == 30) = false := beq_eq_false_iff_ne.2 fun h => hD (by omega)
  have e31 : (c == 31) = false := beq_eq_false_iff_ne.2 fun h => hD (by omega)
  by_cases hE : c = 33
  · have H : Hid (R = (decide (0 ≤ n ∧ n ≤ 1) && decide (l = []))) := by
      show R = _
      rw [hR, ← empty_is]
      rw [show decide (0 ≤ n ∧ n ≤ 1) = decide (n = 0 ∨ n = 1) by congr 1; exact propext ⟨fun h => by omega, fun h => by omega⟩]
      subst hE; rfl
    have ci := fun w => sIn n 0 1 w
    generalize decide (0 ≤ n ∧ n ≤ 1) = D at *
    clear hR hP _hl
    cases D
    · replace H : Hid (R = false) := H.out
      subst hE
      all_goals
        go_enter Tryz.func55, Tryz.ntmps55
        go_wp2_with (go_at_call 16; refine (ci _).mono ?_; rintro e w2 ⟨rfl, hw⟩; have hw := hw.symm; subst hw)
        go_ret
        exact ⟨by rw [H.out]; rfl, hb0 _⟩
    · replace H : Hid (R = decide (l = [])) := H.out.trans (Bool.true_and _)
      by_cases p : l = []
      · subst p
        replace H : Hid (R = true) := H.out
        subst hE
        all_goals
          go_enter Tryz.func55, Tryz.ntmps55
          go_wp2_with (go_at_call 16; refine (ci _).mono ?_; rintro e w2 ⟨rfl, hw⟩; have hw := hw.symm; subst hw)
          go_ret
          exact ⟨by rw [H.out]; first | rfl | simp, hb0 _⟩
      · have q : (l == []) = false := beq_eq_false_iff_ne.2 p
        replace H : Hid (R = false) := H.out.trans (decide_eq_false p)
        subst hE
        all_goals
          go_enter Tryz.func55, Tryz.ntmps55
          go_wp2_with (go_at_call 16; refine (ci _).mono ?_; rintro e w2 ⟨rfl, hw⟩; have hw := hw.symm; subst hw)
          go_ret
          exact ⟨by rw [H.out]; first | rfl | simp [q, p], hb0 _⟩
  have e33 : (c == 33) = false := beq_eq_false_iff_ne.2 fun h => hE (by omega)
  have H : Hid (R = (decide (1 ≤ c ∧ c ≤ 36) && (decide (n = 0) && decide (l = [])))) := by
    show R = _
    rw [hR, ← empty_is]
    have k1 : kn c = 0 := by unfold kn; rw [if_neg h1, if_neg hA, if_neg hB, if_neg hD, if_neg h29, if_neg hE]
    have k2 : ks c = 0 := by unfold ks; rw [if_neg h2, if_neg hC, if_neg h29]
    unfold opB
    simp only [k1, k2]
    rfl
  have ci := fun w => sIn c 1 36 w
  generalize decide (1 ≤ c ∧ c ≤ 36) = D at *
  clear hR hP _hl h1 h2 hA hB hC h29 hD hE
  cases D
  · replace H : Hid (R = false) := H.out
    go_enter Tryz.func55, Tryz.ntmps55
    go_wp2_with (go_at_call 16; refine (ci _).mono ?_; rintro e w2 ⟨rfl, hw⟩; have hw := hw.symm; subst hw)
    go_ret
    exact ⟨by rw [H.out]; rfl, hb0 _⟩
  · replace H : Hid (R = (decide (n = 0) && decide (l = []))) := H.out.trans (Bool.true_and _)
    by_cases p0 : n = 0
    · subst p0
      replace H : Hid (R = decide (l = [])) := H.out.trans (Bool.true_and _)
      by_cases p : l = []
      · subst p
        replace H : Hid (R = true) := H.out
        go_enter Tryz.func55, Tryz.ntmps55
        go_wp2_with (go_at_call 16; refine (ci _).mono ?_; rintro e w2 ⟨rfl, hw⟩; have hw := hw.symm; subst hw)
        go_ret
        exact ⟨by rw [H.out]; first | rfl | simp, hb0 _⟩
      · have q : (l == []) = false := beq_eq_false_iff_ne.2 p
        replace H : Hid (R = false) := H.out.trans (decide_eq_false p)
        go_enter Tryz.func55, Tryz.ntmps55
        go_wp2_with (go_at_call 16; refine (ci _).mono ?_; rintro e w2 ⟨rfl, hw⟩; have hw := hw.symm; subst hw)
        go_ret
        exact ⟨by rw [H.out]; first | rfl | simp [q, p], hb0 _⟩
    · have q0 : (n == 0) = false := beq_eq_false_iff_ne.2 p0
      replace H : Hid (R = false) := H.out.trans (by rw [decide_eq_false p0, Bool.false_and])
      go_enter Tryz.func55, Tryz.ntmps55
      go_wp2_with (go_at_call 16; refine (ci _).mono ?_; rintro e w2 ⟨rfl, hw⟩; have hw := hw.symm; subst hw)
      go_ret
      exact ⟨by rw [H.out]; first | rfl | simp [q0], hb0 _⟩

end Oc
end Go.Proofs.YtaakeecliehjgaaGreatDoor
namespace Go.Proofs.YtaakeecliehjgaaGreatDoor
open Go.RowKit
namespace Oc
open St (Vl RdV)

set_option maxHeartbeats 1000000 in
set_option maxRecDepth 100000 in
theorem sOpsOk {P : ByteArray → Bool} (hP : ParseS P) {ao : Option Addr} {cap : Nat} {l : List Vl} {vars lists : Int} {w : World} (hA : RdV w ao l) (hn : l.length ≤ 40000000) (hs : ∀ o ∈ l, o.2.2.size ≤ 1048576) :
    Calls Tryz.prog 35 #[.slice ao l.length cap, .int .i64 vars, .int .i64 lists] w fun e w' => e = .returned (.bool (opsB P l vars lists)) ∧ Below w.heap.size w w' := by
  obtain ⟨R, hR⟩ : ∃ R, R = opsB P l vars lists := ⟨_, rfl⟩
  rw [← hR]
  unfold opsB at hR
  have bn : (l.length : Int) ≤ 40000000 := by omega
  have ci := fun w => sIn (l.length : Int) 1 1500 w
  by_cases h0 : 1 ≤ l.length ∧ l.length ≤ 1500
  · rw [show decide ((1 : Int) ≤ (l.length : Int) ∧ (l.length : Int) ≤ 1500) = true from decide_eq_true (by omega)] at ci
    obtain ⟨m, hm⟩ : ∃ m, l.length = m + 1 := ⟨l.length - 1, by omega⟩
    have hml : m < l.length := by omega
    have hom : l[m]? = some l[m] := List.getElem?_eq_getElem hml
    have hl := last_of hm hom
    rw [decide_eq_true h0, hl, Bool.true_and] at hR
    obtain ⟨b0, o0, e', hbl, -, q0, -, -⟩ := hA m l[m] hom
    have e2 : (l.length : Int) - 1 = (m : Int) := by omega
    have bm : (m : Int) < l.length := by omega
    have wm : IntKind.i64.wrap (m : Int) = m := by simp [IntKind.wrap, IntKind.bits, IntKind.signed]; omega
    by_cases h2 : l[m].1 = 36
    · have H : Hid (R = l.all (opB P vars lists l.length)) := by show R = _; rw [hR, decide_eq_true h2, Bool.true_and]
      rw [h2] at q0
      have CALL : Hid (∀ o ∈ l, ∀ w', Calls Tryz.prog 55 #[.agg #[.int .i64 o.1, .int .i64 o.2.1, .string o.2.2], .int .i64 (l.length : Int), .int .i64 vars, .int .i64 lists] w' fun e w'' => e = .returned (.bool (opB P vars lists l.length o)) ∧ Below w'.heap.size w' w'') := fun o ho w' => by
        obtain ⟨o1, o2, ⟨⟨o3⟩⟩⟩ := o
        rw [hm]
        exact sOp hP o1 o2 vars lists o3 (by simpa [ByteArray.size] using hs _ ho) (M := m) (by omega) w'
      have b1 : (l.length : Int) ≤ 1500 := by omega
      have HA : Hid (RdV w ao l) := hA
      generalize opB P vars lists l.length = p at *
      subst e'
      clear hR hP hs hm hml hom hl h2 hn hA h0
      go_enter Tryz.func35, Tryz.ntmps35
      go_wp2_with (go_at_call 16; refine (ci _).mono ?_; rintro e w2 ⟨rfl, hw⟩; have hw := hw.symm; subst hw)
      clear ci q0 e2 wm
      go_loopw [8] (fun i wr => ∃ k : Nat, k ≤ l.length ∧ i = .int .i64 k ∧ Hid ((l.take k).all p = true) ∧ Below w.heap.size w wr) (fun i _ => l.length - (intOf i).toNat)
      case atStart => exact ⟨0, Nat.zero_le _, rfl, (show (l.take 0).all p = true by simp), Below.refl _ _⟩
      case round =>
        obtain ⟨k, hkn, rfl, hall, hb⟩ := hrel
        by_cases hkl : k < l.length
        · have hvk : l[k]? = some l[k] := List.getElem?_eq_getElem hkl
          obtain ⟨b, o, e3, -, -, p0, p1, p2⟩ := HA.out.below hb k l[k] hvk
          cases e3
          have call := CALL.out l[k] (List.getElem_mem hkl)
          have bk : (k : Int) < l.length := by omega
          have HT : Hid ((l.take (k + 1)).all p = p l[k]) := by
            show _ = _
            rw [List.take_add_one, hvk, List.all_append, hall.out]
            simp
          have HNo : Hid (p l[k] = false → l.all p = false) := fun h => by
            cases hb : l.all p
            · rfl
            · rw [List.all_eq_true.1 hb _ (List.getElem_mem hkl)] at h; cases h
          clear hvk hall CALL HA
          generalize p l[k] = B at *
          generalize l[k] = v at *
          cases B
          · replace HNo : Hid (l.all p = false) := HNo.out rfl
            go_wp2_with (go_at_call 55; refine (call _).mono ?_; rintro e w2 ⟨rfl, hb2⟩)
            go_ret
            exact ⟨by rw [H.out, HNo.out]; rfl, hb.trans (hb2.mono hb.size)⟩
          · go_wp2_with (go_at_call 55; refine (call _).mono ?_; rintro e w2 ⟨rfl, hb2⟩)
            go_roundw
            case rel => exact ⟨k + 1, hkl, by go_num, HT.out, hb.trans (hb2.mono hb.size)⟩
            case measure => simp [intOf]; omega
        · obtain rfl : k = l.length := by omega
          have H2 : Hid (l.all p = true) := by have := hall.out; rwa [List.take_length] at this
          clear hall
          go_wp2_with fail
          go_ret
          exact ⟨by rw [H.out, H2.out]; rfl, hb⟩
    · have H : Hid (R = false) := by show R = _; rw [hR, decide_eq_false h2]; rfl
      have h2' : (l[m].1 == 36) = false := beq_eq_false_iff_ne.2 h2
      have h2'' : (l[m].1 != 36) = true := by simp [bne, h2']
      generalize l[m].1 = c at *
      subst e'
      clear hR hP hA hs hm hml hom hl hn h0
      generalize l.length = N at *
      go_enter Tryz.func35, Tryz.ntmps35
      go_wp2_with (go_at_call 16; refine (ci _).mono ?_; rintro e w2 ⟨rfl, hw⟩; have hw := hw.symm; subst hw)
      go_ret
      exact ⟨by rw [H.out]; rfl, Below.refl _ _⟩
  · rw [show decide ((1 : Int) ≤ (l.length : Int) ∧ (l.length : Int) ≤ 1500) = false from decide_eq_false (by omega)] at ci
    have H : Hid (R = false) := by show R = false; rw [hR, decide_eq_false h0]; rfl
    clear hR hP hA hs h0
    generalize l.length = N at *
    go_enter Tryz.func35, Tryz.ntmps35
    go_wp2_with (go_at_call 16; refine (ci _).mono ?_; rintro e w2 ⟨rfl, hw⟩; have hw := hw.symm; subst hw)
    go_ret
    exact ⟨by rw [H.out]; rfl, Below.refl _ _⟩

end Oc
end Go.Proofs.YtaakeecliehjgaaGreatDoor
