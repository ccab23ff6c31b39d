/-
  A region that draws its order and whose callees make memory alone, walked once, in the order of the text: the worlds grown out of one, as a family.
  The specification's place of a call.
  The specification's OpsOk at every place.
-/
import Derived.Test.YtkhoccjfkkfipaaGreatDoorProg
import Derived.Deep.QuietTactic
import Derived.BigQuiet
import Derived.WalkKit
import Derived.Below
import Derived.Test.YtkhoccjfkkfipaaGreatDoorP18
namespace Go.Proofs.YtkhoccjfkkfipaaGreatDoor
open Go.RowKit
namespace Fam
/-- The worlds grown out of W. -/
theorem family (W : World) : ∃ (I : Type) (F : I → World), Nonempty I ∧ (∀ i, Below W.heap.size W (F i)) ∧ (∀ w', Below W.heap.size W w' → ∃ i, w' = F i) :=
  ⟨{w' : World // Below W.heap.size W w'}, Subtype.val, ⟨⟨W, Below.refl _ W⟩⟩, fun i => i.2, fun w' h => ⟨⟨w', h⟩, rfl⟩⟩
/-- The worlds of any kind of one's own. -/
theorem familyOf (S : World → Prop) {W : World} (h : S W) : ∃ (I : Type) (F : I → World), Nonempty I ∧ (∀ i, S (F i)) ∧ (∀ w', S w' → ∃ i, w' = F i) :=
  ⟨{w' : World // S w'}, Subtype.val, ⟨⟨W, h⟩⟩, fun i => i.2, fun w' h => ⟨⟨w', h⟩, rfl⟩⟩
theorem wp_region_fam {P : Program} {I : Type} {F : I → World} {id : Nat} {Q : Exit → Act → World → Prop} {a : Act} {w : World} {l : List Oper} (hm : P.follows .mixedOrders = true) (hB : Region.lexB .any l.toArray = true)
    (hC : ∃ i, w.drew = F i) (h : wpQuiet P l.toArray (fun w' => ∃ i, w' = F i) (fun a' => ∀ w', (∃ i, w' = F i) → Q .normal a' w') l a) : (Code.region id l.toArray true).wp P Q a w :=
  wp_region_quiet (C := fun w' => ∃ i, w' = F i) hm hB hC h
end Fam
end Go.Proofs.YtkhoccjfkkfipaaGreatDoor
namespace Go.Proofs.YtkhoccjfkkfipaaGreatDoor
open Go.RowKit
namespace Oc
open St (Vl RdV)

def ParseS (P : ByteArray → Bool) : Prop := ∀ (s : ByteArray) (w : World), Told 103 (P s) s w

theorem sIn (x lo hi : Int) (w : World) : Calls Tryz.prog 45 #[.int .i64 x, .int .i64 lo, .int .i64 hi] w fun e w' => e = .returned (.bool (decide (lo ≤ x ∧ x ≤ hi))) ∧ w' = w := by
  by_cases h1 : lo ≤ x
  · by_cases h2 : x ≤ hi
    · rw [decide_eq_true ⟨h1, h2⟩]
      go_enter Tryz.func45, Tryz.ntmps45
      go_wp2_with fail
      go_ret
      exact ⟨rfl, rfl⟩
    · rw [decide_eq_false fun h => h2 h.2]
      go_enter Tryz.func45, Tryz.ntmps45
      go_wp2_with fail
      go_ret
      exact ⟨rfl, rfl⟩
  · rw [decide_eq_false fun h => h1 h.1]
    have e : decide (lo ≤ x) = false := decide_eq_false h1
    go_enter Tryz.func45, Tryz.ntmps45
    go_wp2_with fail
    go_ret
    exact ⟨rfl, rfl⟩

theorem empty_is (l : List UInt8) : decide ((⟨l.toArray⟩ : ByteArray).size = 0) = decide (l = []) := by
  cases l <;> simp [ByteArray.size]

set_option maxHeartbeats 4000000 in
set_option maxRecDepth 100000 in
theorem sOp29 {P : ByteArray → Bool} (n vars cells : Int) {p : Int} (l : List UInt8) (w : World) :
    Calls Tryz.prog 85 #[.agg #[.int .i64 29, .int .i64 n, .string ⟨l.toArray⟩], .int .i64 p, .int .i64 vars, .int .i64 cells] w fun e w' => e = .returned (.bool (opB P vars cells p (29, n, ⟨l.toArray⟩))) ∧ Below w.heap.size w w' := by
  have hb0 : ∀ o, Below w.heap.size w (w.alloc o) := fun o => (Below.refl _ w).alloc (Nat.le_refl _) o
  have kO : Hid (Blk 92 (w.alloc (.cells #[.int .i64 29, .int .i64 n, .string ⟨l.toArray⟩] 92)) w.heap.size [.int .i64 29, .int .i64 n, .string ⟨l.toArray⟩]) := Blk.new _ _ _
  obtain ⟨R, hR⟩ : ∃ R, R = opB P vars cells p (29, n, ⟨l.toArray⟩) := ⟨_, rfl⟩
  rw [← hR]
  have H : Hid (R = (decide (1 ≤ n ∧ n ≤ 3) && Ty.callB l)) := hR
  have ci := fun w => sIn n 1 3 w
  generalize decide (1 ≤ n ∧ n ≤ 3) = D at *
  clear hR
  cases D
  · replace H : Hid (R = false) := H.out
    obtain ⟨I, F, hI, hF1, hF2⟩ := Fam.family (w.alloc (.cells #[.int .i64 29, .int .i64 n, .string ⟨l.toArray⟩] 92))
    have HF : Hid (∀ i, Below (w.alloc (.cells #[.int .i64 29, .int .i64 n, .string ⟨l.toArray⟩] 92)).heap.size (w.alloc (.cells #[.int .i64 29, .int .i64 n, .string ⟨l.toArray⟩] 92)) (F i)) := hF1
    have HF2 : Hid (∀ w', Below (w.alloc (.cells #[.int .i64 29, .int .i64 n, .string ⟨l.toArray⟩] 92)).heap.size (w.alloc (.cells #[.int .i64 29, .int .i64 n, .string ⟨l.toArray⟩] 92)) w' → ∃ i, w' = F i) := hF2
    have y1 := fun i => ((kO.out).below (hF1 i)).cell 1 rfl
    have y2 := fun i => ((kO.out).below (hF1 i)).cell 2 rfl
    clear hF1 hF2
    go_enter Tryz.func85, Tryz.ntmps85
    go_wp2_with fail
    refine Fam.wp_region_fam (F := F) (by kernel_rfl) (by kernel_rfl) (HF2.out _ (Below.drew (Below.refl _ _))) ?_
    repeat (go_big_quiet_step ((go_at_call 45; refine Calls.mono (ci _) ?_; rintro e w3 ⟨rfl, rfl⟩; exact ⟨rfl, _, rfl⟩)))
    refine wpQuiet_nil ?_
    rintro _ ⟨iq, rfl⟩
    go_wp2_with fail
    go_ret
    exact ⟨by rw [H.out]; rfl, (hb0 _).trans ((HF.out iq).mono (hb0 _).size)⟩
  · replace H : Hid (R = Ty.callB l) := H.out.trans (Bool.true_and _)
    have hW : Below w.heap.size w ((w.alloc (.cells #[.int .i64 29, .int .i64 n, .string ⟨l.toArray⟩] 92)).drew) := (hb0 _).drew
    have kD := kO.out.below (Below.drew (Below.refl _ _))
    have cC : Calls Tryz.prog 102 #[] (w.alloc (.cells #[.int .i64 29, .int .i64 n, .string ⟨l.toArray⟩] 92)).drew fun e w' => e = .returned (.slice (some ⟨w.heap.size + 1, 0, none⟩) 6 6) ∧ w'.cell? ⟨w.heap.size, 2, none⟩ = some (.string ⟨l.toArray⟩) ∧ Calls Tryz.prog 67 #[.slice (some ⟨w.heap.size + 1, 0, none⟩) 6 6, .string ⟨l.toArray⟩] w' (fun e w'' => e = .returned (.bool (Ty.callB l)) ∧ Below w.heap.size w w'') := by
      refine (sCalls _).mono ?_
      rintro e w' ⟨rfl, hr, hb'⟩
      have hz : ((w.alloc (.cells #[.int .i64 29, .int .i64 n, .string ⟨l.toArray⟩] 92)).drew).heap.size = w.heap.size + 1 := by show (w.alloc _).heap.size = _; simp
      rw [hz] at hr ⊢
      refine ⟨rfl, (kD.below hb').cell 2 rfl, (sWithin (L := Ty.callL) (by decide) l _ 6 w' hr).mono ?_⟩
      rintro e w'' ⟨rfl, rfl⟩
      exact ⟨rfl, hW.trans (hb'.mono hW.size)⟩
    generalize Ty.callB l = D2 at *
    clear kD hW
    go_enter Tryz.func85, Tryz.ntmps85
    go_wp2_with fail
    go_region_with (first
      | (go_at_call 45; refine (ci _).mono ?_; rintro e w2 ⟨rfl, hw⟩; have hw := hw.symm; subst hw)
      | (go_at_call 102; with_reducible refine cC.mono ?_; rintro e w3 ⟨rfl, y2, cW⟩)
      | (go_at_call 67; with_reducible refine cW.mono ?_; rintro e w4 ⟨rfl, hbc⟩))
    all_goals go_wp2_with fail
    all_goals go_ret
    all_goals exact ⟨by rw [H.out]; rfl, hbc⟩

end Oc
end Go.Proofs.YtkhoccjfkkfipaaGreatDoor
namespace Go.Proofs.YtkhoccjfkkfipaaGreatDoor
open Go.RowKit
namespace Oc
open St (Vl RdV)

set_option maxHeartbeats 4000000 in
set_option maxRecDepth 100000 in
theorem sOp {P : ByteArray → Bool} (hP : ParseS P) (c n vars cells : Int) (l : List UInt8) (_hl : l.length ≤ 1048576) {M : Nat} (hM : M ≤ 1500) (w : World) :
    Calls Tryz.prog 85 #[.agg #[.int .i64 c, .int .i64 n, .string ⟨l.toArray⟩], .int .i64 ((M + 1 : Nat) : Int), .int .i64 vars, .int .i64 cells] w fun e w' => e = .returned (.bool (opB P vars cells ((M + 1 : Nat) : Int) (c, n, ⟨l.toArray⟩))) ∧ Below w.heap.size w w' := by
  have hb0 : ∀ o, Below w.heap.size w (w.alloc o) := fun o => (Below.refl _ w).alloc (Nat.le_refl _) o
  have kO : Hid (Blk 92 (w.alloc (.cells #[.int .i64 c, .int .i64 n, .string ⟨l.toArray⟩] 92)) w.heap.size [.int .i64 c, .int .i64 n, .string ⟨l.toArray⟩]) := Blk.new _ _ _
  obtain ⟨R, hR⟩ : ∃ R, R = opB P vars cells ((M + 1 : Nat) : Int) (c, n, ⟨l.toArray⟩) := ⟨_, rfl⟩
  rw [← hR]
  obtain ⟨N, hN⟩ : ∃ N : Nat, N = M + 1 := ⟨_, rfl⟩
  have bN : (N : Int) ≤ 1501 := by omega
  have eN : (N : Int) - 1 = (M : Int) := by omega
  have wN : IntKind.i64.wrap (M : Int) = M := by simp [IntKind.wrap, IntKind.bits, IntKind.signed]; omega
  rw [← hN]
  have HN : Hid (N = M + 1) := hN
  clear hN
  by_cases h1 : c = 1
  · subst h1
    have H : Hid (R = (Dec.okB n && decide (l = []))) := by show R = _; rw [hR, ← empty_is]; rfl
    have cd := fun w => sDecOk n w
    generalize Dec.okB n = D at *
    clear hR hP _hl
    cases D
    · replace H : Hid (R = false) := H.out
      go_enter Tryz.func85, Tryz.ntmps85
      go_wp2_with (go_at_call 86; refine (cd _).mono ?_; rintro e w2 ⟨rfl, hw⟩; have hw := hw.symm; subst hw)
      go_ret
      exact ⟨by rw [H.out]; rfl, hb0 _⟩
    · replace H : Hid (R = decide (l = [])) := H.out.trans (Bool.true_and _)
      by_cases p : l = []
      · subst p
        replace H : Hid (R = true) := H.out
        go_enter Tryz.func85, Tryz.ntmps85
        go_wp2_with (go_at_call 86; refine (cd _).mono ?_; rintro e w2 ⟨rfl, hw⟩; have hw := hw.symm; subst hw)
        go_ret
        exact ⟨by rw [H.out]; first | rfl | simp, hb0 _⟩
      · have q : (l == []) = false := beq_eq_false_iff_ne.2 p
        replace H : Hid (R = false) := H.out.trans (decide_eq_false p)
        go_enter Tryz.func85, Tryz.ntmps85
        go_wp2_with (go_at_call 86; refine (cd _).mono ?_; rintro e w2 ⟨rfl, hw⟩; have hw := hw.symm; subst hw)
        go_ret
        exact ⟨by rw [H.out]; first | rfl | simp [q, p], hb0 _⟩
  have e1 : (c == 1) = false := beq_eq_false_iff_ne.2 h1
  by_cases h2 : c = 2
  · subst h2
    have H : Hid (R = decide (n = 0)) := by show R = _; rw [hR]; show (decide (n = 0) && true) = _; rw [Bool.and_true]
    clear hR hP _hl
    by_cases p : n = 0
    · subst p
      replace H : Hid (R = true) := H.out
      go_enter Tryz.func85, Tryz.ntmps85
      go_wp2_with fail
      go_ret
      exact ⟨by rw [H.out]; first | rfl | simp, hb0 _⟩
    · have q : (n == 0) = false := beq_eq_false_iff_ne.2 p
      replace H : Hid (R = false) := H.out.trans (decide_eq_false p)
      go_enter Tryz.func85, Tryz.ntmps85
      go_wp2_with fail
      go_ret
      exact ⟨by rw [H.out]; first | rfl | simp [q], hb0 _⟩
  have e2 : (c == 2) = false := beq_eq_false_iff_ne.2 h2
  by_cases hA : c = 3 ∨ c = 4 ∨ c = 5
  · have H : Hid (R = (decide (0 ≤ n ∧ n < vars) && decide (l = []))) := by
      show R = _
      rw [hR, ← empty_is]
      rcases hA with rfl | rfl | rfl <;> rfl
    clear hR hP _hl
    by_cases p1 : 0 ≤ n
    · by_cases p2 : n < vars
      · replace H : Hid (R = decide (l = [])) := H.out.trans (by rw [decide_eq_true (⟨p1, p2⟩ : 0 ≤ n ∧ n < vars), Bool.true_and])
        by_cases p : l = []
        · subst p
          replace H : Hid (R = true) := H.out
          rcases hA with rfl | rfl | rfl
          all_goals
            go_enter Tryz.func85, Tryz.ntmps85
            go_wp2_with fail
            go_ret
            exact ⟨by rw [H.out]; first | rfl | simp [p1, p2], hb0 _⟩
        · have q : (l == []) = false := beq_eq_false_iff_ne.2 p
          replace H : Hid (R = false) := H.out.trans (decide_eq_false p)
          rcases hA with rfl | rfl | rfl
          all_goals
            go_enter Tryz.func85, Tryz.ntmps85
            go_wp2_with fail
            go_ret
            exact ⟨by rw [H.out]; first | rfl | simp [q, p, p1, p2], hb0 _⟩
      · replace H : Hid (R = false) := H.out.trans (by rw [decide_eq_false (fun h => p2 h.2 : ¬ (0 ≤ n ∧ n < vars)), Bool.false_and])
        have q2 : decide (n < vars) = false := decide_eq_false p2
        rcases hA with rfl | rfl | rfl
        all_goals
          go_enter Tryz.func85, Tryz.ntmps85
          go_wp2_with fail
          go_ret
          exact ⟨by rw [H.out]; first | rfl | simp [q2], hb0 _⟩
    · replace H : Hid (R = false) := H.out.trans (by rw [decide_eq_false (fun h => p1 h.1 : ¬ (0 ≤ n ∧ n < vars)), Bool.false_and])
      have q1 : decide (0 ≤ n) = false := decide_eq_false p1
      rcases hA with rfl | rfl | rfl
      all_goals
        go_enter Tryz.func85, Tryz.ntmps85
        go_wp2_with fail
        go_ret
        exact ⟨by rw [H.out]; first | rfl | simp [q1], hb0 _⟩
  have e3 : (c == 3) = false := beq_eq_false_iff_ne.2 fun h => hA (by omega)
  have e4 : (c == 4) = false := beq_eq_false_iff_ne.2 fun h => hA (by omega)
  have e5 : (c == 5) = false := beq_eq_false_iff_ne.2 fun h => hA (by omega)
  by_cases hB : c = 6 ∨ c = 7 ∨ c = 8 ∨ c = 35
  · have H : Hid (R = (decide (0 ≤ n ∧ n < cells) && decide (l = []))) := by
      show R = _
      rw [hR, ← empty_is]
      rcases hB with rfl | rfl | rfl | rfl <;> rfl
    clear hR hP _hl
    by_cases p1 : 0 ≤ n
    · by_cases p2 : n < cells
      · replace H : Hid (R = decide (l = [])) := H.out.trans (by rw [decide_eq_true (⟨p1, p2⟩ : 0 ≤ n ∧ n < cells), Bool.true_and])
        by_cases p : l = []
        · subst p
          replace H : Hid (R = true) := H.out
          rcases hB with rfl | rfl | rfl | rfl
          all_goals
            go_enter Tryz.func85, Tryz.ntmps85
            go_wp2_with fail
            go_ret
            exact ⟨by rw [H.out]; first | rfl | simp [p1, p2], hb0 _⟩
        · have q : (l == []) = false := beq_eq_false_iff_ne.2 p
          replace H : Hid (R = false) := H.out.trans (decide_eq_false p)
          rcases hB with rfl | rfl | rfl | rfl
          all_goals
            go_enter Tryz.func85, Tryz.ntmps85
            go_wp2_with fail
            go_ret
            exact ⟨by rw [H.out]; first | rfl | simp [q, p, p1, p2], hb0 _⟩
      · replace H : Hid (R = false) := H.out.trans (by rw [decide_eq_false (fun h => p2 h.2 : ¬ (0 ≤ n ∧ n < cells)), Bool.false_and])
        have q2 : decide (n < cells) = false := decide_eq_false p2
        rcases hB with rfl | rfl | rfl | rfl
        all_goals
          go_enter Tryz.func85, Tryz.ntmps85
          go_wp2_with fail
          go_ret
          exact ⟨by rw [H.out]; first | rfl | simp [q2], hb0 _⟩
    · replace H : Hid (R = false) := H.out.trans (by rw [decide_eq_false (fun h => p1 h.1 : ¬ (0 ≤ n ∧ n < cells)), Bool.false_and])
      have q1 : decide (0 ≤ n) = false := decide_eq_false p1
      rcases hB with rfl | rfl | rfl | rfl
      all_goals
        go_enter Tryz.func85, Tryz.ntmps85
        go_wp2_with fail
        go_ret
        exact ⟨by rw [H.out]; first | rfl | simp [q1], hb0 _⟩
  have e6 : (c == 6) = false := beq_eq_false_iff_ne.2 fun h => hB (by omega)
  have e7 : (c == 7) = false := beq_eq_false_iff_ne.2 fun h => hB (by omega)
  have e8 : (c == 8) = false := beq_eq_false_iff_ne.2 fun h => hB (by omega)
  have e35 : (c == 35) = false := beq_eq_false_iff_ne.2 fun h => hB (by omega)
  by_cases hC : c = 24 ∨ c = 25
  · have H : Hid (R = (decide (n = 0) && P ⟨l.toArray⟩)) := by
      show R = _
      rw [hR]
      rcases hC with rfl | rfl <;> rfl
    have cp := fun w => hP ⟨l.toArray⟩ w
    unfold Told at cp
    generalize P ⟨l.toArray⟩ = D at *
    clear hR hP _hl
    cases D
    · replace H : Hid (R = false) := H.out.trans (Bool.and_false _)
      rcases hC with rfl | rfl
      all_goals
        go_enter Tryz.func85, Tryz.ntmps85
        go_wp2_with (go_at_call 103; refine (cp _).mono ?_; rintro e w2 ⟨⟨rop, rc, rst, rno, rao, rn, rcap, rfl⟩, hb2⟩; have x1 := ((kO.out).below hb2).cell 1 rfl; have x1' := fun o => (((kO.out).below hb2).alloc o).cell 1 rfl)
        go_ret
        exact ⟨by rw [H.out]; rfl, ((hb0 _).trans (hb2.mono (hb0 _).size)).alloc (Nat.le_trans (hb0 _).size hb2.size) _⟩
    · replace H : Hid (R = decide (n = 0)) := H.out.trans (Bool.and_true _)
      by_cases p : n = 0
      · subst p
        replace H : Hid (R = true) := H.out
        rcases hC with rfl | rfl
        all_goals
          go_enter Tryz.func85, Tryz.ntmps85
          go_wp2_with (go_at_call 103; refine (cp _).mono ?_; rintro e w2 ⟨⟨rop, rc, rst, rno, rao, rn, rcap, rfl⟩, hb2⟩; have x1 := ((kO.out).below hb2).cell 1 rfl; have x1' := fun o => (((kO.out).below hb2).alloc o).cell 1 rfl)
          go_ret
          exact ⟨by rw [H.out]; first | rfl | simp, ((hb0 _).trans (hb2.mono (hb0 _).size)).alloc (Nat.le_trans (hb0 _).size hb2.size) _⟩
      · have q : (n == 0) = false := beq_eq_false_iff_ne.2 p
        replace H : Hid (R = false) := H.out.trans (decide_eq_false p)
        rcases hC with rfl | rfl
        all_goals
          go_enter Tryz.func85, Tryz.ntmps85
          go_wp2_with (go_at_call 103; refine (cp _).mono ?_; rintro e w2 ⟨⟨rop, rc, rst, rno, rao, rn, rcap, rfl⟩, hb2⟩; have x1 := ((kO.out).below hb2).cell 1 rfl; have x1' := fun o => (((kO.out).below hb2).alloc o).cell 1 rfl)
          go_ret
          exact ⟨by rw [H.out]; first | rfl | simp [q], ((hb0 _).trans (hb2.mono (hb0 _).size)).alloc (Nat.le_trans (hb0 _).size hb2.size) _⟩
  have e24 : (c == 24) = false := beq_eq_false_iff_ne.2 fun h => hC (by omega)
  have e25 : (c == 25) = false := beq_eq_false_iff_ne.2 fun h => hC (by omega)
  by_cases h29 : c = 29
  · subst h29
    rw [hR, HN.out]
    exact sOp29 n vars cells l w
  have e29 : (c == 29) = false := beq_eq_false_iff_ne.2 h29
  by_cases hD : c = 30 ∨ c = 31
  · have H : Hid (R = (decide (0 ≤ n ∧ n ≤ (M : Int)) && decide (l = []))) := by
      show R = _
      rw [hR, ← empty_is]
      rw [show decide (0 ≤ n ∧ n ≤ (M : Int)) = decide (0 ≤ n ∧ n < ((M + 1 : Nat) : Int)) by congr 1; exact propext ⟨fun h => by omega, fun h => by omega⟩]
      rcases hD with rfl | rfl <;> rfl
    have ci := fun w => sIn n 0 (M : Int) w
    generalize decide (0 ≤ n ∧ n ≤ (M : Int)) = D at *
    clear hR hP _hl
    cases D
    · replace H : Hid (R = false) := H.out
      rcases hD with rfl | rfl
      all_goals
        go_enter Tryz.func85, Tryz.ntmps85
        go_wp2_with (go_at_call 45; refine (ci _).mono ?_; rintro e w2 ⟨rfl, hw⟩; have hw := hw.symm; subst hw)
        go_ret
        exact ⟨by rw [H.out]; rfl, hb0 _⟩
    · replace H : Hid (R = decide (l = [])) := H.out.trans (Bool.true_and _)
      by_cases p : l = []
      · subst p
        replace H : Hid (R = true) := H.out
        rcases hD with rfl | rfl
        all_goals
          go_enter Tryz.func85, Tryz.ntmps85
          go_wp2_with (go_at_call 45; refine (ci _).mono ?_; rintro e w2 ⟨rfl, hw⟩; have hw := hw.symm; subst hw)
          go_ret
          exact ⟨by rw [H.out]; first | rfl | simp, hb0 _⟩
      · have q : (l == []) = false := beq_eq_false_iff_ne.2 p
        replace H : Hid (R = false) := H.out.trans (decide_eq_false p)
        rcases hD with rfl | rfl
        all_goals
          go_enter Tryz.func85, Tryz.ntmps85
          go_wp2_with (go_at_call 45; refine (ci _).mono ?_; rintro e w2 ⟨rfl, hw⟩; have hw := hw.symm; subst hw)
          go_ret
          exact ⟨by rw [H.out]; first | rfl | simp [q, p], hb0 _⟩
  have e30 : (c == 30) = false := beq_eq_false_iff_ne.2 fun h => hD (by omega)
  have e31 : (c == 31) = false := beq_eq_false_iff_ne.2 fun h => hD (by omega)
  by_cases hE : c = 33
  · have H : Hid (R = (decide (0 ≤ n ∧ n ≤ 1) && decide (l = []))) := by
      show R = _
      rw [hR, ← empty_is]
      rw [show decide (0 ≤ n ∧ n ≤ 1) = decide (n = 0 ∨ n = 1) by congr 1; exact propext ⟨fun h => by omega, fun h => by omega⟩]
      subst hE; rfl
    have ci := fun w => sIn n 0 1 w
    generalize decide (0 ≤ n ∧ n ≤ 1) = D at *
    clear hR hP _hl
    cases D
    · replace H : Hid (R = false) := H.out
      subst hE
      all_goals
        go_enter Tryz.func85, Tryz.ntmps85
        go_wp2_with (go_at_call 45; refine (ci _).mono ?_; rintro e w2 ⟨rfl, hw⟩; have hw := hw.symm; subst hw)
        go_ret
        exact ⟨by rw [H.out]; rfl, hb0 _⟩
    · replace H : Hid (R = decide (l = [])) := H.out.trans (Bool.true_and _)
      by_cases p : l = []
      · subst p
        replace H : Hid (R = true) := H.out
        subst hE
        all_goals
          go_enter Tryz.func85, Tryz.ntmps85
          go_wp2_with (go_at_call 45; refine (ci _).mono ?_; rintro e w2 ⟨rfl, hw⟩; have hw := hw.symm; subst hw)
          go_ret
          exact ⟨by rw [H.out]; first | rfl | simp, hb0 _⟩
      · have q : (l == []) = false := beq_eq_false_iff_ne.2 p
        replace H : Hid (R = false) := H.out.trans (decide_eq_false p)
        subst hE
        all_goals
          go_enter Tryz.func85, Tryz.ntmps85
          go_wp2_with (go_at_call 45; refine (ci _).mono ?_; rintro e w2 ⟨rfl, hw⟩; have hw := hw.symm; subst hw)
          go_ret
          exact ⟨by rw [H.out]; first | rfl | simp [q, p], hb0 _⟩
  have e33 : (c == 33) = false := beq_eq_false_iff_ne.2 fun h => hE (by omega)
  have H : Hid (R = (decide (1 ≤ c ∧ c ≤ 36) && (decide (n = 0) && decide (l = [])))) := by
    show R = _
    rw [hR, ← empty_is]
    have k1 : kn c = 0 := by unfold kn; rw [if_neg h1, if_neg hA, if_neg hB, if_neg hD, if_neg h29, if_neg hE]
    have k2 : ks c = 0 := by unfold ks; rw [if_neg h2, if_neg hC, if_neg h29]
    unfold opB
    simp only [k1, k2]
    rfl
  have ci := fun w => sIn c 1 36 w
  generalize decide (1 ≤ c ∧ c ≤ 36) = D at *
  clear hR hP _hl h1 h2 hA hB hC h29 hD hE
  cases D
  · replace H : Hid (R = false) := H.out
    go_enter Tryz.func85, Tryz.ntmps85
    go_wp2_with (go_at_call 45; refine (ci _).mono ?_; rintro e w2 ⟨rfl, hw⟩; have hw := hw.symm; subst hw)
    go_ret
    exact ⟨by rw [H.out]; rfl, hb0 _⟩
  · replace H : Hid (R = (decide (n = 0) && decide (l = []))) := H.out.trans (Bool.true_and _)
    by_cases p0 : n = 0
    · subst p0
      replace H : Hid (R = decide (l = [])) := H.out.trans (Bool.true_and _)
      by_cases p : l = []
      · subst p
        replace H : Hid (R = true) := H.out
        go_enter Tryz.func85, Tryz.ntmps85
        go_wp2_with (go_at_call 45; refine (ci _).mono ?_; rintro e w2 ⟨rfl, hw⟩; have hw := hw.symm; subst hw)
        go_ret
        exact ⟨by rw [H.out]; first | rfl | simp, hb0 _⟩
      · have q : (l == []) = false := beq_eq_false_iff_ne.2 p
        replace H : Hid (R = false) := H.out.trans (decide_eq_false p)
        go_enter Tryz.func85, Tryz.ntmps85
        go_wp2_with (go_at_call 45; refine (ci _).mono ?_; rintro e w2 ⟨rfl, hw⟩; have hw := hw.symm; subst hw)
        go_ret
        exact ⟨by rw [H.out]; first | rfl | simp [q, p], hb0 _⟩
    · have q0 : (n == 0) = false := beq_eq_false_iff_ne.2 p0
      replace H : Hid (R = false) := H.out.trans (by rw [decide_eq_false p0, Bool.false_and])
      go_enter Tryz.func85, Tryz.ntmps85
      go_wp2_with (go_at_call 45; refine (ci _).mono ?_; rintro e w2 ⟨rfl, hw⟩; have hw := hw.symm; subst hw)
      go_ret
      exact ⟨by rw [H.out]; first | rfl | simp [q0], hb0 _⟩

end Oc
end Go.Proofs.YtkhoccjfkkfipaaGreatDoor
