/-
  A set of chapter 3.
-/
import Derived.Test.YtkpgdlbcckmpkaaGreatDoorP31
namespace Go.Proofs.YtkpgdlbcckmpkaaGreatDoor
open Go.RowKit
namespace Rx

/-- How a reading ends: what is none is a panic. -/
def Reads (p : Nat) (s : ByteArray) (a : Addr) (w : World) (r : Option (Data × Nat)) (e : Ending) (w' : World) : Prop := match r with
  | none => e = .panicked [{ v := errV a, recovered := false }] ∧ w.grownBy w' (some p)
  | some (t, j) => ∃ v, e = .returned v ∧ PatIs w' t (Iv w.heap.size w'.heap.size) v ∧ Rd p s a j w' ∧ w.grownBy w' (some p)

theorem setLoop_step {g : Nat → Nat} {f i : Nat} {M : Nat → Bool} (h : g i ≠ 93) : setLoop g (f + 1) i M = match spanAt g i with
    | none => none
    | some (lo, hi, j) => setLoop g f j (spanOn M lo hi) := by
  rw [setLoop, spanAt]
  by_cases h1 : g i = 256
  · simp [h1]
  · rw [if_neg h1, if_neg h, if_neg h1]
    by_cases h2 : g (i + 1) = 45 ∧ g (i + 2) ≠ 93
    · rw [if_pos h2, if_pos h2]
      by_cases h3 : g (i + 2) = 256 ∨ g (i + 2) < g i
      · rw [if_pos h3, if_pos h3]
      · rw [if_neg h3, if_neg h3]
    · rw [if_neg h2, if_neg h2]

theorem span_in {s : ByteArray} {i lo hi j : Nat} (h : spanAt (gOf s) i = some (lo, hi, j)) : i < j ∧ j ≤ s.size ∧ lo < 256 ∧ hi < 256 ∧ lo ≤ hi := by
  unfold spanAt at h
  split at h
  · simp at h
  rename_i h1
  have h1 := in_of h1
  have h1' := gOf_lt h1
  split at h
  · split at h
    · simp at h
    · rename_i h2 h3
      have h4 := in_of (s := s) (i := i + 2) (by omega)
      have h4' := gOf_lt h4
      simp at h
      omega
  · simp at h
    omega

/-- The array of a set that is being read, at block q. -/
def Has (q : Nat) (M : Nat → Bool) (w : World) : Prop := w.heap[q]? = some (.cells (marks M) 166 (0, 0))

theorem has_cell {q : Nat} {M : Nat → Bool} {w : World} (h : Has q M w) {k : Nat} (hk : k < 256) : w.cell? ⟨q, k, none⟩ = some (.bool (M k)) := by
  rw [cell_of_row w q k _ _ _ h, marks_get M hk]

theorem has_set {q : Nat} {M : Nat → Bool} {w : World} (h : Has q M w) (k : Nat) : Has q (fun b => M b || decide (b = k)) (w.setCell ⟨q, k, none⟩ (.bool true)) := by
  unfold Has at h ⊢
  have hm : (marks M).set! k (.bool true) = marks (fun b => M b || decide (b = k)) := by
    apply Array.ext_getElem?
    intro j
    rw [Array.set!_eq_setIfInBounds, Array.getElem?_setIfInBounds]
    by_cases hj : j < 256
    · rw [marks_get _ hj, marks_get _ hj]
      by_cases e : k = j
      · subst e; simp [marks_size, hj]
      · simp [e, show ¬ j = k by omega]
    · have a1 : (marks M)[j]? = none := Array.getElem?_eq_none (by rw [marks_size]; omega)
      have a2 : (marks fun b => M b || decide (b = k))[j]? = none := Array.getElem?_eq_none (by rw [marks_size]; omega)
      rw [a1, a2]
      by_cases e : k = j
      · subst e; simp [marks_size, hj]
      · simp [e]
  rw [← hm]
  simp [World.setCell, Array.getElem?_modify, h]

theorem has_load {q : Nat} {M : Nat → Bool} {w : World} (h : Has q M w) : (Instr.loadAt 166 (.pointer (some ⟨q, 0, none⟩))).run Tryz.prog w = .ok (.agg (marks M)) w := by
  simp only [Instr.loadAt, Instr.sureAddr, Sem.run_bind, Sem.run_pure, Result.andThen]
  exact run_loadVar_row _ _ _ _ _ (0, 0) _ h (show Tryz.prog.underlying 166 = some (.array 256 4) by kernel_rfl) rfl (by rw [marks_size]; kernel_rfl)

theorem Has.lt {q : Nat} {M : Nat → Bool} {w : World} (h : Has q M w) : q < w.heap.size := World.block_lt_of_cell? w ⟨q, 0, none⟩ (has_cell h (by omega))
theorem Has.grown {q p : Nat} {M : Nat → Bool} {w w' : World} (h : Has q M w) (hg : w.grownBy w' (some p)) (hpq : p ≠ q) : Has q M w' := (hg.block q h.lt (by simp; omega)).trans h
theorem has_frozen {q k : Nat} {M : Nat → Bool} {w : World} (h : Has q M w) : w.frozen? ⟨q, k, none⟩ = false := by
  unfold Has at h
  simp [World.frozen?, h]

theorem grown_set_new {w wq : World} {row : Option Nat} (h : w.grownBy wq row) {x : Addr} (hq : w.heap.size ≤ x.block) (v : Value) : w.grownBy (wq.setCell x v) row :=
  ⟨h.os, h.tape, h.output, by simpa using h.size, fun k hk hne => (Below.heap_setCell _ _ _ _ (by omega)).trans (h.block k hk hne)⟩

/-- What is in behind n of a row. -/
def spanTo (M : Nat → Bool) (lo n : Nat) : Nat → Bool := fun b => M b || (decide (lo ≤ b) && decide (b < n))
theorem spanTo_zero (M : Nat → Bool) (lo : Nat) : spanTo M lo lo = M := by
  funext b
  unfold spanTo
  by_cases h : lo ≤ b
  · rw [decide_eq_false (show ¬ b < lo by omega)]; simp
  · rw [decide_eq_false h]; simp
theorem spanTo_next (M : Nat → Bool) {lo n : Nat} (h : lo ≤ n) : (fun b => spanTo M lo n b || decide (b = n)) = spanTo M lo (n + 1) := by
  funext b
  unfold spanTo
  by_cases h1 : b = n
  · subst h1; simp [h]
  · rw [decide_eq_false h1, show decide (b < n + 1) = decide (b < n) from decide_eq_decide.2 (by omega)]; simp
theorem spanTo_all (M : Nat → Bool) (lo hi : Nat) : spanTo M lo (hi + 1) = spanOn M lo hi := by
  funext b
  unfold spanTo spanOn
  rw [show decide (b < hi + 1) = decide (b ≤ hi) from decide_eq_decide.2 (by omega)]

/-- Where the reader is. -/
def posOf (p : Nat) (w : World) : Nat := match w.cell? ⟨p, 1, none⟩ with
  | some (.int _ n) => n.toNat
  | _ => 0
theorem posOf_is {p : Nat} {s : ByteArray} {a : Addr} {i : Nat} {w : World} (h : Rd p s a i w) : posOf p w = i := by unfold posOf; rw [h.pos]; simp

set_option maxRecDepth 100000 in
theorem iSet {p : Nat} {s : ByteArray} {a : Addr} {i : Nat} {w : World} (h : Rd p s a i w) (hi : i ≤ s.size) (hs : s.size ≤ 1000) :
    Calls Tryz.prog 101 #[.pointer (some ⟨p, 0, none⟩)] w fun e w' => Reads p s a w (setAt (gOf s) s.size i) e w' := by
  obtain ⟨j0, hj0⟩ : ∃ j0, j0 = if gOf s i = 94 then i + 1 else i := ⟨_, rfl⟩
  have hj0le : j0 ≤ s.size := by
    rw [hj0]
    split
    · have := in_of (s := s) (i := i) (by omega); omega
    · exact hi
  have HR : Hid (setAt (gOf s) s.size i = setEnd (decide (gOf s i = 94)) (setLoop (gOf s) (s.size + 1) j0 fun _ => false)) := by
    unfold setAt; rw [← hj0]; rfl
  generalize setAt (gOf s) s.size i = R at HR ⊢
  go_enter Tryz.func101, Tryz.ntmps101
  go_wp2_with (first | (go_at_call 92; refine (iTakeIf h hi hs 94 (by omega)).mono ?_; rintro e w1 ⟨rfl, h1, hg1⟩; rw [← hj0] at h1) | (refine wpList_alloc_whole rfl 166 rfl _ _ (alloc_whole _) ?_; simp [Act.put]))
  have hq1 := h1.lt
  have hg0 : w.grownBy (w1.alloc (.cells (marks fun _ => false) 166)) (some p) := hg1.trans (World.grownBy_alloc _ _ _)
  have h1' : Rd p s a j0 (w1.alloc (.cells (marks fun _ => false) 166)) := h1.grown (World.grownBy_alloc _ _ none) (by simp) (by simp)
  have hH1 : Has w1.heap.size (fun _ => false) (w1.alloc (.cells (marks fun _ => false) 166)) := heap_alloc_last w1 _
  obtain ⟨RL, hRL⟩ : ∃ RL, setLoop (gOf s) (s.size + 1) j0 (fun _ => false) = RL := ⟨_, rfl⟩
  have HL : Hid (setLoop (gOf s) (s.size + 1) j0 (fun _ => false) = RL) := hRL
  obtain ⟨q, hq⟩ : ∃ q, q = w1.heap.size := ⟨_, rfl⟩
  have hwq : w.heap.size ≤ q := by rw [hq]; exact hg1.size
  rw [← hq] at hH1
  have hpq : p ≠ q := by omega
  have heq : 0 ≠ q := by have := h1.elt; omega
  have hj0' : Hid (j0 ≤ s.size) := hj0le
  clear hj0 hRL hj0le
  subst hq
  go_loopw [] (fun wr => ∃ k M f, Rd p s a k wr ∧ k ≤ s.size ∧ Has w1.heap.size M wr ∧ s.size < f + k ∧ setLoop (gOf s) f k M = RL ∧ w.grownBy wr (some p)) (fun wr => s.size - posOf p wr)
  case atStart => exact ⟨j0, _, s.size + 1, h1', hj0'.out, hH1, by omega, HL.out, hg0⟩
  case round =>
    obtain ⟨k, M, f, hr, hk, hH, hf, hR, hg⟩ := hrel
    obtain ⟨f, rfl⟩ : ∃ f', f = f' + 1 := ⟨f - 1, by omega⟩
    have HR2 : Hid (setLoop (gOf s) (f + 1) k M = RL) := hR
    have HH : Hid (Has w1.heap.size M wr) := hH
    clear hR hH hH1 h1' hg0 h1 hg1 h
    by_cases h93 : gOf s k = 93
    · have e1 : decide (gOf s k = 93) = true := decide_eq_true h93
      have hkl := in_of (s := s) (i := k) (by omega)
      have HR3 : Hid (RL = some (M, k + 1)) := by
        rw [← HR2.out, setLoop, if_neg (by omega), if_pos h93]; rfl
      by_cases hb : bytesOf M = []
      · have HR4 : Hid (R = none) := by show R = none; rw [HR.out, HL.out, HR3.out]; simp [setEnd, hb]
        have hb' : (bytesOf M).isEmpty = true := by rw [hb]; rfl
        clear hb
        go_wp2_with (first | (go_at_call 92; refine (iTakeIf hr hk hs 93 (by omega)).mono ?_; rintro e w2 ⟨rfl, h2, hg2⟩; rw [if_pos h93] at h2; have hH2 := (HH.out.grown hg2 hpq)) | (refine wpList_load_whole rfl 166 (.tmp 4) rfl _ (has_load hH2) ?_) | (go_at_call 103; refine (iListed M _).mono ?_; rintro e w3 ⟨rfl, hb3⟩; have c3 := (h2.below hb3 h2.lt h2.elt).err))
        refine ⟨rfl, ?_⟩
        rw [HR4.out]
        exact ⟨rfl, (hg.trans hg2).trans (grown_of_below hb3 _)⟩
      · have HR4 : Hid (R = some (setOf M (decide (gOf s i = 94)), k + 1)) := by show R = _; rw [HR.out, HL.out, HR3.out]; simp [setEnd, hb]
        have hb' : (bytesOf M).isEmpty = false := by simpa using hb
        clear hb
        go_wp2_with (first | (go_at_call 92; refine (iTakeIf hr hk hs 93 (by omega)).mono ?_; rintro e w2 ⟨rfl, h2, hg2⟩; rw [if_pos h93] at h2; have hH2 := (HH.out.grown hg2 hpq)) | (refine wpList_load_whole rfl 166 (.tmp 4) rfl _ (has_load hH2) ?_) | (go_at_call 103; refine (iListed M _).mono ?_; rintro e w3 ⟨rfl, hb3⟩))
        go_ret
        rw [HR4.out]
        refine ⟨_, rfl, ?_, h2.below hb3 h2.lt h2.elt, (hg.trans hg2).trans (grown_of_below hb3 _)⟩
        unfold setOf
        rw [pat_nd]
        exact .inl ⟨rfl, .inr (.inr (.inl ⟨rfl, rfl, rfl⟩))⟩
    · have e1 : decide (gOf s k = 93) = false := decide_eq_false h93
      have HR3 := setLoop_step (g := gOf s) (f := f) (i := k) (M := M) h93
      rcases hsp : spanAt (gOf s) k with _ | ⟨lo, hi', j⟩
      · have HR4 : Hid (R = none) := by show R = none; rw [HR.out, HL.out, ← HR2.out, HR3, hsp]; rfl
        clear HR3
        go_wp2_with (first | (go_at_call 92; refine (iTakeIf hr hk hs 93 (by omega)).mono ?_; rintro e w2 ⟨rfl, h2, hg2⟩; rw [if_neg h93] at h2) | (go_at_call 102; refine (iSpan h2 hk hs).mono ?_; intro e w3 h3; rw [hsp] at h3; obtain ⟨rfl, hg3⟩ := h3))
        refine ⟨rfl, ?_⟩
        rw [HR4.out]
        exact ⟨rfl, (hg.trans hg2).trans hg3⟩
      · obtain ⟨b1, b2, b3, b4, b5⟩ := span_in hsp
        have HR4 : Hid (setLoop (gOf s) f j (spanOn M lo hi') = RL) := by show _ = _; rw [← HR2.out, HR3, hsp]
        clear HR3
        go_wp2_with (first | (go_at_call 92; refine (iTakeIf hr hk hs 93 (by omega)).mono ?_; rintro e w2 ⟨rfl, h2, hg2⟩; rw [if_neg h93] at h2) | (go_at_call 102; refine (iSpan h2 hk hs).mono ?_; intro e w3 h3; rw [hsp] at h3; obtain ⟨rfl, h3, hg3⟩ := h3))
        have hH3 := (HH.out.grown hg2 hpq).grown hg3 hpq
        rw [← spanTo_zero M lo] at hH3
        have hg4 := (hg.trans hg2).trans hg3
        have HP : Hid (posOf p wr = k) := posOf_is hr
        clear HH hr h2 hg2 hg hg3 e1 h93
        go_loopw [7] (fun b wq => ∃ n : Nat, b = .int .i64 n ∧ lo ≤ n ∧ n ≤ hi' + 1 ∧ Rd p s a j wq ∧ Has w1.heap.size (spanTo M lo n) wq ∧ w.grownBy wq (some p)) (fun b _ => 300 - (intOf b).toNat)
        case atStart => exact ⟨lo, rfl, Nat.le_refl _, by omega, h3, hH3, hg4⟩
        case round =>
          obtain ⟨n, rfl, n1, n2, hr5, hH5, hg5⟩ := hrel
          by_cases hn : n ≤ hi'
          · have hc := has_cell hH5 (k := n) (by omega)
            have hfr := has_frozen (k := n) hH5
            go_wp2_with fail
            go_roundw
            case rel =>
              refine ⟨n + 1, by go_num, by omega, by omega, ?_, ?_, ?_⟩
              · exact hr5.kept (Below.heap_setCell _ _ _ _ hpq) (Below.heap_setCell _ _ _ _ heq)
              · rw [← spanTo_next M n1]
                exact has_set hH5 n
              · exact grown_set_new hg5 hwq _
            case measure => simp [intOf]; omega
          · obtain rfl : n = hi' + 1 := by omega
            rw [spanTo_all] at hH5
            go_wp2_with fail
            go_roundw
            case rel => exact ⟨j, _, f, hr5, b2, hH5, by omega, HR4.out, hg5⟩
            case measure => rw [HP.out, posOf_is hr5]; omega

end Rx
end Go.Proofs.YtkpgdlbcckmpkaaGreatDoor

