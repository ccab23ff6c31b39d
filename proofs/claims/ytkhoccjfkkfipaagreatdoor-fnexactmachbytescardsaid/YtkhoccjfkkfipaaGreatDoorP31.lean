/-
  A set of chapter 3.
  Atoms of chapter 3.
-/
import Derived.Test.YtkhoccjfkkfipaaGreatDoorP30
namespace Go.Proofs.YtkhoccjfkkfipaaGreatDoor
open Go.RowKit
namespace Rx

/-- How a reading ends: what is none is a panic. -/
def Reads (p : Nat) (s : ByteArray) (a : Addr) (w : World) (r : Option (Data × Nat)) (e : Ending) (w' : World) : Prop := match r with
  | none => e = .panicked [{ v := errV a, recovered := false }] ∧ w.grownBy w' (some p)
  | some (t, j) => ∃ v, e = .returned v ∧ PatIs w' t (Iv w.heap.size w'.heap.size) v ∧ Rd p s a j w' ∧ w.grownBy w' (some p)

theorem setLoop_step {g : Nat → Nat} {f i : Nat} {M : Nat → Bool} (h : g i ≠ 93) : setLoop g (f + 1) i M = match spanAt g i with
    | none => none
    | some (lo, hi, j) => setLoop g f j (spanOn M lo hi) := by
  rw [setLoop, spanAt]
  by_cases h1 : g i = 256
  · simp [h1]
  · rw [if_neg h1, if_neg h, if_neg h1]
    by_cases h2 : g (i + 1) = 45 ∧ g (i + 2) ≠ 93
    · rw [if_pos h2, if_pos h2]
      by_cases h3 : g (i + 2) = 256 ∨ g (i + 2) < g i
      · rw [if_pos h3, if_pos h3]
      · rw [if_neg h3, if_neg h3]
    · rw [if_neg h2, if_neg h2]

theorem span_in {s : ByteArray} {i lo hi j : Nat} (h : spanAt (gOf s) i = some (lo, hi, j)) : i < j ∧ j ≤ s.size ∧ lo < 256 ∧ hi < 256 ∧ lo ≤ hi := by
  unfold spanAt at h
  split at h
  · simp at h
  rename_i h1
  have h1 := in_of h1
  have h1' := gOf_lt h1
  split at h
  · split at h
    · simp at h
    · rename_i h2 h3
      have h4 := in_of (s := s) (i := i + 2) (by omega)
      have h4' := gOf_lt h4
      simp at h
      omega
  · simp at h
    omega

/-- The array of a set that is being read, at block q. -/
def Has (q : Nat) (M : Nat → Bool) (w : World) : Prop := w.heap[q]? = some (.cells (marks M) 267 (0, 0))

theorem has_cell {q : Nat} {M : Nat → Bool} {w : World} (h : Has q M w) {k : Nat} (hk : k < 256) : w.cell? ⟨q, k, none⟩ = some (.bool (M k)) := by
  rw [cell_of_row w q k _ _ _ h, marks_get M hk]

theorem has_set {q : Nat} {M : Nat → Bool} {w : World} (h : Has q M w) (k : Nat) : Has q (fun b => M b || decide (b = k)) (w.setCell ⟨q, k, none⟩ (.bool true)) := by
  unfold Has at h ⊢
  have hm : (marks M).set! k (.bool true) = marks (fun b => M b || decide (b = k)) := by
    apply Array.ext_getElem?
    intro j
    rw [Array.set!_eq_setIfInBounds, Array.getElem?_setIfInBounds]
    by_cases hj : j < 256
    · rw [marks_get _ hj, marks_get _ hj]
      by_cases e : k = j
      · subst e; simp [marks_size, hj]
      · simp [e, show ¬ j = k by omega]
    · have a1 : (marks M)[j]? = none := Array.getElem?_eq_none (by rw [marks_size]; omega)
      have a2 : (marks fun b => M b || decide (b = k))[j]? = none := Array.getElem?_eq_none (by rw [marks_size]; omega)
      rw [a1, a2]
      by_cases e : k = j
      · subst e; simp [marks_size, hj]
      · simp [e]
  rw [← hm]
  simp [World.setCell, Array.getElem?_modify, h]

theorem has_load {q : Nat} {M : Nat → Bool} {w : World} (h : Has q M w) : (Instr.loadAt 267 (.pointer (some ⟨q, 0, none⟩))).run Tryz.prog w = .ok (.agg (marks M)) w := by
  simp only [Instr.loadAt, Instr.sureAddr, Sem.run_bind, Sem.run_pure, Result.andThen]
  exact run_loadVar_row _ _ _ _ _ (0, 0) _ h (show Tryz.prog.underlying 267 = some (.array 256 4) by kernel_rfl) rfl (by rw [marks_size]; kernel_rfl)

theorem Has.lt {q : Nat} {M : Nat → Bool} {w : World} (h : Has q M w) : q < w.heap.size := World.block_lt_of_cell? w ⟨q, 0, none⟩ (has_cell h (by omega))
theorem Has.grown {q p : Nat} {M : Nat → Bool} {w w' : World} (h : Has q M w) (hg : w.grownBy w' (some p)) (hpq : p ≠ q) : Has q M w' := (hg.block q h.lt (by simp; omega)).trans h
theorem has_frozen {q k : Nat} {M : Nat → Bool} {w : World} (h : Has q M w) : w.frozen? ⟨q, k, none⟩ = false := by
  unfold Has at h
  simp [World.frozen?, h]

theorem grown_set_new {w wq : World} {row : Option Nat} (h : w.grownBy wq row) {x : Addr} (hq : w.heap.size ≤ x.block) (v : Value) : w.grownBy (wq.setCell x v) row :=
  ⟨h.os, h.tape, h.output, by simpa using h.size, fun k hk hne => (Below.heap_setCell _ _ _ _ (by omega)).trans (h.block k hk hne)⟩

/-- What is in behind n of a row. -/
def spanTo (M : Nat → Bool) (lo n : Nat) : Nat → Bool := fun b => M b || (decide (lo ≤ b) && decide (b < n))
theorem spanTo_zero (M : Nat → Bool) (lo : Nat) : spanTo M lo lo = M := by
  funext b
  unfold spanTo
  by_cases h : lo ≤ b
  · rw [decide_eq_false (show ¬ b < lo by omega)]; simp
  · rw [decide_eq_false h]; simp
theorem spanTo_next (M : Nat → Bool) {lo n : Nat} (h : lo ≤ n) : (fun b => spanTo M lo n b || decide (b = n)) = spanTo M lo (n + 1) := by
  funext b
  unfold spanTo
  by_cases h1 : b = n
  · subst h1; simp [h]
  · rw [decide_eq_false h1, show decide (b < n + 1) = decide (b < n) from decide_eq_decide.2 (by omega)]; simp
theorem spanTo_all (M : Nat → Bool) (lo hi : Nat) : spanTo M lo (hi + 1) = spanOn M lo hi := by
  funext b
  unfold spanTo spanOn
  rw [show decide (b < hi + 1) = decide (b ≤ hi) from decide_eq_decide.2 (by omega)]

/-- Where the reader is. -/
def posOf (p : Nat) (w : World) : Nat := match w.cell? ⟨p, 1, none⟩ with
  | some (.int _ n) => n.toNat
  | _ => 0
theorem posOf_is {p : Nat} {s : ByteArray} {a : Addr} {i : Nat} {w : World} (h : Rd p s a i w) : posOf p w = i := by unfold posOf; rw [h.pos]; simp

set_option maxRecDepth 100000 in
theorem iSet {p : Nat} {s : ByteArray} {a : Addr} {i : Nat} {w : World} (h : Rd p s a i w) (hi : i ≤ s.size) (hs : s.size ≤ 1000) :
    Calls Tryz.prog 191 #[.pointer (some ⟨p, 0, none⟩)] w fun e w' => Reads p s a w (setAt (gOf s) s.size i) e w' := by
  obtain ⟨j0, hj0⟩ : ∃ j0, j0 = if gOf s i = 94 then i + 1 else i := ⟨_, rfl⟩
  have hj0le : j0 ≤ s.size := by
    rw [hj0]
    split
    · have := in_of (s := s) (i := i) (by omega); omega
    · exact hi
  have HR : Hid (setAt (gOf s) s.size i = setEnd (decide (gOf s i = 94)) (setLoop (gOf s) (s.size + 1) j0 fun _ => false)) := by
    unfold setAt; rw [← hj0]; rfl
  generalize setAt (gOf s) s.size i = R at HR ⊢
  go_enter Tryz.func191, Tryz.ntmps191
  go_wp2_with (first | (go_at_call 166; refine (iTakeIf h hi hs 94 (by omega)).mono ?_; rintro e w1 ⟨rfl, h1, hg1⟩; rw [← hj0] at h1) | (refine wpList_alloc_whole rfl 267 rfl _ _ (alloc_whole _) ?_; simp [Act.put]))
  have hq1 := h1.lt
  have hg0 : w.grownBy (w1.alloc (.cells (marks fun _ => false) 267)) (some p) := hg1.trans (World.grownBy_alloc _ _ _)
  have h1' : Rd p s a j0 (w1.alloc (.cells (marks fun _ => false) 267)) := h1.grown (World.grownBy_alloc _ _ none) (by simp) (by simp)
  have hH1 : Has w1.heap.size (fun _ => false) (w1.alloc (.cells (marks fun _ => false) 267)) := heap_alloc_last w1 _
  obtain ⟨RL, hRL⟩ : ∃ RL, setLoop (gOf s) (s.size + 1) j0 (fun _ => false) = RL := ⟨_, rfl⟩
  have HL : Hid (setLoop (gOf s) (s.size + 1) j0 (fun _ => false) = RL) := hRL
  obtain ⟨q, hq⟩ : ∃ q, q = w1.heap.size := ⟨_, rfl⟩
  have hwq : w.heap.size ≤ q := by rw [hq]; exact hg1.size
  rw [← hq] at hH1
  have hpq : p ≠ q := by omega
  have heq : 0 ≠ q := by have := h1.elt; omega
  have hj0' : Hid (j0 ≤ s.size) := hj0le
  clear hj0 hRL hj0le
  subst hq
  go_loopw [] (fun wr => ∃ k M f, Rd p s a k wr ∧ k ≤ s.size ∧ Has w1.heap.size M wr ∧ s.size < f + k ∧ setLoop (gOf s) f k M = RL ∧ w.grownBy wr (some p)) (fun wr => s.size - posOf p wr)
  case atStart => exact ⟨j0, _, s.size + 1, h1', hj0'.out, hH1, by omega, HL.out, hg0⟩
  case round =>
    obtain ⟨k, M, f, hr, hk, hH, hf, hR, hg⟩ := hrel
    obtain ⟨f, rfl⟩ : ∃ f', f = f' + 1 := ⟨f - 1, by omega⟩
    have HR2 : Hid (setLoop (gOf s) (f + 1) k M = RL) := hR
    have HH : Hid (Has w1.heap.size M wr) := hH
    clear hR hH hH1 h1' hg0 h1 hg1 h
    by_cases h93 : gOf s k = 93
    · have e1 : decide (gOf s k = 93) = true := decide_eq_true h93
      have hkl := in_of (s := s) (i := k) (by omega)
      have HR3 : Hid (RL = some (M, k + 1)) := by
        rw [← HR2.out, setLoop, if_neg (by omega), if_pos h93]; rfl
      by_cases hb : bytesOf M = []
      · have HR4 : Hid (R = none) := by show R = none; rw [HR.out, HL.out, HR3.out]; simp [setEnd, hb]
        have hb' : (bytesOf M).isEmpty = true := by rw [hb]; rfl
        clear hb
        go_wp2_with (first | (go_at_call 166; refine (iTakeIf hr hk hs 93 (by omega)).mono ?_; rintro e w2 ⟨rfl, h2, hg2⟩; rw [if_pos h93] at h2; have hH2 := (HH.out.grown hg2 hpq)) | (refine wpList_load_whole rfl 267 (.tmp 4) rfl _ (has_load hH2) ?_) | (go_at_call 197; refine (iListed M _).mono ?_; rintro e w3 ⟨rfl, hb3⟩; have c3 := (h2.below hb3 h2.lt h2.elt).err))
        refine ⟨rfl, ?_⟩
        rw [HR4.out]
        exact ⟨rfl, (hg.trans hg2).trans (grown_of_below hb3 _)⟩
      · have HR4 : Hid (R = some (setOf M (decide (gOf s i = 94)), k + 1)) := by show R = _; rw [HR.out, HL.out, HR3.out]; simp [setEnd, hb]
        have hb' : (bytesOf M).isEmpty = false := by simpa using hb
        clear hb
        go_wp2_with (first | (go_at_call 166; refine (iTakeIf hr hk hs 93 (by omega)).mono ?_; rintro e w2 ⟨rfl, h2, hg2⟩; rw [if_pos h93] at h2; have hH2 := (HH.out.grown hg2 hpq)) | (refine wpList_load_whole rfl 267 (.tmp 4) rfl _ (has_load hH2) ?_) | (go_at_call 197; refine (iListed M _).mono ?_; rintro e w3 ⟨rfl, hb3⟩))
        go_ret
        rw [HR4.out]
        refine ⟨_, rfl, ?_, h2.below hb3 h2.lt h2.elt, (hg.trans hg2).trans (grown_of_below hb3 _)⟩
        unfold setOf
        rw [pat_nd]
        exact .inl ⟨rfl, .inr (.inr (.inl ⟨rfl, rfl, rfl⟩))⟩
    · have e1 : decide (gOf s k = 93) = false := decide_eq_false h93
      have HR3 := setLoop_step (g := gOf s) (f := f) (i := k) (M := M) h93
      rcases hsp : spanAt (gOf s) k with _ | ⟨lo, hi', j⟩
      · have HR4 : Hid (R = none) := by show R = none; rw [HR.out, HL.out, ← HR2.out, HR3, hsp]; rfl
        clear HR3
        go_wp2_with (first | (go_at_call 166; refine (iTakeIf hr hk hs 93 (by omega)).mono ?_; rintro e w2 ⟨rfl, h2, hg2⟩; rw [if_neg h93] at h2) | (go_at_call 196; refine (iSpan h2 hk hs).mono ?_; intro e w3 h3; rw [hsp] at h3; obtain ⟨rfl, hg3⟩ := h3))
        refine ⟨rfl, ?_⟩
        rw [HR4.out]
        exact ⟨rfl, (hg.trans hg2).trans hg3⟩
      · obtain ⟨b1, b2, b3, b4, b5⟩ := span_in hsp
        have HR4 : Hid (setLoop (gOf s) f j (spanOn M lo hi') = RL) := by show _ = _; rw [← HR2.out, HR3, hsp]
        clear HR3
        go_wp2_with (first | (go_at_call 166; refine (iTakeIf hr hk hs 93 (by omega)).mono ?_; rintro e w2 ⟨rfl, h2, hg2⟩; rw [if_neg h93] at h2) | (go_at_call 196; refine (iSpan h2 hk hs).mono ?_; intro e w3 h3; rw [hsp] at h3; obtain ⟨rfl, h3, hg3⟩ := h3))
        have hH3 := (HH.out.grown hg2 hpq).grown hg3 hpq
        rw [← spanTo_zero M lo] at hH3
        have hg4 := (hg.trans hg2).trans hg3
        have HP : Hid (posOf p wr = k) := posOf_is hr
        clear HH hr h2 hg2 hg hg3 e1 h93
        go_loopw [7] (fun b wq => ∃ n : Nat, b = .int .i64 n ∧ lo ≤ n ∧ n ≤ hi' + 1 ∧ Rd p s a j wq ∧ Has w1.heap.size (spanTo M lo n) wq ∧ w.grownBy wq (some p)) (fun b _ => 300 - (intOf b).toNat)
        case atStart => exact ⟨lo, rfl, Nat.le_refl _, by omega, h3, hH3, hg4⟩
        case round =>
          obtain ⟨n, rfl, n1, n2, hr5, hH5, hg5⟩ := hrel
          by_cases hn : n ≤ hi'
          · have hc := has_cell hH5 (k := n) (by omega)
            have hfr := has_frozen (k := n) hH5
            go_wp2_with fail
            go_roundw
            case rel =>
              refine ⟨n + 1, by go_num, by omega, by omega, ?_, ?_, ?_⟩
              · exact hr5.kept (Below.heap_setCell _ _ _ _ hpq) (Below.heap_setCell _ _ _ _ heq)
              · rw [← spanTo_next M n1]
                exact has_set hH5 n
              · exact grown_set_new hg5 hwq _
            case measure => simp [intOf]; omega
          · obtain rfl : n = hi' + 1 := by omega
            rw [spanTo_all] at hH5
            go_wp2_with fail
            go_roundw
            case rel => exact ⟨j, _, f, hr5, b2, hH5, by omega, HR4.out, hg5⟩
            case measure => rw [HP.out, posOf_is hr5]; omega

end Rx
end Go.Proofs.YtkhoccjfkkfipaaGreatDoor
namespace Go.Proofs.YtkhoccjfkkfipaaGreatDoor
open Go.RowKit
namespace Rx

/-- From place m on, the function F of the reader reads as r tells. -/
def Parses (F : Nat) (p : Nat) (s : ByteArray) (a : Addr) (m : Nat) (r : Nat → Option (Data × Nat)) : Prop :=
  ∀ (i : Nat) (w : World), Rd p s a i w → i ≤ s.size → m ≤ i → Calls Tryz.prog F #[.pointer (some ⟨p, 0, none⟩)] w fun e w' => Reads p s a w (r i) e w'

theorem reads_none {p : Nat} {s : ByteArray} {a : Addr} {w w' : World} {r : Option (Data × Nat)} {e : Ending} (h : Reads p s a w r e w') (hr : r = none) : e = .panicked [{ v := errV a, recovered := false }] ∧ w.grownBy w' (some p) := by
  rw [hr] at h; exact h
theorem reads_some {p : Nat} {s : ByteArray} {a : Addr} {w w' : World} {r : Option (Data × Nat)} {e : Ending} {t : Data} {j : Nat} (h : Reads p s a w r e w') (hr : r = some (t, j)) :
    ∃ v, e = .returned v ∧ PatIs w' t (Iv w.heap.size w'.heap.size) v ∧ Rd p s a j w' ∧ w.grownBy w' (some p) := by
  rw [hr] at h; exact h

/-- What was read stays, where only the reader turns. -/
theorem pat_grown {p : Nat} {w w' : World} {lo hi lo' hi' : Nat} {t : Data} {v : Value} (h : PatIs w t (Iv lo hi) v) (hg : w.grownBy w' (some p)) (hp : p < lo) (h1 : hi ≤ w.heap.size) (h2 : lo' ≤ lo) (h3 : hi ≤ hi') : PatIs w' t (Iv lo' hi') v :=
  pat_frame (fun k hk => hg.block k (by have := hk.2; omega) (by have := hk.1; simp; omega)) (fun k hk => ⟨by have := hk.1; omega, by have := hk.2; omega⟩) t v h

theorem iBracketed {p : Nat} {s : ByteArray} {a : Addr} {m : Nat} {r : Nat → Option (Data × Nat)} (hs : s.size ≤ 1000) (hr : ∀ i t j, r i = some (t, j) → i ≤ j ∧ (i ≤ s.size → j ≤ s.size))
    (hP : Parses 151 p s a m r) : Parses 190 p s a m fun i => shut (gOf s) (r i) := by
  intro i w h hi hm
  obtain ⟨R, hR⟩ : ∃ R, R = shut (gOf s) (r i) := ⟨_, rfl⟩
  show Calls _ _ _ _ fun e w' => Reads p s a w (shut (gOf s) (r i)) e w'
  rw [← hR]
  rcases hq : r i with _ | ⟨t, j⟩
  · have HR : Hid (R = none) := by show R = none; rw [hR, hq]; rfl
    clear hR
    go_enter Tryz.func190, Tryz.ntmps190
    go_wp2_with (go_at_call 151; refine (hP i w h hi hm).mono ?_; intro e w1 h1; obtain ⟨rfl, hg1⟩ := reads_none h1 hq)
    refine ⟨rfl, ?_⟩
    rw [HR.out]
    exact ⟨rfl, hg1⟩
  · have hj := (hr i t j hq).2 hi
    by_cases h41 : gOf s j = 41
    · have HR : Hid (R = some (t, j + 1)) := by show _ = _; rw [hR, hq]; simp [shut, h41]
      clear hR
      have e1 : decide (gOf s j = 41) = true := decide_eq_true h41
      go_enter Tryz.func190, Tryz.ntmps190
      go_wp2_with (first | (go_at_call 151; refine (hP i w h hi hm).mono ?_; intro e w1 h1; obtain ⟨v, rfl, hv, h2, hg1⟩ := reads_some h1 hq) | (go_at_call 166; refine (iTakeIf h2 hj hs 41 (by omega)).mono ?_; rintro e w2 ⟨rfl, h3, hg2⟩; rw [if_pos h41] at h3))
      go_ret
      rw [HR.out]
      exact ⟨v, rfl, pat_grown hv hg2 h.lt (Nat.le_refl _) (Nat.le_refl _) hg2.size, h3, hg1.trans hg2⟩
    · have HR : Hid (R = none) := by show _ = _; rw [hR, hq]; simp [shut, h41]
      clear hR
      have e1 : decide (gOf s j = 41) = false := decide_eq_false h41
      go_enter Tryz.func190, Tryz.ntmps190
      go_wp2_with (first | (go_at_call 151; refine (hP i w h hi hm).mono ?_; intro e w1 h1; obtain ⟨v, rfl, hv, h2, hg1⟩ := reads_some h1 hq) | (go_at_call 166; refine (iTakeIf h2 hj hs 41 (by omega)).mono ?_; rintro e w2 ⟨rfl, h3, hg2⟩; have c3 := h3.err))
      refine ⟨rfl, ?_⟩
      rw [HR.out]
      exact ⟨rfl, hg1.trans hg2⟩

theorem reads_left {p : Nat} {s : ByteArray} {a : Addr} {w w1 w' : World} {r : Option (Data × Nat)} {e : Ending} (hg : w.grownBy w1 (some p)) (h : Reads p s a w1 r e w') : Reads p s a w r e w' := by
  rcases r with _ | ⟨t, j⟩
  · exact ⟨h.1, hg.trans h.2⟩
  · obtain ⟨v, h1, h2, h3, h4⟩ := h
    exact ⟨v, h1, pat_frame (fun _ _ => rfl) (fun k hk => ⟨Nat.le_trans hg.size hk.1, hk.2⟩) t v h2, h3, hg.trans h4⟩

theorem pat_leaf {w : World} {S : Nat → Prop} {op c : Nat} {s : List UInt8} {no : Bool} {v : Value} (h : Leaf op c s no v) : PatIs w (nd op c s no []) S v := by
  rw [pat_nd]
  exact .inl ⟨rfl, h⟩

set_option maxHeartbeats 1000000 in
theorem iAtom {p : Nat} {s : ByteArray} {a : Addr} {m : Nat} {r : Nat → Option (Data × Nat)} (hs : s.size ≤ 1000) (hr : ∀ i t j, r i = some (t, j) → i ≤ j ∧ (i ≤ s.size → j ≤ s.size))
    (hP : Parses 151 p s a (m + 1) r) : Parses 181 p s a m (atomAt (gOf s) s.size r) := by
  intro i w h hi hm
  obtain ⟨R, hR⟩ : ∃ R, R = atomAt (gOf s) s.size r i := ⟨_, rfl⟩
  rw [← hR]
  unfold atomAt at hR
  rcases Nat.lt_or_ge i s.size with hq | hq
  · have hlt := gOf_lt hq
    rw [if_neg (show gOf s i ≠ 256 by omega)] at hR
    by_cases h40 : gOf s i = 40
    · rw [if_pos h40] at hR
      have HR : Hid (R = shut (gOf s) (r (i + 1))) := hR
      clear hR
      rcases hq2 : shut (gOf s) (r (i + 1)) with _ | ⟨t, j⟩
      · go_enter Tryz.func181, Tryz.ntmps181
        go_wp2_with (first | (go_at_call 189; with_reducible refine (iTake h hq hs).mono ?_; rintro e w1 ⟨rfl, h1, hg1⟩; simp only [h40]) | (go_at_call 190; refine (iBracketed hs hr hP (i + 1) w1 h1 (by omega) (by omega)).mono ?_; intro e w2 h2; obtain ⟨rfl, hg2⟩ := reads_none h2 hq2))
        refine ⟨rfl, ?_⟩
        rw [HR.out, hq2]
        exact ⟨rfl, hg1.trans hg2⟩
      · go_enter Tryz.func181, Tryz.ntmps181
        go_wp2_with (first | (go_at_call 189; with_reducible refine (iTake h hq hs).mono ?_; rintro e w1 ⟨rfl, h1, hg1⟩; simp only [h40]) | (go_at_call 190; refine (iBracketed hs hr hP (i + 1) w1 h1 (by omega) (by omega)).mono ?_; intro e w2 h2; obtain ⟨v, rfl, hv, h3, hg2⟩ := reads_some h2 hq2))
        go_ret
        rw [HR.out, hq2]
        exact reads_left hg1 ⟨v, rfl, hv, h3, hg2⟩
    rw [if_neg h40] at hR
    by_cases h46 : gOf s i = 46
    · rw [if_pos h46] at hR
      have HR : Hid (R = some (leaf 2, i + 1)) := hR
      clear hR
      go_enter Tryz.func181, Tryz.ntmps181
      go_wp2_with (go_at_call 189; with_reducible refine (iTake h hq hs).mono ?_; rintro e w1 ⟨rfl, h1, hg1⟩; simp only [h46])
      go_ret
      rw [HR.out]
      exact ⟨_, rfl, pat_leaf (.inr (.inl ⟨rfl, rfl, rfl, rfl, rfl⟩)), h1, hg1⟩
    rw [if_neg h46] at hR
    by_cases h94 : gOf s i = 94
    · rw [if_pos h94] at hR
      have HR : Hid (R = some (leaf 4, i + 1)) := hR
      clear hR
      go_enter Tryz.func181, Tryz.ntmps181
      go_wp2_with (go_at_call 189; with_reducible refine (iTake h hq hs).mono ?_; rintro e w1 ⟨rfl, h1, hg1⟩; simp only [h94])
      go_ret
      rw [HR.out]
      exact ⟨_, rfl, pat_leaf (.inr (.inr (.inr (.inl ⟨rfl, rfl, rfl, rfl, rfl⟩)))), h1, hg1⟩
    rw [if_neg h94] at hR
    by_cases h36 : gOf s i = 36
    · rw [if_pos h36] at hR
      have HR : Hid (R = some (leaf 5, i + 1)) := hR
      clear hR
      go_enter Tryz.func181, Tryz.ntmps181
      go_wp2_with (go_at_call 189; with_reducible refine (iTake h hq hs).mono ?_; rintro e w1 ⟨rfl, h1, hg1⟩; simp only [h36])
      go_ret
      rw [HR.out]
      exact ⟨_, rfl, pat_leaf (.inr (.inr (.inr (.inr (.inl ⟨rfl, rfl, rfl, rfl, rfl⟩))))), h1, hg1⟩
    rw [if_neg h36] at hR
    by_cases h91 : gOf s i = 91
    · rw [if_pos h91] at hR
      have HR : Hid (R = setAt (gOf s) s.size (i + 1)) := hR
      clear hR
      rcases hq2 : setAt (gOf s) s.size (i + 1) with _ | ⟨t, j⟩
      · go_enter Tryz.func181, Tryz.ntmps181
        go_wp2_with (first | (go_at_call 189; with_reducible refine (iTake h hq hs).mono ?_; rintro e w1 ⟨rfl, h1, hg1⟩; simp only [h91]) | (go_at_call 191; refine (iSet h1 hq hs).mono ?_; intro e w2 h2; obtain ⟨rfl, hg2⟩ := reads_none h2 hq2))
        refine ⟨rfl, ?_⟩
        rw [HR.out, hq2]
        exact ⟨rfl, hg1.trans hg2⟩
      · go_enter Tryz.func181, Tryz.ntmps181
        go_wp2_with (first | (go_at_call 189; with_reducible refine (iTake h hq hs).mono ?_; rintro e w1 ⟨rfl, h1, hg1⟩; simp only [h91]) | (go_at_call 191; refine (iSet h1 hq hs).mono ?_; intro e w2 h2; obtain ⟨v, rfl, hv, h3, hg2⟩ := reads_some h2 hq2))
        go_ret
        rw [HR.out, hq2]
        exact reads_left hg1 ⟨v, rfl, hv, h3, hg2⟩
    rw [if_neg h91] at hR
    by_cases h92 : gOf s i = 92
    · rw [if_pos h92] at hR
      rcases Nat.lt_or_ge (i + 1) s.size with hq2 | hq2
      · have hlt2 := gOf_lt hq2
        rw [if_neg (show gOf s (i + 1) ≠ 256 by omega)] at hR
        have HR : Hid (R = some (chr (gOf s (i + 1)), i + 2)) := hR
        clear hR
        go_enter Tryz.func181, Tryz.ntmps181
        go_wp2_with (first | (go_at_call 189; with_reducible refine (iTake h hq hs).mono ?_; rintro e w1 ⟨rfl, h1, hg1⟩; simp only [h92]) | (go_at_call 189; with_reducible refine (iTake h1 hq2 hs).mono ?_; rintro e w2 ⟨rfl, h2, hg2⟩))
        go_ret
        rw [HR.out]
        exact ⟨_, rfl, pat_leaf (.inl ⟨rfl, hlt2, rfl, rfl, rfl⟩), h2, hg1.trans hg2⟩
      · rw [if_pos (gOf_out hq2)] at hR
        have HR : Hid (R = none) := hR
        clear hR
        go_enter Tryz.func181, Tryz.ntmps181
        go_wp2_with (first | (go_at_call 189; with_reducible refine (iTake h hq hs).mono ?_; rintro e w1 ⟨rfl, h1, hg1⟩; simp only [h92]) | (go_at_call 189; with_reducible refine (iTakeEnd h1 (by omega)).mono ?_; rintro e w2 ⟨rfl, hg2⟩))
        refine ⟨rfl, ?_⟩
        rw [HR.out]
        exact ⟨rfl, hg1.trans hg2⟩
    rw [if_neg h92] at hR
    by_cases hst : gOf s i = 42 ∨ gOf s i = 43 ∨ gOf s i = 63
    · rw [if_pos hst] at hR
      have HR : Hid (R = none) := hR
      clear hR
      rcases hst with h0 | h0 | h0
      · go_enter Tryz.func181, Tryz.ntmps181
        go_wp2_with (go_at_call 189; with_reducible refine (iTake h hq hs).mono ?_; rintro e w1 ⟨rfl, h1, hg1⟩; simp only [h0]; have c1 := h1.err)
        refine ⟨rfl, ?_⟩
        rw [HR.out]
        exact ⟨rfl, hg1⟩
      · go_enter Tryz.func181, Tryz.ntmps181
        go_wp2_with (go_at_call 189; with_reducible refine (iTake h hq hs).mono ?_; rintro e w1 ⟨rfl, h1, hg1⟩; simp only [h0]; have c1 := h1.err)
        refine ⟨rfl, ?_⟩
        rw [HR.out]
        exact ⟨rfl, hg1⟩
      · go_enter Tryz.func181, Tryz.ntmps181
        go_wp2_with (go_at_call 189; with_reducible refine (iTake h hq hs).mono ?_; rintro e w1 ⟨rfl, h1, hg1⟩; simp only [h0]; have c1 := h1.err)
        refine ⟨rfl, ?_⟩
        rw [HR.out]
        exact ⟨rfl, hg1⟩
    · rw [if_neg hst] at hR
      have HR : Hid (R = some (chr (gOf s i), i + 1)) := hR
      clear hR
      have n40 : ((gOf s i : Int) == 40) = false := by simp; omega
      have n46 : ((gOf s i : Int) == 46) = false := by simp; omega
      have n94 : ((gOf s i : Int) == 94) = false := by simp; omega
      have n36 : ((gOf s i : Int) == 36) = false := by simp; omega
      have n91 : ((gOf s i : Int) == 91) = false := by simp; omega
      have n92 : ((gOf s i : Int) == 92) = false := by simp; omega
      have n42 : ((gOf s i : Int) == 42) = false := by simp; omega
      have n43 : ((gOf s i : Int) == 43) = false := by simp; omega
      have n63 : ((gOf s i : Int) == 63) = false := by simp; omega
      go_enter Tryz.func181, Tryz.ntmps181
      go_wp2_with (go_at_call 189; with_reducible refine (iTake h hq hs).mono ?_; rintro e w1 ⟨rfl, h1, hg1⟩)
      go_ret
      rw [HR.out]
      exact ⟨_, rfl, pat_leaf (.inl ⟨rfl, hlt, rfl, rfl, rfl⟩), h1, hg1⟩
  · rw [if_pos (gOf_out hq)] at hR
    have HR : Hid (R = none) := hR
    clear hR
    go_enter Tryz.func181, Tryz.ntmps181
    go_wp2_with (go_at_call 189; with_reducible refine (iTakeEnd h (by omega)).mono ?_; rintro e w1 ⟨rfl, hg1⟩)
    refine ⟨rfl, ?_⟩
    rw [HR.out]
    exact ⟨rfl, hg1⟩

end Rx
end Go.Proofs.YtkhoccjfkkfipaaGreatDoor
