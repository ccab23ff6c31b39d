/-
  The bytes of a set, listed.
  A set of chapter 3.
-/
import Derived.Test.YtaakeecliehjgaaGreatDoorP30
import Derived.Deep.WholeRow
namespace Go.Proofs.YtaakeecliehjgaaGreatDoor
open Go.RowKit
namespace Rx

/-- Which bytes are in, as an array of bools. -/
def marks (M : Nat → Bool) : Array Value := (Array.range 256).map fun b => .bool (M b)
theorem marks_size (M : Nat → Bool) : (marks M).size = 256 := by simp [marks]
theorem marks_get (M : Nat → Bool) {k : Nat} (h : k < 256) : (marks M)[k]? = some (.bool (M k)) := by simp [marks, h]

/-- Of the first k bytes those that are in. -/
def upTo (M : Nat → Bool) (k : Nat) : List Nat := (List.range k).filter M
theorem upTo_in {M : Nat → Bool} {k : Nat} (h : M k = true) : upTo M (k + 1) = upTo M k ++ [k] := by simp [upTo, List.range_succ, h]
theorem upTo_out {M : Nat → Bool} {k : Nat} (h : M k = false) : upTo M (k + 1) = upTo M k := by simp [upTo, List.range_succ, h]
theorem upTo_len (M : Nat → Bool) (k : Nat) : (upTo M k).length ≤ k := by have := List.length_filter_le M (List.range k); simpa [upTo] using this

def u8s (l : List Nat) : List Value := l.map fun (b : Nat) => Value.int .u8 b

/-! three operations on a whole array, as steps of their own -/
section
variable {P : Program} {ops : Array Oper} {rest : List Oper} {o : Oper} {a : Act} {Q : Exit → Act → World → Prop} {w : World}

theorem wpList_load_whole (hgd : o.guard = none) (t : TypeId) (s : Operand) (ho : o.op = .load t s) (x : Value) (hr : (Instr.loadAt t (a.eval s)).run P w = .ok x w)
    (h : wpList P ops Q rest (a.put o.dst x) w) : wpList P ops Q (o :: rest) a w := by
  refine wpList_plain hgd fun K hK => ?_
  unfold Oper.wp execOp
  simp only [ho, Sem.run_bind, Sem.run_pure, Result.andThen_ok, hr]
  exact hK _ _ h

theorem wpList_box_whole (hgd : o.guard = none) (t : TypeId) (s : Operand) (ho : o.op = .box t s) (x : Value) (w' : World) (hr : (Instr.box t (a.eval s)).run P w = .ok x w')
    (h : wpList P ops Q rest (a.put o.dst x) w') : wpList P ops Q (o :: rest) a w := by
  refine wpList_plain hgd fun K hK => ?_
  unfold Oper.wp execOp
  simp only [ho, Sem.run_bind, Sem.run_pure, Result.andThen_ok, hr]
  exact hK _ _ h

theorem wpList_alloc_whole (hgd : o.guard = none) (t : TypeId) (ho : o.op = .alloc t) (x : Value) (w' : World) (hr : (Instr.alloc t true (.tuple #[])).run P w = .ok x w')
    (h : wpList P ops Q rest (a.put o.dst x) w') : wpList P ops Q (o :: rest) a w := by
  refine wpList_plain hgd fun K hK => ?_
  unfold Oper.wp execOp
  simp only [ho, Sem.run_bind, Sem.run_pure, Result.andThen_ok, hr]
  exact hK _ _ h
end

theorem box_whole (M : Nat → Bool) (w : World) : (Instr.box 247 (.agg (marks M))).run Tryz.prog w = .ok (.pointer (some ⟨w.heap.size, 0, none⟩)) (w.alloc (.cells (marks M) 247)) := by
  rfl

theorem alloc_whole (w : World) : (Instr.alloc 247 true (.tuple #[])).run Tryz.prog w = .ok (.pointer (some ⟨w.heap.size, 0, none⟩)) (w.alloc (.cells (marks fun _ => false) 247)) := by
  kernel_rfl

theorem index_whole (M : Nat → Bool) {k : Nat} (h : k < 256) (w : World) : (Instr.index 247 (.agg (marks M)) (.int .i64 k)).run Tryz.prog w = .ok (.bool (M k)) w := by
  have hu : Tryz.prog.underlying 247 = some (.array 256 4) := by kernel_rfl
  have hk : (0 : Int) ≤ k ∧ (k : Int) < 256 := by omega
  simp [Instr.index, run_underlying hu, asIntOf, hk, go_sem, marks_get M h]
  intro h'
  omega

theorem Tryz.info5r : (Tryz.prog.info? 5).map (fun i => (i.zero, i.size, i.bytes)) = some (some (.int .u8 0), 1, 1) := by kernel_rfl

theorem conv_owned {w : World} {B : Nat} {v : Value} {l : List Nat} (h : w.ownsRow B 5 1 v l.length (u8s l)) (hl : ∀ b ∈ l, b < 256) :
    (convert 154 9 v).run Tryz.prog w = .ok (.string ⟨(l.map UInt8.ofNat).toArray⟩) w := by
  rcases h.2 with ⟨rfl, hn⟩ | ⟨g, cap, cur, rfl, _⟩
  · have : l = [] := List.length_eq_zero_iff.1 hn
    subst this
    rw [run_convert_bytes_string w 154 9 5 none 0 0 Tryz.underlying154 Tryz.underlying5 Tryz.underlying9]
    rfl
  · have hc := h.cells (g := g) rfl
    have := run_convert_bytes_back (P := Tryz.prog) w 154 9 5 ⟨g, 0, none⟩ cap (l.map UInt8.ofNat) Tryz.underlying154 Tryz.underlying5 Tryz.underlying9 (by
      intro j hj
      simp only [List.length_map] at hj
      refine hc j _ ?_
      have hb := hl l[j] (List.getElem_mem hj)
      simp only [u8s, List.getElem?_map, List.getElem?_eq_getElem hj, Option.map_some, List.getElem_map, UInt8.toNat_ofNat']
      rw [Nat.mod_eq_of_lt (by omega)])
    simpa using this

set_option maxRecDepth 100000 in
theorem iListed (M : Nat → Bool) (w : World) :
    Calls Tryz.prog 171 #[.agg (marks M)] w fun e w' => e = .returned (.string ⟨(bytesOf M).toArray⟩) ∧ Below w.heap.size w w' := by
  have hl := run_loadAt_new (P := Tryz.prog) w 247 (marks M) 256 4 (by kernel_rfl) (by rw [marks_size]; kernel_rfl)
  go_enter Tryz.func171, Tryz.ntmps171
  go_wp2_with (first | (refine wpList_box_whole rfl 247 (.tmp 0) rfl _ _ (box_whole M w) ?_) | (refine wpList_load_whole rfl 247 (.tmp 1) rfl _ hl ?_))
  obtain ⟨i0, hi, hz0, hz1, hz2⟩ := info_parts Tryz.info5r
  go_loopw [3, 7] (fun v i wr => ∃ k : Nat, k ≤ 256 ∧ i = .int .i64 k ∧ wr.ownsRow w.heap.size 5 1 v (upTo M k).length (u8s (upTo M k)) ∧ Below w.heap.size w wr) (fun _ i _ => 256 - (intOf i).toNat)
  case atStart => exact ⟨0, by omega, rfl, World.ownsRow_nil _ _ _ _, (Below.refl _ w).alloc (Nat.le_refl _) _⟩
  case round =>
    obtain ⟨k, hk, rfl, hown, hnx⟩ := hrel
    have hlen := upTo_len M k
    by_cases hkl : k < 256
    · have hmk := index_whole M hkl
      by_cases hM : M k = true
      · go_wp2_with (first | (at_builtin; refine wpList_append_own_at _ rfl _ _ 154 rfl w.heap.size 5 i0 (.int .u8 0) 1 1 Tryz.underlying154 hi hz0 hz1 hz2 rfl (by decide) _ _ _ rfl (hown.alloc _) ⟨wr.heap.size, 0, none⟩ 1 1 [.int .u8 k] rfl rfl (cell_one_new _ _ _) (by simp [Value.oneCell']) (by unfold maxLen; omega) (by omega) (by have := hnx.size; simp; omega) ?_; intro v' w1 hown' hgrow _ _))
        rw [← List.length_singleton (a := Value.int .u8 (k : Int))] at hown'
        go_roundw
        case rel =>
          refine ⟨k + 1, by omega, by go_num, ?_, ?_⟩
          · rw [upTo_in hM]
            simpa [u8s] using hown'
          · exact (hnx.alloc (by have := hnx.size; omega) _).grown hgrow (by have := hnx.size; simp; omega) (fun b hb => (hown.lt b hb).1)
        case measure => simp [intOf]; omega
      · have hM : M k = false := by simpa using hM
        go_wp2_with fail
        go_roundw
        case rel => exact ⟨k + 1, by omega, by go_num, by rw [upTo_out hM]; exact hown, hnx⟩
        case measure => simp [intOf]; omega
    · obtain rfl : k = 256 := by omega
      have hcv := conv_owned hown (fun b hb => List.mem_range.1 (List.mem_filter.1 hb).1)
      have H : Hid ((upTo M 256).map UInt8.ofNat = bytesOf M) := rfl
      go_wp2_with fail
      go_ret
      exact ⟨by rw [← H.out]; rfl, hnx⟩

end Rx
end Go.Proofs.YtaakeecliehjgaaGreatDoor
namespace Go.Proofs.YtaakeecliehjgaaGreatDoor
open Go.RowKit
namespace Rx

/-- How a reading ends: what is none is a panic. -/
def Reads (p : Nat) (s : ByteArray) (a : Addr) (w : World) (r : Option (Data × Nat)) (e : Ending) (w' : World) : Prop := match r with
  | none => e = .panicked [{ v := errV a, recovered := false }] ∧ w.grownBy w' (some p)
  | some (t, j) => ∃ v, e = .returned v ∧ PatIs w' t (Iv w.heap.size w'.heap.size) v ∧ Rd p s a j w' ∧ w.grownBy w' (some p)

theorem setLoop_step {g : Nat → Nat} {f i : Nat} {M : Nat → Bool} (h : g i ≠ 93) : setLoop g (f + 1) i M = match spanAt g i with
    | none => none
    | some (lo, hi, j) => setLoop g f j (spanOn M lo hi) := by
  rw [setLoop, spanAt]
  by_cases h1 : g i = 256
  · simp [h1]
  · rw [if_neg h1, if_neg h, if_neg h1]
    by_cases h2 : g (i + 1) = 45 ∧ g (i + 2) ≠ 93
    · rw [if_pos h2, if_pos h2]
      by_cases h3 : g (i + 2) = 256 ∨ g (i + 2) < g i
      · rw [if_pos h3, if_pos h3]
      · rw [if_neg h3, if_neg h3]
    · rw [if_neg h2, if_neg h2]

theorem span_in {s : ByteArray} {i lo hi j : Nat} (h : spanAt (gOf s) i = some (lo, hi, j)) : i < j ∧ j ≤ s.size ∧ lo < 256 ∧ hi < 256 ∧ lo ≤ hi := by
  unfold spanAt at h
  split at h
  · simp at h
  rename_i h1
  have h1 := in_of h1
  have h1' := gOf_lt h1
  split at h
  · split at h
    · simp at h
    · rename_i h2 h3
      have h4 := in_of (s := s) (i := i + 2) (by omega)
      have h4' := gOf_lt h4
      simp at h
      omega
  · simp at h
    omega

/-- The array of a set that is being read, at block q. -/
def Has (q : Nat) (M : Nat → Bool) (w : World) : Prop := w.heap[q]? = some (.cells (marks M) 247 (0, 0))

theorem has_cell {q : Nat} {M : Nat → Bool} {w : World} (h : Has q M w) {k : Nat} (hk : k < 256) : w.cell? ⟨q, k, none⟩ = some (.bool (M k)) := by
  rw [cell_of_row w q k _ _ _ h, marks_get M hk]

theorem has_set {q : Nat} {M : Nat → Bool} {w : World} (h : Has q M w) (k : Nat) : Has q (fun b => M b || decide (b = k)) (w.setCell ⟨q, k, none⟩ (.bool true)) := by
  unfold Has at h ⊢
  have hm : (marks M).set! k (.bool true) = marks (fun b => M b || decide (b = k)) := by
    apply Array.ext_getElem?
    intro j
    rw [Array.set!_eq_setIfInBounds, Array.getElem?_setIfInBounds]
    by_cases hj : j < 256
    · rw [marks_get _ hj, marks_get _ hj]
      by_cases e : k = j
      · subst e; simp [marks_size, hj]
      · simp [e, show ¬ j = k by omega]
    · have a1 : (marks M)[j]? = none := Array.getElem?_eq_none (by rw [marks_size]; omega)
      have a2 : (marks fun b => M b || decide (b = k))[j]? = none := Array.getElem?_eq_none (by rw [marks_size]; omega)
      rw [a1, a2]
      by_cases e : k = j
      · subst e; simp [marks_size, hj]
      · simp [e]
  rw [← hm]
  simp [World.setCell, Array.getElem?_modify, h]

theorem has_load {q : Nat} {M : Nat → Bool} {w : World} (h : Has q M w) : (Instr.loadAt 247 (.pointer (some ⟨q, 0, none⟩))).run Tryz.prog w = .ok (.agg (marks M)) w := by
  simp only [Instr.loadAt, Instr.sureAddr, Sem.run_bind, Sem.run_pure, Result.andThen]
  exact run_loadVar_row _ _ _ _ _ (0, 0) _ h (show Tryz.prog.underlying 247 = some (.array 256 4) by kernel_rfl) rfl (by rw [marks_size]; kernel_rfl)

theorem Has.lt {q : Nat} {M : Nat → Bool} {w : World} (h : Has q M w) : q < w.heap.size := World.block_lt_of_cell? w ⟨q, 0, none⟩ (has_cell h (by omega))
theorem Has.grown {q p : Nat} {M : Nat → Bool} {w w' : World} (h : Has q M w) (hg : w.grownBy w' (some p)) (hpq : p ≠ q) : Has q M w' := (hg.block q h.lt (by simp; omega)).trans h
theorem has_frozen {q k : Nat} {M : Nat → Bool} {w : World} (h : Has q M w) : w.frozen? ⟨q, k, none⟩ = false := by
  unfold Has at h
  simp [World.frozen?, h]

theorem grown_set_new {w wq : World} {row : Option Nat} (h : w.grownBy wq row) {x : Addr} (hq : w.heap.size ≤ x.block) (v : Value) : w.grownBy (wq.setCell x v) row :=
  ⟨h.os, h.tape, h.output, by simpa using h.size, fun k hk hne => (Below.heap_setCell _ _ _ _ (by omega)).trans (h.block k hk hne)⟩

/-- What is in behind n of a row. -/
def spanTo (M : Nat → Bool) (lo n : Nat) : Nat → Bool := fun b => M b || (decide (lo ≤ b) && decide (b < n))
theorem spanTo_zero (M : Nat → Bool) (lo : Nat) : spanTo M lo lo = M := by
  funext b
  unfold spanTo
  by_cases h : lo ≤ b
  · rw [decide_eq_false (show ¬ b < lo by omega)]; simp
  · rw [decide_eq_false h]; simp
theorem spanTo_next (M : Nat → Bool) {lo n : Nat} (h : lo ≤ n) : (fun b => spanTo M lo n b || decide (b = n)) = spanTo M lo (n + 1) := by
  funext b
  unfold spanTo
  by_cases h1 : b = n
  · subst h1; simp [h]
  · rw [decide_eq_false h1, show decide (b < n + 1) = decide (b < n) from decide_eq_decide.2 (by omega)]; simp
theorem spanTo_all (M : Nat → Bool) (lo hi : Nat) : spanTo M lo (hi + 1) = spanOn M lo hi := by
  funext b
  unfold spanTo spanOn
  rw [show decide (b < hi + 1) = decide (b ≤ hi) from decide_eq_decide.2 (by omega)]

/-- Where the reader is. -/
def posOf (p : Nat) (w : World) : Nat := match w.cell? ⟨p, 1, none⟩ with
  | some (.int _ n) => n.toNat
  | _ => 0
theorem posOf_is {p : Nat} {s : ByteArray} {a : Addr} {i : Nat} {w : World} (h : Rd p s a i w) : posOf p w = i := by unfold posOf; rw [h.pos]; simp

set_option maxRecDepth 100000 in
theorem iSet {p : Nat} {s : ByteArray} {a : Addr} {i : Nat} {w : World} (h : Rd p s a i w) (hi : i ≤ s.size) (hs : s.size ≤ 1000) :
    Calls Tryz.prog 165 #[.pointer (some ⟨p, 0, none⟩)] w fun e w' => Reads p s a w (setAt (gOf s) s.size i) e w' := by
  obtain ⟨j0, hj0⟩ : ∃ j0, j0 = if gOf s i = 94 then i + 1 else i := ⟨_, rfl⟩
  have hj0le : j0 ≤ s.size := by
    rw [hj0]
    split
    · have := in_of (s := s) (i := i) (by omega); omega
    · exact hi
  have HR : Hid (setAt (gOf s) s.size i = setEnd (decide (gOf s i = 94)) (setLoop (gOf s) (s.size + 1) j0 fun _ => false)) := by
    unfold setAt; rw [← hj0]; rfl
  generalize setAt (gOf s) s.size i = R at HR ⊢
  go_enter Tryz.func165, Tryz.ntmps165
  go_wp2_with (first | (go_at_call 140; refine (iTakeIf h hi hs 94 (by omega)).mono ?_; rintro e w1 ⟨rfl, h1, hg1⟩; rw [← hj0] at h1) | (refine wpList_alloc_whole rfl 247 rfl _ _ (alloc_whole _) ?_; simp [Act.put]))
  have hq1 := h1.lt
  have hg0 : w.grownBy (w1.alloc (.cells (marks fun _ => false) 247)) (some p) := hg1.trans (World.grownBy_alloc _ _ _)
  have h1' : Rd p s a j0 (w1.alloc (.cells (marks fun _ => false) 247)) := h1.grown (World.grownBy_alloc _ _ none) (by simp) (by simp)
  have hH1 : Has w1.heap.size (fun _ => false) (w1.alloc (.cells (marks fun _ => false) 247)) := heap_alloc_last w1 _
  obtain ⟨RL, hRL⟩ : ∃ RL, setLoop (gOf s) (s.size + 1) j0 (fun _ => false) = RL := ⟨_, rfl⟩
  have HL : Hid (setLoop (gOf s) (s.size + 1) j0 (fun _ => false) = RL) := hRL
  obtain ⟨q, hq⟩ : ∃ q, q = w1.heap.size := ⟨_, rfl⟩
  have hwq : w.heap.size ≤ q := by rw [hq]; exact hg1.size
  rw [← hq] at hH1
  have hpq : p ≠ q := by omega
  have heq : 0 ≠ q := by have := h1.elt; omega
  have hj0' : Hid (j0 ≤ s.size) := hj0le
  clear hj0 hRL hj0le
  subst hq
  go_loopw [] (fun wr => ∃ k M f, Rd p s a k wr ∧ k ≤ s.size ∧ Has w1.heap.size M wr ∧ s.size < f + k ∧ setLoop (gOf s) f k M = RL ∧ w.grownBy wr (some p)) (fun wr => s.size - posOf p wr)
  case atStart => exact ⟨j0, _, s.size + 1, h1', hj0'.out, hH1, by omega, HL.out, hg0⟩
  case round =>
    obtain ⟨k, M, f, hr, hk, hH, hf, hR, hg⟩ := hrel
    obtain ⟨f, rfl⟩ : ∃ f', f = f' + 1 := ⟨f - 1, by omega⟩
    have HR2 : Hid (setLoop (gOf s) (f + 1) k M = RL) := hR
    have HH : Hid (Has w1.heap.size M wr) := hH
    clear hR hH hH1 h1' hg0 h1 hg1 h
    by_cases h93 : gOf s k = 93
    · have e1 : decide (gOf s k = 93) = true := decide_eq_true h93
      have hkl := in_of (s := s) (i := k) (by omega)
      have HR3 : Hid (RL = some (M, k + 1)) := by
        rw [← HR2.out, setLoop, if_neg (by omega), if_pos h93]; rfl
      by_cases hb : bytesOf M = []
      · have HR4 : Hid (R = none) := by show R = none; rw [HR.out, HL.out, HR3.out]; simp [setEnd, hb]
        have hb' : (bytesOf M).isEmpty = true := by rw [hb]; rfl
        clear hb
        go_wp2_with (first | (go_at_call 140; refine (iTakeIf hr hk hs 93 (by omega)).mono ?_; rintro e w2 ⟨rfl, h2, hg2⟩; rw [if_pos h93] at h2; have hH2 := (HH.out.grown hg2 hpq)) | (refine wpList_load_whole rfl 247 (.tmp 4) rfl _ (has_load hH2) ?_) | (go_at_call 171; refine (iListed M _).mono ?_; rintro e w3 ⟨rfl, hb3⟩; have c3 := (h2.below hb3 h2.lt h2.elt).err))
        refine ⟨rfl, ?_⟩
        rw [HR4.out]
        exact ⟨rfl, (hg.trans hg2).trans (grown_of_below hb3 _)⟩
      · have HR4 : Hid (R = some (setOf M (decide (gOf s i = 94)), k + 1)) := by show R = _; rw [HR.out, HL.out, HR3.out]; simp [setEnd, hb]
        have hb' : (bytesOf M).isEmpty = false := by simpa using hb
        clear hb
        go_wp2_with (first | (go_at_call 140; refine (iTakeIf hr hk hs 93 (by omega)).mono ?_; rintro e w2 ⟨rfl, h2, hg2⟩; rw [if_pos h93] at h2; have hH2 := (HH.out.grown hg2 hpq)) | (refine wpList_load_whole rfl 247 (.tmp 4) rfl _ (has_load hH2) ?_) | (go_at_call 171; refine (iListed M _).mono ?_; rintro e w3 ⟨rfl, hb3⟩))
        go_ret
        rw [HR4.out]
        refine ⟨_, rfl, ?_, h2.below hb3 h2.lt h2.elt, (hg.trans hg2).trans (grown_of_below hb3 _)⟩
        unfold setOf
        rw [pat_nd]
        exact .inl ⟨rfl, .inr (.inr (.inl ⟨rfl, rfl, rfl⟩))⟩
    · have e1 : decide (gOf s k = 93) = false := decide_eq_false h93
      have HR3 := setLoop_step (g := gOf s) (f := f) (i := k) (M := M) h93
      rcases hsp : spanAt (gOf s) k with _ | ⟨lo, hi', j⟩
      · have HR4 : Hid (R = none) := by show R = none; rw [HR.out, HL.out, ← HR2.out, HR3, hsp]; rfl
        clear HR3
        go_wp2_with (first | (go_at_call 140; refine (iTakeIf hr hk hs 93 (by omega)).mono ?_; rintro e w2 ⟨rfl, h2, hg2⟩; rw [if_neg h93] at h2) | (go_at_call 170; refine (iSpan h2 hk hs).mono ?_; intro e w3 h3; rw [hsp] at h3; obtain ⟨rfl, hg3⟩ := h3))
        refine ⟨rfl, ?_⟩
        rw [HR4.out]
        exact ⟨rfl, (hg.trans hg2).trans hg3⟩
      · obtain ⟨b1, b2, b3, b4, b5⟩ := span_in hsp
        have HR4 : Hid (setLoop (gOf s) f j (spanOn M lo hi') = RL) := by show _ = _; rw [← HR2.out, HR3, hsp]
        clear HR3
        go_wp2_with (first | (go_at_call 140; refine (iTakeIf hr hk hs 93 (by omega)).mono ?_; rintro e w2 ⟨rfl, h2, hg2⟩; rw [if_neg h93] at h2) | (go_at_call 170; refine (iSpan h2 hk hs).mono ?_; intro e w3 h3; rw [hsp] at h3; obtain ⟨rfl, h3, hg3⟩ := h3))
        have hH3 := (HH.out.grown hg2 hpq).grown hg3 hpq
        rw [← spanTo_zero M lo] at hH3
        have hg4 := (hg.trans hg2).trans hg3
        have HP : Hid (posOf p wr = k) := posOf_is hr
        clear HH hr h2 hg2 hg hg3 e1 h93
        go_loopw [7] (fun b wq => ∃ n : Nat, b = .int .i64 n ∧ lo ≤ n ∧ n ≤ hi' + 1 ∧ Rd p s a j wq ∧ Has w1.heap.size (spanTo M lo n) wq ∧ w.grownBy wq (some p)) (fun b _ => 300 - (intOf b).toNat)
        case atStart => exact ⟨lo, rfl, Nat.le_refl _, by omega, h3, hH3, hg4⟩
        case round =>
          obtain ⟨n, rfl, n1, n2, hr5, hH5, hg5⟩ := hrel
          by_cases hn : n ≤ hi'
          · have hc := has_cell hH5 (k := n) (by omega)
            have hfr := has_frozen (k := n) hH5
            go_wp2_with fail
            go_roundw
            case rel =>
              refine ⟨n + 1, by go_num, by omega, by omega, ?_, ?_, ?_⟩
              · exact hr5.kept (Below.heap_setCell _ _ _ _ hpq) (Below.heap_setCell _ _ _ _ heq)
              · rw [← spanTo_next M n1]
                exact has_set hH5 n
              · exact grown_set_new hg5 hwq _
            case measure => simp [intOf]; omega
          · obtain rfl : n = hi' + 1 := by omega
            rw [spanTo_all] at hH5
            go_wp2_with fail
            go_roundw
            case rel => exact ⟨j, _, f, hr5, b2, hH5, by omega, HR4.out, hg5⟩
            case measure => rw [HP.out, posOf_is hr5]; omega

end Rx
end Go.Proofs.YtaakeecliehjgaaGreatDoor
