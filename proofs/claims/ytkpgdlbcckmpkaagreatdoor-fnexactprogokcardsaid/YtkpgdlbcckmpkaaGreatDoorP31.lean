/-
  The bytes of a set, listed.
-/
import Derived.Test.YtkpgdlbcckmpkaaGreatDoorP30
import Derived.Deep.WholeRow
namespace Go.Proofs.YtkpgdlbcckmpkaaGreatDoor
open Go.RowKit
namespace Rx

/-- Which bytes are in, as an array of bools. -/
def marks (M : Nat → Bool) : Array Value := (Array.range 256).map fun b => .bool (M b)
theorem marks_size (M : Nat → Bool) : (marks M).size = 256 := by simp [marks]
theorem marks_get (M : Nat → Bool) {k : Nat} (h : k < 256) : (marks M)[k]? = some (.bool (M k)) := by simp [marks, h]

/-- Of the first k bytes those that are in. -/
def upTo (M : Nat → Bool) (k : Nat) : List Nat := (List.range k).filter M
theorem upTo_in {M : Nat → Bool} {k : Nat} (h : M k = true) : upTo M (k + 1) = upTo M k ++ [k] := by simp [upTo, List.range_succ, h]
theorem upTo_out {M : Nat → Bool} {k : Nat} (h : M k = false) : upTo M (k + 1) = upTo M k := by simp [upTo, List.range_succ, h]
theorem upTo_len (M : Nat → Bool) (k : Nat) : (upTo M k).length ≤ k := by have := List.length_filter_le M (List.range k); simpa [upTo] using this

def u8s (l : List Nat) : List Value := l.map fun (b : Nat) => Value.int .u8 b

/-! three operations on a whole array, as steps of their own -/
section
variable {P : Program} {ops : Array Oper} {rest : List Oper} {o : Oper} {a : Act} {Q : Exit → Act → World → Prop} {w : World}

theorem wpList_load_whole (hgd : o.guard = none) (t : TypeId) (s : Operand) (ho : o.op = .load t s) (x : Value) (hr : (Instr.loadAt t (a.eval s)).run P w = .ok x w)
    (h : wpList P ops Q rest (a.put o.dst x) w) : wpList P ops Q (o :: rest) a w := by
  refine wpList_plain hgd fun K hK => ?_
  unfold Oper.wp execOp
  simp only [ho, Sem.run_bind, Sem.run_pure, Result.andThen_ok, hr]
  exact hK _ _ h

theorem wpList_box_whole (hgd : o.guard = none) (t : TypeId) (s : Operand) (ho : o.op = .box t s) (x : Value) (w' : World) (hr : (Instr.box t (a.eval s)).run P w = .ok x w')
    (h : wpList P ops Q rest (a.put o.dst x) w') : wpList P ops Q (o :: rest) a w := by
  refine wpList_plain hgd fun K hK => ?_
  unfold Oper.wp execOp
  simp only [ho, Sem.run_bind, Sem.run_pure, Result.andThen_ok, hr]
  exact hK _ _ h

theorem wpList_alloc_whole (hgd : o.guard = none) (t : TypeId) (ho : o.op = .alloc t) (x : Value) (w' : World) (hr : (Instr.alloc t true (.tuple #[])).run P w = .ok x w')
    (h : wpList P ops Q rest (a.put o.dst x) w') : wpList P ops Q (o :: rest) a w := by
  refine wpList_plain hgd fun K hK => ?_
  unfold Oper.wp execOp
  simp only [ho, Sem.run_bind, Sem.run_pure, Result.andThen_ok, hr]
  exact hK _ _ h
end

theorem box_whole (M : Nat → Bool) (w : World) : (Instr.box 166 (.agg (marks M))).run Tryz.prog w = .ok (.pointer (some ⟨w.heap.size, 0, none⟩)) (w.alloc (.cells (marks M) 166)) := by
  rfl

theorem alloc_whole (w : World) : (Instr.alloc 166 true (.tuple #[])).run Tryz.prog w = .ok (.pointer (some ⟨w.heap.size, 0, none⟩)) (w.alloc (.cells (marks fun _ => false) 166)) := by
  kernel_rfl

theorem index_whole (M : Nat → Bool) {k : Nat} (h : k < 256) (w : World) : (Instr.index 166 (.agg (marks M)) (.int .i64 k)).run Tryz.prog w = .ok (.bool (M k)) w := by
  have hu : Tryz.prog.underlying 166 = some (.array 256 4) := by kernel_rfl
  have hk : (0 : Int) ≤ k ∧ (k : Int) < 256 := by omega
  simp [Instr.index, run_underlying hu, asIntOf, hk, go_sem, marks_get M h]
  intro h'
  omega

theorem Tryz.info5r : (Tryz.prog.info? 5).map (fun i => (i.zero, i.size, i.bytes)) = some (some (.int .u8 0), 1, 1) := by kernel_rfl

theorem conv_owned {w : World} {B : Nat} {v : Value} {l : List Nat} (h : w.ownsRow B 5 1 v l.length (u8s l)) (hl : ∀ b ∈ l, b < 256) :
    (convert 91 9 v).run Tryz.prog w = .ok (.string ⟨(l.map UInt8.ofNat).toArray⟩) w := by
  rcases h.2 with ⟨rfl, hn⟩ | ⟨g, cap, cur, rfl, _⟩
  · have : l = [] := List.length_eq_zero_iff.1 hn
    subst this
    rw [run_convert_bytes_string w 91 9 5 none 0 0 Tryz.underlying91 Tryz.underlying5 Tryz.underlying9]
    rfl
  · have hc := h.cells (g := g) rfl
    have := run_convert_bytes_back (P := Tryz.prog) w 91 9 5 ⟨g, 0, none⟩ cap (l.map UInt8.ofNat) Tryz.underlying91 Tryz.underlying5 Tryz.underlying9 (by
      intro j hj
      simp only [List.length_map] at hj
      refine hc j _ ?_
      have hb := hl l[j] (List.getElem_mem hj)
      simp only [u8s, List.getElem?_map, List.getElem?_eq_getElem hj, Option.map_some, List.getElem_map, UInt8.toNat_ofNat']
      rw [Nat.mod_eq_of_lt (by omega)])
    simpa using this

set_option maxRecDepth 100000 in
theorem iListed (M : Nat → Bool) (w : World) :
    Calls Tryz.prog 103 #[.agg (marks M)] w fun e w' => e = .returned (.string ⟨(bytesOf M).toArray⟩) ∧ Below w.heap.size w w' := by
  have hl := run_loadAt_new (P := Tryz.prog) w 166 (marks M) 256 4 (by kernel_rfl) (by rw [marks_size]; kernel_rfl)
  go_enter Tryz.func103, Tryz.ntmps103
  go_wp2_with (first | (refine wpList_box_whole rfl 166 (.tmp 0) rfl _ _ (box_whole M w) ?_) | (refine wpList_load_whole rfl 166 (.tmp 1) rfl _ hl ?_))
  obtain ⟨i0, hi, hz0, hz1, hz2⟩ := info_parts Tryz.info5r
  go_loopw [3, 7] (fun v i wr => ∃ k : Nat, k ≤ 256 ∧ i = .int .i64 k ∧ wr.ownsRow w.heap.size 5 1 v (upTo M k).length (u8s (upTo M k)) ∧ Below w.heap.size w wr) (fun _ i _ => 256 - (intOf i).toNat)
  case atStart => exact ⟨0, by omega, rfl, World.ownsRow_nil _ _ _ _, (Below.refl _ w).alloc (Nat.le_refl _) _⟩
  case round =>
    obtain ⟨k, hk, rfl, hown, hnx⟩ := hrel
    have hlen := upTo_len M k
    by_cases hkl : k < 256
    · have hmk := index_whole M hkl
      by_cases hM : M k = true
      · go_wp2_with (first | (at_builtin; refine wpList_append_own_at _ rfl _ _ 91 rfl w.heap.size 5 i0 (.int .u8 0) 1 1 Tryz.underlying91 hi hz0 hz1 hz2 rfl (by decide) _ _ _ rfl (hown.alloc _) ⟨wr.heap.size, 0, none⟩ 1 1 [.int .u8 k] rfl rfl (cell_one_new _ _ _) (by simp [Value.oneCell']) (by unfold maxLen; omega) (by omega) (by have := hnx.size; simp; omega) ?_; intro v' w1 hown' hgrow _ _))
        rw [← List.length_singleton (a := Value.int .u8 (k : Int))] at hown'
        go_roundw
        case rel =>
          refine ⟨k + 1, by omega, by go_num, ?_, ?_⟩
          · rw [upTo_in hM]
            simpa [u8s] using hown'
          · exact (hnx.alloc (by have := hnx.size; omega) _).grown hgrow (by have := hnx.size; simp; omega) (fun b hb => (hown.lt b hb).1)
        case measure => simp [intOf]; omega
      · have hM : M k = false := by simpa using hM
        go_wp2_with fail
        go_roundw
        case rel => exact ⟨k + 1, by omega, by go_num, by rw [upTo_out hM]; exact hown, hnx⟩
        case measure => simp [intOf]; omega
    · obtain rfl : k = 256 := by omega
      have hcv := conv_owned hown (fun b hb => List.mem_range.1 (List.mem_filter.1 hb).1)
      have H : Hid ((upTo M 256).map UInt8.ofNat = bytesOf M) := rfl
      go_wp2_with fail
      go_ret
      exact ⟨by rw [← H.out]; rfl, hnx⟩

end Rx
end Go.Proofs.YtkpgdlbcckmpkaaGreatDoor

