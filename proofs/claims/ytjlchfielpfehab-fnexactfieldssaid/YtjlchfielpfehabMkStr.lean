/-
  The laws' eqStringS, markStringS, heldStringS.
-/
import Derived.Test.YtjlchfielpfehabMkText
import Derived.Sort.EncStr
namespace Go.Proofs.Ytjlchfielpfehab
open Go.RowKit
namespace Mk
open Nd

set_option maxRecDepth 100000 in
theorem lEqTxt {w : World} {v1 v2 : Value} {B1 B2 : Nat} {ss : List (List UInt8)} (h1 : w.ownsRow B1 9 1 v1 ss.length (ss.map encStr)) (h2 : w.ownsRow B2 9 1 v2 ss.length (ss.map encStr)) (hn : ss.length ≤ 3000000) :
    Calls Try.prog 6 #[v1, v2] w fun e w' => e = .returned (.bool true) ∧ ∃ n, w' = w.drewN n := by
  have bn : (ss.length : Int) ≤ 3000000 := by omega
  obtain ⟨a1, c1, rfl⟩ := owns_slice h1
  obtain ⟨a2, c2, rfl⟩ := owns_slice h2
  go_enter Try.func6, Try.ntmps6
  go_wp2_with fail
  go_loopw [5] (fun i wr => ∃ k m : Nat, i = .int .i64 k ∧ k ≤ ss.length ∧ wr = w.drewN m) (fun i _ => ss.length - (intOf i).toNat)
  case atStart => exact ⟨0, 0, rfl, Nat.zero_le _, rfl⟩
  case round =>
    obtain ⟨k, m, rfl, hk, rfl⟩ := hrel
    by_cases hkl : k < ss.length
    · have hx : (ss.map encStr)[k]? = some (.string ⟨ss[k].toArray⟩) := by rw [List.getElem?_map, List.getElem?_eq_getElem hkl]; rfl
      obtain ⟨g1, rfl, _, q1⟩ := row_cells h1 hkl
      obtain ⟨g2, rfl, _, q2⟩ := row_cells h2 hkl
      have r1 := q1 k _ hx
      have r2 := q2 k _ hx
      generalize ss[k] = x at r1 r2
      have bk : (k : Int) < ss.length := by omega
      clear q1 q2 hx h1 h2
      go_wp2_with fail
      go_quiet (fail)
      go_wp2_with fail
      go_roundw
      case rel => exact ⟨k + 1, _, by go_num, hkl, rfl⟩
      case measure => simp [intOf]; omega
    · obtain rfl : k = ss.length := by omega
      go_wp2_with fail
      go_ret
      exact ⟨rfl, m, rfl⟩

/-- The marks of a list of texts. -/
def mks (k n : Nat) : List (List UInt8) := (List.range n).map fun j => (markT (k + j)).data.toList
theorem mks_get {k n j : Nat} (h : j < n) : ((mks k n).map encStr)[j]? = some (.string (markT (k + j))) := by
  unfold mks
  rw [List.getElem?_map, List.getElem?_map, List.getElem?_range h]
  rfl
theorem mks_set {k n j : Nat} {xs : List Value} (hj : j < n) (hx : xs.length = n) : ((((mks k n).map encStr).take j) ++ xs.drop j).set j (.string (markT (k + j))) = (((mks k n).map encStr).take (j + 1)) ++ xs.drop (j + 1) := by
  have hl : (((mks k n).map encStr).take j).length = j := by simp [mks]; omega
  have hd : xs.drop j = xs[j] :: xs.drop (j + 1) := List.drop_eq_getElem_cons (by omega)
  rw [hd, List.take_add_one, mks_get hj]
  rw [List.set_append_right _ _ (by omega), hl, Nat.sub_self, List.set_cons_zero, Option.toList_some, List.append_assoc, List.singleton_append]

set_option maxRecDepth 100000 in
theorem lMarkTxt {w : World} {v : Value} {B n k : Nat} {xs : List Value} (h : w.ownsRow B 9 1 v n xs) (hs : ∀ x ∈ xs, ∃ s, x = .string s) (hn : n ≤ 3000000) (h1 : 1 ≤ k) (hk : k ≤ 4000000) :
    Calls Try.prog 7 #[v, .int .i64 k] w fun e w' => e = .returned (.int .i64 (k + n : Nat)) ∧ w'.ownsRow B 9 1 v n ((mks k n).map encStr) ∧ Turned (fun _ => False) v w w' := by
  have bn : (n : Int) ≤ 3000000 := by omega
  have hxl : xs.length = n := by simpa using h.1
  obtain ⟨ao, cap, rfl⟩ := owns_slice h
  go_enter Try.func7, Try.ntmps7
  go_wp2_with fail
  go_loopw [1, 5] (fun kv i wr => ∃ j : Nat, j ≤ n ∧ i = .int .i64 j ∧ kv = .int .i64 (k + j : Nat) ∧ wr.ownsRow B 9 1 (.slice ao n cap) n ((((mks k n).map encStr).take j) ++ xs.drop j) ∧ Turned (fun _ => False) (.slice ao n cap) w wr) (fun _ i _ => n - (intOf i).toNat)
  case atStart => exact ⟨0, Nat.zero_le _, rfl, rfl, by simpa using h, Turned.refl _ _ _⟩
  case round =>
    clear h
    obtain ⟨j, hj, rfl, rfl, ho, hT⟩ := hrel
    by_cases hjl : j < n
    · obtain ⟨g, rfl, hg, hc⟩ := row_cells ho hjl
      have hxj : (((mks k n).map encStr).take j ++ xs.drop j)[j]? = some xs[j] := by
        rw [List.getElem?_append_right (by simp; omega)]
        have hl : (((mks k n).map encStr).take j).length = j := by simp [mks]; omega
        rw [hl, Nat.sub_self, List.getElem?_drop, Nat.add_zero, List.getElem?_eq_getElem]
      have hcell := hc j _ hxj
      obtain ⟨s, hsx⟩ := hs xs[j] (List.getElem_mem _)
      rw [hsx] at hcell
      obtain ⟨cs, hrow⟩ := row_block ho
      have hfz := frozen_of_row hrow j
      have mt : ∀ w0 : World, Calls Try.prog 11 #[.int .i64 (k + j : Nat)] w0 fun e w' => e = .returned (.string (markT (k + j))) ∧ Below w0.heap.size w0 w' := fun w0 => lMarkText (k + j) (by omega) (by omega) w0
      have hset := mks_set (k := k) (xs := xs) hjl hxl
      have bj : (j : Int) < n := by omega
      have kb : ((k + j : Nat) : Int) ≤ 9000000 := by omega
      have HN : Hid (k + j + 1 = k + (j + 1)) := Nat.add_assoc _ _ _
      generalize hkj : k + j = kj at *
      clear hc hsx hxj
      go_wp2_with (go_at_call 11; refine (mt _).mono ?_; rintro e w3 ⟨rfl, hb3⟩; have e1 := (hb3.cell (p := ⟨g, j, none⟩) hg).trans hcell; have e2 := (hb3.frozen (p := ⟨g, j, none⟩) hg).trans hfz)
      go_roundw
      case rel =>
        refine ⟨j + 1, hjl, by go_num, ?_, ?_, ?_⟩
        · rw [← HN.out]; go_num
        · have h2 := owns_set (owns_same (w' := w3) ho fun b hb => by
            simp only [Value.ownBlock, Option.some.injEq] at hb
            subst hb
            exact hb3.block _ hg) j (.string (markT kj))
          rw [hset] at h2
          exact h2
        · refine ⟨hb3.os.trans hT.os, hb3.tape.trans hT.tape, hb3.output.trans hT.output, ?_, fun b hb hn hne => ?_⟩
          · have := hT.size; have := hb3.size; simp; omega
          · have hbg : b ≠ g := fun e => hne (by rw [e]; rfl)
            rw [Below.heap_setCell _ _ _ _ hbg, hb3.block b (Nat.lt_of_lt_of_le hb hT.size)]
            exact hT.block b hb hn hne
      case measure => simp [intOf]; omega
    · obtain rfl : j = n := by omega
      have hlm : (mks k j).length = j := by simp [mks]
      rw [List.take_of_length_le (by simp [hlm]), List.drop_of_length_le (by omega), List.append_nil] at ho
      have HO : Hid (wr.ownsRow B 9 1 (.slice ao j cap) j ((mks k j).map encStr)) := ho
      clear ho
      go_wp2_with fail
      go_ret
      exact ⟨rfl, HO.out, hT⟩

set_option maxRecDepth 100000 in
theorem lHeldTxt {w : World} {v : Value} {B n k : Nat} (h : w.ownsRow B 9 1 v n ((mks k n).map encStr)) (hn : n ≤ 3000000) (h1 : 1 ≤ k) (hk : k ≤ 4000000) :
    Calls Try.prog 8 #[v, .int .i64 k] w fun e w' => e = .returned (.int .i64 (k + n : Nat)) ∧ Below w.heap.size w w' := by
  have bn : (n : Int) ≤ 3000000 := by omega
  obtain ⟨ao, cap, rfl⟩ := owns_slice h
  go_enter Try.func8, Try.ntmps8
  go_wp2_with fail
  go_loopw [1, 5] (fun kv i wr => ∃ j : Nat, j ≤ n ∧ i = .int .i64 j ∧ kv = .int .i64 (k + j : Nat) ∧ Below w.heap.size w wr) (fun _ i _ => n - (intOf i).toNat)
  case atStart => exact ⟨0, Nat.zero_le _, rfl, rfl, Below.refl _ _⟩
  case round =>
    obtain ⟨j, hj, rfl, rfl, hb⟩ := hrel
    by_cases hjl : j < n
    · obtain ⟨g, rfl, hg, hc⟩ := row_cells h hjl
      have hcell := (hb.cell (p := ⟨g, j, none⟩) hg).trans (hc j _ (mks_get hjl))
      have hgw : g < wr.heap.size := Nat.lt_of_lt_of_le hg hb.size
      have mt : ∀ w0 : World, Calls Try.prog 11 #[.int .i64 (k + j : Nat)] w0 fun e w' => e = .returned (.string (markT (k + j))) ∧ Below w0.heap.size w0 w' := fun w0 => lMarkText (k + j) (by omega) (by omega) w0
      have bj : (j : Int) < n := by omega
      have kb : ((k + j : Nat) : Int) ≤ 9000000 := by omega
      have HN : Hid (k + j + 1 = k + (j + 1)) := Nat.add_assoc _ _ _
      generalize hkj : k + j = kj at *
      clear hc h
      go_wp2_with fail
      go_region_with (first | (go_at_call 11; refine (mt _).mono ?_; rintro e w3 ⟨rfl, hb3⟩; have e1 := (hb3.cell (p := ⟨g, j, none⟩) hgw).trans hcell))
      all_goals go_wp2_with fail
      all_goals go_roundw
      all_goals first
        | (simp [intOf]; omega)
        | exact ⟨j + 1, hjl, by go_num, by rw [← HN.out]; go_num, hb.drew.trans (hb3.mono hb.size)⟩
    · obtain rfl : j = n := by omega
      go_wp2_with fail
      go_ret
      exact ⟨rfl, hb⟩

end Mk
end Go.Proofs.Ytjlchfielpfehab
