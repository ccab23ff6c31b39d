/-
  onward, numbersOf, l4List.
-/
import Derived.Test.YtnbnbohhbflgaalCloRows
namespace Go.Proofs.Ytnbnbohhbflgaal
open Go.RowKit
namespace Clo

/-- Numbers that come back: nil, or in a block of their own. -/
def NewInts (B : Nat) (w : World) (v : Value) (l : List Int) : Prop := (l = [] ∧ v = .slice none 0 0) ∨ (l ≠ [] ∧ ∃ g, v = .slice (some ⟨g, 0, none⟩) l.length l.length ∧ B ≤ g ∧ Is g l w)

theorem is_new (w : World) (l : List Int) {g : Nat} {o : Obj} (hg : g = w.heap.size) (ho : o = .cells (ints l).toArray 3) : Is g l (w.alloc o) := by
  subst ho hg
  exact heap_alloc_last _ _

theorem iOnward (op c : Int) (set : ByteArray) (no : Bool) (a b : Int) (k : Nat) (begin fin : Bool) (w : World) (hk : k ≤ 1048576) :
    Calls Try.prog 26 #[.agg #[.int .i64 op, .int .i64 c, .string set, .bool no, .int .i64 a, .int .i64 b], .int .i64 k, .bool begin, .bool fin] w fun e w' =>
      ∃ v, e = .returned v ∧ NewInts w.heap.size w' v (nextV op a b k begin fin) ∧ Below w.heap.size w w' := by
  have bk : (k : Int) ≤ 1048576 := by omega
  have hb : ∀ o, Below w.heap.size w (w.alloc o) := fun o => (Below.refl _ w).alloc (Nat.le_refl _) o
  by_cases h6 : op = 6
  · subst h6
    have HN : Hid (nextV 6 a b k begin fin = [a]) := by show nextV 6 a b k begin fin = [a]; simp [nextV]
    go_enter Try.func26, Try.ntmps26
    go_wp2_with fail
    go_ret
    rw [HN.out]
    exact ⟨_, rfl, .inr ⟨by simp, _, rfl, by simp, is_new _ [a] (by simp) rfl⟩, (hb _).alloc (by simp) _⟩
  by_cases h7 : op = 7
  · subst h7
    have HN : Hid (nextV 7 a b k begin fin = [a, b]) := by show nextV 7 a b k begin fin = [a, b]; simp [nextV]
    go_enter Try.func26, Try.ntmps26
    go_wp2_with fail
    go_ret
    rw [HN.out]
    exact ⟨_, rfl, .inr ⟨by simp, _, rfl, by simp, is_new _ [a, b] (by simp) rfl⟩, (hb _).alloc (by simp) _⟩
  by_cases h4 : op = 4
  · subst h4
    cases begin with
    | true =>
      have HN : Hid (nextV 4 a b k true fin = [(k : Int) + 1]) := by show nextV 4 a b k true fin = _; simp [nextV]
      go_enter Try.func26, Try.ntmps26
      go_wp2_with fail
      go_ret
      rw [HN.out]
      exact ⟨_, rfl, .inr ⟨by simp, _, rfl, by simp, is_new _ [(k : Int) + 1] (by simp) rfl⟩, (hb _).alloc (by simp) _⟩
    | false =>
      have HN : Hid (nextV 4 a b k false fin = []) := by show nextV 4 a b k false fin = _; simp [nextV]
      go_enter Try.func26, Try.ntmps26
      go_wp2_with fail
      go_ret
      rw [HN.out]
      exact ⟨_, rfl, .inl ⟨rfl, rfl⟩, hb _⟩
  by_cases h5 : op = 5
  · subst h5
    cases fin with
    | true =>
      have HN : Hid (nextV 5 a b k begin true = [(k : Int) + 1]) := by show nextV 5 a b k begin true = _; simp [nextV]
      go_enter Try.func26, Try.ntmps26
      go_wp2_with fail
      go_ret
      rw [HN.out]
      exact ⟨_, rfl, .inr ⟨by simp, _, rfl, by simp, is_new _ [(k : Int) + 1] (by simp) rfl⟩, (hb _).alloc (by simp) _⟩
    | false =>
      have HN : Hid (nextV 5 a b k begin false = []) := by show nextV 5 a b k begin false = _; simp [nextV]
      go_enter Try.func26, Try.ntmps26
      go_wp2_with fail
      go_ret
      rw [HN.out]
      exact ⟨_, rfl, .inl ⟨rfl, rfl⟩, hb _⟩
  have HN : Hid (nextV op a b k begin fin = []) := by show nextV op a b k begin fin = _; simp [nextV, h4, h5, h6, h7]
  have n4 : (op == 4) = false := by simp [h4]
  have n5 : (op == 5) = false := by simp [h5]
  have n6 : (op == 6) = false := by simp [h6]
  have n7 : (op == 7) = false := by simp [h7]
  go_enter Try.func26, Try.ntmps26
  go_wp2_with fail
  go_ret
  rw [HN.out]
  exact ⟨_, rfl, .inl ⟨rfl, rfl⟩, hb _⟩

theorem listV_in {M : Nat → Bool} {k : Nat} (h : M k = true) : listV M (k + 1) = listV M k ++ [k] := by rw [listV_succ, if_pos h]
theorem listV_out {M : Nat → Bool} {k : Nat} (h : M k = false) : listV M (k + 1) = listV M k := by rw [listV_succ, if_neg (by simp [h])]

/-- The places that are marked, as numbers. -/
def nums (M : Nat → Bool) (k : Nat) : List Int := (listV M k).map fun (x : Nat) => (x : Int)
theorem nums_in {M : Nat → Bool} {k : Nat} (h : M k = true) : nums M (k + 1) = nums M k ++ [(k : Int)] := by simp [nums, listV_in h]
theorem nums_out {M : Nat → Bool} {k : Nat} (h : M k = false) : nums M (k + 1) = nums M k := by simp [nums, listV_out h]
theorem nums_len (M : Nat → Bool) (k : Nat) : (nums M k).length ≤ k := by simpa [nums] using listV_len M k

/-- Numbers that come back in a row of the call's own. -/
def OwnInts (B : Nat) (w : World) (v : Value) (l : List Int) : Prop := w.ownsRow B 3 1 v l.length (ints l)

set_option maxRecDepth 100000 in
theorem iNumbersOf {q n : Nat} {M : Nat → Bool} {w : World} (h : Bs q n M w) (hn : n ≤ 1048576) :
    Calls Try.prog 27 #[.slice (some ⟨q, 0, none⟩) n n] w fun e w' => ∃ v, e = .returned v ∧ OwnInts w.heap.size w' v (nums M n) ∧ Below w.heap.size w w' := by
  obtain ⟨i0, hi0, hz0, hz1, hz2⟩ := info_parts Try.infoIntr
  have hq := h.lt
  have bn : (n : Int) ≤ 1048576 := by omega
  have hc : ∀ k, k < n → w.cell? ⟨q, k, none⟩ = some (.bool (M k)) := fun k hk => bs_cell h hk
  clear h
  go_enter Try.func27, Try.ntmps27
  go_wp2_with fail
  go_loopw [3, 8] (fun v i wr => ∃ k : Nat, k ≤ n ∧ i = .int .i64 k ∧ wr.ownsRow w.heap.size 3 1 v (nums M k).length (ints (nums M k)) ∧ Below w.heap.size w wr) (fun _ i _ => n - (intOf i).toNat)
  case atStart => exact ⟨0, by omega, rfl, World.ownsRow_nil _ _ _ _, Below.refl _ w⟩
  case round =>
    obtain ⟨k, hk, rfl, hown, hnx⟩ := hrel
    have hlen := nums_len M k
    have hsz := hnx.size
    by_cases hkl : k < n
    · have hck : wr.cell? ⟨q, k, none⟩ = some (.bool (M k)) := (hnx.cell (p := ⟨q, k, none⟩) hq).trans (hc k hkl)
      by_cases hM : M k = true
      · rw [hM] at hck
        go_wp2_with (first | (at_builtin; refine wpList_append_own_at _ rfl _ _ 29 rfl w.heap.size 3 i0 (.int .i64 0) 1 8 Try.underlying29 hi0 hz0 hz1 hz2 rfl (by decide) _ _ _ rfl (hown.alloc _) ⟨wr.heap.size, 0, none⟩ 1 1 [.int .i64 k] rfl rfl (cell_one_new _ _ _) (by simp [Value.oneCell']) (by unfold maxLen; omega) (by omega) (by simp; omega) ?_; intro v' w1 hown' hgrow _ _))
        go_roundw
        case rel =>
          refine ⟨k + 1, by omega, by go_num, ?_, ?_⟩
          · rw [nums_in hM]
            simpa [ints] using hown'
          · exact (hnx.alloc (by omega) _).grown hgrow (by simp; omega) (fun b hb => (hown.lt b hb).1)
        case measure => simp [intOf]; omega
      · have hM : M k = false := by simpa using hM
        rw [hM] at hck
        go_wp2_with fail
        go_roundw
        case rel => exact ⟨k + 1, by omega, by go_num, by rw [nums_out hM]; exact hown, hnx⟩
        case measure => simp [intOf]; omega
    · obtain rfl : k = n := by omega
      go_wp2_with fail
      go_ret
      exact ⟨_, rfl, hown, hnx⟩

set_option maxRecDepth 100000 in
theorem sList {q n : Nat} {M : Nat → Bool} {w : World} (h : Bs q n M w) (hn : n ≤ 1048576) :
    Calls Try.prog 24 #[.slice (some ⟨q, 0, none⟩) n n] w fun e w' => ∃ v, e = .returned v ∧ OwnInts w.heap.size w' v (nums M n) ∧ Below w.heap.size w w' := by
  obtain ⟨i0, hi0, hz0, hz1, hz2⟩ := info_parts Try.infoIntr
  have hq := h.lt
  have bn : (n : Int) ≤ 1048576 := by omega
  have hc : ∀ k, k < n → w.cell? ⟨q, k, none⟩ = some (.bool (M k)) := fun k hk => bs_cell h hk
  clear h
  go_enter Try.func24, Try.ntmps24
  go_wp2_with fail
  go_loopw [3, 4] (fun v i wr => ∃ k : Nat, k ≤ n ∧ i = .int .i64 k ∧ wr.ownsRow w.heap.size 3 1 v (nums M k).length (ints (nums M k)) ∧ Below w.heap.size w wr) (fun _ i _ => n - (intOf i).toNat)
  case atStart => exact ⟨0, by omega, rfl, World.ownsRow_made w #[] 0 (Nat.le_refl _) (by unfold maxLen; omega) rfl, (Below.refl _ w).alloc (Nat.le_refl _) _⟩
  case round =>
    obtain ⟨k, hk, rfl, hown, hnx⟩ := hrel
    have hlen := nums_len M k
    have hsz := hnx.size
    by_cases hkl : k < n
    · have hck : wr.cell? ⟨q, k, none⟩ = some (.bool (M k)) := (hnx.cell (p := ⟨q, k, none⟩) hq).trans (hc k hkl)
      by_cases hM : M k = true
      · rw [hM] at hck
        go_wp2_with (first | (at_builtin; refine wpList_append_own_at _ rfl _ _ 29 rfl w.heap.size 3 i0 (.int .i64 0) 1 8 Try.underlying29 hi0 hz0 hz1 hz2 rfl (by decide) _ _ _ rfl (hown.alloc _) ⟨wr.heap.size, 0, none⟩ 1 1 [.int .i64 k] rfl rfl (cell_one_new _ _ _) (by simp [Value.oneCell']) (by unfold maxLen; omega) (by omega) (by simp; omega) ?_; intro v' w1 hown' hgrow _ _))
        go_roundw
        case rel =>
          refine ⟨k + 1, by omega, by go_num, ?_, ?_⟩
          · rw [nums_in hM]
            simpa [ints] using hown'
          · exact (hnx.alloc (by omega) _).grown hgrow (by simp; omega) (fun b hb => (hown.lt b hb).1)
        case measure => simp [intOf]; omega
      · have hM : M k = false := by simpa using hM
        rw [hM] at hck
        go_wp2_with fail
        go_roundw
        case rel => exact ⟨k + 1, by omega, by go_num, by rw [nums_out hM]; exact hown, hnx⟩
        case measure => simp [intOf]; omega
    · obtain rfl : k = n := by omega
      go_wp2_with fail
      go_ret
      exact ⟨_, rfl, hown, hnx⟩

end Clo
end Go.Proofs.Ytnbnbohhbflgaal
