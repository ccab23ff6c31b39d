/-
  The specification's CellGet.
-/
import Derived.Test.YtjlchfielpfehaaStGet
import Derived.Test.YtjlchfielpfehaaStCopyB
namespace Go.Proofs.Ytjlchfielpfehaa
open Go.RowKit
namespace St
open Nd

/-- The place of the first cell that is hit, or -1. -/
def atC (n : Int) (k : ByteArray) (cs : List Cl) : Int := match cs.findIdx? (hit n k) with | some i => i | none => -1

theorem find_none {n : Int} {k : ByteArray} {cs : List Cl} (h : ∀ c ∈ cs, hit n k c = false) : cs.findIdx? (hit n k) = none ∧ cs.find? (hit n k) = none :=
  ⟨List.findIdx?_eq_none_iff.2 h, List.find?_eq_none.2 fun c hc => by simp [h c hc]⟩
theorem find_at {n : Int} {k : ByteArray} {cs : List Cl} {i : Nat} {c : Cl} (hc : cs[i]? = some c) (hh : hit n k c = true) (h : ∀ d ∈ cs.take i, hit n k d = false) : cs.findIdx? (hit n k) = some i ∧ cs.find? (hit n k) = some c := by
  obtain ⟨hi, he⟩ := List.getElem?_eq_some_iff.1 hc
  have hs : cs = cs.take i ++ c :: cs.drop (i + 1) := by rw [← he, ← List.drop_eq_getElem_cons hi, List.take_append_drop]
  have hl : (cs.take i).length = i := by simp; omega
  have h1 := find_none h
  constructor
  · rw [hs, List.findIdx?_append, h1.1, List.findIdx?_cons, hh]
    simp [hl]
  · rw [hs, List.find?_append, h1.2, List.find?_cons, hh]
    rfl

theorem key_eq {x y : ByteArray} : (x.toList == y.toList) = decide (x = y) := by
  rw [ByteArray.toList_eq, ByteArray.toList_eq]
  by_cases h : x = y
  · simp [h]
  · rw [decide_eq_false h]
    simp only [beq_eq_false_iff_ne, ne_eq]
    intro e
    exact h (ByteArray.ext (Array.toList_inj.1 e))

set_option maxHeartbeats 1000000 in
set_option maxRecDepth 100000 in
theorem sAt {a b : Option Addr} {lv ca cb : Nat} {cs : List Cl} {nr er n : Int} {k : ByteArray} {w : World} (hC : RdC w b cs) (hm : cs.length ≤ 1048576) :
    Calls Try.prog 38 #[.agg #[.slice a lv ca, .slice b cs.length cb, .int .i64 nr, .int .i64 er], .int .i64 n, .string k] w fun e w' => e = .returned (.int .i64 (atC n k cs)) ∧ Below w.heap.size w w' := by
  obtain ⟨W0, hW0⟩ : ∃ W0, W0 = w.alloc (.cells #[.slice a lv ca, .slice b cs.length cb, .int .i64 nr, .int .i64 er] 31) := ⟨_, rfl⟩
  have hb0 : Below w.heap.size w W0 := by rw [hW0]; exact (Below.refl _ w).alloc (Nat.le_refl _) _
  have k0 : Blk 31 W0 w.heap.size [.slice a lv ca, .slice b cs.length cb, .int .i64 nr, .int .i64 er] := by rw [hW0]; exact Blk.new _ _ _
  have r1 : ∀ m, (W0.drewN m).cell? ⟨w.heap.size, 1, none⟩ = some (.slice b cs.length cb) := fun m => k0.cell 1 rfl
  have hbm : ∀ m, Below w.heap.size w (W0.drewN m) := fun m => ⟨hb0.os, hb0.tape, hb0.output, hb0.size, hb0.block⟩
  have bm : (cs.length : Int) ≤ 1048576 := by omega
  obtain ⟨R, hR⟩ : ∃ R, R = atC n k cs := ⟨_, rfl⟩
  have HR : Hid (R = atC n k cs) := hR
  rw [← hR]
  clear hR
  have hkq := @key_eq
  go_enter Try.func38, Try.ntmps38
  go_wp2_with fail
  rw [← hW0]
  go_loopw [7] (fun i wr => ∃ j m : Nat, j ≤ cs.length ∧ i = .int .i64 j ∧ wr = W0.drewN m ∧ ∀ d ∈ cs.take j, hit n k d = false) (fun i _ => cs.length - (intOf i).toNat)
  case atStart => exact ⟨0, 0, Nat.zero_le _, rfl, rfl, by simp⟩
  case round =>
    clear hW0
    obtain ⟨j, m, hj, rfl, rfl, hno⟩ := hrel
    have q1 := r1 m
    by_cases hjl : j < cs.length
    · have hcj : cs[j]? = some cs[j] := List.getElem?_eq_getElem hjl
      obtain ⟨b', o, rfl, hbl, _, _, p0, p1, p2, p3, p4⟩ := hC.below (hbm m) j _ hcj
      have HN : Hid (hit n k cs[j] = false → ∀ d ∈ cs.take (j + 1), hit n k d = false) := fun h d hd => by
        rw [List.take_add_one, hcj, List.mem_append] at hd
        rcases hd with hd | hd
        · exact hno d hd
        · simp at hd; rw [hd]; exact h
      have HY : Hid (hit n k cs[j] = true → R = j) := fun h => by rw [HR.out]; unfold atC; rw [(find_at hcj h hno).1]
      generalize cs[j] = c at *
      have bj : (j : Int) < cs.length := by omega
      clear hcj hno hC r1 HR
      by_cases h1 : c.1 = n
      · have e1 : (c.1 == n) = true := by simpa using h1
        have d1 : decide (c.1 = n) = true := by simpa using h1
        by_cases h2 : c.2.1 = k
        · have hR : Hid (R = j) := HY.out (by simp [hit, h1, h2])
          have e2 : (c.2.1.toList == k.toList) = true := by rw [key_eq]; simpa using h2
          have d2 : decide (c.2.1 = k) = true := by simpa using h2
          clear HN HY h1 h2 hkq
          go_wp2_with fail
          go_ret
          exact ⟨by rw [hR.out]; rfl, hbm _⟩
        · have hN := HN.out (by simp [hit, h2])
          have HN' : Hid (∀ d ∈ cs.take (j + 1), hit n k d = false) := hN
          have e2 : (c.2.1.toList == k.toList) = false := by rw [key_eq]; simpa using h2
          have d2 : decide (c.2.1 = k) = false := by simpa using h2
          clear HN HY h1 h2 hN hkq
          go_wp2_with fail
          go_roundw
          case rel => exact ⟨j + 1, _, hjl, by go_num, rfl, HN'.out⟩
          case measure => simp [intOf]; omega
      · have HN' : Hid (∀ d ∈ cs.take (j + 1), hit n k d = false) := HN.out (by simp [hit, h1])
        have e1 : (c.1 == n) = false := by simpa using h1
        have d1 : decide (c.1 = n) = false := by simpa using h1
        clear HN HY h1 hkq
        go_wp2_with fail
        go_roundw
        case rel => exact ⟨j + 1, _, hjl, by go_num, rfl, HN'.out⟩
        case measure => simp [intOf]; omega
    · obtain rfl : j = cs.length := by omega
      rw [List.take_length] at hno
      have hR : Hid (R = -1) := by show R = -1; rw [HR.out]; unfold atC; rw [(find_none hno).1]
      clear hno HR hC hkq
      go_wp2_with fail
      go_ret
      exact ⟨by rw [hR.out]; rfl, hbm _⟩

end St
end Go.Proofs.Ytjlchfielpfehaa
