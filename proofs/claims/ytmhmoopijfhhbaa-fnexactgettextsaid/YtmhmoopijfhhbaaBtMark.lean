/-
  The laws' own functions over bytes: toByteS, eqByteS, markByteS, heldByteS.
-/
import Derived.Test.YtmhmoopijfhhbaaBtRow
import Derived.OwnWalk
import Derived.Deep.WholeRow
namespace Go.Proofs.Ytmhmoopijfhhbaa
open Go.RowKit
namespace Bt
set_option linter.unusedSimpArgs false
set_option linter.unusedVariables false

/-- A list's first bytes of l, then those of m. -/
def mixB (k : Nat) (l m : List UInt8) : List UInt8 := l.take k ++ m.drop k
theorem mixB_zero (l m : List UInt8) : mixB 0 l m = m := by simp [mixB]
theorem mixB_all {l m : List UInt8} (h : l.length = m.length) : mixB m.length l m = l := by simp [mixB, ← h]
theorem mixB_len {k : Nat} {l m : List UInt8} (h : l.length = m.length) (hk : k ≤ m.length) : (mixB k l m).length = m.length := by simp [mixB]; omega
theorem mixB_next {l m : List UInt8} {k : Nat} (h : l.length = m.length) (hk : k < m.length) {x : UInt8} (hx : l[k]? = some x) : (mixB k l m).set k x = mixB (k + 1) l m := by
  have hkl : k < l.length := by omega
  apply List.ext_getElem?
  intro j
  rw [List.getElem?_set, mixB_len h (by omega)]
  unfold mixB
  by_cases e : k = j
  · subst e
    rw [if_pos rfl, if_pos hk, List.getElem?_append_left (by simp; omega), List.getElem?_take_of_lt (by omega), hx]
  · rw [if_neg e]
    by_cases h2 : j < k
    · rw [List.getElem?_append_left (by simp; omega), List.getElem?_append_left (by simp; omega), List.getElem?_take_of_lt h2, List.getElem?_take_of_lt (by omega)]
    · rw [List.getElem?_append_right (by simp; omega), List.getElem?_append_right (by simp; omega), List.getElem?_drop, List.getElem?_drop]
      simp only [List.length_take]
      congr 1
      omega

theorem Row.put {B : Nat} {w : World} {g cap : Nat} {L : List UInt8} (h : Row B w (some ⟨g, 0, none⟩) cap L) (k : Nat) (b : UInt8) : Row B (w.setCell ⟨g, k, none⟩ (.int .u8 (b.toNat : Int))) (some ⟨g, 0, none⟩) cap (L.set k b) := by
  have h2 : w.ownsRow B 5 1 (.slice (some ⟨g, 0, none⟩) L.length cap) L.length (Lib.byteCells L) := h
  have := (h2.stored k (.int .u8 (b.toNat : Int))).1
  unfold Row
  rw [List.length_set]
  have e : Lib.byteCells (L.set k b) = (Lib.byteCells L).set k (.int .u8 (b.toNat : Int)) := by simp [Lib.byteCells, List.map_set]
  rw [e]
  exact this
theorem Row.frozen {B : Nat} {w : World} {g cap : Nat} {L : List UInt8} (h : Row B w (some ⟨g, 0, none⟩) cap L) (k : Nat) : w.frozen? ⟨g, k, none⟩ = false := by
  have h2 : w.ownsRow B 5 1 (.slice (some ⟨g, 0, none⟩) L.length cap) L.length (Lib.byteCells L) := h
  exact h2.frozenAt k

set_option maxRecDepth 100000 in
theorem lEqByteS {a1 a2 : Option Addr} {c1 c2 : Nat} {L M : List UInt8} {w : World} (h1 : Rd w a1 L) (h2 : Rd w a2 M) (e : M = L) (hn : L.length ≤ 4000000) :
    Calls Try.prog 11 #[.slice a1 L.length c1, .slice a2 M.length c2] w fun e w' => e = .returned (.bool true) ∧ ∃ n, w' = w.drewN n := by
  subst e
  have bn : (M.length : Int) ≤ 4000000 := by omega
  go_enter Try.func11, Try.ntmps11
  go_wp2_with fail
  go_loopw [5] (fun i wr => ∃ k m : Nat, i = .int .i64 k ∧ k ≤ M.length ∧ wr = w.drewN m) (fun i _ => M.length - (intOf i).toNat)
  case atStart => exact ⟨0, 0, rfl, Nat.zero_le _, rfl⟩
  case round =>
    obtain ⟨k, m, rfl, hk, rfl⟩ := hrel
    by_cases hkl : k < M.length
    · obtain ⟨g1, o1, rfl, _, q1⟩ := h1 k M[k] (List.getElem?_eq_getElem hkl)
      obtain ⟨g2, o2, rfl, _, q2⟩ := h2 k M[k] (List.getElem?_eq_getElem hkl)
      generalize (M[k].toNat : Int) = x at q1 q2
      go_wp2_with fail
      go_quiet (fail)
      go_wp2_with fail
      go_roundw
      case rel => exact ⟨k + 1, _, by go_num, hkl, rfl⟩
      case measure => simp [intOf]; omega
    · obtain rfl : k = M.length := by omega
      go_wp2_with fail
      go_ret
      exact ⟨rfl, m, rfl⟩

/-- What is marked: numbers from k on, as bytes. -/
def marks (k n : Nat) : List UInt8 := (List.range n).map fun i => UInt8.ofNat (k + i)
theorem marks_len (k n : Nat) : (marks k n).length = n := by simp [marks]
theorem marks_get (k : Nat) {n i : Nat} (h : i < n) : (marks k n)[i]? = some (UInt8.ofNat (k + i)) := by simp [marks, h]

set_option maxRecDepth 100000 in
theorem lMarkByteS {B k : Nat} {ao : Option Addr} {cap : Nat} {L : List UInt8} {w : World} (h : Row B w ao cap L) (hB : B ≤ w.heap.size) (hn : L.length ≤ 4000000) (hk : k ≤ 8000000) :
    Calls Try.prog 12 #[.slice ao L.length cap, .int .i64 k] w fun e w' => e = .returned (.int .i64 ((k + L.length : Nat) : Int)) ∧ Row B w' ao cap (marks k L.length) ∧ Below B w w' := by
  have bn : (L.length : Int) ≤ 4000000 := by omega
  have bk : (k : Int) ≤ 8000000 := by omega
  have HB : Hid (B ≤ w.heap.size) := hB
  have hml : (marks k L.length).length = L.length := marks_len _ _
  have HML : Hid ((marks k L.length).length = L.length) := hml
  clear hB hml
  go_enter Try.func12, Try.ntmps12
  go_wp2_with fail
  go_loopw [1, 5] (fun kv iv wr => ∃ i : Nat, iv = .int .i64 i ∧ kv = .int .i64 ((k + i : Nat) : Int) ∧ i ≤ L.length ∧ Row B wr ao cap (mixB i (marks k L.length) L) ∧ Below B w wr) (fun _ iv _ => L.length - (intOf iv).toNat)
  case atStart => exact ⟨0, rfl, rfl, Nat.zero_le _, by rw [mixB_zero]; exact h, Below.refl _ _⟩
  case round =>
    clear h
    obtain ⟨i, rfl, rfl, hi, ho, hb⟩ := hrel
    by_cases hil : i < L.length
    · have HX := mixB_len HML.out hi
      obtain ⟨y, hy⟩ : ∃ y, (mixB i (marks k L.length) L)[i]? = some y := ⟨_, List.getElem?_eq_getElem (by rw [HX]; exact hil)⟩
      obtain ⟨g, o, rfl, hgl, q0⟩ := ho.rd i y hy
      obtain ⟨g', c', cur, e', hgB, _⟩ := ho.2.resolve_left (by rintro ⟨_, h0⟩; omega)
      have : o = 0 := by simp at e'; exact e'.1.2
      subst this
      have hgB2 := (ho.lt rfl).1
      rw [Nat.zero_add] at q0
      have fz := ho.frozen i
      obtain ⟨b, hbb⟩ : ∃ b : UInt8, b = UInt8.ofNat (k + i) := ⟨_, rfl⟩
      have hS := ho.put i b
      rw [mixB_next HML.out hil (by rw [hbb]; exact marks_get k hil)] at hS
      have HBN : Hid ((b.toNat : Int) = ((k + i : Nat) : Int) % 256) := by show _ = _; rw [hbb]; simp
      have HS : Hid (Row B (wr.setCell ⟨g, i, none⟩ (.int .u8 (((k + i : Nat) : Int) % 256))) (some ⟨g, 0, none⟩) cap (mixB (i + 1) (marks k L.length) L)) := by rw [← HBN.out]; exact hS
      obtain ⟨ki, hki⟩ : ∃ ki, ki = k + i := ⟨_, rfl⟩
      have HK : Hid (ki = k + i) := hki
      have bki : (ki : Int) ≤ 12000000 := by omega
      rw [← hki] at HS ⊢
      have HG : Hid (B ≤ g) := hgB2
      clear hS HBN hki e' hgB hgB2 HX hy
      go_wp2_with fail
      go_roundw
      case rel => exact ⟨i + 1, by go_num, by have := HK.out; congr 1; omega, hil, HS.out, hb.setCell HG.out _⟩
      case measure => simp [intOf]; omega
    · obtain rfl : i = L.length := by omega
      rw [mixB_all HML.out] at ho
      go_wp2_with fail
      go_ret
      exact ⟨rfl, ho, hb⟩

set_option maxRecDepth 100000 in
theorem lHeldByteS {k n cap : Nat} {ao : Option Addr} {w : World} (h : Rd w ao (marks k n)) (hn : n ≤ 4000000) (hk : k ≤ 8000000) :
    Calls Try.prog 13 #[.slice ao n cap, .int .i64 k] w fun e w' => e = .returned (.int .i64 ((k + n : Nat) : Int)) ∧ ∃ m, w' = w.drewN m := by
  have bn : (n : Int) ≤ 4000000 := by omega
  have bk : (k : Int) ≤ 8000000 := by omega
  go_enter Try.func13, Try.ntmps13
  go_wp2_with fail
  go_loopw [1, 5] (fun kv iv wr => ∃ i m : Nat, iv = .int .i64 i ∧ kv = .int .i64 ((k + i : Nat) : Int) ∧ i ≤ n ∧ wr = w.drewN m) (fun _ iv _ => n - (intOf iv).toNat)
  case atStart => exact ⟨0, 0, rfl, rfl, Nat.zero_le _, rfl⟩
  case round =>
    obtain ⟨i, m, rfl, rfl, hi, rfl⟩ := hrel
    by_cases hil : i < n
    · obtain ⟨g, o, rfl, hgl, q0⟩ := h i _ (marks_get k hil)
      have e : ((UInt8.ofNat (k + i)).toNat : Int) = ((k + i : Nat) : Int) % 256 := by simp
      rw [e] at q0
      obtain ⟨ki, hki⟩ : ∃ ki, ki = k + i := ⟨_, rfl⟩
      have HK : Hid (ki = k + i) := hki
      have bki : (ki : Int) ≤ 12000000 := by omega
      rw [← hki] at q0 ⊢
      clear hki e
      go_wp2_with fail
      go_roundw
      case rel => exact ⟨i + 1, m, by go_num, by have := HK.out; congr 1; omega, hil, rfl⟩
      case measure => simp [intOf]; omega
    · obtain rfl : i = n := by omega
      go_wp2_with fail
      go_ret
      exact ⟨rfl, m, rfl⟩

theorem row_made (w : World) (n : Nat) (hn : n ≤ 1048576) : Row w.heap.size (w.alloc (.cells (madeCells #[.int .u8 0] n) 5)) (some ⟨w.heap.size, 0, none⟩) n (List.replicate n 0) := by
  refine ⟨by simp [Lib.byteCells], .inr ⟨w.heap.size, n, madeCells #[.int .u8 0] n, ?_, Nat.le_refl _, heap_alloc_last _ _, ?_, by unfold maxLen; omega, ?_, ?_⟩⟩
  · simp
  · simp
  · have := congrArg List.length (toList_madeCells_one (.int .u8 0) n)
    simpa using this
  · rw [Nat.mul_one, toList_madeCells_one]
    simp [Lib.byteCells]

set_option maxRecDepth 100000 in
theorem lToByteS {ao : Option Addr} {cap : Nat} {L : List UInt8} {w : World} (hA : Rd w ao L) (hn : L.length ≤ 1048576) :
    Calls Try.prog 15 #[.slice ao L.length cap] w fun e w' => ∃ g, e = .returned (.slice (some ⟨g, 0, none⟩) L.length L.length) ∧ w.heap.size ≤ g ∧ Row w.heap.size w' (some ⟨g, 0, none⟩) L.length L ∧ Below w.heap.size w w' := by
  have hmk := run_make_row' (P := Try.prog) 22 5 (.int .u8 0) 1 Try.underlying22 Try.infoByte rfl .i64 .i64 L.length (by omega) (by omega)
  have bn : (L.length : Int) ≤ 1048576 := by omega
  have hrl : (List.replicate L.length (0 : UInt8)).length = L.length := List.length_replicate
  have HRL : Hid ((List.replicate L.length (0 : UInt8)).length = L.length) := hrl
  have h0 := row_made w L.length hn
  clear hrl
  go_enter Try.func15, Try.ntmps15
  go_wp2_with fail
  go_loopw [4] (fun i wr => ∃ k : Nat, i = .int .i64 k ∧ k ≤ L.length ∧ Row w.heap.size wr (some ⟨w.heap.size, 0, none⟩) L.length (mixB k L (List.replicate L.length 0)) ∧ Below w.heap.size w wr) (fun i _ => L.length - (intOf i).toNat)
  case atStart => exact ⟨0, rfl, Nat.zero_le _, by rw [mixB_zero]; exact h0, (Below.refl _ w).alloc (Nat.le_refl _) _⟩
  case round =>
    clear h0
    obtain ⟨k, rfl, hk, hI, hb⟩ := hrel
    by_cases hkl : k < L.length
    · have hx : L[k]? = some L[k] := List.getElem?_eq_getElem hkl
      obtain ⟨b, o, rfl, hbl, c0⟩ := (hA.below hb (Nat.le_refl _)) k L[k] hx
      have HX := mixB_len (l := L) (m := List.replicate L.length 0) (k := k) HRL.out.symm (by rw [HRL.out]; exact hk)
      rw [HRL.out] at HX
      obtain ⟨y, hy⟩ : ∃ y, (mixB k L (List.replicate L.length 0))[k]? = some y := ⟨_, List.getElem?_eq_getElem (by rw [HX]; exact hkl)⟩
      obtain ⟨g, o', e', hgl, q0⟩ := hI.rd k y hy
      simp only [Option.some.injEq, Addr.mk.injEq] at e'
      obtain ⟨rfl, rfl, _⟩ := e'
      rw [Nat.zero_add] at q0
      have fz := hI.frozen k
      have hS := hI.put k L[k]
      rw [mixB_next HRL.out.symm (by rw [HRL.out]; exact hkl) hx] at hS
      have HS : Hid (Row w.heap.size (wr.setCell ⟨w.heap.size, k, none⟩ (.int .u8 (L[k].toNat : Int))) (some ⟨w.heap.size, 0, none⟩) L.length (mixB (k + 1) L (List.replicate L.length 0))) := hS
      clear hS HX hy hx
      generalize (L[k].toNat : Int) = x at c0 HS
      go_wp2_with fail
      go_roundw
      case rel => exact ⟨k + 1, by go_num, hkl, HS.out, hb.setCell (Nat.le_refl _) _⟩
      case measure => simp [intOf]; omega
    · obtain rfl : k = L.length := by omega
      have e : mixB L.length L (List.replicate L.length 0) = L := by
        have := mixB_all (l := L) (m := List.replicate L.length 0) HRL.out.symm
        rwa [HRL.out] at this
      rw [e] at hI
      go_wp2_with fail
      go_ret
      exact ⟨_, rfl, Nat.le_refl _, hI, hb⟩

end Bt
end Go.Proofs.Ytmhmoopijfhhbaa
