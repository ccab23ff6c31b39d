/-
  Logs: entries that are read; the laws' sizes, copies and comparisons of them.
-/
import Derived.Test.YtipjgkekjocljabStMark
import Derived.Test.YtipjgkekjocljabOcArg
import Derived.Test.YtipjgkekjocljabMcCmd
namespace Go.Proofs.Ytipjgkekjocljab
open Go.RowKit
namespace Lg
open St (fm_len fm_get putL made_rows below_putL)
open Oc (hold Blk heap_new heap_lt)
set_option linter.unusedSimpArgs false
set_option linter.unusedVariables false

/-- An entry: its term, who, seq and line. -/
abbrev En := Int × Int × Int × ByteArray
def encE (v : En) : List Value := [.int .i64 v.1, .int .i64 v.2.1, .int .i64 v.2.2.1, .string v.2.2.2]
theorem encE_len (v : En) : (encE v).length = 4 := rfl
def zeroE : En := (0, 0, 0, ⟨#[]⟩)
abbrev aggE (v : En) : Value := .agg #[.int .i64 v.1, .int .i64 v.2.1, .int .i64 v.2.2.1, .string v.2.2.2]
abbrev cmdE (v : En) : Value := .agg #[.int .i64 v.2.1, .int .i64 v.2.2.1, .string v.2.2.2]
abbrev aggL (b t : Int) (a : Option Addr) (n c : Nat) : Value := .agg #[.int .i64 b, .int .i64 t, .slice a n c]
/-- Entries that are read. -/
def RdE (w : World) (ao : Option Addr) (vs : List En) : Prop := ∀ i v, vs[i]? = some v → ∃ b o, ao = some ⟨b, o, none⟩ ∧ b < w.heap.size ∧ v.2.2.2.size ≤ maxLen ∧
  w.cell? ⟨b, o + i * 4, none⟩ = some (.int .i64 v.1) ∧ w.cell? ⟨b, o + i * 4 + 1, none⟩ = some (.int .i64 v.2.1) ∧ w.cell? ⟨b, o + i * 4 + 2, none⟩ = some (.int .i64 v.2.2.1) ∧ w.cell? ⟨b, o + i * 4 + 3, none⟩ = some (.string v.2.2.2)
theorem RdE.nil (w : World) (ao : Option Addr) : RdE w ao [] := fun i v h => by simp at h
theorem RdE.same {w w' : World} {ao : Option Addr} {vs : List En} (h : RdE w ao vs) (hs : w.heap.size ≤ w'.heap.size) (hb : ∀ a, ao = some a → a.block < w.heap.size → w'.heap[a.block]? = w.heap[a.block]?) : RdE w' ao vs := by
  intro i v hi
  obtain ⟨b, o, e, hl, hz, c0, c1, c2, c3⟩ := h i v hi
  have hc : ∀ k, w'.cell? ⟨b, k, none⟩ = w.cell? ⟨b, k, none⟩ := fun k => World.cell?_of_block (a := ⟨b, k, none⟩) (show w'.heap[b]? = w.heap[b]? from hb ⟨b, o, none⟩ e hl)
  exact ⟨b, o, e, Nat.lt_of_lt_of_le hl hs, hz, (hc _).trans c0, (hc _).trans c1, (hc _).trans c2, (hc _).trans c3⟩
theorem RdE.below {W w : World} {ao : Option Addr} {vs : List En} (h : RdE W ao vs) (hb : Below W.heap.size W w) : RdE w ao vs := h.same hb.size fun a _ hl => hb.block _ hl
theorem rows_rd {w : World} {g : Nat} {vs : List En} (h : St.Rows 45 encE w g vs) (hs : ∀ v ∈ vs, v.2.2.2.size ≤ maxLen) : RdE w (some ⟨g, 0, none⟩) vs := fun i v hi => by
  refine ⟨g, 0, rfl, h.lt, hs v (List.mem_of_getElem? hi), ?_, ?_, ?_, ?_⟩ <;> rw [Nat.zero_add]
  · exact h.cell encE_len hi (j := 0) rfl
  · exact h.cell encE_len hi (j := 1) rfl
  · exact h.cell encE_len hi (j := 2) rfl
  · exact h.cell encE_len hi (j := 3) rfl

def SmE (v : En) : Prop := v.2.2.2.size ≤ 1048576
theorem sme_max {vs : List En} (h : ∀ v ∈ vs, SmE v) : ∀ v ∈ vs, v.2.2.2.size ≤ maxLen := fun v hv => by
  have := h v hv
  unfold SmE at this
  unfold maxLen
  omega

theorem lEqCmd (a b : Int) (s : ByteArray) (w : World) :
    Calls Try.prog 21 #[.agg #[.int .i64 a, .int .i64 b, .string s], .agg #[.int .i64 a, .int .i64 b, .string s]] w fun e w' => e = .returned (.bool true) ∧ Below w.heap.size w w' := by
  go_enter Try.func21, Try.ntmps21
  go_wp2_with fail
  go_ret
  exact ⟨rfl, ((Below.refl _ w).alloc (Nat.le_refl _) _).alloc (by simp) _⟩

theorem lEqEntry (v : En) (w : World) :
    Calls Try.prog 18 #[aggE v, aggE v] w fun e w' => e = .returned (.bool true) ∧ Below w.heap.size w w' := by
  have b0 : ∀ o p, Below w.heap.size w ((w.alloc o).alloc p) := fun o p => ((Below.refl _ w).alloc (Nat.le_refl _) _).alloc (by simp) _
  go_enter Try.func18, Try.ntmps18
  go_wp2_with (go_at_call 21; refine (lEqCmd _ _ _ _).mono ?_; rintro e w2 ⟨rfl, hb2⟩; have B2 := (b0 _ _).trans (hb2.mono (b0 _ _).size))
  go_ret
  exact ⟨rfl, B2⟩

set_option maxRecDepth 100000 in
theorem lEqEntryS {a1 a2 : Option Addr} {c1 c2 : Nat} {vs : List En} {w : World} (h1 : RdE w a1 vs) (h2 : RdE w a2 vs) (hn : vs.length ≤ 3000000) :
    Calls Try.prog 13 #[.slice a1 vs.length c1, .slice a2 vs.length c2] w fun e w' => e = .returned (.bool true) ∧ Below w.heap.size w w' := by
  have bn : (vs.length : Int) ≤ 3000000 := by omega
  go_enter Try.func13, Try.ntmps13
  go_wp2_with fail
  go_loopw [5] (fun i wr => ∃ k : Nat, i = .int .i64 k ∧ k ≤ vs.length ∧ Below w.heap.size w wr) (fun i _ => vs.length - (intOf i).toNat)
  case atStart => exact ⟨0, rfl, Nat.zero_le _, Below.refl _ _⟩
  case round =>
    obtain ⟨k, rfl, hk, hb⟩ := hrel
    by_cases hkl : k < vs.length
    · obtain ⟨b1, o1, rfl, _, _, p0, p1, p2, p3⟩ := h1.below hb k vs[k] (List.getElem?_eq_getElem hkl)
      obtain ⟨b2, o2, rfl, _, _, q0, q1, q2, q3⟩ := h2.below hb k vs[k] (List.getElem?_eq_getElem hkl)
      generalize vs[k] = v at *
      have bk : (k : Int) < vs.length := by omega
      clear h1 h2
      have call := lEqEntry v wr.drew
      go_wp2_with fail
      go_region_with (first | (go_at_call 18; refine call.mono ?_; rintro e w2 ⟨rfl, hb2⟩))
      all_goals go_wp2_with fail
      all_goals go_roundw
      all_goals try (simp only [intOf]; omega)
      all_goals exact ⟨k + 1, by go_num, hkl, hb.trans (Below.mono (w := wr) (B := wr.heap.size) ⟨hb2.os, hb2.tape, hb2.output, hb2.size, hb2.block⟩ hb.size)⟩
    · obtain rfl : k = vs.length := by omega
      go_wp2_with fail
      go_ret
      exact ⟨rfl, hb⟩

theorem lEqLog {a1 a2 : Option Addr} {c1 c2 : Nat} {b t : Int} {vs : List En} {w : World} (h1 : RdE w a1 vs) (h2 : RdE w a2 vs) (hn : vs.length ≤ 3000000) :
    Calls Try.prog 8 #[aggL b t a1 vs.length c1, aggL b t a2 vs.length c2] w fun e w' => e = .returned (.bool true) ∧ Below w.heap.size w w' := by
  have b0 : ∀ o p, Below w.heap.size w ((w.alloc o).alloc p) := fun o p => ((Below.refl _ w).alloc (Nat.le_refl _) _).alloc (by simp) _
  have call := fun o p => lEqEntryS (c1 := c1) (c2 := c2) (h1.below (b0 o p)) (h2.below (b0 o p)) hn
  clear h1 h2
  go_enter Try.func8, Try.ntmps8
  go_wp2_with (go_at_call 13; refine (call _ _).mono ?_; rintro e w2 ⟨rfl, hb2⟩; have B2 := (b0 _ _).trans (hb2.mono (b0 _ _).size))
  go_ret
  exact ⟨rfl, B2⟩

theorem infoEntry : (Try.prog.info? 45).map (fun i => (i.zero, i.size, i.bytes)) = some (some (.agg #[.int .i64 0, .int .i64 0, .int .i64 0, .string ⟨#[]⟩]), 4, 40) := by kernel_rfl

theorem make_entries (n : Nat) (hn : n ≤ 4194304) (w : World) : (Instr.makeSlice 27 (.int .i64 n) (.int .i64 n)).run Try.prog w = .ok (.slice (some ⟨w.heap.size, 0, none⟩) n n) (w.alloc (.cells ((List.replicate n zeroE).flatMap encE).toArray 45)) := by
  obtain ⟨i0, hi0, hz0, hz1, hz2⟩ := info_parts infoEntry
  have := run_make (P := Try.prog) w 27 45 i0 _ Try.underlying27 hi0 hz0 .i64 .i64 n n (by omega) (Int.le_refl _) (by rw [hz2]; omega) (by omega)
  rw [this, hz1]
  simp only [Int.toNat_natCast]
  rw [← made_rows (m := 4) (by omega) encE_len]
  rfl

theorem lSzEntryZ (v : En) (left : Int) (h0 : 0 ≤ left) (h1 : left ≤ 1048576) (hs : v.2.2.2.size ≤ maxLen) (w : World) :
    Calls Try.prog 14 #[aggE v, .int .i64 left] w fun e w' => ∃ z, e = .returned (.int .i64 z) ∧ -1 ≤ z ∧ z ≤ left ∧ (z < 0 ∨ SmE v) ∧ Below w.heap.size w w' := by
  unfold maxLen at hs
  have b0 : ∀ o, Below w.heap.size w (w.alloc o) := fun o => (Below.refl _ w).alloc (Nat.le_refl _) o
  by_cases hl : left < (v.2.2.2.size : Int)
  · have call := fun w => Mc.szCmd_far v.2.1 v.2.2.1 v.2.2.2 left w hl (by omega) (by omega)
    go_enter Try.func14, Try.ntmps14
    go_wp2_with (go_at_call 19; refine (call _).mono ?_; rintro e w2 ⟨rfl, hb2⟩; have B2 := (b0 _).trans (hb2.mono (b0 _).size))
    go_ret
    exact ⟨_, rfl, by omega, by omega, .inl (by omega), B2⟩
  · have call := fun w => Mc.szCmd_near v.2.1 v.2.2.1 v.2.2.2 left w (by omega) (by omega)
    have hx : Hid (SmE v) := by show SmE v; unfold SmE; omega
    have hz : 0 ≤ left - (v.2.2.2.size : Int) := by omega
    have HZ : Hid (left - (v.2.2.2.size : Int) ≤ left) := by show _ ≤ _; omega
    go_enter Try.func14, Try.ntmps14
    go_wp2_with (go_at_call 19; refine (call _).mono ?_; rintro e w2 ⟨rfl, hb2⟩; have B2 := (b0 _).trans (hb2.mono (b0 _).size))
    go_ret
    exact ⟨_, rfl, by omega, HZ.out, .inr hx.out, B2⟩

set_option maxRecDepth 100000 in
theorem lSzEntryS {ao : Option Addr} {cap : Nat} {vs : List En} {left : Int} {W : World} (hA : RdE W ao vs) (hn : vs.length ≤ maxLen) (l0 : 0 ≤ left) (l1 : left ≤ 1048576) :
    Calls Try.prog 9 #[.slice ao vs.length cap, .int .i64 left] W fun e w' => ∃ z, e = .returned (.int .i64 z) ∧ -1 ≤ z ∧ z ≤ left ∧ (z < 0 ∨ (vs.length ≤ 1048576 ∧ ∀ v ∈ vs, SmE v)) ∧ Below W.heap.size W w' := by
  unfold maxLen at hn
  have bn : (vs.length : Int) ≤ 9223372036854775807 := by omega
  by_cases hl : left - vs.length < 0
  · go_enter Try.func9, Try.ntmps9
    go_wp2_with fail
    go_ret
    exact ⟨-1, rfl, by omega, by omega, .inl (by omega), Below.refl _ _⟩
  · have hn2 : vs.length ≤ 1048576 := by omega
    have bn2 : (vs.length : Int) ≤ 1048576 := by omega
    go_enter Try.func9, Try.ntmps9
    go_wp2_with fail
    go_loopw [1, 5] (fun l i wr => ∃ (z : Int) (k : Nat), l = .int .i64 z ∧ 0 ≤ z ∧ z ≤ left ∧ i = .int .i64 k ∧ k ≤ vs.length ∧ Hid (∀ v ∈ vs.take k, SmE v) ∧ Below W.heap.size W wr) (fun _ i _ => vs.length - (intOf i).toNat)
    case atStart => exact ⟨left - vs.length, 0, rfl, by omega, by omega, rfl, Nat.zero_le _, (show ∀ v ∈ vs.take 0, SmE v by simp), Below.refl _ _⟩
    case round =>
      obtain ⟨z, k, rfl, z0, z1, rfl, hk, hS, hb⟩ := hrel
      by_cases hkl : k < vs.length
      · have hvk : vs[k]? = some vs[k] := List.getElem?_eq_getElem hkl
        obtain ⟨b, o, rfl, hbl, hss, c0, c1, c2, c3⟩ := hA.below hb k vs[k] hvk
        have call := fun w => lSzEntryZ vs[k] z z0 (by omega) hss w
        have HN : Hid (SmE vs[k] → ∀ v ∈ vs.take (k + 1), SmE v) := fun h v hv => by
          rw [List.take_add_one, hvk, List.mem_append] at hv
          rcases hv with hv | hv
          · exact hS.out v hv
          · simp at hv; rw [hv]; exact h
        generalize vs[k] = v at *
        clear hvk
        go_wp2_with (go_at_call 14; refine (call _).mono ?_; rintro e w2 ⟨z2, rfl, a0, a1, a2, hb2⟩)
        · go_ret
          exact ⟨-1, rfl, by omega, by omega, .inl (by omega), hb.trans (hb2.mono hb.size)⟩
        · go_roundw
          case rel => exact ⟨z2, k + 1, rfl, by omega, by omega, by go_num, hkl, HN.out (a2.resolve_left (by omega)), hb.trans (hb2.mono hb.size)⟩
          case measure => simp [intOf]; omega
      · obtain rfl : k = vs.length := by omega
        have hS' : Hid (∀ v ∈ vs, SmE v) := by have := hS.out; rw [List.take_length] at this; exact this
        clear hS
        go_wp2_with fail
        go_ret
        exact ⟨z, rfl, by omega, z1, .inr ⟨hn2, hS'.out⟩, hb⟩

theorem lSzLog {ao : Option Addr} {cap : Nat} {vs : List En} {b t left : Int} {w : World} (hA : RdE w ao vs) (hn : vs.length ≤ maxLen) (l0 : 0 ≤ left) (l1 : left ≤ 1048576) :
    Calls Try.prog 4 #[aggL b t ao vs.length cap, .int .i64 left] w fun e w' => ∃ z, e = .returned (.int .i64 z) ∧ -1 ≤ z ∧ z ≤ left ∧ (z < 0 ∨ (vs.length ≤ 1048576 ∧ ∀ v ∈ vs, SmE v)) ∧ Below w.heap.size w w' := by
  have b0 : ∀ o, Below w.heap.size w (w.alloc o) := fun o => (Below.refl _ w).alloc (Nat.le_refl _) o
  have call := fun o => lSzEntryS (cap := cap) (hA.below (b0 o)) hn l0 l1
  clear hA hn
  go_enter Try.func4, Try.ntmps4
  go_wp2_with (go_at_call 9; refine (call _).mono ?_; rintro e w2 ⟨z, rfl, a0, a1, a2, hb2⟩; have B2 := (b0 _).trans (hb2.mono (b0 _).size); have A2 : Hid (z < 0 ∨ (vs.length ≤ 1048576 ∧ ∀ v ∈ vs, SmE v)) := a2; clear a2)
  · go_ret
    exact ⟨-1, rfl, by omega, by omega, .inl (by omega), B2⟩
  · go_ret
    exact ⟨z, rfl, a0, a1, A2.out, B2⟩

theorem lToEntry (v : En) (w : World) :
    Calls Try.prog 15 #[aggE v] w fun e w' => e = .returned (aggE v) ∧ Below w.heap.size w w' := by
  obtain ⟨t, a, b, s⟩ := v
  obtain ⟨W0, hW0⟩ : ∃ W0, W0 = ((w.alloc (.cells #[.int .i64 t, .int .i64 a, .int .i64 b, .string s] 42)).alloc (.cells #[.int .i64 0, .int .i64 0, .int .i64 0, .string ⟨#[]⟩] 45)).alloc (.cells #[.int .i64 t, .int .i64 0, .int .i64 0, .string ⟨#[]⟩] 45) := ⟨_, rfl⟩
  have H0 : Hid (Below w.heap.size w W0 ∧ Blk 45 W0 (w.heap.size + 1) [.int .i64 0, .int .i64 0, .int .i64 0, .string ⟨#[]⟩] ∧ Blk 45 W0 (w.heap.size + 1 + 1) [.int .i64 t, .int .i64 0, .int .i64 0, .string ⟨#[]⟩]) := by
    have k1 := Blk.new 45 (w.alloc (.cells #[.int .i64 t, .int .i64 a, .int .i64 b, .string s] 42)) [.int .i64 0, .int .i64 0, .int .i64 0, .string ⟨#[]⟩]
    have k2 := Blk.new 45 ((w.alloc (.cells #[.int .i64 t, .int .i64 a, .int .i64 b, .string s] 42)).alloc (.cells #[.int .i64 0, .int .i64 0, .int .i64 0, .string ⟨#[]⟩] 45)) [.int .i64 t, .int .i64 0, .int .i64 0, .string ⟨#[]⟩]
    rw [World.size_alloc] at k1
    rw [World.size_alloc, World.size_alloc] at k2
    rw [hW0]
    exact ⟨(((Below.refl _ w).alloc (Nat.le_refl _) _).alloc (by simp) _).alloc (by simp; omega) _, k1.alloc _, k2⟩
  go_enter Try.func15, Try.ntmps15
  go_wp2_with (go_at_call 20; refine hold ?_)
  rw [← hW0]
  clear hW0
  refine (Mc.toCmd_any _ _ _ _).mono ?_
  rintro e w2 ⟨rfl, hb2⟩
  obtain ⟨B0, K1, K2⟩ := H0.out
  have B2 := B0.trans (hb2.mono B0.size)
  have K12 := K1.below hb2
  have K22 := K2.below hb2
  have z0 := K22.cell 0 rfl
  have z1 := K22.cell 1 rfl
  have z2 := K22.cell 2 rfl
  have z3 := K22.cell 3 rfl
  have f0 := K22.frozen
  have y0 := K12.cell 0 rfl
  have y1 := K12.cell 1 rfl
  have y2 := K12.cell 2 rfl
  have y3 := K12.cell 3 rfl
  have f1 := K12.frozen
  have HK : Hid (Below w.heap.size w w2 ∧ Blk 45 w2 (w.heap.size + 1) [.int .i64 0, .int .i64 0, .int .i64 0, .string ⟨#[]⟩]) := ⟨B2, K12⟩
  clear B0 K1 K2 B2 K12 K22 hb2 H0
  go_wp2_with fail
  obtain ⟨B2, K12⟩ := HK.out
  refine bodyPost_ret (v := aggE (t, a, b, s)) ?_ rfl ⟨rfl, ?_⟩
  · have k := (((((((K12.other (g := w.heap.size + 1 + 1) (by omega) 1 (.int .i64 a)).other (g := w.heap.size + 1 + 1) (by omega) 2 (.int .i64 b)).other (g := w.heap.size + 1 + 1) (by omega) 3 (.string s)).set 0 (.int .i64 t)).set 1 (.int .i64 a)).set 2 (.int .i64 b)).set 3 (.string s))
    have x0 := k.cell 0 rfl
    have x1 := k.cell 1 rfl
    have x2 := k.cell 2 rfl
    have x3 := k.cell 3 rfl
    simp [results, Try.results15, go_sem, x0, x1, x2, x3]
  · exact ((((((B2.setCell (by simp; omega) _).setCell (by simp; omega) _).setCell (by simp; omega) _).setCell (by simp) _).setCell (by simp) _).setCell (by simp) _).setCell (by simp) _

set_option maxRecDepth 100000 in
theorem lToEntryS {ao : Option Addr} {cap : Nat} {vs : List En} {w : World} (hA : RdE w ao vs) (hn : vs.length ≤ 1048576) :
    Calls Try.prog 11 #[.slice ao vs.length cap] w fun e w' => ∃ g, e = .returned (.slice (some ⟨g, 0, none⟩) vs.length vs.length) ∧ w.heap.size ≤ g ∧ St.Rows 45 encE w' g vs ∧ Below w.heap.size w w' := by
  have hmk := make_entries vs.length (by omega)
  have bn : (vs.length : Int) ≤ 1048576 := by omega
  go_enter Try.func11, Try.ntmps11
  go_wp2_with fail
  go_loopw [4] (fun i wr => ∃ (k : Nat) (L : List En), i = .int .i64 k ∧ k ≤ vs.length ∧ L.length = vs.length ∧ (∀ j, j < k → L[j]? = vs[j]?) ∧ St.Rows 45 encE wr w.heap.size L ∧ Below w.heap.size w wr) (fun i _ => vs.length - (intOf i).toNat)
  case atStart => exact ⟨0, List.replicate vs.length zeroE, rfl, Nat.zero_le _, by simp, fun j hj => by omega, heap_new _ _, (Below.refl _ w).alloc (Nat.le_refl _) _⟩
  case round =>
    obtain ⟨k, L, rfl, hk, hL, hM, hR, hb⟩ := hrel
    have hgl := hR.lt
    by_cases hkl : k < vs.length
    · have hvk : vs[k]? = some vs[k] := List.getElem?_eq_getElem hkl
      obtain ⟨b, o, rfl, hbl, hss, c0, c1, c2, c3⟩ := hA.below hb k vs[k] hvk
      generalize vs[k] = v at *
      obtain ⟨u, hu⟩ : ∃ u, L[k]? = some u := ⟨_, List.getElem?_eq_getElem (by omega)⟩
      obtain ⟨u0, u1, u2, u3⟩ := u
      clear hA hmk
      go_wp2_with (go_at_call 15; refine (lToEntry v _).mono ?_; rintro e w2 ⟨rfl, hb2⟩; have hR2 := hR.kept (w' := w2) (hb2.block _ hgl); have p0 : w2.cell? ⟨w.heap.size, k * 4, none⟩ = some (.int .i64 u0) := hR2.cell encE_len hu (j := 0) rfl; have p1 : w2.cell? ⟨w.heap.size, k * 4 + 1, none⟩ = some (.int .i64 u1) := hR2.cell encE_len hu (j := 1) rfl; have p2 : w2.cell? ⟨w.heap.size, k * 4 + 2, none⟩ = some (.int .i64 u2) := hR2.cell encE_len hu (j := 2) rfl; have p3 : w2.cell? ⟨w.heap.size, k * 4 + 3, none⟩ = some (.string u3) := hR2.cell encE_len hu (j := 3) rfl; have fz := hR2.frozen)
      go_roundw
      case rel =>
        refine ⟨k + 1, L.set k v, by go_num, hkl, by simpa using hL, fun j hj => ?_, hR2.set (by omega) encE_len (by omega) v, below_putL (Nat.le_refl _) (encE v) _ _ (hb.trans (hb2.mono hb.size))⟩
        by_cases hjk : j = k
        · subst hjk
          rw [List.getElem?_set_self (by omega), hvk]
        · rw [List.getElem?_set_ne (by omega)]
          exact hM j (by omega)
      case measure => simp [intOf]; omega
    · obtain rfl : k = vs.length := by omega
      have hLe : L = vs := by
        apply List.ext_getElem?
        intro j
        by_cases hj : j < vs.length
        · exact hM j hj
        · rw [List.getElem?_eq_none (by omega), List.getElem?_eq_none (by omega)]
      subst hLe
      have HR : Hid (St.Rows 45 encE wr w.heap.size L) := hR
      clear hR hM hmk hA
      go_wp2_with fail
      go_ret
      exact ⟨_, rfl, Nat.le_refl _, HR.out, hb⟩

theorem lToLog {ao : Option Addr} {cap : Nat} {vs : List En} {b t : Int} {w : World} (hA : RdE w ao vs) (hn : vs.length ≤ 1048576) :
    Calls Try.prog 6 #[aggL b t ao vs.length cap] w fun e w' => ∃ g, e = .returned (aggL b t (some ⟨g, 0, none⟩) vs.length vs.length) ∧ w.heap.size ≤ g ∧ St.Rows 45 encE w' g vs ∧ Below w.heap.size w w' := by
  obtain ⟨W0, hW0⟩ : ∃ W0, W0 = ((w.alloc (.cells #[.int .i64 b, .int .i64 t, .slice ao vs.length cap] 24)).alloc (.cells #[.int .i64 0, .int .i64 0, .slice none 0 0] 29)).alloc (.cells #[.int .i64 b, .int .i64 t, .slice none 0 0] 29) := ⟨_, rfl⟩
  have H0 : Hid (Below w.heap.size w W0 ∧ Blk 29 W0 (w.heap.size + 1) [.int .i64 0, .int .i64 0, .slice none 0 0] ∧ Blk 29 W0 (w.heap.size + 1 + 1) [.int .i64 b, .int .i64 t, .slice none 0 0]) := by
    have k1 := Blk.new 29 (w.alloc (.cells #[.int .i64 b, .int .i64 t, .slice ao vs.length cap] 24)) [.int .i64 0, .int .i64 0, .slice none 0 0]
    have k2 := Blk.new 29 ((w.alloc (.cells #[.int .i64 b, .int .i64 t, .slice ao vs.length cap] 24)).alloc (.cells #[.int .i64 0, .int .i64 0, .slice none 0 0] 29)) [.int .i64 b, .int .i64 t, .slice none 0 0]
    rw [World.size_alloc] at k1
    rw [World.size_alloc, World.size_alloc] at k2
    rw [hW0]
    exact ⟨(((Below.refl _ w).alloc (Nat.le_refl _) _).alloc (by simp) _).alloc (by simp; omega) _, k1.alloc _, k2⟩
  have call : Hid (∀ w', Below w.heap.size w w' → Calls Try.prog 11 #[.slice ao vs.length cap] w' fun e w'' => ∃ g, e = .returned (.slice (some ⟨g, 0, none⟩) vs.length vs.length) ∧ w'.heap.size ≤ g ∧ St.Rows 45 encE w'' g vs ∧ Below w'.heap.size w' w'') := fun w' h => lToEntryS (hA.below h) hn
  clear hA hn
  go_enter Try.func6, Try.ntmps6
  go_wp2_with (go_at_call 11; refine hold ?_)
  rw [← hW0]
  clear hW0
  obtain ⟨B0, K1, K2⟩ := H0.out
  refine Calls.mono (call.out _ B0) ?_
  rintro e w2 ⟨g, rfl, hg, R, hb2⟩
  have B2 := B0.trans (hb2.mono B0.size)
  have K12 := K1.below hb2
  have K22 := K2.below hb2
  have hk2 := K2.lt
  have z0 := K22.cell 0 rfl
  have z1 := K22.cell 1 rfl
  have z2 := K22.cell 2 rfl
  have f0 := K22.frozen
  have y0 := K12.cell 0 rfl
  have y1 := K12.cell 1 rfl
  have y2 := K12.cell 2 rfl
  have f1 := K12.frozen
  have hgl : w.heap.size + 1 + 1 < g := by omega
  have HK : Hid (Below w.heap.size w w2 ∧ Blk 29 w2 (w.heap.size + 1) [.int .i64 0, .int .i64 0, .slice none 0 0] ∧ St.Rows 45 encE w2 g vs) := ⟨B2, K12, R⟩
  clear B0 K1 K2 B2 K12 K22 hb2 H0 call R
  go_wp2_with fail
  obtain ⟨B2, K12, R⟩ := HK.out
  have ro : ∀ {w' : World} {k : Nat}, St.Rows 45 encE w' g vs → g ≠ k → ∀ (j : Nat) (x : Value), St.Rows 45 encE (w'.setCell ⟨k, j, none⟩ x) g vs := fun h hk j x => h.kept (Below.heap_setCell _ _ _ _ hk)
  refine bodyPost_ret (v := aggL b t (some ⟨g, 0, none⟩) vs.length vs.length) ?_ rfl ⟨g, rfl, by omega, ?_, ?_⟩
  · have k := (((K12.other (g := w.heap.size + 1 + 1) (by omega) 2 (.slice (some ⟨g, 0, none⟩) vs.length vs.length)).set 0 (.int .i64 b)).set 1 (.int .i64 t)).set 2 (.slice (some ⟨g, 0, none⟩) vs.length vs.length)
    have x0 := k.cell 0 rfl
    have x1 := k.cell 1 rfl
    have x2 := k.cell 2 rfl
    simp [results, Try.results6, go_sem, x0, x1, x2]
  · exact ro (ro (ro (ro R (by omega) _ _) (by omega) _ _) (by omega) _ _) (by omega) _ _
  · exact (((B2.setCell (by simp; omega) _).setCell (by simp) _).setCell (by simp) _).setCell (by simp) _

end Lg
end Go.Proofs.Ytipjgkekjocljab
