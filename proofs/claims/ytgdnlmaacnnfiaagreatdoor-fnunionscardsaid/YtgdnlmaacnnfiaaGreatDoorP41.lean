/-
  FnBrackets: a text in brackets tells what the text tells.
  The draw of a right Rex: l3DrawRight.
-/
import Derived.Test.YtgdnlmaacnnfiaaGreatDoorP40
import Derived.Test.YtgdnlmaacnnfiaaGreatDoorP09
import Derived.Test.YtgdnlmaacnnfiaaGreatDoorP08
namespace Go.Proofs.YtgdnlmaacnnfiaaGreatDoor
open Go.RowKit
namespace Rx

/-- A text in brackets. -/
def brk (s : ByteArray) : ByteArray := (⟨#[40]⟩ ++ s) ++ ⟨#[41]⟩

theorem brk_size (s : ByteArray) : (brk s).size = s.size + 2 := by
  unfold brk
  rw [ByteArray.size_append, ByteArray.size_append]
  show 1 + s.size + 1 = _
  omega

theorem brk_data (s : ByteArray) : (brk s).data.toList = 40 :: (s.data.toList ++ [41]) := by
  unfold brk
  simp [ByteArray.data_append]

theorem gOf_list (s : ByteArray) (i : Nat) : gOf s i = (s.data.toList[i]?.map UInt8.toNat).getD 256 := by
  unfold gOf
  split
  · rename_i h
    have h' : i < s.data.toList.length := by simpa using h
    rw [List.getElem?_eq_getElem h']
    simp
    rfl
  · rename_i h
    have h' : s.data.toList.length ≤ i := by
      have : s.data.toList.length = s.size := by simp
      omega
    rw [List.getElem?_eq_none h']
    rfl

theorem brk_sh (s : ByteArray) : Sh (gOf s) (gOf (brk s)) s.size where
  mid := by
    intro i hi
    have h' : i < s.data.toList.length := by simpa using hi
    rw [gOf_list, gOf_list, brk_data, List.getElem?_cons_succ, List.getElem?_append_left h']
  shut := by
    have h' : s.data.toList.length = s.size := by simp
    rw [gOf_list, brk_data, List.getElem?_cons_succ, List.getElem?_append_right (by omega), h']
    simp
  out := fun i h => gOf_out h

theorem parse_brk {s : ByteArray} {t : Data} (hs : s.size ≤ 58) (h : parseV s = some t) : parseV (brk s) = some t := by
  unfold parseV at h ⊢
  rw [if_neg (by omega)] at h
  rw [brk_size, if_neg (by omega)]
  refine whole_brk (brk_sh s) ?_ ?_ hs h
  · rw [gOf_list, brk_data]; rfl
  · intro i hi
    exact gOf_out (by rw [brk_size]; omega)

theorem parse_empty : (parseV ⟨#[]⟩).isSome = true := by decide

theorem parse_right {s : ByteArray} {t : Data} (h : parseV s = some t) : RightD 12 t ∧ cnt t ≤ 1000 := by
  unfold parseV at h
  split at h
  · simp at h
  · refine ⟨whole_right (fun i => ?_) h, ?_⟩
    · rcases Nat.lt_or_ge i s.size with hi | hi
      · exact Nat.le_of_lt (gOf_lt hi)
      · rw [gOf_out hi]; exact Nat.le_refl _
    · have := whole_cnt (fun i h => gOf_out h) h
      omega

end Rx
end Go.Proofs.YtgdnlmaacnnfiaaGreatDoor

namespace Go.Proofs.YtgdnlmaacnnfiaaGreatDoor
open Go.RowKit Go.Extern
namespace Dr
set_option linter.unusedVariables false

/-- What the specification's RexParse answers. -/
def ParseOk : Prop := ∀ (s : ByteArray) (w : World), Calls Tryz.prog 67 #[.string s] w fun e w' => Rx.RexOut (Rx.parseV s) w e w'
/-- Some right Rex of its own. -/
def RightRet (B p : Nat) (w : World) (e : Ending) (w' : World) : Prop := ∃ t a b c d u, e = .returned (.agg #[a, b, c, d, u]) ∧ Rx.RightD 12 t ∧ Rx.cnt t ≤ 121 ∧ Rx.RexIs w' t (Rx.Iv w.heap.size w'.heap.size) [a, b, c, d, u] ∧ Only p w w' ∧ Cur B p w'

theorem only_set {B p b : Nat} {W w : World} (h : Only p W w) (hC : Cur B p w) (hb : W.heap.size ≤ b) (hp : p < W.heap.size) (j : Nat) (v : Value) : Only p W (w.setCell ⟨b, j, none⟩ v) ∧ Cur B p (w.setCell ⟨b, j, none⟩ v) := by
  have hB := hC.le
  refine ⟨?_, hC.frame (q := b) ((Only.refl b w).setCell j v) (by omega) (by omega)⟩
  have hs := (Below.refl b w).setCell (p := ⟨b, j, none⟩) (Nat.le_refl _) v
  exact ⟨hs.os.trans h.os, hs.tape.trans h.tape, hs.output.trans h.output, Nat.le_trans h.size hs.size, fun k hk hl => (Below.heap_setCell w ⟨b, j, none⟩ v k (show k ≠ b by omega)).trans (h.block k hk hl)⟩
/-- five cells written in a row -/
def set5 (w : World) (q : Nat) (a b c d u : Value) : World := ((((w.setCell ⟨q, 0, none⟩ a).setCell ⟨q, 1, none⟩ b).setCell ⟨q, 2, none⟩ c).setCell ⟨q, 3, none⟩ d).setCell ⟨q, 4, none⟩ u
theorem set5_only {B p q : Nat} {W w : World} (h : Only p W w) (hC : Cur B p w) (hb : W.heap.size ≤ q) (hp : p < W.heap.size) (a b c d u : Value) : Only p W (set5 w q a b c d u) ∧ Cur B p (set5 w q a b c d u) := by
  unfold set5
  obtain ⟨h1, c1⟩ := only_set h hC hb hp 0 a
  obtain ⟨h2, c2⟩ := only_set h1 c1 hb hp 1 b
  obtain ⟨h3, c3⟩ := only_set h2 c2 hb hp 2 c
  obtain ⟨h4, c4⟩ := only_set h3 c3 hb hp 3 d
  exact only_set h4 c4 hb hp 4 u
theorem set5_var {w : World} {q : Nat} {a b c d u a' b' c' d' u' : Value} (h : Rx.Var w q a b c d u) : Rx.Var (set5 w q a' b' c' d' u') q a' b' c' d' u' := ((((h.set0 a').set1 b').set2 c').set3 d').set4 u'
theorem set5_block (w : World) (q k : Nat) (hk : k ≠ q) (a b c d u : Value) : (set5 w q a b c d u).heap[k]? = w.heap[k]? := by
  unfold set5
  rw [Below.heap_setCell _ ⟨q, 4, none⟩ _ _ hk, Below.heap_setCell _ ⟨q, 3, none⟩ _ _ hk, Below.heap_setCell _ ⟨q, 2, none⟩ _ _ hk, Below.heap_setCell _ ⟨q, 1, none⟩ _ _ hk, Below.heap_setCell _ ⟨q, 0, none⟩ _ _ hk]
theorem set5_size (w : World) (q : Nat) (a b c d u : Value) : (set5 w q a b c d u).heap.size = w.heap.size := by simp [set5]

/-- A Rex and a flag come back; where the flag is set the Rex is right. -/
def ParseRet (w : World) (e : Ending) (w' : World) : Prop := ∃ T ok op cc ss no ao n cap, e = .returned (.tuple #[.agg #[.int .i64 op, .int .i64 cc, .string ss, .bool no, .slice ao n cap], .bool ok]) ∧ Below w.heap.size w w' ∧ Rx.RexIs w' T (Rx.Iv w.heap.size w'.heap.size) [.int .i64 op, .int .i64 cc, .string ss, .bool no, .slice ao n cap] ∧ (ok = true → Rx.RightD 12 T ∧ Rx.cnt T ≤ 121)
theorem parse_small {s : ByteArray} {t : Data} (h : Rx.parseV s = some t) : Rx.RightD 12 t ∧ Rx.cnt t ≤ 121 := by
  refine ⟨(Rx.parse_right h).1, ?_⟩
  unfold Rx.parseV at h
  split at h
  · simp at h
  · have := Rx.whole_cnt (fun i h => Rx.gOf_out h) h
    omega
theorem parse_ret {s : ByteArray} {w : World} {e : Ending} {w' : World} (h : Rx.RexOut (Rx.parseV s) w e w') : ParseRet w e w' := by
  rcases hr : Rx.parseV s with _ | t
  · rw [hr] at h
    obtain ⟨rfl, hb⟩ := h
    exact ⟨_, _, _, _, _, _, _, _, _, rfl, hb, Rx.rex_leaf _ _ 0 0 [] false, fun h => by simp at h⟩
  · rw [hr] at h
    obtain ⟨a, b, c, d, u, rfl, hb, hx⟩ := h
    obtain ⟨op, c', ss, no, a', n', cap', rfl, rfl, rfl, rfl, rfl⟩ := Rx.rex_cells hx
    exact ⟨t, true, _, _, _, _, _, _, _, rfl, hb, hx, fun _ => parse_small hr⟩

set_option maxHeartbeats 2000000 in
set_option maxRecDepth 100000 in
theorem drawRight (hP : ParseOk) (B p : Nat) (w : World) (hC : Cur B p w) :
    Calls Tryz.prog 36 #[.pointer (some ⟨p, 0, none⟩)] w fun e w' => RightRet B p w e w' := by
  have hlt := hC.lt
  have hne : w.heap.size ≠ p := by omega
  obtain ⟨W1, hW1⟩ : ∃ W1, W1 = w.alloc (.cells #[.int .i64 0, .int .i64 0, .string ⟨#[]⟩, .bool false, .slice none 0 0] 26) := ⟨_, rfl⟩
  have hV : Rx.Var W1 w.heap.size (.int .i64 0) (.int .i64 0) (.string ⟨#[]⟩) (.bool false) (.slice none 0 0) := by rw [hW1]; exact heap_alloc_last _ _
  have hO1 : Only p w W1 := by rw [hW1]; exact (Only.refl _ _).alloc _
  have hC1 : Cur B p W1 := by rw [hW1]; exact hC.alloc _
  have hz1 : W1.heap.size = w.heap.size + 1 := by rw [hW1]; simp
  go_enter Tryz.func36, Tryz.ntmps36
  go_wp2_with fail
  rw [← hW1]
  clear hW1 hC
  go_loopw [3] (fun i wr => ∃ k : Nat, i = .int .i64 k ∧ k ≤ 6 ∧ Only p W1 wr ∧ Cur B p wr) (fun i _ => 6 - (intOf i).toNat)
  case atStart => exact ⟨0, rfl, by omega, Only.refl _ _, hC1⟩
  case round =>
    obtain ⟨k, rfl, hk, ho, hCr⟩ := hrel
    have hkI : (k : Int) ≤ 6 := by omega
    have hVr := hV.kept (ho.block w.heap.size hne (by omega))
    have hzr := ho.size
    by_cases hk6 : k < 6
    · have hk6I : (k : Int) < 6 := by omega
      go_upto_region 5 with (first | (go_at_call 69; refine (drawText B p _ hCr).mono ?_; rintro e w2 ⟨s, rfl, hs, ho2, hC2⟩) | (go_at_call 68; refine (dent B p s hs _ hC2).mono ?_; rintro e w3 ⟨s3, rfl, hs3, ho3, hC3⟩; have call := (hP s3 w3).mono (fun _ _ h => parse_ret h)) | (go_at_call 67; refine call.mono ?_; rintro e w4 ⟨T, ok, op, cc, ss, no, ao, n, cap, rfl, hb4, hx4, hok⟩))
      have hz2 := ho2.size
      have hz3 := ho3.size
      have hz4 := hb4.size
      obtain ⟨w5, hw5⟩ : ∃ w5, w5 = w4.alloc (.cells #[.int .i64 op, .int .i64 cc, .string ss, .bool no, .slice ao n cap] 26) := ⟨_, rfl⟩
      have hz5 : w5.heap.size = w4.heap.size + 1 := by rw [hw5]; simp
      have hV5 : Rx.Var w5 w4.heap.size (.int .i64 op) (.int .i64 cc) (.string ss) (.bool no) (.slice ao n cap) := by rw [hw5]; exact heap_alloc_last _ _
      have hk5 : ∀ j, j < w4.heap.size → w5.heap[j]? = w4.heap[j]? := fun j hj => by rw [hw5]; exact Below.heap_alloc _ _ _ hj
      have hO5 : Only p W1 w5 := by rw [hw5]; exact (((ho.trans ho2).trans ho3).trans (only_below hb4)).alloc _
      have hC5 : Cur B p w5 := by rw [hw5]; exact (cur_grown hC3 hb4).alloc _
      have hVz : Rx.Var w5 w.heap.size (.int .i64 0) (.int .i64 0) (.string ⟨#[]⟩) (.bool false) (.slice none 0 0) := hV.kept (hO5.block w.heap.size hne (by omega))
      rw [← hw5]
      clear call hP
      cases ok with
      | false =>
        clear hVr hV5 hk5 hVz hok hw5
        go_wp2_with fail
        go_roundw
        case rel => exact ⟨k + 1, by go_num, by omega, hO5, hC5⟩
        case measure => simp [intOf]; omega
      | true =>
        obtain ⟨hT1, hT2⟩ := hok rfl
        obtain ⟨v0, v1, v2, v3, v4⟩ := hV5.cell
        obtain ⟨z0, z1, z2, z3, z4⟩ := hVz.cell
        have y0 := hVz.frozen 0
        have y1 := hVz.frozen 1
        have y2 := hVz.frozen 2
        have y3 := hVz.frozen 3
        have y4 := hVz.frozen 4
        have HR : Hid (RightRet B p w (.returned (.agg #[.int .i64 op, .int .i64 cc, .string ss, .bool no, .slice ao n cap])) (set5 w5 w.heap.size (.int .i64 op) (.int .i64 cc) (.string ss) (.bool no) (.slice ao n cap))) := by
          obtain ⟨h1, h2⟩ := set5_only (hO1.trans hO5) hC5 (Nat.le_refl _) hlt (.int .i64 op) (.int .i64 cc) (.string ss) (.bool no) (.slice ao n cap)
          refine ⟨T, _, _, _, _, _, rfl, hT1, hT2, ?_, h1, h2⟩
          refine Rx.rex_mono (Rx.rex_frame _ _ _ (fun j hj => ?_) hx4) (fun j hj => ⟨by have := hj.1; omega, by have := hj.2; rw [set5_size]; omega⟩)
          have j1 := hj.1
          rw [set5_block _ _ _ (by omega), hk5 j hj.2]
        have hVf := set5_var (a' := .int .i64 op) (b' := .int .i64 cc) (c' := .string ss) (d' := .bool no) (u' := .slice ao n cap) hVz
        obtain ⟨x0, x1, x2, x3, x4⟩ := hVf.cell
        unfold set5 at x0 x1 x2 x3 x4
        clear hVr hV5 hk5 hVz hok hw5 hVf hx4 hT1 hT2
        go_wp2_with fail
        refine bodyPost_ret (v := .agg #[.int .i64 op, .int .i64 cc, .string ss, .bool no, .slice ao n cap]) (by simp [results, Tryz.results36, x0, x1, x2, x3, x4, go_sem]) rfl ?_
        exact HR.out
    · obtain rfl : k = 6 := by omega
      obtain ⟨z0, z1, z2, z3, z4⟩ := hVr.cell
      have y0 := hVr.frozen 0
      have y1 := hVr.frozen 1
      have y2 := hVr.frozen 2
      have y3 := hVr.frozen 3
      have y4 := hVr.frozen 4
      have HR : Hid (RightRet B p w (.returned (.agg #[.int .i64 11, .int .i64 0, .string ⟨#[]⟩, .bool false, .slice none 0 0])) (set5 wr w.heap.size (.int .i64 11) (.int .i64 0) (.string ⟨#[]⟩) (.bool false) (.slice none 0 0))) := by
        obtain ⟨h1, h2⟩ := set5_only (hO1.trans ho) hCr (Nat.le_refl _) hlt (.int .i64 11) (.int .i64 0) (.string ⟨#[]⟩) (.bool false) (.slice none 0 0)
        exact ⟨Rx.leaf 11, _, _, _, _, _, rfl, .inr (.inl ⟨11, .inr (.inr (.inr rfl)), rfl⟩), by decide, Rx.rex_leaf _ _ 11 0 [] false, h1, h2⟩
      have hVf := set5_var (a' := .int .i64 11) (b' := .int .i64 0) (c' := .string ⟨#[]⟩) (d' := .bool false) (u' := .slice none 0 0) hVr
      obtain ⟨x0, x1, x2, x3, x4⟩ := hVf.cell
      unfold set5 at x0 x1 x2 x3 x4
      clear hVf hVr hP
      go_wp2_with fail
      refine bodyPost_ret (v := .agg #[.int .i64 11, .int .i64 0, .string ⟨#[]⟩, .bool false, .slice none 0 0]) (by simp [results, Tryz.results36, x0, x1, x2, x3, x4, go_sem]) rfl ?_
      exact HR.out

end Dr
end Go.Proofs.YtgdnlmaacnnfiaaGreatDoor

