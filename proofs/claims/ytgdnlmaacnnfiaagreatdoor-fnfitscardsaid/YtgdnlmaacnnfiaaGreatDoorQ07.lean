/-
  A Rex as the program's pattern: manyOf, onlyOf, patternOf.
  The program's setOf at sets that some text tells.
-/
import Derived.Test.YtgdnlmaacnnfiaaGreatDoorQ06
import Derived.Deep.OwnRows
import Derived.Test.YtgdnlmaacnnfiaaGreatDoorQ01
import Derived.Lib.IndexAny
import Derived.Lib.IndexMore
namespace Go.Proofs.YtgdnlmaacnnfiaaGreatDoor
open Go.RowKit
namespace Rx

/-- How a pattern comes back. -/
def PatRet (t : Data) (w : World) (e : Ending) (w' : World) : Prop := ∃ v, e = .returned v ∧ PatIs w' t (Iv w.heap.size w'.heap.size) v ∧ Below w.heap.size w w'

def PatOk (W : World) (room : Nat) (t : Data) : Prop := ∀ (w : World) (S : Nat → Prop) (a b c d u : Value), Below W.heap.size W w → RexIs w t S [a, b, c, d, u] → (∀ k, S k → k < w.heap.size) →
  Calls Tryz.prog 22 #[.agg #[a, b, c, d, u], .int .i64 room] w fun e w' => PatRet t w e w'

theorem owns_put {w : World} {B g n cap : Nat} {xs : List Value} (h : w.ownsRow B 50 1 (.slice (some ⟨g, 0, none⟩) n cap) n xs) (k : Nat) (x : Value) : (w.setCell ⟨g, k, none⟩ x).ownsRow B 50 1 (.slice (some ⟨g, 0, none⟩) n cap) n (xs.set k x) := (h.stored k _).1

theorem set_mid (ys : List Value) (m : Nat) (z x : Value) : (ys ++ List.replicate (m + 1) z).set ys.length x = (ys ++ [x]) ++ List.replicate m z := by
  rw [List.set_append_right _ _ (Nat.le_refl _)]
  simp [List.replicate_succ]

set_option maxHeartbeats 1000000 in
set_option maxRecDepth 100000 in
theorem iManyOf {W : World} {room : Nat} {ks : List Data} (hroom : room ≤ 1000) (hk : ∀ t ∈ ks, PatOk W room t) (hn : ks.length ≤ 100000) (h2 : 2 ≤ ks.length) (w : World) (hW : Below W.heap.size W w) (S : Nat → Prop) (u : Value) (xs : List Value) (ho : w.ownsRow 0 26 5 u ks.length xs)
    (hx : RexsIs w ks S xs) (hS : ∀ k, S k → k < w.heap.size) :
    Calls Tryz.prog 54 #[u, .int .i64 room] w fun e w' => ∃ v, e = .returned v ∧ Pats w' w.heap.size ks v ∧ Below w.heap.size w w' := by
  obtain ⟨ao, cap, rfl⟩ := owns_slice ho
  have hnI : (ks.length : Int) ≤ 100000 := by omega
  have h2I : (2 : Int) ≤ ks.length := by omega
  have hrI : (room : Int) ≤ 1000 := by omega
  have hmk := run_make_row' (P := Tryz.prog) 93 50 .nilIface 16 Tryz.underlying93 Tryz.info50r rfl .i64 .i64 ks.length (by omega) (by omega)
  have hown0 : (w.alloc (.cells (madeCells #[.nilIface] ks.length) 50)).ownsRow w.heap.size 50 1 (.slice (some ⟨w.heap.size, 0, none⟩) ks.length ks.length) ks.length (List.replicate ks.length .nilIface) :=
    ⟨by simp, .inr ⟨w.heap.size, ks.length, madeCells #[.nilIface] ks.length, rfl, Nat.le_refl _, heap_alloc_last _ _, Nat.le_refl _, by unfold maxLen; omega, by rw [size_madeCells]; omega, by rw [toList_madeCells_one, Nat.mul_one]; simp⟩⟩
  go_enter Tryz.func54, Tryz.ntmps54
  go_wp2_with fail
  go_loopw [17] (fun iv wr => ∃ (i : Nat) (ys : List Value), iv = .int .i64 i ∧ i ≤ ks.length ∧ ys.length = i ∧ PatsIs wr (ks.take i) (Iv (w.heap.size + 1) wr.heap.size) ys ∧ wr.ownsRow w.heap.size 50 1 (.slice (some ⟨w.heap.size, 0, none⟩) ks.length ks.length) ks.length (ys ++ List.replicate (ks.length - i) .nilIface) ∧ Below w.heap.size w wr) (fun iv _ => ks.length - (intOf iv).toNat)
  case atStart => exact ⟨0, [], rfl, Nat.zero_le _, rfl, by simp only [List.take_zero, PatsIs], by simpa using hown0, (Below.refl _ w).alloc (Nat.le_refl _) _⟩
  case round =>
    clear hown0 hmk
    obtain ⟨i, ys, rfl, hi, hys, hps, hrow, hb⟩ := hrel
    have hsz := hb.size
    have hql := (hrow.lt w.heap.size rfl).2
    by_cases hil : i < ks.length
    · have hki : ks[i]? = some ks[i] := List.getElem?_eq_getElem hil
      obtain ⟨T1, a, b, c, d, v, x0, x1, x2, x3, x4, hr1, hs1⟩ := rexs_at hx hki
      obtain ⟨g, rfl, hg, hc⟩ := row_cells ho hil
      have cc : ∀ j x, xs[j]? = some x → wr.cell? ⟨g, j, none⟩ = some x := fun j x hx => (hb.cell (p := ⟨g, j, none⟩) hg).trans (hc j x hx)
      have p0 := cc _ _ x0
      have p1 := cc _ _ x1
      have p2 := cc _ _ x2
      have p3 := cc _ _ x3
      have p4 := cc _ _ x4
      obtain ⟨op, c', ss, no, a', n', cap', rfl, rfl, rfl, rfl, rfl⟩ := rex_cells hr1
      have hWr : Below W.heap.size W wr := hW.trans (hb.mono hW.size)
      have hr2 : RexIs (wr.alloc (.cells #[.int .i64 op, .int .i64 c', .string ⟨ss.toArray⟩, .bool no, .slice a' n' cap'] 26)) ks[i] T1 [.int .i64 op, .int .i64 c', .string ⟨ss.toArray⟩, .bool no, .slice a' n' cap'] :=
        rex_frame _ _ _ (fun j hj => (Below.heap_alloc _ _ _ (by have := hS j (hs1 j hj); omega)).trans (hb.block j (hS j (hs1 j hj)))) hr1
      have call := hk ks[i] (List.getElem_mem hil) (wr.alloc (.cells #[.int .i64 op, .int .i64 c', .string ⟨ss.toArray⟩, .bool no, .slice a' n' cap'] 26)) T1 _ _ _ _ _ (hWr.alloc (by have := hW.size; omega) _) hr2 (fun j hj => by have := hS j (hs1 j hj); simp; omega)
      clear x0 x1 x2 x3 x4 hc cc hr1 hs1 hr2
      go_wp2_with fail
      refine call.mono ?_
      rintro e w2 ⟨v2, rfl, hv2, hb2⟩
      obtain ⟨T2, y2, rfl⟩ := pat_iface hv2
      have hsz2 : wr.heap.size + 1 ≤ w2.heap.size := by simpa using hb2.size
      have hrow2 : w2.ownsRow w.heap.size 50 1 (.slice (some ⟨w.heap.size, 0, none⟩) ks.length ks.length) ks.length (ys ++ List.replicate (ks.length - i) .nilIface) := owns_same hrow fun b hb' => by
        cases hb'
        exact (hb2.block _ (by simp; omega)).trans (Below.heap_alloc _ _ _ hql)
      have q0 : w2.cell? ⟨w.heap.size, i, none⟩ = some .nilIface := by
        rw [hrow2.cellAt i (by omega), List.getElem?_append_right (by omega), List.getElem?_replicate, if_pos (by omega)]
      have fz := hrow2.frozenAt i
      go_wp2_with fail
      go_roundw
      case rel =>
        refine ⟨i + 1, ys ++ [.iface T2 y2], by go_num, hil, by simp [hys], ?_, ?_, ?_⟩
        · rw [List.take_add_one, hki]
          refine pats_snoc ?_ ?_
          · refine pats_frame (fun k hk => ?_) (fun k hk => ?_) hps
            · have k1 := hk.1
              have k2 := hk.2
              rw [Below.heap_setCell _ _ _ _ (show k ≠ w.heap.size by omega), hb2.block k (by simp; omega), Below.heap_alloc _ _ _ k2]
            · exact ⟨hk.1, by have := hk.2; simp; omega⟩
          · refine pat_frame (fun k hk => ?_) (fun k hk => ?_) _ _ hv2
            · have k1 := hk.1
              simp at k1
              exact Below.heap_setCell _ _ _ _ (show k ≠ w.heap.size by omega)
            · have k1 := hk.1
              simp at k1
              exact ⟨by omega, by simpa using hk.2⟩
        · have := owns_put hrow2 i (.iface T2 y2)
          obtain ⟨m, hm⟩ : ∃ m, ks.length - i = m + 1 := ⟨ks.length - i - 1, by omega⟩
          rw [hm] at this
          rw [show ks.length - (i + 1) = m by omega, ← set_mid, hys]
          exact this
        · exact (hb.trans (((Below.refl _ wr).alloc (Nat.le_refl _) _).trans (hb2.mono (by simp)) |>.mono hsz)).setCell (Nat.le_refl _) _
      case measure => simp [intOf]; omega
    · obtain rfl : i = ks.length := by omega
      go_wp2_with fail
      go_ret
      rw [List.take_length] at hps
      rw [Nat.sub_self, List.replicate_zero, List.append_nil] at hrow
      refine ⟨_, rfl, ⟨ys, Iv (w.heap.size + 1) wr.heap.size, hrow, hps, fun k hk => ⟨by have := hk.1; omega, hk.2, fun e => ?_⟩⟩, hb⟩
      simp [Value.ownBlock] at e
      have := hk.1
      omega

set_option maxRecDepth 100000 in
theorem iOnlyOf {W : World} {room : Nat} {k : Data} (hroom : room ≤ 1000) (hk : PatOk W room k) (w : World) (hW : Below W.heap.size W w) (S : Nat → Prop) (u : Value) (xs : List Value) (ho : w.ownsRow 0 26 5 u 1 xs)
    (hx : RexsIs w [k] S xs) (hS : ∀ k, S k → k < w.heap.size) : Calls Tryz.prog 55 #[u, .int .i64 room] w fun e w' => PatRet k w e w' := by
  obtain ⟨ao, cap, rfl⟩ := owns_slice ho
  have hrI : (room : Int) ≤ 1000 := by omega
  obtain ⟨T1, a, b, c, d, v, x0, x1, x2, x3, x4, hr1, hs1⟩ := rexs_at (i := 0) (t := k) hx rfl
  obtain ⟨g, rfl, hg, cc⟩ := row_cells ho (show 0 < 1 by omega)
  have p0 := cc _ _ x0
  have p1 := cc _ _ x1
  have p2 := cc _ _ x2
  have p3 := cc _ _ x3
  have p4 := cc _ _ x4
  simp only [Nat.zero_mul, Nat.zero_add] at p0 p1 p2 p3 p4
  obtain ⟨op, c', ss, no, a', n', cap', rfl, rfl, rfl, rfl, rfl⟩ := rex_cells hr1
  have call := hk w T1 _ _ _ _ _ hW hr1 (fun j hj => hS j (hs1 j hj))
  clear x0 x1 x2 x3 x4 cc hr1 hs1
  go_enter Tryz.func55, Tryz.ntmps55
  go_wp2_with (go_at_call 22; refine call.mono ?_; rintro e w2 ⟨v2, rfl, hv2, hb2⟩)
  go_ret
  exact ⟨v2, rfl, hv2, hb2⟩

/-- What setOf answers at sets that some text tells. -/
def SetOk (W : World) : Prop := ∀ (M : Nat → Bool) (no : Bool) (w : World), okSet M no → Below W.heap.size W w → Calls Tryz.prog 53 #[.string ⟨(bytesOf M).toArray⟩, .bool no] w fun e w' =>
  e = .returned (.iface 119 (.agg #[.string ⟨(bytesOf M).toArray⟩, .bool no])) ∧ Below w.heap.size w w'

theorem wrap8_lt (b : Nat) (h : b < 256) : IntKind.u8.wrap (b : Int) = (b : Int) := by
  rw [IntKind.wrap_u8]
  omega

theorem rex_shape {w : World} {op cc : Nat} {ss : List UInt8} {no : Bool} {ks : List Data} {S : Nat → Prop} {a b c d u : Value} (h : RexIs w (nd op cc ss no ks) S [a, b, c, d, u]) : ∃ xs, a = .int .i64 op ∧ b = .int .i64 cc ∧ c = .string ⟨ss.toArray⟩ ∧ d = .bool no ∧ w.ownsRow 0 26 5 u ks.length xs ∧ (∀ g, u.ownBlock = some g → S g) ∧ RexsIs w ks (fun k => S k ∧ u.ownBlock ≠ some k) xs := by
  rw [rex_nd] at h
  obtain ⟨v, xs, he, ho, h1, h2⟩ := h
  simp at he
  obtain ⟨rfl, rfl, rfl, rfl, rfl⟩ := he
  exact ⟨xs, rfl, rfl, rfl, rfl, ho, h1, h2⟩

set_option maxHeartbeats 2000000 in
set_option maxRecDepth 100000 in
theorem iPatternOf {W : World} (hSet : SetOk W) : ∀ (room : Nat) (t : Data), RightD room t → room ≤ 1000 → cnt t ≤ 100000 → PatOk W room t := by
  intro room
  induction room with
  | zero => intro t h; exact h.elim
  | succ room ih =>
    intro t hR hroom hcnt w S a b c d u hW h hS
    have hrI : (room : Int) ≤ 1000 := by omega
    have r1 : ((room + 1 : Nat) : Int) = (room : Int) + 1 := by omega
    have hb : ∀ o, Below w.heap.size w (w.alloc o) := fun o => (Below.refl _ w).alloc (Nat.le_refl _) o
    rw [RightD] at hR
    rcases hR with ⟨b', hb', rfl⟩ | ⟨op, ho, rfl⟩ | ⟨M, no, hM, rfl⟩ | ⟨op, k, ho, rfl, hk⟩ | ⟨op, ks, ho, rfl, hl, hk⟩
    · obtain ⟨xs, rfl, rfl, rfl, rfl, hown, _, _⟩ := rex_shape h
      obtain ⟨ao, cap, rfl⟩ := owns_slice hown
      have hw8 := wrap8_lt b' hb'
      clear hown h ih
      rw [r1]
      go_enter Tryz.func22, Tryz.ntmps22
      go_wp2_with fail
      go_ret
      exact ⟨_, rfl, pat_leaf (.inl ⟨rfl, hb', rfl, rfl, rfl⟩), hb _⟩
    · obtain ⟨xs, rfl, rfl, rfl, rfl, hown, _, _⟩ := rex_shape h
      obtain ⟨ao, cap, rfl⟩ := owns_slice hown
      clear hown h ih
      rw [r1]
      rcases ho with rfl | rfl | rfl | rfl
      · go_enter Tryz.func22, Tryz.ntmps22
        go_wp2_with fail
        go_ret
        exact ⟨_, rfl, pat_leaf (.inr (.inl ⟨rfl, rfl, rfl, rfl, rfl⟩)), hb _⟩
      · go_enter Tryz.func22, Tryz.ntmps22
        go_wp2_with fail
        go_ret
        exact ⟨_, rfl, pat_leaf (.inr (.inr (.inr (.inl ⟨rfl, rfl, rfl, rfl, rfl⟩)))), hb _⟩
      · go_enter Tryz.func22, Tryz.ntmps22
        go_wp2_with fail
        go_ret
        exact ⟨_, rfl, pat_leaf (.inr (.inr (.inr (.inr (.inl ⟨rfl, rfl, rfl, rfl, rfl⟩))))), hb _⟩
      · go_enter Tryz.func22, Tryz.ntmps22
        go_wp2_with fail
        go_ret
        exact ⟨_, rfl, pat_leaf (.inr (.inr (.inr (.inr (.inr ⟨rfl, rfl, rfl, rfl, rfl⟩))))), hb _⟩
    · obtain ⟨xs, rfl, rfl, rfl, rfl, hown, _, _⟩ := rex_shape h
      obtain ⟨ao, cap, rfl⟩ := owns_slice hown
      obtain ⟨o1, ho1⟩ : ∃ o1, o1 = Obj.cells #[.int .i64 3, .int .i64 0, .string ⟨(bytesOf M).toArray⟩, .bool no, .slice ao 0 cap] 26 := ⟨_, rfl⟩
      have call := hSet M no (w.alloc o1) hM (hW.alloc hW.size _)
      subst ho1
      clear hown h ih
      rw [r1]
      go_enter Tryz.func22, Tryz.ntmps22
      go_wp2_with (go_at_call 53; refine call.mono ?_; rintro e w2 ⟨rfl, hb2⟩)
      go_ret
      exact ⟨_, rfl, pat_leaf (.inr (.inr (.inl ⟨rfl, rfl, rfl⟩))), (hb _).trans (hb2.mono (by simp))⟩
    · have hck : cnt k ≤ 100000 := by have : cnt (one op k) = cnt k + 1 := by { unfold one; rw [cnt_nd]; simp [cnts] }
                                      omega
      obtain ⟨xs, rfl, rfl, rfl, rfl, hown, hg, hxs⟩ := rex_shape h
      obtain ⟨ao, cap, rfl⟩ := owns_slice hown
      obtain ⟨o1, ho1⟩ : ∃ o1, o1 = Obj.cells #[.int .i64 op, .int .i64 0, .string ⟨#[]⟩, .bool false, .slice ao 1 cap] 26 := ⟨_, rfl⟩
      have hlt : ∀ b, Value.ownBlock (.slice ao 1 cap) = some b → b < w.heap.size := fun b hb => (hown.lt b hb).2
      have call := iOnlyOf (by omega) (ih k hk (by omega) hck) (w.alloc o1) (hW.alloc hW.size _) _ _ _ (owns_same hown fun b hb' => Below.heap_alloc _ _ _ (hlt b hb')) (rexs_frame (fun b hb' => Below.heap_alloc _ _ _ (hS b hb'.1)) hxs) (fun b hb' => by have := hS b hb'.1; simp; omega)
      have hend : ∀ w2 v2, PatIs w2 k (Iv (w.alloc o1).heap.size w2.heap.size) v2 → PatIs w2 k (Iv w.heap.size w2.heap.size) v2 := fun w2 v2 hv => pat_frame (fun _ _ => rfl) (fun b hb' => ⟨by have := hb'.1; simp at this; omega, hb'.2⟩) k v2 hv
      subst ho1
      clear hown h ih hxs hg
      rw [r1]
      rcases ho with rfl | rfl | rfl
      · go_enter Tryz.func22, Tryz.ntmps22
        go_wp2_with fail
        refine call.mono ?_
        rintro e w2 ⟨v2, rfl, hv2, hb2⟩
        obtain ⟨T2, y2, rfl⟩ := pat_iface hv2
        go_wp2_with fail
        go_ret
        exact ⟨_, rfl, (pat_one (hend _ _ hv2)).1, (hb _).trans (hb2.mono (by simp))⟩
      · go_enter Tryz.func22, Tryz.ntmps22
        go_wp2_with fail
        refine call.mono ?_
        rintro e w2 ⟨v2, rfl, hv2, hb2⟩
        obtain ⟨T2, y2, rfl⟩ := pat_iface hv2
        go_wp2_with fail
        go_ret
        exact ⟨_, rfl, (pat_one (hend _ _ hv2)).2.1, (hb _).trans (hb2.mono (by simp))⟩
      · go_enter Tryz.func22, Tryz.ntmps22
        go_wp2_with fail
        refine call.mono ?_
        rintro e w2 ⟨v2, rfl, hv2, hb2⟩
        obtain ⟨T2, y2, rfl⟩ := pat_iface hv2
        go_wp2_with fail
        go_ret
        exact ⟨_, rfl, (pat_one (hend _ _ hv2)).2.2, (hb _).trans (hb2.mono (by simp))⟩
    · rw [cnt_nd] at hcnt
      have hlen := cnts_len ks
      obtain ⟨xs, rfl, rfl, rfl, rfl, hown, hg, hxs⟩ := rex_shape h
      obtain ⟨ao, cap, rfl⟩ := owns_slice hown
      obtain ⟨o1, ho1⟩ : ∃ o1, o1 = Obj.cells #[.int .i64 op, .int .i64 0, .string ⟨#[]⟩, .bool false, .slice ao ks.length cap] 26 := ⟨_, rfl⟩
      have hlt : ∀ b, Value.ownBlock (.slice ao ks.length cap) = some b → b < w.heap.size := fun b hb => (hown.lt b hb).2
      have call := iManyOf (by omega) (fun t ht => ih t (hk t ht) (by omega) (by have := cnts_mem ht; omega)) (by omega) hl (w.alloc o1) (hW.alloc hW.size _) _ _ _ (owns_same hown fun b hb' => Below.heap_alloc _ _ _ (hlt b hb')) (rexs_frame (fun b hb' => Below.heap_alloc _ _ _ (hS b hb'.1)) hxs) (fun b hb' => by have := hS b hb'.1; simp; omega)
      subst ho1
      clear hown h ih hxs hg
      rw [r1]
      rcases ho with rfl | rfl
      · go_enter Tryz.func22, Tryz.ntmps22
        go_wp2_with fail
        refine call.mono ?_
        rintro e w2 ⟨v2, rfl, hv2, hb2⟩
        go_wp2_with fail
        go_ret
        exact ⟨_, rfl, pat_frame (fun _ _ => rfl) (fun b hb' => ⟨by have := hb'.1; simp at this; omega, hb'.2⟩) _ _ (pats_pat hv2).1, (hb _).trans (hb2.mono (by simp))⟩
      · go_enter Tryz.func22, Tryz.ntmps22
        go_wp2_with fail
        refine call.mono ?_
        rintro e w2 ⟨v2, rfl, hv2, hb2⟩
        go_wp2_with fail
        go_ret
        exact ⟨_, rfl, pat_frame (fun _ _ => rfl) (fun b hb' => ⟨by have := hb'.1; simp at this; omega, hb'.2⟩) _ _ (pats_pat hv2).2, (hb _).trans (hb2.mono (by simp))⟩

end Rx
end Go.Proofs.YtgdnlmaacnnfiaaGreatDoor

namespace Go.Proofs.YtgdnlmaacnnfiaaGreatDoor
open Go.RowKit
namespace Rx

theorem index_mid (p sub q : List UInt8) (hs : sub ≠ []) : 0 ≤ Lib.index (p ++ (sub ++ q)) sub := by
  induction p with
  | nil =>
    obtain ⟨b, sub, rfl⟩ : ∃ b r, sub = b :: r := List.exists_cons_of_ne_nil hs
    have : (b :: sub).isPrefixOf (b :: (sub ++ q)) = true := by simp
    simp only [List.nil_append, List.cons_append, Lib.index, this, if_true]
    omega
  | cons b p ih =>
    simp only [List.cons_append, Lib.index]
    split
    · omega
    · split
      · rename_i h
        have := eq_of_beq h
        omega
      · omega

theorem range_parts : List.range 256 = List.range 92 ++ ([92, 93, 94] ++ (List.range 161).map (· + 95)) := by decide +kernel

theorem bytes_mid {M : Nat → Bool} (h2 : M 92 = true) (h3 : M 93 = true) (h4 : M 94 = true) : ∃ p q, bytesOf M = p ++ ([92, 93, 94] ++ q) := by
  unfold bytesOf
  rw [range_parts, List.filter_append, List.filter_append, List.map_append, List.map_append]
  have h : List.filter M [92, 93, 94] = [92, 93, 94] := by simp [h2, h3, h4]
  rw [h]
  exact ⟨_, _, rfl⟩

theorem mem_bytes {M : Nat → Bool} {b : Nat} (hb : b < 256) : UInt8.ofNat b ∈ bytesOf M ↔ M b = true := by
  unfold bytesOf
  simp only [List.mem_map, List.mem_filter, List.mem_range]
  constructor
  · rintro ⟨x, ⟨hx, hM⟩, he⟩
    have := congrArg UInt8.toNat he
    simp at this
    rw [Nat.mod_eq_of_lt hx, Nat.mod_eq_of_lt hb] at this
    rw [← this]
    exact hM
  · intro h
    exact ⟨b, ⟨hb, h⟩, rfl⟩

theorem bytes_up (M : Nat → Bool) : (bytesOf M).Pairwise fun a b => a.toNat < b.toNat := by
  unfold bytesOf
  rw [List.pairwise_map]
  have h1 : ((List.range 256).filter M).Pairwise (· < ·) := List.Pairwise.filter _ List.pairwise_lt_range
  refine List.Pairwise.imp_of_mem (fun {a b} ha hb hab => ?_) h1
  have ha' := List.mem_range.1 (List.mem_filter.1 ha).1
  have hb' := List.mem_range.1 (List.mem_filter.1 hb).1
  simp
  rw [Nat.mod_eq_of_lt ha', Nat.mod_eq_of_lt hb']
  exact hab

set_option maxRecDepth 100000 in
theorem iAscends (l : List UInt8) (hl : l.length ≤ 256) (hup : l.Pairwise fun a b => a.toNat < b.toNat) (w : World) :
    Calls Tryz.prog 78 #[.string ⟨l.toArray⟩] w fun e w' => e = .returned (.bool true) ∧ ∃ n, w' = w.drewN n := by
  obtain ⟨s, hs⟩ : ∃ s : ByteArray, s = ⟨l.toArray⟩ := ⟨_, rfl⟩
  have hsz : s.size = l.length := by rw [hs]; simp [ByteArray.size]
  have hlt : ∀ i j (hi : i < s.size) (hj : j < s.size), i < j → s[i].toNat < s[j].toNat := by
    intro i j hi hj hij
    subst hs
    have := List.pairwise_iff_getElem.1 hup i j (by omega) (by omega) hij
    simpa [ByteArray.getElem_eq_getElem_data] using this
  rw [← hs]
  have bs : (s.size : Int) ≤ 256 := by omega
  clear hs hup hsz hl
  go_enter Tryz.func78, Tryz.ntmps78
  go_wp2_with fail
  go_loopw [3] (fun iv wr => ∃ k m : Nat, iv = .int .i64 ((k + 1 : Nat) : Int) ∧ k ≤ s.size ∧ wr = w.drewN m) (fun iv _ => s.size + 1 - (intOf iv).toNat)
  case atStart => exact ⟨0, 0, rfl, Nat.zero_le _, rfl⟩
  case round =>
    obtain ⟨k, m, rfl, hk, rfl⟩ := hrel
    obtain ⟨k1, hk1⟩ : ∃ k1, k1 = k + 1 := ⟨_, rfl⟩
    rw [← hk1]
    have t1 : (k1 : Int) - 1 = (k : Int) := by omega
    have HK : Hid (k1 = k + 1) := hk1
    have b1 : (1 : Int) ≤ k1 := by omega
    have hwk : IntKind.i64.wrap (k : Int) = k := by rw [IntKind.wrap_i64]; omega
    have b2 : (k1 : Int) ≤ 300 := by omega
    by_cases hkl : k1 < s.size
    · have hk0 : k < s.size := by omega
      have z := hlt k k1 hk0 hkl (by omega)
      have z1 : decide ((s[k1].toNat : Int) ≤ s[k].toNat) = false := decide_eq_false (by omega)
      have z2 : decide (s[k1].toNat ≤ s[k].toNat) = false := decide_eq_false (by omega)
      clear hk1 z hlt
      go_wp2_with fail
      go_quiet (fail)
      go_wp2_with fail
      go_roundw
      case rel => exact ⟨k1, _, by go_num, by omega, rfl⟩
      case measure => have := HK.out; simp [intOf]; omega
    · have z1 : decide ((k1 : Int) < s.size) = false := decide_eq_false (by omega)
      have z2 : decide (k1 < s.size) = false := decide_eq_false (by omega)
      clear hk1
      go_wp2_with fail
      go_ret
      exact ⟨rfl, m, rfl⟩

theorem bytes_len (M : Nat → Bool) : (bytesOf M).length ≤ 256 := by
  unfold bytesOf
  rw [List.length_map]
  have := List.length_filter_le M (List.range 256)
  simpa using this

set_option maxRecDepth 100000 in
theorem iWritable {M : Nat → Bool} {no : Bool} (hM : okSet M no) {w : World} {m : Int} (hm : w.cell? ⟨1, 0, none⟩ = some (.int .i64 m)) :
    Calls Tryz.prog 79 #[.string ⟨(bytesOf M).toArray⟩, .bool no] w fun e w' => e = .returned (.bool true) ∧ w' = w := by
  obtain ⟨h1, h2, h3⟩ := hM
  have hlen := bytes_len M
  obtain ⟨s, hs⟩ : ∃ s : ByteArray, s = ⟨(bytesOf M).toArray⟩ := ⟨_, rfl⟩
  rw [← hs]
  have hsz : s.size < 4294967281 := by rw [hs]; simp [ByteArray.size]; omega
  have c1 := Tryz.strings_Contains_one s 93 w
  have c2 := Tryz.strings_Contains s ⟨#[92, 93, 94]⟩ m w hsz hm
  have d1 : decide (0 ≤ Lib.indexByte (bytesOf M) 93) = M 93 := by
    rw [← Lib.contains_iff_indexByte]
    have := mem_bytes (M := M) (b := 93) (by omega)
    cases e : M 93 with
    | true => rw [e] at this; exact List.contains_iff_mem.2 (this.2 rfl)
    | false =>
      rw [e] at this
      cases e2 : (bytesOf M).contains 93 with
      | false => rfl
      | true => exact absurd (this.1 (List.contains_iff_mem.1 e2)) (by simp)
  have d2 : M 93 = true → Lib.contains (bytesOf M) [92, 93, 94] = true := by
    intro e
    obtain ⟨p, q, hpq⟩ := bytes_mid (h2 e).1 e (h2 e).2
    unfold Lib.contains
    rw [hpq]
    exact decide_eq_true (index_mid p _ q (by simp))
  have d3 : no = false → s ≠ ⟨#[94]⟩ := by
    intro e e2
    rw [hs] at e2
    obtain ⟨b, hb, hb2, hMb⟩ := h3 e
    have e3 : bytesOf M = [94] := by
      have := congrArg (fun x : ByteArray => x.data.toList) e2
      simpa using this
    have := (mem_bytes (M := M) hb).2 hMb
    rw [e3] at this
    simp at this
    have := congrArg UInt8.toNat this
    simp at this
    omega
  have e1 : s.data.toList = bytesOf M := by rw [hs]
  rw [e1, d1] at c1
  rw [e1] at c2
  clear hs e1 hsz hm h1 h2 h3 d1 hlen
  cases no with
  | true =>
    cases eM : M 93 with
    | true =>
      rw [eM] at c1
      rw [show (⟨#[92, 93, 94]⟩ : ByteArray).data.toList = [92, 93, 94] from rfl, d2 eM] at c2
      go_enter Tryz.func79, Tryz.ntmps79
      go_wp2_with (first | (go_at_call 92; with_reducible refine c1.mono ?_; rintro e w2 ⟨rfl, hw⟩; have hw := hw.symm; subst hw) | (go_at_call 92; with_reducible refine c2.mono ?_; rintro e w2 ⟨rfl, hw⟩; have hw := hw.symm; subst hw))
      go_ret
      exact ⟨rfl, rfl⟩
    | false =>
      rw [eM] at c1
      go_enter Tryz.func79, Tryz.ntmps79
      go_wp2_with (first | (go_at_call 92; with_reducible refine c1.mono ?_; rintro e w2 ⟨rfl, hw⟩; have hw := hw.symm; subst hw))
      go_ret
      exact ⟨rfl, rfl⟩
  | false =>
    have hne := d3 rfl
    have n1 : (s.toList == [94]) = false := by
      cases e : s.toList == [94] with
      | false => rfl
      | true =>
        refine absurd ?_ hne
        have h1 : s.data.toList = [94] := by rw [← ByteArray.toList_eq]; exact eq_of_beq e
        exact ByteArray.ext (Array.ext' h1)
    clear hne d3
    cases eM : M 93 with
    | true =>
      rw [eM] at c1
      rw [show (⟨#[92, 93, 94]⟩ : ByteArray).data.toList = [92, 93, 94] from rfl, d2 eM] at c2
      go_enter Tryz.func79, Tryz.ntmps79
      go_wp2_with (first | (go_at_call 92; with_reducible refine c1.mono ?_; rintro e w2 ⟨rfl, hw⟩; have hw := hw.symm; subst hw) | (go_at_call 92; with_reducible refine c2.mono ?_; rintro e w2 ⟨rfl, hw⟩; have hw := hw.symm; subst hw))
      go_ret
      exact ⟨rfl, rfl⟩
    | false =>
      rw [eM] at c1
      go_enter Tryz.func79, Tryz.ntmps79
      go_wp2_with (first | (go_at_call 92; with_reducible refine c1.mono ?_; rintro e w2 ⟨rfl, hw⟩; have hw := hw.symm; subst hw))
      go_ret
      exact ⟨rfl, rfl⟩

set_option maxRecDepth 100000 in
theorem setOk {W : World} {m : Int} (hm : W.cell? ⟨1, 0, none⟩ = some (.int .i64 m)) : SetOk W := by
  intro M no w hM hW
  have hm' : ∀ n, (w.drewN n).cell? ⟨1, 0, none⟩ = some (.int .i64 m) := fun n => (hW.cell (p := ⟨1, 0, none⟩) (World.block_lt_of_cell? W _ hm)).trans hm
  have c1 := iAscends (bytesOf M) (bytes_len M) (bytes_up M) w
  have c2 := fun n => iWritable hM (hm' n)
  have hne := hM.1
  obtain ⟨s, hs⟩ : ∃ s : ByteArray, s = ⟨(bytesOf M).toArray⟩ := ⟨_, rfl⟩
  have n1 : (s.toList == []) = false := by
    cases e : s.toList == [] with
    | false => rfl
    | true =>
      refine absurd ?_ hne
      have h1 : s.data.toList = [] := by rw [← ByteArray.toList_eq]; exact eq_of_beq e
      rw [hs] at h1
      simpa using h1
  have n2 : s.isEmpty = false := by
    cases e : s.isEmpty with
    | false => rfl
    | true =>
      refine absurd ?_ hne
      have h1 : s.size = 0 := by simpa [ByteArray.isEmpty] using e
      rw [hs] at h1
      simpa [ByteArray.size] using h1
  rw [← hs] at c1 ⊢
  simp only [← hs] at c2
  clear hs hm' hne hM
  go_enter Tryz.func53, Tryz.ntmps53
  go_wp2_with (first | (go_at_call 78; refine c1.mono ?_; rintro e w2 ⟨rfl, n, rfl⟩) | (go_at_call 79; refine (c2 n).mono ?_; rintro e w3 ⟨rfl, hw⟩; have hw := hw.symm; subst hw))
  go_ret
  exact ⟨rfl, ⟨rfl, rfl, rfl, Nat.le_refl _, fun _ _ => rfl⟩⟩

end Rx
end Go.Proofs.YtgdnlmaacnnfiaaGreatDoor

