/-
  The specification's l3Deep at any Rex.
  The specification's RexOk at any Rex.
  What the specification calls right, of a drawn Rex, is what some text tells.
  A Rex in the heap of which one node is turned, or that is put within another one.
  MatchTree of the program and of the specification where there is nothing to fit: what is not RexOk, or a place that the text has not; the law's own within and sameInts.
  The law's own within and sameInts, over lists of numbers that are read.
-/
import Derived.Test.YtgdnlmaacnnfiaaGreatDoorP10
import Derived.Test.YtgdnlmaacnnfiaaGreatDoorP21
import Derived.Test.YtgdnlmaacnnfiaaGreatDoorP19
import Derived.Test.YtgdnlmaacnnfiaaGreatDoorP09
import Derived.Test.YtgdnlmaacnnfiaaGreatDoorP08
import Derived.Test.YtgdnlmaacnnfiaaGreatDoorP06
import Derived.Test.YtgdnlmaacnnfiaaGreatDoorP11
import Derived.Test.YtgdnlmaacnnfiaaGreatDoorProg
import Derived.WalkKit
import Derived.ProofKit
import Derived.Below
import Derived.Deep.LoopGhost
import Derived.Deep.QuietTactic
import Derived.BigQuiet
namespace Go.Proofs.YtgdnlmaacnnfiaaGreatDoor
open Go.RowKit
namespace Rx

theorem depZ_nd (op c : Int) (s : List UInt8) (no : Bool) (ks : List Data) : dep (ndZ op c s no ks) = deps ks + 1 := by simp [ndZ, dep]; try omega
theorem cntZ_nd (op c : Int) (s : List UInt8) (no : Bool) (ks : List Data) : cnt (ndZ op c s no ks) = cnts ks + 1 := by simp [ndZ, cnt]; try omega

def DeepZ (t : Data) : Prop := ∀ (w : World) (S : Nat → Prop) (a b c d u : Value), RexZ w t S [a, b, c, d, u] → (∀ k, S k → k < w.heap.size) →
  Calls Tryz.prog 56 #[.agg #[a, b, c, d, u]] w fun e w' => e = .returned (.int .i64 (dep t)) ∧ Below w.heap.size w w'

theorem sDeepZ : ∀ (n : Nat) (t : Data), dep t ≤ n → cnt t ≤ 100000 → DeepZ t := by
  intro n
  induction n with
  | zero => intro t hd _ w S a b c d u h; obtain ⟨op, c, s, no, ks, rfl⟩ := rexZ_node h; rw [depZ_nd] at hd; omega
  | succ n ih =>
    intro t hd hc w S a b c d u h hS
    obtain ⟨op, cc, s, no, ks, rfl⟩ := rexZ_node h
    rw [depZ_nd] at hd ⊢
    rw [cntZ_nd] at hc
    rw [rexZ_nd] at h
    obtain ⟨v, xs, he, ho, hg, hx⟩ := h
    simp at he
    obtain ⟨rfl, rfl, rfl, rfl, rfl⟩ := he
    have hlen := cnts_len ks
    have hnI : (ks.length : Int) ≤ 100000 := by omega
    have hdc : deps ks ≤ 100000 := by have := dep_cnt (ndZ op cc s no ks); rw [depZ_nd, cntZ_nd] at this; omega
    have HD : Hid (deps (ks.take ks.length) = deps ks) := by show _ = _; rw [List.take_length]
    have HI := fun i => deps_le ks i
    have hkids : ∀ t ∈ ks, DeepZ t := fun t ht => ih t (by have := deps_mem ht; omega) (by have := cnts_mem ht; omega)
    obtain ⟨ao, cap, rfl⟩ := owns_slice ho
    obtain ⟨o1, ho1⟩ : ∃ o1, o1 = Obj.cells #[.int .i64 op, .int .i64 cc, .string ⟨s.toArray⟩, .bool no, .slice ao ks.length cap] 26 := ⟨_, rfl⟩
    have hb0 : Below w.heap.size w (w.alloc o1) := (Below.refl _ w).alloc (Nat.le_refl _) _
    have hv0 : Var (w.alloc o1) w.heap.size (.int .i64 op) (.int .i64 cc) (.string ⟨s.toArray⟩) (.bool no) (.slice ao ks.length cap) := by rw [ho1]; exact heap_alloc_last _ _
    subst ho1
    clear ih
    go_enter Tryz.func56, Tryz.ntmps56
    go_wp2_with fail
    go_loopw [3, 4] (fun mo i wr => ∃ k : Nat, k ≤ ks.length ∧ i = .int .i64 k ∧ mo = .int .i64 (deps (ks.take k)) ∧ Below w.heap.size w wr ∧ Var wr w.heap.size (.int .i64 op) (.int .i64 cc) (.string ⟨s.toArray⟩) (.bool no) (.slice ao ks.length cap)) (fun _ i _ => ks.length - (intOf i).toNat)
    case atStart => exact ⟨0, Nat.zero_le _, rfl, rfl, hb0, hv0⟩
    case round =>
      obtain ⟨k, hkn, rfl, rfl, hb, hV⟩ := hrel
      have v4 := hV.cell.2.2.2.2
      by_cases hkl : k < ks.length
      · have hki : ks[k]? = some ks[k] := List.getElem?_eq_getElem hkl
        obtain ⟨T1, a, b, c, d, u, x0, x1, x2, x3, x4, hr1, hs1⟩ := rexZs_at hx hki
        obtain ⟨g, rfl, hg', hc'⟩ := row_cells ho hkl
        have cl : ∀ j x, xs[j]? = some x → wr.cell? ⟨g, j, none⟩ = some x := fun j x hx => (hb.cell (p := ⟨g, j, none⟩) hg').trans (hc' j x hx)
        have p0 := cl _ _ x0
        have p1 := cl _ _ x1
        have p2 := cl _ _ x2
        have p3 := cl _ _ x3
        have p4 := cl _ _ x4
        have call := hkids ks[k] (List.getElem_mem hkl) wr T1 a b c d u (rexZ_frame _ _ _ (fun j hj => hb.block j (hS j (hs1 j hj).1)) hr1) (fun j hj => Nat.lt_of_lt_of_le (hS j (hs1 j hj).1) hb.size)
        have hm : ks[k] ∈ ks := List.getElem_mem hkl
        have d1 := deps_mem hm
        have HT2 : Hid (deps (ks.take (k + 1)) = max (deps (ks.take k)) (dep ks[k])) := deps_take ks k ks[k] hki
        have hi1 := HI k
        have hd1 : (dep ks[k] : Int) ≤ 100000 := by omega
        have hi2 : (deps (ks.take k) : Int) ≤ 100000 := by omega
        have hlt := hV.lt
        clear x0 x1 x2 x3 x4 hc' cl hr1 hs1 hx ho hki hkids hm d1 HI hi1 HD hdc hd hc
        generalize dep ks[k] = D at *
        generalize deps (ks.take k) = M at *
        go_wp2_with (first | (go_at_call 56; refine call.mono ?_; rintro e w2 ⟨rfl, hb2⟩) | (go_at_call 80; refine (sMax M D _).mono ?_; rintro e w3 ⟨rfl, hw⟩; have hw := hw.symm; subst hw))
        go_roundw
        case rel => exact ⟨k + 1, by omega, by go_num, by rw [HT2.out], hb.trans (hb2.mono hb.size), hV.kept (hb2.block _ hlt)⟩
        case measure => simp [intOf]; omega
      · obtain rfl : k = ks.length := by omega
        have hi2 := HI ks.length
        have hi3 : (deps (ks.take ks.length) : Int) ≤ 100000 := by omega
        clear HI hi2 hx ho hkids
        go_wp2_with fail
        go_ret
        exact ⟨by rw [← HD.out]; rfl, hb⟩

end Rx
end Go.Proofs.YtgdnlmaacnnfiaaGreatDoor

namespace Go.Proofs.YtgdnlmaacnnfiaaGreatDoor
open Go.RowKit
namespace Rx

set_option maxHeartbeats 4000000 in
theorem sRexOkZ {t : Data} (hc : cnt t ≤ 100000) (hsm : Small t) (w : World) (S : Nat → Prop) (a b c d u : Value) (h : RexZ w t S [a, b, c, d, u]) (hS : ∀ k, S k → k < w.heap.size) :
    Calls Tryz.prog 23 #[.agg #[a, b, c, d, u]] w fun e w' => e = .returned (.bool (decide (dep t ≤ 12) && rightZ t)) ∧ Below w.heap.size w w' := by
  obtain ⟨op, cc, s, no, ao, n, cap, rfl, rfl, rfl, rfl, rfl⟩ := rexZ_cells h
  have call1 := fun (w2 : World) (hb : Below w.heap.size w w2) => sDeepZ (dep t) t (Nat.le_refl _) hc w2 S _ _ _ _ _ (rexZ_frame _ _ _ (fun j hj => hb.block j (hS j hj)) h) (fun k hk => Nat.lt_of_lt_of_le (hS k hk) hb.size)
  have call2 := fun (w2 : World) (hb : Below w.heap.size w w2) => sRight (dep t) t (Nat.le_refl _) hc hsm w2 S _ _ _ _ _ (rexZ_frame _ _ _ (fun j hj => hb.block j (hS j hj)) h) (fun k hk => Nat.lt_of_lt_of_le (hS k hk) hb.size)
  have hdc := dep_cnt t
  have hd : (dep t : Int) ≤ 100000 := by omega
  clear h hS hsm hc hdc
  generalize rightZ t = B at *
  generalize dep t = D at *
  have hb0 : Below w.heap.size w (w.alloc (.cells #[.int .i64 op, .int .i64 cc, .string ⟨s.toArray⟩, .bool no, .slice ao n cap] 26)) := (Below.refl _ w).alloc (Nat.le_refl _) _
  have hv0 : Var (w.alloc (.cells #[.int .i64 op, .int .i64 cc, .string ⟨s.toArray⟩, .bool no, .slice ao n cap] 26)) w.heap.size (.int .i64 op) (.int .i64 cc) (.string ⟨s.toArray⟩) (.bool no) (.slice ao n cap) := heap_alloc_last _ _
  by_cases hD : D ≤ 12
  · have hD' : (D : Int) ≤ 12 := by omega
    have HD : Hid (decide (D ≤ 12) = true) := decide_eq_true hD
    rw [HD.out, Bool.true_and]
    clear hD
    go_enter Tryz.func23, Tryz.ntmps23
    go_wp2_with (first | (go_at_call 56; refine (call1 _ hb0).mono ?_; rintro e w2 ⟨rfl, hb2⟩; have hV2 := hv0.kept (hb2.block _ hv0.lt); have hVc := hV2.cell; obtain ⟨v0, v1, v2, v3, v4⟩ := hVc; have hB2 := hb0.trans (hb2.mono hb0.size)) | (go_at_call 57; refine (call2 _ hB2).mono ?_; rintro e w3 ⟨rfl, hb3⟩))
    go_ret
    exact ⟨rfl, hB2.trans (hb3.mono hB2.size)⟩
  · have hD' : (12 : Int) < D := by omega
    have HD : Hid (decide (D ≤ 12) = false) := decide_eq_false hD
    rw [HD.out, Bool.false_and]
    clear hD
    go_enter Tryz.func23, Tryz.ntmps23
    go_wp2_with (first | (go_at_call 56; refine (call1 _ hb0).mono ?_; rintro e w2 ⟨rfl, hb2⟩; have hV2 := hv0.kept (hb2.block _ hv0.lt); have hVc := hV2.cell; obtain ⟨v0, v1, v2, v3, v4⟩ := hVc; have hB2 := hb0.trans (hb2.mono hb0.size)))
    go_ret
    exact ⟨rfl, hB2⟩

end Rx
end Go.Proofs.YtgdnlmaacnnfiaaGreatDoor

namespace Go.Proofs.YtgdnlmaacnnfiaaGreatDoor
open Go.RowKit
namespace Rx

theorem rightZ_node {t : Data} (h : rightZ t = true) : ∃ op c s no ks, t = ndZ op c s no ks := by
  cases t with
  | slice ks lab =>
    simp only [rightZ, Bool.and_eq_true] at h
    have h2 := h.2
    unfold labZ at h2
    split at h2
    · exact ⟨_, _, _, _, ks, rfl⟩
    · simp at h2
  | _ => simp [rightZ] at h
theorem rightZs_mem : ∀ {ts : List Data} {t : Data}, rightZs ts = true → t ∈ ts → rightZ t = true
  | t' :: ts, t, h, hm => by
    simp only [rightZs, Bool.and_eq_true] at h
    rcases List.mem_cons.1 hm with rfl | hm
    · exact h.1
    · exact rightZs_mem h.2 hm
theorem rightZs_each : ∀ {ts : List Data}, (∀ t ∈ ts, rightZ t = true) → rightZs ts = true
  | [], _ => rfl
  | t :: ts, h => by
    simp only [rightZs, Bool.and_eq_true]
    exact ⟨h t (by simp), rightZs_each fun x hx => h x (by simp [hx])⟩
theorem dep_any (op c : Int) (s : List UInt8) (no : Bool) (ks : List Data) : dep (ndZ op c s no ks) = deps ks + 1 := by simp [ndZ, dep]
theorem ba_not : upB ⟨#[98, 97]⟩ = false := by decide +kernel

theorem right_of : ∀ (d : Nat) (t : Data), SetsZ t → dep t ≤ d → rightZ t = true → RightD d t := by
  intro d
  induction d with
  | zero =>
    intro t _ hd h
    obtain ⟨op, c, s, no, ks, rfl⟩ := rightZ_node h
    rw [dep_any] at hd
    omega
  | succ d ih =>
    intro t hz hd h
    obtain ⟨op, c, s, no, ks, rfl⟩ := rightZ_node h
    obtain ⟨hzk, hzs⟩ := setsZ_nd hz
    rw [dep_any] at hd
    rw [rightZ_nd, Bool.and_eq_true] at h
    obtain ⟨hk, hl⟩ := h
    have hkid : ∀ k ∈ ks, RightD d k := fun k hm => ih k (setsZs_mem hzk hm) (by have := deps_mem' hm; omega) (rightZs_mem hk hm)
    unfold okLab at hl
    rw [RightD]
    split at hl
    · subst op
      simp at hl
      obtain ⟨⟨⟨⟨h0, h1⟩, h2⟩, h3⟩, h4⟩ := hl
      subst h2 h3 h4
      refine .inl ⟨c.toNat, by omega, ?_⟩
      unfold chr
      rw [nd_Z, Int.toNat_of_nonneg h0]
      rfl
    · split at hl
      · subst op
        simp at hl
        obtain ⟨⟨⟨h0, h1⟩, h2⟩, h3⟩ := hl
        subst h0 h3
        rcases hzs with ⟨M, hM, rfl⟩ | rfl | rfl
        · exact .inr (.inr (.inl ⟨M, no, hM, rfl⟩))
        · exact absurd rfl h1
        · rw [ba_not] at h2
          exact absurd h2 (by simp)
      · split at hl
        · rename_i ho
          simp at hl
          obtain ⟨⟨⟨h0, h1⟩, h2⟩, h3⟩ := hl
          subst h0 h1 h2
          refine .inr (.inr (.inr (.inr ⟨op.toNat, ks, by omega, ?_, h3, hkid⟩)))
          rw [nd_Z, Int.toNat_of_nonneg (by omega)]
          rfl
        · split at hl
          · rename_i ho
            simp at hl
            obtain ⟨⟨⟨h0, h1⟩, h2⟩, h3⟩ := hl
            subst h0 h1 h2
            obtain ⟨k, rfl⟩ : ∃ k, ks = [k] := List.length_eq_one_iff.1 h3
            refine .inr (.inr (.inr (.inl ⟨op.toNat, k, by omega, ?_, hkid k (by simp)⟩)))
            unfold one
            rw [nd_Z, Int.toNat_of_nonneg (by omega)]
            rfl
          · simp at hl
            obtain ⟨⟨⟨⟨⟨h5, h6⟩, h0⟩, h1⟩, h2⟩, h3⟩ := hl
            subst h0 h1 h2 h3
            refine .inr (.inl ⟨op.toNat, by omega, ?_⟩)
            unfold leaf
            rw [nd_Z, Int.toNat_of_nonneg (by omega)]
            rfl

theorem up_bytes (M : Nat → Bool) : upB ⟨(bytesOf M).toArray⟩ = true := by
  rw [upB_iff]
  intro i hi
  have hl : (⟨(bytesOf M).toArray⟩ : ByteArray).size = (bytesOf M).length := by simp [ByteArray.size]
  rw [hl] at hi
  have h1 : gOf ⟨(bytesOf M).toArray⟩ i = ((bytesOf M)[i]'(by omega)).toNat := by
    unfold gOf
    rw [dif_pos (by rw [hl]; omega)]
    simp [ByteArray.getElem_eq_getElem_data]
  have h2 : gOf ⟨(bytesOf M).toArray⟩ (i + 1) = ((bytesOf M)[i + 1]'(by omega)).toNat := by
    unfold gOf
    rw [dif_pos (by rw [hl]; omega)]
    simp [ByteArray.getElem_eq_getElem_data]
  rw [h1, h2]
  exact List.pairwise_iff_getElem.1 (bytes_up M) i (i + 1) (by omega) (by omega) (by omega)

theorem right_back : ∀ (d : Nat) (t : Data), RightD d t → rightZ t = true ∧ dep t ≤ d := by
  intro d
  induction d with
  | zero => intro t h; exact h.elim
  | succ d ih =>
    intro t h
    rw [RightD] at h
    rcases h with ⟨b, hb, rfl⟩ | ⟨op, ho, rfl⟩ | ⟨M, no, hM, rfl⟩ | ⟨op, k, ho, rfl, hk⟩ | ⟨op, ks, ho, rfl, hl, hk⟩
    · unfold chr
      rw [nd_Z, rightZ_nd, dep_any]
      refine ⟨?_, by simp [deps]⟩
      simp [rightZs, okLab]
      omega
    · unfold leaf
      rw [nd_Z, rightZ_nd, dep_any]
      refine ⟨?_, by simp [deps]⟩
      rcases ho with rfl | rfl | rfl | rfl <;> simp [rightZs, okLab]
    · unfold setOf
      rw [nd_Z, rightZ_nd, dep_any]
      refine ⟨?_, by simp [deps]⟩
      have := up_bytes M
      have h1 := hM.1
      simp [rightZs, okLab, this, h1]
    · unfold one
      rw [nd_Z, rightZ_nd, dep_any]
      have := ih k hk
      refine ⟨?_, by simp [deps]; omega⟩
      rcases ho with rfl | rfl | rfl <;> simp [rightZs, okLab, this.1]
    · rw [nd_Z, rightZ_nd, dep_any]
      have h1 := rightZs_each fun k hm => (ih k (hk k hm)).1
      have h2 := deps_le_of fun k hm => (ih k (hk k hm)).2
      refine ⟨?_, by omega⟩
      rcases ho with rfl | rfl <;> simp [okLab, h1, hl]

/-- What the specification's RexOk tells of a drawn tree. -/
theorem right_iff {t : Data} (hz : SetsZ t) : (decide (dep t ≤ 12) && rightZ t) = true ↔ RightD 12 t := by
  rw [Bool.and_eq_true, decide_eq_true_iff]
  exact ⟨fun h => right_of 12 t hz h.1 h.2, fun h => ⟨(right_back 12 t h).2, (right_back 12 t h).1⟩⟩

end Rx
end Go.Proofs.YtgdnlmaacnnfiaaGreatDoor

namespace Go.Proofs.YtgdnlmaacnnfiaaGreatDoor
open Go.RowKit
namespace Rx

/-- The numbers and texts of a node are its own cells' alone. -/
theorem rexZ_op {w : World} {op c op' : Int} {s : List UInt8} {no : Bool} {ks : List Data} {S : Nat → Prop} {cs : List Value} (h : RexZ w (ndZ op c s no ks) S cs) : RexZ w (ndZ op' c s no ks) S (cs.set 0 (.int .i64 op')) := by
  rw [rexZ_nd] at h ⊢
  obtain ⟨v, xs, rfl, h⟩ := h
  exact ⟨v, xs, rfl, h⟩
theorem rexZ_c {w : World} {op c c' : Int} {s : List UInt8} {no : Bool} {ks : List Data} {S : Nat → Prop} {cs : List Value} (h : RexZ w (ndZ op c s no ks) S cs) : RexZ w (ndZ op c' s no ks) S (cs.set 1 (.int .i64 c')) := by
  rw [rexZ_nd] at h ⊢
  obtain ⟨v, xs, rfl, h⟩ := h
  exact ⟨v, xs, rfl, h⟩
theorem rexZ_set {w : World} {op c : Int} {s s' : List UInt8} {no : Bool} {ks : List Data} {S : Nat → Prop} {cs : List Value} (h : RexZ w (ndZ op c s no ks) S cs) : RexZ w (ndZ op c s' no ks) S (cs.set 2 (.string ⟨s'.toArray⟩)) := by
  rw [rexZ_nd] at h ⊢
  obtain ⟨v, xs, rfl, h⟩ := h
  exact ⟨v, xs, rfl, h⟩
theorem rexZ_no {w : World} {op c : Int} {s : List UInt8} {no no' : Bool} {ks : List Data} {S : Nat → Prop} {cs : List Value} (h : RexZ w (ndZ op c s no ks) S cs) : RexZ w (ndZ op c s no' ks) S (cs.set 3 (.bool no')) := by
  rw [rexZ_nd] at h ⊢
  obtain ⟨v, xs, rfl, h⟩ := h
  exact ⟨v, xs, rfl, h⟩

/-- One kid of a row is another one. -/
theorem rexZs_set {w : World} {j : Nat} {x : Value} (hj : j < 5) : ∀ {ks : List Data} {S : Nat → Prop} {xs : List Value} {i : Nat} {t t' : Data}, RexZs w ks S xs → ks[i]? = some t →
    (∀ (S1 : Nat → Prop) (cs : List Value), RexZ w t S1 cs → RexZ w t' S1 (cs.set j x)) → RexZs w (ks.set i t') S (xs.set (i * 5 + j) x)
  | [], S, xs, i, t, t', h, hi, hf => by simp at hi
  | t0 :: ts, S, xs, 0, t, t', h, hi, hf => by
    simp only [RexZs] at h
    obtain ⟨S1, S2, c1, c2, rfl, h1, h2, h3, h4⟩ := h
    simp at hi
    subst hi
    have hl := rexZ_len h1
    rw [List.set_cons_zero, RexZs, Nat.zero_mul, Nat.zero_add, List.set_append_left _ _ (by omega)]
    exact ⟨S1, S2, c1.set j x, c2, rfl, hf _ _ h1, h2, h3, h4⟩
  | t0 :: ts, S, xs, i + 1, t, t', h, hi, hf => by
    simp only [RexZs] at h
    obtain ⟨S1, S2, c1, c2, rfl, h1, h2, h3, h4⟩ := h
    simp at hi
    have hl := rexZ_len h1
    rw [List.set_cons_succ, RexZs, List.set_append_right _ _ (by omega), show (i + 1) * 5 + j - c1.length = i * 5 + j by omega]
    exact ⟨S1, S2, c1, c2.set (i * 5 + j) x, rfl, h1, rexZs_set hj h2 hi hf, h3, h4⟩

/-- A kid's cell is written: the row is that row with another kid. -/
theorem rexZ_kid {w : World} {op c : Int} {s : List UInt8} {no : Bool} {ks : List Data} {S : Nat → Prop} {a b cc d : Value} {g n cap : Nat} {i j : Nat} {t t' : Data} {x : Value} (hj : j < 5)
    (h : RexZ w (ndZ op c s no ks) S [a, b, cc, d, .slice (some ⟨g, 0, none⟩) n cap]) (hi : ks[i]? = some t)
    (hf : ∀ (w : World) (S1 : Nat → Prop) (cs : List Value), RexZ w t S1 cs → RexZ w t' S1 (cs.set j x)) :
    RexZ (w.setCell ⟨g, i * 5 + j, none⟩ x) (ndZ op c s no (ks.set i t')) S [a, b, cc, d, .slice (some ⟨g, 0, none⟩) n cap] := by
  rw [rexZ_nd] at h ⊢
  obtain ⟨v, xs, he, ho, hg, hx⟩ := h
  simp at he
  obtain ⟨rfl, rfl, rfl, rfl, rfl⟩ := he
  obtain rfl : n = ks.length := by
    obtain ⟨ao, cap', hh⟩ := owns_slice ho
    simp at hh
    exact hh.2.1
  refine ⟨_, xs.set (i * 5 + j) x, rfl, ?_, hg, ?_⟩
  · rw [List.length_set]
    exact (ho.stored (i * 5 + j) x).1
  · refine rexZs_set hj (rexZs_frame_of _ _ _ (fun t _ => rexZ_frame t) (fun k hk => Below.heap_setCell _ _ _ _ ?_) hx) hi (hf _)
    intro e
    exact hk.2 (by rw [e]; rfl)

/-- A Rex within another one: a row of one kid. -/
theorem rexZ_wrap {w : World} {t : Data} {S : Nat → Prop} {a b c d u : Value} (op : Int) (h : RexZ w t S [a, b, c, d, u]) (hS : ∀ k, S k → k < w.heap.size) :
    RexZ (w.alloc (.cells #[a, b, c, d, u] 26)) (ndZ op 0 [] false [t]) (fun k => S k ∨ k = w.heap.size) [.int .i64 op, .int .i64 0, .string ⟨#[]⟩, .bool false, .slice (some ⟨w.heap.size, 0, none⟩) 1 1] := by
  rw [rexZ_nd]
  refine ⟨_, [a, b, c, d, u], rfl, ⟨by simp, .inr ⟨w.heap.size, 1, #[a, b, c, d, u], rfl, Nat.zero_le _, heap_alloc_last _ _, Nat.le_refl _, by unfold maxLen; omega, by simp, by simp⟩⟩, ?_, ?_⟩
  · intro g hg
    simp [Value.ownBlock] at hg
    exact .inr hg.symm
  · simp only [RexZs]
    refine ⟨S, fun _ => False, [a, b, c, d, u], [], by simp, rexZ_frame _ _ _ (fun k hk => Below.heap_alloc _ _ _ (hS k hk)) h, rfl, fun k hk => ⟨⟨.inl hk, ?_⟩, fun h => h⟩, fun _ h => h.elim⟩
    have := hS k hk
    simp [Value.ownBlock]
    omega

/-- What may be turned of a node's set. -/
theorem setZ_not {s : List UInt8} {no : Bool} (h : SetZ s no) : SetZ s true := by
  rcases h with ⟨M, hM, rfl⟩ | h | h
  · exact .inl ⟨M, ⟨hM.1, hM.2.1, fun e => by simp at e⟩, rfl⟩
  · exact .inr (.inl h)
  · exact .inr (.inr h)
theorem setZ_a (no : Bool) : SetZ [97] no := by
  refine .inl ⟨fun b => decide (b = 97), ⟨by decide +kernel, by decide, fun _ => ⟨97, by omega, by omega, by decide⟩⟩, by decide +kernel⟩
theorem setZ_ab (no : Bool) : SetZ [97, 98] no := by
  refine .inl ⟨fun b => decide (b = 97) || decide (b = 98), ⟨by decide +kernel, by decide, fun _ => ⟨97, by omega, by omega, by decide⟩⟩, by decide +kernel⟩
theorem setsZ_mk {op c : Int} {s : List UInt8} {no : Bool} {ks : List Data} (h1 : SetsZs ks) (h2 : SetZ s no) : SetsZ (ndZ op c s no ks) := by
  unfold ndZ
  rw [SetsZ]
  exact ⟨h1, h2⟩
theorem setsZs_set : ∀ {ks : List Data} {i : Nat} {t : Data}, SetsZs ks → SetsZ t → SetsZs (ks.set i t)
  | [], i, t, _, _ => by simp [SetsZs]
  | t0 :: ts, 0, t, h, ht => by
    simp only [SetsZs, List.set_cons_zero] at h ⊢
    exact ⟨ht, h.2⟩
  | t0 :: ts, i + 1, t, h, ht => by
    simp only [SetsZs, List.set_cons_succ] at h ⊢
    exact ⟨h.1, setsZs_set h.2 ht⟩
theorem setsZs_of : ∀ {ks : List Data}, (∀ t ∈ ks, SetsZ t) → SetsZs ks
  | [], _ => by simp [SetsZs]
  | t :: ts, h => by
    simp only [SetsZs]
    exact ⟨h t (by simp), setsZs_of fun x hx => h x (by simp [hx])⟩
/-- What is right has such sets alone. -/
theorem setsZ_right : ∀ (d : Nat) (t : Data), RightD d t → SetsZ t := by
  intro d
  induction d with
  | zero => intro t h; exact h.elim
  | succ d ih =>
    intro t h
    rw [RightD] at h
    rcases h with ⟨b, hb, rfl⟩ | ⟨op, ho, rfl⟩ | ⟨M, no, hM, rfl⟩ | ⟨op, k, ho, rfl, hk⟩ | ⟨op, ks, ho, rfl, hl, hk⟩
    · exact setsZ_mk (by simp [SetsZs]) (.inr (.inl rfl))
    · exact setsZ_mk (by simp [SetsZs]) (.inr (.inl rfl))
    · exact setsZ_mk (by simp [SetsZs]) (.inl ⟨M, hM, rfl⟩)
    · exact setsZ_mk (setsZs_of (by intro x hx; simp at hx; subst hx; exact ih _ hk)) (.inr (.inl rfl))
    · exact setsZ_mk (setsZs_of fun k hm => ih k (hk k hm)) (.inr (.inl rfl))

end Rx
end Go.Proofs.YtgdnlmaacnnfiaaGreatDoor

namespace Go.Proofs.YtgdnlmaacnnfiaaGreatDoor
open Go.RowKit
namespace Mt
set_option linter.unusedVariables false

def RexOkTells (W : World) (f : Nat) (v : Value) (ok : Bool) : Prop := ∀ wx, Below W.heap.size W wx → Calls Tryz.prog f #[v] wx fun e w' => e = .returned (.bool ok) ∧ Below wx.heap.size wx w'

set_option maxRecDepth 100000 in
theorem iMatchNone (op cc : Int) (ss : ByteArray) (no : Bool) (ao : Option Addr) (n cap : Nat) (s : ByteArray) (hs : (s.size : Int) ≤ 1000) (at' : Int) (ok : Bool) (h : ok = false ∨ at' < 0 ∨ (s.size : Int) < at') (w : World)
    (hOk : RexOkTells w 11 (.agg #[.int .i64 op, .int .i64 cc, .string ss, .bool no, .slice ao n cap]) ok) :
    Calls Tryz.prog 7 #[.agg #[.int .i64 op, .int .i64 cc, .string ss, .bool no, .slice ao n cap], .string s, .int .i64 at'] w fun e w' => e = .returned (.slice none 0 0) ∧ Below w.heap.size w w' := by
  have call := fun o => hOk (w.alloc o) ((Below.refl _ w).alloc (Nat.le_refl _) o)
  have hb : ∀ o, Below w.heap.size w (w.alloc o) := fun o => (Below.refl _ w).alloc (Nat.le_refl _) o
  clear hOk
  cases ok with
  | false =>
    clear h
    go_enter Tryz.func7, Tryz.ntmps7
    go_wp2_with (go_at_call 11; refine (call _).mono ?_; rintro e w2 ⟨rfl, hb2⟩)
    go_ret
    exact ⟨rfl, (hb _).trans (hb2.mono (by simp))⟩
  | true =>
    rcases h with h | h | h
    · simp at h
    · have h1 : decide (0 ≤ at') = false := by simp; omega
      go_enter Tryz.func7, Tryz.ntmps7
      go_wp2_with (first | (go_at_call 11; refine (call _).mono ?_; rintro e w2 ⟨rfl, hb2⟩) | (go_at_call 20; go_in) | (go_at_call 41; go_in))
      go_ret
      exact ⟨rfl, (hb _).trans (hb2.mono (by simp))⟩
    · have h1 : 0 ≤ at' := by omega
      have h2 : decide (at' < (s.size : Int) + 1) = false := by simp; omega
      go_enter Tryz.func7, Tryz.ntmps7
      go_wp2_with (first | (go_at_call 11; refine (call _).mono ?_; rintro e w2 ⟨rfl, hb2⟩) | (go_at_call 20; go_in) | (go_at_call 41; go_in))
      go_ret
      exact ⟨rfl, (hb _).trans (hb2.mono (by simp))⟩

set_option maxRecDepth 100000 in
theorem sMatchNone (op cc : Int) (ss : ByteArray) (no : Bool) (ao : Option Addr) (n cap : Nat) (s : ByteArray) (hs : (s.size : Int) ≤ 1000) (at' : Int) (ok : Bool) (h : ok = false ∨ at' < 0 ∨ (s.size : Int) < at') (w : World)
    (hOk : RexOkTells w 23 (.agg #[.int .i64 op, .int .i64 cc, .string ss, .bool no, .slice ao n cap]) ok) :
    Calls Tryz.prog 9 #[.agg #[.int .i64 op, .int .i64 cc, .string ss, .bool no, .slice ao n cap], .string s, .int .i64 at'] w fun e w' => (∃ a, e = .returned (.slice a 0 0)) ∧ Below w.heap.size w w' := by
  have call := fun o => hOk (w.alloc o) ((Below.refl _ w).alloc (Nat.le_refl _) o)
  have hb : ∀ o, Below w.heap.size w (w.alloc o) := fun o => (Below.refl _ w).alloc (Nat.le_refl _) o
  have fin : ∀ {w2 : World} {o o' : Obj}, Below (w.alloc o).heap.size (w.alloc o) w2 → Below w.heap.size w (w2.alloc o') := fun h2 => ((hb _).trans (h2.mono (by simp))).alloc (by have := h2.size; simp at this; omega) _
  clear hOk
  cases ok with
  | false =>
    clear h
    go_enter Tryz.func9, Tryz.ntmps9
    go_wp2_with (go_at_call 23; refine (call _).mono ?_; rintro e w2 ⟨rfl, hb2⟩)
    go_ret
    exact ⟨⟨_, rfl⟩, fin hb2⟩
  | true =>
    rcases h with h | h | h
    · simp at h
    · have h1 : decide (0 ≤ at') = false := by simp; omega
      go_enter Tryz.func9, Tryz.ntmps9
      go_wp2_with (first | (go_at_call 23; refine (call _).mono ?_; rintro e w2 ⟨rfl, hb2⟩) | (go_at_call 24; go_in))
      go_ret
      exact ⟨⟨_, rfl⟩, fin hb2⟩
    · have h1 : 0 ≤ at' := by omega
      have h2 : decide (at' ≤ (s.size : Int)) = false := by simp; omega
      go_enter Tryz.func9, Tryz.ntmps9
      go_wp2_with (first | (go_at_call 23; refine (call _).mono ?_; rintro e w2 ⟨rfl, hb2⟩) | (go_at_call 24; go_in))
      go_ret
      exact ⟨⟨_, rfl⟩, fin hb2⟩

end Mt
end Go.Proofs.YtgdnlmaacnnfiaaGreatDoor

namespace Go.Proofs.YtgdnlmaacnnfiaaGreatDoor
open Go.RowKit
namespace Mt
set_option linter.unusedVariables false

/-- A list of numbers that is read. -/
def Nums (w : World) (a : Option Addr) (l : List Int) : Prop := ∀ i x, l[i]? = some x → ∃ b o, a = some ⟨b, o, none⟩ ∧ b < w.heap.size ∧ w.cell? ⟨b, o + i, none⟩ = some (.int .i64 x)
theorem Nums.on {W w : World} {a : Option Addr} {l : List Int} (h : Nums W a l) (hb : Below W.heap.size W w) : Nums w a l := fun i x hi => by
  obtain ⟨b, o, e, hl, hc⟩ := h i x hi
  exact ⟨b, o, e, Nat.lt_of_lt_of_le hl hb.size, (hb.cell (p := ⟨b, o + i, none⟩) hl).trans hc⟩

set_option maxRecDepth 100000 in
theorem lWithin (l : List Int) (hl : (l.length : Int) ≤ 100000) (a : Option Addr) (cap : Nat) (x : Int) (w : World) (hN : Nums w a l) :
    Calls Tryz.prog 15 #[.slice a l.length cap, .int .i64 x] w fun e w' => e = .returned (.bool (l.contains x)) ∧ w' = w := by
  go_enter Tryz.func15, Tryz.ntmps15
  go_wp2_with fail
  go_loopw [5] (fun i wr => ∃ k : Nat, i = .int .i64 k ∧ k ≤ l.length ∧ (l.take k).contains x = false ∧ wr = w) (fun i _ => l.length - (intOf i).toNat)
  case atStart => exact ⟨0, rfl, Nat.zero_le _, by simp, rfl⟩
  case round =>
    obtain ⟨k, rfl, hk, hno, rfl⟩ := hrel
    by_cases hkl : k < l.length
    · have hkI : (k : Int) < l.length := by omega
      obtain ⟨b, o, rfl, hb, hc⟩ := hN k l[k] (List.getElem?_eq_getElem hkl)
      by_cases he : l[k] = x
      · have HC : Hid (l.contains x = true) := by
          show _ = _
          rw [List.contains_iff_mem, ← he]
          exact List.getElem_mem hkl
        rw [he] at hc
        clear hno he hN
        go_wp2_with fail
        go_ret
        exact ⟨by rw [HC.out]; rfl, rfl⟩
      · have HT : Hid ((l.take (k + 1)).contains x = false) := by
          show _ = _
          rw [List.take_add_one, List.getElem?_eq_getElem hkl, Option.toList_some, List.contains_append, hno]
          simp
          exact fun e => he e.symm
        obtain ⟨y, hy⟩ : ∃ y, y = l[k] := ⟨_, rfl⟩
        rw [← hy] at hc he
        have he' : (y == x) = false := by simp [he]
        clear hno hy he hN
        go_wp2_with fail
        go_roundw
        case rel => exact ⟨k + 1, by go_num, by omega, HT.out, by first | rfl | trivial⟩
        case measure => simp [intOf]; omega
    · obtain rfl : k = l.length := by omega
      rw [List.take_length] at hno
      have HN : Hid (l.contains x = false) := hno
      clear hno hN
      go_wp2_with fail
      go_ret
      exact ⟨by rw [HN.out]; rfl, rfl⟩

set_option maxRecDepth 100000 in
theorem lSameInts (l : List Int) (hl : (l.length : Int) ≤ 100000) (a a' : Option Addr) (cap cap' : Nat) (w : World) (hN : Nums w a l) (hN' : Nums w a' l) :
    Calls Tryz.prog 8 #[.slice a l.length cap, .slice a' l.length cap'] w fun e w' => e = .returned (.bool true) ∧ ∃ n, w' = w.drewN n := by
  go_enter Tryz.func8, Tryz.ntmps8
  go_wp2_with fail
  go_loopw [5] (fun i wr => ∃ k m : Nat, i = .int .i64 k ∧ k ≤ l.length ∧ wr = w.drewN m) (fun i _ => l.length - (intOf i).toNat)
  case atStart => exact ⟨0, 0, rfl, Nat.zero_le _, rfl⟩
  case round =>
    obtain ⟨k, m, rfl, hk, rfl⟩ := hrel
    by_cases hkl : k < l.length
    · have hkI : (k : Int) < l.length := by omega
      obtain ⟨b, o, rfl, hb, hc⟩ := hN k l[k] (List.getElem?_eq_getElem hkl)
      obtain ⟨b', o', rfl, hb', hc'⟩ := hN' k l[k] (List.getElem?_eq_getElem hkl)
      obtain ⟨y, hy⟩ : ∃ y, y = l[k] := ⟨_, rfl⟩
      rw [← hy] at hc hc'
      clear hy hN hN'
      go_wp2_with fail
      go_quiet (fail)
      go_wp2_with fail
      go_roundw
      case rel => exact ⟨k + 1, _, by go_num, by omega, rfl⟩
      case measure => simp [intOf]; omega
    · obtain rfl : k = l.length := by omega
      clear hN hN'
      go_wp2_with fail
      go_ret
      exact ⟨rfl, m, rfl⟩

end Mt
end Go.Proofs.YtgdnlmaacnnfiaaGreatDoor

