/-
  The specification's l3Right at any Rex: all cases.
  The specification's l3Deep at any Rex.
  The specification's RexOk at any Rex.
  What the specification calls right, of a drawn Rex, is what some text tells.
-/
import Derived.Test.YtgdnlmaacnnfiaaGreatDoorQ20
import Derived.Test.YtgdnlmaacnnfiaaGreatDoorQ21
import Derived.Test.YtgdnlmaacnnfiaaGreatDoorQ11
import Derived.Test.YtgdnlmaacnnfiaaGreatDoorQ10
import Derived.Test.YtgdnlmaacnnfiaaGreatDoorQ19
import Derived.Test.YtgdnlmaacnnfiaaGreatDoorQ09
namespace Go.Proofs.YtgdnlmaacnnfiaaGreatDoor
open Go.RowKit
namespace Rx

theorem sRight : ∀ (n : Nat) (t : Data), dep t ≤ n → cnt t ≤ 100000 → Small t → RightOk t := by
  intro n
  induction n with
  | zero => intro t hd _ _ w S a b c d u h; obtain ⟨op, c, s, no, ks, rfl⟩ := rexZ_node h; simp [ndZ, dep] at hd
  | succ n ih =>
    intro t hd hc hsm w S a b c d u h hS
    obtain ⟨op, cc, s, no, ks, rfl⟩ := rexZ_node h
    have hdk : deps ks ≤ n := by simp [ndZ, dep] at hd; omega
    have hck : cnts ks + 1 ≤ 100000 := by simp [ndZ, cnt] at hc; omega
    have hsk : Smalls ks ∧ s.length ≤ 1000 := by simpa [ndZ, Small, setLe] using hsm
    have hlen := cnts_len ks
    have hl : ks.length ≤ 100000 := by omega
    have hkids : ∀ t ∈ ks, RightOk t := fun t ht => ih t (by have := deps_mem ht; omega) (by have := cnts_mem ht; omega) (smalls_mem hsk.1 ht)
    by_cases h1 : op = 1
    · exact right1 op cc s no ks h1 hkids hl hsk.2 w S a b c d u h hS
    by_cases h3 : op = 3
    · exact right3 op cc s no ks h3 hkids hl hsk.2 w S a b c d u h hS
    by_cases h6 : op = 6
    · exact right6 op cc s no ks h6 hkids hl hsk.2 w S a b c d u h hS
    by_cases h7 : op = 7
    · exact right7 op cc s no ks h7 hkids hl hsk.2 w S a b c d u h hS
    by_cases h8 : op = 8
    · exact right8 op cc s no ks h8 hkids hl hsk.2 w S a b c d u h hS
    by_cases h9 : op = 9
    · exact right9 op cc s no ks h9 hkids hl hsk.2 w S a b c d u h hS
    by_cases h10 : op = 10
    · exact right10 op cc s no ks h10 hkids hl hsk.2 w S a b c d u h hS
    exact rightElse op cc s no ks ⟨h1, h3, h6, h7, h8, h9, h10⟩ hkids hl hsk.2 w S a b c d u h hS

end Rx
end Go.Proofs.YtgdnlmaacnnfiaaGreatDoor

namespace Go.Proofs.YtgdnlmaacnnfiaaGreatDoor
open Go.RowKit
namespace Rx

theorem depZ_nd (op c : Int) (s : List UInt8) (no : Bool) (ks : List Data) : dep (ndZ op c s no ks) = deps ks + 1 := by simp [ndZ, dep]; try omega
theorem cntZ_nd (op c : Int) (s : List UInt8) (no : Bool) (ks : List Data) : cnt (ndZ op c s no ks) = cnts ks + 1 := by simp [ndZ, cnt]; try omega

def DeepZ (t : Data) : Prop := ∀ (w : World) (S : Nat → Prop) (a b c d u : Value), RexZ w t S [a, b, c, d, u] → (∀ k, S k → k < w.heap.size) →
  Calls Tryz.prog 56 #[.agg #[a, b, c, d, u]] w fun e w' => e = .returned (.int .i64 (dep t)) ∧ Below w.heap.size w w'

theorem sDeepZ : ∀ (n : Nat) (t : Data), dep t ≤ n → cnt t ≤ 100000 → DeepZ t := by
  intro n
  induction n with
  | zero => intro t hd _ w S a b c d u h; obtain ⟨op, c, s, no, ks, rfl⟩ := rexZ_node h; rw [depZ_nd] at hd; omega
  | succ n ih =>
    intro t hd hc w S a b c d u h hS
    obtain ⟨op, cc, s, no, ks, rfl⟩ := rexZ_node h
    rw [depZ_nd] at hd ⊢
    rw [cntZ_nd] at hc
    rw [rexZ_nd] at h
    obtain ⟨v, xs, he, ho, hg, hx⟩ := h
    simp at he
    obtain ⟨rfl, rfl, rfl, rfl, rfl⟩ := he
    have hlen := cnts_len ks
    have hnI : (ks.length : Int) ≤ 100000 := by omega
    have hdc : deps ks ≤ 100000 := by have := dep_cnt (ndZ op cc s no ks); rw [depZ_nd, cntZ_nd] at this; omega
    have HD : Hid (deps (ks.take ks.length) = deps ks) := by show _ = _; rw [List.take_length]
    have HI := fun i => deps_le ks i
    have hkids : ∀ t ∈ ks, DeepZ t := fun t ht => ih t (by have := deps_mem ht; omega) (by have := cnts_mem ht; omega)
    obtain ⟨ao, cap, rfl⟩ := owns_slice ho
    obtain ⟨o1, ho1⟩ : ∃ o1, o1 = Obj.cells #[.int .i64 op, .int .i64 cc, .string ⟨s.toArray⟩, .bool no, .slice ao ks.length cap] 26 := ⟨_, rfl⟩
    have hb0 : Below w.heap.size w (w.alloc o1) := (Below.refl _ w).alloc (Nat.le_refl _) _
    have hv0 : Var (w.alloc o1) w.heap.size (.int .i64 op) (.int .i64 cc) (.string ⟨s.toArray⟩) (.bool no) (.slice ao ks.length cap) := by rw [ho1]; exact heap_alloc_last _ _
    subst ho1
    clear ih
    go_enter Tryz.func56, Tryz.ntmps56
    go_wp2_with fail
    go_loopw [3, 4] (fun mo i wr => ∃ k : Nat, k ≤ ks.length ∧ i = .int .i64 k ∧ mo = .int .i64 (deps (ks.take k)) ∧ Below w.heap.size w wr ∧ Var wr w.heap.size (.int .i64 op) (.int .i64 cc) (.string ⟨s.toArray⟩) (.bool no) (.slice ao ks.length cap)) (fun _ i _ => ks.length - (intOf i).toNat)
    case atStart => exact ⟨0, Nat.zero_le _, rfl, rfl, hb0, hv0⟩
    case round =>
      obtain ⟨k, hkn, rfl, rfl, hb, hV⟩ := hrel
      have v4 := hV.cell.2.2.2.2
      by_cases hkl : k < ks.length
      · have hki : ks[k]? = some ks[k] := List.getElem?_eq_getElem hkl
        obtain ⟨T1, a, b, c, d, u, x0, x1, x2, x3, x4, hr1, hs1⟩ := rexZs_at hx hki
        obtain ⟨g, rfl, hg', hc'⟩ := row_cells ho hkl
        have cl : ∀ j x, xs[j]? = some x → wr.cell? ⟨g, j, none⟩ = some x := fun j x hx => (hb.cell (p := ⟨g, j, none⟩) hg').trans (hc' j x hx)
        have p0 := cl _ _ x0
        have p1 := cl _ _ x1
        have p2 := cl _ _ x2
        have p3 := cl _ _ x3
        have p4 := cl _ _ x4
        have call := hkids ks[k] (List.getElem_mem hkl) wr T1 a b c d u (rexZ_frame _ _ _ (fun j hj => hb.block j (hS j (hs1 j hj).1)) hr1) (fun j hj => Nat.lt_of_lt_of_le (hS j (hs1 j hj).1) hb.size)
        have hm : ks[k] ∈ ks := List.getElem_mem hkl
        have d1 := deps_mem hm
        have HT2 : Hid (deps (ks.take (k + 1)) = max (deps (ks.take k)) (dep ks[k])) := deps_take ks k ks[k] hki
        have hi1 := HI k
        have hd1 : (dep ks[k] : Int) ≤ 100000 := by omega
        have hi2 : (deps (ks.take k) : Int) ≤ 100000 := by omega
        have hlt := hV.lt
        clear x0 x1 x2 x3 x4 hc' cl hr1 hs1 hx ho hki hkids hm d1 HI hi1 HD hdc hd hc
        generalize dep ks[k] = D at *
        generalize deps (ks.take k) = M at *
        go_wp2_with (first | (go_at_call 56; refine call.mono ?_; rintro e w2 ⟨rfl, hb2⟩) | (go_at_call 80; refine (sMax M D _).mono ?_; rintro e w3 ⟨rfl, hw⟩; have hw := hw.symm; subst hw))
        go_roundw
        case rel => exact ⟨k + 1, by omega, by go_num, by rw [HT2.out], hb.trans (hb2.mono hb.size), hV.kept (hb2.block _ hlt)⟩
        case measure => simp [intOf]; omega
      · obtain rfl : k = ks.length := by omega
        have hi2 := HI ks.length
        have hi3 : (deps (ks.take ks.length) : Int) ≤ 100000 := by omega
        clear HI hi2 hx ho hkids
        go_wp2_with fail
        go_ret
        exact ⟨by rw [← HD.out]; rfl, hb⟩

end Rx
end Go.Proofs.YtgdnlmaacnnfiaaGreatDoor

namespace Go.Proofs.YtgdnlmaacnnfiaaGreatDoor
open Go.RowKit
namespace Rx

set_option maxHeartbeats 4000000 in
theorem sRexOkZ {t : Data} (hc : cnt t ≤ 100000) (hsm : Small t) (w : World) (S : Nat → Prop) (a b c d u : Value) (h : RexZ w t S [a, b, c, d, u]) (hS : ∀ k, S k → k < w.heap.size) :
    Calls Tryz.prog 23 #[.agg #[a, b, c, d, u]] w fun e w' => e = .returned (.bool (decide (dep t ≤ 12) && rightZ t)) ∧ Below w.heap.size w w' := by
  obtain ⟨op, cc, s, no, ao, n, cap, rfl, rfl, rfl, rfl, rfl⟩ := rexZ_cells h
  have call1 := fun (w2 : World) (hb : Below w.heap.size w w2) => sDeepZ (dep t) t (Nat.le_refl _) hc w2 S _ _ _ _ _ (rexZ_frame _ _ _ (fun j hj => hb.block j (hS j hj)) h) (fun k hk => Nat.lt_of_lt_of_le (hS k hk) hb.size)
  have call2 := fun (w2 : World) (hb : Below w.heap.size w w2) => sRight (dep t) t (Nat.le_refl _) hc hsm w2 S _ _ _ _ _ (rexZ_frame _ _ _ (fun j hj => hb.block j (hS j hj)) h) (fun k hk => Nat.lt_of_lt_of_le (hS k hk) hb.size)
  have hdc := dep_cnt t
  have hd : (dep t : Int) ≤ 100000 := by omega
  clear h hS hsm hc hdc
  generalize rightZ t = B at *
  generalize dep t = D at *
  have hb0 : Below w.heap.size w (w.alloc (.cells #[.int .i64 op, .int .i64 cc, .string ⟨s.toArray⟩, .bool no, .slice ao n cap] 26)) := (Below.refl _ w).alloc (Nat.le_refl _) _
  have hv0 : Var (w.alloc (.cells #[.int .i64 op, .int .i64 cc, .string ⟨s.toArray⟩, .bool no, .slice ao n cap] 26)) w.heap.size (.int .i64 op) (.int .i64 cc) (.string ⟨s.toArray⟩) (.bool no) (.slice ao n cap) := heap_alloc_last _ _
  by_cases hD : D ≤ 12
  · have hD' : (D : Int) ≤ 12 := by omega
    have HD : Hid (decide (D ≤ 12) = true) := decide_eq_true hD
    rw [HD.out, Bool.true_and]
    clear hD
    go_enter Tryz.func23, Tryz.ntmps23
    go_wp2_with (first | (go_at_call 56; refine (call1 _ hb0).mono ?_; rintro e w2 ⟨rfl, hb2⟩; have hV2 := hv0.kept (hb2.block _ hv0.lt); have hVc := hV2.cell; obtain ⟨v0, v1, v2, v3, v4⟩ := hVc; have hB2 := hb0.trans (hb2.mono hb0.size)) | (go_at_call 57; refine (call2 _ hB2).mono ?_; rintro e w3 ⟨rfl, hb3⟩))
    go_ret
    exact ⟨rfl, hB2.trans (hb3.mono hB2.size)⟩
  · have hD' : (12 : Int) < D := by omega
    have HD : Hid (decide (D ≤ 12) = false) := decide_eq_false hD
    rw [HD.out, Bool.false_and]
    clear hD
    go_enter Tryz.func23, Tryz.ntmps23
    go_wp2_with (first | (go_at_call 56; refine (call1 _ hb0).mono ?_; rintro e w2 ⟨rfl, hb2⟩; have hV2 := hv0.kept (hb2.block _ hv0.lt); have hVc := hV2.cell; obtain ⟨v0, v1, v2, v3, v4⟩ := hVc; have hB2 := hb0.trans (hb2.mono hb0.size)))
    go_ret
    exact ⟨rfl, hB2⟩

end Rx
end Go.Proofs.YtgdnlmaacnnfiaaGreatDoor

namespace Go.Proofs.YtgdnlmaacnnfiaaGreatDoor
open Go.RowKit
namespace Rx

theorem rightZ_node {t : Data} (h : rightZ t = true) : ∃ op c s no ks, t = ndZ op c s no ks := by
  cases t with
  | slice ks lab =>
    simp only [rightZ, Bool.and_eq_true] at h
    have h2 := h.2
    unfold labZ at h2
    split at h2
    · exact ⟨_, _, _, _, ks, rfl⟩
    · simp at h2
  | _ => simp [rightZ] at h
theorem rightZs_mem : ∀ {ts : List Data} {t : Data}, rightZs ts = true → t ∈ ts → rightZ t = true
  | t' :: ts, t, h, hm => by
    simp only [rightZs, Bool.and_eq_true] at h
    rcases List.mem_cons.1 hm with rfl | hm
    · exact h.1
    · exact rightZs_mem h.2 hm
theorem rightZs_each : ∀ {ts : List Data}, (∀ t ∈ ts, rightZ t = true) → rightZs ts = true
  | [], _ => rfl
  | t :: ts, h => by
    simp only [rightZs, Bool.and_eq_true]
    exact ⟨h t (by simp), rightZs_each fun x hx => h x (by simp [hx])⟩
theorem dep_any (op c : Int) (s : List UInt8) (no : Bool) (ks : List Data) : dep (ndZ op c s no ks) = deps ks + 1 := by simp [ndZ, dep]
theorem ba_not : upB ⟨#[98, 97]⟩ = false := by decide +kernel

theorem right_of : ∀ (d : Nat) (t : Data), SetsZ t → dep t ≤ d → rightZ t = true → RightD d t := by
  intro d
  induction d with
  | zero =>
    intro t _ hd h
    obtain ⟨op, c, s, no, ks, rfl⟩ := rightZ_node h
    rw [dep_any] at hd
    omega
  | succ d ih =>
    intro t hz hd h
    obtain ⟨op, c, s, no, ks, rfl⟩ := rightZ_node h
    obtain ⟨hzk, hzs⟩ := setsZ_nd hz
    rw [dep_any] at hd
    rw [rightZ_nd, Bool.and_eq_true] at h
    obtain ⟨hk, hl⟩ := h
    have hkid : ∀ k ∈ ks, RightD d k := fun k hm => ih k (setsZs_mem hzk hm) (by have := deps_mem' hm; omega) (rightZs_mem hk hm)
    unfold okLab at hl
    rw [RightD]
    split at hl
    · subst op
      simp at hl
      obtain ⟨⟨⟨⟨h0, h1⟩, h2⟩, h3⟩, h4⟩ := hl
      subst h2 h3 h4
      refine .inl ⟨c.toNat, by omega, ?_⟩
      unfold chr
      rw [nd_Z, Int.toNat_of_nonneg h0]
      rfl
    · split at hl
      · subst op
        simp at hl
        obtain ⟨⟨⟨h0, h1⟩, h2⟩, h3⟩ := hl
        subst h0 h3
        rcases hzs with ⟨M, hM, rfl⟩ | rfl | rfl
        · exact .inr (.inr (.inl ⟨M, no, hM, rfl⟩))
        · exact absurd rfl h1
        · rw [ba_not] at h2
          exact absurd h2 (by simp)
      · split at hl
        · rename_i ho
          simp at hl
          obtain ⟨⟨⟨h0, h1⟩, h2⟩, h3⟩ := hl
          subst h0 h1 h2
          refine .inr (.inr (.inr (.inr ⟨op.toNat, ks, by omega, ?_, h3, hkid⟩)))
          rw [nd_Z, Int.toNat_of_nonneg (by omega)]
          rfl
        · split at hl
          · rename_i ho
            simp at hl
            obtain ⟨⟨⟨h0, h1⟩, h2⟩, h3⟩ := hl
            subst h0 h1 h2
            obtain ⟨k, rfl⟩ : ∃ k, ks = [k] := List.length_eq_one_iff.1 h3
            refine .inr (.inr (.inr (.inl ⟨op.toNat, k, by omega, ?_, hkid k (by simp)⟩)))
            unfold one
            rw [nd_Z, Int.toNat_of_nonneg (by omega)]
            rfl
          · simp at hl
            obtain ⟨⟨⟨⟨⟨h5, h6⟩, h0⟩, h1⟩, h2⟩, h3⟩ := hl
            subst h0 h1 h2 h3
            refine .inr (.inl ⟨op.toNat, by omega, ?_⟩)
            unfold leaf
            rw [nd_Z, Int.toNat_of_nonneg (by omega)]
            rfl

theorem up_bytes (M : Nat → Bool) : upB ⟨(bytesOf M).toArray⟩ = true := by
  rw [upB_iff]
  intro i hi
  have hl : (⟨(bytesOf M).toArray⟩ : ByteArray).size = (bytesOf M).length := by simp [ByteArray.size]
  rw [hl] at hi
  have h1 : gOf ⟨(bytesOf M).toArray⟩ i = ((bytesOf M)[i]'(by omega)).toNat := by
    unfold gOf
    rw [dif_pos (by rw [hl]; omega)]
    simp [ByteArray.getElem_eq_getElem_data]
  have h2 : gOf ⟨(bytesOf M).toArray⟩ (i + 1) = ((bytesOf M)[i + 1]'(by omega)).toNat := by
    unfold gOf
    rw [dif_pos (by rw [hl]; omega)]
    simp [ByteArray.getElem_eq_getElem_data]
  rw [h1, h2]
  exact List.pairwise_iff_getElem.1 (bytes_up M) i (i + 1) (by omega) (by omega) (by omega)

theorem right_back : ∀ (d : Nat) (t : Data), RightD d t → rightZ t = true ∧ dep t ≤ d := by
  intro d
  induction d with
  | zero => intro t h; exact h.elim
  | succ d ih =>
    intro t h
    rw [RightD] at h
    rcases h with ⟨b, hb, rfl⟩ | ⟨op, ho, rfl⟩ | ⟨M, no, hM, rfl⟩ | ⟨op, k, ho, rfl, hk⟩ | ⟨op, ks, ho, rfl, hl, hk⟩
    · unfold chr
      rw [nd_Z, rightZ_nd, dep_any]
      refine ⟨?_, by simp [deps]⟩
      simp [rightZs, okLab]
      omega
    · unfold leaf
      rw [nd_Z, rightZ_nd, dep_any]
      refine ⟨?_, by simp [deps]⟩
      rcases ho with rfl | rfl | rfl | rfl <;> simp [rightZs, okLab]
    · unfold setOf
      rw [nd_Z, rightZ_nd, dep_any]
      refine ⟨?_, by simp [deps]⟩
      have := up_bytes M
      have h1 := hM.1
      simp [rightZs, okLab, this, h1]
    · unfold one
      rw [nd_Z, rightZ_nd, dep_any]
      have := ih k hk
      refine ⟨?_, by simp [deps]; omega⟩
      rcases ho with rfl | rfl | rfl <;> simp [rightZs, okLab, this.1]
    · rw [nd_Z, rightZ_nd, dep_any]
      have h1 := rightZs_each fun k hm => (ih k (hk k hm)).1
      have h2 := deps_le_of fun k hm => (ih k (hk k hm)).2
      refine ⟨?_, by omega⟩
      rcases ho with rfl | rfl <;> simp [okLab, h1, hl]

/-- What the specification's RexOk tells of a drawn tree. -/
theorem right_iff {t : Data} (hz : SetsZ t) : (decide (dep t ≤ 12) && rightZ t) = true ↔ RightD 12 t := by
  rw [Bool.and_eq_true, decide_eq_true_iff]
  exact ⟨fun h => right_of 12 t hz h.1 h.2, fun h => ⟨(right_back 12 t h).2, (right_back 12 t h).1⟩⟩

end Rx
end Go.Proofs.YtgdnlmaacnnfiaaGreatDoor

