/-
  The program's setOf at sets that some text tells.
  The program's sameRex at two Rex that tell the same.
  The program's RexOk at what is parsed.
-/
import Derived.Test.YtgdnlmaacnnfiaaGreatDoorP01
import Derived.Test.YtgdnlmaacnnfiaaGreatDoorP10
import Derived.Lib.IndexAny
import Derived.Lib.IndexMore
import Derived.Test.YtgdnlmaacnnfiaaGreatDoorP08
namespace Go.Proofs.YtgdnlmaacnnfiaaGreatDoor
open Go.RowKit
namespace Rx

theorem index_mid (p sub q : List UInt8) (hs : sub ≠ []) : 0 ≤ Lib.index (p ++ (sub ++ q)) sub := by
  induction p with
  | nil =>
    obtain ⟨b, sub, rfl⟩ : ∃ b r, sub = b :: r := List.exists_cons_of_ne_nil hs
    have : (b :: sub).isPrefixOf (b :: (sub ++ q)) = true := by simp
    simp only [List.nil_append, List.cons_append, Lib.index, this, if_true]
    omega
  | cons b p ih =>
    simp only [List.cons_append, Lib.index]
    split
    · omega
    · split
      · rename_i h
        have := eq_of_beq h
        omega
      · omega

theorem range_parts : List.range 256 = List.range 92 ++ ([92, 93, 94] ++ (List.range 161).map (· + 95)) := by decide +kernel

theorem bytes_mid {M : Nat → Bool} (h2 : M 92 = true) (h3 : M 93 = true) (h4 : M 94 = true) : ∃ p q, bytesOf M = p ++ ([92, 93, 94] ++ q) := by
  unfold bytesOf
  rw [range_parts, List.filter_append, List.filter_append, List.map_append, List.map_append]
  have h : List.filter M [92, 93, 94] = [92, 93, 94] := by simp [h2, h3, h4]
  rw [h]
  exact ⟨_, _, rfl⟩

theorem mem_bytes {M : Nat → Bool} {b : Nat} (hb : b < 256) : UInt8.ofNat b ∈ bytesOf M ↔ M b = true := by
  unfold bytesOf
  simp only [List.mem_map, List.mem_filter, List.mem_range]
  constructor
  · rintro ⟨x, ⟨hx, hM⟩, he⟩
    have := congrArg UInt8.toNat he
    simp at this
    rw [Nat.mod_eq_of_lt hx, Nat.mod_eq_of_lt hb] at this
    rw [← this]
    exact hM
  · intro h
    exact ⟨b, ⟨hb, h⟩, rfl⟩

theorem bytes_up (M : Nat → Bool) : (bytesOf M).Pairwise fun a b => a.toNat < b.toNat := by
  unfold bytesOf
  rw [List.pairwise_map]
  have h1 : ((List.range 256).filter M).Pairwise (· < ·) := List.Pairwise.filter _ List.pairwise_lt_range
  refine List.Pairwise.imp_of_mem (fun {a b} ha hb hab => ?_) h1
  have ha' := List.mem_range.1 (List.mem_filter.1 ha).1
  have hb' := List.mem_range.1 (List.mem_filter.1 hb).1
  simp
  rw [Nat.mod_eq_of_lt ha', Nat.mod_eq_of_lt hb']
  exact hab

set_option maxRecDepth 100000 in
theorem iAscends (l : List UInt8) (hl : l.length ≤ 256) (hup : l.Pairwise fun a b => a.toNat < b.toNat) (w : World) :
    Calls Tryz.prog 78 #[.string ⟨l.toArray⟩] w fun e w' => e = .returned (.bool true) ∧ ∃ n, w' = w.drewN n := by
  obtain ⟨s, hs⟩ : ∃ s : ByteArray, s = ⟨l.toArray⟩ := ⟨_, rfl⟩
  have hsz : s.size = l.length := by rw [hs]; simp [ByteArray.size]
  have hlt : ∀ i j (hi : i < s.size) (hj : j < s.size), i < j → s[i].toNat < s[j].toNat := by
    intro i j hi hj hij
    subst hs
    have := List.pairwise_iff_getElem.1 hup i j (by omega) (by omega) hij
    simpa [ByteArray.getElem_eq_getElem_data] using this
  rw [← hs]
  have bs : (s.size : Int) ≤ 256 := by omega
  clear hs hup hsz hl
  go_enter Tryz.func78, Tryz.ntmps78
  go_wp2_with fail
  go_loopw [3] (fun iv wr => ∃ k m : Nat, iv = .int .i64 ((k + 1 : Nat) : Int) ∧ k ≤ s.size ∧ wr = w.drewN m) (fun iv _ => s.size + 1 - (intOf iv).toNat)
  case atStart => exact ⟨0, 0, rfl, Nat.zero_le _, rfl⟩
  case round =>
    obtain ⟨k, m, rfl, hk, rfl⟩ := hrel
    obtain ⟨k1, hk1⟩ : ∃ k1, k1 = k + 1 := ⟨_, rfl⟩
    rw [← hk1]
    have t1 : (k1 : Int) - 1 = (k : Int) := by omega
    have HK : Hid (k1 = k + 1) := hk1
    have b1 : (1 : Int) ≤ k1 := by omega
    have hwk : IntKind.i64.wrap (k : Int) = k := by rw [IntKind.wrap_i64]; omega
    have b2 : (k1 : Int) ≤ 300 := by omega
    by_cases hkl : k1 < s.size
    · have hk0 : k < s.size := by omega
      have z := hlt k k1 hk0 hkl (by omega)
      have z1 : decide ((s[k1].toNat : Int) ≤ s[k].toNat) = false := decide_eq_false (by omega)
      have z2 : decide (s[k1].toNat ≤ s[k].toNat) = false := decide_eq_false (by omega)
      clear hk1 z hlt
      go_wp2_with fail
      go_quiet (fail)
      go_wp2_with fail
      go_roundw
      case rel => exact ⟨k1, _, by go_num, by omega, rfl⟩
      case measure => have := HK.out; simp [intOf]; omega
    · have z1 : decide ((k1 : Int) < s.size) = false := decide_eq_false (by omega)
      have z2 : decide (k1 < s.size) = false := decide_eq_false (by omega)
      clear hk1
      go_wp2_with fail
      go_ret
      exact ⟨rfl, m, rfl⟩

theorem bytes_len (M : Nat → Bool) : (bytesOf M).length ≤ 256 := by
  unfold bytesOf
  rw [List.length_map]
  have := List.length_filter_le M (List.range 256)
  simpa using this

set_option maxRecDepth 100000 in
theorem iWritable {M : Nat → Bool} {no : Bool} (hM : okSet M no) {w : World} {m : Int} (hm : w.cell? ⟨1, 0, none⟩ = some (.int .i64 m)) :
    Calls Tryz.prog 79 #[.string ⟨(bytesOf M).toArray⟩, .bool no] w fun e w' => e = .returned (.bool true) ∧ w' = w := by
  obtain ⟨h1, h2, h3⟩ := hM
  have hlen := bytes_len M
  obtain ⟨s, hs⟩ : ∃ s : ByteArray, s = ⟨(bytesOf M).toArray⟩ := ⟨_, rfl⟩
  rw [← hs]
  have hsz : s.size < 4294967281 := by rw [hs]; simp [ByteArray.size]; omega
  have c1 := Tryz.strings_Contains_one s 93 w
  have c2 := Tryz.strings_Contains s ⟨#[92, 93, 94]⟩ m w hsz hm
  have d1 : decide (0 ≤ Lib.indexByte (bytesOf M) 93) = M 93 := by
    rw [← Lib.contains_iff_indexByte]
    have := mem_bytes (M := M) (b := 93) (by omega)
    cases e : M 93 with
    | true => rw [e] at this; exact List.contains_iff_mem.2 (this.2 rfl)
    | false =>
      rw [e] at this
      cases e2 : (bytesOf M).contains 93 with
      | false => rfl
      | true => exact absurd (this.1 (List.contains_iff_mem.1 e2)) (by simp)
  have d2 : M 93 = true → Lib.contains (bytesOf M) [92, 93, 94] = true := by
    intro e
    obtain ⟨p, q, hpq⟩ := bytes_mid (h2 e).1 e (h2 e).2
    unfold Lib.contains
    rw [hpq]
    exact decide_eq_true (index_mid p _ q (by simp))
  have d3 : no = false → s ≠ ⟨#[94]⟩ := by
    intro e e2
    rw [hs] at e2
    obtain ⟨b, hb, hb2, hMb⟩ := h3 e
    have e3 : bytesOf M = [94] := by
      have := congrArg (fun x : ByteArray => x.data.toList) e2
      simpa using this
    have := (mem_bytes (M := M) hb).2 hMb
    rw [e3] at this
    simp at this
    have := congrArg UInt8.toNat this
    simp at this
    omega
  have e1 : s.data.toList = bytesOf M := by rw [hs]
  rw [e1, d1] at c1
  rw [e1] at c2
  clear hs e1 hsz hm h1 h2 h3 d1 hlen
  cases no with
  | true =>
    cases eM : M 93 with
    | true =>
      rw [eM] at c1
      rw [show (⟨#[92, 93, 94]⟩ : ByteArray).data.toList = [92, 93, 94] from rfl, d2 eM] at c2
      go_enter Tryz.func79, Tryz.ntmps79
      go_wp2_with (first | (go_at_call 92; with_reducible refine c1.mono ?_; rintro e w2 ⟨rfl, hw⟩; have hw := hw.symm; subst hw) | (go_at_call 92; with_reducible refine c2.mono ?_; rintro e w2 ⟨rfl, hw⟩; have hw := hw.symm; subst hw))
      go_ret
      exact ⟨rfl, rfl⟩
    | false =>
      rw [eM] at c1
      go_enter Tryz.func79, Tryz.ntmps79
      go_wp2_with (first | (go_at_call 92; with_reducible refine c1.mono ?_; rintro e w2 ⟨rfl, hw⟩; have hw := hw.symm; subst hw))
      go_ret
      exact ⟨rfl, rfl⟩
  | false =>
    have hne := d3 rfl
    have n1 : (s.toList == [94]) = false := by
      cases e : s.toList == [94] with
      | false => rfl
      | true =>
        refine absurd ?_ hne
        have h1 : s.data.toList = [94] := by rw [← ByteArray.toList_eq]; exact eq_of_beq e
        exact ByteArray.ext (Array.ext' h1)
    clear hne d3
    cases eM : M 93 with
    | true =>
      rw [eM] at c1
      rw [show (⟨#[92, 93, 94]⟩ : ByteArray).data.toList = [92, 93, 94] from rfl, d2 eM] at c2
      go_enter Tryz.func79, Tryz.ntmps79
      go_wp2_with (first | (go_at_call 92; with_reducible refine c1.mono ?_; rintro e w2 ⟨rfl, hw⟩; have hw := hw.symm; subst hw) | (go_at_call 92; with_reducible refine c2.mono ?_; rintro e w2 ⟨rfl, hw⟩; have hw := hw.symm; subst hw))
      go_ret
      exact ⟨rfl, rfl⟩
    | false =>
      rw [eM] at c1
      go_enter Tryz.func79, Tryz.ntmps79
      go_wp2_with (first | (go_at_call 92; with_reducible refine c1.mono ?_; rintro e w2 ⟨rfl, hw⟩; have hw := hw.symm; subst hw))
      go_ret
      exact ⟨rfl, rfl⟩

set_option maxRecDepth 100000 in
theorem setOk {W : World} {m : Int} (hm : W.cell? ⟨1, 0, none⟩ = some (.int .i64 m)) : SetOk W := by
  intro M no w hM hW
  have hm' : ∀ n, (w.drewN n).cell? ⟨1, 0, none⟩ = some (.int .i64 m) := fun n => (hW.cell (p := ⟨1, 0, none⟩) (World.block_lt_of_cell? W _ hm)).trans hm
  have c1 := iAscends (bytesOf M) (bytes_len M) (bytes_up M) w
  have c2 := fun n => iWritable hM (hm' n)
  have hne := hM.1
  obtain ⟨s, hs⟩ : ∃ s : ByteArray, s = ⟨(bytesOf M).toArray⟩ := ⟨_, rfl⟩
  have n1 : (s.toList == []) = false := by
    cases e : s.toList == [] with
    | false => rfl
    | true =>
      refine absurd ?_ hne
      have h1 : s.data.toList = [] := by rw [← ByteArray.toList_eq]; exact eq_of_beq e
      rw [hs] at h1
      simpa using h1
  have n2 : s.isEmpty = false := by
    cases e : s.isEmpty with
    | false => rfl
    | true =>
      refine absurd ?_ hne
      have h1 : s.size = 0 := by simpa [ByteArray.isEmpty] using e
      rw [hs] at h1
      simpa [ByteArray.size] using h1
  rw [← hs] at c1 ⊢
  simp only [← hs] at c2
  clear hs hm' hne hM
  go_enter Tryz.func53, Tryz.ntmps53
  go_wp2_with (first | (go_at_call 78; refine c1.mono ?_; rintro e w2 ⟨rfl, n, rfl⟩) | (go_at_call 79; refine (c2 n).mono ?_; rintro e w3 ⟨rfl, hw⟩; have hw := hw.symm; subst hw))
  go_ret
  exact ⟨rfl, ⟨rfl, rfl, rfl, Nat.le_refl _, fun _ _ => rfl⟩⟩

end Rx
end Go.Proofs.YtgdnlmaacnnfiaaGreatDoor

namespace Go.Proofs.YtgdnlmaacnnfiaaGreatDoor
open Go.RowKit
namespace Rx

def SameOk (t : Data) : Prop := ∀ (w : World) (S1 S2 : Nat → Prop) (a b c d u a' b' c' d' u' : Value), RexIs w t S1 [a, b, c, d, u] → RexIs w t S2 [a', b', c', d', u'] → (∀ k, S1 k → k < w.heap.size) → (∀ k, S2 k → k < w.heap.size) →
  Calls Tryz.prog 31 #[.agg #[a, b, c, d, u], .agg #[a', b', c', d', u']] w fun e w' => e = .returned (.bool true) ∧ Below w.heap.size w w'

set_option maxRecDepth 100000 in
theorem iEqualFunc {ks : List Data} (hk : ∀ t ∈ ks, SameOk t) (hn : ks.length ≤ 100000) (w : World) (S1 S2 : Nat → Prop) (v v' : Value) (xs ys : List Value) (ho : w.ownsRow 0 26 5 v ks.length xs) (ho' : w.ownsRow 0 26 5 v' ks.length ys)
    (hx : RexsIs w ks S1 xs) (hy : RexsIs w ks S2 ys) (hS1 : ∀ k, S1 k → k < w.heap.size) (hS2 : ∀ k, S2 k → k < w.heap.size) :
    Calls Tryz.prog 63 #[v, v', .func (.func 31) #[] #[]] w fun e w' => e = .returned (.bool true) ∧ Below w.heap.size w w' := by
  obtain ⟨ao, cap, rfl⟩ := owns_slice ho
  obtain ⟨ao', cap', rfl⟩ := owns_slice ho'
  have hnI : (ks.length : Int) ≤ 100000 := by omega
  go_enter Tryz.func63, Tryz.ntmps63
  go_wp2_with fail
  go_loopw [17] (fun i wr => ∃ k : Nat, k ≤ ks.length ∧ i = .int .i64 k ∧ Below w.heap.size w wr) (fun i _ => ks.length - (intOf i).toNat)
  case atStart => exact ⟨0, Nat.zero_le _, rfl, Below.refl _ _⟩
  case round =>
    obtain ⟨k, hkn, rfl, hb⟩ := hrel
    have hsz := hb.size
    by_cases hkl : k < ks.length
    · have hki : ks[k]? = some ks[k] := List.getElem?_eq_getElem hkl
      obtain ⟨T1, a, b, c, d, u, x0, x1, x2, x3, x4, hr1, hs1⟩ := rexs_at hx hki
      obtain ⟨T2, a', b', c', d', u', y0, y1, y2, y3, y4, hr2, hs2⟩ := rexs_at hy hki
      obtain ⟨g, rfl, hg, hc⟩ := row_cells ho hkl
      obtain ⟨g', rfl, hg', hc'⟩ := row_cells ho' hkl
      have cc : ∀ j x, xs[j]? = some x → wr.cell? ⟨g, j, none⟩ = some x := fun j x hx => (hb.cell (p := ⟨g, j, none⟩) hg).trans (hc j x hx)
      have cc' : ∀ j x, ys[j]? = some x → wr.cell? ⟨g', j, none⟩ = some x := fun j x hx => (hb.cell (p := ⟨g', j, none⟩) hg').trans (hc' j x hx)
      have p0 := cc _ _ x0
      have p1 := cc _ _ x1
      have p2 := cc _ _ x2
      have p3 := cc _ _ x3
      have p4 := cc _ _ x4
      have q0 := cc' _ _ y0
      have q1 := cc' _ _ y1
      have q2 := cc' _ _ y2
      have q3 := cc' _ _ y3
      have q4 := cc' _ _ y4
      have hg2 : g < wr.heap.size := by omega
      have hg2' : g' < wr.heap.size := by omega
      obtain ⟨op, c1, ss, no, a1, n1, cap1, rfl, rfl, rfl, rfl, rfl⟩ := rex_cells hr1
      obtain ⟨op', c1', ss', no', a1', n1', cap1', rfl, rfl, rfl, rfl, rfl⟩ := rex_cells hr2
      obtain ⟨w2, hw2⟩ : ∃ w2, w2 = (wr.alloc (.cells #[.int .i64 op, .int .i64 c1, .string ⟨ss.toArray⟩, .bool no, .slice a1 n1 cap1] 26)).alloc (.cells #[.int .i64 op', .int .i64 c1', .string ⟨ss'.toArray⟩, .bool no', .slice a1' n1' cap1'] 26) := ⟨_, rfl⟩
      have hb2 : Below wr.heap.size wr w2 := by rw [hw2]; exact ((Below.refl _ wr).alloc (Nat.le_refl _) _).alloc (by simp) _
      have call := hk ks[k] (List.getElem_mem hkl) w2 T1 T2 _ _ _ _ _ _ _ _ _ _ (rex_frame (w' := w2) _ _ _ (fun j hj => (hb2.block j (by have := hS1 j (hs1 j hj); omega)).trans (hb.block j (hS1 j (hs1 j hj)))) hr1) (rex_frame (w' := w2) _ _ _ (fun j hj => (hb2.block j (by have := hS2 j (hs2 j hj); omega)).trans (hb.block j (hS2 j (hs2 j hj)))) hr2) (fun j hj => by have := hS1 j (hs1 j hj); have := hb2.size; omega) (fun j hj => by have := hS2 j (hs2 j hj); have := hb2.size; omega)
      subst hw2
      clear x0 x1 x2 x3 x4 y0 y1 y2 y3 y4 hc hc' cc cc' hr1 hr2 hs1 hs2 hx hy ho ho' hki hk
      go_wp2_with fail
      refine call.mono ?_
      rintro e w3 ⟨rfl, hb3⟩
      go_wp2_with fail
      go_roundw
      case rel => exact ⟨k + 1, by omega, by go_num, hb.trans ((hb2.trans (hb3.mono (by simp; omega))).mono hsz)⟩
      case measure => simp [intOf]; omega
    · obtain rfl : k = ks.length := by omega
      go_wp2_with fail
      go_ret
      exact ⟨rfl, hb⟩

theorem iSameRex : ∀ (n : Nat) (t : Data), dep t ≤ n → cnt t ≤ 100000 → SameOk t := by
  intro n
  induction n with
  | zero => intro t hd _ w S1 S2 a b c d u a' b' c' d' u' h; obtain ⟨op, c, s, no, ks, rfl⟩ := rex_node h; rw [dep_nd] at hd; omega
  | succ n ih =>
    intro t hd hc w S1 S2 a b c d u a' b' c' d' u' h h' hS1 hS2
    obtain ⟨op, cc, s, no, ks, rfl⟩ := rex_node h
    rw [dep_nd] at hd
    rw [cnt_nd] at hc
    rw [rex_nd] at h h'
    obtain ⟨v, xs, he, ho, hg, hx⟩ := h
    obtain ⟨v', ys, he', ho', hg', hy⟩ := h'
    simp at he he'
    obtain ⟨rfl, rfl, rfl, rfl, rfl⟩ := he
    obtain ⟨rfl, rfl, rfl, rfl, rfl⟩ := he'
    have hlen := cnts_len ks
    have hkids : ∀ t ∈ ks, SameOk t := fun t ht => ih t (by have := deps_mem ht; omega) (by have := cnts_mem ht; omega)
    obtain ⟨o1, ho1⟩ : ∃ o1, o1 = Obj.cells #[.int .i64 op, .int .i64 cc, .string ⟨s.toArray⟩, .bool no, u] 26 := ⟨_, rfl⟩
    obtain ⟨o2, ho2⟩ : ∃ o2, o2 = Obj.cells #[.int .i64 op, .int .i64 cc, .string ⟨s.toArray⟩, .bool no, u'] 26 := ⟨_, rfl⟩
    have hb : Below w.heap.size w ((w.alloc o1).alloc o2) := ((Below.refl _ w).alloc (Nat.le_refl _) _).alloc (by simp) _
    have call := iEqualFunc hkids (by omega) ((w.alloc o1).alloc o2) _ _ u u' xs ys (owns_same ho fun g h => hb.block g (ho.lt g h).2) (owns_same ho' fun g h => hb.block g (ho'.lt g h).2) (rexs_frame (fun j hj => hb.block j (hS1 j hj.1)) hx) (rexs_frame (fun j hj => hb.block j (hS2 j hj.1)) hy) (fun j hj => Nat.lt_of_lt_of_le (hS1 j hj.1) hb.size) (fun j hj => Nat.lt_of_lt_of_le (hS2 j hj.1) hb.size)
    obtain ⟨ao, cap, rfl⟩ := owns_slice ho
    obtain ⟨ao', cap', rfl⟩ := owns_slice ho'
    subst ho1 ho2
    clear ho ho' hx hy hkids ih
    go_enter Tryz.func31, Tryz.ntmps31
    go_wp2_with fail
    refine call.mono ?_
    rintro e w2 ⟨rfl, hb2⟩
    go_wp2_with fail
    go_ret
    exact ⟨rfl, hb.trans (hb2.mono hb.size)⟩

end Rx
end Go.Proofs.YtgdnlmaacnnfiaaGreatDoor

namespace Go.Proofs.YtgdnlmaacnnfiaaGreatDoor
open Go.RowKit
namespace Rx

theorem ok_idle (a : Value) (w : World) :
    CallsD Tryz.prog 30 #[a] .returning w fun e u' w' => e = .returned (.tuple #[]) ∧ u' = .returning ∧ w' = w := by
  refine callsD_of_wpS Tryz.func30 rfl fun c₀ cs hu => ?_
  apply wpS_seq
  apply wpS_region
  simp [wpOpsS, go_sem, recoverD, hu, Tryz.ntmps30, Exit.thenS]
  refine wpS_cond (t := false) (by simp [Act.eval, Array.replicate]) ?_
  simp only [Bool.false_eq_true, if_false]
  refine wpS_of_wp (wp_skip ?_)
  cases c₀
  simp_all [bodyPostS, results, Tryz.results30]

set_option maxHeartbeats 2000000 in
set_option maxRecDepth 100000 in
theorem iRexOk {W : World} (hSet : SetOk W) {t : Data} (hR : RightD 12 t) (hc : cnt t ≤ 1000) (w : World) (hW : Below W.heap.size W w) (S : Nat → Prop) (a b c d u : Value) (h : RexIs w t S [a, b, c, d, u]) (hS : ∀ k, S k → k < w.heap.size) :
    Calls Tryz.prog 11 #[.agg #[a, b, c, d, u]] w fun e w' => e = .returned (.bool true) ∧ Below w.heap.size w w' := by
  have hP : ∀ w1, Below w.heap.size w w1 → Calls Tryz.prog 22 #[.agg #[a, b, c, d, u], .int .i64 12] w1 fun e w' => PatRet t w1 e w' := fun w1 hb => iPatternOf hSet 12 t hR (by omega) (by omega) w1 S a b c d u (hW.trans (hb.mono hW.size)) (rex_frame _ _ _ (fun k hk => hb.block k (hS k hk)) h) (fun k hk => Nat.lt_of_lt_of_le (hS k hk) hb.size)
  have hO : ∀ w1 lo v, PatIs w1 t (Iv lo w1.heap.size) v → Calls Tryz.prog 32 #[v] w1 fun e w' => RexRet t w1 e w' := fun w1 lo v hv => iRexOf (dep t) t _ v w1 (Nat.le_refl _) (by omega) hv (fun k hk => hk.2)
  have hE : ∀ w1 lo a' b' c' d' u', Below w.heap.size w w1 → RexIs w1 t (Iv lo w1.heap.size) [a', b', c', d', u'] → Calls Tryz.prog 31 #[.agg #[a', b', c', d', u'], .agg #[a, b, c, d, u]] w1 fun e w' => e = .returned (.bool true) ∧ Below w1.heap.size w1 w' := by
    intro w1 lo a' b' c' d' u' hb hx
    have hs := iSameRex (dep t) t (Nat.le_refl _) (by omega)
    unfold SameOk at hs
    exact hs w1 _ S _ _ _ _ _ _ _ _ _ _ hx (rex_frame _ _ _ (fun k hk => hb.block k (hS k hk)) h) (fun k hk => hk.2) (fun k hk => Nat.lt_of_lt_of_le (hS k hk) hb.size)
  obtain ⟨op, cc, ss, no, ao, n, cap, rfl, rfl, rfl, rfl, rfl⟩ := rex_cells h
  clear h hR
  obtain ⟨o1, ho1⟩ : ∃ o1, o1 = Obj.cells #[.int .i64 op, .int .i64 cc, .string ⟨ss.toArray⟩, .bool no, .slice ao n cap] 26 := ⟨_, rfl⟩
  obtain ⟨o2, ho2⟩ : ∃ o2, o2 = Obj.cells #[.bool false] 4 := ⟨_, rfl⟩
  have hb0 : Below w.heap.size w ((w.alloc o1).alloc o2) := ((Below.refl _ w).alloc (Nat.le_refl _) _).alloc (by simp) _
  have hV0 : Var ((w.alloc o1).alloc o2) w.heap.size (.int .i64 op) (.int .i64 cc) (.string ⟨ss.toArray⟩) (.bool no) (.slice ao n cap) := by
    unfold Var
    rw [Below.heap_alloc _ _ _ (by simp), heap_alloc_last, ho1]
  have hF0 : Flag ((w.alloc o1).alloc o2) (w.heap.size + 1) false := by
    have := heap_alloc_last (w.alloc o1) o2
    unfold Flag
    rw [ho2] at this ⊢
    simpa using this
  have hz0 : ((w.alloc o1).alloc o2).heap.size = w.heap.size + 2 := by simp
  have hK : ∀ w1 : World, Below (w.heap.size + 2) ((w.alloc o1).alloc o2) w1 → Var w1 w.heap.size (.int .i64 op) (.int .i64 cc) (.string ⟨ss.toArray⟩) (.bool no) (.slice ao n cap) ∧ Flag w1 (w.heap.size + 1) false ∧ Below w.heap.size w w1 := fun w1 hb => ⟨hV0.kept (hb.block _ (by omega)), hF0.kept (hb.block _ (by omega)), hb0.trans (hb.mono (by omega))⟩
  obtain ⟨W2, hW2⟩ : ∃ W2, W2 = (w.alloc o1).alloc o2 := ⟨_, rfl⟩
  have k0 := hV0.cell.1
  have k1 := hV0.cell.2.1
  have k2 := hV0.cell.2.2.1
  have k3 := hV0.cell.2.2.2.1
  have k4 := hV0.cell.2.2.2.2
  subst ho1 ho2
  rw [← hW2] at hK hz0 hb0 k0 k1 k2 k3 k4
  go_enter_defers Tryz.func11, Tryz.ntmps11
  go_wp2_with fail
  rw [← hW2]
  clear hV0 hF0 hW2
  go_region_with (first | (go_at_call 22; refine (hP _ (by first | exact hb0 | exact hb0.drew | exact hb0.drew.drew | exact hb0.drew.drew.drew)).mono ?_; rintro e w1 ⟨v1, rfl, hv1, hb1⟩; obtain ⟨T1, y1, rfl⟩ := pat_iface hv1; have hq1 : Below (w.heap.size + 2) W2 w1 := ⟨hb1.os, hb1.tape, hb1.output, hb1.size, fun k hk => hb1.block k (by show k < W2.heap.size; omega)⟩; obtain ⟨hV1, hF1, hB1⟩ := hK w1 hq1; have m0 := hV1.cell.1; have m1 := hV1.cell.2.1; have m2 := hV1.cell.2.2.1; have m3 := hV1.cell.2.2.2.1; have m4 := hV1.cell.2.2.2.2) | (go_at_call 32; refine (hO _ _ _ (pat_frame (w := w1) (fun _ _ => rfl) (fun _ h => h) t _ hv1)).mono ?_; rintro e w2 ⟨a2, b2, c2, d2, u2, rfl, hb2, hx2⟩; obtain ⟨op2, cc2, ss2, no2, ao2, n2, cap2, rfl, rfl, rfl, rfl, rfl⟩ := rex_cells hx2; have hq2 : Below (w.heap.size + 2) W2 w2 := hq1.trans ⟨hb2.os, hb2.tape, hb2.output, hb2.size, fun k hk => hb2.block k (by show k < w1.heap.size; have := hq1.size; omega)⟩; obtain ⟨hV2, hF2, hB2⟩ := hK w2 hq2; have j0 := hV2.cell.1; have j1 := hV2.cell.2.1; have j2 := hV2.cell.2.2.1; have j3 := hV2.cell.2.2.2.1; have j4 := hV2.cell.2.2.2.2) | (go_at_call 31; refine (hE _ _ _ _ _ _ _ (by first | exact hB2 | exact hB2.drew | exact hB2.drew.drew | exact hB2.drew.drew.drew) (rex_frame (w := w2) t _ _ (fun _ _ => rfl) hx2)).mono ?_; rintro e w3 ⟨rfl, hb3⟩; have hq3 : Below (w.heap.size + 2) W2 w3 := hq2.trans ⟨hb3.os, hb3.tape, hb3.output, hb3.size, fun k hk => hb3.block k (by show k < w2.heap.size; have := hq2.size; omega)⟩; obtain ⟨hV3, hF3, hB3⟩ := hK w3 hq3; have i0 := hF3.cell; have i1 := hF3.frozen))
  all_goals go_wp2_with fail
  all_goals refine leaves_cons (f := 30) (args := #[.pointer (some ⟨w.heap.size + 1, 0, none⟩)]) (by simp) (by simp [go_sem]) ?_
  all_goals refine (ok_idle _ _).mono ?_
  all_goals rintro e u' w'' ⟨rfl, rfl, hw⟩
  all_goals subst hw
  all_goals have x5 := (hF3.set true).cell
  all_goals have HB : Hid (Below w.heap.size w (w3.setCell ⟨w.heap.size + 1, 0, none⟩ (.bool true))) := hB3.setCell (show w.heap.size ≤ w.heap.size + 1 by omega) _
  all_goals clear hV1 hV2 hV3 hF1 hF2 hF3 hP hO hE hK hB3
  all_goals simp [Leaves, settle, results, Tryz.results11, go_sem, x5]
  all_goals exact HB.out

end Rx
end Go.Proofs.YtgdnlmaacnnfiaaGreatDoor

