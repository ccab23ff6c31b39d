/-
  A Rex of any numbers as the program's pattern: it panics, or tells a pattern that is right: setOf, manyOf, onlyOf.
  patternOf at a Rex of any numbers: it panics, or tells a pattern that is right.
-/
import Derived.Test.YtgdnlmaacnnfiaaGreatDoorQ08
import Derived.Test.YtgdnlmaacnnfiaaGreatDoorQ07
import Derived.Test.YtgdnlmaacnnfiaaGreatDoorQ06
namespace Go.Proofs.YtgdnlmaacnnfiaaGreatDoor
open Go.RowKit
namespace Rx

/-- A set that some text tells, or one of two that none tells. -/
def SetZ (s : List UInt8) (no : Bool) : Prop := (∃ M, okSet M no ∧ s = bytesOf M) ∨ s = [] ∨ s = [98, 97]
def labSet (lab : List Data) : Prop := match lab with
  | [_, _, .lit (.string s), .lit (.bool no)] => SetZ s no
  | _ => True
mutual
/-- Every set is such a one. -/
def SetsZ : Data → Prop
  | .slice ks lab => SetsZs ks ∧ labSet lab
  | _ => True
def SetsZs : List Data → Prop
  | [] => True
  | t :: ts => SetsZ t ∧ SetsZs ts
end
theorem setsZs_mem : ∀ {ts : List Data} {t : Data}, SetsZs ts → t ∈ ts → SetsZ t
  | t' :: ts, t, h, hm => by
    simp only [SetsZs] at h
    rcases List.mem_cons.1 hm with rfl | hm
    · exact h.1
    · exact setsZs_mem h.2 hm
theorem setsZ_nd {op c : Int} {s : List UInt8} {no : Bool} {ks : List Data} (h : SetsZ (ndZ op c s no ks)) : SetsZs ks ∧ SetZ s no := by
  unfold ndZ at h
  rw [SetsZ] at h
  exact h

/-- A panic with errNoPattern; what was there stays. -/
def NoPat (ad : Addr) (w : World) (e : Ending) (w' : World) : Prop := e = .panicked [{ v := errV ad, recovered := false }] ∧ Below w.heap.size w w'
def PatRetZ (ad : Addr) (room n : Nat) (w : World) (e : Ending) (w' : World) : Prop :=
  (∃ t v, e = .returned v ∧ RightD room t ∧ cnt t ≤ n ∧ PatIs w' t (Iv w.heap.size w'.heap.size) v ∧ Below w.heap.size w w') ∨ NoPat ad w e w'
def PatOkZ (W : World) (ad : Addr) (room : Nat) (t : Data) : Prop := ∀ (w : World) (S : Nat → Prop) (a b c d u : Value), Below W.heap.size W w → RexZ w t S [a, b, c, d, u] → (∀ k, S k → k < w.heap.size) →
  Calls Tryz.prog 22 #[.agg #[a, b, c, d, u], .int .i64 room] w fun e w' => PatRetZ ad room (cnt t) w e w'
def ErrAt (ad : Addr) (w : World) : Prop := w.cell? ⟨0, 0, none⟩ = some (.iface 183 (.pointer (some ad)))
theorem ErrAt.on {ad : Addr} {W w : World} (h : ErrAt ad W) (hb : Below W.heap.size W w) : ErrAt ad w :=
  (hb.cell (p := ⟨0, 0, none⟩) (World.block_lt_of_cell? W _ h)).trans h

theorem below_drewP {B : Nat} {W w : World} (h : Below B W w) (n : Nat) : Below B W (w.drewN n) := ⟨h.os, h.tape, h.output, h.size, h.block⟩

set_option maxRecDepth 100000 in
theorem iSetNone (ad : Addr) (no : Bool) (w : World) (he : ErrAt ad w) :
    Calls Tryz.prog 53 #[.string ⟨#[]⟩, .bool no] w fun e w' => NoPat ad w e w' := by
  unfold ErrAt at he
  go_enter Tryz.func53, Tryz.ntmps53
  go_wp2_with fail
  exact ⟨rfl, rfl, Below.refl _ _⟩

set_option maxRecDepth 100000 in
theorem iAscBa (w : World) : Calls Tryz.prog 78 #[.string ⟨#[98, 97]⟩] w fun e w' => e = .returned (.bool false) ∧ ∃ n, w' = w.drewN n := by
  go_enter Tryz.func78, Tryz.ntmps78
  go_wp2_with fail
  go_loopw [3] (fun iv wr => iv = .int .i64 1 ∧ wr = w) (fun _ _ => 0)
  case atStart => exact ⟨rfl, rfl⟩
  case round =>
    obtain ⟨rfl, rfl⟩ := hrel
    go_wp2_with fail
    go_quiet (fail)
    go_wp2_with fail
    go_ret
    exact ⟨rfl, _, rfl⟩

set_option maxRecDepth 100000 in
theorem iSetBa (ad : Addr) (no : Bool) (w : World) (he : ErrAt ad w) :
    Calls Tryz.prog 53 #[.string ⟨#[98, 97]⟩, .bool no] w fun e w' => NoPat ad w e w' := by
  unfold ErrAt at he
  go_enter Tryz.func53, Tryz.ntmps53
  go_wp2_with (go_at_call 78; refine (iAscBa _).mono ?_; rintro e w' ⟨rfl, n, rfl⟩)
  exact ⟨rfl, rfl, below_drewP (Below.refl _ _) n⟩

set_option maxHeartbeats 1000000 in
set_option maxRecDepth 100000 in
theorem iManyOfZ {W : World} {ad : Addr} {room : Nat} {ks : List Data} (hroom : room ≤ 1000) (hk : ∀ t ∈ ks, PatOkZ W ad room t) (hn : ks.length ≤ 100000) (h2 : 2 ≤ ks.length) (w : World) (hW : Below W.heap.size W w) (S : Nat → Prop) (u : Value) (xs : List Value) (ho : w.ownsRow 0 26 5 u ks.length xs)
    (hx : RexZs w ks S xs) (hS : ∀ k, S k → k < w.heap.size) :
    Calls Tryz.prog 54 #[u, .int .i64 room] w fun e w' => (∃ ts v, e = .returned v ∧ 2 ≤ ts.length ∧ (∀ t ∈ ts, RightD room t) ∧ cnts ts ≤ cnts ks ∧ Pats w' w.heap.size ts v ∧ Below w.heap.size w w') ∨ NoPat ad w e w' := by
  obtain ⟨ao, cap, rfl⟩ := owns_slice ho
  have hnI : (ks.length : Int) ≤ 100000 := by omega
  have h2I : (2 : Int) ≤ ks.length := by omega
  have hrI : (room : Int) ≤ 1000 := by omega
  have hmk := run_make_row' (P := Tryz.prog) 93 50 .nilIface 16 Tryz.underlying93 Tryz.info50r rfl .i64 .i64 ks.length (by omega) (by omega)
  have hown0 : (w.alloc (.cells (madeCells #[.nilIface] ks.length) 50)).ownsRow w.heap.size 50 1 (.slice (some ⟨w.heap.size, 0, none⟩) ks.length ks.length) ks.length (List.replicate ks.length .nilIface) :=
    ⟨by simp, .inr ⟨w.heap.size, ks.length, madeCells #[.nilIface] ks.length, rfl, Nat.le_refl _, heap_alloc_last _ _, Nat.le_refl _, by unfold maxLen; omega, by rw [size_madeCells]; omega, by rw [toList_madeCells_one, Nat.mul_one]; simp⟩⟩
  go_enter Tryz.func54, Tryz.ntmps54
  go_wp2_with fail
  go_loopw [17] (fun iv wr => ∃ (i : Nat) (ys : List Value) (ts : List Data), iv = .int .i64 i ∧ i ≤ ks.length ∧ ys.length = i ∧ ts.length = i ∧ (∀ t ∈ ts, RightD room t) ∧ cnts ts ≤ cnts (ks.take i) ∧ PatsIs wr ts (Iv (w.heap.size + 1) wr.heap.size) ys ∧ wr.ownsRow w.heap.size 50 1 (.slice (some ⟨w.heap.size, 0, none⟩) ks.length ks.length) ks.length (ys ++ List.replicate (ks.length - i) .nilIface) ∧ Below w.heap.size w wr) (fun iv _ => ks.length - (intOf iv).toNat)
  case atStart => exact ⟨0, [], [], rfl, Nat.zero_le _, rfl, rfl, by simp, by simp [cnts], by simp only [PatsIs], by simpa using hown0, (Below.refl _ w).alloc (Nat.le_refl _) _⟩
  case round =>
    clear hown0 hmk
    obtain ⟨i, ys, ts, rfl, hi, hys, hts, hrt, hct, hps, hrow, hb⟩ := hrel
    have hsz := hb.size
    have hql := (hrow.lt w.heap.size rfl).2
    by_cases hil : i < ks.length
    · have hki : ks[i]? = some ks[i] := List.getElem?_eq_getElem hil
      obtain ⟨T1, a, b, c, d, v, x0, x1, x2, x3, x4, hr1, hs1⟩ := rexZs_at hx hki
      obtain ⟨g, rfl, hg, hc⟩ := row_cells ho hil
      have cc : ∀ j x, xs[j]? = some x → wr.cell? ⟨g, j, none⟩ = some x := fun j x hx => (hb.cell (p := ⟨g, j, none⟩) hg).trans (hc j x hx)
      have p0 := cc _ _ x0
      have p1 := cc _ _ x1
      have p2 := cc _ _ x2
      have p3 := cc _ _ x3
      have p4 := cc _ _ x4
      obtain ⟨op, c', ss, no, a', n', cap', rfl, rfl, rfl, rfl, rfl⟩ := rexZ_cells hr1
      have hWr : Below W.heap.size W wr := hW.trans (hb.mono hW.size)
      have hr2 : RexZ (wr.alloc (.cells #[.int .i64 op, .int .i64 c', .string ⟨ss.toArray⟩, .bool no, .slice a' n' cap'] 26)) ks[i] T1 [.int .i64 op, .int .i64 c', .string ⟨ss.toArray⟩, .bool no, .slice a' n' cap'] :=
        rexZ_frame _ _ _ (fun j hj => (Below.heap_alloc _ _ _ (by have := hS j (hs1 j hj); omega)).trans (hb.block j (hS j (hs1 j hj)))) hr1
      have call := hk ks[i] (List.getElem_mem hil) (wr.alloc (.cells #[.int .i64 op, .int .i64 c', .string ⟨ss.toArray⟩, .bool no, .slice a' n' cap'] 26)) T1 _ _ _ _ _ (hWr.alloc (by have := hW.size; omega) _) hr2 (fun j hj => by have := hS j (hs1 j hj); simp; omega)
      clear x0 x1 x2 x3 x4 hc cc hr1 hs1 hr2
      go_wp2_with fail
      refine call.mono ?_
      rintro e w2 (⟨t2, v2, rfl, hR2, hc2, hv2, hb2⟩ | ⟨rfl, hb2⟩)
      rotate_left
      · exact ⟨rfl, .inr ⟨rfl, hb.trans ((((Below.refl _ wr).alloc (Nat.le_refl _) _).trans (hb2.mono (by simp))).mono hsz)⟩⟩
      obtain ⟨T2, y2, rfl⟩ := pat_iface hv2
      have hsz2 : wr.heap.size + 1 ≤ w2.heap.size := by simpa using hb2.size
      have hrow2 : w2.ownsRow w.heap.size 50 1 (.slice (some ⟨w.heap.size, 0, none⟩) ks.length ks.length) ks.length (ys ++ List.replicate (ks.length - i) .nilIface) := owns_same hrow fun b hb' => by
        cases hb'
        exact (hb2.block _ (by simp; omega)).trans (Below.heap_alloc _ _ _ hql)
      have q0 : w2.cell? ⟨w.heap.size, i, none⟩ = some .nilIface := by
        rw [hrow2.cellAt i (by omega), List.getElem?_append_right (by omega), List.getElem?_replicate, if_pos (by omega)]
      have fz := hrow2.frozenAt i
      go_wp2_with fail
      go_roundw
      case rel =>
        refine ⟨i + 1, ys ++ [.iface T2 y2], ts ++ [t2], by go_num, hil, by simp [hys], by simp [hts], ?_, ?_, ?_, ?_, ?_⟩
        · intro t ht
          rcases List.mem_append.1 ht with h | h
          · exact hrt t h
          · rw [List.mem_singleton.1 h]; exact hR2
        · rw [List.take_add_one, hki, Option.toList_some, cnts_snoc, cnts_snoc]
          omega
        · refine pats_snoc ?_ ?_
          · refine pats_frame (fun k hk => ?_) (fun k hk => ?_) hps
            · have k1 := hk.1
              have k2 := hk.2
              rw [Below.heap_setCell _ _ _ _ (show k ≠ w.heap.size by omega), hb2.block k (by simp; omega), Below.heap_alloc _ _ _ k2]
            · exact ⟨hk.1, by have := hk.2; simp; omega⟩
          · refine pat_frame (fun k hk => ?_) (fun k hk => ?_) _ _ hv2
            · have k1 := hk.1
              simp at k1
              exact Below.heap_setCell _ _ _ _ (show k ≠ w.heap.size by omega)
            · have k1 := hk.1
              simp at k1
              exact ⟨by omega, by simpa using hk.2⟩
        · have := owns_put hrow2 i (.iface T2 y2)
          obtain ⟨m, hm⟩ : ∃ m, ks.length - i = m + 1 := ⟨ks.length - i - 1, by omega⟩
          rw [hm] at this
          rw [show ks.length - (i + 1) = m by omega, ← set_mid, hys]
          exact this
        · exact (hb.trans (((Below.refl _ wr).alloc (Nat.le_refl _) _).trans (hb2.mono (by simp)) |>.mono hsz)).setCell (Nat.le_refl _) _
      case measure => simp [intOf]; omega
    · obtain rfl : i = ks.length := by omega
      go_wp2_with fail
      go_ret
      rw [List.take_length] at hct
      rw [Nat.sub_self, List.replicate_zero, List.append_nil] at hrow
      refine .inl ⟨ts, _, rfl, by omega, hrt, hct, ⟨ys, Iv (w.heap.size + 1) wr.heap.size, by rw [hts]; exact hrow, hps, fun k hk => ⟨by have := hk.1; omega, hk.2, fun e => ?_⟩⟩, hb⟩
      simp [Value.ownBlock] at e
      have := hk.1
      omega


set_option maxRecDepth 100000 in
theorem iManyFew {ad : Addr} {n : Nat} (room : Nat) (u : Value) (w : World) (xs : List Value) (he : ErrAt ad w) (hn : n < 2) (ho : w.ownsRow 0 26 5 u n xs) :
    Calls Tryz.prog 54 #[u, .int .i64 room] w fun e w' => NoPat ad w e w' := by
  obtain ⟨ao, cap, rfl⟩ := owns_slice ho
  have hnI : (n : Int) < 2 := by omega
  unfold ErrAt at he
  clear ho
  go_enter Tryz.func54, Tryz.ntmps54
  go_wp2_with fail
  exact ⟨rfl, rfl, Below.refl _ _⟩
set_option maxRecDepth 100000 in
theorem iOnlyNot {ad : Addr} {n : Nat} (room : Nat) (u : Value) (w : World) (xs : List Value) (he : ErrAt ad w) (hn : n ≠ 1) (ho : w.ownsRow 0 26 5 u n xs) :
    Calls Tryz.prog 55 #[u, .int .i64 room] w fun e w' => NoPat ad w e w' := by
  obtain ⟨ao, cap, rfl⟩ := owns_slice ho
  have hnI : ((n : Int) != 1) = true := by simp; omega
  unfold ErrAt at he
  clear ho
  go_enter Tryz.func55, Tryz.ntmps55
  go_wp2_with fail
  exact ⟨rfl, rfl, Below.refl _ _⟩
set_option maxRecDepth 100000 in
theorem iOnlyOfZ {W : World} {ad : Addr} {room : Nat} {k : Data} (hroom : room ≤ 1000) (hk : PatOkZ W ad room k) (w : World) (hW : Below W.heap.size W w) (S : Nat → Prop) (u : Value) (xs : List Value) (ho : w.ownsRow 0 26 5 u 1 xs)
    (hx : RexZs w [k] S xs) (hS : ∀ k, S k → k < w.heap.size) : Calls Tryz.prog 55 #[u, .int .i64 room] w fun e w' => PatRetZ ad room (cnt k) w e w' := by
  obtain ⟨ao, cap, rfl⟩ := owns_slice ho
  have hrI : (room : Int) ≤ 1000 := by omega
  obtain ⟨T1, a, b, c, d, v, x0, x1, x2, x3, x4, hr1, hs1⟩ := rexZs_at (i := 0) (t := k) hx rfl
  obtain ⟨g, rfl, hg, cc⟩ := row_cells ho (show 0 < 1 by omega)
  have p0 := cc _ _ x0
  have p1 := cc _ _ x1
  have p2 := cc _ _ x2
  have p3 := cc _ _ x3
  have p4 := cc _ _ x4
  simp only [Nat.zero_mul, Nat.zero_add] at p0 p1 p2 p3 p4
  obtain ⟨op, c', ss, no, a', n', cap', rfl, rfl, rfl, rfl, rfl⟩ := rexZ_cells hr1
  have call := hk w T1 _ _ _ _ _ hW hr1 (fun j hj => hS j (hs1 j hj))
  clear x0 x1 x2 x3 x4 cc hr1 hs1
  go_enter Tryz.func55, Tryz.ntmps55
  go_wp2_with fail
  refine call.mono ?_
  rintro e w2 (⟨t2, v2, rfl, hR2, hc2, hv2, hb2⟩ | ⟨rfl, hb2⟩)
  · go_wp2_with fail
    go_ret
    exact .inl ⟨t2, v2, rfl, hR2, hc2, hv2, hb2⟩
  · exact ⟨rfl, .inr ⟨rfl, hb2⟩⟩
end Rx
end Go.Proofs.YtgdnlmaacnnfiaaGreatDoor

namespace Go.Proofs.YtgdnlmaacnnfiaaGreatDoor
open Go.RowKit
namespace Rx

theorem cnt_Z (op c : Int) (s : List UInt8) (no : Bool) (ks : List Data) : cnt (ndZ op c s no ks) = cnts ks + 1 := by simp [ndZ, cnt]
theorem cnt_leaf (op c : Nat) (s : List UInt8) (no : Bool) : cnt (nd op c s no []) = 1 := by rw [cnt_nd]; simp [cnts]

set_option maxHeartbeats 4000000 in
set_option maxRecDepth 100000 in
theorem iPatternOfZ {W : World} {ad : Addr} (hSet : SetOk W) (he : ErrAt ad W) : ∀ (room : Nat) (t : Data), SetsZ t → room ≤ 1000 → cnt t ≤ 100000 → PatOkZ W ad room t := by
  intro room
  induction room with
  | zero =>
    intro t _ _ _ w S a b c d u hW h hS
    obtain ⟨op, cc, ss, no, ao, n, cap, rfl, rfl, rfl, rfl, rfl⟩ := rexZ_cells h
    have he' : ErrAt ad w := he.on hW
    have hlt := World.block_lt_of_cell? w _ he'
    unfold ErrAt at he'
    clear h
    go_enter Tryz.func22, Tryz.ntmps22
    go_wp2_with fail
    exact ⟨rfl, .inr ⟨rfl, (Below.refl _ w).alloc (Nat.le_refl _) _⟩⟩
  | succ room ih =>
    intro t hZ hroom hcnt w S a b c d u hW h hS
    have hrI : (room : Int) ≤ 1000 := by omega
    have r1 : ((room + 1 : Nat) : Int) = (room : Int) + 1 := by omega
    have hb : ∀ o, Below w.heap.size w (w.alloc o) := fun o => (Below.refl _ w).alloc (Nat.le_refl _) o
    obtain ⟨op, cc, ss, no, ks, rfl⟩ := rexZ_node h
    obtain ⟨hZk, hZs⟩ := setsZ_nd hZ
    rw [cnt_Z] at hcnt ⊢
    rw [rexZ_nd] at h
    obtain ⟨v, xs, hcs, hown, hg, hxs⟩ := h
    simp at hcs
    obtain ⟨rfl, rfl, rfl, rfl, rfl⟩ := hcs
    have he' : ∀ o, ErrAt ad (w.alloc o) := fun o => (he.on hW).on (hb o)
    have hlt0 := World.block_lt_of_cell? w _ (he.on hW)
    obtain ⟨ao, cap, rfl⟩ := owns_slice hown
    rw [r1]
    by_cases h1 : op = 1
    · subst h1
      obtain ⟨b', hb', hw8⟩ : ∃ b' : Nat, b' < 256 ∧ IntKind.u8.wrap cc = b' := ⟨(cc % 256).toNat, by omega, by rw [IntKind.wrap_u8]; omega⟩
      clear hown ih hxs hg he'
      go_enter Tryz.func22, Tryz.ntmps22
      go_wp2_with fail
      go_ret
      exact .inl ⟨chr b', _, rfl, .inl ⟨b', hb', rfl⟩, by unfold chr; rw [cnt_leaf]; omega, pat_leaf (.inl ⟨rfl, hb', rfl, rfl, rfl⟩), hb _⟩
    by_cases h2 : op = 2
    · subst h2
      clear hown ih hxs hg he'
      go_enter Tryz.func22, Tryz.ntmps22
      go_wp2_with fail
      go_ret
      exact .inl ⟨leaf 2, _, rfl, .inr (.inl ⟨2, .inl rfl, rfl⟩), by unfold leaf; rw [cnt_leaf]; omega, pat_leaf (.inr (.inl ⟨rfl, rfl, rfl, rfl, rfl⟩)), hb _⟩
    by_cases h3 : op = 3
    · subst h3
      obtain ⟨o1, ho1⟩ : ∃ o1, o1 = Obj.cells #[.int .i64 3, .int .i64 cc, .string ⟨ss.toArray⟩, .bool no, .slice ao ks.length cap] 26 := ⟨_, rfl⟩
      rcases hZs with ⟨M, hM, rfl⟩ | rfl | rfl
      · have call := hSet M no (w.alloc o1) hM (hW.alloc hW.size _)
        subst ho1
        clear hown ih hxs hg he'
        go_enter Tryz.func22, Tryz.ntmps22
        go_wp2_with (go_at_call 53; refine call.mono ?_; rintro e w2 ⟨rfl, hb2⟩)
        go_ret
        exact .inl ⟨setOf M no, _, rfl, .inr (.inr (.inl ⟨M, no, hM, rfl⟩)), by unfold setOf; rw [cnt_leaf]; omega, pat_leaf (.inr (.inr (.inl ⟨rfl, rfl, rfl⟩))), (hb _).trans (hb2.mono (by simp))⟩
      · have call := iSetNone ad no (w.alloc o1) (he' o1)
        subst ho1
        clear hown ih hxs hg he'
        go_enter Tryz.func22, Tryz.ntmps22
        go_wp2_with (go_at_call 53; refine call.mono ?_; rintro e w2 ⟨rfl, hb2⟩)
        exact ⟨rfl, .inr ⟨rfl, (hb _).trans (hb2.mono (by simp))⟩⟩
      · have call := iSetBa ad no (w.alloc o1) (he' o1)
        subst ho1
        clear hown ih hxs hg he'
        go_enter Tryz.func22, Tryz.ntmps22
        go_wp2_with (go_at_call 53; refine call.mono ?_; rintro e w2 ⟨rfl, hb2⟩)
        exact ⟨rfl, .inr ⟨rfl, (hb _).trans (hb2.mono (by simp))⟩⟩
    by_cases h4 : op = 4
    · subst h4
      clear hown ih hxs hg he'
      go_enter Tryz.func22, Tryz.ntmps22
      go_wp2_with fail
      go_ret
      exact .inl ⟨leaf 4, _, rfl, .inr (.inl ⟨4, .inr (.inl rfl), rfl⟩), by unfold leaf; rw [cnt_leaf]; omega, pat_leaf (.inr (.inr (.inr (.inl ⟨rfl, rfl, rfl, rfl, rfl⟩)))), hb _⟩
    by_cases h5 : op = 5
    · subst h5
      clear hown ih hxs hg he'
      go_enter Tryz.func22, Tryz.ntmps22
      go_wp2_with fail
      go_ret
      exact .inl ⟨leaf 5, _, rfl, .inr (.inl ⟨5, .inr (.inr (.inl rfl)), rfl⟩), by unfold leaf; rw [cnt_leaf]; omega, pat_leaf (.inr (.inr (.inr (.inr (.inl ⟨rfl, rfl, rfl, rfl, rfl⟩))))), hb _⟩
    by_cases h6 : op = 6
    · subst h6
      obtain ⟨o1, ho1⟩ : ∃ o1, o1 = Obj.cells #[.int .i64 6, .int .i64 cc, .string ⟨ss.toArray⟩, .bool no, .slice ao ks.length cap] 26 := ⟨_, rfl⟩
      have hlt : ∀ b, Value.ownBlock (.slice ao ks.length cap) = some b → b < w.heap.size := fun b hb => (hown.lt b hb).2
      have hlen := cnts_len ks
      have call : Calls Tryz.prog 54 #[.slice ao ks.length cap, .int .i64 room] (w.alloc o1) fun e w' => (∃ ts v, e = .returned v ∧ 2 ≤ ts.length ∧ (∀ t ∈ ts, RightD room t) ∧ cnts ts ≤ cnts ks ∧ Pats w' (w.alloc o1).heap.size ts v ∧ Below (w.alloc o1).heap.size (w.alloc o1) w') ∨ NoPat ad (w.alloc o1) e w' := by
        by_cases hl : ks.length < 2
        · exact (iManyFew room _ (w.alloc o1) xs (he' o1) hl (owns_same hown fun b hb' => Below.heap_alloc _ _ _ (hlt b hb'))).mono fun e w' h => .inr h
        · exact iManyOfZ (by omega) (fun t ht => ih t (setsZs_mem hZk ht) (by omega) (by have := cnts_mem ht; omega)) (by omega) (by omega) (w.alloc o1) (hW.alloc hW.size _) _ _ _ (owns_same hown fun b hb' => Below.heap_alloc _ _ _ (hlt b hb')) (rexZs_frame_of _ _ _ (fun t _ => rexZ_frame t) (fun b hb' => Below.heap_alloc _ _ _ (hS b hb'.1)) hxs) (fun b hb' => by have := hS b hb'.1; simp; omega)
      subst ho1
      clear hown ih hxs hg he'
      go_enter Tryz.func22, Tryz.ntmps22
      go_wp2_with fail
      refine call.mono ?_
      rintro e w2 (⟨ts, v2, rfl, h2, hR2, hc2, hv2, hb2⟩ | ⟨rfl, hb2⟩)
      · go_wp2_with fail
        go_ret
        exact .inl ⟨nd 6 0 [] false ts, _, rfl, .inr (.inr (.inr (.inr ⟨6, ts, .inl rfl, rfl, h2, hR2⟩))), by rw [cnt_nd]; omega, pat_frame (fun _ _ => rfl) (fun b hb' => ⟨by have := hb'.1; simp at this; omega, hb'.2⟩) _ _ (pats_pat hv2).1, (hb _).trans (hb2.mono (by simp))⟩
      · exact ⟨rfl, .inr ⟨rfl, (hb _).trans (hb2.mono (by simp))⟩⟩
    by_cases h7 : op = 7
    · subst h7
      obtain ⟨o1, ho1⟩ : ∃ o1, o1 = Obj.cells #[.int .i64 7, .int .i64 cc, .string ⟨ss.toArray⟩, .bool no, .slice ao ks.length cap] 26 := ⟨_, rfl⟩
      have hlt : ∀ b, Value.ownBlock (.slice ao ks.length cap) = some b → b < w.heap.size := fun b hb => (hown.lt b hb).2
      have hlen := cnts_len ks
      have call : Calls Tryz.prog 54 #[.slice ao ks.length cap, .int .i64 room] (w.alloc o1) fun e w' => (∃ ts v, e = .returned v ∧ 2 ≤ ts.length ∧ (∀ t ∈ ts, RightD room t) ∧ cnts ts ≤ cnts ks ∧ Pats w' (w.alloc o1).heap.size ts v ∧ Below (w.alloc o1).heap.size (w.alloc o1) w') ∨ NoPat ad (w.alloc o1) e w' := by
        by_cases hl : ks.length < 2
        · exact (iManyFew room _ (w.alloc o1) xs (he' o1) hl (owns_same hown fun b hb' => Below.heap_alloc _ _ _ (hlt b hb'))).mono fun e w' h => .inr h
        · exact iManyOfZ (by omega) (fun t ht => ih t (setsZs_mem hZk ht) (by omega) (by have := cnts_mem ht; omega)) (by omega) (by omega) (w.alloc o1) (hW.alloc hW.size _) _ _ _ (owns_same hown fun b hb' => Below.heap_alloc _ _ _ (hlt b hb')) (rexZs_frame_of _ _ _ (fun t _ => rexZ_frame t) (fun b hb' => Below.heap_alloc _ _ _ (hS b hb'.1)) hxs) (fun b hb' => by have := hS b hb'.1; simp; omega)
      subst ho1
      clear hown ih hxs hg he'
      go_enter Tryz.func22, Tryz.ntmps22
      go_wp2_with fail
      refine call.mono ?_
      rintro e w2 (⟨ts, v2, rfl, h2, hR2, hc2, hv2, hb2⟩ | ⟨rfl, hb2⟩)
      · go_wp2_with fail
        go_ret
        exact .inl ⟨nd 7 0 [] false ts, _, rfl, .inr (.inr (.inr (.inr ⟨7, ts, .inr rfl, rfl, h2, hR2⟩))), by rw [cnt_nd]; omega, pat_frame (fun _ _ => rfl) (fun b hb' => ⟨by have := hb'.1; simp at this; omega, hb'.2⟩) _ _ (pats_pat hv2).2, (hb _).trans (hb2.mono (by simp))⟩
      · exact ⟨rfl, .inr ⟨rfl, (hb _).trans (hb2.mono (by simp))⟩⟩
    by_cases h8 : op = 8
    · subst h8
      obtain ⟨o1, ho1⟩ : ∃ o1, o1 = Obj.cells #[.int .i64 8, .int .i64 cc, .string ⟨ss.toArray⟩, .bool no, .slice ao ks.length cap] 26 := ⟨_, rfl⟩
      have hlt : ∀ b, Value.ownBlock (.slice ao ks.length cap) = some b → b < w.heap.size := fun b hb => (hown.lt b hb).2
      have call : Calls Tryz.prog 55 #[.slice ao ks.length cap, .int .i64 room] (w.alloc o1) fun e w' => PatRetZ ad room (cnts ks) (w.alloc o1) e w' := by
        by_cases hl : ks.length = 1
        · obtain ⟨k, rfl⟩ : ∃ k, ks = [k] := List.length_eq_one_iff.1 hl
          have h := iOnlyOfZ (by omega) (ih k (setsZs_mem hZk (by simp)) (by omega) (by simp [cnts] at hcnt; omega)) (w.alloc o1) (hW.alloc hW.size _) _ _ _ (owns_same hown fun b hb' => Below.heap_alloc _ _ _ (hlt b hb')) (rexZs_frame_of _ _ _ (fun t _ => rexZ_frame t) (fun b hb' => Below.heap_alloc _ _ _ (hS b hb'.1)) hxs) (fun b hb' => by have := hS b hb'.1; simp; omega)
          have e : cnts [k] = cnt k := by simp [cnts]
          rw [e]
          exact h
        · exact (iOnlyNot room _ (w.alloc o1) xs (he' o1) hl (owns_same hown fun b hb' => Below.heap_alloc _ _ _ (hlt b hb'))).mono fun e w' h => .inr h
      have hend : ∀ t2 w2 v2, PatIs w2 t2 (Iv (w.alloc o1).heap.size w2.heap.size) v2 → PatIs w2 t2 (Iv w.heap.size w2.heap.size) v2 := fun t2 w2 v2 hv => pat_frame (fun _ _ => rfl) (fun b hb' => ⟨by have := hb'.1; simp at this; omega, hb'.2⟩) t2 v2 hv
      subst ho1
      clear hown ih hxs hg he'
      go_enter Tryz.func22, Tryz.ntmps22
      go_wp2_with fail
      refine call.mono ?_
      rintro e w2 (⟨t2, v2, rfl, hR2, hc2, hv2, hb2⟩ | ⟨rfl, hb2⟩)
      · obtain ⟨T2, y2, rfl⟩ := pat_iface hv2
        go_wp2_with fail
        go_ret
        exact .inl ⟨one 8 t2, _, rfl, .inr (.inr (.inr (.inl ⟨8, t2, .inl rfl, rfl, hR2⟩))), by unfold one; rw [cnt_nd]; simp [cnts]; omega, (pat_one (hend _ _ _ hv2)).1, (hb _).trans (hb2.mono (by simp))⟩
      · exact ⟨rfl, .inr ⟨rfl, (hb _).trans (hb2.mono (by simp))⟩⟩
    by_cases h9 : op = 9
    · subst h9
      obtain ⟨o1, ho1⟩ : ∃ o1, o1 = Obj.cells #[.int .i64 9, .int .i64 cc, .string ⟨ss.toArray⟩, .bool no, .slice ao ks.length cap] 26 := ⟨_, rfl⟩
      have hlt : ∀ b, Value.ownBlock (.slice ao ks.length cap) = some b → b < w.heap.size := fun b hb => (hown.lt b hb).2
      have call : Calls Tryz.prog 55 #[.slice ao ks.length cap, .int .i64 room] (w.alloc o1) fun e w' => PatRetZ ad room (cnts ks) (w.alloc o1) e w' := by
        by_cases hl : ks.length = 1
        · obtain ⟨k, rfl⟩ : ∃ k, ks = [k] := List.length_eq_one_iff.1 hl
          have h := iOnlyOfZ (by omega) (ih k (setsZs_mem hZk (by simp)) (by omega) (by simp [cnts] at hcnt; omega)) (w.alloc o1) (hW.alloc hW.size _) _ _ _ (owns_same hown fun b hb' => Below.heap_alloc _ _ _ (hlt b hb')) (rexZs_frame_of _ _ _ (fun t _ => rexZ_frame t) (fun b hb' => Below.heap_alloc _ _ _ (hS b hb'.1)) hxs) (fun b hb' => by have := hS b hb'.1; simp; omega)
          have e : cnts [k] = cnt k := by simp [cnts]
          rw [e]
          exact h
        · exact (iOnlyNot room _ (w.alloc o1) xs (he' o1) hl (owns_same hown fun b hb' => Below.heap_alloc _ _ _ (hlt b hb'))).mono fun e w' h => .inr h
      have hend : ∀ t2 w2 v2, PatIs w2 t2 (Iv (w.alloc o1).heap.size w2.heap.size) v2 → PatIs w2 t2 (Iv w.heap.size w2.heap.size) v2 := fun t2 w2 v2 hv => pat_frame (fun _ _ => rfl) (fun b hb' => ⟨by have := hb'.1; simp at this; omega, hb'.2⟩) t2 v2 hv
      subst ho1
      clear hown ih hxs hg he'
      go_enter Tryz.func22, Tryz.ntmps22
      go_wp2_with fail
      refine call.mono ?_
      rintro e w2 (⟨t2, v2, rfl, hR2, hc2, hv2, hb2⟩ | ⟨rfl, hb2⟩)
      · obtain ⟨T2, y2, rfl⟩ := pat_iface hv2
        go_wp2_with fail
        go_ret
        exact .inl ⟨one 9 t2, _, rfl, .inr (.inr (.inr (.inl ⟨9, t2, .inr (.inl rfl), rfl, hR2⟩))), by unfold one; rw [cnt_nd]; simp [cnts]; omega, (pat_one (hend _ _ _ hv2)).2.1, (hb _).trans (hb2.mono (by simp))⟩
      · exact ⟨rfl, .inr ⟨rfl, (hb _).trans (hb2.mono (by simp))⟩⟩
    by_cases h10 : op = 10
    · subst h10
      obtain ⟨o1, ho1⟩ : ∃ o1, o1 = Obj.cells #[.int .i64 10, .int .i64 cc, .string ⟨ss.toArray⟩, .bool no, .slice ao ks.length cap] 26 := ⟨_, rfl⟩
      have hlt : ∀ b, Value.ownBlock (.slice ao ks.length cap) = some b → b < w.heap.size := fun b hb => (hown.lt b hb).2
      have call : Calls Tryz.prog 55 #[.slice ao ks.length cap, .int .i64 room] (w.alloc o1) fun e w' => PatRetZ ad room (cnts ks) (w.alloc o1) e w' := by
        by_cases hl : ks.length = 1
        · obtain ⟨k, rfl⟩ : ∃ k, ks = [k] := List.length_eq_one_iff.1 hl
          have h := iOnlyOfZ (by omega) (ih k (setsZs_mem hZk (by simp)) (by omega) (by simp [cnts] at hcnt; omega)) (w.alloc o1) (hW.alloc hW.size _) _ _ _ (owns_same hown fun b hb' => Below.heap_alloc _ _ _ (hlt b hb')) (rexZs_frame_of _ _ _ (fun t _ => rexZ_frame t) (fun b hb' => Below.heap_alloc _ _ _ (hS b hb'.1)) hxs) (fun b hb' => by have := hS b hb'.1; simp; omega)
          have e : cnts [k] = cnt k := by simp [cnts]
          rw [e]
          exact h
        · exact (iOnlyNot room _ (w.alloc o1) xs (he' o1) hl (owns_same hown fun b hb' => Below.heap_alloc _ _ _ (hlt b hb'))).mono fun e w' h => .inr h
      have hend : ∀ t2 w2 v2, PatIs w2 t2 (Iv (w.alloc o1).heap.size w2.heap.size) v2 → PatIs w2 t2 (Iv w.heap.size w2.heap.size) v2 := fun t2 w2 v2 hv => pat_frame (fun _ _ => rfl) (fun b hb' => ⟨by have := hb'.1; simp at this; omega, hb'.2⟩) t2 v2 hv
      subst ho1
      clear hown ih hxs hg he'
      go_enter Tryz.func22, Tryz.ntmps22
      go_wp2_with fail
      refine call.mono ?_
      rintro e w2 (⟨t2, v2, rfl, hR2, hc2, hv2, hb2⟩ | ⟨rfl, hb2⟩)
      · obtain ⟨T2, y2, rfl⟩ := pat_iface hv2
        go_wp2_with fail
        go_ret
        exact .inl ⟨one 10 t2, _, rfl, .inr (.inr (.inr (.inl ⟨10, t2, .inr (.inr rfl), rfl, hR2⟩))), by unfold one; rw [cnt_nd]; simp [cnts]; omega, (pat_one (hend _ _ _ hv2)).2.2, (hb _).trans (hb2.mono (by simp))⟩
      · exact ⟨rfl, .inr ⟨rfl, (hb _).trans (hb2.mono (by simp))⟩⟩
    by_cases h11 : op = 11
    · subst h11
      clear hown ih hxs hg he'
      go_enter Tryz.func22, Tryz.ntmps22
      go_wp2_with fail
      go_ret
      exact .inl ⟨leaf 11, _, rfl, .inr (.inl ⟨11, .inr (.inr (.inr rfl)), rfl⟩), by unfold leaf; rw [cnt_leaf]; omega, pat_leaf (.inr (.inr (.inr (.inr (.inr ⟨rfl, rfl, rfl, rfl, rfl⟩))))), hb _⟩
    have e1 : (op == 1) = false := by simp [h1]
    have e2 : (op == 2) = false := by simp [h2]
    have e3 : (op == 3) = false := by simp [h3]
    have e4 : (op == 4) = false := by simp [h4]
    have e5 : (op == 5) = false := by simp [h5]
    have e6 : (op == 6) = false := by simp [h6]
    have e7 : (op == 7) = false := by simp [h7]
    have e8 : (op == 8) = false := by simp [h8]
    have e9 : (op == 9) = false := by simp [h9]
    have e10 : (op == 10) = false := by simp [h10]
    have e11 : (op == 11) = false := by simp [h11]
    have hE := he.on hW
    unfold ErrAt at hE
    clear h1 h2 h3 h4 h5 h6 h7 h8 h9 h10 h11 hown ih hxs hg he'
    go_enter Tryz.func22, Tryz.ntmps22
    go_wp2_with fail
    exact ⟨rfl, .inr ⟨rfl, hb _⟩⟩
end Rx
end Go.Proofs.YtgdnlmaacnnfiaaGreatDoor

