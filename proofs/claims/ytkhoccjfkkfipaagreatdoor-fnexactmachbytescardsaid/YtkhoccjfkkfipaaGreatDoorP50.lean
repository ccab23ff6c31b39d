/-
  The laws' marks of a Prog and of a Mach: some number, and nothing turned but their own rows.
  The laws' own functions over bytes: toByteS, eqByteS, markByteS, heldByteS.
-/
import Derived.Test.YtkhoccjfkkfipaaGreatDoorP48
import Derived.Test.YtkhoccjfkkfipaaGreatDoorP49
import Derived.Test.YtkhoccjfkkfipaaGreatDoorP45
import Derived.Test.YtkhoccjfkkfipaaGreatDoorP02
import Derived.OwnWalk
import Derived.Deep.WholeRow
namespace Go.Proofs.YtkhoccjfkkfipaaGreatDoor
open Go.RowKit
namespace Mb
open Nd Mk
open St (Vl Cl encV encC)
open Oc (hold Blk)
set_option linter.unusedSimpArgs false
set_option linter.unusedVariables false

theorem rows_owns {α : Type} {T : TypeId} {f : α → List Value} {m : Nat} (hf : ∀ x, (f x).length = m) {w : World} {g : Nat} {L : List α} (h : St.Rows T f w g L) (hn : L.length ≤ maxLen) : w.ownsRow g T m (.slice (some ⟨g, 0, none⟩) L.length L.length) L.length (L.flatMap f) := by
  have hl := St.fm_len hf L
  exact ⟨hl, .inr ⟨g, L.length, (L.flatMap f).toArray, rfl, Nat.le_refl _, h, Nat.le_refl _, hn, by simp [hl], by rw [List.take_of_length_le]; simp [hl]⟩⟩
theorem owns_rows {α : Type} {T : TypeId} {f : α → List Value} {m : Nat} {w : World} {g n B : Nat} {L : List α} (h : w.ownsRow B T m (.slice (some ⟨g, 0, none⟩) n n) n (L.flatMap f)) : St.Rows T f w g L := by
  rcases h.2 with ⟨e, _⟩ | ⟨g', c, cur, e, _, hh, _, _, hs, ht⟩
  · simp at e
  · simp only [Value.slice.injEq, Option.some.injEq, Addr.mk.injEq] at e
    obtain ⟨⟨rfl, _⟩, _, rfl⟩ := e
    unfold St.Rows
    rw [hh, ← ht, List.take_of_length_le (by rw [Array.length_toList, hs]; exact Nat.le_refl _)]

/-- Of all blocks that are there, none but those of S has turned. -/
def Tn (S : Nat → Prop) (w w' : World) : Prop := Turned S (.bool true) w w'
theorem Tn.refl (S : Nat → Prop) (w : World) : Tn S w w := Turned.refl _ _ _
theorem Tn.of {S : Nat → Prop} {w w' w'' : World} {v : Value} (h : Tn S w w') (hT : Turned (fun _ => False) v w' w'') (hv : ∀ k, v.ownBlock = some k → S k) : Tn S w w'' :=
  ⟨hT.os.trans h.os, hT.tape.trans h.tape, hT.output.trans h.output, Nat.le_trans h.size hT.size, fun j hj hn he => (hT.block j (Nat.lt_of_lt_of_le hj h.size) (fun h => h) (fun e => hn (hv j e))).trans (h.block j hj hn he)⟩
theorem Tn.below {S : Nat → Prop} {w w' w'' : World} (h : Tn S w w') (hb : Below w'.heap.size w' w'') : Tn S w w'' :=
  ⟨hb.os.trans h.os, hb.tape.trans h.tape, hb.output.trans h.output, Nat.le_trans h.size hb.size, fun j hj hn he => (hb.block j (Nat.lt_of_lt_of_le hj h.size)).trans (h.block j hj hn he)⟩
theorem Tn.shift {S : Nat → Prop} {w w' : World} {o : Obj} (h : Tn S (w.alloc o) w') : Tn S w w' :=
  ⟨h.os, h.tape, h.output, Nat.le_trans (by simp) h.size, fun j hj hn he => (h.block j (by simp; omega) hn he).trans (Below.heap_alloc _ _ _ hj)⟩
theorem Tn.blk {S : Nat → Prop} {w w' : World} {T : TypeId} {b : Nat} {xs : List Value} (h : Tn S w w') (hk : Blk T w b xs) (hn : ¬ S b) : Blk T w' b xs := (h.block b hk.lt hn (by simp [Value.ownBlock])).trans hk

/-- Rows of n entries, whatever they hold. -/
def Any {α : Type} (T : TypeId) (f : α → List Value) (w : World) (g n : Nat) : Prop := ∃ L : List α, L.length = n ∧ St.Rows T f w g L
theorem Any.turn {α : Type} {T : TypeId} {f : α → List Value} {m : Nat} (hm : 0 < m) (hf : ∀ x, (f x).length = m) {w w' : World} {g g' n n' : Nat} {v : Value} (h1 : Any T f w g n) (h2 : Any T f w' g n) (h : Any T f w g' n') (hT : Turned (fun _ => False) v w w') (hv : ∀ k, v.ownBlock = some k → k = g) : Any T f w' g' n' := by
  obtain ⟨L, hL, hr⟩ := h1
  obtain ⟨L', hL', hr'⟩ := h2
  obtain ⟨M, hM, hs⟩ := h
  by_cases e : g' = g
  · subst e
    have e2 := hr.symm.trans hs
    simp only [Option.some.injEq, Obj.cells.injEq, and_true] at e2
    have e3 := congrArg Array.size e2
    simp only [List.size_toArray, St.fm_len hf] at e3
    have e4 : L.length = M.length := Nat.eq_of_mul_eq_mul_right hm e3
    exact ⟨L', by omega, hr'⟩
  · exact ⟨M, hM, (hT.block g' hs.lt (fun h => h) (fun e2 => e (hv _ e2))).trans hs⟩
theorem Any.kind {α : Type} {T : TypeId} {f : α → List Value} {w w' : World} {g n : Nat} {v : Value} (h : Any T f w g n) (hT : Turned (fun _ => False) v w w') (hv : v.ownBlock ≠ some g) : Any T f w' g n := by
  obtain ⟨M, hM, hs⟩ := h
  exact ⟨M, hM, (hT.block g hs.lt (fun h => h) hv).trans hs⟩

theorem mStr {w : World} {g n k : Nat} (h : Any 9 Pg.encT w g n) (hn : n ≤ 1048576) (h1 : 1 ≤ k) (hk : k ≤ 4000000) :
    Calls Tryz.prog 38 #[.slice (some ⟨g, 0, none⟩) n n, .int .i64 k] w fun e w' => e = .returned (.int .i64 (k + n : Nat)) ∧ Any 9 Pg.encT w' g n ∧ Turned (fun _ => False) (.slice (some ⟨g, 0, none⟩) n n) w w' := by
  obtain ⟨L, rfl, hr⟩ := h
  have ho := rows_owns (m := 1) (fun _ => rfl) hr (by unfold maxLen; omega)
  refine (lMarkTxt (k := k) ho (fun x hx => ?_) (by omega) h1 hk).mono ?_
  · obtain ⟨s, _, hs⟩ := List.mem_flatMap.1 hx
    simp only [Pg.encT, List.mem_singleton] at hs
    exact ⟨_, hs⟩
  · rintro e w' ⟨rfl, ho', hT⟩
    refine ⟨rfl, ⟨(List.range L.length).map fun j => markT (k + j), by simp, ?_⟩, hT⟩
    apply owns_rows (m := 1) (n := L.length) (B := g)
    have e1 : ((List.range L.length).map fun j => markT (k + j)).flatMap Pg.encT = (mks k L.length).map encStr := by
      rw [List.flatMap_map]
      simp only [Pg.encT, mks, List.map_map]
      rw [← List.map_eq_flatMap]
      rfl
    rw [e1]
    exact ho'
theorem mOps {w : World} {g n k : Nat} (h : Any 92 encV w g n) (hn : n ≤ 1048576) (h1 : 1 ≤ k) (hk : k ≤ 9000000) :
    Calls Tryz.prog 39 #[.slice (some ⟨g, 0, none⟩) n n, .int .i64 k] w fun e w' => e = .returned (.int .i64 (k + 3 * n : Nat)) ∧ Any 92 encV w' g n ∧ Turned (fun _ => False) (.slice (some ⟨g, 0, none⟩) n n) w w' := by
  obtain ⟨L, rfl, hr⟩ := h
  have ho := rows_owns (m := 3) St.encV_len hr (by unfold maxLen; omega)
  refine (Cm.lMarkOps (k := k) ho rfl hn h1 hk).mono ?_
  rintro e w' ⟨rfl, ho', hT⟩
  exact ⟨rfl, ⟨_, St.mkVs_len _ _, owns_rows ho'⟩, hT⟩
theorem mVals {w : World} {g n k : Nat} (h : Any 67 encV w g n) (hn : n ≤ 1048576) (h1 : 1 ≤ k) (hk : k ≤ 12000000) :
    Calls Tryz.prog 62 #[.slice (some ⟨g, 0, none⟩) n n, .int .i64 k] w fun e w' => e = .returned (.int .i64 (k + 3 * n : Nat)) ∧ Turned (fun _ => False) (.slice (some ⟨g, 0, none⟩) n n) w w' := by
  obtain ⟨L, hL, hr⟩ := h
  exact (St.lMarkValS hr hL hn h1 hk).mono fun e w' ⟨e1, _, e3⟩ => ⟨e1, e3⟩
theorem mCells {w : World} {g n k : Nat} (h : Any 71 encC w g n) (hn : n ≤ 1048576) (h1 : 1 ≤ k) (hk : k ≤ 16000000) :
    Calls Tryz.prog 63 #[.slice (some ⟨g, 0, none⟩) n n, .int .i64 k] w fun e w' => e = .returned (.int .i64 (k + 5 * n : Nat)) ∧ Turned (fun _ => False) (.slice (some ⟨g, 0, none⟩) n n) w w' := by
  obtain ⟨L, hL, hr⟩ := h
  exact (St.lMarkCellS hr hL hn h1 hk).mono fun e w' ⟨e1, _, e3⟩ => ⟨e1, e3⟩

set_option maxRecDepth 100000 in
theorem mInts {w : World} {g n k : Nat} (h : Any 3 Pg.encI w g n) (hn : n ≤ 1048576) (h1 : 1 ≤ k) (hk : k ≤ 24000000) :
    Calls Tryz.prog 41 #[.slice (some ⟨g, 0, none⟩) n n, .int .i64 k] w fun e w' => e = .returned (.int .i64 (k + n : Nat)) ∧ Turned (fun _ => False) (.slice (some ⟨g, 0, none⟩) n n) w w' := by
  have bn : (n : Int) ≤ 1048576 := by omega
  have bk : (k : Int) ≤ 24000000 := by omega
  go_enter Tryz.func41, Tryz.ntmps41
  go_wp2_with fail
  go_loopw [1, 5] (fun kv iv wr => ∃ i : Nat, iv = .int .i64 i ∧ kv = .int .i64 ((k + i : Nat) : Int) ∧ i ≤ n ∧ Any 3 Pg.encI wr g n ∧ Turned (fun _ => False) (.slice (some ⟨g, 0, none⟩) n n) w wr) (fun _ iv _ => n - (intOf iv).toNat)
  case atStart => exact ⟨0, rfl, rfl, Nat.zero_le _, h, Turned.refl _ _ _⟩
  case round =>
    clear h
    obtain ⟨i, rfl, rfl, hi, ⟨L, hL, hr⟩, hT⟩ := hrel
    by_cases hil : i < n
    · have hx : L[i]? = some L[i] := List.getElem?_eq_getElem (by omega)
      have q0 := hr.cell (m := 1) (fun _ => rfl) (j := 0) hx (x := .int .i64 L[i]) rfl
      have fz := hr.frozen i
      rw [Nat.mul_one, Nat.add_zero] at q0
      obtain ⟨ki, hki⟩ : ∃ ki, ki = k + i := ⟨_, rfl⟩
      have hr2 := hr.set1 (m := 1) (fun _ => rfl) (j := 0) (x := .int .i64 (ki : Int)) (v' := (ki : Int)) hx (by omega) rfl
      rw [Nat.mul_one, Nat.add_zero] at hr2
      have HS : Hid (Any 3 Pg.encI (wr.setCell ⟨g, i, none⟩ (.int .i64 (ki : Int))) g n ∧ Turned (fun _ => False) (.slice (some ⟨g, 0, none⟩) n n) w (wr.setCell ⟨g, i, none⟩ (.int .i64 (ki : Int)))) := ⟨⟨_, by rw [List.length_set]; exact hL, hr2⟩, St.turned_set hT rfl i _⟩
      have HK : Hid (ki = k + i) := hki
      have bki : (ki : Int) ≤ 26000000 := by omega
      generalize L[i] = y at q0
      rw [← hki]
      clear hki hr2 hr hx hT hL
      go_wp2_with fail
      go_roundw
      case rel => exact ⟨i + 1, by go_num, by have := HK.out; congr 1; omega, hil, HS.out.1, HS.out.2⟩
      case measure => simp [intOf]; omega
    · obtain rfl : i = n := by omega
      clear hr
      go_wp2_with fail
      go_ret
      exact ⟨rfl, hT⟩

theorem any_ne {α β : Type} {T T' : TypeId} {f : α → List Value} {f' : β → List Value} {w : World} {g g' n n' : Nat} (h : Any T f w g n) (h' : Any T' f' w g' n') (hT : T ≠ T') : g ≠ g' := by
  rintro rfl
  obtain ⟨L, _, hr⟩ := h
  obtain ⟨M, _, hs⟩ := h'
  have e := hr.symm.trans hs
  simp only [Option.some.injEq, Obj.cells.injEq, and_true] at e
  exact hT e.2
theorem Any.below {α : Type} {T : TypeId} {f : α → List Value} {w w' : World} {g n : Nat} (h : Any T f w g n) (hb : Below w.heap.size w w') : Any T f w' g n := by
  obtain ⟨L, hL, hr⟩ := h
  exact ⟨L, hL, hr.kept (hb.block _ hr.lt)⟩
theorem Any.lt {α : Type} {T : TypeId} {f : α → List Value} {w : World} {g n : Nat} (h : Any T f w g n) : g < w.heap.size := by
  obtain ⟨L, hL, hr⟩ := h
  exact hr.lt
theorem own_slice (g n c : Nat) : ∀ k, Value.ownBlock (.slice (some ⟨g, 0, none⟩) n c) = some k → k = g := fun k h => by simp [Value.ownBlock] at h; exact h.symm
theorem own_ne {g n c b : Nat} (h : g ≠ b) : Value.ownBlock (.slice (some ⟨g, 0, none⟩) n c) ≠ some b := fun e => h (own_slice g n c b e).symm
theorem blk_turned {w w' : World} {T : TypeId} {b g n c : Nat} {xs : List Value} (h : Blk T w b xs) (hT : Turned (fun _ => False) (.slice (some ⟨g, 0, none⟩) n c) w w') (hn : g ≠ b) : Blk T w' b xs := (hT.block b h.lt (fun h => h) (own_ne hn)).trans h

set_option maxHeartbeats 2000000 in
set_option maxRecDepth 100000 in
theorem wMarkProg {g1 g2 g3 g4 n1 n2 n3 n4 : Nat} {w : World} (h1 : Any 9 Pg.encT w g1 n1) (h2 : Any 9 Pg.encT w g2 n2) (h3 : Any 92 encV w g3 n3) (h4 : Any 92 encV w g4 n4) (b1 : n1 ≤ 1048576) (b2 : n2 ≤ 1048576) (b3 : n3 ≤ 1048576) (b4 : n4 ≤ 1048576) :
    Calls Tryz.prog 13 #[.agg #[.slice (some ⟨g1, 0, none⟩) n1 n1, .slice (some ⟨g2, 0, none⟩) n2 n2, .slice (some ⟨g3, 0, none⟩) n3 n3, .slice (some ⟨g4, 0, none⟩) n4 n4], .int .i64 1] w fun e w' => ∃ k : Nat, e = .returned (.int .i64 k) ∧ 1 ≤ k ∧ k ≤ 9000000 ∧ Tn (fun j => j = g1 ∨ j = g2 ∨ j = g3 ∨ j = g4) w w' := by
  obtain ⟨W, hW⟩ : ∃ W, W = w.alloc (.cells #[.slice (some ⟨g1, 0, none⟩) n1 n1, .slice (some ⟨g2, 0, none⟩) n2 n2, .slice (some ⟨g3, 0, none⟩) n3 n3, .slice (some ⟨g4, 0, none⟩) n4 n4] 39) := ⟨_, rfl⟩
  have hb : Below w.heap.size w W := by rw [hW]; exact (Below.refl _ w).alloc (Nat.le_refl _) _
  have k0 : Blk 39 W w.heap.size [.slice (some ⟨g1, 0, none⟩) n1 n1, .slice (some ⟨g2, 0, none⟩) n2 n2, .slice (some ⟨g3, 0, none⟩) n3 n3, .slice (some ⟨g4, 0, none⟩) n4 n4] := by rw [hW]; exact Blk.new _ _ _
  have a1 := h1.below hb
  have a2 := h2.below hb
  have a3 := h3.below hb
  have a4 := h4.below hb
  have l1 := h1.lt
  have l2 := h2.lt
  have l3 := h3.lt
  have l4 := h4.lt
  have e13 := any_ne h1 h3 (by decide)
  have e14 := any_ne h1 h4 (by decide)
  have e23 := any_ne h2 h3 (by decide)
  have e24 := any_ne h2 h4 (by decide)
  have t0 : Tn (fun j => j = g1 ∨ j = g2 ∨ j = g3 ∨ j = g4) w W := ⟨hb.os, hb.tape, hb.output, hb.size, fun j hj _ _ => hb.block j hj⟩
  have C1 := mStr (k := 1) a1 b1 (by omega) (by omega)
  obtain ⟨m1, hm1⟩ : ∃ m, m = 1 + n1 := ⟨_, rfl⟩
  obtain ⟨m2, hm2⟩ : ∃ m, m = m1 + n2 := ⟨_, rfl⟩
  obtain ⟨m3, hm3⟩ : ∃ m, m = m2 + 3 * n3 := ⟨_, rfl⟩
  obtain ⟨m4, hm4⟩ : ∃ m, m = m3 + 3 * n4 := ⟨_, rfl⟩
  have HM : Hid (1 ≤ m1 ∧ m1 ≤ 1048577 ∧ m2 ≤ 2097153 ∧ 1 ≤ m2 ∧ m3 ≤ 5242881 ∧ 1 ≤ m3 ∧ m4 ≤ 9000000 ∧ 1 ≤ m4) := ⟨by omega, by omega, by omega, by omega, by omega, by omega, by omega, by omega⟩
  have HB : Hid (n2 ≤ 1048576 ∧ n3 ≤ 1048576 ∧ n4 ≤ 1048576) := ⟨b2, b3, b4⟩
  have HE : Hid (g1 ≠ g3 ∧ g1 ≠ g4 ∧ g2 ≠ g3 ∧ g2 ≠ g4 ∧ g1 ≠ w.heap.size ∧ g2 ≠ w.heap.size ∧ g3 ≠ w.heap.size ∧ g4 ≠ w.heap.size) := ⟨e13, e14, e23, e24, by omega, by omega, by omega, by omega⟩
  rw [← hm1] at C1
  have HS : Hid (m1 + n2 = m2 ∧ m2 + 3 * n3 = m3 ∧ m3 + 3 * n4 = m4) := ⟨hm2.symm, hm3.symm, hm4.symm⟩
  have HT0 : Hid (Tn (fun j => j = g1 ∨ j = g2 ∨ j = g3 ∨ j = g4) w W ∧ Any 9 Pg.encT W g1 n1 ∧ Any 9 Pg.encT W g2 n2 ∧ Any 92 encV W g3 n3 ∧ Any 92 encV W g4 n4) := ⟨t0, a1, a2, a3, a4⟩
  clear h1 h2 h3 h4 b1 b2 b3 b4 hb a1 a2 a3 a4 l1 l2 l3 l4 e13 e14 e23 e24 t0 hm1 hm2 hm3 hm4
  go_enter Tryz.func13, Tryz.ntmps13
  go_wp2_with (go_at_call 38; refine hold ?_)
  rw [← hW]
  clear hW
  refine C1.mono ?_
  clear C1
  rintro e w1 ⟨rfl, f1, T1⟩
  have k1 := blk_turned k0 T1 HE.out.2.2.2.2.1
  have HT1 : Hid (Tn (fun j => j = g1 ∨ j = g2 ∨ j = g3 ∨ j = g4) w w1 ∧ Any 9 Pg.encT w1 g2 n2 ∧ Any 92 encV w1 g3 n3 ∧ Any 92 encV w1 g4 n4) := ⟨HT0.out.1.of T1 (fun k e => .inl (own_slice _ _ _ k e)), Any.turn (m := 1) (by omega) (fun _ => rfl) HT0.out.2.1 f1 HT0.out.2.2.1 T1 (own_slice _ _ _), HT0.out.2.2.2.1.kind T1 (own_ne HE.out.1), HT0.out.2.2.2.2.kind T1 (own_ne HE.out.2.1)⟩
  have C2 := mStr (k := m1) HT1.out.2.1 HB.out.1 HM.out.1 (by have := HM.out.2.1; omega)
  rw [HS.out.1] at C2
  have y1 := k1.cell 1 rfl
  clear f1 T1 k0 HT0
  go_wp2_with (go_at_call 38; refine hold ?_)
  refine C2.mono ?_
  clear C2 y1
  rintro e w2 ⟨rfl, f2, T2⟩
  have k2 := blk_turned k1 T2 HE.out.2.2.2.2.2.1
  have HT2 : Hid (Tn (fun j => j = g1 ∨ j = g2 ∨ j = g3 ∨ j = g4) w w2 ∧ Any 92 encV w2 g3 n3 ∧ Any 92 encV w2 g4 n4) := ⟨HT1.out.1.of T2 (fun k e => .inr (.inl (own_slice _ _ _ k e))), HT1.out.2.2.1.kind T2 (own_ne HE.out.2.2.1), HT1.out.2.2.2.kind T2 (own_ne HE.out.2.2.2.1)⟩
  have C3 := mOps (k := m2) HT2.out.2.1 HB.out.2.1 HM.out.2.2.2.1 (by have := HM.out.2.2.1; omega)
  rw [HS.out.2.1] at C3
  have y2 := k2.cell 2 rfl
  clear f2 T2 k1 HT1
  go_wp2_with (go_at_call 39; refine hold ?_)
  refine C3.mono ?_
  clear C3 y2
  rintro e w3 ⟨rfl, f3, T3⟩
  have k3 := blk_turned k2 T3 HE.out.2.2.2.2.2.2.1
  have HT3 : Hid (Tn (fun j => j = g1 ∨ j = g2 ∨ j = g3 ∨ j = g4) w w3 ∧ Any 92 encV w3 g4 n4) := ⟨HT2.out.1.of T3 (fun k e => .inr (.inr (.inl (own_slice _ _ _ k e)))), Any.turn (m := 3) (by omega) St.encV_len HT2.out.2.1 f3 HT2.out.2.2 T3 (own_slice _ _ _)⟩
  have C4 := mOps (k := m3) HT3.out.2 HB.out.2.2 HM.out.2.2.2.2.2.1 (by have := HM.out.2.2.2.2.1; omega)
  rw [HS.out.2.2] at C4
  have y3 := k3.cell 3 rfl
  clear f3 T3 k2 HT2
  go_wp2_with (go_at_call 39; refine hold ?_)
  refine C4.mono ?_
  clear C4 y3
  rintro e w4 ⟨rfl, f4, T4⟩
  have HT4 : Hid (Tn (fun j => j = g1 ∨ j = g2 ∨ j = g3 ∨ j = g4) w w4) := HT3.out.1.of T4 (fun k e => .inr (.inr (.inr (own_slice _ _ _ k e))))
  clear f4 T4 k3 HT3
  go_wp2_with fail
  go_ret
  exact ⟨m4, rfl, HM.out.2.2.2.2.2.2.2, HM.out.2.2.2.2.2.2.1, HT4.out⟩

set_option maxHeartbeats 2000000 in
set_option maxRecDepth 100000 in
theorem wMarkState {g1 g2 n1 n2 k : Nat} {nr er : Int} {w : World} (h1 : Any 67 encV w g1 n1) (h2 : Any 71 encC w g2 n2) (b1 : n1 ≤ 1048576) (b2 : n2 ≤ 1048576) (hk : 1 ≤ k) (hk2 : k ≤ 9000000) :
    Calls Tryz.prog 40 #[.agg #[.slice (some ⟨g1, 0, none⟩) n1 n1, .slice (some ⟨g2, 0, none⟩) n2 n2, .int .i64 nr, .int .i64 er], .int .i64 k] w fun e w' => ∃ k : Nat, e = .returned (.int .i64 k) ∧ 1 ≤ k ∧ k ≤ 18000000 ∧ Tn (fun j => j = g1 ∨ j = g2) w w' := by
  obtain ⟨W, hW⟩ : ∃ W, W = w.alloc (.cells #[.slice (some ⟨g1, 0, none⟩) n1 n1, .slice (some ⟨g2, 0, none⟩) n2 n2, .int .i64 nr, .int .i64 er] 44) := ⟨_, rfl⟩
  have hb : Below w.heap.size w W := by rw [hW]; exact (Below.refl _ w).alloc (Nat.le_refl _) _
  have k0 : Blk 44 W w.heap.size [.slice (some ⟨g1, 0, none⟩) n1 n1, .slice (some ⟨g2, 0, none⟩) n2 n2, .int .i64 nr, .int .i64 er] := by rw [hW]; exact Blk.new _ _ _
  have a1 := h1.below hb
  have a2 := h2.below hb
  have l1 := h1.lt
  have e12 := any_ne h1 h2 (by decide)
  have e1 : g1 ≠ w.heap.size := by omega
  have t0 : Tn (fun j => j = g1 ∨ j = g2) w W := ⟨hb.os, hb.tape, hb.output, hb.size, fun j hj _ _ => hb.block j hj⟩
  have C1 := mVals (k := k) a1 b1 hk (by omega)
  obtain ⟨m1, hm1⟩ : ∃ m, m = k + 3 * n1 := ⟨_, rfl⟩
  obtain ⟨m2, hm2⟩ : ∃ m, m = m1 + 5 * n2 := ⟨_, rfl⟩
  have HM : Hid (1 ≤ m1 ∧ m1 ≤ 12145728 ∧ 1 ≤ m2 ∧ m2 ≤ 18000000) := ⟨by omega, by omega, by omega, by omega⟩
  rw [← hm1] at C1
  have HS : Hid (m1 + 5 * n2 = m2) := hm2.symm
  have HB : Hid (n2 ≤ 1048576) := b2
  have HT0 : Hid (Tn (fun j => j = g1 ∨ j = g2) w W ∧ Any 71 encC W g2 n2 ∧ g1 ≠ g2 ∧ g1 ≠ w.heap.size) := ⟨t0, a2, e12, e1⟩
  have kb : (k : Int) ≤ 9000000 := by omega
  clear h1 h2 b1 b2 hb a1 a2 l1 e12 e1 t0 hm1 hm2 hk hk2
  go_enter Tryz.func40, Tryz.ntmps40
  go_wp2_with (go_at_call 62; refine hold ?_)
  rw [← hW]
  clear hW
  refine C1.mono ?_
  clear C1
  rintro e w1 ⟨rfl, T1⟩
  have k1 := blk_turned k0 T1 HT0.out.2.2.2
  have HT1 : Hid (Tn (fun j => j = g1 ∨ j = g2) w w1 ∧ Any 71 encC w1 g2 n2) := ⟨HT0.out.1.of T1 (fun k e => .inl (own_slice _ _ _ k e)), HT0.out.2.1.kind T1 (own_ne HT0.out.2.2.1)⟩
  have C2 := mCells (k := m1) HT1.out.2 HB.out HM.out.1 (by have := HM.out.2.1; omega)
  rw [HS.out] at C2
  have y1 := k1.cell 1 rfl
  clear T1 k0 HT0
  go_wp2_with (go_at_call 63; refine hold ?_)
  refine C2.mono ?_
  clear C2 y1
  rintro e w2 ⟨rfl, T2⟩
  have HT2 : Hid (Tn (fun j => j = g1 ∨ j = g2) w w2) := HT1.out.1.of T2 (fun k e => .inr (own_slice _ _ _ k e))
  clear T2 k1 HT1
  go_wp2_with fail
  go_ret
  exact ⟨m2, rfl, HM.out.2.2.1, HM.out.2.2.2, HT2.out⟩

set_option maxHeartbeats 2000000 in
set_option maxRecDepth 100000 in
theorem wMarkMach {g1 g2 g3 n1 n2 n3 k : Nat} {nr er : Int} {out : ByteArray} {w : World} (h1 : Any 67 encV w g1 n1) (h2 : Any 71 encC w g2 n2) (h3 : Any 3 Pg.encI w g3 n3) (b1 : n1 ≤ 1048576) (b2 : n2 ≤ 1048576) (b3 : n3 ≤ 1048576) (hk : 1 ≤ k) (hk2 : k ≤ 9000000) :
    Calls Tryz.prog 14 #[.agg #[.slice (some ⟨g1, 0, none⟩) n1 n1, .slice (some ⟨g2, 0, none⟩) n2 n2, .int .i64 nr, .int .i64 er, .slice (some ⟨g3, 0, none⟩) n3 n3, .string out], .int .i64 k] w fun e w' => ∃ k : Nat, e = .returned (.int .i64 k) ∧ 1 ≤ k ∧ k ≤ 20000000 ∧ Tn (fun j => j = g1 ∨ j = g2 ∨ j = g3) w w' := by
  obtain ⟨W, hW⟩ : ∃ W, W = w.alloc (.cells #[.slice (some ⟨g1, 0, none⟩) n1 n1, .slice (some ⟨g2, 0, none⟩) n2 n2, .int .i64 nr, .int .i64 er, .slice (some ⟨g3, 0, none⟩) n3 n3, .string out] 46) := ⟨_, rfl⟩
  have hb : Below w.heap.size w W := by rw [hW]; exact (Below.refl _ w).alloc (Nat.le_refl _) _
  have k0 : Blk 46 W w.heap.size [.slice (some ⟨g1, 0, none⟩) n1 n1, .slice (some ⟨g2, 0, none⟩) n2 n2, .int .i64 nr, .int .i64 er, .slice (some ⟨g3, 0, none⟩) n3 n3, .string out] := by rw [hW]; exact Blk.new _ _ _
  have a1 := h1.below hb
  have a2 := h2.below hb
  have a3 := h3.below hb
  have l1 := h1.lt
  have l2 := h2.lt
  have e13 := any_ne h1 h3 (by decide)
  have e23 := any_ne h2 h3 (by decide)
  have t0 : Tn (fun j => j = g1 ∨ j = g2 ∨ j = g3) w W := ⟨hb.os, hb.tape, hb.output, hb.size, fun j hj _ _ => hb.block j hj⟩
  have C1 := wMarkState (nr := nr) (er := er) a1 a2 b1 b2 hk hk2
  have HB : Hid (n3 ≤ 1048576) := b3
  have HT0 : Hid (Tn (fun j => j = g1 ∨ j = g2 ∨ j = g3) w W ∧ Any 3 Pg.encI W g3 n3 ∧ (g1 ≠ g3 ∧ g2 ≠ g3) ∧ g1 ≠ w.heap.size ∧ g2 ≠ w.heap.size) := ⟨t0, a3, ⟨e13, e23⟩, by omega, by omega⟩
  have x0 := k0.cell 0 rfl
  have x1 := k0.cell 1 rfl
  have x2 := k0.cell 2 rfl
  have x3 := k0.cell 3 rfl
  have HW : Hid (W = w.alloc (.cells #[.slice (some ⟨g1, 0, none⟩) n1 n1, .slice (some ⟨g2, 0, none⟩) n2 n2, .int .i64 nr, .int .i64 er, .slice (some ⟨g3, 0, none⟩) n3 n3, .string out] 46)) := hW
  clear h1 h2 h3 b1 b2 b3 hb a1 a2 a3 l1 l2 e13 e23 t0 hk hk2 x0 x1 x2 x3
  go_enter Tryz.func14, Tryz.ntmps14
  go_wp2_with (go_at_call 40; refine hold ?_)
  rw [← hW]
  clear hW HW
  refine C1.mono ?_
  clear C1
  rintro e w1 ⟨m1, rfl, m1a, m1b, T1⟩
  have k1 := T1.blk k0 (by rintro (e | e); exact HT0.out.2.2.2.1 e.symm; exact HT0.out.2.2.2.2 e.symm)
  have a3 : Any 3 Pg.encI w1 g3 n3 := by
    obtain ⟨L, hL, hr⟩ := HT0.out.2.1
    exact ⟨L, hL, (T1.block g3 hr.lt (by rintro (e | e); exact HT0.out.2.2.1.1 e.symm; exact HT0.out.2.2.1.2 e.symm) (by simp [Value.ownBlock])).trans hr⟩
  have HT1 : Hid (Tn (fun j => j = g1 ∨ j = g2 ∨ j = g3) w w1) := ⟨T1.os.trans HT0.out.1.os, T1.tape.trans HT0.out.1.tape, T1.output.trans HT0.out.1.output, Nat.le_trans HT0.out.1.size T1.size, fun j hj hn he => (T1.block j (Nat.lt_of_lt_of_le hj HT0.out.1.size) (fun h => hn (h.elim .inl fun h => .inr (.inl h))) he).trans (HT0.out.1.block j hj hn he)⟩
  have C2 := mInts (k := m1) a3 HB.out m1a (by omega)
  have y4 := k1.cell 4 rfl
  obtain ⟨m2, hm2⟩ : ∃ m, m = m1 + n3 := ⟨_, rfl⟩
  have HM : Hid (1 ≤ m2 ∧ m2 ≤ 20000000) := ⟨by omega, by have := HB.out; omega⟩
  rw [← hm2] at C2
  clear T1 k0 HT0 a3 hm2 m1a m1b
  go_wp2_with (go_at_call 41; refine hold ?_)
  refine C2.mono ?_
  clear C2 y4
  rintro e w2 ⟨rfl, T2⟩
  have HT2 : Hid (Tn (fun j => j = g1 ∨ j = g2 ∨ j = g3) w w2) := HT1.out.of T2 (fun k e => .inr (.inr (own_slice _ _ _ k e)))
  clear T2 k1 HT1
  go_wp2_with fail
  go_ret
  exact ⟨m2, rfl, HM.out.1, HM.out.2, HT2.out⟩

end Mb
end Go.Proofs.YtkhoccjfkkfipaaGreatDoor
namespace Go.Proofs.YtkhoccjfkkfipaaGreatDoor
open Go.RowKit
namespace Bt
set_option linter.unusedSimpArgs false
set_option linter.unusedVariables false

/-- A list's first bytes of l, then those of m. -/
def mixB (k : Nat) (l m : List UInt8) : List UInt8 := l.take k ++ m.drop k
theorem mixB_zero (l m : List UInt8) : mixB 0 l m = m := by simp [mixB]
theorem mixB_all {l m : List UInt8} (h : l.length = m.length) : mixB m.length l m = l := by simp [mixB, ← h]
theorem mixB_len {k : Nat} {l m : List UInt8} (h : l.length = m.length) (hk : k ≤ m.length) : (mixB k l m).length = m.length := by simp [mixB]; omega
theorem mixB_next {l m : List UInt8} {k : Nat} (h : l.length = m.length) (hk : k < m.length) {x : UInt8} (hx : l[k]? = some x) : (mixB k l m).set k x = mixB (k + 1) l m := by
  have hkl : k < l.length := by omega
  apply List.ext_getElem?
  intro j
  rw [List.getElem?_set, mixB_len h (by omega)]
  unfold mixB
  by_cases e : k = j
  · subst e
    rw [if_pos rfl, if_pos hk, List.getElem?_append_left (by simp; omega), List.getElem?_take_of_lt (by omega), hx]
  · rw [if_neg e]
    by_cases h2 : j < k
    · rw [List.getElem?_append_left (by simp; omega), List.getElem?_append_left (by simp; omega), List.getElem?_take_of_lt h2, List.getElem?_take_of_lt (by omega)]
    · rw [List.getElem?_append_right (by simp; omega), List.getElem?_append_right (by simp; omega), List.getElem?_drop, List.getElem?_drop]
      simp only [List.length_take]
      congr 1
      omega

theorem Row.put {B : Nat} {w : World} {g cap : Nat} {L : List UInt8} (h : Row B w (some ⟨g, 0, none⟩) cap L) (k : Nat) (b : UInt8) : Row B (w.setCell ⟨g, k, none⟩ (.int .u8 (b.toNat : Int))) (some ⟨g, 0, none⟩) cap (L.set k b) := by
  have h2 : w.ownsRow B 5 1 (.slice (some ⟨g, 0, none⟩) L.length cap) L.length (Lib.byteCells L) := h
  have := (h2.stored k (.int .u8 (b.toNat : Int))).1
  unfold Row
  rw [List.length_set]
  have e : Lib.byteCells (L.set k b) = (Lib.byteCells L).set k (.int .u8 (b.toNat : Int)) := by simp [Lib.byteCells, List.map_set]
  rw [e]
  exact this
theorem Row.frozen {B : Nat} {w : World} {g cap : Nat} {L : List UInt8} (h : Row B w (some ⟨g, 0, none⟩) cap L) (k : Nat) : w.frozen? ⟨g, k, none⟩ = false := by
  have h2 : w.ownsRow B 5 1 (.slice (some ⟨g, 0, none⟩) L.length cap) L.length (Lib.byteCells L) := h
  exact h2.frozenAt k

set_option maxRecDepth 100000 in
theorem lEqByteS {a1 a2 : Option Addr} {c1 c2 : Nat} {L M : List UInt8} {w : World} (h1 : Rd w a1 L) (h2 : Rd w a2 M) (e : M = L) (hn : L.length ≤ 4000000) :
    Calls Tryz.prog 10 #[.slice a1 L.length c1, .slice a2 M.length c2] w fun e w' => e = .returned (.bool true) ∧ ∃ n, w' = w.drewN n := by
  subst e
  have bn : (M.length : Int) ≤ 4000000 := by omega
  go_enter Tryz.func10, Tryz.ntmps10
  go_wp2_with fail
  go_loopw [5] (fun i wr => ∃ k m : Nat, i = .int .i64 k ∧ k ≤ M.length ∧ wr = w.drewN m) (fun i _ => M.length - (intOf i).toNat)
  case atStart => exact ⟨0, 0, rfl, Nat.zero_le _, rfl⟩
  case round =>
    obtain ⟨k, m, rfl, hk, rfl⟩ := hrel
    by_cases hkl : k < M.length
    · obtain ⟨g1, o1, rfl, _, q1⟩ := h1 k M[k] (List.getElem?_eq_getElem hkl)
      obtain ⟨g2, o2, rfl, _, q2⟩ := h2 k M[k] (List.getElem?_eq_getElem hkl)
      generalize (M[k].toNat : Int) = x at q1 q2
      go_wp2_with fail
      go_quiet (fail)
      go_wp2_with fail
      go_roundw
      case rel => exact ⟨k + 1, _, by go_num, hkl, rfl⟩
      case measure => simp [intOf]; omega
    · obtain rfl : k = M.length := by omega
      go_wp2_with fail
      go_ret
      exact ⟨rfl, m, rfl⟩

/-- What is marked: numbers from k on, as bytes. -/
def marks (k n : Nat) : List UInt8 := (List.range n).map fun i => UInt8.ofNat (k + i)
theorem marks_len (k n : Nat) : (marks k n).length = n := by simp [marks]
theorem marks_get (k : Nat) {n i : Nat} (h : i < n) : (marks k n)[i]? = some (UInt8.ofNat (k + i)) := by simp [marks, h]

set_option maxRecDepth 100000 in
theorem lMarkByteS {B k : Nat} {ao : Option Addr} {cap : Nat} {L : List UInt8} {w : World} (h : Row B w ao cap L) (hB : B ≤ w.heap.size) (hn : L.length ≤ 4000000) (hk : k ≤ 8000000) :
    Calls Tryz.prog 15 #[.slice ao L.length cap, .int .i64 k] w fun e w' => e = .returned (.int .i64 ((k + L.length : Nat) : Int)) ∧ Row B w' ao cap (marks k L.length) ∧ Below B w w' := by
  have bn : (L.length : Int) ≤ 4000000 := by omega
  have bk : (k : Int) ≤ 8000000 := by omega
  have HB : Hid (B ≤ w.heap.size) := hB
  have hml : (marks k L.length).length = L.length := marks_len _ _
  have HML : Hid ((marks k L.length).length = L.length) := hml
  clear hB hml
  go_enter Tryz.func15, Tryz.ntmps15
  go_wp2_with fail
  go_loopw [1, 5] (fun kv iv wr => ∃ i : Nat, iv = .int .i64 i ∧ kv = .int .i64 ((k + i : Nat) : Int) ∧ i ≤ L.length ∧ Row B wr ao cap (mixB i (marks k L.length) L) ∧ Below B w wr) (fun _ iv _ => L.length - (intOf iv).toNat)
  case atStart => exact ⟨0, rfl, rfl, Nat.zero_le _, by rw [mixB_zero]; exact h, Below.refl _ _⟩
  case round =>
    clear h
    obtain ⟨i, rfl, rfl, hi, ho, hb⟩ := hrel
    by_cases hil : i < L.length
    · have HX := mixB_len HML.out hi
      obtain ⟨y, hy⟩ : ∃ y, (mixB i (marks k L.length) L)[i]? = some y := ⟨_, List.getElem?_eq_getElem (by rw [HX]; exact hil)⟩
      obtain ⟨g, o, rfl, hgl, q0⟩ := ho.rd i y hy
      obtain ⟨g', c', cur, e', hgB, _⟩ := ho.2.resolve_left (by rintro ⟨_, h0⟩; omega)
      have : o = 0 := by simp at e'; exact e'.1.2
      subst this
      have hgB2 := (ho.lt rfl).1
      rw [Nat.zero_add] at q0
      have fz := ho.frozen i
      obtain ⟨b, hbb⟩ : ∃ b : UInt8, b = UInt8.ofNat (k + i) := ⟨_, rfl⟩
      have hS := ho.put i b
      rw [mixB_next HML.out hil (by rw [hbb]; exact marks_get k hil)] at hS
      have HBN : Hid ((b.toNat : Int) = ((k + i : Nat) : Int) % 256) := by show _ = _; rw [hbb]; simp
      have HS : Hid (Row B (wr.setCell ⟨g, i, none⟩ (.int .u8 (((k + i : Nat) : Int) % 256))) (some ⟨g, 0, none⟩) cap (mixB (i + 1) (marks k L.length) L)) := by rw [← HBN.out]; exact hS
      obtain ⟨ki, hki⟩ : ∃ ki, ki = k + i := ⟨_, rfl⟩
      have HK : Hid (ki = k + i) := hki
      have bki : (ki : Int) ≤ 12000000 := by omega
      rw [← hki] at HS ⊢
      have HG : Hid (B ≤ g) := hgB2
      clear hS HBN hki e' hgB hgB2 HX hy
      go_wp2_with fail
      go_roundw
      case rel => exact ⟨i + 1, by go_num, by have := HK.out; congr 1; omega, hil, HS.out, hb.setCell HG.out _⟩
      case measure => simp [intOf]; omega
    · obtain rfl : i = L.length := by omega
      rw [mixB_all HML.out] at ho
      go_wp2_with fail
      go_ret
      exact ⟨rfl, ho, hb⟩

set_option maxRecDepth 100000 in
theorem lHeldByteS {k n cap : Nat} {ao : Option Addr} {w : World} (h : Rd w ao (marks k n)) (hn : n ≤ 4000000) (hk : k ≤ 8000000) :
    Calls Tryz.prog 16 #[.slice ao n cap, .int .i64 k] w fun e w' => e = .returned (.int .i64 ((k + n : Nat) : Int)) ∧ ∃ m, w' = w.drewN m := by
  have bn : (n : Int) ≤ 4000000 := by omega
  have bk : (k : Int) ≤ 8000000 := by omega
  go_enter Tryz.func16, Tryz.ntmps16
  go_wp2_with fail
  go_loopw [1, 5] (fun kv iv wr => ∃ i m : Nat, iv = .int .i64 i ∧ kv = .int .i64 ((k + i : Nat) : Int) ∧ i ≤ n ∧ wr = w.drewN m) (fun _ iv _ => n - (intOf iv).toNat)
  case atStart => exact ⟨0, 0, rfl, rfl, Nat.zero_le _, rfl⟩
  case round =>
    obtain ⟨i, m, rfl, rfl, hi, rfl⟩ := hrel
    by_cases hil : i < n
    · obtain ⟨g, o, rfl, hgl, q0⟩ := h i _ (marks_get k hil)
      have e : ((UInt8.ofNat (k + i)).toNat : Int) = ((k + i : Nat) : Int) % 256 := by simp
      rw [e] at q0
      obtain ⟨ki, hki⟩ : ∃ ki, ki = k + i := ⟨_, rfl⟩
      have HK : Hid (ki = k + i) := hki
      have bki : (ki : Int) ≤ 12000000 := by omega
      rw [← hki] at q0 ⊢
      clear hki e
      go_wp2_with fail
      go_roundw
      case rel => exact ⟨i + 1, m, by go_num, by have := HK.out; congr 1; omega, hil, rfl⟩
      case measure => simp [intOf]; omega
    · obtain rfl : i = n := by omega
      go_wp2_with fail
      go_ret
      exact ⟨rfl, m, rfl⟩

theorem row_made (w : World) (n : Nat) (hn : n ≤ 1048576) : Row w.heap.size (w.alloc (.cells (madeCells #[.int .u8 0] n) 5)) (some ⟨w.heap.size, 0, none⟩) n (List.replicate n 0) := by
  refine ⟨by simp [Lib.byteCells], .inr ⟨w.heap.size, n, madeCells #[.int .u8 0] n, ?_, Nat.le_refl _, heap_alloc_last _ _, ?_, by unfold maxLen; omega, ?_, ?_⟩⟩
  · simp
  · simp
  · have := congrArg List.length (toList_madeCells_one (.int .u8 0) n)
    simpa using this
  · rw [Nat.mul_one, toList_madeCells_one]
    simp [Lib.byteCells]

end Bt
end Go.Proofs.YtkhoccjfkkfipaaGreatDoor
