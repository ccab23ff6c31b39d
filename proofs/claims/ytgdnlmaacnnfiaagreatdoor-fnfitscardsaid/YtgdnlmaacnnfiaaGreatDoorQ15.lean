/-
  The program's NfaOf at what is parsed: how many places it tells.
  The program's NfaOf at what is right: the places that it tells.
  The program's NfaOk at the places of a pattern: they are right.
-/
import Derived.Test.YtgdnlmaacnnfiaaGreatDoorQ13
import Derived.Test.YtgdnlmaacnnfiaaGreatDoorQ14
import Derived.Deep.RegionHeld3
namespace Go.Proofs.YtgdnlmaacnnfiaaGreatDoor
open Go.RowKit
namespace Rx

mutual
theorem nl_le : ∀ t : Data, nl t + 2 ≤ 5 * cnt t
  | .slice ks lab => by
    have h := nls_le ks
    have h2 := cnts_len ks
    rw [nl, cnt]
    split
    · omega
    · split
      · omega
      · split
        · omega
        · split
          · omega
          · split <;> omega
  | .lit _ => by simp [nl, cnt]
  | .nil => by simp [nl, cnt]
  | .ptr _ => by simp [nl, cnt]
  | .agg _ => by simp [nl, cnt]
  | .iface _ _ => by simp [nl, cnt]
theorem nls_le : ∀ ks : List Data, nls ks + 2 * ks.length ≤ 5 * cnts ks
  | [] => by simp [nls, cnts]
  | t :: ts => by
    have h1 := nl_le t
    have h2 := nls_le ts
    simp [nls, cnts]
    omega
end

set_option maxHeartbeats 2000000 in
set_option maxRecDepth 100000 in
theorem iNfaOf {W : World} (hSet : SetOk W) {t : Data} (hR : RightD 12 t) (hc : cnt t ≤ 1000) (w : World) (hW : Below W.heap.size W w) (S : Nat → Prop) (a b c d u : Value) (h : RexIs w t S [a, b, c, d, u]) (hS : ∀ k, S k → k < w.heap.size) :
    Calls Tryz.prog 10 #[.agg #[a, b, c, d, u]] w fun e w' => ∃ ao cap, e = .returned (.slice ao (nl t + 1) cap) ∧ Below w.heap.size w w' := by
  have hnl := nl_le t
  obtain ⟨op, cc, ss, no, ao, n, cap, rfl, rfl, rfl, rfl, rfl⟩ := rex_cells h
  obtain ⟨o1, ho1⟩ : ∃ o1, o1 = Obj.cells #[.int .i64 op, .int .i64 cc, .string ⟨ss.toArray⟩, .bool no, .slice ao n cap] 26 := ⟨_, rfl⟩
  have hb1 : Below w.heap.size w (w.alloc o1) := (Below.refl _ w).alloc (Nat.le_refl _) _
  have hV1 : Var (w.alloc o1) w.heap.size (.int .i64 op) (.int .i64 cc) (.string ⟨ss.toArray⟩) (.bool no) (.slice ao n cap) := by rw [ho1]; exact heap_alloc_last _ _
  have hW1 : Below W.heap.size W (w.alloc o1) := hW.alloc hW.size _
  have call1 := iRexOk hSet hR hc (w.alloc o1) hW1 S _ _ _ _ _ (rex_frame _ _ _ (fun k hk => hb1.block k (hS k hk)) h) (fun k hk => Nat.lt_of_lt_of_le (hS k hk) hb1.size)
  have k0 := hV1.cell.1
  have k1 := hV1.cell.2.1
  have k2 := hV1.cell.2.2.1
  have k3 := hV1.cell.2.2.2.1
  have k4 := hV1.cell.2.2.2.2
  have hz1 : (w.alloc o1).heap.size = w.heap.size + 1 := World.size_alloc _ _
  subst ho1
  go_enter Tryz.func10, Tryz.ntmps10
  go_wp2_with fail
  refine call1.mono ?_
  rintro e w2 ⟨rfl, hb2⟩
  have hz2 := hb2.size
  have hV2 := hV1.kept (hb2.block _ (by omega))
  have j0 := hV2.cell.1
  have j1 := hV2.cell.2.1
  have j2 := hV2.cell.2.2.1
  have j3 := hV2.cell.2.2.2.1
  have j4 := hV2.cell.2.2.2.2
  have hBw2 : Below w.heap.size w w2 := hb1.trans (hb2.mono (by omega))
  obtain ⟨o2, ho2⟩ : ∃ o2, o2 = Obj.cells #[.slice none 0 0] 63 := ⟨_, rfl⟩
  have hb3 : Below w.heap.size w (w2.alloc o2) := hBw2.alloc (by omega) _
  have hrow3 : (w2.alloc o2).heap[w2.heap.size]? = some (.cells #[.slice none 0 0] 63 (0, 0)) := by rw [ho2]; exact heap_alloc_last _ _
  have hz3 : (w2.alloc o2).heap.size = w2.heap.size + 1 := World.size_alloc _ _
  have call2 := iPatternOf hSet 12 t hR (by omega) (by omega) (w2.alloc o2) S _ _ _ _ _ (hW.trans (hb3.mono hW.size)) (rex_frame _ _ _ (fun k hk => hb3.block k (hS k hk)) h) (fun k hk => Nat.lt_of_lt_of_le (hS k hk) hb3.size)
  have hlt1 : w.heap.size < w2.heap.size := by omega
  subst ho2
  go_wp2_with fail
  refine call2.mono ?_
  rintro e w4 ⟨v, rfl, hv, hb4⟩
  have hz4 := hb4.size
  obtain ⟨Tv, yv, rfl⟩ := pat_iface hv
  have hrow4 := (hb4.block w2.heap.size (by omega)).trans hrow3
  have hPL : PL w4.heap.size w2.heap.size 0 w4 := ⟨none, 0, [], by rw [cell_of_row _ _ 0 _ _ (0, 0) hrow4]; rfl, by simp [World.frozen?, hrow4], World.ownsRow_nil _ _ _ _⟩
  have hp : w2.heap.size < w4.heap.size := by omega
  have call3 := iPutPattern hp (fun ks hl hk w n S u xs a1 a2 a3 a4 a5 a6 a7 => iPutOneOf hp ks hl hk w n S u xs a1 a2 a3 a4 a5 a6 a7) 12 t hR w4 0 _ _ hPL (Nat.le_refl _) hv (fun k hk => ⟨hk.2, by have := hk.1; omega⟩) (by omega)
  have hBw4 : Below w.heap.size w w4 := hb3.trans (hb4.mono (by omega))
  go_wp2_with fail
  refine call3.mono ?_
  rintro e w5 ⟨rfl, hP5, hC5⟩
  have hz5 := hC5.size
  go_wp2_with fail
  refine (iPut hP5 hp (by omega) (by omega) _ _ _ _ _ _).mono ?_
  rintro e w6 ⟨rfl, hP6, hC6⟩
  have hC := hC5.trans hC6
  obtain ⟨aq, cq, xq, c1, c2, c3⟩ := hP6
  rw [Nat.zero_add] at c1
  go_wp2_with fail
  go_ret
  refine ⟨aq, cq, rfl, hBw4.trans ⟨hC.os, hC.tape, hC.output, hC.size, fun k hk => hC.block k (by omega) (by omega)⟩⟩

end Rx
end Go.Proofs.YtgdnlmaacnnfiaaGreatDoor

namespace Go.Proofs.YtgdnlmaacnnfiaaGreatDoor
open Go.RowKit
namespace Nf
set_option linter.unusedVariables false
open Rx Clo

set_option maxHeartbeats 2000000 in
set_option maxRecDepth 100000 in
theorem iNfaOfC {W : World} (hSet : SetOk W) {t : Data} (hR : RightD 12 t) (hc : cnt t ≤ 1000) (w : World) (hW : Below W.heap.size W w) (S : Nat → Prop) (a b c d u : Value) (h : RexIs w t S [a, b, c, d, u]) (hS : ∀ k, S k → k < w.heap.size) :
    Calls Tryz.prog 10 #[.agg #[a, b, c, d, u]] w fun e w' => ∃ ao cap P xs, e = .returned (.slice ao (nl t + 1) cap) ∧ w'.ownsRow 0 67 6 (.slice ao (nl t + 1) cap) (nl t + 1) xs ∧ Cs6 xs P (nl t + 1) ∧ At P 12 t 0 ∧ P (nl t) = doneP ∧ Below w.heap.size w w' := by
  have hnl := nl_le t
  obtain ⟨op, cc, ss, no, ao, n, cap, rfl, rfl, rfl, rfl, rfl⟩ := rex_cells h
  obtain ⟨o1, ho1⟩ : ∃ o1, o1 = Obj.cells #[.int .i64 op, .int .i64 cc, .string ⟨ss.toArray⟩, .bool no, .slice ao n cap] 26 := ⟨_, rfl⟩
  have hb1 : Below w.heap.size w (w.alloc o1) := (Below.refl _ w).alloc (Nat.le_refl _) _
  have hV1 : Var (w.alloc o1) w.heap.size (.int .i64 op) (.int .i64 cc) (.string ⟨ss.toArray⟩) (.bool no) (.slice ao n cap) := by rw [ho1]; exact heap_alloc_last _ _
  have hW1 : Below W.heap.size W (w.alloc o1) := hW.alloc hW.size _
  have call1 := iRexOk hSet hR hc (w.alloc o1) hW1 S _ _ _ _ _ (rex_frame _ _ _ (fun k hk => hb1.block k (hS k hk)) h) (fun k hk => Nat.lt_of_lt_of_le (hS k hk) hb1.size)
  have k0 := hV1.cell.1
  have k1 := hV1.cell.2.1
  have k2 := hV1.cell.2.2.1
  have k3 := hV1.cell.2.2.2.1
  have k4 := hV1.cell.2.2.2.2
  have hz1 : (w.alloc o1).heap.size = w.heap.size + 1 := World.size_alloc _ _
  subst ho1
  go_enter Tryz.func10, Tryz.ntmps10
  go_wp2_with fail
  refine call1.mono ?_
  rintro e w2 ⟨rfl, hb2⟩
  have hz2 := hb2.size
  have hV2 := hV1.kept (hb2.block _ (by omega))
  have j0 := hV2.cell.1
  have j1 := hV2.cell.2.1
  have j2 := hV2.cell.2.2.1
  have j3 := hV2.cell.2.2.2.1
  have j4 := hV2.cell.2.2.2.2
  have hBw2 : Below w.heap.size w w2 := hb1.trans (hb2.mono (by omega))
  obtain ⟨o2, ho2⟩ : ∃ o2, o2 = Obj.cells #[.slice none 0 0] 63 := ⟨_, rfl⟩
  have hb3 : Below w.heap.size w (w2.alloc o2) := hBw2.alloc (by omega) _
  have hrow3 : (w2.alloc o2).heap[w2.heap.size]? = some (.cells #[.slice none 0 0] 63 (0, 0)) := by rw [ho2]; exact heap_alloc_last _ _
  have hz3 : (w2.alloc o2).heap.size = w2.heap.size + 1 := World.size_alloc _ _
  have call2 := iPatternOf hSet 12 t hR (by omega) (by omega) (w2.alloc o2) S _ _ _ _ _ (hW.trans (hb3.mono hW.size)) (rex_frame _ _ _ (fun k hk => hb3.block k (hS k hk)) h) (fun k hk => Nat.lt_of_lt_of_le (hS k hk) hb3.size)
  have hlt1 : w.heap.size < w2.heap.size := by omega
  subst ho2
  go_wp2_with fail
  refine call2.mono ?_
  rintro e w4 ⟨v, rfl, hv, hb4⟩
  have hz4 := hb4.size
  obtain ⟨Tv, yv, rfl⟩ := pat_iface hv
  have hrow4 := (hb4.block w2.heap.size (by omega)).trans hrow3
  have hPC : PC w4.heap.size w2.heap.size 0 (fun _ => doneP) w4 := ⟨none, 0, [], by rw [cell_of_row _ _ 0 _ _ (0, 0) hrow4]; rfl, by simp [World.frozen?, hrow4], World.ownsRow_nil _ _ _ _, fun k j hk _ => by omega⟩
  have hp : w2.heap.size < w4.heap.size := by omega
  have call3 := iPutPatternC hp (fun d ks hl hk w n P S u xs a1 a2 a3 a4 a5 a6 a7 => iPutOneOfC hp d ks hl hk w n P S u xs a1 a2 a3 a4 a5 a6 a7) 12 t hR w4 0 _ _ _ hPC (Nat.le_refl _) hv (fun k hk => ⟨hk.2, by have := hk.1; omega⟩) (by omega)
  have hBw4 : Below w.heap.size w w4 := hb3.trans (hb4.mono (by omega))
  go_wp2_with fail
  refine call3.mono ?_
  rintro e w5 ⟨rfl, ⟨P5, hP5, hM5⟩, hC5⟩
  have HM5 := (show Hid _ from hM5)
  clear hM5
  have hz5 := hC5.size
  go_wp2_with fail
  refine (iPutC hP5 hp (by omega) (by omega) _ _ _ _ _ _).mono ?_
  rintro e w6 ⟨rfl, hP6, hC6⟩
  have hC := hC5.trans hC6
  rw [Nat.zero_add] at hP6
  obtain ⟨aq, cq, xq, c1, c2, c3, c4⟩ := hP6
  have HX : Hid (Cs6 xq (upd P5 (nl t) doneP) (nl t + 1)) := c4
  clear c4
  go_wp2_with fail
  go_ret
  have hM5 := HM5.out
  refine ⟨aq, cq, _, xq, rfl, Rx.owns_base c3 (Nat.zero_le _), HX.out, at_congr 12 t 0 hM5.2 fun i a b => upd_other _ _ (by omega), upd_same _ _ _, hBw4.trans ⟨hC.os, hC.tape, hC.output, hC.size, fun k hk => hC.block k (by omega) (by omega)⟩⟩


end Nf
end Go.Proofs.YtgdnlmaacnnfiaaGreatDoor

namespace Go.Proofs.YtgdnlmaacnnfiaaGreatDoor
open Go.RowKit
namespace Nf
set_option linter.unusedVariables false
open Rx Clo

theorem below_drew1 {B : Nat} {W w : World} (h : Below B W w) : Below B W w.drew := ⟨h.os, h.tape, h.output, h.size, h.block⟩
def aggP (x : Pl) : Value := .agg #[.int .i64 x.op, .int .i64 x.c, .string x.set, .bool x.no, .int .i64 x.a, .int .i64 x.b]

theorem isPlaceT (a N : Nat) (h : a < N) (w : World) : Calls Tryz.prog 41 #[.int .i64 a, .int .i64 N] w fun e w' => e = .returned (.bool true) ∧ w' = w := by
  have := iIsPlace (a : Int) N w
  rwa [inB_iff.2 ⟨by omega, by omega⟩] at this

set_option maxRecDepth 100000 in
set_option maxHeartbeats 1000000 in
theorem iRightC {E N : Nat} (hE : E < N) (x : Pl) (h : Good E x) (w : World) :
    Calls Tryz.prog 33 #[aggP x, .int .i64 N] w fun e w' => e = .returned (.bool true) ∧ Below w.heap.size w w' := by
  have hb : ∀ o o', Below w.heap.size w ((w.alloc o).alloc o') := fun o o' => ((Below.refl _ w).alloc (Nat.le_refl _) o).alloc (by simp) o'
  have z := isPlaceT 0 N (by omega)
  rw [show ((0 : Nat) : Int) = 0 from rfl] at z
  rcases h with ⟨c, rfl⟩ | rfl | ⟨s, no, rfl, hs⟩ | rfl | rfl | ⟨a, ha, rfl⟩ | ⟨a, b, ha, hb', rfl⟩
  · unfold aggP byteP
    go_enter Tryz.func33, Tryz.ntmps33
    go_wp2_with (go_at_call 41; with_reducible refine (z _).mono ?_; rintro e w2 ⟨rfl, hw⟩; have hw := hw.symm; subst hw)
    go_ret
    exact ⟨rfl, hb _ _⟩
  · unfold aggP anyP
    go_enter Tryz.func33, Tryz.ntmps33
    go_wp2_with (go_at_call 41; with_reducible refine (z _).mono ?_; rintro e w2 ⟨rfl, hw⟩; have hw := hw.symm; subst hw)
    go_ret
    exact ⟨rfl, hb _ _⟩
  · unfold aggP setP
    go_enter Tryz.func33, Tryz.ntmps33
    go_wp2_with fail
    go_region
    all_goals go_wp2_with (go_at_call 41; with_reducible refine (z _).mono ?_; rintro e w2 ⟨rfl, hw⟩; have hw := hw.symm; subst hw)
    all_goals go_ret
    all_goals exact ⟨rfl, below_drew1 (hb _ _)⟩
  · unfold aggP startP
    go_enter Tryz.func33, Tryz.ntmps33
    go_wp2_with (go_at_call 41; with_reducible refine (z _).mono ?_; rintro e w2 ⟨rfl, hw⟩; have hw := hw.symm; subst hw)
    go_ret
    exact ⟨rfl, hb _ _⟩
  · unfold aggP endP
    go_enter Tryz.func33, Tryz.ntmps33
    go_wp2_with (go_at_call 41; with_reducible refine (z _).mono ?_; rintro e w2 ⟨rfl, hw⟩; have hw := hw.symm; subst hw)
    go_ret
    exact ⟨rfl, hb _ _⟩
  · have za := isPlaceT a N (by omega)
    unfold aggP jumpP
    go_enter Tryz.func33, Tryz.ntmps33
    go_wp2_with (first | (go_at_call 41; with_reducible refine (z _).mono ?_; rintro e w2 ⟨rfl, hw⟩; have hw := hw.symm; subst hw) | (go_at_call 41; with_reducible refine (za _).mono ?_; rintro e w2 ⟨rfl, hw⟩; have hw := hw.symm; subst hw))
    go_ret
    exact ⟨rfl, hb _ _⟩
  · have za := isPlaceT a N (by omega)
    have zb := isPlaceT b N (by omega)
    unfold aggP forkP
    go_enter Tryz.func33, Tryz.ntmps33
    go_wp2_with fail
    go_region
    all_goals go_wp2_with (first | (go_at_call 41; with_reducible refine (za _).mono ?_; rintro e w2 ⟨rfl, hw⟩; have hw := hw.symm; subst hw) | (go_at_call 41; with_reducible refine (zb _).mono ?_; rintro e w2 ⟨rfl, hw⟩; have hw := hw.symm; subst hw))
    all_goals go_ret
    all_goals exact ⟨rfl, below_drew1 (hb _ _)⟩

/-- The places P, n of them, are read from block g on. -/
def Pr (g n : Nat) (P : Nat → Pl) (w : World) : Prop := g < w.heap.size ∧ ∀ k j, k < n → j < 6 → w.cell? ⟨g, k * 6 + j, none⟩ = some (cellP (P k) j)
theorem Pr.on {g n : Nat} {P : Nat → Pl} {w w' : World} (h : Pr g n P w) (hb : w'.heap[g]? = w.heap[g]?) (hl : g < w'.heap.size) : Pr g n P w' :=
  ⟨hl, fun k j hk hj => (World.cell?_of_block (a := ⟨g, k * 6 + j, none⟩) hb).trans (h.2 k j hk hj)⟩
theorem Pr.below {g n : Nat} {P : Nat → Pl} {w w' : World} (h : Pr g n P w) (hb : Below w.heap.size w w') : Pr g n P w' := h.on (hb.block g h.1) (Nat.lt_of_lt_of_le h.1 hb.size)
theorem Pr.cells {g n : Nat} {P : Nat → Pl} {w : World} (h : Pr g n P w) {k : Nat} (hk : k < n) : w.cell? ⟨g, k * 6, none⟩ = some (.int .i64 (P k).op) ∧ w.cell? ⟨g, k * 6 + 1, none⟩ = some (.int .i64 (P k).c) ∧ w.cell? ⟨g, k * 6 + 2, none⟩ = some (.string (P k).set) ∧ w.cell? ⟨g, k * 6 + 3, none⟩ = some (.bool (P k).no) ∧ w.cell? ⟨g, k * 6 + 4, none⟩ = some (.int .i64 (P k).a) ∧ w.cell? ⟨g, k * 6 + 5, none⟩ = some (.int .i64 (P k).b) :=
  ⟨h.2 k 0 hk (by omega), h.2 k 1 hk (by omega), h.2 k 2 hk (by omega), h.2 k 3 hk (by omega), h.2 k 4 hk (by omega), h.2 k 5 hk (by omega)⟩
theorem pr_owns {w : World} {B n cap : Nat} {ao : Option Addr} {xs : List Value} {P : Nat → Pl} (h : w.ownsRow B 67 6 (.slice ao n cap) n xs) (hx : Cs6 xs P n) (hn : 0 < n) : ∃ g, ao = some ⟨g, 0, none⟩ ∧ Pr g n P w ∧ n ≤ cap ∧ cap ≤ maxLen := by
  rcases h.2 with ⟨_, h0⟩ | ⟨g, cap', cur, he, hg, _, h1, h2, _⟩
  · omega
  · simp at he
    obtain ⟨rfl, rfl⟩ := he
    refine ⟨g, rfl, ⟨(h.lt g rfl).2, fun k j hk hj => ?_⟩, h1, h2⟩
    rw [h.cellAt _ (by have := h.1; omega)]
    exact hx k j hk hj

set_option maxRecDepth 100000 in
set_option maxHeartbeats 1000000 in
theorem iNfaOkC {g M cap : Nat} {P : Nat → Pl} (hM : M + 1 ≤ 400) (hcap : M + 1 ≤ cap) (hG : ∀ k, k < M → Good M (P k)) (hD : P M = doneP) (w : World) (h : Pr g (M + 1) P w) :
    Calls Tryz.prog 12 #[.slice (some ⟨g, 0, none⟩) (M + 1) cap] w fun e w' => e = .returned (.bool true) ∧ Below w.heap.size w w' := by
  have hMI : (M : Int) + 1 ≤ 400 := by omega
  have hMc : M ≤ cap := by omega
  have hgl := h.1
  have d1 : decide ((400 : Int) < (M : Int) + 1) = false := decide_eq_false (by omega)
  have d2 : ((M : Int) + 1 == 0) = false := by simp; omega
  have cR := fun k (hk : k < M) (wx : World) => iRightC (E := M) (N := M + 1) (by omega) (P k) (hG k hk) wx
  unfold aggP at cR
  go_enter Tryz.func12, Tryz.ntmps12
  go_wp2_with fail
  go_loopw [22] (fun i wr => ∃ k : Nat, i = .int .i64 k ∧ k ≤ M ∧ Below w.heap.size w wr) (fun i _ => M - (intOf i).toNat)
  case atStart => exact ⟨0, rfl, Nat.zero_le _, Below.refl _ _⟩
  case round =>
    obtain ⟨k, rfl, hk, hb⟩ := hrel
    have hr := h.below hb
    by_cases hkM : k < M
    · obtain ⟨c0, c1, c2, c3, c4, c5⟩ := hr.cells (k := k) (by omega)
      have call := cR k hkM
      have hkI : (k : Int) < M := by omega
      have hz := hb.size
      clear cR h hr
      obtain ⟨op, hop⟩ : ∃ op, op = (P k).op := ⟨_, rfl⟩
      obtain ⟨c, hc⟩ : ∃ c, c = (P k).c := ⟨_, rfl⟩
      obtain ⟨s, hs⟩ : ∃ s, s = (P k).set := ⟨_, rfl⟩
      obtain ⟨no, hno⟩ : ∃ no, no = (P k).no := ⟨_, rfl⟩
      obtain ⟨a, ha⟩ : ∃ a, a = (P k).a := ⟨_, rfl⟩
      obtain ⟨b, hb2⟩ : ∃ b, b = (P k).b := ⟨_, rfl⟩
      rw [← hop] at c0 call
      rw [← hc] at c1 call
      rw [← hs] at c2 call
      rw [← hno] at c3 call
      rw [← ha] at c4 call
      rw [← hb2] at c5 call
      clear hop hc hs hno ha hb2
      go_wp2_with (go_at_call 33; refine (call _).mono ?_; rintro e w2 ⟨rfl, hb2⟩)
      go_roundw
      case rel => exact ⟨k + 1, by go_num, by omega, (hb.alloc hz _).trans (hb2.mono (by simp; omega))⟩
      case measure => simp [intOf]; omega
    · obtain rfl : k = M := by omega
      obtain ⟨c0, c1, c2, c3, c4, c5⟩ := hr.cells (k := k) (by omega)
      rw [hD] at c0 c1 c2 c3 c4 c5
      simp only [doneP] at c0 c1 c2 c3 c4 c5
      clear cR hr h
      go_wp2_with fail
      go_ret
      exact ⟨rfl, hb⟩

end Nf
end Go.Proofs.YtgdnlmaacnnfiaaGreatDoor

