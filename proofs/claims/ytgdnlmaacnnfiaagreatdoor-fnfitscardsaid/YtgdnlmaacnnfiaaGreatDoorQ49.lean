/-
  The program's NfaOf at what is right: the places that it tells.
  The program's NfaOk at the places of a pattern: they are right.
  The program's walk over a text along places: what it holds, and enter.
-/
import Derived.Test.YtgdnlmaacnnfiaaGreatDoorQ48
import Derived.Deep.RegionHeld3
import Derived.Deep.MidRow
namespace Go.Proofs.YtgdnlmaacnnfiaaGreatDoor
open Go.RowKit
namespace Nf
set_option linter.unusedVariables false
open Rx Clo

set_option maxHeartbeats 2000000 in
set_option maxRecDepth 100000 in
theorem iNfaOfC {W : World} (hSet : SetOk W) {t : Data} (hR : RightD 12 t) (hc : cnt t ≤ 1000) (w : World) (hW : Below W.heap.size W w) (S : Nat → Prop) (a b c d u : Value) (h : RexIs w t S [a, b, c, d, u]) (hS : ∀ k, S k → k < w.heap.size) :
    Calls Tryz.prog 10 #[.agg #[a, b, c, d, u]] w fun e w' => ∃ ao cap P xs, e = .returned (.slice ao (nl t + 1) cap) ∧ w'.ownsRow 0 67 6 (.slice ao (nl t + 1) cap) (nl t + 1) xs ∧ Cs6 xs P (nl t + 1) ∧ At P 12 t 0 ∧ P (nl t) = doneP ∧ Below w.heap.size w w' := by
  have hnl := nl_le t
  obtain ⟨op, cc, ss, no, ao, n, cap, rfl, rfl, rfl, rfl, rfl⟩ := rex_cells h
  obtain ⟨o1, ho1⟩ : ∃ o1, o1 = Obj.cells #[.int .i64 op, .int .i64 cc, .string ⟨ss.toArray⟩, .bool no, .slice ao n cap] 26 := ⟨_, rfl⟩
  have hb1 : Below w.heap.size w (w.alloc o1) := (Below.refl _ w).alloc (Nat.le_refl _) _
  have hV1 : Var (w.alloc o1) w.heap.size (.int .i64 op) (.int .i64 cc) (.string ⟨ss.toArray⟩) (.bool no) (.slice ao n cap) := by rw [ho1]; exact heap_alloc_last _ _
  have hW1 : Below W.heap.size W (w.alloc o1) := hW.alloc hW.size _
  have call1 := iRexOk hSet hR hc (w.alloc o1) hW1 S _ _ _ _ _ (rex_frame _ _ _ (fun k hk => hb1.block k (hS k hk)) h) (fun k hk => Nat.lt_of_lt_of_le (hS k hk) hb1.size)
  have k0 := hV1.cell.1
  have k1 := hV1.cell.2.1
  have k2 := hV1.cell.2.2.1
  have k3 := hV1.cell.2.2.2.1
  have k4 := hV1.cell.2.2.2.2
  have hz1 : (w.alloc o1).heap.size = w.heap.size + 1 := World.size_alloc _ _
  subst ho1
  go_enter Tryz.func10, Tryz.ntmps10
  go_wp2_with fail
  refine call1.mono ?_
  rintro e w2 ⟨rfl, hb2⟩
  have hz2 := hb2.size
  have hV2 := hV1.kept (hb2.block _ (by omega))
  have j0 := hV2.cell.1
  have j1 := hV2.cell.2.1
  have j2 := hV2.cell.2.2.1
  have j3 := hV2.cell.2.2.2.1
  have j4 := hV2.cell.2.2.2.2
  have hBw2 : Below w.heap.size w w2 := hb1.trans (hb2.mono (by omega))
  obtain ⟨o2, ho2⟩ : ∃ o2, o2 = Obj.cells #[.slice none 0 0] 63 := ⟨_, rfl⟩
  have hb3 : Below w.heap.size w (w2.alloc o2) := hBw2.alloc (by omega) _
  have hrow3 : (w2.alloc o2).heap[w2.heap.size]? = some (.cells #[.slice none 0 0] 63 (0, 0)) := by rw [ho2]; exact heap_alloc_last _ _
  have hz3 : (w2.alloc o2).heap.size = w2.heap.size + 1 := World.size_alloc _ _
  have call2 := iPatternOf hSet 12 t hR (by omega) (by omega) (w2.alloc o2) S _ _ _ _ _ (hW.trans (hb3.mono hW.size)) (rex_frame _ _ _ (fun k hk => hb3.block k (hS k hk)) h) (fun k hk => Nat.lt_of_lt_of_le (hS k hk) hb3.size)
  have hlt1 : w.heap.size < w2.heap.size := by omega
  subst ho2
  go_wp2_with fail
  refine call2.mono ?_
  rintro e w4 ⟨v, rfl, hv, hb4⟩
  have hz4 := hb4.size
  obtain ⟨Tv, yv, rfl⟩ := pat_iface hv
  have hrow4 := (hb4.block w2.heap.size (by omega)).trans hrow3
  have hPC : PC w4.heap.size w2.heap.size 0 (fun _ => doneP) w4 := ⟨none, 0, [], by rw [cell_of_row _ _ 0 _ _ (0, 0) hrow4]; rfl, by simp [World.frozen?, hrow4], World.ownsRow_nil _ _ _ _, fun k j hk _ => by omega⟩
  have hp : w2.heap.size < w4.heap.size := by omega
  have call3 := iPutPatternC hp (fun d ks hl hk w n P S u xs a1 a2 a3 a4 a5 a6 a7 => iPutOneOfC hp d ks hl hk w n P S u xs a1 a2 a3 a4 a5 a6 a7) 12 t hR w4 0 _ _ _ hPC (Nat.le_refl _) hv (fun k hk => ⟨hk.2, by have := hk.1; omega⟩) (by omega)
  have hBw4 : Below w.heap.size w w4 := hb3.trans (hb4.mono (by omega))
  go_wp2_with fail
  refine call3.mono ?_
  rintro e w5 ⟨rfl, ⟨P5, hP5, hM5⟩, hC5⟩
  have HM5 := (show Hid _ from hM5)
  clear hM5
  have hz5 := hC5.size
  go_wp2_with fail
  refine (iPutC hP5 hp (by omega) (by omega) _ _ _ _ _ _).mono ?_
  rintro e w6 ⟨rfl, hP6, hC6⟩
  have hC := hC5.trans hC6
  rw [Nat.zero_add] at hP6
  obtain ⟨aq, cq, xq, c1, c2, c3, c4⟩ := hP6
  have HX : Hid (Cs6 xq (upd P5 (nl t) doneP) (nl t + 1)) := c4
  clear c4
  go_wp2_with fail
  go_ret
  have hM5 := HM5.out
  refine ⟨aq, cq, _, xq, rfl, Rx.owns_base c3 (Nat.zero_le _), HX.out, at_congr 12 t 0 hM5.2 fun i a b => upd_other _ _ (by omega), upd_same _ _ _, hBw4.trans ⟨hC.os, hC.tape, hC.output, hC.size, fun k hk => hC.block k (by omega) (by omega)⟩⟩


end Nf
end Go.Proofs.YtgdnlmaacnnfiaaGreatDoor

namespace Go.Proofs.YtgdnlmaacnnfiaaGreatDoor
open Go.RowKit
namespace Nf
set_option linter.unusedVariables false
open Rx Clo

theorem below_drew1 {B : Nat} {W w : World} (h : Below B W w) : Below B W w.drew := ⟨h.os, h.tape, h.output, h.size, h.block⟩
def aggP (x : Pl) : Value := .agg #[.int .i64 x.op, .int .i64 x.c, .string x.set, .bool x.no, .int .i64 x.a, .int .i64 x.b]

theorem isPlaceT (a N : Nat) (h : a < N) (w : World) : Calls Tryz.prog 41 #[.int .i64 a, .int .i64 N] w fun e w' => e = .returned (.bool true) ∧ w' = w := by
  have := iIsPlace (a : Int) N w
  rwa [inB_iff.2 ⟨by omega, by omega⟩] at this

set_option maxRecDepth 100000 in
set_option maxHeartbeats 1000000 in
theorem iRightC {E N : Nat} (hE : E < N) (x : Pl) (h : Good E x) (w : World) :
    Calls Tryz.prog 33 #[aggP x, .int .i64 N] w fun e w' => e = .returned (.bool true) ∧ Below w.heap.size w w' := by
  have hb : ∀ o o', Below w.heap.size w ((w.alloc o).alloc o') := fun o o' => ((Below.refl _ w).alloc (Nat.le_refl _) o).alloc (by simp) o'
  have z := isPlaceT 0 N (by omega)
  rw [show ((0 : Nat) : Int) = 0 from rfl] at z
  rcases h with ⟨c, rfl⟩ | rfl | ⟨s, no, rfl, hs⟩ | rfl | rfl | ⟨a, ha, rfl⟩ | ⟨a, b, ha, hb', rfl⟩
  · unfold aggP byteP
    go_enter Tryz.func33, Tryz.ntmps33
    go_wp2_with (go_at_call 41; with_reducible refine (z _).mono ?_; rintro e w2 ⟨rfl, hw⟩; have hw := hw.symm; subst hw)
    go_ret
    exact ⟨rfl, hb _ _⟩
  · unfold aggP anyP
    go_enter Tryz.func33, Tryz.ntmps33
    go_wp2_with (go_at_call 41; with_reducible refine (z _).mono ?_; rintro e w2 ⟨rfl, hw⟩; have hw := hw.symm; subst hw)
    go_ret
    exact ⟨rfl, hb _ _⟩
  · unfold aggP setP
    go_enter Tryz.func33, Tryz.ntmps33
    go_wp2_with fail
    go_region
    all_goals go_wp2_with (go_at_call 41; with_reducible refine (z _).mono ?_; rintro e w2 ⟨rfl, hw⟩; have hw := hw.symm; subst hw)
    all_goals go_ret
    all_goals exact ⟨rfl, below_drew1 (hb _ _)⟩
  · unfold aggP startP
    go_enter Tryz.func33, Tryz.ntmps33
    go_wp2_with (go_at_call 41; with_reducible refine (z _).mono ?_; rintro e w2 ⟨rfl, hw⟩; have hw := hw.symm; subst hw)
    go_ret
    exact ⟨rfl, hb _ _⟩
  · unfold aggP endP
    go_enter Tryz.func33, Tryz.ntmps33
    go_wp2_with (go_at_call 41; with_reducible refine (z _).mono ?_; rintro e w2 ⟨rfl, hw⟩; have hw := hw.symm; subst hw)
    go_ret
    exact ⟨rfl, hb _ _⟩
  · have za := isPlaceT a N (by omega)
    unfold aggP jumpP
    go_enter Tryz.func33, Tryz.ntmps33
    go_wp2_with (first | (go_at_call 41; with_reducible refine (z _).mono ?_; rintro e w2 ⟨rfl, hw⟩; have hw := hw.symm; subst hw) | (go_at_call 41; with_reducible refine (za _).mono ?_; rintro e w2 ⟨rfl, hw⟩; have hw := hw.symm; subst hw))
    go_ret
    exact ⟨rfl, hb _ _⟩
  · have za := isPlaceT a N (by omega)
    have zb := isPlaceT b N (by omega)
    unfold aggP forkP
    go_enter Tryz.func33, Tryz.ntmps33
    go_wp2_with fail
    go_region
    all_goals go_wp2_with (first | (go_at_call 41; with_reducible refine (za _).mono ?_; rintro e w2 ⟨rfl, hw⟩; have hw := hw.symm; subst hw) | (go_at_call 41; with_reducible refine (zb _).mono ?_; rintro e w2 ⟨rfl, hw⟩; have hw := hw.symm; subst hw))
    all_goals go_ret
    all_goals exact ⟨rfl, below_drew1 (hb _ _)⟩

/-- The places P, n of them, are read from block g on. -/
def Pr (g n : Nat) (P : Nat → Pl) (w : World) : Prop := g < w.heap.size ∧ ∀ k j, k < n → j < 6 → w.cell? ⟨g, k * 6 + j, none⟩ = some (cellP (P k) j)
theorem Pr.on {g n : Nat} {P : Nat → Pl} {w w' : World} (h : Pr g n P w) (hb : w'.heap[g]? = w.heap[g]?) (hl : g < w'.heap.size) : Pr g n P w' :=
  ⟨hl, fun k j hk hj => (World.cell?_of_block (a := ⟨g, k * 6 + j, none⟩) hb).trans (h.2 k j hk hj)⟩
theorem Pr.below {g n : Nat} {P : Nat → Pl} {w w' : World} (h : Pr g n P w) (hb : Below w.heap.size w w') : Pr g n P w' := h.on (hb.block g h.1) (Nat.lt_of_lt_of_le h.1 hb.size)
theorem Pr.cells {g n : Nat} {P : Nat → Pl} {w : World} (h : Pr g n P w) {k : Nat} (hk : k < n) : w.cell? ⟨g, k * 6, none⟩ = some (.int .i64 (P k).op) ∧ w.cell? ⟨g, k * 6 + 1, none⟩ = some (.int .i64 (P k).c) ∧ w.cell? ⟨g, k * 6 + 2, none⟩ = some (.string (P k).set) ∧ w.cell? ⟨g, k * 6 + 3, none⟩ = some (.bool (P k).no) ∧ w.cell? ⟨g, k * 6 + 4, none⟩ = some (.int .i64 (P k).a) ∧ w.cell? ⟨g, k * 6 + 5, none⟩ = some (.int .i64 (P k).b) :=
  ⟨h.2 k 0 hk (by omega), h.2 k 1 hk (by omega), h.2 k 2 hk (by omega), h.2 k 3 hk (by omega), h.2 k 4 hk (by omega), h.2 k 5 hk (by omega)⟩
theorem pr_owns {w : World} {B n cap : Nat} {ao : Option Addr} {xs : List Value} {P : Nat → Pl} (h : w.ownsRow B 67 6 (.slice ao n cap) n xs) (hx : Cs6 xs P n) (hn : 0 < n) : ∃ g, ao = some ⟨g, 0, none⟩ ∧ Pr g n P w ∧ n ≤ cap ∧ cap ≤ maxLen := by
  rcases h.2 with ⟨_, h0⟩ | ⟨g, cap', cur, he, hg, _, h1, h2, _⟩
  · omega
  · simp at he
    obtain ⟨rfl, rfl⟩ := he
    refine ⟨g, rfl, ⟨(h.lt g rfl).2, fun k j hk hj => ?_⟩, h1, h2⟩
    rw [h.cellAt _ (by have := h.1; omega)]
    exact hx k j hk hj

set_option maxRecDepth 100000 in
set_option maxHeartbeats 1000000 in
theorem iNfaOkC {g M cap : Nat} {P : Nat → Pl} (hM : M + 1 ≤ 400) (hcap : M + 1 ≤ cap) (hG : ∀ k, k < M → Good M (P k)) (hD : P M = doneP) (w : World) (h : Pr g (M + 1) P w) :
    Calls Tryz.prog 12 #[.slice (some ⟨g, 0, none⟩) (M + 1) cap] w fun e w' => e = .returned (.bool true) ∧ Below w.heap.size w w' := by
  have hMI : (M : Int) + 1 ≤ 400 := by omega
  have hMc : M ≤ cap := by omega
  have hgl := h.1
  have d1 : decide ((400 : Int) < (M : Int) + 1) = false := decide_eq_false (by omega)
  have d2 : ((M : Int) + 1 == 0) = false := by simp; omega
  have cR := fun k (hk : k < M) (wx : World) => iRightC (E := M) (N := M + 1) (by omega) (P k) (hG k hk) wx
  unfold aggP at cR
  go_enter Tryz.func12, Tryz.ntmps12
  go_wp2_with fail
  go_loopw [22] (fun i wr => ∃ k : Nat, i = .int .i64 k ∧ k ≤ M ∧ Below w.heap.size w wr) (fun i _ => M - (intOf i).toNat)
  case atStart => exact ⟨0, rfl, Nat.zero_le _, Below.refl _ _⟩
  case round =>
    obtain ⟨k, rfl, hk, hb⟩ := hrel
    have hr := h.below hb
    by_cases hkM : k < M
    · obtain ⟨c0, c1, c2, c3, c4, c5⟩ := hr.cells (k := k) (by omega)
      have call := cR k hkM
      have hkI : (k : Int) < M := by omega
      have hz := hb.size
      clear cR h hr
      obtain ⟨op, hop⟩ : ∃ op, op = (P k).op := ⟨_, rfl⟩
      obtain ⟨c, hc⟩ : ∃ c, c = (P k).c := ⟨_, rfl⟩
      obtain ⟨s, hs⟩ : ∃ s, s = (P k).set := ⟨_, rfl⟩
      obtain ⟨no, hno⟩ : ∃ no, no = (P k).no := ⟨_, rfl⟩
      obtain ⟨a, ha⟩ : ∃ a, a = (P k).a := ⟨_, rfl⟩
      obtain ⟨b, hb2⟩ : ∃ b, b = (P k).b := ⟨_, rfl⟩
      rw [← hop] at c0 call
      rw [← hc] at c1 call
      rw [← hs] at c2 call
      rw [← hno] at c3 call
      rw [← ha] at c4 call
      rw [← hb2] at c5 call
      clear hop hc hs hno ha hb2
      go_wp2_with (go_at_call 33; refine (call _).mono ?_; rintro e w2 ⟨rfl, hb2⟩)
      go_roundw
      case rel => exact ⟨k + 1, by go_num, by omega, (hb.alloc hz _).trans (hb2.mono (by simp; omega))⟩
      case measure => simp [intOf]; omega
    · obtain rfl : k = M := by omega
      obtain ⟨c0, c1, c2, c3, c4, c5⟩ := hr.cells (k := k) (by omega)
      rw [hD] at c0 c1 c2 c3 c4 c5
      simp only [doneP] at c0 c1 c2 c3 c4 c5
      clear cR hr h
      go_wp2_with fail
      go_ret
      exact ⟨rfl, hb⟩

end Nf
end Go.Proofs.YtgdnlmaacnnfiaaGreatDoor

namespace Go.Proofs.YtgdnlmaacnnfiaaGreatDoor
open Go.RowKit
namespace Nf
set_option linter.unusedVariables false
open Rx Clo

/-- The pieces of a row of places, each from fr on. -/
def pcs (fr : Int) : List Nat → List Value
  | [] => []
  | p :: L => .int .i64 fr :: .int .i64 (p : Int) :: pcs fr L
theorem pcs_len (fr : Int) : ∀ L : List Nat, (pcs fr L).length = L.length * 2
  | [] => rfl
  | p :: L => by simp [pcs, pcs_len fr L]; omega
theorem pcs_app (fr : Int) : ∀ (L L' : List Nat), pcs fr (L ++ L') = pcs fr L ++ pcs fr L'
  | [], L' => rfl
  | p :: L, L' => by simp [pcs, pcs_app fr L L']
theorem pcs_at (fr : Int) : ∀ (L : List Nat) (k p : Nat), L[k]? = some p → (pcs fr L)[k * 2]? = some (.int .i64 fr) ∧ (pcs fr L)[k * 2 + 1]? = some (.int .i64 (p : Int))
  | [], k, p, h => by simp at h
  | x :: L, 0, p, h => by simp at h; subst h; simp [pcs]
  | x :: L, k + 1, p, h => by
    have := pcs_at fr L k p (by simpa using h)
    rw [show (k + 1) * 2 = k * 2 + 1 + 1 by omega, pcs]
    simpa using this

/-- The row of the walk's pieces is at block k. -/
def RowAt4 (q : Nat) (w : World) (k : Nat) : Prop := ∃ v, w.cell? ⟨q, 402, none⟩ = some v ∧ Value.ownBlock v = some k
theorem rowAt4_is {q k : Nat} {w : World} {v : Value} (h : w.cell? ⟨q, 402, none⟩ = some v) : RowAt4 q w k ↔ Value.ownBlock v = some k := by
  constructor
  · rintro ⟨v', h1, h2⟩
    rw [h] at h1
    cases h1
    exact h2
  · exact fun h2 => ⟨v, h, h2⟩
/-- Nothing is turned but the walk, and the row of its pieces. -/
structure Ch4 (q : Nat) (w w' : World) : Prop where
  os : w'.os = w.os
  tape : w'.tape = w.tape
  output : w'.output = w.output
  size : w.heap.size ≤ w'.heap.size
  own : ∀ k, k < w.heap.size → k ≠ q → ¬ RowAt4 q w k → w'.heap[k]? = w.heap[k]? ∧ ¬ RowAt4 q w' k
theorem Ch4.refl (q : Nat) (w : World) : Ch4 q w w := ⟨rfl, rfl, rfl, Nat.le_refl _, fun _ _ _ h => ⟨rfl, h⟩⟩
theorem Ch4.trans {q : Nat} {a b c : World} (h : Ch4 q a b) (k : Ch4 q b c) : Ch4 q a c :=
  ⟨k.os.trans h.os, k.tape.trans h.tape, k.output.trans h.output, Nat.le_trans h.size k.size, fun j h1 h2 h3 =>
    ⟨((k.own j (Nat.lt_of_lt_of_le h1 h.size) h2 (h.own j h1 h2 h3).2).1).trans (h.own j h1 h2 h3).1, (k.own j (Nat.lt_of_lt_of_le h1 h.size) h2 (h.own j h1 h2 h3).2).2⟩⟩
theorem rowAt4_same {q k : Nat} {w w' : World} (h : w'.heap[q]? = w.heap[q]?) : RowAt4 q w' k ↔ RowAt4 q w k := by
  have hc : w'.cell? ⟨q, 402, none⟩ = w.cell? ⟨q, 402, none⟩ := World.cell?_of_block h
  unfold RowAt4
  rw [hc]
theorem ch4_below {q : Nat} {w w' : World} (hq : q < w.heap.size) (h : Below w.heap.size w w') : Ch4 q w w' :=
  ⟨h.os, h.tape, h.output, h.size, fun k hk _ hr => ⟨h.block k hk, fun hr' => hr ((rowAt4_same (h.block q hq)).1 hr')⟩⟩

/-- The walk at block q: its list of places, its text, which places it holds, and its pieces. -/
structure Sw (q g n cap : Nat) (P : Nat → Pl) (txt : ByteArray) (fr : Int) (H : Nat → Bool) (L : List Nat) (w : World) : Prop where
  ne : q ≠ g
  c0 : w.cell? ⟨q, 0, none⟩ = some (.slice (some ⟨g, 0, none⟩) n cap)
  c1 : w.cell? ⟨q, 1, none⟩ = some (.string txt)
  held : ∀ k, k < 400 → w.cell? ⟨q, 2 + k, none⟩ = some (.bool (H k))
  row : ∃ pv, w.cell? ⟨q, 402, none⟩ = some pv ∧ w.ownsRow 0 127 2 pv L.length (pcs fr L) ∧ ∀ k, Value.ownBlock pv = some k → k ≠ q ∧ k ≠ g
  fz : ∀ j, w.frozen? ⟨q, j, none⟩ = false
  pr : Pr g n P w
  mem : ∀ x, x < 400 → (H x = true ↔ x ∈ L)
  lt : ∀ x ∈ L, x < n
  cnt : L.length + open' H 400 = 400
theorem Sw.q_lt {q g n cap : Nat} {P : Nat → Pl} {txt : ByteArray} {fr : Int} {H : Nat → Bool} {L : List Nat} {w : World} (h : Sw q g n cap P txt fr H L w) : q < w.heap.size := World.block_lt_of_cell? w _ h.c0
theorem Sw.on {q g n cap : Nat} {P : Nat → Pl} {txt : ByteArray} {fr : Int} {H : Nat → Bool} {L : List Nat} {w w' : World} (h : Sw q g n cap P txt fr H L w) (hb : Below w.heap.size w w') : Sw q g n cap P txt fr H L w' := by
  have hq := h.q_lt
  obtain ⟨pv, p1, p2, p3⟩ := h.row
  exact ⟨h.ne, (hb.cell (p := ⟨q, 0, none⟩) hq).trans h.c0, (hb.cell (p := ⟨q, 1, none⟩) hq).trans h.c1, fun k hk => (hb.cell (p := ⟨q, 2 + k, none⟩) hq).trans (h.held k hk),
    ⟨pv, (hb.cell (p := ⟨q, 402, none⟩) hq).trans p1, Rx.owns_same p2 fun k hk => hb.block k (p2.lt k hk).2, p3⟩, fun j => (hb.frozen (p := ⟨q, j, none⟩) hq).trans (h.fz j), h.pr.below hb, h.mem, h.lt, h.cnt⟩

/-- One place is held, and its piece put behind the others. -/
theorem Sw.push {q g n cap p : Nat} {P : Nat → Pl} {txt : ByteArray} {fr : Int} {H : Nat → Bool} {L : List Nat} {w w' : World} {pv' : Value} (h : Sw q g n cap P txt fr H L w) (hp : p < n) (hn : n ≤ 400) (hH : H p = false)
    (hs : w.heap.size ≤ w'.heap.size) (e0 : w'.cell? ⟨q, 0, none⟩ = w.cell? ⟨q, 0, none⟩) (e1 : w'.cell? ⟨q, 1, none⟩ = w.cell? ⟨q, 1, none⟩) (e2 : ∀ k, k < 400 → k ≠ p → w'.cell? ⟨q, 2 + k, none⟩ = w.cell? ⟨q, 2 + k, none⟩) (e3 : w'.cell? ⟨q, 2 + p, none⟩ = some (.bool true))
    (e4 : w'.cell? ⟨q, 402, none⟩ = some pv') (e5 : w'.ownsRow 0 127 2 pv' (L.length + 1) (pcs fr L ++ [.int .i64 fr, .int .i64 (p : Int)])) (e6 : ∀ k, Value.ownBlock pv' = some k → k ≠ q ∧ k ≠ g) (e7 : ∀ j, w'.frozen? ⟨q, j, none⟩ = false) (e8 : w'.heap[g]? = w.heap[g]?) :
    Sw q g n cap P txt fr (Clo.mark H p) (L ++ [p]) w' := by
  have hpr := h.pr.1
  refine ⟨h.ne, e0.trans h.c0, e1.trans h.c1, fun k hk => ?_, ⟨pv', e4, ?_, e6⟩, e7, h.pr.on e8 (by omega), fun x hx => ?_, fun x hx => ?_, ?_⟩
  · by_cases e : k = p
    · subst e
      rw [Clo.mark_self]
      exact e3
    · rw [e2 k hk e, h.held k hk]
      simp [Clo.mark, e]
  · rw [pcs_app, List.length_append]
    exact e5
  · simp only [Clo.mark, Bool.or_eq_true, decide_eq_true_eq, List.mem_append, List.mem_singleton, h.mem x hx]
  · rcases List.mem_append.1 hx with hx | hx
    · exact h.lt x hx
    · rw [List.mem_singleton.1 hx]
      exact hp
  · have := open_mark (n := 400) (show p < 400 by omega) hH
    have := h.cnt
    simp
    omega

/-- What enter does to what is held, from place p at place e of the text. -/
structure Dfs (P : Nat → Pl) (tg : Nat → Nat) (N e : Nat) (H : Nat → Bool) (p : Nat) (H' : Nat → Bool) : Prop where
  old : ∀ x, H x = true → H' x = true
  new : H' p = true
  run : ∀ x, H' x = true → H x = true ∨ Run P tg N p e x e
  shut : ∀ x, H' x = true → H x = true ∨ ∀ y : Nat, (y : Int) ∈ nextV (P x).op (P x).a (P x).b x (decide (e = 0)) (decide (e = N)) → H' y = true

theorem next_lt {E : Nat} {x : Pl} (h : Good E x) (p : Nat) (hp : p < E) (b f : Bool) : ∀ y ∈ nextV x.op x.a x.b p b f, ∃ z : Nat, y = z ∧ z ≤ E := by
  intro y hy
  rcases h with ⟨c, rfl⟩ | rfl | ⟨s, no, rfl, hs⟩ | rfl | rfl | ⟨a, ha, rfl⟩ | ⟨a, b, ha, hb', rfl⟩ <;> simp only [nextV, byteP, anyP, setP, startP, endP, jumpP, forkP] at hy
  · simp at hy
  · simp at hy
  · simp at hy
  · simp at hy
    exact ⟨p + 1, by omega, by omega⟩
  · simp at hy
    exact ⟨p + 1, by omega, by omega⟩
  · simp at hy
    exact ⟨a, hy, ha⟩
  · simp at hy
    rcases hy with rfl | rfl
    · exact ⟨_, rfl, ha⟩
    · exact ⟨_, rfl, hb'⟩

end Nf
end Go.Proofs.YtgdnlmaacnnfiaaGreatDoor

