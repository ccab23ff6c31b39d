/-
  The law FnExactLogPut at every log, number, term and list.
-/
import Derived.Test.YtipjgkekjocljaaLgPutT
import Derived.Test.YtipjgkekjocljaaLgMark
namespace Go.Proofs.Ytipjgkekjocljaa
open Go.RowKit
namespace Lg
open Nd Mk
open Oc (hold Blk)
set_option linter.unusedSimpArgs false
set_option linter.unusedVariables false

theorem putL_len {b t p pt : Int} {L M : List En} (hL : L.length ≤ 1048576) : (putL b t L p pt M).1.2.2.length ≤ 1048576 := by
  unfold putL
  split
  · split
    · exact hL
    · split
      · rename_i h
        obtain ⟨_, _, _, _, h5, _⟩ := logB_parts h
        show (putE L (p - b).toNat M).length ≤ 1048576
        omega
      · exact hL
  · simp
theorem putL_sm {b t p pt : Int} {L M : List En} (sA : ∀ v ∈ L, SmE v) (sM : ∀ v ∈ M, SmE v) : ∀ v ∈ (putL b t L p pt M).1.2.2, SmE v := by
  intro v hv
  unfold putL at hv
  split at hv
  · split at hv
    · exact sA v hv
    · split at hv
      · rcases putE_mem L M _ v hv with h | h
        · exact sA v h
        · exact sM v h
      · exact sA v hv
  · simp at hv

theorem lMark0 (k : Int) (w : World) : Calls Try.prog 19 #[.slice none 0 0, .int .i64 k] w fun e w' => e = .returned (.int .i64 k) ∧ w' = w := by
  go_enter Try.func19, Try.ntmps19
  go_wp2_with fail
  go_loopw [1, 5] (fun kv iv wr => iv = .int .i64 0 ∧ kv = .int .i64 k ∧ wr = w) (fun _ _ _ => 0)
  case atStart => exact ⟨rfl, rfl, rfl⟩
  case round =>
    obtain ⟨rfl, rfl, rfl⟩ := hrel
    go_wp2_with fail
    go_ret
    exact ⟨rfl, rfl⟩
theorem lHeld0 (k : Int) (w : World) : Calls Try.prog 37 #[.slice none 0 0, .int .i64 k] w fun e w' => e = .returned (.int .i64 k) ∧ w' = w := by
  go_enter Try.func37, Try.ntmps37
  go_wp2_with fail
  go_loopw [1, 5] (fun kv iv wr => iv = .int .i64 0 ∧ kv = .int .i64 k ∧ wr = w) (fun _ _ _ => 0)
  case atStart => exact ⟨rfl, rfl, rfl⟩
  case round =>
    obtain ⟨rfl, rfl, rfl⟩ := hrel
    go_wp2_with fail
    go_ret
    exact ⟨rfl, rfl⟩
theorem lMarkLog0 (k : Nat) (b t : Int) (w : World) : Calls Try.prog 18 #[aggL b t none 0 0, .int .i64 k] w fun e w' => e = .returned (.int .i64 k) ∧ Below w.heap.size w w' := by
  go_enter Try.func18, Try.ntmps18
  go_wp2_with (go_at_call 19; refine (lMark0 _ _).mono ?_; rintro e w2 ⟨rfl, hw⟩; have hw := hw.symm; subst hw)
  go_ret
  exact ⟨rfl, box _ _⟩
theorem lHeldLog0 (k : Nat) (b t : Int) (w : World) : Calls Try.prog 20 #[aggL b t none 0 0, .int .i64 k] w fun e w' => e = .returned (.int .i64 k) ∧ Below w.heap.size w w' := by
  have hk : ¬ ((k : Int) < 0) := by omega
  go_enter Try.func20, Try.ntmps20
  go_wp2_with (go_at_call 37; refine (lHeld0 _ _).mono ?_; rintro e w2 ⟨rfl, hw⟩; have hw := hw.symm; subst hw)
  go_ret
  exact ⟨rfl, box _ _⟩
theorem lMarkLogO {w : World} {ao : Option Addr} {n k : Nat} {vs : List En} {b t : Int} (h : OwnE w ao vs) (hl : vs.length = n) (hn : n ≤ 1048576) (h1 : 1 ≤ k) (hk : k ≤ 12000000) :
    Calls Try.prog 18 #[aggL b t ao n n, .int .i64 k] w fun e w' => e = .returned (.int .i64 (k + 4 * n : Nat)) ∧ OwnE w' ao (mkEs k n) ∧ Turned (fun _ => False) (.slice ao n n) w w' := by
  rcases h with ⟨rfl, rfl⟩ | ⟨g, rfl, h⟩
  · obtain rfl : n = 0 := by simpa using hl.symm
    refine (lMarkLog0 k b t w).mono fun e w' ⟨he, hb⟩ => ⟨he, .inl ⟨rfl, rfl⟩, hb.os, hb.tape, hb.output, hb.size, fun j hj _ _ => hb.block j hj⟩
  · exact (lMarkLog h hl hn h1 hk).mono fun e w' ⟨he, hr, hT⟩ => ⟨he, .inr ⟨g, rfl, hr⟩, hT⟩
theorem lHeldLogO {w : World} {ao : Option Addr} {n k : Nat} {b t : Int} (h : OwnE w ao (mkEs k n)) (hn : n ≤ 1048576) (h1 : 1 ≤ k) (hk : k ≤ 12000000) :
    Calls Try.prog 20 #[aggL b t ao n n, .int .i64 k] w fun e w' => e = .returned (.int .i64 (k + 4 * n : Nat)) ∧ Below w.heap.size w w' := by
  rcases h with ⟨rfl, h0⟩ | ⟨g, rfl, h⟩
  · obtain rfl : n = 0 := by have := congrArg List.length h0; simpa [mkEs_len] using this
    exact lHeldLog0 k b t w
  · exact lHeldLog h hn h1 hk

/-- What is held while the law is walked: the argument, the three logs in their variables, the rows that are marked. -/
structure Ph (w : World) (p pA pX pG : List Value) (A X G : Nat) (a0 a7 : Option Addr) (g4 g5 : Nat) (N R4 R5 R7 : List En) (wr : World) : Prop where
  lw : Lw w p wr
  vA : Blk 29 wr A pA
  rA : RdE wr a0 N
  vX : Blk 29 wr X pX
  vG : Blk 29 wr G pG
  r4 : St.Rows 47 encE wr g4 R4
  r5 : St.Rows 47 encE wr g5 R5
  r7 : OwnE wr a7 R7
  lo : w.heap.size < g4
  l0 : N = [] ∨ ∀ a, a0 = some a → a.block < g4
  l45 : g4 < g5
  l57 : ∀ a, a7 = some a → g5 < a.block
section
variable {w : World} {p pA pX pG : List Value} {A X G : Nat} {a0 a7 : Option Addr} {g4 g5 : Nat} {N R4 R5 R7 : List En} {wr w' : World}
theorem Ph.later (h : Ph w p pA pX pG A X G a0 a7 g4 g5 N R4 R5 R7 wr) (hb : Below wr.heap.size wr w') : Ph w p pA pX pG A X G a0 a7 g4 g5 N R4 R5 R7 w' :=
  ⟨h.lw.later hb, h.vA.below hb, h.rA.below hb, h.vX.below hb, h.vG.below hb, h.r4.kept (hb.block _ h.r4.lt), h.r5.kept (hb.block _ h.r5.lt), h.r7.below hb, h.lo, h.l0, h.l45, h.l57⟩
theorem rows_blk {T : TypeId} {g k : Nat} {L : List En} {xs : List Value} (h : St.Rows 47 encE wr g L) (hk : Blk T wr k xs) (hT : T ≠ 47) : g ≠ k := by
  rintro rfl
  unfold St.Rows at h
  unfold Blk at hk
  rw [hk] at h
  simp at h
  exact hT h.2
theorem Ph.base (h : Ph w p pA pX pG A X G a0 a7 g4 g5 N R4 R5 R7 wr) {v : Value} (hT : Turned (fun _ => False) v wr w') (hv : ∀ k, v.ownBlock = some k → w.heap.size < k ∧ k ≠ A ∧ k ≠ X ∧ k ≠ G ∧ (N = [] ∨ ∀ a, a0 = some a → a.block ≠ k)) :
    Lw w p w' ∧ Blk 29 w' A pA ∧ RdE w' a0 N ∧ Blk 29 w' X pX ∧ Blk 29 w' G pG := by
  have tn : ∀ k, k < wr.heap.size → (∀ j, v.ownBlock = some j → k ≠ j) → w'.heap[k]? = wr.heap[k]? := fun k hk hn => hT.block k hk id fun e => hn k e rfl
  have hs := h.lw.below.size
  refine ⟨⟨⟨hT.os.trans h.lw.below.os, hT.tape.trans h.lw.below.tape, hT.output.trans h.lw.below.output, Nat.le_trans hs hT.size, fun k hk => (tn k (by omega) fun j hj => by have := (hv j hj).1; omega).trans (h.lw.below.block k hk)⟩, (tn _ h.lw.arg.lt fun j hj => by have := (hv j hj).1; omega).trans h.lw.arg⟩, (tn _ h.vA.lt fun j hj => (hv j hj).2.1.symm).trans h.vA, ?_, (tn _ h.vX.lt fun j hj => (hv j hj).2.2.1.symm).trans h.vX, (tn _ h.vG.lt fun j hj => (hv j hj).2.2.2.1.symm).trans h.vG⟩
  by_cases hN : N = []
  · subst hN
    exact RdE.nil _ _
  · exact h.rA.same hT.size fun a ha hl => tn _ hl fun j hj => (hv j hj).2.2.2.2.resolve_left hN a ha
theorem Ph.ne0 (h : Ph w p pA pX pG A X G a0 a7 g4 g5 N R4 R5 R7 wr) {k : Nat} (hk : g4 ≤ k) : N = [] ∨ ∀ a, a0 = some a → a.block ≠ k := by
  rcases h.l0 with e | e
  · exact .inl e
  · exact .inr fun a ha => by have := e a ha; omega
theorem Ph.mark4 {n c : Nat} {R : List En} (h : Ph w p pA pX pG A X G a0 a7 g4 g5 N R4 R5 R7 wr) (hT : Turned (fun _ => False) (.slice (some ⟨g4, 0, none⟩) n c) wr w') (hr : St.Rows 47 encE w' g4 R) : Ph w p pA pX pG A X G a0 a7 g4 g5 N R R5 R7 w' := by
  obtain ⟨b1, b2, b3, b4, b5⟩ := h.base hT (fun k hk => by
    simp [Value.ownBlock] at hk
    subst hk
    exact ⟨h.lo, rows_blk h.r4 h.vA (by decide), rows_blk h.r4 h.vX (by decide), rows_blk h.r4 h.vG (by decide), h.ne0 (Nat.le_refl _)⟩)
  have l45 := h.l45
  exact ⟨b1, b2, b3, b4, b5, hr, h.r5.kept (hT.block _ h.r5.lt id (by simp [Value.ownBlock]; omega)), h.r7.kept fun a ha hl => hT.block _ hl id (by have := h.l57 a ha; simp [Value.ownBlock]; omega), h.lo, h.l0, h.l45, h.l57⟩
theorem Ph.mark5 {n c : Nat} {R : List En} (h : Ph w p pA pX pG A X G a0 a7 g4 g5 N R4 R5 R7 wr) (hT : Turned (fun _ => False) (.slice (some ⟨g5, 0, none⟩) n c) wr w') (hr : St.Rows 47 encE w' g5 R) : Ph w p pA pX pG A X G a0 a7 g4 g5 N R4 R R7 w' := by
  have l45 := h.l45
  have lo := h.lo
  obtain ⟨b1, b2, b3, b4, b5⟩ := h.base hT (fun k hk => by
    simp [Value.ownBlock] at hk
    subst hk
    exact ⟨by omega, rows_blk h.r5 h.vA (by decide), rows_blk h.r5 h.vX (by decide), rows_blk h.r5 h.vG (by decide), h.ne0 (by omega)⟩)
  exact ⟨b1, b2, b3, b4, b5, h.r4.kept (hT.block _ h.r4.lt id (by simp [Value.ownBlock]; omega)), hr, h.r7.kept fun a ha hl => hT.block _ hl id (by have := h.l57 a ha; simp [Value.ownBlock]; omega), h.lo, h.l0, h.l45, h.l57⟩
theorem Ph.mark7 {n c : Nat} {R : List En} (h : Ph w p pA pX pG A X G a0 a7 g4 g5 N R4 R5 R7 wr) (hT : Turned (fun _ => False) (.slice a7 n c) wr w') (hr : OwnE w' a7 R) : Ph w p pA pX pG A X G a0 a7 g4 g5 N R4 R5 R w' := by
  have l45 := h.l45
  have lo := h.lo
  have key : ∀ k, Value.ownBlock (.slice a7 n c) = some k → ∃ a, a7 = some a ∧ a.block = k := fun k hk => by
    cases ha : a7 with
    | none => rw [ha] at hk; simp [Value.ownBlock] at hk
    | some a => rw [ha] at hk; simp [Value.ownBlock] at hk; exact ⟨a, rfl, hk⟩
  have apart : ∀ a, a7 = some a → ∀ {k : Nat} {xs : List Value}, Blk 29 wr k xs → a.block ≠ k := fun a ha k xs hk => by
    rcases h.r7 with ⟨e, _⟩ | ⟨g, e, hg⟩
    · rw [e] at ha; cases ha
    · rw [e] at ha
      simp at ha
      subst ha
      exact rows_blk hg hk (by decide)
  obtain ⟨b1, b2, b3, b4, b5⟩ := h.base hT (fun k hk => by
    obtain ⟨a, ha, rfl⟩ := key k hk
    have l57 := h.l57 a ha
    exact ⟨by omega, apart a ha h.vA, apart a ha h.vX, apart a ha h.vG, h.ne0 (by omega)⟩)
  have ne : ∀ k, (∀ a, a7 = some a → a.block ≠ k) → Value.ownBlock (.slice a7 n c) ≠ some k := fun k hk e => by
    obtain ⟨a, ha, e2⟩ := key k e
    exact hk a ha e2
  exact ⟨b1, b2, b3, b4, b5, h.r4.kept (hT.block _ h.r4.lt id (ne _ fun a ha => by have := h.l57 a ha; omega)), h.r5.kept (hT.block _ h.r5.lt id (ne _ fun a ha => by have := h.l57 a ha; omega)), hr, h.lo, h.l0, h.l45, h.l57⟩
end

set_option maxHeartbeats 8000000 in
set_option maxRecDepth 100000 in
theorem lawLogPut {ao am : Option Addr} {cap capm : Nat} {L M : List En} {b t p pt : Int} {w : World} (hA : RdE w ao L) (hn : L.length ≤ maxLen) (hM : RdE w am M) (hnM : M.length ≤ maxLen) (wp : -9223372036854775808 ≤ p ∧ p ≤ 9223372036854775807) :
    Calls Try.prog 5 #[aggL b t ao L.length cap, .int .i64 p, .int .i64 pt, .slice am M.length capm] w fun e w' => e = .returned (.bool true) ∧ Below w.heap.size w w' := by
  have L0 : Hid (Lw w [.int .i64 b, .int .i64 t, .slice ao L.length cap] (w.alloc (.cells #[.int .i64 b, .int .i64 t, .slice ao L.length cap] 24))) := Lw.new w [.int .i64 b, .int .i64 t, .slice ao L.length cap]
  have P01 : Hid (-9223372036854775808 ≤ p ∧ p ≤ 9223372036854775807) := wp
  clear wp
  go_enter Try.func5, Try.ntmps5
  go_wp2_with (go_at_call 6; refine hold ?_)
  refine (lSzLog (hA.below L0.out.below) hn (by omega) (by omega)).mono ?_
  rintro e w1 ⟨z, rfl, z0, z1, hz, hb1⟩
  have L1 := L0.out.later hb1
  by_cases hz0 : z < 0
  · have HL := L1.below
    clear hz L1 hA hn hM hnM
    go_wp2_with fail
    go_ret
    exact ⟨rfl, HL⟩
  have HZA : Hid (L.length ≤ 1048576 ∧ ∀ v ∈ L, SmE v) := hz.resolve_left hz0
  clear hz
  go_wp2_with (go_at_call 13; refine hold ?_)
  refine (lSzEntryS (hM.below L1.below) hnM (by omega) z1).mono ?_
  rintro e w2 ⟨y, rfl, y0, y1, hy, hb2⟩
  have L2 := L1.later hb2
  by_cases hy0 : y < 0
  · have HL := L2.below
    clear hy L1 L2 hA hn hM hnM
    go_wp2_with fail
    go_ret
    exact ⟨rfl, HL⟩
  have HZM : Hid (M.length ≤ 1048576 ∧ ∀ v ∈ M, SmE v) := hy.resolve_left hy0
  clear hy
  have tL : Hid (∀ w', Below w.heap.size w w' → Calls Try.prog 8 #[aggL b t ao L.length cap] w' fun e w'' => ∃ g, e = .returned (aggL b t (some ⟨g, 0, none⟩) L.length L.length) ∧ w'.heap.size ≤ g ∧ St.Rows 47 encE w'' g L ∧ Below w'.heap.size w' w'') := fun w' h => lToLog (cap := cap) (b := b) (t := t) (hA.below h) HZA.out.1
  have tE : Hid (∀ w', Below w.heap.size w w' → Calls Try.prog 15 #[.slice am M.length capm] w' fun e w'' => ∃ g, e = .returned (.slice (some ⟨g, 0, none⟩) M.length M.length) ∧ w'.heap.size ≤ g ∧ St.Rows 47 encE w'' g M ∧ Below w'.heap.size w' w'') := fun w' h => lToEntryS (cap := capm) (hM.below h) HZM.out.1
  obtain ⟨Z, hZ⟩ : ∃ Z, Z = putL b t L p pt M := ⟨_, rfl⟩
  obtain ⟨⟨zb, zt, N⟩, V⟩ := Z
  have sN : ∀ v ∈ N, SmE v := fun v hv => by
    have := putL_sm (b := b) (t := t) (p := p) (pt := pt) HZA.out.2 HZM.out.2
    rw [← hZ] at this
    exact this v hv
  have nN : N.length ≤ 1048576 := by
    have := putL_len (b := b) (t := t) (p := p) (pt := pt) (M := M) HZA.out.1
    rw [← hZ] at this
    exact this
  have iP : Hid (∀ w' g h, St.Rows 47 encE w' g L → St.Rows 47 encE w' h M → Calls Try.prog 16 #[aggL b t (some ⟨g, 0, none⟩) L.length L.length, .int .i64 p, .int .i64 pt, .slice (some ⟨h, 0, none⟩) M.length M.length] w' fun e w'' => ∃ ao', e = .returned (.tuple #[aggL zb zt ao' N.length N.length, .bool V]) ∧ (∀ a, ao' = some a → w'.heap.size ≤ a.block) ∧ OwnE w'' ao' N ∧ Below w'.heap.size w' w'') := fun w' g h r1 r2 => by
    have := iLogPut (b := b) (t := t) (p := p) (pt := pt) (rows_rd r1 (sme_max HZA.out.2)) (rows_rd r2 (sme_max HZM.out.2)) HZA.out.2 HZM.out.2 HZA.out.1 HZM.out.1 P01.out.1 P01.out.2
    rw [← hZ] at this
    exact this
  have sP : Hid (∀ w' g h, St.Rows 47 encE w' g L → St.Rows 47 encE w' h M → Calls Try.prog 14 #[aggL b t (some ⟨g, 0, none⟩) L.length L.length, .int .i64 p, .int .i64 pt, .slice (some ⟨h, 0, none⟩) M.length M.length] w' fun e w'' => ∃ ao' c', e = .returned (.tuple #[aggL zb zt ao' N.length c', .bool V]) ∧ RdE w'' ao' N ∧ Below w'.heap.size w' w'') := fun w' g h r1 r2 => by
    have := sLogPut (b := b) (t := t) (p := p) (pt := pt) (cap := L.length) (capm := M.length) (rows_rd r1 (sme_max HZA.out.2)) (rows_rd r2 (sme_max HZM.out.2)) HZA.out.2 HZM.out.2 HZA.out.1 HZM.out.1
    rw [← hZ] at this
    exact this
  have eN : Hid (∀ w' x y c d, RdE w' x N → RdE w' y N → Calls Try.prog 10 #[aggL zb zt x N.length c, aggL zb zt y N.length d] w' fun e w'' => e = .returned (.bool true) ∧ Below w'.heap.size w' w'') := fun w' x y c d h1 h2 => lEqLog h1 h2 (by omega)
  have oN : Hid (∀ w' a, OwnE w' a N → RdE w' a N) := fun w' a h => h.rd (sme_max sN)
  have eL : Hid (∀ w' g h, St.Rows 47 encE w' g L → St.Rows 47 encE w' h L → Calls Try.prog 10 #[aggL b t (some ⟨g, 0, none⟩) L.length L.length, aggL b t (some ⟨h, 0, none⟩) L.length L.length] w' fun e w'' => e = .returned (.bool true) ∧ Below w'.heap.size w' w'') := fun w' g h r1 r2 => lEqLog (rows_rd r1 (sme_max HZA.out.2)) (rows_rd r2 (sme_max HZA.out.2)) (by have := HZA.out.1; omega)
  have eM : Hid (∀ w' g h, St.Rows 47 encE w' g M → St.Rows 47 encE w' h M → Calls Try.prog 17 #[.slice (some ⟨g, 0, none⟩) M.length M.length, .slice (some ⟨h, 0, none⟩) M.length M.length] w' fun e w'' => e = .returned (.bool true) ∧ Below w'.heap.size w' w'') := fun w' g h r1 r2 => lEqEntryS (rows_rd r1 (sme_max HZM.out.2)) (rows_rd r2 (sme_max HZM.out.2)) (by have := HZM.out.1; omega)
  have HNN : Hid (N.length ≤ 1048576) := nN
  clear hA hn hM hnM hZ sN nN L0 P01 hb1 hb2 z0 z1 y1
  have P2 : Hid (Lw w [.int .i64 b, .int .i64 t, .slice ao L.length cap] w2) := L2
  clear L1 L2
  have AR : Hid (∀ wr, Lw w [.int .i64 b, .int .i64 t, .slice ao L.length cap] wr → wr.cell? ⟨w.heap.size, 0, none⟩ = some (.int .i64 b) ∧ wr.cell? ⟨w.heap.size, 1, none⟩ = some (.int .i64 t) ∧ wr.cell? ⟨w.heap.size, 2, none⟩ = some (.slice ao L.length cap)) := fun wr h => ⟨h.arg.cell 0 rfl, h.arg.cell 1 rfl, h.arg.cell 2 rfl⟩
  obtain ⟨q0, q1, q2⟩ := AR.out _ P2.out
  go_wp2_with (go_at_call 8; refine hold ?_)
  clear q0 q1 q2
  refine Calls.mono (tL.out _ P2.out.below) ?_
  rintro e w3 ⟨g1, rfl, hg1, R1, hb3⟩
  have P3 := P2.out.later hb3
  go_wp2_with (go_at_call 15; refine hold ?_)
  refine Calls.mono (tE.out _ P3.below) ?_
  rintro e w4 ⟨g2, rfl, hg2, R2, hb4⟩
  have P4 := P3.later hb4
  have R14 := R1.kept (hb4.block _ R1.lt)
  go_wp2_with (go_at_call 14; refine hold ?_)
  refine Calls.mono (sP.out _ g1 g2 R14 R2) ?_
  rintro e w5 ⟨a0, c0, rfl, Rd0, hb5⟩
  have P5 := P4.later hb5
  have HL0 : Hid (N = [] ∨ ∀ a, a0 = some a → a.block < w5.heap.size) := by
    by_cases hN : N = []
    · exact .inl hN
    · refine .inr fun a ha => ?_
      cases N with
      | nil => exact absurd rfl hN
      | cons v vs =>
        obtain ⟨b', o', e', hl', _⟩ := Rd0 0 v rfl
        rw [e'] at ha
        simp at ha
        subst ha
        exact hl'
  have P6 := P5.alloc (.cells #[.int .i64 zb, .int .i64 zt, .slice a0 N.length c0] 29)
  have K6 := Blk.new 29 w5 [.int .i64 zb, .int .i64 zt, .slice a0 N.length c0]
  have Rd6 := Rd0.below (box w5 (.cells #[.int .i64 zb, .int .i64 zt, .slice a0 N.length c0] 29))
  obtain ⟨w6, hw6⟩ : ∃ w6, w6 = w5.alloc (.cells #[.int .i64 zb, .int .i64 zt, .slice a0 N.length c0] 29) := ⟨_, rfl⟩
  have hs6 : w6.heap.size = w5.heap.size + 1 := by rw [hw6]; simp
  obtain ⟨q0, q1, q2⟩ := AR.out _ P5
  have lt5 := P5.arg.lt
  clear R1 R2 R14 hb3 hb4 hb5 sP hg1 hg2 P3 P4
  go_wp2_with (go_at_call 8; refine hold ?_)
  rw [← hw6]
  have P6' : Lw w [.int .i64 b, .int .i64 t, .slice ao L.length cap] w6 := by rw [hw6]; exact P6
  have K6' : Blk 29 w6 w5.heap.size [.int .i64 zb, .int .i64 zt, .slice a0 N.length c0] := by rw [hw6]; exact K6
  have Rd6' : RdE w6 a0 N := by rw [hw6]; exact Rd6
  clear hw6 q0 q1 q2 P6 K6 Rd6 P5 Rd0 lt5
  refine Calls.mono (tL.out _ P6'.below) ?_
  rintro e w7 ⟨g4, rfl, hg4, R4, hb7⟩
  have P7 := P6'.later hb7
  have K7 := K6'.below hb7
  have Rd7 := Rd6'.below hb7
  have l4 := R4.lt
  have lo7 := P6'.arg.lt
  go_wp2_with (go_at_call 15; refine hold ?_)
  have P8 := P7.alloc (.cells #[.int .i64 b, .int .i64 t, .slice (some ⟨g4, 0, none⟩) L.length L.length] 29)
  refine Calls.mono (tE.out _ P8.below) ?_
  rintro e w9 ⟨g5, rfl, hg5, R5, hb9⟩
  have b78 := box w7 (.cells #[.int .i64 b, .int .i64 t, .slice (some ⟨g4, 0, none⟩) L.length L.length] 29)
  have b79 : Below w7.heap.size w7 w9 := b78.trans (hb9.mono b78.size)
  have P9 := P7.later b79
  have K9 := K7.below b79
  have Rd9 := Rd7.below b79
  have R49 := R4.kept (b79.block _ l4)
  have X9 := (Blk.new 29 w7 [.int .i64 b, .int .i64 t, .slice (some ⟨g4, 0, none⟩) L.length L.length]).below hb9
  have c0' := X9.cell 0 rfl
  have c1' := X9.cell 1 rfl
  have c2' := X9.cell 2 rfl
  go_wp2_with (go_at_call 16; refine hold ?_)
  clear c0' c1' c2'
  refine Calls.mono (iP.out _ g4 g5 R49 R5) ?_
  rintro e w10 ⟨a7, rfl, hf7, O7, hb10⟩
  have b7a := b79.trans (hb10.mono b79.size)
  have l5 := R5.lt
  have PH : Hid (Ph w [.int .i64 b, .int .i64 t, .slice ao L.length cap] [.int .i64 zb, .int .i64 zt, .slice a0 N.length c0] [.int .i64 b, .int .i64 t, .slice (some ⟨g4, 0, none⟩) L.length L.length] [.int .i64 zb, .int .i64 zt, .slice a7 N.length N.length] w5.heap.size w7.heap.size w10.heap.size a0 a7 g4 g5 N L M N (w10.alloc (.cells #[.int .i64 zb, .int .i64 zt, .slice a7 N.length N.length] 29))) := by
    have bb := box w10 (.cells #[.int .i64 zb, .int .i64 zt, .slice a7 N.length N.length] 29)
    refine ⟨(P9.later hb10).alloc _, (K9.below hb10).below bb, (Rd9.below hb10).below bb, (X9.below hb10).below bb, Blk.new _ _ _, (R49.kept (hb10.block _ R49.lt)).kept (bb.block _ (by have := b7a.size; omega)), (R5.kept (hb10.block _ l5)).kept (bb.block _ (by have := hb10.size; omega)), O7.below bb, by omega, ?_, by simp at hg5; omega, fun a ha => by have := hf7 a ha; omega⟩
    rcases HL0.out with e | e
    · exact .inl e
    · exact .inr fun a ha => by have := e a ha; omega
  have KA := K9.below hb10
  have ltA := KA.lt
  clear P6' K6' Rd6' P7 K7 Rd7 P8 P9 K9 Rd9 R49 X9 R4 R5 hb7 hb9 hb10 b78 b79 b7a O7 hf7 hg4 hg5 l4 l5 lo7 HL0 hs6 P2
  generalize w5.heap.size = A at *
  generalize w7.heap.size = X at *
  have c0' := KA.cell 0 rfl
  have c1' := KA.cell 1 rfl
  have c2' := KA.cell 2 rfl
  obtain ⟨w11, hw11⟩ : ∃ w11, w11 = w10.alloc (.cells #[.int .i64 zb, .int .i64 zt, .slice a7 N.length N.length] 29) := ⟨_, rfl⟩
  rw [← hw11] at PH
  go_wp2_with (go_at_call 10; refine hold ?_)
  rw [← hw11]
  clear hw11 c0' c1' c2' KA ltA
  generalize w10.heap.size = G at *
  have CA : Hid (∀ wr R4 R5 R7, Ph w [.int .i64 b, .int .i64 t, .slice ao L.length cap] [.int .i64 zb, .int .i64 zt, .slice a0 N.length c0] [.int .i64 b, .int .i64 t, .slice (some ⟨g4, 0, none⟩) L.length L.length] [.int .i64 zb, .int .i64 zt, .slice a7 N.length N.length] A X G a0 a7 g4 g5 N R4 R5 R7 wr → wr.cell? ⟨A, 0, none⟩ = some (.int .i64 zb) ∧ wr.cell? ⟨A, 1, none⟩ = some (.int .i64 zt) ∧ wr.cell? ⟨A, 2, none⟩ = some (.slice a0 N.length c0)) := fun wr R4 R5 R7 h => ⟨h.vA.cell 0 rfl, h.vA.cell 1 rfl, h.vA.cell 2 rfl⟩
  have CX : Hid (∀ wr R4 R5 R7, Ph w [.int .i64 b, .int .i64 t, .slice ao L.length cap] [.int .i64 zb, .int .i64 zt, .slice a0 N.length c0] [.int .i64 b, .int .i64 t, .slice (some ⟨g4, 0, none⟩) L.length L.length] [.int .i64 zb, .int .i64 zt, .slice a7 N.length N.length] A X G a0 a7 g4 g5 N R4 R5 R7 wr → wr.cell? ⟨X, 0, none⟩ = some (.int .i64 b) ∧ wr.cell? ⟨X, 1, none⟩ = some (.int .i64 t) ∧ wr.cell? ⟨X, 2, none⟩ = some (.slice (some ⟨g4, 0, none⟩) L.length L.length)) := fun wr R4 R5 R7 h => ⟨h.vX.cell 0 rfl, h.vX.cell 1 rfl, h.vX.cell 2 rfl⟩
  have CG : Hid (∀ wr R4 R5 R7, Ph w [.int .i64 b, .int .i64 t, .slice ao L.length cap] [.int .i64 zb, .int .i64 zt, .slice a0 N.length c0] [.int .i64 b, .int .i64 t, .slice (some ⟨g4, 0, none⟩) L.length L.length] [.int .i64 zb, .int .i64 zt, .slice a7 N.length N.length] A X G a0 a7 g4 g5 N R4 R5 R7 wr → wr.cell? ⟨G, 0, none⟩ = some (.int .i64 zb) ∧ wr.cell? ⟨G, 1, none⟩ = some (.int .i64 zt) ∧ wr.cell? ⟨G, 2, none⟩ = some (.slice a7 N.length N.length)) := fun wr R4 R5 R7 h => ⟨h.vG.cell 0 rfl, h.vG.cell 1 rfl, h.vG.cell 2 rfl⟩
  refine Calls.mono (eN.out _ a7 a0 N.length c0 (oN.out _ _ PH.out.r7) PH.out.rA) ?_
  rintro e w12 ⟨rfl, hb12⟩
  have H12 : Hid (Ph w [.int .i64 b, .int .i64 t, .slice ao L.length cap] [.int .i64 zb, .int .i64 zt, .slice a0 N.length c0] [.int .i64 b, .int .i64 t, .slice (some ⟨g4, 0, none⟩) L.length L.length] [.int .i64 zb, .int .i64 zt, .slice a7 N.length N.length] A X G a0 a7 g4 g5 N L M N w12) := PH.out.later hb12
  clear PH hb12
  have hS : Hid (∀ w', Below w12.heap.size w12 w' → w'.cell? ⟨w.heap.size, 0, none⟩ = some (.int .i64 b) ∧ w'.cell? ⟨w.heap.size, 1, none⟩ = some (.int .i64 t) ∧ w'.cell? ⟨w.heap.size, 2, none⟩ = some (.slice ao L.length cap) ∧ w'.cell? ⟨X, 0, none⟩ = some (.int .i64 b) ∧ w'.cell? ⟨X, 1, none⟩ = some (.int .i64 t) ∧ w'.cell? ⟨X, 2, none⟩ = some (.slice (some ⟨g4, 0, none⟩) L.length L.length)) := fun w' h => by
    have h1 := H12.out.later h
    obtain ⟨a1, a2, a3⟩ := AR.out _ h1.lw
    obtain ⟨b1, b2, b3⟩ := CX.out _ _ _ _ h1
    exact ⟨a1, a2, a3, b1, b2, b3⟩
  go_wp2_with fail
  go_region_held3 (fun w' => w'.cell? ⟨w.heap.size, 0, none⟩ = some (.int .i64 b) ∧ w'.cell? ⟨w.heap.size, 1, none⟩ = some (.int .i64 t) ∧ w'.cell? ⟨w.heap.size, 2, none⟩ = some (.slice ao L.length cap) ∧ w'.cell? ⟨X, 0, none⟩ = some (.int .i64 b) ∧ w'.cell? ⟨X, 1, none⟩ = some (.int .i64 t) ∧ w'.cell? ⟨X, 2, none⟩ = some (.slice (some ⟨g4, 0, none⟩) L.length L.length)) (first | exact hS.out _ B14 | exact hS.out _ B13 | exact hS.out _ (Below.refl _ _).drew) (first
    | (go_at_call 8; refine Calls.mono (tL.out _ (H12.out.later (Below.refl _ _).drew).lw.below) ?_; rintro e w13 ⟨g13, rfl, hg13, R13, hb13⟩; have B13 : Below w12.heap.size w12 w13 := ((Below.refl _ w12).drew).trans hb13)
    | (go_at_call 10; refine Calls.mono (eL.out w13 g4 g13 (H12.out.later B13).r4 R13) ?_; rintro e w14 ⟨rfl, hb14⟩; have B14 : Below w12.heap.size w12 w14 := B13.trans (hb14.mono B13.size)))
  have H14 : Hid (Ph w [.int .i64 b, .int .i64 t, .slice ao L.length cap] [.int .i64 zb, .int .i64 zt, .slice a0 N.length c0] [.int .i64 b, .int .i64 t, .slice (some ⟨g4, 0, none⟩) L.length L.length] [.int .i64 zb, .int .i64 zt, .slice a7 N.length N.length] A X G a0 a7 g4 g5 N L M N w14) := H12.out.later B14
  clear H12 hS B13 B14 hb13 hb14 R13 hg13
  go_wp2_with (go_at_call 15; refine hold ?_)
  refine Calls.mono (tE.out _ H14.out.lw.below) ?_
  rintro e w15 ⟨g15, rfl, hg15, R15, hb15⟩
  have H15 : Hid (Ph w [.int .i64 b, .int .i64 t, .slice ao L.length cap] [.int .i64 zb, .int .i64 zt, .slice a0 N.length c0] [.int .i64 b, .int .i64 t, .slice (some ⟨g4, 0, none⟩) L.length L.length] [.int .i64 zb, .int .i64 zt, .slice a7 N.length N.length] A X G a0 a7 g4 g5 N L M N w15) := H14.out.later hb15
  clear H14 hb15 hg15
  go_wp2_with (go_at_call 17; refine hold ?_)
  refine Calls.mono (eM.out _ g5 g15 H15.out.r5 R15) ?_
  rintro e w16 ⟨rfl, hb16⟩
  have H16 : Hid (Ph w [.int .i64 b, .int .i64 t, .slice ao L.length cap] [.int .i64 zb, .int .i64 zt, .slice a0 N.length c0] [.int .i64 b, .int .i64 t, .slice (some ⟨g4, 0, none⟩) L.length L.length] [.int .i64 zb, .int .i64 zt, .slice a7 N.length N.length] A X G a0 a7 g4 g5 N L M N w16) := H15.out.later hb16
  clear H15 hb16 R15 eL eM
  obtain ⟨d0, d1, d2⟩ := CX.out _ _ _ _ H16.out
  go_wp2_with (go_at_call 18; refine hold ?_)
  clear d0 d1 d2
  have mk1 := lMarkLog (k := 1) (b := b) (t := t) H16.out.r4 rfl HZA.out.1 (by omega) (by omega)
  obtain ⟨K1, hK1⟩ : ∃ K1 : Nat, K1 = 1 + 4 * L.length := ⟨_, rfl⟩
  rw [← hK1] at mk1
  have HK1 : Hid (1 ≤ K1 ∧ K1 ≤ 12000000) := ⟨by omega, by have := HZA.out.1; omega⟩
  clear hK1
  refine Calls.mono mk1 ?_
  rintro e w17 ⟨rfl, R17, T17⟩
  have H17 : Hid (Ph w [.int .i64 b, .int .i64 t, .slice ao L.length cap] [.int .i64 zb, .int .i64 zt, .slice a0 N.length c0] [.int .i64 b, .int .i64 t, .slice (some ⟨g4, 0, none⟩) L.length L.length] [.int .i64 zb, .int .i64 zt, .slice a7 N.length N.length] A X G a0 a7 g4 g5 N (mkEs 1 L.length) M N w17) := H16.out.mark4 T17 R17
  clear H16 R17 T17 mk1
  go_wp2_with (go_at_call 19; refine hold ?_)
  have mk2 := lMarkEntryS (k := K1) H17.out.r5 rfl HZM.out.1 HK1.out.1 HK1.out.2
  obtain ⟨K2, hK2⟩ : ∃ K2 : Nat, K2 = K1 + 4 * M.length := ⟨_, rfl⟩
  rw [← hK2] at mk2
  have hK2n : ¬ ((K2 : Int) < 0) := by omega
  clear hK2
  refine Calls.mono mk2 ?_
  rintro e w18 ⟨rfl, R18, T18⟩
  have H18 : Hid (Ph w [.int .i64 b, .int .i64 t, .slice ao L.length cap] [.int .i64 zb, .int .i64 zt, .slice a0 N.length c0] [.int .i64 b, .int .i64 t, .slice (some ⟨g4, 0, none⟩) L.length L.length] [.int .i64 zb, .int .i64 zt, .slice a7 N.length N.length] A X G a0 a7 g4 g5 N (mkEs 1 L.length) (mkEs K1 M.length) N w18) := H17.out.mark5 T18 R18
  clear H17 R18 T18 mk2 HK1
  obtain ⟨d0, d1, d2⟩ := CA.out _ _ _ _ H18.out
  obtain ⟨f0, f1, f2⟩ := CG.out _ _ _ _ H18.out
  go_wp2_with (go_at_call 10; refine hold ?_)
  clear d0 d1 d2 f0 f1 f2
  refine Calls.mono (eN.out _ a7 a0 N.length c0 (oN.out _ _ H18.out.r7) H18.out.rA) ?_
  rintro e w19 ⟨rfl, hb19⟩
  have H19 : Hid (Ph w [.int .i64 b, .int .i64 t, .slice ao L.length cap] [.int .i64 zb, .int .i64 zt, .slice a0 N.length c0] [.int .i64 b, .int .i64 t, .slice (some ⟨g4, 0, none⟩) L.length L.length] [.int .i64 zb, .int .i64 zt, .slice a7 N.length N.length] A X G a0 a7 g4 g5 N (mkEs 1 L.length) (mkEs K1 M.length) N w19) := H18.out.later hb19
  clear H18 hb19 hK2n
  obtain ⟨f0, f1, f2⟩ := CG.out _ _ _ _ H19.out
  go_wp2_with (go_at_call 18; refine hold ?_)
  clear f0 f1 f2
  have mk3 := lMarkLogO (k := 1) (b := zb) (t := zt) H19.out.r7 rfl HNN.out (by omega) (by omega)
  have hd3 : Hid (∀ wr, OwnE wr a7 (mkEs 1 N.length) → Calls Try.prog 20 #[aggL zb zt a7 N.length N.length, .int .i64 1] wr fun e w' => e = .returned (.int .i64 ((1 + 4 * N.length : Nat) : Int)) ∧ Below wr.heap.size wr w') := fun wr h => lHeldLogO (k := 1) h HNN.out (by omega) (by omega)
  obtain ⟨KM, hKM⟩ : ∃ KM : Nat, KM = 1 + 4 * N.length := ⟨_, rfl⟩
  rw [← hKM] at mk3 hd3
  have hKMn : ¬ ((KM : Int) < 0) := by omega
  clear hKM
  refine Calls.mono mk3 ?_
  rintro e w20 ⟨rfl, O20, T20⟩
  have H20 : Hid (Ph w [.int .i64 b, .int .i64 t, .slice ao L.length cap] [.int .i64 zb, .int .i64 zt, .slice a0 N.length c0] [.int .i64 b, .int .i64 t, .slice (some ⟨g4, 0, none⟩) L.length L.length] [.int .i64 zb, .int .i64 zt, .slice a7 N.length N.length] A X G a0 a7 g4 g5 N (mkEs 1 L.length) (mkEs K1 M.length) (mkEs 1 N.length) w20) := H19.out.mark7 T20 O20
  clear H19 O20 T20 mk3
  obtain ⟨f0, f1, f2⟩ := CG.out _ _ _ _ H20.out
  go_wp2_with (go_at_call 20; refine hold ?_)
  clear f0 f1 f2
  refine Calls.mono (hd3.out _ H20.out.r7) ?_
  rintro e w21 ⟨rfl, hb21⟩
  have H21 : Hid (Ph w [.int .i64 b, .int .i64 t, .slice ao L.length cap] [.int .i64 zb, .int .i64 zt, .slice a0 N.length c0] [.int .i64 b, .int .i64 t, .slice (some ⟨g4, 0, none⟩) L.length L.length] [.int .i64 zb, .int .i64 zt, .slice a7 N.length N.length] A X G a0 a7 g4 g5 N (mkEs 1 L.length) (mkEs K1 M.length) (mkEs 1 N.length) w21) := H20.out.later hb21
  clear H20 hb21
  obtain ⟨q0, q1, q2⟩ := AR.out _ H21.out.lw
  go_wp2_with (go_at_call 8; refine hold ?_)
  clear q0 q1 q2
  refine Calls.mono (tL.out _ H21.out.lw.below) ?_
  rintro e w22 ⟨g22, rfl, hg22, R22, hb22⟩
  have H22 : Hid (Ph w [.int .i64 b, .int .i64 t, .slice ao L.length cap] [.int .i64 zb, .int .i64 zt, .slice a0 N.length c0] [.int .i64 b, .int .i64 t, .slice (some ⟨g4, 0, none⟩) L.length L.length] [.int .i64 zb, .int .i64 zt, .slice a7 N.length N.length] A X G a0 a7 g4 g5 N (mkEs 1 L.length) (mkEs K1 M.length) (mkEs 1 N.length) w22) := H21.out.later hb22
  clear H21 hb22 hg22
  go_wp2_with (go_at_call 15; refine hold ?_)
  refine Calls.mono (tE.out _ H22.out.lw.below) ?_
  rintro e w23 ⟨g23, rfl, hg23, R23, hb23⟩
  have R223 := R22.kept (hb23.block _ R22.lt)
  have H23 : Hid (Ph w [.int .i64 b, .int .i64 t, .slice ao L.length cap] [.int .i64 zb, .int .i64 zt, .slice a0 N.length c0] [.int .i64 b, .int .i64 t, .slice (some ⟨g4, 0, none⟩) L.length L.length] [.int .i64 zb, .int .i64 zt, .slice a7 N.length N.length] A X G a0 a7 g4 g5 N (mkEs 1 L.length) (mkEs K1 M.length) (mkEs 1 N.length) w23) := H22.out.later hb23
  clear H22 hb23 hg23 R22
  go_wp2_with (go_at_call 16; refine hold ?_)
  refine Calls.mono (iP.out _ g22 g23 R223 R23) ?_
  rintro e w24 ⟨a24, rfl, hf24, O24, hb24⟩
  have H24 : Hid (Ph w [.int .i64 b, .int .i64 t, .slice ao L.length cap] [.int .i64 zb, .int .i64 zt, .slice a0 N.length c0] [.int .i64 b, .int .i64 t, .slice (some ⟨g4, 0, none⟩) L.length L.length] [.int .i64 zb, .int .i64 zt, .slice a7 N.length N.length] A X G a0 a7 g4 g5 N (mkEs 1 L.length) (mkEs K1 M.length) (mkEs 1 N.length) w24) := H23.out.later hb24
  clear H23 hb24 R223 R23 hf24 iP tL tE
  obtain ⟨d0, d1, d2⟩ := CA.out _ _ _ _ H24.out
  have ltA := H24.out.vA.lt
  go_wp2_with (go_at_call 10; refine hold ?_)
  clear d0 d1 d2 ltA
  have bb := box w24 (.cells #[.int .i64 zb, .int .i64 zt, .slice a24 N.length N.length] 29)
  have H25 : Hid (Ph w [.int .i64 b, .int .i64 t, .slice ao L.length cap] [.int .i64 zb, .int .i64 zt, .slice a0 N.length c0] [.int .i64 b, .int .i64 t, .slice (some ⟨g4, 0, none⟩) L.length L.length] [.int .i64 zb, .int .i64 zt, .slice a7 N.length N.length] A X G a0 a7 g4 g5 N (mkEs 1 L.length) (mkEs K1 M.length) (mkEs 1 N.length) (w24.alloc (.cells #[.int .i64 zb, .int .i64 zt, .slice a24 N.length N.length] 29))) := H24.out.later bb
  refine Calls.mono (eN.out _ a24 a0 N.length c0 (oN.out _ _ (O24.below bb)) H25.out.rA) ?_
  rintro e w26 ⟨rfl, hb26⟩
  have H26 : Hid (Ph w [.int .i64 b, .int .i64 t, .slice ao L.length cap] [.int .i64 zb, .int .i64 zt, .slice a0 N.length c0] [.int .i64 b, .int .i64 t, .slice (some ⟨g4, 0, none⟩) L.length L.length] [.int .i64 zb, .int .i64 zt, .slice a7 N.length N.length] A X G a0 a7 g4 g5 N (mkEs 1 L.length) (mkEs K1 M.length) (mkEs 1 N.length) w26) := H25.out.later hb26
  clear H24 H25 hb26 O24 bb
  obtain ⟨f0, f1, f2⟩ := CG.out _ _ _ _ H26.out
  go_wp2_with (go_at_call 20; refine hold ?_)
  clear f0 f1 f2
  refine Calls.mono (hd3.out _ H26.out.r7) ?_
  rintro e w27 ⟨rfl, hb27⟩
  have H27 := (H26.out.later hb27).lw.below
  clear H26 hb27
  go_wp2_with fail
  go_ret
  exact ⟨rfl, H27⟩

end Lg
end Go.Proofs.Ytipjgkekjocljaa
