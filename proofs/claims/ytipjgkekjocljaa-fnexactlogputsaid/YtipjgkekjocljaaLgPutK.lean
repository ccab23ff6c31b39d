/-
  LogPut, the program's, at all arguments.
-/
import Derived.Test.YtipjgkekjocljaaLgPutJ
import Derived.Deep.RegionHeld3
namespace Go.Proofs.Ytipjgkekjocljaa
open Go.RowKit
namespace Lg
open Oc (hold Blk heap_new)
set_option linter.unusedSimpArgs false
set_option linter.unusedVariables false

/-- Entries in a row of their own, or none at all. -/
def OwnE (w : World) (ao : Option Addr) (L : List En) : Prop := (ao = none ∧ L = []) ∨ ∃ g, ao = some ⟨g, 0, none⟩ ∧ St.Rows 47 encE w g L
theorem OwnE.kept {w w' : World} {ao : Option Addr} {L : List En} (h : OwnE w ao L) (hb : ∀ a, ao = some a → a.block < w.heap.size → w'.heap[a.block]? = w.heap[a.block]?) : OwnE w' ao L := by
  rcases h with h | ⟨g, rfl, h⟩
  · exact .inl h
  · exact .inr ⟨g, rfl, h.kept (hb _ rfl h.lt)⟩
theorem OwnE.below {w w' : World} {ao : Option Addr} {L : List En} (h : OwnE w ao L) (hb : Below w.heap.size w w') : OwnE w' ao L := h.kept fun a _ hl => hb.block _ hl
theorem OwnE.lt {w : World} {ao : Option Addr} {L : List En} (h : OwnE w ao L) {a : Addr} (ha : ao = some a) : a.block < w.heap.size := by
  rcases h with ⟨rfl, _⟩ | ⟨g, rfl, h⟩
  · cases ha
  · simp at ha
    subst ha
    exact h.lt
theorem OwnE.rd {w : World} {ao : Option Addr} {L : List En} (h : OwnE w ao L) (hs : ∀ v ∈ L, v.2.2.2.size ≤ maxLen) : RdE w ao L := by
  rcases h with ⟨rfl, rfl⟩ | ⟨g, rfl, h⟩
  · exact RdE.nil w none
  · exact rows_rd h hs

/-- The log in its variable, the answer's variable; nothing that was has turned. -/
structure Lp (w : World) (p0 p1 : List Value) (wr : World) : Prop where
  below : Below w.heap.size w wr
  arg : Blk 29 wr w.heap.size p0
  res : Blk 29 wr (w.heap.size + 1) p1
theorem Lp.new (w : World) (p0 p1 : List Value) : Lp w p0 p1 ((w.alloc (.cells p0.toArray 29)).alloc (.cells p1.toArray 29)) := by
  have k2 := Blk.new 29 (w.alloc (.cells p0.toArray 29)) p1
  rw [World.size_alloc] at k2
  exact ⟨((Below.refl _ w).alloc (Nat.le_refl _) _).alloc (by simp) _, (Blk.new _ _ _).alloc _, k2⟩
theorem Lp.later {w wr w' : World} {p0 p1 : List Value} (h : Lp w p0 p1 wr) (hb : Below wr.heap.size wr w') : Lp w p0 p1 w' := ⟨h.below.trans (hb.mono h.below.size), h.arg.below hb, h.res.below hb⟩
theorem Lp.alloc {w wr : World} {p0 p1 : List Value} (h : Lp w p0 p1 wr) (o : Obj) : Lp w p0 p1 (wr.alloc o) := h.later ((Below.refl _ wr).alloc (Nat.le_refl _) o)
theorem Lp.put {w wr : World} {p0 p1 : List Value} {q : Nat} (h : Lp w p0 p1 wr) (hq : w.heap.size + 1 < q) (j : Nat) (x : Value) : Lp w p0 p1 (wr.setCell ⟨q, j, none⟩ x) := ⟨h.below.setCell (by simp; omega) _, h.arg.other (by omega) _ _, h.res.other (by omega) _ _⟩
abbrev zP : List Value := [.int .i64 0, .int .i64 0, .slice none 0 0]
theorem rows_set {w : World} {g k : Nat} {vs : List En} (h : St.Rows 47 encE w g vs) (hk : g ≠ k) (j : Nat) (x : Value) : St.Rows 47 encE (w.setCell ⟨k, j, none⟩ x) g vs := h.kept (Below.heap_setCell _ _ _ _ hk)

/-- What LogPut's answer is. -/
def Put (w : World) (Z : (Int × Int × List En) × Bool) (e : Ending) (w' : World) : Prop := ∃ ao', e = .returned (.tuple #[aggL Z.1.1 Z.1.2.1 ao' Z.1.2.2.length Z.1.2.2.length, .bool Z.2]) ∧ (∀ a, ao' = some a → w.heap.size ≤ a.block) ∧ OwnE w' ao' Z.1.2.2 ∧ Below w.heap.size w w'

set_option maxHeartbeats 4000000 in
set_option maxRecDepth 100000 in
theorem iLogPut {ao am : Option Addr} {L M : List En} {b t p pt : Int} {w : World} (hA : RdE w ao L) (hM : RdE w am M) (sA : ∀ v ∈ L, SmE v) (sM : ∀ v ∈ M, SmE v) (hL : L.length ≤ 1048576) (hMn : M.length ≤ 1048576) (p0 : -9223372036854775808 ≤ p) (p1 : p ≤ 9223372036854775807) :
    Calls Try.prog 16 #[aggL b t ao L.length L.length, .int .i64 p, .int .i64 pt, .slice am M.length M.length] w (Put w (putL b t L p pt M)) := by
  obtain ⟨W0, hW0⟩ : ∃ W0, W0 = (w.alloc (.cells #[.int .i64 b, .int .i64 t, .slice ao L.length L.length] 29)).alloc (.cells #[.int .i64 0, .int .i64 0, .slice none 0 0] 29) := ⟨_, rfl⟩
  have H0 : Hid (Lp w [.int .i64 b, .int .i64 t, .slice ao L.length L.length] zP W0) := by rw [hW0]; exact Lp.new w [.int .i64 b, .int .i64 t, .slice ao L.length L.length] zP
  have CK : Hid (∀ w', Below w.heap.size w w' → Calls Try.prog 9 #[aggL b t ao L.length L.length] w' fun e w'' => e = .returned (.bool (logB b t L)) ∧ Below w'.heap.size w' w'') := fun w' h => iLogOk (hA.below h) sA (by omega)
  have CC : Hid (∀ w', Below w.heap.size w w' → Calls Try.prog 32 #[aggL b t ao L.length L.length] w' fun e w'' => ∃ g, e = .returned (aggL b t (some ⟨g, 0, none⟩) L.length L.length) ∧ w'.heap.size ≤ g ∧ St.Rows 47 encE w'' g L ∧ Below w'.heap.size w' w'') := fun w' h => iCopyLog (hA.below h) hL (Nat.le_refl _) hL
  obtain ⟨Z, hZ⟩ : ∃ Z, Z = putL b t L p pt M := ⟨_, rfl⟩
  rw [← hZ]
  have hmn : (M.length : Int) ≤ 1048576 := by omega
  have COPY : Hid (Z = ((b, t, L), false) → ∀ (wr w3 : World) (g : Nat), Lp w [.int .i64 b, .int .i64 t, .slice ao L.length L.length] zP wr → wr.heap.size ≤ g → St.Rows 47 encE w3 g L → Below wr.heap.size wr w3 → ∀ (a : Act), a.tmps[8]? = some (.pointer (some ⟨w.heap.size + 1, 0, none⟩)) → a.tmps[9]? = some (.bool false) → a.defers = [] → bodyPost Try.prog Try.f16 (Put w Z) .ret a (((w3.setCell ⟨w.heap.size + 1, 0, none⟩ (.int .i64 b)).setCell ⟨w.heap.size + 1, 1, none⟩ (.int .i64 t)).setCell ⟨w.heap.size + 1, 2, none⟩ (.slice (some ⟨g, 0, none⟩) L.length L.length))) := by
    rintro rfl wr w3 g hP hg hR hb3 a h8 h9 hd
    have P3 := hP.later hb3
    have hlt := hP.res.lt
    have k := ((P3.res.set 0 (.int .i64 b)).set 1 (.int .i64 t)).set 2 (.slice (some ⟨g, 0, none⟩) L.length L.length)
    have x0 := k.cell 0 rfl
    have x1 := k.cell 1 rfl
    have x2 := k.cell 2 rfl
    refine bodyPost_ret (v := .tuple #[aggL b t (some ⟨g, 0, none⟩) L.length L.length, .bool false]) ?_ hd ⟨some ⟨g, 0, none⟩, rfl, ?_, .inr ⟨g, rfl, ?_⟩, ?_⟩
    · simp [results, Try.results16, go_sem, h8, h9, x0, x1, x2]
    · intro a' ha'
      simp only [Option.some.injEq] at ha'
      subst ha'
      exact Nat.le_trans hP.below.size hg
    · exact rows_set (rows_set (rows_set hR (by omega) _ _) (by omega) _ _) (by omega) _ _
    · exact ((P3.below.setCell (by simp) _).setCell (by simp) _).setCell (by simp) _
  cases hB : logB b t L with
  | false =>
    have HZ : Hid (Z = ((0, 0, []), false)) := by show _ = _; rw [hZ]; unfold putL; rw [hB]; rfl
    rw [hB] at CK
    clear hZ hA hM sA sM CC
    go_enter Try.func16, Try.ntmps16
    go_wp2_with (go_at_call 9; refine hold ?_)
    rw [← hW0]
    clear hW0
    refine Calls.mono (CK.out _ H0.out.below) ?_
    rintro e w1 ⟨rfl, hb1⟩
    have P1 := H0.out.later hb1
    have y0 := P1.res.cell 0 rfl
    have y1 := P1.res.cell 1 rfl
    have y2 := P1.res.cell 2 rfl
    have fy := P1.res.frozen
    have HP : Hid _ := P1
    clear P1 hb1 CK H0
    go_wp2_with fail
    have P3 := HP.out
    have k := ((P3.res.set 0 (.int .i64 0)).set 1 (.int .i64 0)).set 2 (.slice none 0 0)
    have x0 := k.cell 0 rfl
    have x1 := k.cell 1 rfl
    have x2 := k.cell 2 rfl
    rw [HZ.out]
    refine bodyPost_ret (v := .tuple #[aggL 0 0 none 0 0, .bool false]) ?_ rfl ⟨none, rfl, fun a ha => (by cases ha), .inl ⟨rfl, rfl⟩, ?_⟩
    · simp [results, Try.results16, go_sem, x0, x1, x2]
    · exact ((P3.below.setCell (by simp) _).setCell (by simp) _).setCell (by simp) _
  | true =>
    have hB' := hB
    rw [hB] at CK
    obtain ⟨g0, g1, g2, g3, g4, _⟩ := logB_parts hB'
    by_cases hp : pt < 0
    · have HZ : Hid (Z = ((b, t, L), false)) := by show _ = _; rw [hZ]; unfold putL; rw [if_pos hB, if_pos (.inl hp)]
      clear hZ hA hM sA sM
      go_enter Try.func16, Try.ntmps16
      go_wp2_with (go_at_call 9; refine hold ?_)
      rw [← hW0]
      clear hW0
      refine Calls.mono (CK.out _ H0.out.below) ?_
      rintro e w1 ⟨rfl, hb1⟩
      have P1 := H0.out.later hb1
      have q0 := P1.arg.cell 0 rfl
      have q1 := P1.arg.cell 1 rfl
      have q2 := P1.arg.cell 2 rfl
      go_wp2_with (go_at_call 32; refine hold ?_)
      clear q0 q1 q2
      refine Calls.mono (CC.out _ P1.below) ?_
      rintro e w3 ⟨g, rfl, hg, R3, hb3⟩
      have P3 := P1.later hb3
      have y0 := P3.res.cell 0 rfl
      have y1 := P3.res.cell 1 rfl
      have y2 := P3.res.cell 2 rfl
      have fy := P3.res.frozen
      have HF : Hid (Lp w [.int .i64 b, .int .i64 t, .slice ao L.length L.length] zP w1 ∧ (w1).heap.size ≤ g ∧ St.Rows 47 encE w3 g L ∧ Below (w1).heap.size (w1) w3) := ⟨P1, hg, R3, hb3⟩
      clear P3 R3 hb3 hg CC CK
      go_wp2_with fail
      exact COPY.out HZ.out _ w3 g HF.out.1 HF.out.2.1 HF.out.2.2.1 HF.out.2.2.2 _ rfl rfl rfl
    · have CT : Hid (∀ w', Below w.heap.size w w' → Calls Try.prog 31 #[aggL b t ao L.length L.length, .int .i64 p] w' fun e w'' => e = .returned (.int .i64 (termAt b t L p)) ∧ Below w'.heap.size w' w'') := fun w' h => iTermAt (hA.below h) g0 g1 hL p0 p1
      by_cases hT : termAt b t L p = pt
      · obtain ⟨hbp, hkl⟩ := termAt_place (by omega) hT
        rw [hT] at CT
        have hp3 : p ≤ 300 := by omega
        have hp0 : 0 ≤ p := by omega
        have hptp : decide (pt < 0) = false := decide_eq_false hp
        by_cases hfar : 300 - p < (M.length : Int)
        · have HZ : Hid (Z = ((b, t, L), false)) := by show _ = _; rw [hZ]; unfold putL; rw [if_pos hB, if_neg (by rintro (h | h); exact hp h; exact h hT), put_far (by omega) hT hfar]; rfl
          clear hZ hA hM sA sM hT hkl hbp g0 g1 g2 g3 g4
          go_enter Try.func16, Try.ntmps16
          go_wp2_with (go_at_call 9; refine hold ?_)
          rw [← hW0]
          clear hW0
          refine Calls.mono (CK.out _ H0.out.below) ?_
          rintro e w1 ⟨rfl, hb1⟩
          have P1 := H0.out.later hb1
          have q0 := P1.arg.cell 0 rfl
          have q1 := P1.arg.cell 1 rfl
          have q2 := P1.arg.cell 2 rfl
          go_wp2_with (go_at_call 31; refine hold ?_)
          clear q0 q1 q2
          refine Calls.mono (CT.out _ P1.below) ?_
          rintro e w2 ⟨rfl, hb2⟩
          have P2 := P1.later hb2
          have q0 := P2.arg.cell 0 rfl
          have q1 := P2.arg.cell 1 rfl
          have q2 := P2.arg.cell 2 rfl
          go_wp2_with (go_at_call 32; refine hold ?_)
          clear q0 q1 q2 CT
          refine Calls.mono (CC.out _ P2.below) ?_
          rintro e w3 ⟨g, rfl, hg, R3, hb3⟩
          have P3 := P2.later hb3
          have y0 := P3.res.cell 0 rfl
          have y1 := P3.res.cell 1 rfl
          have y2 := P3.res.cell 2 rfl
          have fy := P3.res.frozen
          have HF : Hid (Lp w [.int .i64 b, .int .i64 t, .slice ao L.length L.length] zP w2 ∧ (w2).heap.size ≤ g ∧ St.Rows 47 encE w3 g L ∧ Below (w2).heap.size (w2) w3) := ⟨P2, hg, R3, hb3⟩
          clear P3 R3 hb3 hg CC CK
          go_wp2_with fail
          exact COPY.out HZ.out _ w3 g HF.out.1 HF.out.2.1 HF.out.2.2.1 HF.out.2.2.2 _ rfl rfl rfl
        · obtain ⟨k, hk⟩ : ∃ k, k = (p - b).toNat := ⟨_, rfl⟩
          have hkp : p - b = k := by omega
          rw [← hk] at hkl
          obtain ⟨N, hN⟩ : ∃ N, N = putE L k M := ⟨_, rfl⟩
          have sN : ∀ v ∈ N, SmE v := fun v hv => by
            rw [hN] at hv
            rcases putE_mem L M k v hv with h | h
            · exact sA v h
            · exact sM v h
          have nN : N.length ≤ 4194304 := by
            have := putE_max L M k
            rw [← hN] at this
            omega
          have CP : Hid (∀ w', Below w.heap.size w w' → Calls Try.prog 33 #[.agg #[.int .i64 b, .slice ao L.length L.length], .int .i64 p, .slice am M.length M.length, .func (.func 34) #[] #[]] w' fun e w'' => ∃ g n, e = .returned (.slice (some ⟨g, 0, none⟩) n n) ∧ n = N.length ∧ w'.heap.size ≤ g ∧ St.Rows 47 encE w'' g N ∧ Below w'.heap.size w' w'') := fun w' h => by
            rw [hN]
            exact iPut (hA.below h) (hM.below h) hL hMn (Nat.le_refl _) hL (Nat.le_refl _) hMn hkp hkl
          have CN : Hid (∀ w' g, St.Rows 47 encE w' g N → Calls Try.prog 9 #[aggL b t (some ⟨g, 0, none⟩) N.length N.length] w' fun e w'' => e = .returned (.bool (logB b t N)) ∧ Below w'.heap.size w' w'') := fun w' g h => iLogOk (rows_rd h (sme_max sN)) sN nN
          have HZ : Hid (Z = if logB b t N = true then ((b, t, N), true) else ((b, t, L), false)) := by show _ = _; rw [hZ]; unfold putL; rw [if_pos hB, if_neg (by rintro (h | h); exact hp h; exact h hT), ← hk, ← hN]
          have ce := fun w' => iOf b t ao L.length L.length w'
          generalize logB b t N = V at *
          clear hZ hA hM sA sM hT hkl hbp g0 g1 g2 g3 g4 sN nN hN hk hkp
          go_enter Try.func16, Try.ntmps16
          go_wp2_with (go_at_call 9; refine hold ?_)
          rw [← hW0]
          clear hW0
          refine Calls.mono (CK.out _ H0.out.below) ?_
          rintro e w1 ⟨rfl, hb1⟩
          have P1 := H0.out.later hb1
          have q0 := P1.arg.cell 0 rfl
          have q1 := P1.arg.cell 1 rfl
          have q2 := P1.arg.cell 2 rfl
          go_wp2_with (go_at_call 31; refine hold ?_)
          clear q0 q1 q2
          refine Calls.mono (CT.out _ P1.below) ?_
          rintro e w2 ⟨rfl, hb2⟩
          have P2 := P1.later hb2
          have PD : Lp w [.int .i64 b, .int .i64 t, .slice ao L.length L.length] zP w2.drew := P2.later (Below.refl _ _).drew
          have q0 := P2.arg.cell 0 rfl
          have q1 := P2.arg.cell 1 rfl
          have q2 := P2.arg.cell 2 rfl
          have HP2 : Hid _ := PD
          clear P1 P2 PD hb1 hb2 H0 CT CK
          go_wp2_with fail
          go_cut [10] from 33 to 42 (fun v wx => ∃ q g, v = .pointer (some ⟨q, 0, none⟩) ∧ Hid (Lp w [.int .i64 b, .int .i64 t, .slice ao L.length L.length] zP wx ∧ Blk 29 wx q [.int .i64 b, .int .i64 t, .slice (some ⟨g, 0, none⟩) N.length N.length] ∧ St.Rows 47 encE wx g N ∧ w.heap.size + 1 < g ∧ w.heap.size + 1 < q))
          case first =>
            rename_i J hJ
            clear CC COPY HZ CN
            have lt2 : w.heap.size < w2.heap.size := HP2.out.arg.lt
            have hS : Hid (∀ w', Below w2.heap.size w2 w' → w'.cell? ⟨w.heap.size, 0, none⟩ = some (.int .i64 b) ∧ w'.cell? ⟨w.heap.size, 1, none⟩ = some (.int .i64 t) ∧ w'.cell? ⟨w.heap.size, 2, none⟩ = some (.slice ao L.length L.length)) := fun w' h => ⟨(h.cell (p := ⟨w.heap.size, 0, none⟩) lt2).trans q0, (h.cell (p := ⟨w.heap.size, 1, none⟩) lt2).trans q1, (h.cell (p := ⟨w.heap.size, 2, none⟩) lt2).trans q2⟩
            go_region_held3 (fun w' => w'.cell? ⟨w.heap.size, 0, none⟩ = some (.int .i64 b) ∧ w'.cell? ⟨w.heap.size, 1, none⟩ = some (.int .i64 t) ∧ w'.cell? ⟨w.heap.size, 2, none⟩ = some (.slice ao L.length L.length)) (first | exact hS.out _ B4 | exact hS.out _ (B4.alloc B4.size _) | exact hS.out _ (((B4.setCell (Nat.le_refl _) _).setCell (Nat.le_refl _) _).setCell (Nat.le_refl _) _) | exact hS.out _ (((B4.setCell B3.size _).setCell B3.size _).setCell B3.size _) | exact hS.out _ B3 | exact hS.out _ (B3.alloc B3.size _) | exact hS.out _ (Below.refl _ _).drew | exact hS.out _ ((Below.refl _ _).drew.alloc (Nat.le_refl _) _)) (first
              | (go_at_call 25; refine (ce _).mono ?_; rintro e w3 ⟨rfl, hb3⟩; have B3 : Below w2.heap.size w2 w3 := (by first | exact ((Below.refl _ w2).drew).trans (hb3.mono (by simp)) | exact (((Below.refl _ w2).drew).alloc (Nat.le_refl _) _).trans (hb3.mono (by simp))); have P3 : Hid (Lp w [.int .i64 b, .int .i64 t, .slice ao L.length L.length] zP w3) := (by first | exact HP2.out.later hb3 | exact (HP2.out.alloc _).later hb3))
              | (go_at_call 33; refine Calls.mono (CP.out _ (by first | exact P3.out.below | exact (P3.out.alloc _).below)) ?_; rintro e w4 ⟨g, n, rfl, rfl, hg, R4, hb4⟩; have B4 : Below w2.heap.size w2 w4 := (by first | exact B3.trans (hb4.mono B3.size) | exact (B3.alloc B3.size _).trans (hb4.mono (by have := B3.size; simp; omega))); have P4 : Hid (Lp w [.int .i64 b, .int .i64 t, .slice ao L.length L.length] zP w4) := (by first | exact P3.out.later hb4 | exact (P3.out.alloc _).later hb4); (try have K4 := (Blk.new 29 w3 zP).below hb4); (try have K4 : Blk 29 w4 w2.heap.size zP := ((Blk.new 29 w2.drew zP).below hb3).below hb4); (try have k0 := K4.cell 0 rfl); (try have k1 := K4.cell 1 rfl); (try have k2 := K4.cell 2 rfl); (try have kf := K4.frozen)))
            all_goals
              refine hJ _ _ ?_
              go_meet
              case rel =>
                have hl4 := P4.out.res.lt
                have hl3 := P3.out.res.lt
                have hl2 : w.heap.size + 1 < w2.heap.size := HP2.out.res.lt
                have hs3 := hb3.size
                have hs2 := B3.size
                try simp at hs3
                try simp at hg
                first
                  | exact ⟨_, g, rfl, P4.out.alloc _, Blk.new _ _ _, R4.kept (Below.heap_alloc _ _ _ R4.lt), by omega, by omega⟩
                  | exact ⟨_, g, rfl, ((P4.out.put (by first | omega | (simp; omega)) _ _).put (by first | omega | (simp; omega)) _ _).put (by first | omega | (simp; omega)) _ _, ((K4.set 0 _).set 1 _).set 2 _, rows_set (rows_set (rows_set R4 (by first | omega | (simp; omega)) _ _) (by first | omega | (simp; omega)) _ _) (by first | omega | (simp; omega)) _ _, by omega, by first | omega | (simp; omega)⟩
          case rest =>
            clear CP ce HP2 q0 q1 q2
            obtain ⟨q, g, rfl, HU⟩ := hcut
            have c0 := HU.out.2.1.cell 0 rfl
            have c1 := HU.out.2.1.cell 1 rfl
            have c2 := HU.out.2.1.cell 2 rfl
            go_wp2_with (go_at_call 9; refine hold ?_)
            clear c0 c1 c2
            refine Calls.mono (CN.out _ g HU.out.2.2.1) ?_
            rintro e w5 ⟨rfl, hb5⟩
            have P5 := HU.out.1.later hb5
            cases V with
            | false =>
              have HZ2 : Hid (Z = ((b, t, L), false)) := HZ.out.trans (if_neg (by simp))
              have q0 := P5.arg.cell 0 rfl
              have q1 := P5.arg.cell 1 rfl
              have q2 := P5.arg.cell 2 rfl
              go_wp2_with (go_at_call 32; refine hold ?_)
              clear q0 q1 q2
              refine Calls.mono (CC.out _ P5.below) ?_
              rintro e w3 ⟨g, rfl, hg, R3, hb3⟩
              have P3 := P5.later hb3
              have y0 := P3.res.cell 0 rfl
              have y1 := P3.res.cell 1 rfl
              have y2 := P3.res.cell 2 rfl
              have fy := P3.res.frozen
              have HF : Hid (Lp w [.int .i64 b, .int .i64 t, .slice ao L.length L.length] zP w5 ∧ (w5).heap.size ≤ g ∧ St.Rows 47 encE w3 g L ∧ Below (w5).heap.size (w5) w3) := ⟨P5, hg, R3, hb3⟩
              clear P3 R3 hb3 hg CC CN HU hb5
              go_wp2_with fail
              exact COPY.out HZ2.out _ w3 g HF.out.1 HF.out.2.1 HF.out.2.2.1 HF.out.2.2.2 _ rfl rfl rfl
            | true =>
              have HZ2 : Hid (Z = ((b, t, N), true)) := HZ.out.trans (if_pos rfl)
              have K5 := HU.out.2.1.below hb5
              have R5 := HU.out.2.2.1.kept (hb5.block _ HU.out.2.2.1.lt)
              have hg5 := HU.out.2.2.2.1
              have c0 := K5.cell 0 rfl
              have c1 := K5.cell 1 rfl
              have c2 := K5.cell 2 rfl
              have y0 := P5.res.cell 0 rfl
              have y1 := P5.res.cell 1 rfl
              have y2 := P5.res.cell 2 rfl
              have fy := P5.res.frozen
              have HF : Hid (Lp w [.int .i64 b, .int .i64 t, .slice ao L.length L.length] zP w5 ∧ St.Rows 47 encE w5 g N ∧ w.heap.size + 1 < g) := ⟨P5, R5, hg5⟩
              clear P5 K5 R5 hg5 HU hb5 CC CN COPY HZ
              go_wp2_with fail
              have P3 := HF.out.1
              have hg := HF.out.2.2
              have k := ((P3.res.set 0 (.int .i64 b)).set 1 (.int .i64 t)).set 2 (.slice (some ⟨g, 0, none⟩) N.length N.length)
              have x0 := k.cell 0 rfl
              have x1 := k.cell 1 rfl
              have x2 := k.cell 2 rfl
              rw [HZ2.out]
              refine bodyPost_ret (v := .tuple #[aggL b t (some ⟨g, 0, none⟩) N.length N.length, .bool true]) ?_ rfl ⟨some ⟨g, 0, none⟩, rfl, ?_, .inr ⟨g, rfl, ?_⟩, ?_⟩
              · simp [results, Try.results16, go_sem, x0, x1, x2]
              · intro a' ha'
                simp only [Option.some.injEq] at ha'
                subst ha'
                show w.heap.size ≤ g
                omega
              · exact rows_set (rows_set (rows_set HF.out.2.1 (by omega) _ _) (by omega) _ _) (by omega) _ _
              · exact ((P3.below.setCell (by simp) _).setCell (by simp) _).setCell (by simp) _
      · have HZ : Hid (Z = ((b, t, L), false)) := by show _ = _; rw [hZ]; unfold putL; rw [if_pos hB, if_pos (.inr hT)]
        have hne : (termAt b t L p == pt) = false := beq_eq_false_iff_ne.2 hT
        generalize termAt b t L p = T at *
        clear hZ hA hM sA sM g0 g1 g2 g3 g4
        go_enter Try.func16, Try.ntmps16
        go_wp2_with (go_at_call 9; refine hold ?_)
        rw [← hW0]
        clear hW0
        refine Calls.mono (CK.out _ H0.out.below) ?_
        rintro e w1 ⟨rfl, hb1⟩
        have P1 := H0.out.later hb1
        have q0 := P1.arg.cell 0 rfl
        have q1 := P1.arg.cell 1 rfl
        have q2 := P1.arg.cell 2 rfl
        go_wp2_with (go_at_call 31; refine hold ?_)
        clear q0 q1 q2
        refine Calls.mono (CT.out _ P1.below) ?_
        rintro e w2 ⟨rfl, hb2⟩
        have P2 := P1.later hb2
        have q0 := P2.arg.cell 0 rfl
        have q1 := P2.arg.cell 1 rfl
        have q2 := P2.arg.cell 2 rfl
        go_wp2_with (go_at_call 32; refine hold ?_)
        clear q0 q1 q2 CT
        refine Calls.mono (CC.out _ P2.below) ?_
        rintro e w3 ⟨g, rfl, hg, R3, hb3⟩
        have P3 := P2.later hb3
        have y0 := P3.res.cell 0 rfl
        have y1 := P3.res.cell 1 rfl
        have y2 := P3.res.cell 2 rfl
        have fy := P3.res.frozen
        have HF : Hid (Lp w [.int .i64 b, .int .i64 t, .slice ao L.length L.length] zP w2 ∧ (w2).heap.size ≤ g ∧ St.Rows 47 encE w3 g L ∧ Below (w2).heap.size (w2) w3) := ⟨P2, hg, R3, hb3⟩
        clear P3 R3 hb3 hg CC CK
        go_wp2_with fail
        exact COPY.out HZ.out _ w3 g HF.out.1 HF.out.2.1 HF.out.2.2.1 HF.out.2.2.2 _ rfl rfl rfl

end Lg
end Go.Proofs.Ytipjgkekjocljaa
