/-
  LogPut, the program's: a log's copy, what stands there when a list is put.
-/
import Derived.Test.YtipjgkekjocljaaLgPutI
import Derived.Test.YtipjgkekjocljaaRegFam
namespace Go.Proofs.Ytipjgkekjocljaa
open Go.RowKit
namespace Lg
open Oc (hold Blk heap_new)
set_option linter.unusedSimpArgs false
set_option linter.unusedVariables false

theorem iCopyLog {ao : Option Addr} {cap : Nat} {vs : List En} {b t : Int} {w : World} (hA : RdE w ao vs) (hn : vs.length ≤ 1048576) (hc : vs.length ≤ cap) (hcm : cap ≤ 1048576) :
    Calls Try.prog 32 #[aggL b t ao vs.length cap] w fun e w' => ∃ g, e = .returned (aggL b t (some ⟨g, 0, none⟩) vs.length vs.length) ∧ w.heap.size ≤ g ∧ St.Rows 47 encE w' g vs ∧ Below w.heap.size w w' := by
  obtain ⟨W0, hW0⟩ : ∃ W0, W0 = (w.alloc (.cells #[.int .i64 b, .int .i64 t, .slice ao vs.length cap] 29)).alloc (.cells #[.int .i64 0, .int .i64 0, .slice none 0 0] 29) := ⟨_, rfl⟩
  have H0 : Hid (Below w.heap.size w W0 ∧ Blk 29 W0 w.heap.size [.int .i64 b, .int .i64 t, .slice ao vs.length cap] ∧ Blk 29 W0 (w.heap.size + 1) [.int .i64 0, .int .i64 0, .slice none 0 0]) := by
    have k1 := Blk.new 29 w [.int .i64 b, .int .i64 t, .slice ao vs.length cap]
    have k2 := Blk.new 29 (w.alloc (.cells #[.int .i64 b, .int .i64 t, .slice ao vs.length cap] 29)) [.int .i64 0, .int .i64 0, .slice none 0 0]
    rw [World.size_alloc] at k2
    rw [hW0]
    exact ⟨((Below.refl _ w).alloc (Nat.le_refl _) _).alloc (by simp) _, k1.alloc _, k2⟩
  have ce := fun w' => iOf b t ao vs.length cap w'
  have ct : Hid (∀ w', Below w.heap.size w w' → Calls Try.prog 44 #[.agg #[.int .i64 b, .slice ao vs.length cap], .int .i64 0] w' fun e w'' => ∃ g, e = .returned (.slice (some ⟨g, 0, none⟩) vs.length vs.length) ∧ w'.heap.size ≤ g ∧ St.Rows 47 encE w'' g vs ∧ Below w'.heap.size w' w'') := fun w' h => iTail (hA.below h) hn hc hcm
  clear hA hn hc hcm
  go_enter Try.func32, Try.ntmps32
  go_wp2_with (go_at_call 25; refine hold ?_)
  rw [← hW0]
  clear hW0
  refine (ce _).mono ?_
  rintro e w1 ⟨rfl, hb1⟩
  obtain ⟨B0, K1, K2⟩ := H0.out
  have B1 := B0.trans (hb1.mono B0.size)
  go_wp2_with (go_at_call 44; refine hold ?_)
  refine Calls.mono (ct.out _ B1) ?_
  rintro e w2 ⟨g, rfl, hg, R, hb2⟩
  have B2 := B1.trans (hb2.mono B1.size)
  have K12 := (K1.below hb1).below hb2
  have K22 := (K2.below hb1).below hb2
  have hk2 := K2.lt
  have hs1 := hb1.size
  have z0 := K12.cell 0 rfl
  have z1 := K12.cell 1 rfl
  have z2 := K12.cell 2 rfl
  have f0 := K12.frozen
  have y0 := K22.cell 0 rfl
  have y1 := K22.cell 1 rfl
  have y2 := K22.cell 2 rfl
  have f1 := K22.frozen
  have hgl : w.heap.size + 1 < g := by omega
  have HK : Hid (Below w.heap.size w w2 ∧ Blk 29 w2 (w.heap.size + 1) [.int .i64 0, .int .i64 0, .slice none 0 0] ∧ St.Rows 47 encE w2 g vs) := ⟨B2, K22, R⟩
  clear B0 K1 K2 B1 B2 K12 K22 hb1 hb2 H0 ct ce R hs1
  go_wp2_with fail
  obtain ⟨B2, K22, R⟩ := HK.out
  have ro : ∀ {w' : World} {k : Nat}, St.Rows 47 encE w' g vs → g ≠ k → ∀ (j : Nat) (x : Value), St.Rows 47 encE (w'.setCell ⟨k, j, none⟩ x) g vs := fun h hk j x => h.kept (Below.heap_setCell _ _ _ _ hk)
  refine bodyPost_ret (v := aggL b t (some ⟨g, 0, none⟩) vs.length vs.length) ?_ rfl ⟨g, rfl, by omega, ?_, ?_⟩
  · have k := (((K22.other (g := w.heap.size) (by omega) 2 (.slice (some ⟨g, 0, none⟩) vs.length vs.length)).set 0 (.int .i64 b)).set 1 (.int .i64 t)).set 2 (.slice (some ⟨g, 0, none⟩) vs.length vs.length)
    have x0 := k.cell 0 rfl
    have x1 := k.cell 1 rfl
    have x2 := k.cell 2 rfl
    simp [results, Try.results32, go_sem, x0, x1, x2]
  · exact ro (ro (ro (ro R (by omega) _ _) (by omega) _ _) (by omega) _ _) (by omega) _ _
  · exact (((B2.setCell (by simp) _).setCell (by simp) _).setCell (by simp) _).setCell (by simp) _

/-- How many a slice has. -/
def many : Value → Nat
  | .slice _ n _ => n
  | _ => 0

theorem RdE.tail {w : World} {b o : Nat} {m : En} {ms : List En} (h : RdE w (some ⟨b, o, none⟩) (m :: ms)) : RdE w (some ⟨b, o + 4, none⟩) ms := fun i v hi => by
  obtain ⟨b', o', e, hl, hs, c0, c1, c2, c3⟩ := h (i + 1) v (by simpa using hi)
  simp only [Option.some.injEq, Addr.mk.injEq, and_true] at e
  obtain ⟨rfl, rfl⟩ := e
  refine ⟨b, o + 4, rfl, hl, hs, ?_, ?_, ?_, ?_⟩
  · rw [show o + 4 + i * 4 = o + (i + 1) * 4 by omega]; exact c0
  · rw [show o + 4 + i * 4 = o + (i + 1) * 4 by omega]; exact c1
  · rw [show o + 4 + i * 4 = o + (i + 1) * 4 by omega]; exact c2
  · rw [show o + 4 + i * 4 = o + (i + 1) * 4 by omega]; exact c3
theorem RdE.nothing {w : World} {ao : Option Addr} {vs : List En} (h : vs.length = 0) : RdE w ao vs := by
  obtain rfl := List.eq_nil_of_length_eq_zero h
  exact RdE.nil w ao

theorem spl_put {L M : List En} {j n : Nat} (hj : j ≤ L.length) (hn : n = j + M.length) : spl (spl (List.replicate n zeroE) 0 (L.take j)) j M = L.take j ++ M := by
  subst hn
  have h1 : (L.take j).length = j := by simp; omega
  have e1 : spl (List.replicate (j + M.length) zeroE) 0 (L.take j) = L.take j ++ List.replicate M.length zeroE := by
    unfold spl
    rw [List.take_zero, List.nil_append, Nat.zero_add, h1, List.drop_replicate]
    congr 2
    omega
  rw [e1]
  unfold spl
  have a1 : (L.take j ++ List.replicate M.length zeroE).take j = L.take j := by
    rw [List.take_append_of_le_length (by omega), List.take_of_length_le (by omega)]
  have a2 : (L.take j ++ List.replicate M.length zeroE).drop (j + M.length) = [] := by
    apply List.drop_eq_nil_of_le
    simp
    omega
  rw [a1, a2, List.append_nil]

set_option maxHeartbeats 4000000 in
set_option maxRecDepth 100000 in
theorem iPut {ao am : Option Addr} {cap capm : Nat} {L M : List En} {b p : Int} {k : Nat} {w : World} (hA : RdE w ao L) (hM : RdE w am M) (hL : L.length ≤ 1048576) (hMn : M.length ≤ 1048576) (hc : L.length ≤ cap) (hcm : cap ≤ 1048576) (hd : M.length ≤ capm) (hdm : capm ≤ 1048576) (hk : p - b = k) (hkl : k ≤ L.length) :
    Calls Try.prog 33 #[.agg #[.int .i64 b, .slice ao L.length cap], .int .i64 p, .slice am M.length capm, .func (.func 34) #[] #[]] w fun e w' => ∃ g n, e = .returned (.slice (some ⟨g, 0, none⟩) n n) ∧ n = (putE L k M).length ∧ w.heap.size ≤ g ∧ St.Rows 47 encE w' g (putE L k M) ∧ Below w.heap.size w w' := by
  have b0 := box w (.cells #[.int .i64 b, .slice ao L.length cap] 52)
  have K0 := Blk.new 52 w [.int .i64 b, .slice ao L.length cap]
  have bk : (k : Int) ≤ 1048576 := by omega
  have bL : (L.length : Int) ≤ cap := by omega
  have bc : (cap : Int) ≤ 1048576 := by omega
  obtain ⟨N, hN⟩ : ∃ N, N = putE L k M := ⟨_, rfl⟩
  rw [← hN]
  have HN : Hid (N = putE L k M) := hN
  have HA : Hid (RdE w ao L) := hA
  have HK0 : Hid (Blk 52 (w.alloc (.cells #[.int .i64 b, .slice ao L.length cap] 52)) w.heap.size [.int .i64 b, .slice ao L.length cap]) := K0
  clear hN K0
  go_enter Try.func33, Try.ntmps33
  go_wp2_with fail
  go_loopw [2, 9] (fun sv iv wr => ∃ (j : Nat) (rest : List En) (al : Option Addr) (lc : Nat), iv = .int .i64 j ∧ sv = .slice al rest.length lc ∧ rest.length ≤ lc ∧ lc ≤ 1048576 ∧ j ≤ L.length ∧ Hid (N = putE L j rest) ∧ Hid (RdE w al rest) ∧ Below w.heap.size w wr ∧ Hid (Blk 52 wr w.heap.size [.int .i64 b, .slice ao L.length cap])) (fun sv _ _ => many sv)
  case atStart => exact ⟨k, M, am, capm, rfl, rfl, hd, hdm, hkl, HN, hM, b0, HK0⟩
  case round =>
    clear HN hM HK0 b0 hMn hd hdm hk hkl bk
    obtain ⟨j, rest, al, lc, rfl, rfl, hrl, hlc, hj, HN, HM, hb, HK⟩ := hrel
    have q1 := HK.out.cell 1 rfl
    have brl : (rest.length : Int) ≤ lc := by omega
    have blc : (lc : Int) ≤ 1048576 := by omega
    have bj : (j : Int) ≤ L.length := by omega
    have q0 := HK.out.cell 0 rfl
    have hlt := HK.out.lt
    by_cases hr0 : rest.length = 0
    · obtain rfl : rest = [] := List.eq_nil_of_length_eq_zero hr0
      have HT : Hid (∀ w', Below w.heap.size w w' → Calls Try.prog 44 #[.agg #[.int .i64 b, .slice ao L.length cap], .int .i64 0] w' fun e w'' => ∃ g, e = .returned (.slice (some ⟨g, 0, none⟩) L.length L.length) ∧ w'.heap.size ≤ g ∧ St.Rows 47 encE w'' g L ∧ Below w'.heap.size w' w'') := fun w' h => iTail (hA.below h) hL hc hcm
      have HN2 : Hid (N = L) := HN.out
      have HBD : Hid (∀ n, Below w.heap.size w (wr.drewN n)) := fun n => ⟨hb.os, hb.tape, hb.output, hb.size, hb.block⟩
      clear hA HN hL hc hcm hb hj hr0 hrl hlc brl blc HM HK bj hlt
      simp only [List.length_nil]
      go_wp2_with fail
      go_quiet (fail)
      go_wp2_with (go_at_call 44; refine Calls.mono (HT.out _ (HBD.out _)) ?_; rintro e w3 ⟨g, rfl, hg, R, hb3⟩)
      go_ret
      rw [HN2.out]
      exact ⟨g, _, rfl, rfl, Nat.le_trans (HBD.out 0).size hg, R, (HBD.out _).trans (hb3.mono (HBD.out 0).size)⟩
    · obtain ⟨m, ms, hms⟩ : ∃ m ms, rest = m :: ms := by
        cases rest with
        | nil => simp at hr0
        | cons m ms => exact ⟨m, ms, rfl⟩
      obtain ⟨bm, om, rfl, hbm, _, p0, p1, p2, p3⟩ := HM.out.below hb 0 m (by rw [hms]; rfl)
      rw [Nat.zero_mul, Nat.add_zero] at p0 p1 p2 p3
      have bm0 : 0 < (rest.length : Int) := by omega
      have dm0 : decide (0 < rest.length) = true := decide_eq_true (by omega)
      have bmz : ((rest.length : Int) == 0) = false := beq_eq_false_iff_ne.2 (by omega)
      have one1 := fun (u : En) w' => iOneTerm u m w'
      obtain ⟨I, F, _, HF0, HF1⟩ := Fam.family wr
      have HF2 : Hid (∃ i, wr.drew = F i) := HF1 _ (Below.refl _ wr).drew
      have HF3 : Hid (∀ i w', Below (F i).heap.size (F i) w' → ∃ i', w' = F i') := fun i w' h => HF1 _ ((HF0 i).trans (h.mono (HF0 i).size))
      have z1 : ∀ i, (F i).cell? ⟨w.heap.size, 1, none⟩ = some (.slice ao L.length cap) := fun i => ((HF0 i).cell (p := ⟨w.heap.size, 1, none⟩) hlt).trans q1
      have x0 : ∀ i, (F i).cell? ⟨bm, om, none⟩ = some (.int .i64 m.1) := fun i => ((HF0 i).cell (p := ⟨bm, om, none⟩) hbm).trans p0
      have x1 : ∀ i, (F i).cell? ⟨bm, om + 1, none⟩ = some (.int .i64 m.2.1) := fun i => ((HF0 i).cell (p := ⟨bm, om + 1, none⟩) hbm).trans p1
      have x2 : ∀ i, (F i).cell? ⟨bm, om + 2, none⟩ = some (.int .i64 m.2.2.1) := fun i => ((HF0 i).cell (p := ⟨bm, om + 2, none⟩) hbm).trans p2
      have x3 : ∀ i, (F i).cell? ⟨bm, om + 3, none⟩ = some (.string m.2.2.2) := fun i => ((HF0 i).cell (p := ⟨bm, om + 3, none⟩) hbm).trans p3
      have HB : Hid (∀ i, Below w.heap.size w (F i) ∧ Blk 52 (F i) w.heap.size [.int .i64 b, .slice ao L.length cap]) := fun i => ⟨hb.trans ((HF0 i).mono hb.size), HK.out.below (HF0 i)⟩
      by_cases hsame : L[j]?.map (fun v => v.1) = some m.1
      · obtain ⟨u, hu, hum⟩ := Option.map_eq_some_iff.1 hsame
        have hjl := (List.getElem?_eq_some_iff.1 hu).1
        obtain ⟨bl, ol, rfl, hbl, _, u0, u1, u2, u3⟩ := hA.below hb j u hu
        have y0 : ∀ i, (F i).cell? ⟨bl, ol + j * 4, none⟩ = some (.int .i64 u.1) := fun i => ((HF0 i).cell (p := ⟨bl, ol + j * 4, none⟩) hbl).trans u0
        have y1 : ∀ i, (F i).cell? ⟨bl, ol + j * 4 + 1, none⟩ = some (.int .i64 u.2.1) := fun i => ((HF0 i).cell (p := ⟨bl, ol + j * 4 + 1, none⟩) hbl).trans u1
        have y2 : ∀ i, (F i).cell? ⟨bl, ol + j * 4 + 2, none⟩ = some (.int .i64 u.2.2.1) := fun i => ((HF0 i).cell (p := ⟨bl, ol + j * 4 + 2, none⟩) hbl).trans u2
        have y3 : ∀ i, (F i).cell? ⟨bl, ol + j * 4 + 3, none⟩ = some (.string u.2.2.2) := fun i => ((HF0 i).cell (p := ⟨bl, ol + j * 4 + 3, none⟩) hbl).trans u3
        have bjl : (j : Int) < L.length := by omega
        have dj0 : decide (j < L.length) = true := decide_eq_true hjl
        have hum2 : (u.1 == m.1) = true := beq_iff_eq.2 hum
        have c1 := one1 u
        rw [hum2] at c1
        have HN3 : Hid (N = putE L (j + 1) ms) := by show _ = _; rw [HN.out, hms, putE_same hsame]
        have HM3 : Hid (RdE w (some ⟨bm, om + 4, none⟩) ms) := RdE.tail (by rw [← hms]; exact HM.out)
        have hml : ms.length = rest.length - 1 := by rw [hms]; simp
        have HML : Hid (ms.length = rest.length - 1) := hml
        clear HN hA hsame one1 hum hum2 hu hms HM HA hml hb HK HF0 HF1 p0 p1 p2 p3 u0 u1 u2 u3 q0 q1 hbl hbm hlt
        go_wp2_with fail
        refine Fam.wp_region_fam (F := F) (by kernel_rfl) (by kernel_rfl) HF2.out ?_
        repeat (go_big_quiet_step ((go_at_call 34; refine (c1 _).mono ?_; rintro e w3 ⟨rfl, hb3⟩; exact ⟨rfl, HF3.out _ _ hb3⟩)))
        refine wpQuiet_nil ?_
        rintro _ ⟨iq, rfl⟩
        go_wp2_with fail
        go_quiet (fail)
        all_goals go_wp2_with fail
        all_goals go_roundw
        case rel =>
          refine ⟨j + 1, ms, _, lc - 1, by go_num, by rw [HML.out], by rw [HML.out]; omega, by omega, hjl, HN3, ?_, ⟨(HB.out iq).1.os, (HB.out iq).1.tape, (HB.out iq).1.output, (HB.out iq).1.size, (HB.out iq).1.block⟩, (HB.out iq).2⟩
          have h1 := HML.out
          split
          · exact RdE.nothing (by omega)
          · exact HM3.out
        case measure => simp [many]; omega
      · have HNo : Hid (N = L.take j ++ rest) := by show _ = _; rw [HN.out, hms]; unfold putE; rw [if_neg hsame]
        obtain ⟨nn, hnn⟩ : ∃ nn, nn = j + rest.length := ⟨_, rfl⟩
        have HNN : Hid (nn = j + rest.length) := hnn
        have enn : (j : Int) + (rest.length : Int) = (nn : Int) := by omega
        have hnn3 : nn ≤ 4194304 := by omega
        have bnn : (nn : Int) ≤ 4194304 := by omega
        have jnn : (j : Int) ≤ nn := by omega
        have jnn2 : (j : Int) < nn := by omega
        have HT1 : Hid ((L.take j).length = Nat.min j nn) := by show _ = _; rw [List.length_take, Nat.min_eq_left hj]; exact (Nat.min_eq_left (by omega)).symm
        have HT2 : Hid (0 + (L.take j).length ≤ (List.replicate nn zeroE).length) := by show _ ≤ _; rw [List.length_replicate, List.length_take]; omega
        have HT3 : Hid (rest.length = Nat.min rest.length (nn - j)) := by show _ = _; exact (Nat.min_eq_left (by omega)).symm
        have HT4 : Hid (j + rest.length ≤ (spl (List.replicate nn zeroE) 0 (L.take j)).length) := by show _ ≤ _; unfold spl; simp; omega
        by_cases hjl : j < L.length
        · obtain ⟨u, hu⟩ : ∃ u, L[j]? = some u := ⟨_, List.getElem?_eq_getElem hjl⟩
          have hum : u.1 ≠ m.1 := fun e => hsame (by rw [hu]; simpa using e)
          obtain ⟨bl, ol, rfl, hbl, _, u0, u1, u2, u3⟩ := hA.below hb j u hu
          have y0 : ∀ i, (F i).cell? ⟨bl, ol + j * 4, none⟩ = some (.int .i64 u.1) := fun i => ((HF0 i).cell (p := ⟨bl, ol + j * 4, none⟩) hbl).trans u0
          have y1 : ∀ i, (F i).cell? ⟨bl, ol + j * 4 + 1, none⟩ = some (.int .i64 u.2.1) := fun i => ((HF0 i).cell (p := ⟨bl, ol + j * 4 + 1, none⟩) hbl).trans u1
          have y2 : ∀ i, (F i).cell? ⟨bl, ol + j * 4 + 2, none⟩ = some (.int .i64 u.2.2.1) := fun i => ((HF0 i).cell (p := ⟨bl, ol + j * 4 + 2, none⟩) hbl).trans u2
          have y3 : ∀ i, (F i).cell? ⟨bl, ol + j * 4 + 3, none⟩ = some (.string u.2.2.2) := fun i => ((HF0 i).cell (p := ⟨bl, ol + j * 4 + 3, none⟩) hbl).trans u3
          have bjl : (j : Int) < L.length := by omega
          have dj0 : decide (j < L.length) = true := decide_eq_true hjl
          have hum2 : (u.1 == m.1) = false := beq_eq_false_iff_ne.2 hum
          have c1 := one1 u
          rw [hum2] at c1
          have hM : Hid _ := HM
          clear HN hsame one1 hum hum2 hu hms hb HK HF0 HF1 p0 p1 p2 p3 u0 u1 u2 u3 q0 q1 hbl hbm hlt hA hnn hM
          go_wp2_with fail
          refine Fam.wp_region_fam (F := F) (by kernel_rfl) (by kernel_rfl) HF2.out ?_
          repeat (go_big_quiet_step ((go_at_call 34; refine (c1 _).mono ?_; rintro e w3 ⟨rfl, hb3⟩; exact ⟨rfl, HF3.out _ _ hb3⟩)))
          refine wpQuiet_nil ?_
          rintro _ ⟨iq, rfl⟩
          have hlt2 := (HB.out iq).2.lt
          have BQ := (HB.out iq).1
          have hmk := make_entries nn hnn3
          have bW := BQ.alloc BQ.size (.cells ((List.replicate nn zeroE).flatMap encE).toArray 47)
          have HW : Hid (St.Rows 47 encE ((F iq).alloc (.cells ((List.replicate nn zeroE).flatMap encE).toArray 47)) (F iq).heap.size (List.replicate nn zeroE)) := heap_new _ _
          have HRD : Hid (RdE ((F iq).alloc (.cells ((List.replicate nn zeroE).flatMap encE).toArray 47)) (some ⟨bl, ol, none⟩) (L.take j)) := (HA.out.below bW).take j
          go_wp2_with (first
            | (refine wpList_copy_ent rfl (.tmp 51) (.tmp 55) rfl _ _ _ _ _ _ rfl rfl (F iq).heap.size 0 (List.replicate nn zeroE) HW.out (L.take j) HT1.out (fun hp => ⟨rfl, HRD.out⟩) HT2.out w.heap.size w bW BQ.size ?_; intro w3 HR3 hb3)
            | (refine wpList_copy_ent rfl (.tmp 59) (.tmp 60) rfl _ _ _ _ _ _ rfl rfl (F iq).heap.size j (spl (List.replicate nn zeroE) 0 (L.take j)) HR3.out rest HT3.out (fun hp => ⟨rfl, HM.out.below hb3⟩) HT4.out w.heap.size w hb3 BQ.size ?_; intro w4 HR4 hb4))
          go_ret
          have hr4 := HR4.out
          rw [spl_put hj HNN.out] at hr4
          exact ⟨_, nn, rfl, by rw [HNo.out, HNN.out]; simp; omega, BQ.size, by rw [HNo.out]; exact hr4, hb4⟩
        · have dj0 : decide (j < L.length) = false := decide_eq_false hjl
          clear HN hsame one1 hms hb HK HF0 HF1 p0 p1 p2 p3 q0 q1 hbm hlt hA hnn
          go_wp2_with fail
          refine Fam.wp_region_fam (F := F) (by kernel_rfl) (by kernel_rfl) HF2.out ?_
          repeat (go_big_quiet_step (fail))
          refine wpQuiet_nil ?_
          rintro _ ⟨iq, rfl⟩
          have hlt2 := (HB.out iq).2.lt
          have BQ := (HB.out iq).1
          have hmk := make_entries nn hnn3
          have bW := BQ.alloc BQ.size (.cells ((List.replicate nn zeroE).flatMap encE).toArray 47)
          have HW : Hid (St.Rows 47 encE ((F iq).alloc (.cells ((List.replicate nn zeroE).flatMap encE).toArray 47)) (F iq).heap.size (List.replicate nn zeroE)) := heap_new _ _
          have HRD : Hid (RdE ((F iq).alloc (.cells ((List.replicate nn zeroE).flatMap encE).toArray 47)) ao (L.take j)) := (HA.out.below bW).take j
          go_wp2_with (first
            | (refine wpList_copy_ent rfl (.tmp 51) (.tmp 55) rfl _ _ _ _ _ _ rfl rfl (F iq).heap.size 0 (List.replicate nn zeroE) HW.out (L.take j) HT1.out (fun hp => ⟨rfl, HRD.out⟩) HT2.out w.heap.size w bW BQ.size ?_; intro w3 HR3 hb3)
            | (refine wpList_copy_ent rfl (.tmp 59) (.tmp 60) rfl _ _ _ _ _ _ rfl rfl (F iq).heap.size j (spl (List.replicate nn zeroE) 0 (L.take j)) HR3.out rest HT3.out (fun hp => ⟨rfl, HM.out.below hb3⟩) HT4.out w.heap.size w hb3 BQ.size ?_; intro w4 HR4 hb4))
          go_ret
          have hr4 := HR4.out
          rw [spl_put hj HNN.out] at hr4
          exact ⟨_, nn, rfl, by rw [HNo.out, HNN.out]; simp; omega, BQ.size, by rw [HNo.out]; exact hr4, hb4⟩

end Lg
end Go.Proofs.Ytipjgkekjocljaa
