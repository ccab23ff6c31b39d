/-
  LogPut, the specification's, at all arguments.
-/
import Derived.Test.YtipjgkekjocljaaLgPutS
namespace Go.Proofs.Ytipjgkekjocljaa
open Go.RowKit
namespace Lg
open Oc (hold Blk heap_new)
set_option linter.unusedSimpArgs false
set_option linter.unusedVariables false

/-- What LogPut's answer is, where it is read alone. -/
def PutS (w : World) (Z : (Int × Int × List En) × Bool) (e : Ending) (w' : World) : Prop := ∃ ao' c', e = .returned (.tuple #[aggL Z.1.1 Z.1.2.1 ao' Z.1.2.2.length c', .bool Z.2]) ∧ RdE w' ao' Z.1.2.2 ∧ Below w.heap.size w w'

theorem ERow.apart {B : Nat} {w : World} {ao : Option Addr} {c : Nat} {N : List En} {T : TypeId} {q : Nat} {xs : List Value} (h : ERow B w ao c N) (hk : Blk T w q xs) (hT : T ≠ 47) : ∀ a, ao = some a → a.block ≠ q := by
  rintro a rfl rfl
  rcases h.2 with ⟨h0, _⟩ | ⟨g', cap', cur, he, _, hh, _⟩
  · simp at h0
  · simp at he
    obtain ⟨rfl, rfl⟩ := he
    unfold Blk at hk
    rw [hk] at hh
    simp at hh
    exact hT hh.2
theorem ERow.some {B : Nat} {w : World} {ao : Option Addr} {c : Nat} {N : List En} (h : ERow B w ao c N) (hp : 0 < N.length) : ∃ ad, ao = Option.some ad := by
  cases ao with
  | none =>
    rcases h.2 with ⟨_, h0⟩ | ⟨g', cap', cur, he, _⟩
    · omega
    · simp at he
  | some a => exact ⟨a, rfl⟩
theorem ERow.room {B : Nat} {w : World} {ao : Option Addr} {c : Nat} {N : List En} (h : ERow B w ao c N) (hp : 0 < N.length) : N.length ≤ c := by
  rcases h.2 with ⟨_, h0⟩ | ⟨g', cap', cur, he, _, _, hn, _⟩
  · omega
  · simp only [Value.slice.injEq] at he
    obtain ⟨_, _, rfl⟩ := he
    exact hn
theorem rd_one (w : World) (m : En) (hs : m.2.2.2.size ≤ maxLen) : RdE (w.alloc (.cells #[.int .i64 m.1, .int .i64 m.2.1, .int .i64 m.2.2.1, .string m.2.2.2] 47)) (some ⟨w.heap.size, 0, none⟩) [m] :=
  rows_rd (show St.Rows 47 encE (w.alloc (.cells #[.int .i64 m.1, .int .i64 m.2.1, .int .i64 m.2.2.1, .string m.2.2.2] 47)) w.heap.size [m] from heap_new _ _) (fun v hv => by simp at hv; rw [hv]; exact hs)

/-- The log that is put to, in its variable and its row. -/
structure Gr (w : World) (p0 : List Value) (q B : Nat) (b t : Int) (ao : Option Addr) (c : Nat) (N : List En) (wr : World) : Prop where
  lp : Lp w p0 zP wr
  hq : w.heap.size + 1 < q
  hB : w.heap.size + 1 < B
  out : Blk 29 wr q [.int .i64 b, .int .i64 t, .slice ao N.length c]
  row : ERow B wr ao c N
  bs : B ≤ wr.heap.size
  sm : ∀ v ∈ N, SmE v
theorem Gr.later {w : World} {p0 : List Value} {q B : Nat} {b t : Int} {ao : Option Addr} {c : Nat} {N : List En} {wr w' : World} (h : Gr w p0 q B b t ao c N wr) (hb : Below wr.heap.size wr w') : Gr w p0 q B b t ao c N w' :=
  ⟨h.lp.later hb, h.hq, h.hB, h.out.below hb, h.row.below hb (Nat.le_refl _), Nat.le_trans h.bs hb.size, h.sm⟩
theorem Gr.alloc {w : World} {p0 : List Value} {q B : Nat} {b t : Int} {ao : Option Addr} {c : Nat} {N : List En} {wr : World} (h : Gr w p0 q B b t ao c N wr) (o : Obj) : Gr w p0 q B b t ao c N (wr.alloc o) := h.later (box wr o)
theorem Gr.rd {w : World} {p0 : List Value} {q B : Nat} {b t : Int} {ao : Option Addr} {c : Nat} {N : List En} {wr : World} (h : Gr w p0 q B b t ao c N wr) : RdE wr ao N := h.row.rd (sme_max h.sm)
/-- Another row is laid in its place. -/
theorem Gr.lay {w : World} {p0 : List Value} {q B : Nat} {b t : Int} {ao ao' : Option Addr} {c c' : Nat} {N N' : List En} {wr w' : World} (h : Gr w p0 q B b t ao c N wr) (hr : ERow B w' ao' c' N') (hb : Below B wr w') (hc : ChE wr w') (hs : ∀ v ∈ N', SmE v) :
    Gr w p0 q B b t ao' c' N' (w'.setCell ⟨q, 2, none⟩ (.slice ao' N'.length c')) := by
  have hB := h.hB
  have o' := hc.blk h.out (by decide)
  have l' : Lp w p0 zP w' := ⟨h.lp.below.trans (hb.mono (by omega)), hc.blk h.lp.arg (by decide), hc.blk h.lp.res (by decide)⟩
  refine ⟨l'.put h.hq _ _, h.hq, h.hB, o'.set 2 _, hr.same fun a ha => Below.heap_setCell _ _ _ _ (hr.apart o' (by decide) a ha), by simp; exact Nat.le_trans h.bs hc.1, hs⟩

set_option maxHeartbeats 8000000 in
set_option maxRecDepth 100000 in
theorem sLogPut {ad am : Addr} {cap capm : Nat} {L M : List En} {b t p pt : Int} {w : World} (hA : RdE w (some ad) L) (hM : RdE w (some am) M) (sA : ∀ v ∈ L, SmE v) (sM : ∀ v ∈ M, SmE v) (hL : L.length ≤ 1048576) (hMn : M.length ≤ 1048576) :
    Calls Try.prog 14 #[aggL b t (some ad) L.length cap, .int .i64 p, .int .i64 pt, .slice (some am) M.length capm] w (PutS w (putL b t L p pt M)) := by
  obtain ⟨p0, hp0⟩ : ∃ p0 : List Value, p0 = [.int .i64 b, .int .i64 t, .slice (some ad) L.length cap] := ⟨_, rfl⟩
  obtain ⟨W0, hW0⟩ : ∃ W0, W0 = (w.alloc (.cells #[.int .i64 b, .int .i64 t, .slice (some ad) L.length cap] 29)).alloc (.cells #[.int .i64 0, .int .i64 0, .slice none 0 0] 29) := ⟨_, rfl⟩
  have H0 : Hid (Lp w p0 zP W0) := by rw [hW0, hp0]; exact Lp.new w [.int .i64 b, .int .i64 t, .slice (some ad) L.length cap] zP
  have ARG : Hid (∀ wr, Lp w p0 zP wr → wr.cell? ⟨w.heap.size, 0, none⟩ = some (.int .i64 b) ∧ wr.cell? ⟨w.heap.size, 1, none⟩ = some (.int .i64 t) ∧ wr.cell? ⟨w.heap.size, 2, none⟩ = some (.slice (some ad) L.length cap)) := fun wr h => by
    have := h.arg
    rw [hp0] at this
    exact ⟨this.cell 0 rfl, this.cell 1 rfl, this.cell 2 rfl⟩
  have RES : Hid (∀ wr, Lp w p0 zP wr → wr.cell? ⟨w.heap.size + 1, 0, none⟩ = some (.int .i64 0) ∧ wr.cell? ⟨w.heap.size + 1, 1, none⟩ = some (.int .i64 0) ∧ wr.cell? ⟨w.heap.size + 1, 2, none⟩ = some (.slice none 0 0) ∧ (∀ j, wr.frozen? ⟨w.heap.size + 1, j, none⟩ = false)) := fun wr h => ⟨h.res.cell 0 rfl, h.res.cell 1 rfl, h.res.cell 2 rfl, h.res.frozen⟩
  have CK : Hid (∀ w', Below w.heap.size w w' → Calls Try.prog 7 #[aggL b t (some ad) L.length cap] w' fun e w'' => e = .returned (.bool (logB b t L)) ∧ Below w'.heap.size w' w'') := fun w' h => sLogOk (hA.below h) sA (by omega)
  have CC : Hid (∀ w', Below w.heap.size w w' → Calls Try.prog 28 #[aggL b t (some ad) L.length cap] w' fun e w'' => ∃ ao' c', e = .returned (aggL b t ao' L.length c') ∧ ERow w'.heap.size w'' ao' c' L ∧ Below w'.heap.size w' w'') := fun w' h => sCopy (hA.below h) hL
  obtain ⟨Z, hZ⟩ : ∃ Z, Z = putL b t L p pt M := ⟨_, rfl⟩
  rw [← hZ]
  have FIN : Hid (∀ (b' t' : Int) (ok : Bool) (ao' : Option Addr) (c' : Nat) (N : List En), Z = ((b', t', N), ok) → ∀ (wr : World), Lp w p0 zP wr → RdE wr ao' N → (∀ a, ao' = some a → a.block ≠ w.heap.size + 1) → ∀ (a : Act), a.tmps[8]? = some (.pointer (some ⟨w.heap.size + 1, 0, none⟩)) → a.tmps[9]? = some (.bool ok) → a.defers = [] → bodyPost Try.prog Try.f14 (PutS w Z) .ret a (((wr.setCell ⟨w.heap.size + 1, 0, none⟩ (.int .i64 b')).setCell ⟨w.heap.size + 1, 1, none⟩ (.int .i64 t')).setCell ⟨w.heap.size + 1, 2, none⟩ (.slice ao' N.length c'))) := by
    rintro b' t' ok ao' c' N rfl wr P3 hR hne a h8 h9 hd
    have k := ((P3.res.set 0 (.int .i64 b')).set 1 (.int .i64 t')).set 2 (.slice ao' N.length c')
    have x0 := k.cell 0 rfl
    have x1 := k.cell 1 rfl
    have x2 := k.cell 2 rfl
    refine bodyPost_ret (v := .tuple #[aggL b' t' ao' N.length c', .bool ok]) ?_ hd ⟨ao', c', rfl, ?_, ?_⟩
    · simp [results, Try.results14, go_sem, h8, h9, x0, x1, x2]
    · exact hR.same (by simp) fun a ha _ => by rw [Below.heap_setCell _ _ _ _ (hne a ha), Below.heap_setCell _ _ _ _ (hne a ha), Below.heap_setCell _ _ _ _ (hne a ha)]
    · exact ((P3.below.setCell (by simp) _).setCell (by simp) _).setCell (by simp) _
  cases hB : logB b t L with
  | false =>
    have HZ : Hid (Z = ((0, 0, []), false)) := by show _ = _; rw [hZ]; unfold putL; rw [hB]; rfl
    rw [hB] at CK
    clear hZ hA hM sA sM CC hp0
    go_enter Try.func14, Try.ntmps14
    go_wp2_with (go_at_call 7; refine hold ?_)
    rw [← hW0]
    clear hW0
    refine Calls.mono (CK.out _ H0.out.below) ?_
    rintro e w1 ⟨rfl, hb1⟩
    have HP : Hid _ := H0.out.later hb1
    obtain ⟨y0, y1, y2, fy⟩ := RES.out _ HP.out
    clear hb1 CK H0
    go_wp2_with fail
    exact FIN.out 0 0 false none 0 [] HZ.out w1 HP.out (RdE.nil _ _) (fun a h => by cases h) _ rfl rfl rfl
  | true =>
    have hB' := hB
    rw [hB] at CK
    obtain ⟨g0, g1, g2, g3, g4, _⟩ := logB_parts hB'
    have CT : Hid (∀ w', Below w.heap.size w w' → Calls Try.prog 29 #[aggL b t (some ad) L.length cap, .int .i64 p] w' fun e w'' => e = .returned (.int .i64 (termAt b t L p)) ∧ Below w'.heap.size w' w'') := fun w' h => sTermAt (hA.below h) g0 g1 g4
    by_cases hp : pt < 0
    · have HZ : Hid (Z = ((b, t, L), false)) := by show _ = _; rw [hZ]; unfold putL; rw [if_pos hB, if_pos (.inl hp)]
      have smx := sme_max sA
      clear hZ hA hM sM hp0 CT
      go_enter Try.func14, Try.ntmps14
      go_wp2_with (go_at_call 7; refine hold ?_)
      rw [← hW0]
      clear hW0
      refine Calls.mono (CK.out _ H0.out.below) ?_
      rintro e w1 ⟨rfl, hb1⟩
      have P1 := H0.out.later hb1
      obtain ⟨q0, q1, q2⟩ := ARG.out _ P1
      go_wp2_with (go_at_call 28; refine hold ?_)
      clear q0 q1 q2
      refine Calls.mono (CC.out _ P1.below) ?_
      rintro e w2 ⟨ao2, cc2, rfl, hr2, hb2⟩
      have P2 := P1.later hb2
      obtain ⟨w3a, hw3a⟩ : ∃ w3a, w3a = w2.alloc (.cells #[.int .i64 b, .int .i64 t, .slice ao2 L.length cc2] 29) := ⟨_, rfl⟩
      have HG : Hid (Gr w p0 w2.heap.size w1.heap.size b t ao2 cc2 L w3a) := by
        have h1 := P1.res.lt
        have h2 := P2.res.lt
        have h3 := hb2.size
        rw [hw3a]
        exact ⟨P2.alloc _, h2, h1, Blk.new _ _ _, hr2.alloc _, by simp; omega, sA⟩
      have HW3 : Hid (w3a = w2.alloc (.cells #[.int .i64 b, .int .i64 t, .slice ao2 L.length cc2] 29)) := hw3a
      have c0 := HG.out.out.cell 0 rfl
      have c1 := HG.out.out.cell 1 rfl
      have c2 := HG.out.out.cell 2 rfl
      obtain ⟨y0, y1, y2, fy⟩ := RES.out _ HG.out.lp
      clear P1 P2 hr2 hb1 hb2
      go_upto_region 4 with fail
      rw [← hw3a]
      clear hw3a
      clear CC CK H0
      go_wp2_with fail
      exact FIN.out b t false _ _ L HZ.out w3a HG.out.lp (HG.out.rd) (fun a h => by have := (ERow.lt HG.out.row h).1; have := HG.out.hB; omega) _ rfl rfl rfl
    · have hptp : decide (pt < 0) = false := decide_eq_false hp
      by_cases hT : termAt b t L p = pt
      · obtain ⟨hbp, hkl⟩ := termAt_place (by omega) hT
        obtain ⟨k, hk⟩ : ∃ k, k = (p - b).toNat := ⟨_, rfl⟩
        have hkp : p - b = k := by omega
        rw [← hk] at hkl
        rw [hT] at CT
        obtain ⟨F, hF⟩ : ∃ F, F = putE L k M := ⟨_, rfl⟩
        have sF : ∀ v ∈ F, SmE v := fun v hv => by
          rw [hF] at hv
          rcases putE_mem L M k v hv with h | h
          · exact sA v h
          · exact sM v h
        have nF : F.length ≤ 4194304 := by
          have := putE_max L M k
          rw [← hF] at this
          omega
        have CN : Hid (∀ w' ao c, RdE w' ao F → Calls Try.prog 7 #[aggL b t ao F.length c] w' fun e w'' => e = .returned (.bool (logB b t F)) ∧ Below w'.heap.size w' w'') := fun w' ao c h => sLogOk h sF nF
        have HZ : Hid (Z = if logB b t F = true then ((b, t, F), true) else ((b, t, L), false)) := by show _ = _; rw [hZ]; unfold putL; rw [if_pos hB, if_neg (by rintro (h | h); exact hp h; exact h hT), ← hk, ← hF]
        have HF : Hid (putE L (k + 0) (M.drop 0) = F) := hF.symm
        have HM : Hid (RdE w (some am) M) := hM
        have HSM : Hid (∀ v ∈ M, SmE v) := sM
        generalize logB b t F = V at *
        have bM : (M.length : Int) ≤ 1048576 := by omega
        clear hZ hA hM sM hT hbp g0 g1 g2 g3 g4 sF nF hF hk hp0
        go_enter Try.func14, Try.ntmps14
        go_wp2_with (go_at_call 7; refine hold ?_)
        rw [← hW0]
        clear hW0
        refine Calls.mono (CK.out _ H0.out.below) ?_
        rintro e w1 ⟨rfl, hb1⟩
        have P1 := H0.out.later hb1
        obtain ⟨q0, q1, q2⟩ := ARG.out _ P1
        go_wp2_with (go_at_call 28; refine hold ?_)
        clear q0 q1 q2
        refine Calls.mono (CC.out _ P1.below) ?_
        rintro e w2 ⟨ao2, cc2, rfl, hr2, hb2⟩
        have P2 := P1.later hb2
        obtain ⟨w3a, hw3a⟩ : ∃ w3a, w3a = w2.alloc (.cells #[.int .i64 b, .int .i64 t, .slice ao2 L.length cc2] 29) := ⟨_, rfl⟩
        have HG : Hid (Gr w p0 w2.heap.size w1.heap.size b t ao2 cc2 L w3a) := by
          have h1 := P1.res.lt
          have h2 := P2.res.lt
          have h3 := hb2.size
          rw [hw3a]
          exact ⟨P2.alloc _, h2, h1, Blk.new _ _ _, hr2.alloc _, by simp; omega, sA⟩
        have HW3 : Hid (w3a = w2.alloc (.cells #[.int .i64 b, .int .i64 t, .slice ao2 L.length cc2] 29)) := hw3a
        have c0 := HG.out.out.cell 0 rfl
        have c1 := HG.out.out.cell 1 rfl
        have c2 := HG.out.out.cell 2 rfl
        obtain ⟨y0, y1, y2, fy⟩ := RES.out _ HG.out.lp
        clear P1 P2 hr2 hb1 hb2
        go_upto_region 4 with fail
        rw [← hw3a]
        clear hw3a
        obtain ⟨q0, q1, q2⟩ := ARG.out _ HG.out.lp
        go_wp2_with (go_at_call 29; refine hold ?_)
        clear q0 q1 q2 c0 c1 c2
        refine Calls.mono (CT.out _ HG.out.lp.below) ?_
        rintro e w4 ⟨rfl, hb4⟩
        have HG4 : Hid _ := HG.out.later hb4
        clear CK H0 CT hb4 HG HW3 y0 y1 y2 fy
        generalize w2.heap.size = q at *
        generalize w1.heap.size = B at *
        go_wp2_with fail
        go_loopw [11] (fun iv wr => ∃ (i : Nat) (N : List En) (ao : Option Addr) (c : Nat), iv = .int .i64 i ∧ i ≤ M.length ∧ k + i ≤ N.length ∧ N.length ≤ L.length + i ∧ Hid (putE N (k + i) (M.drop i) = F) ∧ Hid (Gr w p0 q B b t ao c N wr)) (fun iv _ => M.length - (intOf iv).toNat)
        case atStart => exact ⟨0, L, ao2, cc2, rfl, Nat.zero_le _, hkl, Nat.le_refl _, HF, HG4⟩
        case round =>
          clear HF HG4 hkl
          obtain ⟨i, N, ao, c, rfl, hi, hki, hNl, HF, HG⟩ := hrel
          have c2 := HG.out.out.cell 2 rfl
          have cf := HG.out.out.frozen
          have cl := HG.out.out.lt
          obtain ⟨q0, _, _⟩ := ARG.out _ HG.out.lp
          by_cases hil : i < M.length
          · obtain ⟨m, hm⟩ : ∃ m, M[i]? = some m := ⟨_, List.getElem?_eq_getElem hil⟩
            have hdr : M.drop i = m :: M.drop (i + 1) := by
              rw [List.drop_eq_getElem_cons hil]
              have := List.getElem?_eq_getElem hil
              rw [hm] at this
              simp at this
              rw [← this]
            obtain ⟨bm, om, eam, hbm, hms, p0', p1', p2', p3'⟩ := HM.out.below HG.out.lp.below i m hm
            simp only [Option.some.injEq] at eam
            subst eam
            have hsm : SmE m := HSM.out m (List.mem_of_getElem? hm)
            obtain ⟨ki, hkie⟩ : ∃ ki, ki = k + i := ⟨_, rfl⟩
            have eki : (k : Int) + (i : Int) = (ki : Int) := by omega
            have bki : (ki : Int) ≤ 4194304 := by omega
            rw [← hkie] at hki HF
            rw [hdr] at HF
            have HKI : Hid (ki = k + i) := hkie
            have hiI : (i : Int) < M.length := by omega
            have biI : (i : Int) ≤ 1048576 := by omega
            by_cases hkn : ki < N.length
            · obtain ⟨u, hu⟩ : ∃ u, N[ki]? = some u := ⟨_, List.getElem?_eq_getElem hkn⟩
              obtain ⟨bn, on, rfl, hbn, _, n0, _⟩ := HG.out.rd ki u hu
              have hknI : (ki : Int) < N.length := by omega
              by_cases hs : u.1 = m.1
              · have hs2 : (u.1 == m.1) = true := beq_iff_eq.2 hs
                have HF2 : Hid (putE N (ki + 1) (M.drop (i + 1)) = F) := by
                  have := HF.out
                  rw [putE_same (by rw [hu]; simpa using hs)] at this
                  exact this
                clear HF hdr hm hu hs hkie cf
                go_wp2_with fail
                go_quiet (fail)
                go_wp2_with fail
                go_roundw
                case rel =>
                  have e1 := HKI.out
                  refine ⟨i + 1, N, some ⟨bn, on, none⟩, c, by go_num, hil, by omega, by omega, ?_, ?_⟩
                  · have := HF2.out
                    rw [e1] at this
                    exact this
                  · have g := HG.out
                    exact g.later (show Below wr.heap.size wr (wr.drewN nq) from ⟨rfl, rfl, rfl, Nat.le_refl _, fun _ _ => rfl⟩)
                case measure => simp [intOf]; omega
              · have hs2 : (u.1 == m.1) = false := beq_eq_false_iff_ne.2 hs
                obtain ⟨Nx, hNx⟩ : ∃ Nx, Nx = N.take ki := ⟨_, rfl⟩
                have hNxl : Nx.length = ki := by rw [hNx, List.length_take]; omega
                have HNX : Hid (Nx.length = ki) := hNxl
                have HLX : Hid (Nx.length ≤ L.length + i) := by show _ ≤ _; omega
                have HFX : Hid (putE (Nx ++ [m]) (ki + 1) (M.drop (i + 1)) = F) := by
                  have := putE_turn (L := N) (k := ki) (m := m) (ms := M.drop (i + 1)) hki (by rw [hu]; simpa using hs)
                  show _ = _
                  rw [hNx, this]
                  exact HF.out
                have hcap := HG.out.row.room (by omega)
                have hcI : (ki : Int) ≤ c := by omega
                have HE0 : Hid (([] ++ Nx : List En).length = ki) := by show _ = _; rw [List.nil_append]; exact hNxl
                have HRO5 : Hid (([] : List En).length + Nx.length ≤ 3000000) := by show _ ≤ _; rw [hNxl]; simp; omega
                have sNx : ∀ v ∈ Nx, SmE v := fun v hv => HG.out.sm v (by rw [hNx] at hv; exact List.mem_of_mem_take hv)
                have HSN : Hid _ := sNx
                have HMI : Hid (M[i]? = some m) := hm
                have HNT : Hid (Nx = N.take ki) := hNx
                clear sNx hcap hm hdr hkie hNx hNxl hu hs HF cf
                go_wp2_with fail
                go_quiet (fail)
                obtain ⟨wz, hwz⟩ : ∃ wz, wz = wr.drewN nq := ⟨_, rfl⟩
                have HGZ : Hid (Gr w p0 q B b t (some ⟨bn, on, none⟩) c N wz) := by rw [hwz]; exact HG.out.later (show Below wr.heap.size wr (wr.drewN nq) from ⟨rfl, rfl, rfl, Nat.le_refl _, fun _ _ => rfl⟩)
                rw [← hwz]
                clear hwz c2 cl q0 n0 hbn
                have c2 := HGZ.out.out.cell 2 rfl
                have cf := HGZ.out.out.frozen
                have cl := HGZ.out.out.lt
                have h1 := box wz (.cells #[] 47)
                have HRW : Hid (ERow B (wz.alloc (.cells #[] 47)) (some ⟨wz.heap.size, 0, none⟩) 0 []) := ERow.new wz HGZ.out.bs
                have HRD : Hid (RdE (wz.alloc (.cells #[] 47)) (some ⟨bn, on, none⟩) Nx) := by rw [HNT.out]; exact (HGZ.out.rd.below h1).take ki
                have HBZ : Hid (B ≤ (wz.alloc (.cells #[] 47)).heap.size) := Nat.le_trans HGZ.out.bs h1.size
                have HCZ : Hid (∀ w5, Below B (wz.alloc (.cells #[] 47)) w5 → ChE (wz.alloc (.cells #[] 47)) w5 → Below B wz w5 ∧ ChE wz w5) := fun w5 a1 a2 => ⟨(h1.mono HGZ.out.bs).trans a1, (ChE.of_below h1).trans a2⟩
                clear h1
                go_wp2_with (refine app_ent (B := B) rfl (.tmp 58) (.tmp 62) rfl rfl [] Nx _ _ _ _ rfl (by rw [HNX.out]; rfl) HRW.out HRD.out HRO5.out HBZ.out ?_; rw [HE0.out]; intro a5 c5 w5 hr5 hb5 hc5; have hb5' := (HCZ.out _ hb5 hc5).1; have hc5' := (HCZ.out _ hb5 hc5).2; have k5 := hc5'.blk HGZ.out.out (by decide); have v5 := k5.cell 2 rfl; have vf5 := k5.frozen)
                obtain ⟨w6, hw6⟩ : ∃ w6, w6 = w5.setCell ⟨q, 2, none⟩ (.slice a5 ki c5) := ⟨_, rfl⟩
                have HGX : Hid (Gr w p0 q B b t a5 c5 Nx w6) := by
                  have g := HGZ.out.lay (N' := Nx) (ao' := a5) (c' := c5) (by rw [List.nil_append] at hr5; exact hr5) hb5' hc5' HSN.out
                  rw [HNX.out, ← hw6] at g
                  exact g
                rw [← hw6]
                clear hw6
                have HE2 : Hid ((Nx ++ [m]).length = ki + 1) := by show _ = _; rw [List.length_append, HNX.out]; rfl
                have hmW := HM.out.below HGX.out.lp.below
                have HX : Hid (∀ o, ERow B (w6.alloc o).drew a5 c5 Nx ∧ B ≤ (w6.alloc o).drew.heap.size) := fun o => ⟨HGX.out.row.alloc o, by have := HGX.out.bs; show B ≤ (w6.alloc o).heap.size; simp; omega⟩
                have HONE : Hid (RdE (w6.alloc (.cells #[.int .i64 m.1, .int .i64 m.2.1, .int .i64 m.2.2.1, .string m.2.2.2] 47)).drew (some ⟨w6.heap.size, 0, none⟩) [m]) := rd_one w6 m hms
                have HRO : Hid (Nx.length + [m].length ≤ 3000000) := by show _ ≤ _; rw [HNX.out]; simp; omega
                have lq : q < w6.heap.size := HGX.out.out.lt
                have x2 : w6.cell? ⟨q, 2, none⟩ = some (.slice a5 ki c5) := by rw [← HNX.out]; exact HGX.out.out.cell 2 rfl
                obtain ⟨bm', om', em', lbm, _, u0, u1, u2, u3⟩ := HM.out.below HGX.out.lp.below i m HMI.out
                simp only [Option.some.injEq, Addr.mk.injEq, and_true] at em'
                obtain ⟨rfl, rfl⟩ := em'
                have BX : Hid (∀ o w', Below B (w6.alloc o).drew w' → ChE (w6.alloc o).drew w' → Below B w6 w' ∧ ChE w6 w') := fun o w' h1 h2 => ⟨(((Below.refl B w6).alloc HGX.out.bs o).drew).trans h1, (ChE.alloc w6 o).trans (show ChE (w6.alloc o) w' from h2)⟩
                clear hmW
                go_region_law (first
                  | (refine step_app (B := B) rfl (.tmp 66) (.tmp 71) rfl rfl Nx [m] _ _ _ _ (by rw [HNX.out]; rfl) rfl (HX.out _).1 HONE.out HRO.out (HX.out _).2 ?_; rw [HE2.out]; intro a7 c7 w7 hr7 hb7 hc7; have hb8 := (BX.out _ _ hb7 hc7).1; have hc8 := (BX.out _ _ hb7 hc7).2; have k7 := hc8.blk HGX.out.out (by decide); have v2 := k7.cell 2 rfl; have vf := k7.frozen))
                all_goals
                  go_wp2_with fail
                  go_roundw
                  case rel =>
                    have e1 := HKI.out
                    have e2 := HE2.out
                    have g := HGX.out.lay hr7 hb8 hc8 (fun v hv => by
                      rcases List.mem_append.1 hv with h | h
                      · exact HGX.out.sm v h
                      · simp at h; rw [h]; exact hsm)
                    rw [e2] at g
                    refine ⟨i + 1, Nx ++ [m], a7, c7, by go_num, hil, by omega, by have := HLX.out; rw [List.length_append]; simp; omega, ?_, g⟩
                    have := HFX.out
                    rw [e1] at this
                    exact this
                  case measure => simp [intOf]; omega
            · have hkN : ki = N.length := by omega
              have HNX : Hid (N.length = ki) := hkN.symm
              have HGX : Hid (Gr w p0 q B b t ao c N wr) := HG
              have HLX : Hid (N.length ≤ L.length + i) := hNl
              have HFX : Hid (putE (N ++ [m]) (ki + 1) (M.drop (i + 1)) = F) := by
                have := putE_turn (L := N) (k := ki) (m := m) (ms := M.drop (i + 1)) hki (by rw [List.getElem?_eq_none (by omega)]; simp)
                rw [List.take_of_length_le (by omega)] at this
                show _ = _
                rw [this]
                exact HF.out
              have hkf : ¬ (ki : Int) < N.length := by omega
              rw [← hkN] at c2
              clear hkN
              have HE2 : Hid ((N ++ [m]).length = ki + 1) := by show _ = _; rw [List.length_append, HNX.out]; rfl
              have hmW := HM.out.below HGX.out.lp.below
              have HX : Hid (∀ o, ERow B (wr.alloc o).drew ao c N ∧ B ≤ (wr.alloc o).drew.heap.size) := fun o => ⟨HGX.out.row.alloc o, by have := HGX.out.bs; show B ≤ (wr.alloc o).heap.size; simp; omega⟩
              have HONE : Hid (RdE (wr.alloc (.cells #[.int .i64 m.1, .int .i64 m.2.1, .int .i64 m.2.2.1, .string m.2.2.2] 47)).drew (some ⟨wr.heap.size, 0, none⟩) [m]) := rd_one wr m hms
              have HRO : Hid (N.length + [m].length ≤ 3000000) := by show _ ≤ _; rw [HNX.out]; simp; omega
              have lq : q < wr.heap.size := HGX.out.out.lt
              have lbm : bm < wr.heap.size := hbm
              have x2 : wr.cell? ⟨q, 2, none⟩ = some (.slice ao ki c) := by rw [← HNX.out]; exact HGX.out.out.cell 2 rfl
              have u0 : wr.cell? ⟨bm, om + i * 4, none⟩ = some (.int .i64 m.1) := p0'
              have u1 : wr.cell? ⟨bm, om + i * 4 + 1, none⟩ = some (.int .i64 m.2.1) := p1'
              have u2 : wr.cell? ⟨bm, om + i * 4 + 2, none⟩ = some (.int .i64 m.2.2.1) := p2'
              have u3 : wr.cell? ⟨bm, om + i * 4 + 3, none⟩ = some (.string m.2.2.2) := p3'
              have BX : Hid (∀ o w', Below B (wr.alloc o).drew w' → ChE (wr.alloc o).drew w' → Below B wr w' ∧ ChE wr w') := fun o w' h1 h2 => ⟨(((Below.refl B wr).alloc HGX.out.bs o).drew).trans h1, (ChE.alloc wr o).trans (show ChE (wr.alloc o) w' from h2)⟩
              clear hmW hdr hm p0' p1' p2' p3' cf c2 cl hkie
              go_wp2_with fail
              go_region_law (first
                | (refine step_app (B := B) rfl (.tmp 66) (.tmp 71) rfl rfl N [m] _ _ _ _ (by rw [HNX.out]; rfl) rfl (HX.out _).1 HONE.out HRO.out (HX.out _).2 ?_; rw [HE2.out]; intro a7 c7 w7 hr7 hb7 hc7; have hb8 := (BX.out _ _ hb7 hc7).1; have hc8 := (BX.out _ _ hb7 hc7).2; have k7 := hc8.blk HGX.out.out (by decide); have v2 := k7.cell 2 rfl; have vf := k7.frozen))
              all_goals
                go_wp2_with fail
                go_roundw
                case rel =>
                  have e1 := HKI.out
                  have e2 := HE2.out
                  have g := HGX.out.lay hr7 hb8 hc8 (fun v hv => by
                    rcases List.mem_append.1 hv with h | h
                    · exact HGX.out.sm v h
                    · simp at h; rw [h]; exact hsm)
                  rw [e2] at g
                  refine ⟨i + 1, N ++ [m], a7, c7, by go_num, hil, by omega, by have := HLX.out; rw [List.length_append]; simp; omega, ?_, g⟩
                  have := HFX.out
                  rw [e1] at this
                  exact this
                case measure => simp [intOf]; omega
          · obtain rfl : i = M.length := by omega
            obtain rfl : N = F := by
              have := HF.out
              rwa [List.drop_length] at this
            have HNF : Hid _ := CN.out _ ao c HG.out.rd
            clear HM HSM HF hki hNl CN
            have c0 := HG.out.out.cell 0 rfl
            have c1 := HG.out.out.cell 1 rfl
            go_wp2_with (go_at_call 7; refine hold ?_)
            clear c0 c1 c2 cf
            refine Calls.mono HNF.out ?_
            rintro e w5 ⟨rfl, hb5⟩
            have HG5 : Hid _ := HG.out.later hb5
            obtain ⟨y0, y1, y2, fy⟩ := RES.out _ HG5.out.lp
            cases V with
            | false =>
              have HZ2 : Hid (Z = ((b, t, L), false)) := HZ.out.trans (if_neg (by simp))
              obtain ⟨q0, q1, q2⟩ := ARG.out _ HG5.out.lp
              clear y0 y1 y2 fy
              go_wp2_with (go_at_call 28; refine hold ?_)
              clear q0 q1 q2
              refine Calls.mono (CC.out _ HG5.out.lp.below) ?_
              rintro e w8 ⟨ao8, cc8, rfl, hr8, hb8⟩
              have P8 := HG5.out.lp.later hb8
              have HP8 : Hid (Lp w p0 zP w8 ∧ RdE w8 ao8 L ∧ (∀ a, ao8 = some a → a.block ≠ w.heap.size + 1)) := ⟨P8, hr8.rd (sme_max sA), fun a h => by have := (ERow.lt hr8 h).1; have := HG5.out.lp.res.lt; omega⟩
              obtain ⟨y0, y1, y2, fy⟩ := RES.out _ P8
              clear P8 hr8 hb8 HG5 HG hb5 HNF CC
              go_wp2_with fail
              exact FIN.out b t false _ _ L HZ2.out w8 HP8.out.1 HP8.out.2.1 HP8.out.2.2 _ rfl rfl rfl
            | true =>
              have HZ2 : Hid (Z = ((b, t, N), true)) := HZ.out.trans (if_pos rfl)
              have c0 := HG5.out.out.cell 0 rfl
              have c1 := HG5.out.out.cell 1 rfl
              have c2 := HG5.out.out.cell 2 rfl
              clear HG hb5 HNF CC
              go_wp2_with fail
              exact FIN.out b t true _ _ N HZ2.out w5 HG5.out.lp HG5.out.rd (fun a h => by have := (ERow.lt HG5.out.row h).1; have := HG5.out.hB; omega) _ rfl rfl rfl
      · have HZ : Hid (Z = ((b, t, L), false)) := by show _ = _; rw [hZ]; unfold putL; rw [if_pos hB, if_pos (.inr hT)]
        have hne : (termAt b t L p == pt) = false := beq_eq_false_iff_ne.2 hT
        generalize termAt b t L p = T at *
        clear hZ hA hM sM hp0 g0 g1 g2 g3 g4
        go_enter Try.func14, Try.ntmps14
        go_wp2_with (go_at_call 7; refine hold ?_)
        rw [← hW0]
        clear hW0
        refine Calls.mono (CK.out _ H0.out.below) ?_
        rintro e w1 ⟨rfl, hb1⟩
        have P1 := H0.out.later hb1
        obtain ⟨q0, q1, q2⟩ := ARG.out _ P1
        go_wp2_with (go_at_call 28; refine hold ?_)
        clear q0 q1 q2
        refine Calls.mono (CC.out _ P1.below) ?_
        rintro e w2 ⟨ao2, cc2, rfl, hr2, hb2⟩
        have P2 := P1.later hb2
        obtain ⟨w3a, hw3a⟩ : ∃ w3a, w3a = w2.alloc (.cells #[.int .i64 b, .int .i64 t, .slice ao2 L.length cc2] 29) := ⟨_, rfl⟩
        have HG : Hid (Gr w p0 w2.heap.size w1.heap.size b t ao2 cc2 L w3a) := by
          have h1 := P1.res.lt
          have h2 := P2.res.lt
          have h3 := hb2.size
          rw [hw3a]
          exact ⟨P2.alloc _, h2, h1, Blk.new _ _ _, hr2.alloc _, by simp; omega, sA⟩
        have HW3 : Hid (w3a = w2.alloc (.cells #[.int .i64 b, .int .i64 t, .slice ao2 L.length cc2] 29)) := hw3a
        have c0 := HG.out.out.cell 0 rfl
        have c1 := HG.out.out.cell 1 rfl
        have c2 := HG.out.out.cell 2 rfl
        obtain ⟨y0, y1, y2, fy⟩ := RES.out _ HG.out.lp
        clear P1 P2 hr2 hb1 hb2
        go_upto_region 4 with fail
        rw [← hw3a]
        clear hw3a
        obtain ⟨q0, q1, q2⟩ := ARG.out _ HG.out.lp
        go_wp2_with (go_at_call 29; refine hold ?_)
        clear q0 q1 q2 c0 c1 c2
        refine Calls.mono (CT.out _ HG.out.lp.below) ?_
        rintro e w4 ⟨rfl, hb4⟩
        have HG4 : Hid _ := HG.out.later hb4
        have c0 := HG4.out.out.cell 0 rfl
        have c1 := HG4.out.out.cell 1 rfl
        have c2 := HG4.out.out.cell 2 rfl
        obtain ⟨y0, y1, y2, fy⟩ := RES.out _ HG4.out.lp
        clear CC CK H0 CT hb4 HG
        go_wp2_with fail
        exact FIN.out b t false _ _ L HZ.out w4 HG4.out.lp (HG4.out.rd) (fun a h => by have := (ERow.lt HG4.out.row h).1; have := HG4.out.hB; omega) _ rfl rfl rfl

end Lg
end Go.Proofs.Ytipjgkekjocljaa
