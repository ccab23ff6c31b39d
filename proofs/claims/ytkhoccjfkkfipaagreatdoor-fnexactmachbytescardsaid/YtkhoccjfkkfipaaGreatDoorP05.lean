/-
  A Mach's bytes, the specification's: l17Bytes, MachBytes.
-/
import Derived.Test.YtkhoccjfkkfipaaGreatDoorP04
namespace Go.Proofs.YtkhoccjfkkfipaaGreatDoor
open Go.RowKit
namespace Mb
open Bt (Row Ch hold Ans)
open St (Vl Cl encV encC RdV RdC)
set_option linter.unusedSimpArgs false
set_option linter.unusedVariables false

/-- The two variables of a Mach's and a state's own; all that was there is as it was. -/
structure Two (p q : List Value) (w w' : World) : Prop where
  below : Below w.heap.size w w'
  one : w'.heap[w.heap.size]? = some (.cells p.toArray 46 (0, 0))
  two : w'.heap[w.heap.size + 1]? = some (.cells q.toArray 44 (0, 0))
theorem lt_of_some {w : World} {b : Nat} {o : Obj} (h : w.heap[b]? = some o) : b < w.heap.size := by
  rcases Nat.lt_or_ge b w.heap.size with h' | h'
  · exact h'
  · rw [Array.getElem?_eq_none h'] at h; simp at h
theorem Two.call {p q : List Value} {w w' w'' : World} (h : Two p q w w') (hb : Below w'.heap.size w' w'') : Two p q w w'' :=
  ⟨h.below.trans (hb.mono h.below.size), (hb.block _ (lt_of_some h.one)).trans h.one, (hb.block _ (lt_of_some h.two)).trans h.two⟩
theorem Two.app {p q : List Value} {w w' w'' : World} (h : Two p q w w') (hb : Below w.heap.size w' w'') (hc : Ch w' w'') : Two p q w w'' :=
  ⟨h.below.trans hb, ch_blk h.one (by decide) hc, ch_blk h.two (by decide) hc⟩
theorem Two.cell1 {p q : List Value} {w w' : World} (h : Two p q w w') {j : Nat} {x : Value} (hx : p[j]? = some x) : w'.cell? ⟨w.heap.size, j, none⟩ = some x := by
  rw [cell_of_row w' _ j _ _ _ h.one]
  simpa using hx
theorem Two.cell2 {p q : List Value} {w w' : World} (h : Two p q w w') {j : Nat} {x : Value} (hx : q[j]? = some x) : w'.cell? ⟨w.heap.size + 1, j, none⟩ = some x := by
  rw [cell_of_row w' _ j _ _ _ h.two]
  simpa using hx

set_option maxHeartbeats 8000000 in
set_option maxRecDepth 100000 in
theorem sBytes {a b c : Option Addr} {xa xb xc : Nat} {vs : List Vl} {cs : List Cl} {nr er : Int} {dn : List Int} {out : ByteArray} {w : World}
    (hV : RdV w a vs) (hC : RdC w b cs) (hD : RdN w c dn) (la : ∀ x, a = some x → x.block < w.heap.size) (lb : ∀ x, b = some x → x.block < w.heap.size) (lc : ∀ x, c = some x → x.block < w.heap.size) (hr : MR vs cs nr er dn out) :
    Calls Tryz.prog 22 #[.agg #[.slice a vs.length xa, .slice b cs.length xb, .int .i64 nr, .int .i64 er, .slice c dn.length xc, .string out]] w (Ans w (machY vs cs nr er dn out)) := by
  obtain ⟨p, hp⟩ : ∃ p : List Value, p = [.slice a vs.length xa, .slice b cs.length xb, .int .i64 nr, .int .i64 er, .slice c dn.length xc, .string out] := ⟨_, rfl⟩
  obtain ⟨q, hq⟩ : ∃ q : List Value, q = [.slice a vs.length xa, .slice b cs.length xb, .int .i64 nr, .int .i64 er] := ⟨_, rfl⟩
  obtain ⟨W, hW⟩ : ∃ W, W = (w.alloc (.cells #[.slice a vs.length xa, .slice b cs.length xb, .int .i64 nr, .int .i64 er, .slice c dn.length xc, .string out] 46)).alloc (.cells #[.slice a vs.length xa, .slice b cs.length xb, .int .i64 nr, .int .i64 er] 44) := ⟨_, rfl⟩
  have HT0 : Hid (Two p q w W) := by
    have h2 := heap_alloc_new (w.alloc (.cells #[.slice a vs.length xa, .slice b cs.length xb, .int .i64 nr, .int .i64 er, .slice c dn.length xc, .string out] 46)) (.cells #[.slice a vs.length xa, .slice b cs.length xb, .int .i64 nr, .int .i64 er] 44)
    rw [World.size_alloc] at h2
    refine ⟨by rw [hW]; exact ((Below.refl _ w).alloc (Nat.le_refl _) _).alloc (by simp) _, ?_, by rw [hW, hq]; exact h2⟩
    rw [hW, hp]
    exact (Below.heap_alloc _ _ _ (by simp)).trans (heap_alloc_new w _)
  have HR : Hid (MR vs cs nr er dn out) := hr
  have HX : Hid (∀ w2, Two p q w w2 → w2.cell? ⟨w.heap.size + 1, 0, none⟩ = some (.slice a vs.length xa) ∧ w2.cell? ⟨w.heap.size + 1, 1, none⟩ = some (.slice b cs.length xb) ∧ w2.cell? ⟨w.heap.size + 1, 2, none⟩ = some (.int .i64 nr) ∧ w2.cell? ⟨w.heap.size + 1, 3, none⟩ = some (.int .i64 er) ∧ w2.cell? ⟨w.heap.size, 4, none⟩ = some (.slice c dn.length xc) ∧ w2.cell? ⟨w.heap.size, 5, none⟩ = some (.string out)) := fun w2 h =>
    ⟨h.cell2 (by rw [hq]; rfl), h.cell2 (by rw [hq]; rfl), h.cell2 (by rw [hq]; rfl), h.cell2 (by rw [hq]; rfl), h.cell1 (by rw [hp]; rfl), h.cell1 (by rw [hp]; rfl)⟩
  have HD : Hid (∀ w2, Two p q w w2 → RdV w2 a vs ∧ RdC w2 b cs ∧ RdN w2 c dn) := fun w2 h =>
    ⟨rdv_same hV h.below.size fun x hx => h.below.block _ (la x hx), rdc_same hC h.below.size fun x hx => h.below.block _ (lb x hx), rdn_same hD h.below.size fun x hx => h.below.block _ (lc x hx)⟩
  have n1 : (vs.length : Int) ≤ 1000 := by have := hr.vn; omega
  have n2 : (cs.length : Int) ≤ 1000 := by have := hr.cn; omega
  have n3 : (dn.length : Int) ≤ 1000 := by have := hr.dnn; omega
  obtain ⟨Z, hZ⟩ : ∃ Z, Z = machY vs cs nr er dn out := ⟨_, rfl⟩
  rw [← hZ]
  have HZ : Hid (Z = ((((Y1 vs ++ Y2 cs) ++ Bt.putV nr) ++ Bt.putV er) ++ dn.flatMap Bt.putV) ++ Bt.putT out.data.toList) := hZ.trans (machY_is ..)
  have P1 := fun (x : Int) w => Bt.sPutNum x w
  have HL1 : Hid (∀ k, k ≤ vs.length → (Bt.putV vs.length ++ (vs.take k).flatMap valY).length ≤ 500000) := fun k hk => by
    have h0 := Bt.putV_len vs.length
    have h1 := flat_len (f := valY) (m := 400) (vs := vs.take k) fun v hm => valY_len (hr.vs v (List.mem_of_mem_take hm))
    have h2 : (vs.take k).length * 400 ≤ 1000 * 400 := Nat.mul_le_mul_right _ (by rw [List.length_take]; omega)
    rw [List.length_append]
    omega
  clear hV hC hD la lb lc hr hp hq hZ
  go_enter Tryz.func22, Tryz.ntmps22
  go_wp2_with (go_at_call 48; refine hold ?_)
  rw [← hW]
  clear hW
  refine (P1 _ W).mono ?_
  rintro e w1 ⟨a1, cap1, rfl, hr1, hb1⟩
  have HT1 : Hid (Two p q w w1) := HT0.out.call hb1
  have hr1' := hr1.mono HT0.out.below.size
  clear hr1 hb1 HT0
  go_wp2_with fail
  go_loopw [4, 5] (fun bv iv wr => ∃ (k : Nat) (ao : Option Addr) (cap : Nat), bv = .slice ao (Bt.putV vs.length ++ (vs.take k).flatMap valY).length cap ∧ iv = .int .i64 k ∧ k ≤ vs.length ∧ Row w.heap.size wr ao cap (Bt.putV vs.length ++ (vs.take k).flatMap valY) ∧ Two p q w wr) (fun _ iv _ => vs.length - (intOf iv).toNat)
  case atStart => exact ⟨0, a1, cap1, by simp, rfl, Nat.zero_le _, by simpa using hr1', HT1.out⟩
  case round =>
    clear hr1' HT1
    obtain ⟨k, ao, cap, rfl, rfl, hk, hr, hT⟩ := hrel
    obtain ⟨N, hN⟩ : ∃ N, N = Bt.putV vs.length ++ (vs.take k).flatMap valY := ⟨_, rfl⟩
    rw [← hN] at hr ⊢
    have hNl : N.length ≤ 500000 := by rw [hN]; exact HL1.out k hk
    have x0 := (HX.out wr hT).1
    have x1 := (HX.out wr hT).2.1
    by_cases hkl : k < vs.length
    · have hx : vs[k]? = some vs[k] := List.getElem?_eq_getElem hkl
      have hvr := HR.out.vs _ (List.mem_of_getElem? hx)
      have HN : Hid (N ++ valY vs[k] = Bt.putV vs.length ++ (vs.take (k + 1)).flatMap valY) := by show _ = _; rw [hN, flat_take hx, List.append_assoc]
      obtain ⟨bb, o, rfl, hbl, hsz, c0, c1, c2⟩ := (HD.out wr hT).1 k vs[k] hx
      generalize vs[k] = v at hx hvr HN hsz c0 c1 c2
      obtain ⟨y, z, s⟩ := v
      simp only at c0 c1 c2
      have D := sVal (k := y) (n := z) (s := s) (w := wr) (by have := hvr.2.2; simp only at this; omega)
      have lv := valY_len hvr
      have HH : Hid (Two p q w wr) := hT
      have HRo : Hid (N.length + (valY (y, z, s)).length ≤ 1099511627776) := by show _ ≤ _; omega
      clear hT hx hsz hN hNl lv hvr
      go_wp2_with (go_at_call 49; refine hold ?_)
      refine D.mono ?_
      rintro e w2 ⟨a2, cap2, rfl, hr2, hb2⟩
      have hq2 := hr.below hb2 (Nat.le_refl _)
      have HT2 : Hid (Two p q w w2) := HH.out.call hb2
      obtain ⟨V, hV⟩ : ∃ V, V = valY (y, z, s) := ⟨_, rfl⟩
      rw [← hV] at hr2 HRo HN ⊢
      obtain ⟨P, hP⟩ : ∃ P, P = Bt.putV vs.length ++ (vs.take (k + 1)).flatMap valY := ⟨_, rfl⟩
      rw [← hP] at HN
      have HP : Hid (P = Bt.putV vs.length ++ (vs.take (k + 1)).flatMap valY) := hP
      clear D hb2 hr hP hV c0 c1 c2 x0 x1
      go_wp2_with (at_builtin; refine Bt.app_any rfl _ _ rfl N _ _ rfl hq2 V _ _ rfl hr2 HRo.out HT2.out.below.size ?_; rw [HN.out]; intro a3 cap3 w3 hr3 hb3 hc3)
      have HT3 : Hid (Two p q w w3) := HT2.out.app hb3 hc3
      go_roundw
      case rel => exact ⟨k + 1, a3, cap3, by rw [← HP.out], by go_num, hkl, by rw [← HP.out]; exact hr3, HT3.out⟩
      case measure => simp [intOf]; omega
    · obtain rfl : k = vs.length := by omega
      rw [List.take_length, show Bt.putV vs.length ++ vs.flatMap valY = Y1 vs from rfl] at hN
      have HH : Hid (Two p q w wr) := hT
      have HNZ : Hid (N = Y1 vs) := hN
      clear hT hN
      go_wp2_with (go_at_call 48; refine hold ?_)
      refine (P1 _ wr).mono ?_
      rintro e w2 ⟨a2, cap2, rfl, hr2, hb2⟩
      have hq2 := hr.below hb2 (Nat.le_refl _)
      have HT2 : Hid (Two p q w w2) := HH.out.call hb2
      have lq := Bt.putV_len cs.length
      obtain ⟨V, hV⟩ : ∃ V, V = Bt.putV cs.length := ⟨_, rfl⟩
      rw [← hV] at hr2 lq ⊢
      have HVV : Hid (V = Bt.putV cs.length) := hV
      have HRo : Hid (N.length + V.length ≤ 1099511627776) := by show _ ≤ _; omega
      obtain ⟨K, hK⟩ : ∃ K, K = N ++ V := ⟨_, rfl⟩
      have HK : Hid (N ++ V = K) := hK.symm
      have hKl : K.length ≤ 600000 := by rw [hK, List.length_append]; omega
      clear hb2 hr hV hK lq x0 x1 hk hkl hNl
      go_wp2_with (at_builtin; refine Bt.app_any rfl _ _ rfl N _ _ rfl hq2 V _ _ rfl hr2 HRo.out HT2.out.below.size ?_; rw [HK.out]; intro a3 cap3 w3 hr3 hb3 hc3)
      have HT3 : Hid (Two p q w w3) := HT2.out.app hb3 hc3
      clear hq2 hr2 hb3 hc3 HT2 HRo
      have HL2 : Hid (∀ k, k ≤ cs.length → (K ++ (cs.take k).flatMap cellY).length ≤ 2200000) := fun k hk => by
        have h1 := flat_len (f := cellY) (m := 1500) (vs := cs.take k) fun v hm => cellY_len (HR.out.cs v (List.mem_of_mem_take hm))
        have h2 : (cs.take k).length * 1500 ≤ 1000 * 1500 := Nat.mul_le_mul_right _ (by rw [List.length_take]; omega)
        rw [List.length_append]
        omega
      clear hKl
      go_loopw [4, 6] (fun bv iv wr => ∃ (k : Nat) (ao : Option Addr) (cap : Nat), bv = .slice ao (K ++ (cs.take k).flatMap cellY).length cap ∧ iv = .int .i64 k ∧ k ≤ cs.length ∧ Row w.heap.size wr ao cap (K ++ (cs.take k).flatMap cellY) ∧ Two p q w wr) (fun _ iv _ => cs.length - (intOf iv).toNat)
      case atStart => exact ⟨0, a3, cap3, by simp, rfl, Nat.zero_le _, by simpa using hr3, HT3.out⟩
      case round =>
        clear hr3 HT3
        obtain ⟨k, ao, cap, rfl, rfl, hk, hr, hT⟩ := hrel
        obtain ⟨N, hN⟩ : ∃ N, N = K ++ (cs.take k).flatMap cellY := ⟨_, rfl⟩
        rw [← hN] at hr ⊢
        have hNl : N.length ≤ 2200000 := by rw [hN]; exact HL2.out k hk
        obtain ⟨x1, x2, x3⟩ : _ ∧ _ ∧ _ := ⟨(HX.out wr hT).2.1, (HX.out wr hT).2.2.1, (HX.out wr hT).2.2.2.1⟩
        by_cases hkl : k < cs.length
        · have hx : cs[k]? = some cs[k] := List.getElem?_eq_getElem hkl
          have hvr := HR.out.cs _ (List.mem_of_getElem? hx)
          have HN : Hid (N ++ cellY cs[k] = K ++ (cs.take (k + 1)).flatMap cellY) := by show _ = _; rw [hN, flat_take hx, List.append_assoc]
          have HG : Hid (∀ w2, Two p q w w2 → ∃ b2 o2, b = some ⟨b2, o2, none⟩ ∧ w2.cell? ⟨b2, o2 + k * 5, none⟩ = some (.int .i64 cs[k].1) ∧ w2.cell? ⟨b2, o2 + k * 5 + 1, none⟩ = some (.string cs[k].2.1) ∧ w2.cell? ⟨b2, o2 + k * 5 + 2, none⟩ = some (.int .i64 cs[k].2.2.1) ∧ w2.cell? ⟨b2, o2 + k * 5 + 3, none⟩ = some (.int .i64 cs[k].2.2.2.1) ∧ w2.cell? ⟨b2, o2 + k * 5 + 4, none⟩ = some (.string cs[k].2.2.2.2)) := fun w2 h => by
            obtain ⟨b2, o2, e2, _, _, _, d0, d1, d2, d3, d4⟩ := (HD.out w2 h).2.1 k cs[k] hx
            exact ⟨b2, o2, e2, d0, d1, d2, d3, d4⟩
          obtain ⟨bb, o, hbb, hdrop⟩ := HG.out wr hT
          clear hdrop
          have HG2 : Hid (∀ w2, Two p q w w2 → w2.cell? ⟨bb, o + k * 5, none⟩ = some (.int .i64 cs[k].1) ∧ w2.cell? ⟨bb, o + k * 5 + 1, none⟩ = some (.string cs[k].2.1) ∧ w2.cell? ⟨bb, o + k * 5 + 2, none⟩ = some (.int .i64 cs[k].2.2.1) ∧ w2.cell? ⟨bb, o + k * 5 + 3, none⟩ = some (.int .i64 cs[k].2.2.2.1) ∧ w2.cell? ⟨bb, o + k * 5 + 4, none⟩ = some (.string cs[k].2.2.2.2)) := fun w2 h => by
            obtain ⟨b2, o2, e2, d⟩ := HG.out w2 h
            rw [hbb] at e2
            simp only [Option.some.injEq, Addr.mk.injEq] at e2
            obtain ⟨rfl, rfl, _⟩ := e2
            exact d
          subst hbb
          clear HG
          generalize cs[k] = v at hx hvr HN HG2
          obtain ⟨x0, tt, y, z, s⟩ := v
          simp only at HG2
          obtain ⟨⟨z0, z1⟩, htt, hv3⟩ := hvr
          simp only at z0 z1 htt hv3
          have l1 := Bt.putV_len x0
          have l2 := putT_len (s := tt)
          have l3 := valY_len hv3
          obtain ⟨V1, hV1⟩ : ∃ V, V = Bt.putV x0 := ⟨_, rfl⟩
          obtain ⟨V2, hV2⟩ : ∃ V, V = Bt.putT tt.data.toList := ⟨_, rfl⟩
          obtain ⟨V3, hV3⟩ : ∃ V, V = valY (y, z, s) := ⟨_, rfl⟩
          have D1 := fun w => Bt.sPutNum x0 w
          have D2 := fun w => Bt.sPutText tt (by omega) w
          have D3 := fun w => sVal (k := y) (n := z) (s := s) (w := w) (by have := hv3.2.2; simp only at this; omega)
          rw [← hV1] at D1 l1
          rw [← hV2] at D2 l2
          rw [← hV3] at D3 l3
          obtain ⟨N1, hN1⟩ : ∃ N1, N1 = N ++ V1 := ⟨_, rfl⟩
          obtain ⟨N2, hN2⟩ : ∃ N2, N2 = N1 ++ V2 := ⟨_, rfl⟩
          obtain ⟨P, hP⟩ : ∃ P, P = K ++ (cs.take (k + 1)).flatMap cellY := ⟨_, rfl⟩
          have HP : Hid (P = K ++ (cs.take (k + 1)).flatMap cellY) := hP
          have HN1 : Hid (N ++ V1 = N1) := hN1.symm
          have HN2 : Hid (N1 ++ V2 = N2) := hN2.symm
          have HN3 : Hid (N2 ++ V3 = P) := by show _ = _; rw [hP, ← HN.out, hN2, hN1, hV1, hV2, hV3]; simp [cellY, List.append_assoc]
          have e1 : N1.length ≤ 2200010 := by rw [hN1, List.length_append]; omega
          have e2 : N2.length ≤ 2300000 := by rw [hN2, List.length_append]; omega
          have R1 : Hid (N.length + V1.length ≤ 1099511627776 ∧ N1.length + V2.length ≤ 1099511627776 ∧ N2.length + V3.length ≤ 1099511627776) := ⟨by omega, by omega, by omega⟩
          have HH : Hid (Two p q w wr) := hT
          have c0 := (HG2.out wr hT).1
          clear hT hx hN hNl l1 l2 l3 hV1 hV2 hV3 hN1 hN2 hP HN e1 e2 z0 z1 htt hv3 x2 x3
          go_wp2_with (go_at_call 48; refine hold ?_)
          refine (D1 wr).mono ?_
          rintro e w2 ⟨a2, cap2, rfl, hr2, hb2⟩
          have hq2 := hr.below hb2 (Nat.le_refl _)
          have HT2 : Hid (Two p q w w2) := HH.out.call hb2
          clear D1 hb2 hr c0 x1 HH
          go_wp2_with (first | (go_at_call 50; refine hold ?_) | (at_builtin; refine Bt.app_any rfl _ _ rfl N _ _ rfl hq2 V1 _ _ rfl hr2 R1.out.1 HT2.out.below.size ?_; rw [HN1.out]; intro a3 cap3 w3 hr3 hb3 hc3; have HT3 : Hid (Two p q w w3) := HT2.out.app hb3 hc3; clear hq2 hr2 hb3 hc3 HT2; have x1 := (HX.out w3 HT3.out).2.1; have c1 := (HG2.out w3 HT3.out).2.1))
          refine (D2 w3).mono ?_
          rintro e w4 ⟨a4, cap4, rfl, hr4, hb4⟩
          have hq4 := hr3.below hb4 (Nat.le_refl _)
          have HT4 : Hid (Two p q w w4) := HT3.out.call hb4
          clear D2 hb4 hr3 c1 x1 HT3
          go_wp2_with (first | (go_at_call 49; refine hold ?_) | (at_builtin; refine Bt.app_any rfl _ _ rfl N1 _ _ rfl hq4 V2 _ _ rfl hr4 R1.out.2.1 HT4.out.below.size ?_; rw [HN2.out]; intro a5 cap5 w5 hr5 hb5 hc5; have HT5 : Hid (Two p q w w5) := HT4.out.app hb5 hc5; clear hq4 hr4 hb5 hc5 HT4; have x1 := (HX.out w5 HT5.out).2.1; obtain ⟨c2, c3, c4⟩ := (HG2.out w5 HT5.out).2.2))
          refine (D3 w5).mono ?_
          rintro e w6 ⟨a6, cap6, rfl, hr6, hb6⟩
          have hq6 := hr5.below hb6 (Nat.le_refl _)
          have HT6 : Hid (Two p q w w6) := HT5.out.call hb6
          clear D3 hb6 hr5 c2 c3 c4 x1 HT5
          go_wp2_with (at_builtin; refine Bt.app_any rfl _ _ rfl N2 _ _ rfl hq6 V3 _ _ rfl hr6 R1.out.2.2 HT6.out.below.size ?_; rw [HN3.out]; intro a7 cap7 w7 hr7 hb7 hc7)
          have HT7 : Hid (Two p q w w7) := HT6.out.app hb7 hc7
          go_roundw
          case rel => exact ⟨k + 1, a7, cap7, by rw [← HP.out], by go_num, hkl, by rw [← HP.out]; exact hr7, HT7.out⟩
          case measure => simp [intOf]; omega
        · obtain rfl : k = cs.length := by omega
          rw [List.take_length] at hN
          have HM : Hid (N = Y1 vs ++ Y2 cs) := by
            show _ = _
            rw [hN, ← HK.out, HNZ.out, HVV.out, List.append_assoc]
            rfl
          have HH : Hid (Two p q w wr) := hT
          clear hT hN hk hkl
          have l4 := Bt.putV_len nr
          have l5 := Bt.putV_len er
          obtain ⟨V4, hV4⟩ : ∃ V, V = Bt.putV nr := ⟨_, rfl⟩
          obtain ⟨V5, hV5⟩ : ∃ V, V = Bt.putV er := ⟨_, rfl⟩
          have D4 := fun w => Bt.sPutNum nr w
          have D5 := fun w => Bt.sPutNum er w
          rw [← hV4] at D4 l4
          rw [← hV5] at D5 l5
          obtain ⟨N1, hN1⟩ : ∃ N1, N1 = N ++ V4 := ⟨_, rfl⟩
          obtain ⟨N2, hN2⟩ : ∃ N2, N2 = N1 ++ V5 := ⟨_, rfl⟩
          have HN1 : Hid (N ++ V4 = N1) := hN1.symm
          have HN2 : Hid (N1 ++ V5 = N2) := hN2.symm
          have e1 : N1.length ≤ 2200010 := by rw [hN1, List.length_append]; omega
          have e2 : N2.length ≤ 2200020 := by rw [hN2, List.length_append]; omega
          have R1 : Hid (N.length + V4.length ≤ 1099511627776 ∧ N1.length + V5.length ≤ 1099511627776) := ⟨by omega, by omega⟩
          have HM2 : Hid (N2 = (((Y1 vs ++ Y2 cs) ++ Bt.putV nr) ++ Bt.putV er)) := by show _ = _; rw [hN2, hN1, HM.out, hV4, hV5]
          have HE2 : Hid (N2.length ≤ 2200020) := e2
          clear hN1 hN2 hV4 hV5 l4 l5 e1 e2 hNl HM HK HNZ HVV x3
          go_wp2_with (go_at_call 48; refine hold ?_)
          refine (D4 wr).mono ?_
          rintro e w2 ⟨a2, cap2, rfl, hr2, hb2⟩
          have hq2 := hr.below hb2 (Nat.le_refl _)
          have HT2 : Hid (Two p q w w2) := HH.out.call hb2
          clear D4 hb2 hr HH x2 x1
          go_wp2_with (first | (go_at_call 48; refine hold ?_) | (at_builtin; refine Bt.app_any rfl _ _ rfl N _ _ rfl hq2 V4 _ _ rfl hr2 R1.out.1 HT2.out.below.size ?_; rw [HN1.out]; intro a3 cap3 w3 hr3 hb3 hc3; have HT3 : Hid (Two p q w w3) := HT2.out.app hb3 hc3; clear hq2 hr2 hb3 hc3 HT2; have x3 := (HX.out w3 HT3.out).2.2.2.1))
          refine (D5 w3).mono ?_
          rintro e w4 ⟨a4, cap4, rfl, hr4, hb4⟩
          have hq4 := hr3.below hb4 (Nat.le_refl _)
          have HT4 : Hid (Two p q w w4) := HT3.out.call hb4
          clear D5 hb4 hr3 HT3 x3
          go_wp2_with (at_builtin; refine Bt.app_any rfl _ _ rfl N1 _ _ rfl hq4 V5 _ _ rfl hr4 R1.out.2 HT4.out.below.size ?_; rw [HN2.out]; intro a5 cap5 w5 hr5 hb5 hc5)
          have HT5 : Hid (Two p q w w5) := HT4.out.app hb5 hc5
          clear hq4 hr4 hb5 hc5 HT4
          go_loopw [4, 7] (fun bv iv wr => ∃ (k : Nat) (ao : Option Addr) (cap : Nat), bv = .slice ao (N2 ++ (dn.take k).flatMap Bt.putV).length cap ∧ iv = .int .i64 k ∧ k ≤ dn.length ∧ Row w.heap.size wr ao cap (N2 ++ (dn.take k).flatMap Bt.putV) ∧ Two p q w wr) (fun _ iv _ => dn.length - (intOf iv).toNat)
          case atStart => exact ⟨0, a5, cap5, by simp, rfl, Nat.zero_le _, by simpa using hr5, HT5.out⟩
          case round =>
            clear hr5 HT5
            obtain ⟨k, ao, cap, rfl, rfl, hk, hr, hT⟩ := hrel
            obtain ⟨N, hN⟩ : ∃ N, N = N2 ++ (dn.take k).flatMap Bt.putV := ⟨_, rfl⟩
            rw [← hN] at hr ⊢
            have hNl : N.length ≤ 2300000 := by
              have h1 := flat_len (f := Bt.putV) (m := 10) (vs := dn.take k) fun v _ => Bt.putV_len v
              have h2 : (dn.take k).length * 10 ≤ 1000 * 10 := Nat.mul_le_mul_right _ (by rw [List.length_take]; omega)
              have h3 := HE2.out
              rw [hN, List.length_append]
              omega
            obtain ⟨x4, x5⟩ := (HX.out wr hT).2.2.2.2
            by_cases hkl : k < dn.length
            · have hx : dn[k]? = some dn[k] := List.getElem?_eq_getElem hkl
              have HN : Hid (N ++ Bt.putV dn[k] = N2 ++ (dn.take (k + 1)).flatMap Bt.putV) := by show _ = _; rw [hN, flat_take hx, List.append_assoc]
              obtain ⟨bb, o, rfl, hbl, c0⟩ := (HD.out wr hT).2.2 k dn[k] hx
              generalize dn[k] = v at hx HN c0
              have D := P1 v wr
              have lv := Bt.putV_len v
              obtain ⟨V, hV⟩ : ∃ V, V = Bt.putV v := ⟨_, rfl⟩
              rw [← hV] at D lv HN
              have HRo : Hid (N.length + V.length ≤ 1099511627776) := by show _ ≤ _; omega
              have HH : Hid (Two p q w wr) := hT
              obtain ⟨P, hP⟩ : ∃ P, P = N2 ++ (dn.take (k + 1)).flatMap Bt.putV := ⟨_, rfl⟩
              rw [← hP] at HN
              have HP : Hid (P = N2 ++ (dn.take (k + 1)).flatMap Bt.putV) := hP
              clear hT hx hN hNl lv hV hP x5
              go_wp2_with (go_at_call 48; refine hold ?_)
              refine D.mono ?_
              rintro e w2 ⟨a2, cap2, rfl, hr2, hb2⟩
              have hq2 := hr.below hb2 (Nat.le_refl _)
              have HT2 : Hid (Two p q w w2) := HH.out.call hb2
              clear D hb2 hr HH c0 x4
              go_wp2_with (at_builtin; refine Bt.app_any rfl _ _ rfl N _ _ rfl hq2 V _ _ rfl hr2 HRo.out HT2.out.below.size ?_; rw [HN.out]; intro a3 cap3 w3 hr3 hb3 hc3)
              have HT3 : Hid (Two p q w w3) := HT2.out.app hb3 hc3
              go_roundw
              case rel => exact ⟨k + 1, a3, cap3, by rw [← HP.out], by go_num, hkl, by rw [← HP.out]; exact hr3, HT3.out⟩
              case measure => simp [intOf]; omega
            · obtain rfl : k = dn.length := by omega
              rw [List.take_length] at hN
              have D := Bt.sPutText out HR.out.out wr
              have lt := putT_len (s := out)
              have lo := HR.out.out
              obtain ⟨V, hV⟩ : ∃ V, V = Bt.putT out.data.toList := ⟨_, rfl⟩
              have HN : Hid (N ++ V = Z) := by show _ = _; rw [HZ.out, hN, HM2.out, hV]
              rw [← hV] at D lt
              have HRo : Hid (N.length + V.length ≤ 1099511627776) := by show _ ≤ _; omega
              have HH : Hid (Two p q w wr) := hT
              clear hT hN hNl lt lo hV HZ HM2
              go_wp2_with (go_at_call 50; refine hold ?_)
              refine D.mono ?_
              rintro e w2 ⟨a2, cap2, rfl, hr2, hb2⟩
              have hq2 := hr.below hb2 (Nat.le_refl _)
              have HT2 : Hid (Two p q w w2) := HH.out.call hb2
              clear D hb2 hr HH x5 x4
              go_wp2_with (at_builtin; refine Bt.app_any rfl _ _ rfl N _ _ rfl hq2 V _ _ rfl hr2 HRo.out HT2.out.below.size ?_; rw [HN.out]; intro a3 cap3 w3 hr3 hb3 hc3)
              go_ret
              exact ⟨a3, cap3, rfl, hr3, HT2.out.below.trans hb3⟩

theorem sMachBytes {va ca sa ma a b c : Option Addr} {vn cn sn mn vc cc sc mc xa xb xc : Nat} {vs : List Vl} {cs : List Cl} {nr er : Int} {dn : List Int} {out : ByteArray} {G : Bool} {w : World}
    (hok : ∀ w', Below w.heap.size w w' → Calls Tryz.prog 21 #[.agg #[.slice va vn vc, .slice ca cn cc, .slice sa sn sc, .slice ma mn mc], .agg #[.slice a vs.length xa, .slice b cs.length xb, .int .i64 nr, .int .i64 er, .slice c dn.length xc, .string out]] w' fun e w'' => e = .returned (.bool G) ∧ Below w'.heap.size w' w'')
    (hV : RdV w a vs) (hC : RdC w b cs) (hD : RdN w c dn) (la : ∀ x, a = some x → x.block < w.heap.size) (lb : ∀ x, b = some x → x.block < w.heap.size) (lc : ∀ x, c = some x → x.block < w.heap.size) (hr : G = true → MR vs cs nr er dn out) :
    Calls Tryz.prog 6 #[.agg #[.slice va vn vc, .slice ca cn cc, .slice sa sn sc, .slice ma mn mc], .agg #[.slice a vs.length xa, .slice b cs.length xb, .int .i64 nr, .int .i64 er, .slice c dn.length xc, .string out]] w (Ans w (if G = true then machY vs cs nr er dn out else [])) := by
  obtain ⟨W, hW⟩ : ∃ W, W = (w.alloc (.cells #[.slice va vn vc, .slice ca cn cc, .slice sa sn sc, .slice ma mn mc] 39)).alloc (.cells #[.slice a vs.length xa, .slice b cs.length xb, .int .i64 nr, .int .i64 er, .slice c dn.length xc, .string out] 46) := ⟨_, rfl⟩
  have hbW : Below w.heap.size w W := by rw [hW]; exact ((Below.refl _ w).alloc (Nat.le_refl _) _).alloc (by simp) _
  have bW : W.heap[w.heap.size + 1]? = some (.cells #[.slice a vs.length xa, .slice b cs.length xb, .int .i64 nr, .int .i64 er, .slice c dn.length xc, .string out] 46 (0, 0)) := by
    have := heap_alloc_new (w.alloc (.cells #[.slice va vn vc, .slice ca cn cc, .slice sa sn sc, .slice ma mn mc] 39)) (.cells #[.slice a vs.length xa, .slice b cs.length xb, .int .i64 nr, .int .i64 er, .slice c dn.length xc, .string out] 46)
    rw [World.size_alloc] at this
    rw [hW]
    exact this
  have CO := hok W hbW
  have CB : Hid (∀ w2, Below w.heap.size w w2 → G = true → Calls Tryz.prog 22 #[.agg #[.slice a vs.length xa, .slice b cs.length xb, .int .i64 nr, .int .i64 er, .slice c dn.length xc, .string out]] w2 (Ans w2 (machY vs cs nr er dn out))) := fun w2 h hg =>
    sBytes (rdv_same hV h.size fun x hx => h.block _ (la x hx)) (rdc_same hC h.size fun x hx => h.block _ (lb x hx)) (rdn_same hD h.size fun x hx => h.block _ (lc x hx)) (fun x hx => Nat.lt_of_lt_of_le (la x hx) h.size) (fun x hx => Nat.lt_of_lt_of_le (lb x hx) h.size) (fun x hx => Nat.lt_of_lt_of_le (lc x hx) h.size) (hr hg)
  obtain ⟨Z, hZ⟩ : ∃ Z, Z = (if G = true then machY vs cs nr er dn out else []) := ⟨_, rfl⟩
  rw [← hZ]
  have HZ : Hid (Z = (if G = true then machY vs cs nr er dn out else [])) := hZ
  clear hok hZ hV hC hD la lb lc hr
  go_enter Tryz.func6, Tryz.ntmps6
  go_wp2_with (go_at_call 21; refine hold ?_)
  rw [← hW]
  clear hW
  refine CO.mono ?_
  clear CO
  rintro e w1 ⟨rfl, hb1⟩
  have q1 := hbW.trans (hb1.mono hbW.size)
  have b1 := (hb1.block _ (lt_of_some bW)).trans bW
  clear hb1 hbW bW
  cases G
  · have hz : Z = [] := HZ.out
    clear HZ CB
    have h0 := Bt.row_new w1
    go_wp2_with fail
    go_ret
    rw [hz]
    exact ⟨_, 0, rfl, h0.mono q1.size, q1.alloc q1.size _⟩
  · have hz : Z = machY vs cs nr er dn out := HZ.out
    have D := CB.out w1 q1 rfl
    rw [← hz] at D
    have x0 : w1.cell? ⟨w.heap.size + 1, 0, none⟩ = some (.slice a vs.length xa) := (cell_of_row w1 _ 0 _ _ _ b1).trans rfl
    have x1 : w1.cell? ⟨w.heap.size + 1, 1, none⟩ = some (.slice b cs.length xb) := (cell_of_row w1 _ 1 _ _ _ b1).trans rfl
    have x2 : w1.cell? ⟨w.heap.size + 1, 2, none⟩ = some (.int .i64 nr) := (cell_of_row w1 _ 2 _ _ _ b1).trans rfl
    have x3 : w1.cell? ⟨w.heap.size + 1, 3, none⟩ = some (.int .i64 er) := (cell_of_row w1 _ 3 _ _ _ b1).trans rfl
    have x4 : w1.cell? ⟨w.heap.size + 1, 4, none⟩ = some (.slice c dn.length xc) := (cell_of_row w1 _ 4 _ _ _ b1).trans rfl
    have x5 : w1.cell? ⟨w.heap.size + 1, 5, none⟩ = some (.string out) := (cell_of_row w1 _ 5 _ _ _ b1).trans rfl
    clear HZ CB b1 hz
    go_wp2_with (go_at_call 22; refine hold ?_)
    refine D.mono ?_
    rintro e w2 ⟨a2, cap2, rfl, hr2, hb2⟩
    go_wp2_with fail
    go_ret
    exact ⟨a2, cap2, rfl, hr2.mono q1.size, q1.trans (hb2.mono q1.size)⟩

end Mb
end Go.Proofs.YtkhoccjfkkfipaaGreatDoor
