/-
  The program's sameRex at any two Rex: it tells whether they are the same.
  The program's sameRex at any two Rex: it tells whether they are the same.
  The program's RexOk at what is not right: it tells false.
  The specification's l3Deep.
-/
import Derived.Test.YtgdnlmaacnnfiaaGreatDoorQ08
import Derived.Test.YtgdnlmaacnnfiaaGreatDoorQ06
import Derived.Test.YtgdnlmaacnnfiaaGreatDoorQ09
namespace Go.Proofs.YtgdnlmaacnnfiaaGreatDoor
open Go.RowKit
namespace Rx

/-- Told: whether P. -/
def TellsSame (P : Prop) (w : World) (e : Ending) (w' : World) : Prop := ∃ b, e = .returned (.bool b) ∧ (b = true ↔ P) ∧ Below w.heap.size w w'
def SameOkZ (t t' : Data) : Prop := ∀ (w : World) (S1 S2 : Nat → Prop) (a b c d u a' b' c' d' u' : Value), RexZ w t S1 [a, b, c, d, u] → RexZ w t' S2 [a', b', c', d', u'] → (∀ k, S1 k → k < w.heap.size) → (∀ k, S2 k → k < w.heap.size) →
  Calls Tryz.prog 31 #[.agg #[a, b, c, d, u], .agg #[a', b', c', d', u']] w fun e w' => TellsSame (t = t') w e w'

theorem take_same {ks ks' : List Data} (hl : ks.length = ks'.length) (h : ∀ i, i < ks.length → ks[i]? = ks'[i]?) : ks = ks' := by
  refine List.ext_getElem? fun i => ?_
  by_cases hi : i < ks.length
  · exact h i hi
  · rw [List.getElem?_eq_none (by omega), List.getElem?_eq_none (by omega)]

set_option maxHeartbeats 1000000 in
set_option maxRecDepth 100000 in
theorem iEqualFuncZ {ks ks' : List Data} (hk : ∀ t ∈ ks, ∀ t' ∈ ks', SameOkZ t t') (hn : ks.length ≤ 100000) (hn' : ks'.length ≤ 100000) (w : World) (S1 S2 : Nat → Prop) (v v' : Value) (xs ys : List Value) (ho : w.ownsRow 0 26 5 v ks.length xs) (ho' : w.ownsRow 0 26 5 v' ks'.length ys)
    (hx : RexZs w ks S1 xs) (hy : RexZs w ks' S2 ys) (hS1 : ∀ k, S1 k → k < w.heap.size) (hS2 : ∀ k, S2 k → k < w.heap.size) :
    Calls Tryz.prog 63 #[v, v', .func (.func 31) #[] #[]] w fun e w' => TellsSame (ks = ks') w e w' := by
  obtain ⟨ao, cap, rfl⟩ := owns_slice ho
  obtain ⟨ao', cap', rfl⟩ := owns_slice ho'
  have hnI : (ks.length : Int) ≤ 100000 := by omega
  have hnI' : (ks'.length : Int) ≤ 100000 := by omega
  by_cases hl : ks.length = ks'.length
  · have HL : Hid (ks.length = ks'.length) := hl
    rw [← hl]
    clear hnI' hl
    go_enter Tryz.func63, Tryz.ntmps63
    go_wp2_with fail
    go_loopw [17] (fun i wr => ∃ k : Nat, k ≤ ks.length ∧ i = .int .i64 k ∧ (∀ i, i < k → ks[i]? = ks'[i]?) ∧ Below w.heap.size w wr) (fun i _ => ks.length - (intOf i).toNat)
    case atStart => exact ⟨0, Nat.zero_le _, rfl, fun i hi => absurd hi (Nat.not_lt_zero _), Below.refl _ _⟩
    case round =>
      obtain ⟨k, hkn, rfl, hall, hb⟩ := hrel
      have hsz := hb.size
      by_cases hkl : k < ks.length
      · have hkl' : k < ks'.length := HL.out ▸ hkl
        have hki : ks[k]? = some ks[k] := List.getElem?_eq_getElem hkl
        have hki' : ks'[k]? = some ks'[k] := List.getElem?_eq_getElem hkl'
        obtain ⟨T1, a, b, c, d, u, x0, x1, x2, x3, x4, hr1, hs1⟩ := rexZs_at hx hki
        obtain ⟨T2, a', b', c', d', u', y0, y1, y2, y3, y4, hr2, hs2⟩ := rexZs_at hy hki'
        obtain ⟨g, rfl, hg, hc⟩ := row_cells ho hkl
        obtain ⟨g', rfl, hg', hc'⟩ := row_cells ho' hkl'
        have cc : ∀ j x, xs[j]? = some x → wr.cell? ⟨g, j, none⟩ = some x := fun j x hx => (hb.cell (p := ⟨g, j, none⟩) hg).trans (hc j x hx)
        have cc' : ∀ j x, ys[j]? = some x → wr.cell? ⟨g', j, none⟩ = some x := fun j x hx => (hb.cell (p := ⟨g', j, none⟩) hg').trans (hc' j x hx)
        have p0 := cc _ _ x0
        have p1 := cc _ _ x1
        have p2 := cc _ _ x2
        have p3 := cc _ _ x3
        have p4 := cc _ _ x4
        have q0 := cc' _ _ y0
        have q1 := cc' _ _ y1
        have q2 := cc' _ _ y2
        have q3 := cc' _ _ y3
        have q4 := cc' _ _ y4
        have hg2 : g < wr.heap.size := by omega
        have hg2' : g' < wr.heap.size := by omega
        obtain ⟨op, c1, ss, no, a1, n1, cap1, rfl, rfl, rfl, rfl, rfl⟩ := rexZ_cells hr1
        obtain ⟨op', c1', ss', no', a1', n1', cap1', rfl, rfl, rfl, rfl, rfl⟩ := rexZ_cells hr2
        obtain ⟨w2, hw2⟩ : ∃ w2, w2 = (wr.alloc (.cells #[.int .i64 op, .int .i64 c1, .string ⟨ss.toArray⟩, .bool no, .slice a1 n1 cap1] 26)).alloc (.cells #[.int .i64 op', .int .i64 c1', .string ⟨ss'.toArray⟩, .bool no', .slice a1' n1' cap1'] 26) := ⟨_, rfl⟩
        have hb2 : Below wr.heap.size wr w2 := by rw [hw2]; exact ((Below.refl _ wr).alloc (Nat.le_refl _) _).alloc (by simp) _
        have call := hk ks[k] (List.getElem_mem hkl) ks'[k] (List.getElem_mem hkl') w2 T1 T2 _ _ _ _ _ _ _ _ _ _ (rexZ_frame (w' := w2) _ _ _ (fun j hj => (hb2.block j (by have := hS1 j (hs1 j hj); omega)).trans (hb.block j (hS1 j (hs1 j hj)))) hr1) (rexZ_frame (w' := w2) _ _ _ (fun j hj => (hb2.block j (by have := hS2 j (hs2 j hj); omega)).trans (hb.block j (hS2 j (hs2 j hj)))) hr2) (fun j hj => by have := hS1 j (hs1 j hj); have := hb2.size; omega) (fun j hj => by have := hS2 j (hs2 j hj); have := hb2.size; omega)
        subst hw2
        obtain ⟨P, hP⟩ : ∃ P : Prop, P = (ks[k] = ks'[k]) := ⟨_, rfl⟩
        rw [← hP] at call
        have HP : Hid (P = (ks[k] = ks'[k])) := hP
        have HA : Hid (∀ i, i < k → ks[i]? = ks'[i]?) := hall
        clear x0 x1 x2 x3 x4 y0 y1 y2 y3 y4 hc hc' cc cc' hr1 hr2 hs1 hs2 hx hy ho ho' hk hP hall
        go_wp2_with fail
        refine call.mono ?_
        rintro e w3 ⟨b, rfl, hbP, hb3⟩
        cases b with
        | true =>
          have HE : Hid (ks[k]? = ks'[k]?) := by
            show _ = _
            rw [hki, hki', ← HP.out.mp (hbP.1 rfl)]
          clear hki hki' hbP
          go_wp2_with fail
          go_roundw
          case rel =>
            refine ⟨k + 1, by omega, by go_num, fun i hi => ?_, hb.trans ((hb2.trans (hb3.mono (by simp; omega))).mono hsz)⟩
            rcases Nat.lt_or_ge i k with h | h
            · exact HA.out i h
            · obtain rfl : i = k := by omega
              exact HE.out
          case measure => simp [intOf]; omega
        | false =>
          have HN : Hid (¬ ks = ks') := fun e => by
            have : ¬ P := fun h => by simpa using hbP.2 h
            refine this (HP.out.mpr ?_)
            have e2 : ks[k]? = ks'[k]? := by rw [e]
            rw [hki, hki'] at e2
            exact Option.some.inj e2
          clear hki hki' hbP
          go_wp2_with fail
          go_ret
          exact ⟨false, rfl, by simpa using HN.out, hb.trans ((hb2.trans (hb3.mono (by simp; omega))).mono hsz)⟩
      · obtain rfl : k = ks.length := by omega
        have HE : Hid (ks = ks') := take_same HL.out hall
        clear hall
        go_wp2_with fail
        go_ret
        exact ⟨true, rfl, by simpa using HE.out, hb⟩
  · have hlI : ((ks.length : Int) != (ks'.length : Int)) = true := by simp; omega
    have HN : Hid (¬ ks = ks') := fun e => hl (by rw [e])
    clear hl
    go_enter Tryz.func63, Tryz.ntmps63
    go_wp2_with fail
    go_ret
    exact ⟨false, rfl, by simpa using HN.out, Below.refl _ _⟩

end Rx
end Go.Proofs.YtgdnlmaacnnfiaaGreatDoor

namespace Go.Proofs.YtgdnlmaacnnfiaaGreatDoor
open Go.RowKit
namespace Rx

theorem cnt_ofZ (op c : Int) (s : List UInt8) (no : Bool) (ks : List Data) : cnt (ndZ op c s no ks) = cnts ks + 1 := by simp [ndZ, cnt]
theorem dep_ofZ (op c : Int) (s : List UInt8) (no : Bool) (ks : List Data) : dep (ndZ op c s no ks) = deps ks + 1 := by simp [ndZ, dep]

set_option maxHeartbeats 2000000 in
set_option maxRecDepth 100000 in
theorem iSameRexZ : ∀ (n : Nat) (t t' : Data), dep t ≤ n → cnt t ≤ 100000 → cnt t' ≤ 100000 → SameOkZ t t' := by
  intro n
  induction n with
  | zero => intro t t' hd _ _ w S1 S2 a b c d u a' b' c' d' u' h; obtain ⟨op, c, s, no, ks, rfl⟩ := rexZ_node h; rw [dep_ofZ] at hd; omega
  | succ n ih =>
    intro t t' hd hc hc' w S1 S2 a b c d u a' b' c' d' u' h h' hS1 hS2
    obtain ⟨op, cc, s, no, ks, rfl⟩ := rexZ_node h
    obtain ⟨op', cc', s', no', ks', rfl⟩ := rexZ_node h'
    rw [dep_ofZ] at hd
    rw [cnt_ofZ] at hc hc'
    rw [rexZ_nd] at h h'
    obtain ⟨v, xs, he, ho, hg, hx⟩ := h
    obtain ⟨v', ys, he', ho', hg', hy⟩ := h'
    simp at he he'
    obtain ⟨rfl, rfl, rfl, rfl, rfl⟩ := he
    obtain ⟨rfl, rfl, rfl, rfl, rfl⟩ := he'
    have hlen := cnts_len ks
    have hlen' := cnts_len ks'
    have hkids : ∀ t ∈ ks, ∀ t' ∈ ks', SameOkZ t t' := fun t ht t' ht' => ih t t' (by have := deps_mem ht; omega) (by have := cnts_mem ht; omega) (by have := cnts_mem ht'; omega)
    have hb : ∀ o1 o2, Below w.heap.size w ((w.alloc o1).alloc o2) := fun o1 o2 => ((Below.refl _ w).alloc (Nat.le_refl _) _).alloc (by simp) _
    have call := fun o1 o2 => iEqualFuncZ hkids (by omega) (by omega) ((w.alloc o1).alloc o2) _ _ u u' xs ys (owns_same ho fun g h => (hb o1 o2).block g (ho.lt g h).2) (owns_same ho' fun g h => (hb o1 o2).block g (ho'.lt g h).2) (rexZs_frame_of _ _ _ (fun t _ => rexZ_frame t) (fun j hj => (hb o1 o2).block j (hS1 j hj.1)) hx) (rexZs_frame_of _ _ _ (fun t _ => rexZ_frame t) (fun j hj => (hb o1 o2).block j (hS2 j hj.1)) hy) (fun j hj => Nat.lt_of_lt_of_le (hS1 j hj.1) (hb o1 o2).size) (fun j hj => Nat.lt_of_lt_of_le (hS2 j hj.1) (hb o1 o2).size)
    obtain ⟨ao, cap, rfl⟩ := owns_slice ho
    obtain ⟨ao', cap', rfl⟩ := owns_slice ho'
    clear ho ho' hx hy hkids ih hg hg' hlen hlen' hd hc hc'
    have HN : Hid (∀ Q : Prop, (ndZ op cc s no ks = ndZ op' cc' s' no' ks' → Q) → (false = true ↔ ndZ op cc s no ks = ndZ op' cc' s' no' ks') ∨ Q) := fun Q h => by
      by_cases e : ndZ op cc s no ks = ndZ op' cc' s' no' ks'
      · exact .inr (h e)
      · exact .inl (by simpa using e)
    by_cases h1 : op = op'
    · by_cases h2 : cc = cc'
      · by_cases h3 : s = s'
        · by_cases h4 : no = no'
          · subst h1 h2 h3 h4
            have HE : Hid ((ks = ks') ↔ (ndZ op cc s no ks = ndZ op cc s no ks')) := ⟨fun e => by rw [e], fun e => (ndZ_inj e).2.2.2.2⟩
            clear HN
            go_enter Tryz.func31, Tryz.ntmps31
            go_wp2_with fail
            refine (call _ _).mono ?_
            rintro e w2 ⟨b, rfl, hbP, hb2⟩
            have HB : Hid (b = true ↔ ks = ks') := hbP
            clear hbP
            go_wp2_with fail
            go_ret
            exact ⟨b, by simp, HB.out.trans HE.out, (hb _ _).trans (hb2.mono (hb _ _).size)⟩
          · have e4 : (no == no') = false := by simp [h4]
            have HF : Hid (false = true ↔ ndZ op cc s no ks = ndZ op' cc' s' no' ks') := by
              rcases HN.out False (fun e => h4 (ndZ_inj e).2.2.2.1) with h | h
              · exact h
              · exact h.elim
            subst h1 h2 h3
            clear h4 call HN
            go_enter Tryz.func31, Tryz.ntmps31
            go_wp2_with fail
            go_ret
            exact ⟨false, rfl, HF.out, hb _ _⟩
        · have e3 : (s == s') = false := by simp [h3]
          have HF : Hid (false = true ↔ ndZ op cc s no ks = ndZ op' cc' s' no' ks') := by
            rcases HN.out False (fun e => h3 (ndZ_inj e).2.2.1) with h | h
            · exact h
            · exact h.elim
          subst h1 h2
          clear h3 call HN
          go_enter Tryz.func31, Tryz.ntmps31
          go_wp2_with fail
          go_ret
          exact ⟨false, rfl, HF.out, hb _ _⟩
      · have e2 : (cc == cc') = false := by simp [h2]
        have HF : Hid (false = true ↔ ndZ op cc s no ks = ndZ op' cc' s' no' ks') := by
          rcases HN.out False (fun e => h2 (ndZ_inj e).2.1) with h | h
          · exact h
          · exact h.elim
        subst h1
        clear h2 call HN
        go_enter Tryz.func31, Tryz.ntmps31
        go_wp2_with fail
        go_ret
        exact ⟨false, rfl, HF.out, hb _ _⟩
    · have e1 : (op == op') = false := by simp [h1]
      have HF : Hid (false = true ↔ ndZ op cc s no ks = ndZ op' cc' s' no' ks') := by
        rcases HN.out False (fun e => h1 (ndZ_inj e).1) with h | h
        · exact h
        · exact h.elim
      clear h1 call HN
      go_enter Tryz.func31, Tryz.ntmps31
      go_wp2_with fail
      go_ret
      exact ⟨false, rfl, HF.out, hb _ _⟩

end Rx
end Go.Proofs.YtgdnlmaacnnfiaaGreatDoor

namespace Go.Proofs.YtgdnlmaacnnfiaaGreatDoor
open Go.RowKit
namespace Rx

theorem ok_catch (q : Nat) (f : Bool) (ad : Addr) (w : World) (hF : Flag w q f) :
    CallsD Tryz.prog 30 #[.pointer (some ⟨q, 0, none⟩)] (.panicking [{ v := errV ad, recovered := false }]) w fun e u' w' =>
      e = .returned (.tuple #[]) ∧ u' = .panicking [{ v := errV ad, recovered := true }] ∧ Flag w' q false ∧ Below q w w' := by
  have g0 := hF.cell
  have g1 := hF.frozen
  unfold errV
  refine callsD_of_wpS Tryz.func30 rfl fun c₀ cs hu => ?_
  apply wpS_seq
  apply wpS_region
  simp [wpOpsS, go_sem, recoverD, hu, Tryz.ntmps30, Exit.thenS]
  refine wpS_cond (t := true) (by simp [Act.eval, Array.replicate]) ?_
  simp only [if_true]
  apply wpS_region
  simp [wpOpsS, go_sem, g0, g1, bodyPostS, results, Tryz.results30]
  exact ⟨hF.set false, (Below.refl q w).setCell (p := ⟨q, 0, none⟩) (Nat.le_refl _) _⟩

set_option maxHeartbeats 2000000 in
set_option maxRecDepth 100000 in
theorem iRexOkNot {W : World} {ad : Addr} (hSet : SetOk W) (he : ErrAt ad W) {t : Data} (hN : ¬ RightD 12 t) (hZ : SetsZ t) (hc : cnt t ≤ 1000) (w : World) (hW : Below W.heap.size W w) (S : Nat → Prop) (a b c d u : Value) (h : RexZ w t S [a, b, c, d, u]) (hS : ∀ k, S k → k < w.heap.size) :
    Calls Tryz.prog 11 #[.agg #[a, b, c, d, u]] w fun e w' => e = .returned (.bool false) ∧ Below w.heap.size w w' := by
  have hP : ∀ w1, Below w.heap.size w w1 → Calls Tryz.prog 22 #[.agg #[a, b, c, d, u], .int .i64 12] w1 fun e w' => PatRetZ ad 12 (cnt t) w1 e w' := fun w1 hb => iPatternOfZ hSet he 12 t hZ (by omega) (by omega) w1 S a b c d u (hW.trans (hb.mono hW.size)) (rexZ_frame _ _ _ (fun k hk => hb.block k (hS k hk)) h) (fun k hk => Nat.lt_of_lt_of_le (hS k hk) hb.size)
  have hO : ∀ t1 w1 lo v, cnt t1 ≤ cnt t → PatIs w1 t1 (Iv lo w1.heap.size) v → Calls Tryz.prog 32 #[v] w1 fun e w' => RexRet t1 w1 e w' := fun t1 w1 lo v h1 hv => iRexOf (dep t1) t1 _ v w1 (Nat.le_refl _) (by omega) hv (fun k hk => hk.2)
  have hE : ∀ t1 w1 lo a' b' c' d' u', cnt t1 ≤ cnt t → RightD 12 t1 → Below w.heap.size w w1 → RexIs w1 t1 (Iv lo w1.heap.size) [a', b', c', d', u'] → Calls Tryz.prog 31 #[.agg #[a', b', c', d', u'], .agg #[a, b, c, d, u]] w1 fun e w' => e = .returned (.bool false) ∧ Below w1.heap.size w1 w' := by
    intro t1 w1 lo a' b' c' d' u' h1 hR1 hb hx
    have hs := iSameRexZ (dep t1) t1 t (Nat.le_refl _) (by omega) (by omega)
    unfold SameOkZ at hs
    refine (hs w1 _ S _ _ _ _ _ _ _ _ _ _ (rexZ_of _ _ _ hx) (rexZ_frame _ _ _ (fun k hk => hb.block k (hS k hk)) h) (fun k hk => hk.2) (fun k hk => Nat.lt_of_lt_of_le (hS k hk) hb.size)).mono ?_
    rintro e w' ⟨x, rfl, hx, hb'⟩
    have : x = false := by
      cases x with
      | false => rfl
      | true => exact absurd (hx.1 rfl ▸ hR1) hN
    exact ⟨by rw [this], hb'⟩
  obtain ⟨op, cc, ss, no, ao, n, cap, rfl, rfl, rfl, rfl, rfl⟩ := rexZ_cells h
  clear h
  obtain ⟨o1, ho1⟩ : ∃ o1, o1 = Obj.cells #[.int .i64 op, .int .i64 cc, .string ⟨ss.toArray⟩, .bool no, .slice ao n cap] 26 := ⟨_, rfl⟩
  obtain ⟨o2, ho2⟩ : ∃ o2, o2 = Obj.cells #[.bool false] 4 := ⟨_, rfl⟩
  have hb0 : Below w.heap.size w ((w.alloc o1).alloc o2) := ((Below.refl _ w).alloc (Nat.le_refl _) _).alloc (by simp) _
  have hV0 : Var ((w.alloc o1).alloc o2) w.heap.size (.int .i64 op) (.int .i64 cc) (.string ⟨ss.toArray⟩) (.bool no) (.slice ao n cap) := by
    unfold Var
    rw [Below.heap_alloc _ _ _ (by simp), heap_alloc_last, ho1]
  have hF0 : Flag ((w.alloc o1).alloc o2) (w.heap.size + 1) false := by
    have := heap_alloc_last (w.alloc o1) o2
    unfold Flag
    rw [ho2] at this ⊢
    simpa using this
  have hz0 : ((w.alloc o1).alloc o2).heap.size = w.heap.size + 2 := by simp
  have hK : ∀ w1 : World, Below (w.heap.size + 2) ((w.alloc o1).alloc o2) w1 → Var w1 w.heap.size (.int .i64 op) (.int .i64 cc) (.string ⟨ss.toArray⟩) (.bool no) (.slice ao n cap) ∧ Flag w1 (w.heap.size + 1) false ∧ Below w.heap.size w w1 := fun w1 hb => ⟨hV0.kept (hb.block _ (by omega)), hF0.kept (hb.block _ (by omega)), hb0.trans (hb.mono (by omega))⟩
  obtain ⟨W2, hW2⟩ : ∃ W2, W2 = (w.alloc o1).alloc o2 := ⟨_, rfl⟩
  have k0 := hV0.cell.1
  have k1 := hV0.cell.2.1
  have k2 := hV0.cell.2.2.1
  have k3 := hV0.cell.2.2.2.1
  have k4 := hV0.cell.2.2.2.2
  subst ho1 ho2
  rw [← hW2] at hK hz0 hb0 k0 k1 k2 k3 k4
  go_enter_defers Tryz.func11, Tryz.ntmps11
  go_wp2_with fail
  rw [← hW2]
  clear hV0 hF0 hW2
  go_region_with (first | (go_at_call 22; refine (hP _ (by first | exact hb0 | exact hb0.drew | exact hb0.drew.drew | exact hb0.drew.drew.drew)).mono ?_; rintro e w1 (⟨t1, v1, rfl, hR1, hc1, hv1, hb1⟩ | ⟨rfl, hb1⟩); rotate_left; (refine leaves_cons (f := 30) (args := #[.pointer (some ⟨w.heap.size + 1, 0, none⟩)]) (by simp) (by simp [go_sem]) ?_; refine (ok_catch _ _ ad _ (hK w1 ⟨hb1.os, hb1.tape, hb1.output, hb1.size, fun k hk => hb1.block k (by show k < W2.heap.size; omega)⟩).2.1).mono ?_; rintro e u' w'' ⟨rfl, rfl, hf, hbq⟩; have z5 := hf.cell; have hbb : Below w.heap.size w w'' := (hK w1 ⟨hb1.os, hb1.tape, hb1.output, hb1.size, fun k hk => hb1.block k (by show k < W2.heap.size; omega)⟩).2.2.trans (hbq.mono (by omega)); simp [Leaves, settle, results, Tryz.results11, go_sem, z5]; exact hbb); obtain ⟨T1, y1, rfl⟩ := pat_iface hv1; have hq1 : Below (w.heap.size + 2) W2 w1 := ⟨hb1.os, hb1.tape, hb1.output, hb1.size, fun k hk => hb1.block k (by show k < W2.heap.size; omega)⟩; obtain ⟨hV1, hF1, hB1⟩ := hK w1 hq1; have m0 := hV1.cell.1; have m1 := hV1.cell.2.1; have m2 := hV1.cell.2.2.1; have m3 := hV1.cell.2.2.2.1; have m4 := hV1.cell.2.2.2.2) | (go_at_call 32; refine (hO t1 _ _ _ hc1 (pat_frame (w := w1) (fun _ _ => rfl) (fun _ h => h) t1 _ hv1)).mono ?_; rintro e w2 ⟨a2, b2, c2, d2, u2, rfl, hb2, hx2⟩; obtain ⟨op2, cc2, ss2, no2, ao2, n2, cap2, rfl, rfl, rfl, rfl, rfl⟩ := rex_cells hx2; have hq2 : Below (w.heap.size + 2) W2 w2 := hq1.trans ⟨hb2.os, hb2.tape, hb2.output, hb2.size, fun k hk => hb2.block k (by show k < w1.heap.size; have := hq1.size; omega)⟩; obtain ⟨hV2, hF2, hB2⟩ := hK w2 hq2; have j0 := hV2.cell.1; have j1 := hV2.cell.2.1; have j2 := hV2.cell.2.2.1; have j3 := hV2.cell.2.2.2.1; have j4 := hV2.cell.2.2.2.2) | (go_at_call 31; refine (hE t1 _ _ _ _ _ _ _ hc1 hR1 (by first | exact hB2 | exact hB2.drew | exact hB2.drew.drew | exact hB2.drew.drew.drew) (rex_frame (w := w2) t1 _ _ (fun _ _ => rfl) hx2)).mono ?_; rintro e w3 ⟨rfl, hb3⟩; have hq3 : Below (w.heap.size + 2) W2 w3 := hq2.trans ⟨hb3.os, hb3.tape, hb3.output, hb3.size, fun k hk => hb3.block k (by show k < w2.heap.size; have := hq2.size; omega)⟩; obtain ⟨hV3, hF3, hB3⟩ := hK w3 hq3; have i0 := hF3.cell; have i1 := hF3.frozen))
  all_goals go_wp2_with fail
  all_goals refine leaves_cons (f := 30) (args := #[.pointer (some ⟨w.heap.size + 1, 0, none⟩)]) (by simp) (by simp [go_sem]) ?_
  all_goals refine (ok_idle _ _).mono ?_
  all_goals rintro e u' w'' ⟨rfl, rfl, hw⟩
  all_goals subst hw
  all_goals have x5 := (hF3.set false).cell
  all_goals have HB : Hid (Below w.heap.size w (w3.setCell ⟨w.heap.size + 1, 0, none⟩ (.bool false))) := hB3.setCell (show w.heap.size ≤ w.heap.size + 1 by omega) _
  all_goals clear hV1 hV2 hV3 hF1 hF2 hF3 hP hO hE hK hB3
  all_goals simp [Leaves, settle, results, Tryz.results11, go_sem, x5]
  all_goals exact HB.out

end Rx
end Go.Proofs.YtgdnlmaacnnfiaaGreatDoor

namespace Go.Proofs.YtgdnlmaacnnfiaaGreatDoor
open Go.RowKit
namespace Rx

theorem sMax (a b : Nat) (w : World) : Calls Tryz.prog 80 #[.int .i64 a, .int .i64 b] w fun e w' => e = .returned (.int .i64 (max a b : Nat)) ∧ w' = w := by
  by_cases h : b < a
  · have h' : (b : Int) < a := by omega
    have HM : Hid (max a b = a) := by show _ = _; omega
    go_enter Tryz.func80, Tryz.ntmps80
    go_wp2_with fail
    go_ret
    exact ⟨by rw [HM.out]; rfl, rfl⟩
  · have h' : (a : Int) ≤ b := by omega
    have HM : Hid (max a b = b) := by show _ = _; omega
    clear h
    go_enter Tryz.func80, Tryz.ntmps80
    go_wp2_with fail
    go_ret
    exact ⟨by rw [HM.out]; rfl, rfl⟩

def DeepOk (t : Data) : Prop := ∀ (w : World) (S : Nat → Prop) (a b c d u : Value), RexIs w t S [a, b, c, d, u] → (∀ k, S k → k < w.heap.size) →
  Calls Tryz.prog 56 #[.agg #[a, b, c, d, u]] w fun e w' => e = .returned (.int .i64 (dep t)) ∧ Below w.heap.size w w'

theorem sDeep : ∀ (n : Nat) (t : Data), dep t ≤ n → cnt t ≤ 100000 → DeepOk t := by
  intro n
  induction n with
  | zero => intro t hd _ w S a b c d u h; obtain ⟨op, c, s, no, ks, rfl⟩ := rex_node h; rw [dep_nd] at hd; omega
  | succ n ih =>
    intro t hd hc w S a b c d u h hS
    obtain ⟨op, cc, s, no, ks, rfl⟩ := rex_node h
    rw [dep_nd] at hd ⊢
    rw [cnt_nd] at hc
    rw [rex_nd] at h
    obtain ⟨v, xs, he, ho, hg, hx⟩ := h
    simp at he
    obtain ⟨rfl, rfl, rfl, rfl, rfl⟩ := he
    have hlen := cnts_len ks
    have hnI : (ks.length : Int) ≤ 100000 := by omega
    have hdc : deps ks ≤ 100000 := by have := dep_cnt (nd op cc s no ks); rw [dep_nd, cnt_nd] at this; omega
    have HD : Hid (deps (ks.take ks.length) = deps ks) := by show _ = _; rw [List.take_length]
    have HI := fun i => deps_le ks i
    have hkids : ∀ t ∈ ks, DeepOk t := fun t ht => ih t (by have := deps_mem ht; omega) (by have := cnts_mem ht; omega)
    obtain ⟨ao, cap, rfl⟩ := owns_slice ho
    obtain ⟨o1, ho1⟩ : ∃ o1, o1 = Obj.cells #[.int .i64 op, .int .i64 cc, .string ⟨s.toArray⟩, .bool no, .slice ao ks.length cap] 26 := ⟨_, rfl⟩
    have hb0 : Below w.heap.size w (w.alloc o1) := (Below.refl _ w).alloc (Nat.le_refl _) _
    have hv0 : Var (w.alloc o1) w.heap.size (.int .i64 op) (.int .i64 cc) (.string ⟨s.toArray⟩) (.bool no) (.slice ao ks.length cap) := by rw [ho1]; exact heap_alloc_last _ _
    subst ho1
    clear ih
    go_enter Tryz.func56, Tryz.ntmps56
    go_wp2_with fail
    go_loopw [3, 4] (fun mo i wr => ∃ k : Nat, k ≤ ks.length ∧ i = .int .i64 k ∧ mo = .int .i64 (deps (ks.take k)) ∧ Below w.heap.size w wr ∧ Var wr w.heap.size (.int .i64 op) (.int .i64 cc) (.string ⟨s.toArray⟩) (.bool no) (.slice ao ks.length cap)) (fun _ i _ => ks.length - (intOf i).toNat)
    case atStart => exact ⟨0, Nat.zero_le _, rfl, rfl, hb0, hv0⟩
    case round =>
      obtain ⟨k, hkn, rfl, rfl, hb, hV⟩ := hrel
      have v4 := hV.cell.2.2.2.2
      by_cases hkl : k < ks.length
      · have hki : ks[k]? = some ks[k] := List.getElem?_eq_getElem hkl
        obtain ⟨T1, a, b, c, d, u, x0, x1, x2, x3, x4, hr1, hs1⟩ := rexs_at hx hki
        obtain ⟨g, rfl, hg', hc'⟩ := row_cells ho hkl
        have cl : ∀ j x, xs[j]? = some x → wr.cell? ⟨g, j, none⟩ = some x := fun j x hx => (hb.cell (p := ⟨g, j, none⟩) hg').trans (hc' j x hx)
        have p0 := cl _ _ x0
        have p1 := cl _ _ x1
        have p2 := cl _ _ x2
        have p3 := cl _ _ x3
        have p4 := cl _ _ x4
        have call := hkids ks[k] (List.getElem_mem hkl) wr T1 a b c d u (rex_frame _ _ _ (fun j hj => hb.block j (hS j (hs1 j hj).1)) hr1) (fun j hj => Nat.lt_of_lt_of_le (hS j (hs1 j hj).1) hb.size)
        have hm : ks[k] ∈ ks := List.getElem_mem hkl
        have d1 := deps_mem hm
        have HT2 : Hid (deps (ks.take (k + 1)) = max (deps (ks.take k)) (dep ks[k])) := deps_take ks k ks[k] hki
        have hi1 := HI k
        have hd1 : (dep ks[k] : Int) ≤ 100000 := by omega
        have hi2 : (deps (ks.take k) : Int) ≤ 100000 := by omega
        have hlt := hV.lt
        clear x0 x1 x2 x3 x4 hc' cl hr1 hs1 hx ho hki hkids hm d1 HI hi1 HD hdc hd hc
        generalize dep ks[k] = D at *
        generalize deps (ks.take k) = M at *
        go_wp2_with (first | (go_at_call 56; refine call.mono ?_; rintro e w2 ⟨rfl, hb2⟩) | (go_at_call 80; refine (sMax M D _).mono ?_; rintro e w3 ⟨rfl, hw⟩; have hw := hw.symm; subst hw))
        go_roundw
        case rel => exact ⟨k + 1, by omega, by go_num, by rw [HT2.out], hb.trans (hb2.mono hb.size), hV.kept (hb2.block _ hlt)⟩
        case measure => simp [intOf]; omega
      · obtain rfl : k = ks.length := by omega
        have hi2 := HI ks.length
        have hi3 : (deps (ks.take ks.length) : Int) ≤ 100000 := by omega
        clear HI hi2 hx ho hkids
        go_wp2_with fail
        go_ret
        exact ⟨by rw [← HD.out]; rfl, hb⟩

end Rx
end Go.Proofs.YtgdnlmaacnnfiaaGreatDoor

