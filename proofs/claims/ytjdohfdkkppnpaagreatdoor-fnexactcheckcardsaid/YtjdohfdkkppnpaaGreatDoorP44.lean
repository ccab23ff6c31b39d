/-
  The specification's l10Args, l10Rexes, l10Line.
-/
import Derived.Test.YtjdohfdkkppnpaaGreatDoorP35
import Derived.Test.YtjdohfdkkppnpaaGreatDoorP43
namespace Go.Proofs.YtjdohfdkkppnpaaGreatDoor
open Go.RowKit
namespace Ck
open Nd Ty

/-- A function that tells a flag of a tree in the heap. -/
def TellsN (f : Nat) (g : Data → Bool) (t : Data) : Prop := ∀ (w : World) (S : Nat → Prop) (a b c u : Value), NodeIs w t S [a, b, c, u] → (∀ k, S k → k < w.heap.size) → siz t ≤ 1048576 → (∀ x ∈ subs t, opOf x = 21 → 2 ≤ (kidsOf x).length) →
  Calls Tryz.prog f #[.agg #[a, b, c, u]] w fun e w' => e = .returned (.bool (g t)) ∧ Below w.heap.size w w'

/-- A kid as it is read later. -/
theorem kid_read {w : World} {t : Data} {S : Nat → Prop} {ao : Option Addr} {cap : Nat} {xs : List Value} (ho : w.ownsRow 0 39 4 (.slice ao (kidsOf t).length cap) (kidsOf t).length xs) (hx : NodesIs w (kidsOf t) (fun k => S k ∧ (Value.slice ao (kidsOf t).length cap).ownBlock ≠ some k) xs) (hS : ∀ k, S k → k < w.heap.size)
    {w' : World} (hb : Below w.heap.size w w') {i : Nat} {k : Data} (hi : (kidsOf t)[i]? = some k) : ∃ (S1 : Nat → Prop) (g : Nat) (ao' : Option Addr) (cap' : Nat), ao = some ⟨g, 0, none⟩ ∧ w'.cell? ⟨g, i * 4, none⟩ = some (.int .i64 (opOf k)) ∧ w'.cell? ⟨g, i * 4 + 1, none⟩ = some (.int .i64 (numOf k)) ∧ w'.cell? ⟨g, i * 4 + 2, none⟩ = some (.string ⟨(txtOf k).toArray⟩) ∧ w'.cell? ⟨g, i * 4 + 3, none⟩ = some (.slice ao' (kidsOf k).length cap') ∧
      NodeIs w' k S1 [.int .i64 (opOf k), .int .i64 (numOf k), .string ⟨(txtOf k).toArray⟩, .slice ao' (kidsOf k).length cap'] ∧ ∀ j, S1 j → j < w'.heap.size := by
  obtain ⟨S1, x0, x1, x2, x3, y0, y1, y2, y3, hn, hs1⟩ := nodes_at hx hi
  obtain ⟨g, rfl, hg, hcc⟩ := row_cells ho ((List.getElem?_eq_some_iff.1 hi).1)
  have cell : ∀ j x, xs[j]? = some x → w'.cell? ⟨g, j, none⟩ = some x := fun j x hx => (hb.cell (p := ⟨g, j, none⟩) hg).trans (hcc j x hx)
  have hlt : ∀ j, S1 j → j < w.heap.size := fun j hj => hS j (hs1 j hj).1
  obtain ⟨ao', cap', xs', rfl, rfl, rfl, rfl, -, -⟩ := op_form hn
  exact ⟨S1, g, ao', cap', rfl, cell _ _ y0, cell _ _ y1, cell _ _ y2, cell _ _ y3, node_frame _ _ _ (fun j hj => hb.block j (hlt j hj)) hn, fun j hj => Nat.lt_of_lt_of_le (hlt j hj) hb.size⟩

theorem argsTs_step (ks : List Data) (k : Nat) (t : Data) (h : ks[k]? = some t) : argsTs (ks.drop k) = (argsT t && argsTs (ks.drop (k + 1))) := by
  have hl := (List.getElem?_eq_some_iff.1 h).1
  rw [List.drop_eq_getElem_cons hl, argsTs]
  have : ks[k] = t := by rw [List.getElem?_eq_getElem hl] at h; exact Option.some.inj h
  rw [this]
theorem rexTs_step (ks : List Data) (k : Nat) (t : Data) (h : ks[k]? = some t) : rexTs (ks.drop k) = (rexT t && rexTs (ks.drop (k + 1))) := by
  have hl := (List.getElem?_eq_some_iff.1 h).1
  rw [List.drop_eq_getElem_cons hl, rexTs]
  have : ks[k] = t := by rw [List.getElem?_eq_getElem hl] at h; exact Option.some.inj h
  rw [this]
theorem argsT_nd {w : World} {t : Data} {S : Nat → Prop} {cs : List Value} (h : NodeIs w t S cs) : argsT t = (!argsB t && argsTs (kidsOf t)) := by
  obtain ⟨op, n, s, ks, rfl⟩ := node_node h
  unfold nd
  rw [argsT]
  rfl

set_option maxHeartbeats 2000000 in
set_option maxRecDepth 100000 in
theorem args_of {t : Data} (ih : ∀ k ∈ kidsOf t, TellsN 24 argsT k) : TellsN 24 argsT t := by
  intro w S a b c u h hS hsz hf
  have hT := argsT_nd h
  have hlen := len_siz t
  obtain ⟨ao, cap, xs, rfl, rfl, rfl, rfl, ho, hx⟩ := op_form h
  have bl : ((kidsOf t).length : Int) ≤ 1048576 := by omega
  obtain ⟨o1, ho1⟩ : ∃ o1, o1 = Obj.cells #[.int .i64 (opOf t), .int .i64 (numOf t), .string ⟨(txtOf t).toArray⟩, .slice ao (kidsOf t).length cap] 39 := ⟨_, rfl⟩
  have hb1 : Below w.heap.size w (w.alloc o1) := (Below.refl _ w).alloc (Nat.le_refl _) _
  have te0 : (w.alloc o1).cell? ⟨w.heap.size, 3, none⟩ = some (.slice ao (kidsOf t).length cap) := by have hh := heap_new w o1; unfold World.cell?; simp only [hh]; rw [ho1]; rfl
  have hkid : ∀ (w' : World), Below w.heap.size w w' → ∀ i k, (kidsOf t)[i]? = some k → _ := fun w' hb i k hi => kid_read ho hx hS hb hi
  have hsub : ∀ k ∈ kidsOf t, siz k ≤ 1048576 ∧ ∀ x ∈ subs k, opOf x = 21 → 2 ≤ (kidsOf x).length := fun k hk => ⟨by have := siz_kid hk; omega, fun x hx => hf x (sub_kid hk hx)⟩
  have e1 : (((kidsOf t).length : Int) == 1) = decide ((kidsOf t).length = 1) := by by_cases h : (kidsOf t).length = 1 <;> simp [h] <;> omega
  have e2 : (((kidsOf t).length : Int) == 2) = decide ((kidsOf t).length = 2) := by by_cases h : (kidsOf t).length = 2 <;> simp [h] <;> omega
  have e3 : (((kidsOf t).length : Int) == 3) = decide ((kidsOf t).length = 3) := by by_cases h : (kidsOf t).length = 3 <;> simp [h] <;> omega
  obtain ⟨R, hR⟩ : ∃ R, R = argsT t := ⟨_, rfl⟩
  rw [← hR] at hT ⊢
  obtain ⟨N, hN⟩ : ∃ N, N = argsTs (kidsOf t) := ⟨_, rfl⟩
  have HN : Hid (N = argsTs (kidsOf t)) := hN
  rw [← hN] at hT
  subst ho1
  clear h ho hx hS hsz hf hlen hR hN
  by_cases hbad : argsB t = true
  · have HR : Hid (R = false) := by show _ = _; rw [hT, hbad]; rfl
    have hop : opOf t = 28 ∧ soMany (txtOf t) (kidsOf t).length = false := by simpa [argsB] using hbad
    clear hT hbad ih hkid hsub HN
    obtain ⟨h28, hso⟩ := hop
    unfold soMany at hso
    rw [h28]
    by_cases hi : txtOf t = [105, 110, 100, 101, 120]
    · rw [if_pos hi] at hso
      rw [hso] at e2
      rw [hi]
      clear hso
      go_enter Tryz.func24, Tryz.ntmps24
      go_wp2_with fail
      go_ret
      exact ⟨by rw [HR.out]; rfl, (Below.refl _ w).alloc (Nat.le_refl _) _⟩
    · rw [if_neg hi] at hso
      by_cases hs : txtOf t = [115, 117, 98, 115, 116, 114]
      · rw [if_pos hs, Bool.or_eq_false_iff] at hso
        rw [hso.1] at e2
        rw [hso.2] at e3
        have b2 : (((kidsOf t).length : Int) != 2) = true := by simp only [bne, e2]; rfl
        have b3 : (((kidsOf t).length : Int) != 3) = true := by simp only [bne, e3]; rfl
        rw [hs]
        clear hso hi e2 e3
        go_enter Tryz.func24, Tryz.ntmps24
        go_wp2_with fail
        go_ret
        exact ⟨by rw [HR.out]; rfl, (Below.refl _ w).alloc (Nat.le_refl _) _⟩
      · rw [if_neg hs] at hso
        rw [hso] at e1
        have i1 : (txtOf t == [105, 110, 100, 101, 120]) = false := by simpa using hi
        have i2 : (txtOf t == [115, 117, 98, 115, 116, 114]) = false := by simpa using hs
        clear hso hi hs
        go_enter Tryz.func24, Tryz.ntmps24
        go_wp2_with fail
        go_ret
        exact ⟨by rw [HR.out]; rfl, (Below.refl _ w).alloc (Nat.le_refl _) _⟩
  · have HR : Hid (R = N) := by show _ = _; rw [hT]; simp at hbad; simp [hbad]
    have hways : (opOf t == 28) = false ∨ (opOf t = 28 ∧ ((txtOf t = [105, 110, 100, 101, 120] ∧ (((kidsOf t).length : Int) == 2) = true) ∨ (txtOf t = [115, 117, 98, 115, 116, 114] ∧ ((((kidsOf t).length : Int) == 2) = true ∨ ((((kidsOf t).length : Int) == 2) = false ∧ (((kidsOf t).length : Int) == 3) = true))) ∨ ((txtOf t == [105, 110, 100, 101, 120]) = false ∧ (txtOf t == [115, 117, 98, 115, 116, 114]) = false ∧ (((kidsOf t).length : Int) == 1) = true))) := by
      by_cases h28 : opOf t = 28
      · have hso : soMany (txtOf t) (kidsOf t).length = true := by simpa [argsB, h28] using hbad
        unfold soMany at hso
        refine .inr ⟨h28, ?_⟩
        rw [e1, e2, e3]
        split at hso
        · exact .inl ⟨by assumption, hso⟩
        · split at hso
          · refine .inr (.inl ⟨by assumption, ?_⟩)
            rw [Bool.or_eq_true] at hso
            by_cases q : decide ((kidsOf t).length = 2) = true
            · exact .inl q
            · exact .inr ⟨by simpa using q, hso.resolve_left q⟩
          · exact .inr (.inr ⟨by simpa, by simpa, hso⟩)
      · exact .inl (by simpa using h28)
    have hlens : ∀ n : Nat, (((kidsOf t).length : Int) == (n : Int)) = true → (kidsOf t).length = n := fun n h => by have := eq_of_beq h; omega
    clear hbad hT e1 e2 e3
    rcases hways with h1 | ⟨h1, ⟨h2, h3⟩ | ⟨h2, h3 | ⟨h3, h4⟩⟩ | ⟨h2, h3, h4⟩⟩
    · have HL : Hid ((kidsOf t).length = (kidsOf t).length) := rfl
      clear hlens
      go_enter Tryz.func24, Tryz.ntmps24
      go_wp2_with fail
      go_loopw [4] (fun i wr => ∃ k : Nat, k ≤ (kidsOf t).length ∧ i = .int .i64 k ∧ N = argsTs ((kidsOf t).drop k) ∧ Below w.heap.size w wr ∧ wr.cell? ⟨w.heap.size, 3, none⟩ = some (.slice ao (kidsOf t).length cap)) (fun i _ => (kidsOf t).length - (intOf i).toNat)
      case atStart => exact ⟨0, Nat.zero_le _, rfl, by rw [List.drop_zero]; exact HN.out, hb1, te0⟩
      case round =>
        clear te0 hb1
        obtain ⟨k, hk, rfl, hNk, tb, te⟩ := hrel
        by_cases hkl : k < (kidsOf t).length
        · have hkl' : k < (kidsOf t).length := by have := HL.out; omega
          have hki : (kidsOf t)[k]? = some (kidsOf t)[k] := List.getElem?_eq_getElem hkl'
          rw [argsTs_step _ _ _ hki] at hNk
          obtain ⟨S1, g, ao', cap', rfl, c0, c1, c2, c3, hn, hlt⟩ := hkid wr tb k _ hki
          obtain ⟨q1, q2⟩ := hsub _ (List.getElem_mem hkl')
          have call := ih _ (List.getElem_mem hkl') wr S1 _ _ _ _ hn hlt q1 q2
          have hwl : w.heap.size < wr.heap.size := World.block_lt_of_cell? _ _ te
          have bk : (k : Int) < (kidsOf t).length := by omega
          have HNk : Hid (N = (argsT (kidsOf t)[k] && argsTs ((kidsOf t).drop (k + 1)))) := hNk
          clear hNk hn hlt q1 q2 hki hkid hsub ih HN
          generalize argsT (kidsOf t)[k] = A at *
          generalize opOf (kidsOf t)[k] = ok at *
          generalize numOf (kidsOf t)[k] = nk at *
          generalize txtOf (kidsOf t)[k] = tk at *
          generalize (kidsOf (kidsOf t)[k]).length = Lk at *
          clear hkl'
          cases A
          · go_wp2_with (go_at_call 24; refine call.mono ?_; rintro e w2 ⟨rfl, hb2⟩)
            go_ret
            exact ⟨by rw [HR.out, HNk.out]; rfl, tb.trans (hb2.mono tb.size)⟩
          · go_wp2_with (go_at_call 24; refine call.mono ?_; rintro e w2 ⟨rfl, hb2⟩)
            go_roundw
            case rel => exact ⟨k + 1, hkl, by go_num, HNk.out.trans rfl, tb.trans (hb2.mono tb.size), (hb2.cell (p := ⟨w.heap.size, 3, none⟩) hwl).trans te⟩
            case measure => simp [intOf]; omega
        · have hke : k = (kidsOf t).length := by have := HL.out; omega
          rw [hke, List.drop_length] at hNk
          have HNk : Hid (N = true) := hNk
          have hkn : ¬ (k : Int) < (kidsOf t).length := by omega
          clear hNk hkid hsub ih HN hke
          go_wp2_with fail
          go_ret
          exact ⟨by rw [HR.out, HNk.out]; rfl, tb⟩
    · have HL : Hid ((kidsOf t).length = 2) := hlens 2 h3
      rw [HL.out] at te0 hb1 ⊢
      rw [h1, h2] at te0 hb1 ⊢
      clear hlens h3 bl h1 h2
      go_enter Tryz.func24, Tryz.ntmps24
      go_wp2_with fail
      go_loopw [4] (fun i wr => ∃ k : Nat, k ≤ 2 ∧ i = .int .i64 k ∧ N = argsTs ((kidsOf t).drop k) ∧ Below w.heap.size w wr ∧ wr.cell? ⟨w.heap.size, 3, none⟩ = some (.slice ao 2 cap)) (fun i _ => 2 - (intOf i).toNat)
      case atStart => exact ⟨0, Nat.zero_le _, rfl, by rw [List.drop_zero]; exact HN.out, hb1, te0⟩
      case round =>
        clear te0 hb1
        obtain ⟨k, hk, rfl, hNk, tb, te⟩ := hrel
        by_cases hkl : k < 2
        · have hkl' : k < (kidsOf t).length := by have := HL.out; omega
          have hki : (kidsOf t)[k]? = some (kidsOf t)[k] := List.getElem?_eq_getElem hkl'
          rw [argsTs_step _ _ _ hki] at hNk
          obtain ⟨S1, g, ao', cap', rfl, c0, c1, c2, c3, hn, hlt⟩ := hkid wr tb k _ hki
          obtain ⟨q1, q2⟩ := hsub _ (List.getElem_mem hkl')
          have call := ih _ (List.getElem_mem hkl') wr S1 _ _ _ _ hn hlt q1 q2
          have hwl : w.heap.size < wr.heap.size := World.block_lt_of_cell? _ _ te
          have bk : (k : Int) < 2 := by omega
          have HNk : Hid (N = (argsT (kidsOf t)[k] && argsTs ((kidsOf t).drop (k + 1)))) := hNk
          clear hNk hn hlt q1 q2 hki hkid hsub ih HN
          generalize argsT (kidsOf t)[k] = A at *
          generalize opOf (kidsOf t)[k] = ok at *
          generalize numOf (kidsOf t)[k] = nk at *
          generalize txtOf (kidsOf t)[k] = tk at *
          generalize (kidsOf (kidsOf t)[k]).length = Lk at *
          clear hkl'
          cases A
          · go_wp2_with (go_at_call 24; refine call.mono ?_; rintro e w2 ⟨rfl, hb2⟩)
            go_ret
            exact ⟨by rw [HR.out, HNk.out]; rfl, tb.trans (hb2.mono tb.size)⟩
          · go_wp2_with (go_at_call 24; refine call.mono ?_; rintro e w2 ⟨rfl, hb2⟩)
            go_roundw
            case rel => exact ⟨k + 1, hkl, by go_num, HNk.out.trans rfl, tb.trans (hb2.mono tb.size), (hb2.cell (p := ⟨w.heap.size, 3, none⟩) hwl).trans te⟩
            case measure => simp [intOf]; omega
        · have hke : k = (kidsOf t).length := by have := HL.out; omega
          rw [hke, List.drop_length] at hNk
          have HNk : Hid (N = true) := hNk
          have hkn : ¬ (k : Int) < 2 := by omega
          clear hNk hkid hsub ih HN hke
          go_wp2_with fail
          go_ret
          exact ⟨by rw [HR.out, HNk.out]; rfl, tb⟩
    · have HL : Hid ((kidsOf t).length = 2) := hlens 2 h3
      rw [HL.out] at te0 hb1 ⊢
      rw [h1, h2] at te0 hb1 ⊢
      clear hlens h3 bl h1 h2
      go_enter Tryz.func24, Tryz.ntmps24
      go_wp2_with fail
      go_loopw [4] (fun i wr => ∃ k : Nat, k ≤ 2 ∧ i = .int .i64 k ∧ N = argsTs ((kidsOf t).drop k) ∧ Below w.heap.size w wr ∧ wr.cell? ⟨w.heap.size, 3, none⟩ = some (.slice ao 2 cap)) (fun i _ => 2 - (intOf i).toNat)
      case atStart => exact ⟨0, Nat.zero_le _, rfl, by rw [List.drop_zero]; exact HN.out, hb1, te0⟩
      case round =>
        clear te0 hb1
        obtain ⟨k, hk, rfl, hNk, tb, te⟩ := hrel
        by_cases hkl : k < 2
        · have hkl' : k < (kidsOf t).length := by have := HL.out; omega
          have hki : (kidsOf t)[k]? = some (kidsOf t)[k] := List.getElem?_eq_getElem hkl'
          rw [argsTs_step _ _ _ hki] at hNk
          obtain ⟨S1, g, ao', cap', rfl, c0, c1, c2, c3, hn, hlt⟩ := hkid wr tb k _ hki
          obtain ⟨q1, q2⟩ := hsub _ (List.getElem_mem hkl')
          have call := ih _ (List.getElem_mem hkl') wr S1 _ _ _ _ hn hlt q1 q2
          have hwl : w.heap.size < wr.heap.size := World.block_lt_of_cell? _ _ te
          have bk : (k : Int) < 2 := by omega
          have HNk : Hid (N = (argsT (kidsOf t)[k] && argsTs ((kidsOf t).drop (k + 1)))) := hNk
          clear hNk hn hlt q1 q2 hki hkid hsub ih HN
          generalize argsT (kidsOf t)[k] = A at *
          generalize opOf (kidsOf t)[k] = ok at *
          generalize numOf (kidsOf t)[k] = nk at *
          generalize txtOf (kidsOf t)[k] = tk at *
          generalize (kidsOf (kidsOf t)[k]).length = Lk at *
          clear hkl'
          cases A
          · go_wp2_with (go_at_call 24; refine call.mono ?_; rintro e w2 ⟨rfl, hb2⟩)
            go_ret
            exact ⟨by rw [HR.out, HNk.out]; rfl, tb.trans (hb2.mono tb.size)⟩
          · go_wp2_with (go_at_call 24; refine call.mono ?_; rintro e w2 ⟨rfl, hb2⟩)
            go_roundw
            case rel => exact ⟨k + 1, hkl, by go_num, HNk.out.trans rfl, tb.trans (hb2.mono tb.size), (hb2.cell (p := ⟨w.heap.size, 3, none⟩) hwl).trans te⟩
            case measure => simp [intOf]; omega
        · have hke : k = (kidsOf t).length := by have := HL.out; omega
          rw [hke, List.drop_length] at hNk
          have HNk : Hid (N = true) := hNk
          have hkn : ¬ (k : Int) < 2 := by omega
          clear hNk hkid hsub ih HN hke
          go_wp2_with fail
          go_ret
          exact ⟨by rw [HR.out, HNk.out]; rfl, tb⟩
    · have HL : Hid ((kidsOf t).length = 3) := hlens 3 h4
      rw [HL.out] at te0 hb1 ⊢
      rw [h1, h2] at te0 hb1 ⊢
      clear hlens h3 h4 bl h1 h2
      go_enter Tryz.func24, Tryz.ntmps24
      go_wp2_with fail
      go_loopw [4] (fun i wr => ∃ k : Nat, k ≤ 3 ∧ i = .int .i64 k ∧ N = argsTs ((kidsOf t).drop k) ∧ Below w.heap.size w wr ∧ wr.cell? ⟨w.heap.size, 3, none⟩ = some (.slice ao 3 cap)) (fun i _ => 3 - (intOf i).toNat)
      case atStart => exact ⟨0, Nat.zero_le _, rfl, by rw [List.drop_zero]; exact HN.out, hb1, te0⟩
      case round =>
        clear te0 hb1
        obtain ⟨k, hk, rfl, hNk, tb, te⟩ := hrel
        by_cases hkl : k < 3
        · have hkl' : k < (kidsOf t).length := by have := HL.out; omega
          have hki : (kidsOf t)[k]? = some (kidsOf t)[k] := List.getElem?_eq_getElem hkl'
          rw [argsTs_step _ _ _ hki] at hNk
          obtain ⟨S1, g, ao', cap', rfl, c0, c1, c2, c3, hn, hlt⟩ := hkid wr tb k _ hki
          obtain ⟨q1, q2⟩ := hsub _ (List.getElem_mem hkl')
          have call := ih _ (List.getElem_mem hkl') wr S1 _ _ _ _ hn hlt q1 q2
          have hwl : w.heap.size < wr.heap.size := World.block_lt_of_cell? _ _ te
          have bk : (k : Int) < 3 := by omega
          have HNk : Hid (N = (argsT (kidsOf t)[k] && argsTs ((kidsOf t).drop (k + 1)))) := hNk
          clear hNk hn hlt q1 q2 hki hkid hsub ih HN
          generalize argsT (kidsOf t)[k] = A at *
          generalize opOf (kidsOf t)[k] = ok at *
          generalize numOf (kidsOf t)[k] = nk at *
          generalize txtOf (kidsOf t)[k] = tk at *
          generalize (kidsOf (kidsOf t)[k]).length = Lk at *
          clear hkl'
          cases A
          · go_wp2_with (go_at_call 24; refine call.mono ?_; rintro e w2 ⟨rfl, hb2⟩)
            go_ret
            exact ⟨by rw [HR.out, HNk.out]; rfl, tb.trans (hb2.mono tb.size)⟩
          · go_wp2_with (go_at_call 24; refine call.mono ?_; rintro e w2 ⟨rfl, hb2⟩)
            go_roundw
            case rel => exact ⟨k + 1, hkl, by go_num, HNk.out.trans rfl, tb.trans (hb2.mono tb.size), (hb2.cell (p := ⟨w.heap.size, 3, none⟩) hwl).trans te⟩
            case measure => simp [intOf]; omega
        · have hke : k = (kidsOf t).length := by have := HL.out; omega
          rw [hke, List.drop_length] at hNk
          have HNk : Hid (N = true) := hNk
          have hkn : ¬ (k : Int) < 3 := by omega
          clear hNk hkid hsub ih HN hke
          go_wp2_with fail
          go_ret
          exact ⟨by rw [HR.out, HNk.out]; rfl, tb⟩
    · have HL : Hid ((kidsOf t).length = 1) := hlens 1 h4
      rw [HL.out] at te0 hb1 ⊢
      rw [h1] at te0 hb1 ⊢
      clear hlens h4 bl h1
      go_enter Tryz.func24, Tryz.ntmps24
      go_wp2_with fail
      go_loopw [4] (fun i wr => ∃ k : Nat, k ≤ 1 ∧ i = .int .i64 k ∧ N = argsTs ((kidsOf t).drop k) ∧ Below w.heap.size w wr ∧ wr.cell? ⟨w.heap.size, 3, none⟩ = some (.slice ao 1 cap)) (fun i _ => 1 - (intOf i).toNat)
      case atStart => exact ⟨0, Nat.zero_le _, rfl, by rw [List.drop_zero]; exact HN.out, hb1, te0⟩
      case round =>
        clear te0 hb1
        obtain ⟨k, hk, rfl, hNk, tb, te⟩ := hrel
        by_cases hkl : k < 1
        · have hkl' : k < (kidsOf t).length := by have := HL.out; omega
          have hki : (kidsOf t)[k]? = some (kidsOf t)[k] := List.getElem?_eq_getElem hkl'
          rw [argsTs_step _ _ _ hki] at hNk
          obtain ⟨S1, g, ao', cap', rfl, c0, c1, c2, c3, hn, hlt⟩ := hkid wr tb k _ hki
          obtain ⟨q1, q2⟩ := hsub _ (List.getElem_mem hkl')
          have call := ih _ (List.getElem_mem hkl') wr S1 _ _ _ _ hn hlt q1 q2
          have hwl : w.heap.size < wr.heap.size := World.block_lt_of_cell? _ _ te
          have bk : (k : Int) < 1 := by omega
          have HNk : Hid (N = (argsT (kidsOf t)[k] && argsTs ((kidsOf t).drop (k + 1)))) := hNk
          clear hNk hn hlt q1 q2 hki hkid hsub ih HN
          generalize argsT (kidsOf t)[k] = A at *
          generalize opOf (kidsOf t)[k] = ok at *
          generalize numOf (kidsOf t)[k] = nk at *
          generalize txtOf (kidsOf t)[k] = tk at *
          generalize (kidsOf (kidsOf t)[k]).length = Lk at *
          clear hkl'
          cases A
          · go_wp2_with (go_at_call 24; refine call.mono ?_; rintro e w2 ⟨rfl, hb2⟩)
            go_ret
            exact ⟨by rw [HR.out, HNk.out]; rfl, tb.trans (hb2.mono tb.size)⟩
          · go_wp2_with (go_at_call 24; refine call.mono ?_; rintro e w2 ⟨rfl, hb2⟩)
            go_roundw
            case rel => exact ⟨k + 1, hkl, by go_num, HNk.out.trans rfl, tb.trans (hb2.mono tb.size), (hb2.cell (p := ⟨w.heap.size, 3, none⟩) hwl).trans te⟩
            case measure => simp [intOf]; omega
        · have hke : k = (kidsOf t).length := by have := HL.out; omega
          rw [hke, List.drop_length] at hNk
          have HNk : Hid (N = true) := hNk
          have hkn : ¬ (k : Int) < 1 := by omega
          clear hNk hkid hsub ih HN hke
          go_wp2_with fail
          go_ret
          exact ⟨by rw [HR.out, HNk.out]; rfl, tb⟩

end Ck
end Go.Proofs.YtjdohfdkkppnpaaGreatDoor

