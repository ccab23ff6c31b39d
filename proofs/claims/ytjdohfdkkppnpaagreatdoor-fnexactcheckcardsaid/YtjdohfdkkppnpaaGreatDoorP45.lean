/-
  The specification's l10Rexes.
  The specification's l10Line.
-/
import Derived.Test.YtjdohfdkkppnpaaGreatDoorP44
namespace Go.Proofs.YtjdohfdkkppnpaaGreatDoor
open Go.RowKit
namespace Ck
open Nd Ty

theorem rexT_nd {w : World} {t : Data} {S : Nat → Prop} {cs : List Value} (h : NodeIs w t S cs) : rexT t = if opOf t = 3 then okRex (txtOf t) else !rexN t && rexTs (kidsOf t) := by
  obtain ⟨op, n, s, ks, rfl⟩ := node_node h
  unfold nd
  rw [rexT]
  rfl

set_option maxHeartbeats 2000000 in
set_option maxRecDepth 100000 in
theorem rexes_of {t : Data} (ih : ∀ k ∈ kidsOf t, TellsN 25 rexT k) : TellsN 25 rexT t := by
  intro w S a b c u h hS hsz hf
  have hT := rexT_nd h
  have hlen := len_siz t
  have h21 := hf t (sub_self t)
  obtain ⟨ao, cap, xs, rfl, rfl, rfl, rfl, ho, hx⟩ := op_form h
  have bl : ((kidsOf t).length : Int) ≤ 1048576 := by omega
  obtain ⟨o1, ho1⟩ : ∃ o1, o1 = Obj.cells #[.int .i64 (opOf t), .int .i64 (numOf t), .string ⟨(txtOf t).toArray⟩, .slice ao (kidsOf t).length cap] 39 := ⟨_, rfl⟩
  have hb1 : Below w.heap.size w (w.alloc o1) := (Below.refl _ w).alloc (Nat.le_refl _) _
  have te0 : (w.alloc o1).cell? ⟨w.heap.size, 3, none⟩ = some (.slice ao (kidsOf t).length cap) := by have hh := heap_new w o1; unfold World.cell?; simp only [hh]; rw [ho1]; rfl
  have hkid : ∀ (w' : World), Below w.heap.size w w' → ∀ i k, (kidsOf t)[i]? = some k → _ := fun w' hb i k hi => kid_read ho hx hS hb hi
  have hsub : ∀ k ∈ kidsOf t, siz k ≤ 1048576 ∧ ∀ x ∈ subs k, opOf x = 21 → 2 ≤ (kidsOf x).length := fun k hk => ⟨by have := siz_kid hk; omega, fun x hx => hf x (sub_kid hk hx)⟩
  obtain ⟨R, hR⟩ : ∃ R, R = rexT t := ⟨_, rfl⟩
  rw [← hR] at hT ⊢
  clear h ho hx hS hsz hf hR
  by_cases h3 : opOf t = 3
  · rw [if_pos h3] at hT
    have HR : Hid (R = okRex (txtOf t)) := hT
    have call : ∀ w', Calls Tryz.prog 49 #[.string ⟨(txtOf t).toArray⟩] w' fun e w'' => (∃ (rop rc : Int) (rs : ByteArray) (rno : Bool) (rao : Option Addr) (rn rcap : Nat), e = .returned (.tuple #[.agg #[.int .i64 rop, .int .i64 rc, .string rs, .bool rno, .slice rao rn rcap], .bool (okRex (txtOf t))])) ∧ Below w'.heap.size w' w'' := fun w' => by
      refine (Rx.sRexParse ⟨(txtOf t).toArray⟩ w').mono ?_
      intro e w'' hR
      unfold okRex
      unfold Rx.RexOut at hR
      cases hp : Rx.parseV ⟨(txtOf t).toArray⟩ with
      | none => rw [hp] at hR; obtain ⟨rfl, hb''⟩ := hR; exact ⟨⟨_, _, _, _, _, _, _, rfl⟩, hb''⟩
      | some tr =>
        rw [hp] at hR
        obtain ⟨a, b, c, d, u, rfl, hb'', hI⟩ := hR
        obtain ⟨op, cc, st, no, ks, rfl⟩ := Rx.rex_node hI
        rw [Rx.rex_nd] at hI
        obtain ⟨v, ys, he, ho', -⟩ := hI
        simp at he
        obtain ⟨rfl, rfl, rfl, rfl, rfl⟩ := he
        obtain ⟨ao', cap', rfl⟩ := owns_slice ho'
        exact ⟨⟨_, _, _, _, _, _, _, rfl⟩, hb''⟩
    generalize okRex (txtOf t) = Q at *
    subst ho1
    rw [h3] at hb1 te0 ⊢
    clear hT ih hkid hsub h21 te0 h3
    go_enter Tryz.func25, Tryz.ntmps25
    go_wp2_with (go_at_call 49; refine (call _).mono ?_; rintro e w2 ⟨⟨rop, rc, rst, rno, rao, rn, rcap, rfl⟩, hb2⟩)
    go_ret
    exact ⟨by rw [HR.out]; rfl, (hb1.trans (hb2.mono hb1.size)).alloc (Nat.le_trans hb1.size hb2.size) _⟩
  · rw [if_neg h3] at hT
    have e3 : (opOf t == 3) = false := by simpa using h3
    obtain ⟨N, hN⟩ : ∃ N, N = rexTs (kidsOf t) := ⟨_, rfl⟩
    have HN : Hid (N = rexTs (kidsOf t)) := hN
    rw [← hN] at hT
    clear hN
    by_cases h2 : opOf t = 21
    · have hk2 := h21 h2
      have hi : (kidsOf t)[1]? = some (kidsOf t)[1] := List.getElem?_eq_getElem (by omega)
      have hrn : rexN t = !(opOf (kidsOf t)[1] == 3) := by
        unfold rexN
        rw [if_neg h3, if_pos h2, hi]
        by_cases hq : opOf (kidsOf t)[1] = 3 <;> simp [hq]
      obtain ⟨S1, g1, ao1, cap1, hao, k0, -⟩ := hkid _ hb1 1 _ hi
      subst hao
      rw [hrn] at hT
      have bl2 : (2 : Int) ≤ (kidsOf t).length := by omega
      simp only [Nat.one_mul] at k0
      subst ho1
      rw [h2] at hb1 te0 k0 ⊢
      clear hrn h21 hi e3 h3 h2 hlen
      by_cases hq : opOf (kidsOf t)[1] = 3
      · have HR : Hid (R = N) := by show _ = _; rw [hT]; simp [hq]
        rw [hq] at k0
        clear hT hq
        go_enter Tryz.func25, Tryz.ntmps25
        go_wp2_with fail
        clear k0
        go_loopw [5] (fun i wr => ∃ k : Nat, k ≤ (kidsOf t).length ∧ i = .int .i64 k ∧ N = rexTs ((kidsOf t).drop k) ∧ Below w.heap.size w wr ∧ wr.cell? ⟨w.heap.size, 3, none⟩ = some (.slice (some ⟨g1, 0, none⟩) (kidsOf t).length cap)) (fun i _ => (kidsOf t).length - (intOf i).toNat)
        case atStart => exact ⟨0, Nat.zero_le _, rfl, by rw [List.drop_zero]; exact HN.out, hb1, te0⟩
        case round =>
          clear te0 hb1
          obtain ⟨k, hk, rfl, hNk, tb, te⟩ := hrel
          by_cases hkl : k < (kidsOf t).length
          · have hki : (kidsOf t)[k]? = some (kidsOf t)[k] := List.getElem?_eq_getElem hkl
            rw [rexTs_step _ _ _ hki] at hNk
            obtain ⟨S1, g, ao', cap', hgg, c0, c1, c2, c3, hn, hlt⟩ := hkid wr tb k _ hki
            obtain rfl : g1 = g := by simpa using hgg
            clear hgg
            obtain ⟨q1, q2⟩ := hsub _ (List.getElem_mem hkl)
            have call := ih _ (List.getElem_mem hkl) wr S1 _ _ _ _ hn hlt q1 q2
            have hwl : w.heap.size < wr.heap.size := World.block_lt_of_cell? _ _ te
            have bk : (k : Int) < (kidsOf t).length := by omega
            have HNk : Hid (N = (rexT (kidsOf t)[k] && rexTs ((kidsOf t).drop (k + 1)))) := hNk
            clear hNk hn hlt q1 q2 hki hkid hsub ih HN
            generalize rexT (kidsOf t)[k] = A at *
            generalize opOf (kidsOf t)[k] = ok at *
            generalize numOf (kidsOf t)[k] = nk at *
            generalize txtOf (kidsOf t)[k] = tk at *
            generalize (kidsOf (kidsOf t)[k]).length = Lk at *
            cases A
            · go_wp2_with (go_at_call 25; refine call.mono ?_; rintro e w2 ⟨rfl, hb2⟩)
              go_ret
              exact ⟨by rw [HR.out, HNk.out]; rfl, tb.trans (hb2.mono tb.size)⟩
            · go_wp2_with (go_at_call 25; refine call.mono ?_; rintro e w2 ⟨rfl, hb2⟩)
              go_roundw
              case rel => exact ⟨k + 1, hkl, by go_num, HNk.out.trans rfl, tb.trans (hb2.mono tb.size), (hb2.cell (p := ⟨w.heap.size, 3, none⟩) hwl).trans te⟩
              case measure => simp [intOf]; omega
          · obtain rfl : k = (kidsOf t).length := by omega
            rw [List.drop_length] at hNk
            have HNk : Hid (N = true) := hNk
            clear hNk hkid hsub ih HN
            go_wp2_with fail
            go_ret
            exact ⟨by rw [HR.out, HNk.out]; rfl, tb⟩
      · have HR : Hid (R = false) := by show _ = _; rw [hT]; simp [hq]
        have eq : (opOf (kidsOf t)[1] == 3) = false := by simpa using hq
        have eq2 : (opOf (kidsOf t)[1] != 3) = true := by simp only [bne, eq]; rfl
        generalize opOf (kidsOf t)[1] = o1 at *
        clear hT hq ih hkid hsub HN te0
        go_enter Tryz.func25, Tryz.ntmps25
        go_wp2_with fail
        go_ret
        exact ⟨by rw [HR.out]; rfl, hb1⟩
    · have HR : Hid (R = N) := by show _ = _; rw [hT]; unfold rexN; rw [if_neg h3, if_neg h2]; rfl
      have e21 : (opOf t == 21) = false := by simpa using h2
      subst ho1
      clear hT h3 h2 h21 hlen
      go_enter Tryz.func25, Tryz.ntmps25
      go_wp2_with fail
      go_loopw [5] (fun i wr => ∃ k : Nat, k ≤ (kidsOf t).length ∧ i = .int .i64 k ∧ N = rexTs ((kidsOf t).drop k) ∧ Below w.heap.size w wr ∧ wr.cell? ⟨w.heap.size, 3, none⟩ = some (.slice ao (kidsOf t).length cap)) (fun i _ => (kidsOf t).length - (intOf i).toNat)
      case atStart => exact ⟨0, Nat.zero_le _, rfl, by rw [List.drop_zero]; exact HN.out, hb1, te0⟩
      case round =>
        clear te0 hb1
        obtain ⟨k, hk, rfl, hNk, tb, te⟩ := hrel
        by_cases hkl : k < (kidsOf t).length
        · have hki : (kidsOf t)[k]? = some (kidsOf t)[k] := List.getElem?_eq_getElem hkl
          rw [rexTs_step _ _ _ hki] at hNk
          obtain ⟨S1, g, ao', cap', rfl, c0, c1, c2, c3, hn, hlt⟩ := hkid wr tb k _ hki
          obtain ⟨q1, q2⟩ := hsub _ (List.getElem_mem hkl)
          have call := ih _ (List.getElem_mem hkl) wr S1 _ _ _ _ hn hlt q1 q2
          have hwl : w.heap.size < wr.heap.size := World.block_lt_of_cell? _ _ te
          have bk : (k : Int) < (kidsOf t).length := by omega
          have HNk : Hid (N = (rexT (kidsOf t)[k] && rexTs ((kidsOf t).drop (k + 1)))) := hNk
          clear hNk hn hlt q1 q2 hki hkid hsub ih HN
          generalize rexT (kidsOf t)[k] = A at *
          generalize opOf (kidsOf t)[k] = ok at *
          generalize numOf (kidsOf t)[k] = nk at *
          generalize txtOf (kidsOf t)[k] = tk at *
          generalize (kidsOf (kidsOf t)[k]).length = Lk at *
          cases A
          · go_wp2_with (go_at_call 25; refine call.mono ?_; rintro e w2 ⟨rfl, hb2⟩)
            go_ret
            exact ⟨by rw [HR.out, HNk.out]; rfl, tb.trans (hb2.mono tb.size)⟩
          · go_wp2_with (go_at_call 25; refine call.mono ?_; rintro e w2 ⟨rfl, hb2⟩)
            go_roundw
            case rel => exact ⟨k + 1, hkl, by go_num, HNk.out.trans rfl, tb.trans (hb2.mono tb.size), (hb2.cell (p := ⟨w.heap.size, 3, none⟩) hwl).trans te⟩
            case measure => simp [intOf]; omega
        · obtain rfl : k = (kidsOf t).length := by omega
          rw [List.drop_length] at hNk
          have HNk : Hid (N = true) := hNk
          clear hNk hkid hsub ih HN
          go_wp2_with fail
          go_ret
          exact ⟨by rw [HR.out, HNk.out]; rfl, tb⟩

theorem sRexes (t : Data) : TellsN 25 rexT t := by
  induction t using tree_ind with
  | h ks lab ih => exact rexes_of ih
  | h1 t ht =>
    intro w S a b c u h
    obtain ⟨op, n, s, ks, rfl⟩ := node_node h
    exact absurd rfl (ht _ _)
theorem sArgs (t : Data) : TellsN 24 argsT t := by
  induction t using tree_ind with
  | h ks lab ih => exact args_of ih
  | h1 t ht =>
    intro w S a b c u h
    obtain ⟨op, n, s, ks, rfl⟩ := node_node h
    exact absurd rfl (ht _ _)

end Ck
end Go.Proofs.YtjdohfdkkppnpaaGreatDoor

namespace Go.Proofs.YtjdohfdkkppnpaaGreatDoor
open Go.RowKit
namespace Ck
open Nd Ty

theorem lineT_nd {w : World} {t : Data} {S : Nat → Prop} {cs : List Value} (h : NodeIs w t S cs) : lineT t = (decide (opOf t = 6 ∨ opOf t = 7 ∨ opOf t = 8 ∨ opOf t = 33 ∨ opOf t = 3) || lineK (opOf t) 0 (kidsOf t)) := by
  obtain ⟨op, n, s, ks, rfl⟩ := node_node h
  unfold nd
  rw [lineT]
  rfl
theorem lineK_step (op : Int) (k : Nat) (ks : List Data) (t : Data) (h : ks[k]? = some t) : lineK op k (ks.drop k) = ((!(decide (op = 21) && decide (k = 1) && decide (opOf t = 3)) && lineT t) || lineK op (k + 1) (ks.drop (k + 1))) := by
  have hl := (List.getElem?_eq_some_iff.1 h).1
  rw [List.drop_eq_getElem_cons hl, lineK]
  have : ks[k] = t := by rw [List.getElem?_eq_getElem hl] at h; exact Option.some.inj h
  rw [this]

set_option maxHeartbeats 2000000 in
set_option maxRecDepth 100000 in
theorem line_of {t : Data} (ih : ∀ k ∈ kidsOf t, TellsN 21 lineT k) : TellsN 21 lineT t := by
  intro w S a b c u h hS hsz hf
  have hT := lineT_nd h
  have hlen := len_siz t
  obtain ⟨ao, cap, xs, rfl, rfl, rfl, rfl, ho, hx⟩ := op_form h
  have bl : ((kidsOf t).length : Int) ≤ 1048576 := by omega
  obtain ⟨o1, ho1⟩ : ∃ o1, o1 = Obj.cells #[.int .i64 (opOf t), .int .i64 (numOf t), .string ⟨(txtOf t).toArray⟩, .slice ao (kidsOf t).length cap] 39 := ⟨_, rfl⟩
  have hb1 : Below w.heap.size w (w.alloc o1) := (Below.refl _ w).alloc (Nat.le_refl _) _
  have te0 : (w.alloc o1).cell? ⟨w.heap.size, 3, none⟩ = some (.slice ao (kidsOf t).length cap) := by have hh := heap_new w o1; unfold World.cell?; simp only [hh]; rw [ho1]; rfl
  have tz0 : (w.alloc o1).cell? ⟨w.heap.size, 0, none⟩ = some (.int .i64 (opOf t)) := by have hh := heap_new w o1; unfold World.cell?; simp only [hh]; rw [ho1]; rfl
  have hkid : ∀ (w' : World), Below w.heap.size w w' → ∀ i k, (kidsOf t)[i]? = some k → _ := fun w' hb i k hi => kid_read ho hx hS hb hi
  have hsub : ∀ k ∈ kidsOf t, siz k ≤ 1048576 ∧ ∀ x ∈ subs k, opOf x = 21 → 2 ≤ (kidsOf x).length := fun k hk => ⟨by have := siz_kid hk; omega, fun x hx => hf x (sub_kid hk hx)⟩
  obtain ⟨R, hR⟩ : ∃ R, R = lineT t := ⟨_, rfl⟩
  rw [← hR] at hT ⊢
  clear h ho hx hS hsz hf hR
  by_cases h6 : opOf t = 6 ∨ opOf t = 7 ∨ opOf t = 8 ∨ opOf t = 33 ∨ opOf t = 3
  · have HR : Hid (R = true) := by show _ = _; rw [hT, decide_eq_true h6]; rfl
    subst ho1
    clear hT ih hkid hsub te0 tz0
    rcases h6 with h6 | h6 | h6 | h6 | h6
    all_goals
      rw [h6] at hb1 ⊢
      go_enter Tryz.func21, Tryz.ntmps21
      go_wp2_with fail
      go_ret
      exact ⟨by rw [HR.out]; rfl, hb1⟩
  · obtain ⟨N, hN⟩ : ∃ N, N = lineK (opOf t) 0 (kidsOf t) := ⟨_, rfl⟩
    have HN : Hid (N = lineK (opOf t) 0 (kidsOf t)) := hN
    have HR : Hid (R = N) := by show _ = _; rw [hT, decide_eq_false h6, hN]; rfl
    simp only [not_or] at h6
    obtain ⟨n6, n7, n8, n33, n3⟩ := h6
    have f6 : (opOf t == 6) = false := by simpa using n6
    have f7 : (opOf t == 7) = false := by simpa using n7
    have f8 : (opOf t == 8) = false := by simpa using n8
    have f33 : (opOf t == 33) = false := by simpa using n33
    have f3 : (opOf t == 3) = false := by simpa using n3
    subst ho1
    clear hT hN n6 n7 n8 n33 n3 hlen
    go_enter Tryz.func21, Tryz.ntmps21
    go_wp2_with fail
    go_loopw [3] (fun i wr => ∃ k : Nat, k ≤ (kidsOf t).length ∧ i = .int .i64 k ∧ N = lineK (opOf t) k ((kidsOf t).drop k) ∧ Below w.heap.size w wr ∧ wr.cell? ⟨w.heap.size, 3, none⟩ = some (.slice ao (kidsOf t).length cap) ∧ wr.cell? ⟨w.heap.size, 0, none⟩ = some (.int .i64 (opOf t))) (fun i _ => (kidsOf t).length - (intOf i).toNat)
    case atStart => exact ⟨0, Nat.zero_le _, rfl, by rw [List.drop_zero]; exact HN.out, hb1, te0, tz0⟩
    case round =>
      clear te0 hb1 tz0
      obtain ⟨k, hk, rfl, hNk, tb, te, tz⟩ := hrel
      by_cases hkl : k < (kidsOf t).length
      · have hki : (kidsOf t)[k]? = some (kidsOf t)[k] := List.getElem?_eq_getElem hkl
        rw [lineK_step _ _ _ _ hki] at hNk
        obtain ⟨S1, g, ao', cap', rfl, c0, c1, c2, c3, hn, hlt⟩ := hkid wr tb k _ hki
        obtain ⟨q1, q2⟩ := hsub _ (List.getElem_mem hkl)
        have call := ih _ (List.getElem_mem hkl) wr S1 _ _ _ _ hn hlt q1 q2
        have hwl : w.heap.size < wr.heap.size := World.block_lt_of_cell? _ _ te
        have bk : (k : Int) < (kidsOf t).length := by omega
        obtain ⟨M, hM⟩ : ∃ M, M = lineK (opOf t) (k + 1) ((kidsOf t).drop (k + 1)) := ⟨_, rfl⟩
        have HNN : Hid (M = lineK (opOf t) (k + 1) ((kidsOf t).drop (k + 1))) := hM
        rw [← hM] at hNk
        have HNq : Hid (N = ((!(decide (opOf t = 21) && decide (k = 1) && decide (opOf (kidsOf t)[k] = 3)) && lineT (kidsOf t)[k]) || M)) := hNk
        have ek : ((k : Int) == 1) = decide (k = 1) := by by_cases h : k = 1 <;> simp [h] <;> omega
        clear hNk hM hn hlt q1 q2 hki hkid hsub ih HN
        generalize lineT (kidsOf t)[k] = A at *
        generalize opOf (kidsOf t)[k] = ok at *
        generalize numOf (kidsOf t)[k] = nk at *
        generalize txtOf (kidsOf t)[k] = tk at *
        generalize (kidsOf (kidsOf t)[k]).length = Lk at *
        have hgo : (opOf t == 21) = false ∨ ((opOf t == 21) = true ∧ ((k : Int) == 1) = false) ∨ ((opOf t == 21) = true ∧ ((k : Int) == 1) = true ∧ (ok == 3) = false) ∨ ((opOf t == 21) = true ∧ ((k : Int) == 1) = true ∧ (ok == 3) = true) := by
          cases (opOf t == 21) <;> cases ((k : Int) == 1) <;> cases (ok == 3) <;> simp
        have HNk : Hid (((opOf t == 21) = true ∧ ((k : Int) == 1) = true ∧ (ok == 3) = true → N = M) ∧ (¬ ((opOf t == 21) = true ∧ ((k : Int) == 1) = true ∧ (ok == 3) = true) → N = (A || M))) := by
          refine ⟨fun h => ?_, fun h => ?_⟩
          · rw [ek] at h
            simp only [beq_iff_eq, decide_eq_true_eq] at h
            rw [HNq.out]
            simp [h.1, h.2.1, h.2.2]
          · rw [ek] at h
            simp only [beq_iff_eq, decide_eq_true_eq, not_and] at h
            rw [HNq.out]
            by_cases a1 : opOf t = 21 <;> by_cases a2 : k = 1 <;> by_cases a3 : ok = 3 <;> simp_all
        have HA : Hid (¬ ((opOf t == 21) = true ∧ ((k : Int) == 1) = true ∧ (ok == 3) = true) → N = (A || M)) := HNk.out.2
        have HB : Hid ((opOf t == 21) = true ∧ ((k : Int) == 1) = true ∧ (ok == 3) = true → N = M) := HNk.out.1
        clear HNq ek HNk
        rcases hgo with h1 | ⟨h1, h2⟩ | ⟨h1, h2, h3⟩ | ⟨h1, h2, h3⟩
        · have HC : Hid (N = (A || M)) := HA.out (by simp [h1])
          clear HA HB
          cases A
          · go_wp2_with (go_at_call 21; refine call.mono ?_; rintro e w2 ⟨rfl, hb2⟩)
            go_roundw
            case rel => exact ⟨k + 1, hkl, by go_num, HC.out.trans HNN.out, tb.trans (hb2.mono tb.size), (hb2.cell (p := ⟨w.heap.size, 3, none⟩) hwl).trans te, (hb2.cell (p := ⟨w.heap.size, 0, none⟩) hwl).trans tz⟩
            case measure => simp [intOf]; omega
          · go_wp2_with (go_at_call 21; refine call.mono ?_; rintro e w2 ⟨rfl, hb2⟩)
            go_ret
            exact ⟨by rw [HR.out, HC.out]; rfl, tb.trans (hb2.mono tb.size)⟩
        · have HC : Hid (N = (A || M)) := HA.out (by simp [h2])
          clear HA HB
          cases A
          · go_wp2_with (go_at_call 21; refine call.mono ?_; rintro e w2 ⟨rfl, hb2⟩)
            go_roundw
            case rel => exact ⟨k + 1, hkl, by go_num, HC.out.trans HNN.out, tb.trans (hb2.mono tb.size), (hb2.cell (p := ⟨w.heap.size, 3, none⟩) hwl).trans te, (hb2.cell (p := ⟨w.heap.size, 0, none⟩) hwl).trans tz⟩
            case measure => simp [intOf]; omega
          · go_wp2_with (go_at_call 21; refine call.mono ?_; rintro e w2 ⟨rfl, hb2⟩)
            go_ret
            exact ⟨by rw [HR.out, HC.out]; rfl, tb.trans (hb2.mono tb.size)⟩
        · have HC : Hid (N = (A || M)) := HA.out (by simp [h3])
          clear HA HB
          cases A
          · go_wp2_with (go_at_call 21; refine call.mono ?_; rintro e w2 ⟨rfl, hb2⟩)
            go_roundw
            case rel => exact ⟨k + 1, hkl, by go_num, HC.out.trans HNN.out, tb.trans (hb2.mono tb.size), (hb2.cell (p := ⟨w.heap.size, 3, none⟩) hwl).trans te, (hb2.cell (p := ⟨w.heap.size, 0, none⟩) hwl).trans tz⟩
            case measure => simp [intOf]; omega
          · go_wp2_with (go_at_call 21; refine call.mono ?_; rintro e w2 ⟨rfl, hb2⟩)
            go_ret
            exact ⟨by rw [HR.out, HC.out]; rfl, tb.trans (hb2.mono tb.size)⟩
        · have HC : Hid (N = M) := HB.out ⟨h1, h2, h3⟩
          clear HA HB call
          go_wp2_with fail
          go_roundw
          case rel => exact ⟨k + 1, hkl, by go_num, HC.out.trans HNN.out, tb, te, tz⟩
          case measure => simp [intOf]; omega
      · obtain rfl : k = (kidsOf t).length := by omega
        rw [List.drop_length] at hNk
        have HNk : Hid (N = false) := hNk
        clear hNk hkid hsub ih HN
        go_wp2_with fail
        go_ret
        exact ⟨by rw [HR.out, HNk.out]; rfl, tb⟩

theorem sLine (t : Data) : TellsN 21 lineT t := by
  induction t using tree_ind with
  | h ks lab ih => exact line_of ih
  | h1 t ht =>
    intro w S a b c u h
    obtain ⟨op, n, s, ks, rfl⟩ := node_node h
    exact absurd rfl (ht _ _)

end Ck
end Go.Proofs.YtjdohfdkkppnpaaGreatDoor

