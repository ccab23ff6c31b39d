/-
  The specification's l10Line.
  The specification's reasons are the program's.
-/
import Derived.Test.YtodeiaejiilodaaGreatDoorP44
import Derived.Test.YtodeiaejiilodaaGreatDoorP35
namespace Go.Proofs.YtodeiaejiilodaaGreatDoor
open Go.RowKit
namespace Ck
open Nd Ty

theorem lineT_nd {w : World} {t : Data} {S : Nat → Prop} {cs : List Value} (h : NodeIs w t S cs) : lineT t = (decide (opOf t = 6 ∨ opOf t = 7 ∨ opOf t = 8 ∨ opOf t = 33 ∨ opOf t = 3) || lineK (opOf t) 0 (kidsOf t)) := by
  obtain ⟨op, n, s, ks, rfl⟩ := node_node h
  unfold nd
  rw [lineT]
  rfl
theorem lineK_step (op : Int) (k : Nat) (ks : List Data) (t : Data) (h : ks[k]? = some t) : lineK op k (ks.drop k) = ((!(decide (op = 21) && decide (k = 1) && decide (opOf t = 3)) && lineT t) || lineK op (k + 1) (ks.drop (k + 1))) := by
  have hl := (List.getElem?_eq_some_iff.1 h).1
  rw [List.drop_eq_getElem_cons hl, lineK]
  have : ks[k] = t := by rw [List.getElem?_eq_getElem hl] at h; exact Option.some.inj h
  rw [this]

set_option maxHeartbeats 2000000 in
set_option maxRecDepth 100000 in
theorem line_of {t : Data} (ih : ∀ k ∈ kidsOf t, TellsN 11 lineT k) : TellsN 11 lineT t := by
  intro w S a b c u h hS hsz hf
  have hT := lineT_nd h
  have hlen := len_siz t
  obtain ⟨ao, cap, xs, rfl, rfl, rfl, rfl, ho, hx⟩ := op_form h
  have bl : ((kidsOf t).length : Int) ≤ 1048576 := by omega
  obtain ⟨o1, ho1⟩ : ∃ o1, o1 = Obj.cells #[.int .i64 (opOf t), .int .i64 (numOf t), .string ⟨(txtOf t).toArray⟩, .slice ao (kidsOf t).length cap] 38 := ⟨_, rfl⟩
  have hb1 : Below w.heap.size w (w.alloc o1) := (Below.refl _ w).alloc (Nat.le_refl _) _
  have te0 : (w.alloc o1).cell? ⟨w.heap.size, 3, none⟩ = some (.slice ao (kidsOf t).length cap) := by have hh := heap_new w o1; unfold World.cell?; simp only [hh]; rw [ho1]; rfl
  have tz0 : (w.alloc o1).cell? ⟨w.heap.size, 0, none⟩ = some (.int .i64 (opOf t)) := by have hh := heap_new w o1; unfold World.cell?; simp only [hh]; rw [ho1]; rfl
  have hkid : ∀ (w' : World), Below w.heap.size w w' → ∀ i k, (kidsOf t)[i]? = some k → _ := fun w' hb i k hi => kid_read ho hx hS hb hi
  have hsub : ∀ k ∈ kidsOf t, siz k ≤ 1048576 ∧ ∀ x ∈ subs k, opOf x = 21 → 2 ≤ (kidsOf x).length := fun k hk => ⟨by have := siz_kid hk; omega, fun x hx => hf x (sub_kid hk hx)⟩
  obtain ⟨R, hR⟩ : ∃ R, R = lineT t := ⟨_, rfl⟩
  rw [← hR] at hT ⊢
  clear h ho hx hS hsz hf hR
  by_cases h6 : opOf t = 6 ∨ opOf t = 7 ∨ opOf t = 8 ∨ opOf t = 33 ∨ opOf t = 3
  · have HR : Hid (R = true) := by show _ = _; rw [hT, decide_eq_true h6]; rfl
    subst ho1
    clear hT ih hkid hsub te0 tz0
    rcases h6 with h6 | h6 | h6 | h6 | h6
    all_goals
      rw [h6] at hb1 ⊢
      go_enter Tryz.func11, Tryz.ntmps11
      go_wp2_with fail
      go_ret
      exact ⟨by rw [HR.out]; rfl, hb1⟩
  · obtain ⟨N, hN⟩ : ∃ N, N = lineK (opOf t) 0 (kidsOf t) := ⟨_, rfl⟩
    have HN : Hid (N = lineK (opOf t) 0 (kidsOf t)) := hN
    have HR : Hid (R = N) := by show _ = _; rw [hT, decide_eq_false h6, hN]; rfl
    simp only [not_or] at h6
    obtain ⟨n6, n7, n8, n33, n3⟩ := h6
    have f6 : (opOf t == 6) = false := by simpa using n6
    have f7 : (opOf t == 7) = false := by simpa using n7
    have f8 : (opOf t == 8) = false := by simpa using n8
    have f33 : (opOf t == 33) = false := by simpa using n33
    have f3 : (opOf t == 3) = false := by simpa using n3
    subst ho1
    clear hT hN n6 n7 n8 n33 n3 hlen
    go_enter Tryz.func11, Tryz.ntmps11
    go_wp2_with fail
    go_loopw [3] (fun i wr => ∃ k : Nat, k ≤ (kidsOf t).length ∧ i = .int .i64 k ∧ N = lineK (opOf t) k ((kidsOf t).drop k) ∧ Below w.heap.size w wr ∧ wr.cell? ⟨w.heap.size, 3, none⟩ = some (.slice ao (kidsOf t).length cap) ∧ wr.cell? ⟨w.heap.size, 0, none⟩ = some (.int .i64 (opOf t))) (fun i _ => (kidsOf t).length - (intOf i).toNat)
    case atStart => exact ⟨0, Nat.zero_le _, rfl, by rw [List.drop_zero]; exact HN.out, hb1, te0, tz0⟩
    case round =>
      clear te0 hb1 tz0
      obtain ⟨k, hk, rfl, hNk, tb, te, tz⟩ := hrel
      by_cases hkl : k < (kidsOf t).length
      · have hki : (kidsOf t)[k]? = some (kidsOf t)[k] := List.getElem?_eq_getElem hkl
        rw [lineK_step _ _ _ _ hki] at hNk
        obtain ⟨S1, g, ao', cap', rfl, c0, c1, c2, c3, hn, hlt⟩ := hkid wr tb k _ hki
        obtain ⟨q1, q2⟩ := hsub _ (List.getElem_mem hkl)
        have call := ih _ (List.getElem_mem hkl) wr S1 _ _ _ _ hn hlt q1 q2
        have hwl : w.heap.size < wr.heap.size := World.block_lt_of_cell? _ _ te
        have bk : (k : Int) < (kidsOf t).length := by omega
        obtain ⟨M, hM⟩ : ∃ M, M = lineK (opOf t) (k + 1) ((kidsOf t).drop (k + 1)) := ⟨_, rfl⟩
        have HNN : Hid (M = lineK (opOf t) (k + 1) ((kidsOf t).drop (k + 1))) := hM
        rw [← hM] at hNk
        have HNq : Hid (N = ((!(decide (opOf t = 21) && decide (k = 1) && decide (opOf (kidsOf t)[k] = 3)) && lineT (kidsOf t)[k]) || M)) := hNk
        have ek : ((k : Int) == 1) = decide (k = 1) := by by_cases h : k = 1 <;> simp [h] <;> omega
        clear hNk hM hn hlt q1 q2 hki hkid hsub ih HN
        generalize lineT (kidsOf t)[k] = A at *
        generalize opOf (kidsOf t)[k] = ok at *
        generalize numOf (kidsOf t)[k] = nk at *
        generalize txtOf (kidsOf t)[k] = tk at *
        generalize (kidsOf (kidsOf t)[k]).length = Lk at *
        have hgo : (opOf t == 21) = false ∨ ((opOf t == 21) = true ∧ ((k : Int) == 1) = false) ∨ ((opOf t == 21) = true ∧ ((k : Int) == 1) = true ∧ (ok == 3) = false) ∨ ((opOf t == 21) = true ∧ ((k : Int) == 1) = true ∧ (ok == 3) = true) := by
          cases (opOf t == 21) <;> cases ((k : Int) == 1) <;> cases (ok == 3) <;> simp
        have HNk : Hid (((opOf t == 21) = true ∧ ((k : Int) == 1) = true ∧ (ok == 3) = true → N = M) ∧ (¬ ((opOf t == 21) = true ∧ ((k : Int) == 1) = true ∧ (ok == 3) = true) → N = (A || M))) := by
          refine ⟨fun h => ?_, fun h => ?_⟩
          · rw [ek] at h
            simp only [beq_iff_eq, decide_eq_true_eq] at h
            rw [HNq.out]
            simp [h.1, h.2.1, h.2.2]
          · rw [ek] at h
            simp only [beq_iff_eq, decide_eq_true_eq, not_and] at h
            rw [HNq.out]
            by_cases a1 : opOf t = 21 <;> by_cases a2 : k = 1 <;> by_cases a3 : ok = 3 <;> simp_all
        have HA : Hid (¬ ((opOf t == 21) = true ∧ ((k : Int) == 1) = true ∧ (ok == 3) = true) → N = (A || M)) := HNk.out.2
        have HB : Hid ((opOf t == 21) = true ∧ ((k : Int) == 1) = true ∧ (ok == 3) = true → N = M) := HNk.out.1
        clear HNq ek HNk
        rcases hgo with h1 | ⟨h1, h2⟩ | ⟨h1, h2, h3⟩ | ⟨h1, h2, h3⟩
        · have HC : Hid (N = (A || M)) := HA.out (by simp [h1])
          clear HA HB
          cases A
          · go_wp2_with (go_at_call 11; refine call.mono ?_; rintro e w2 ⟨rfl, hb2⟩)
            go_roundw
            case rel => exact ⟨k + 1, hkl, by go_num, HC.out.trans HNN.out, tb.trans (hb2.mono tb.size), (hb2.cell (p := ⟨w.heap.size, 3, none⟩) hwl).trans te, (hb2.cell (p := ⟨w.heap.size, 0, none⟩) hwl).trans tz⟩
            case measure => simp [intOf]; omega
          · go_wp2_with (go_at_call 11; refine call.mono ?_; rintro e w2 ⟨rfl, hb2⟩)
            go_ret
            exact ⟨by rw [HR.out, HC.out]; rfl, tb.trans (hb2.mono tb.size)⟩
        · have HC : Hid (N = (A || M)) := HA.out (by simp [h2])
          clear HA HB
          cases A
          · go_wp2_with (go_at_call 11; refine call.mono ?_; rintro e w2 ⟨rfl, hb2⟩)
            go_roundw
            case rel => exact ⟨k + 1, hkl, by go_num, HC.out.trans HNN.out, tb.trans (hb2.mono tb.size), (hb2.cell (p := ⟨w.heap.size, 3, none⟩) hwl).trans te, (hb2.cell (p := ⟨w.heap.size, 0, none⟩) hwl).trans tz⟩
            case measure => simp [intOf]; omega
          · go_wp2_with (go_at_call 11; refine call.mono ?_; rintro e w2 ⟨rfl, hb2⟩)
            go_ret
            exact ⟨by rw [HR.out, HC.out]; rfl, tb.trans (hb2.mono tb.size)⟩
        · have HC : Hid (N = (A || M)) := HA.out (by simp [h3])
          clear HA HB
          cases A
          · go_wp2_with (go_at_call 11; refine call.mono ?_; rintro e w2 ⟨rfl, hb2⟩)
            go_roundw
            case rel => exact ⟨k + 1, hkl, by go_num, HC.out.trans HNN.out, tb.trans (hb2.mono tb.size), (hb2.cell (p := ⟨w.heap.size, 3, none⟩) hwl).trans te, (hb2.cell (p := ⟨w.heap.size, 0, none⟩) hwl).trans tz⟩
            case measure => simp [intOf]; omega
          · go_wp2_with (go_at_call 11; refine call.mono ?_; rintro e w2 ⟨rfl, hb2⟩)
            go_ret
            exact ⟨by rw [HR.out, HC.out]; rfl, tb.trans (hb2.mono tb.size)⟩
        · have HC : Hid (N = M) := HB.out ⟨h1, h2, h3⟩
          clear HA HB call
          go_wp2_with fail
          go_roundw
          case rel => exact ⟨k + 1, hkl, by go_num, HC.out.trans HNN.out, tb, te, tz⟩
          case measure => simp [intOf]; omega
      · obtain rfl : k = (kidsOf t).length := by omega
        rw [List.drop_length] at hNk
        have HNk : Hid (N = false) := hNk
        clear hNk hkid hsub ih HN
        go_wp2_with fail
        go_ret
        exact ⟨by rw [HR.out, HNk.out]; rfl, tb⟩

theorem sLine (t : Data) : TellsN 11 lineT t := by
  induction t using tree_ind with
  | h ks lab ih => exact line_of ih
  | h1 t ht =>
    intro w S a b c u h
    obtain ⟨op, n, s, ks, rfl⟩ := node_node h
    exact absurd rfl (ht _ _)

end Ck
end Go.Proofs.YtodeiaejiilodaaGreatDoor

namespace Go.Proofs.YtodeiaejiilodaaGreatDoor
namespace Ck
open Nd Ty

theorem node_subs {w : World} (t : Data) : ∀ (S : Nat → Prop) (cs : List Value), NodeIs w t S cs → ∀ x ∈ subs t, Node x := by
  induction t using tree_ind with
  | h1 t ht =>
    intro S cs h
    obtain ⟨op, n, s, ks, rfl⟩ := node_node h
    exact absurd rfl (ht _ _)
  | h ks lab ih =>
    intro S cs h x hx
    rw [subs, List.mem_cons] at hx
    rcases hx with rfl | hx
    · exact node_node h
    · obtain ⟨k, hk, hx⟩ := mem_subsL.1 hx
      rw [NodeIs] at h
      obtain ⟨op, n, s, v, xs, hl, hc, ho, hg, hn⟩ := h
      obtain ⟨i, hi⟩ := List.getElem?_of_mem hk
      obtain ⟨S1, a, b, c, u, -, -, -, -, hk', -⟩ := nodes_at hn hi
      exact ih k hk _ _ hk' x hx
theorem rules_nodes {w : World} {S : Nat → Prop} : ∀ {rs : List Ru} {xs : List Value}, RulesIs w S rs xs → ∀ t, SubR rs t → Node t
  | [], xs, _, t, h => by obtain ⟨r, hr, _⟩ := h; simp at hr
  | r :: rs, xs, h, t, ht => by
    obtain ⟨p0, p1, p2, p3, b0, b1, b2, b3, c, rfl, h1, h2, h3⟩ := h
    obtain ⟨r', hr, hs⟩ := ht
    rcases List.mem_cons.1 hr with rfl | hr
    · rcases hs with hs | hs
      · exact node_subs _ _ _ h1 t hs
      · exact node_subs _ _ _ h2 t hs
    · exact rules_nodes h3 t ⟨r', hr, hs⟩

theorem asc_eqC {ns ms : List (List UInt8)} (h : ∀ x, x ∈ ns ↔ x ∈ ms) : ascS ns = ascS ms := by
  have h1 := sort_asc (asc_nodup (ascS_asc ns)) (ns := ns) fun x => ascS_mem
  have h2 := sort_asc (asc_nodup (ascS_asc ns)) (ns := ms) fun x => by rw [ascS_mem, h]
  exact h1.symm.trans h2
theorem varsC (rs : List Ru) : ascS (varsIn (allOf rs)) = ascS (varsIn (dfs rs)) := asc_eqC fun x => by
  unfold varsIn
  rw [List.mem_filterMap, List.mem_filterMap]
  simp only [mem_allOf, mem_dfs]
theorem cellsC (rs : List Ru) : ascS (cellsIn (allOf rs)) = ascS (cellsIn (dfs rs)) := asc_eqC fun x => by
  unfold cellsIn
  rw [List.mem_filterMap, List.mem_filterMap]
  simp only [mem_allOf, mem_dfs]

section
variable {rs : List Ru} (hN : ∀ t, SubR rs t → Node t)
include hN
theorem bad1_iff (ht : tidyB rs = true) : Bad rs 1 ↔ ∃ (i : Nat) (r : Ru), rs[i]? = some r ∧ r.1 = 1 ∧ (0 < i ∨ lineT r.2.2 = true) := by
  have key : ∀ r, rs[0]? = some r → r.1 = 1 → (needP rs ↔ lineT r.2.2 = true) := fun r h0 h1 => by
    have hr : r ∈ rs := List.mem_of_getElem? h0
    have htk : rs.take 1 = [r] := by
      cases rs with
      | nil => simp at h0
      | cons a rs => simp at h0; subst h0; rfl
    have hru := List.all_eq_true.1 ht r hr
    simp only [ruleB, Bool.and_eq_true, h1, blB, decide_eq_true_eq, true_or, if_true] at hru
    obtain ⟨⟨hb, -⟩, hz⟩ := hru
    simp only [zeroB, Bool.and_eq_true, decide_eq_true_eq] at hz
    rw [line_iff (fun x hx => ⟨hN x ⟨r, hr, .inr hx⟩, tidy_sub ht ⟨r, hr, .inr hx⟩⟩) (by omega)]
    unfold needP
    rw [htk]
    constructor
    · rintro ⟨t, hm, hn⟩
      obtain ⟨r', hr', hs⟩ := mem_allOf.1 hm
      simp only [List.mem_singleton] at hr'
      subst hr'
      rcases hs with hs | hs
      · rw [subs_kids, hz.2] at hs
        simp only [subsL, List.mem_singleton] at hs
        subst hs
        simp [needN, hz.1.1.1, hz.2, needK] at hn
      · exact ⟨t, hs, hn⟩
    · rintro ⟨t, hs, hn⟩
      exact ⟨t, mem_allOf.2 ⟨r, by simp, .inr hs⟩, hn⟩
  show badBegin rs ↔ _
  unfold badBegin
  constructor
  · rintro ⟨i, r, h1, h2, h3⟩
    refine ⟨i, r, h1, h2, ?_⟩
    by_cases hi : 0 < i
    · exact .inl hi
    · obtain rfl : i = 0 := by omega
      exact .inr ((key r h1 h2).1 (h3.resolve_left hi))
  · rintro ⟨i, r, h1, h2, h3⟩
    refine ⟨i, r, h1, h2, ?_⟩
    by_cases hi : 0 < i
    · exact .inl hi
    · obtain rfl : i = 0 := by omega
      exact .inr ((key r h1 h2).2 (h3.resolve_left hi))
omit hN in
theorem bad2_iff : Bad rs 2 ↔ (8 < (ascS (varsIn (dfs rs))).length ∨ 8 < (ascS (cellsIn (dfs rs))).length) := by
  show tooMany (allOf rs) = true ↔ _
  unfold tooMany
  rw [varsC, cellsC, Bool.or_eq_true, decide_eq_true_eq, decide_eq_true_eq]
omit hN in
theorem bad3_iff : Bad rs 3 ↔ ∃ x ∈ ascS (varsIn (dfs rs)), x ∈ ascS (cellsIn (dfs rs)) := by
  show bothAll (allOf rs) ↔ _
  unfold bothAll
  rw [← varsC, ← cellsC]
  simp only [ascS_mem]
theorem bad4_iff : Bad rs 4 ↔ ∃ r ∈ rs, argsT r.2.1 = false ∨ argsT r.2.2 = false := by
  show (∃ t ∈ allOf rs, argsB t = true) ↔ _
  constructor
  · rintro ⟨t, hm, hb⟩
    obtain ⟨r, hr, hs⟩ := mem_allOf.1 hm
    refine ⟨r, hr, ?_⟩
    rcases hs with hs | hs
    · refine .inl (Bool.eq_false_iff.2 fun h => ?_)
      rw [(args_iff (fun x hx => hN x ⟨r, hr, .inl hx⟩)).1 h t hs] at hb
      cases hb
    · refine .inr (Bool.eq_false_iff.2 fun h => ?_)
      rw [(args_iff (fun x hx => hN x ⟨r, hr, .inr hx⟩)).1 h t hs] at hb
      cases hb
  · rintro ⟨r, hr, h | h⟩
    · refine Classical.byContradiction fun hno => ?_
      rw [(args_iff (fun x hx => hN x ⟨r, hr, .inl hx⟩)).2 fun x hx => Bool.eq_false_iff.2 fun hb => hno ⟨x, mem_allOf.2 ⟨r, hr, .inl hx⟩, hb⟩] at h
      cases h
    · refine Classical.byContradiction fun hno => ?_
      rw [(args_iff (fun x hx => hN x ⟨r, hr, .inr hx⟩)).2 fun x hx => Bool.eq_false_iff.2 fun hb => hno ⟨x, mem_allOf.2 ⟨r, hr, .inr hx⟩, hb⟩] at h
      cases h
theorem bad5_iff (ht : tidyB rs = true) : Bad rs 5 ↔ ∃ r ∈ rs, rexT r.2.1 = false ∨ rexT r.2.2 = false := by
  show (∃ t ∈ allOf rs, rexN t = true) ↔ _
  have hp : ∀ r ∈ rs, ∀ x ∈ subs r.2.1, Node x ∧ Fine x := fun r hr x hx => ⟨hN x ⟨r, hr, .inl hx⟩, tidy_sub ht ⟨r, hr, .inl hx⟩⟩
  have hb : ∀ r ∈ rs, ∀ x ∈ subs r.2.2, Node x ∧ Fine x := fun r hr x hx => ⟨hN x ⟨r, hr, .inr hx⟩, tidy_sub ht ⟨r, hr, .inr hx⟩⟩
  constructor
  · rintro ⟨t, hm, hq⟩
    obtain ⟨r, hr, hs⟩ := mem_allOf.1 hm
    refine ⟨r, hr, ?_⟩
    rcases hs with hs | hs
    · refine .inl (Bool.eq_false_iff.2 fun h => ?_)
      rw [(rex_iff (hp r hr)).1 h t hs] at hq
      cases hq
    · refine .inr (Bool.eq_false_iff.2 fun h => ?_)
      rw [(rex_iff (hb r hr)).1 h t hs] at hq
      cases hq
  · rintro ⟨r, hr, h | h⟩
    · refine Classical.byContradiction fun hno => ?_
      rw [(rex_iff (hp r hr)).2 fun x hx => Bool.eq_false_iff.2 fun hq => hno ⟨x, mem_allOf.2 ⟨r, hr, .inl hx⟩, hq⟩] at h
      cases h
    · refine Classical.byContradiction fun hno => ?_
      rw [(rex_iff (hb r hr)).2 fun x hx => Bool.eq_false_iff.2 fun hq => hno ⟨x, mem_allOf.2 ⟨r, hr, .inr hx⟩, hq⟩] at h
      cases h
end

end Ck
end Go.Proofs.YtodeiaejiilodaaGreatDoor

