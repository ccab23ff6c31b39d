/-
  The specification's Write, and the law FnExactWrite.
-/
import Derived.Test.YtjdohfdkkppnpaaGreatDoorQ41
import Derived.Test.YtjdohfdkkppnpaaGreatDoorQ45
import Derived.Test.YtjdohfdkkppnpaaGreatDoorQ47
namespace Go.Proofs.YtjdohfdkkppnpaaGreatDoor
open Go.RowKit
namespace Ty
open Nd
set_option linter.unusedSimpArgs false
set_option linter.unusedVariables false

set_option maxHeartbeats 4000000 in
set_option maxRecDepth 100000 in
theorem sWrite {w : World} {rs : List Ru} {S : Nat → Prop} {v : Value} {xs : List Value} {B : Nat} (hS : Sen w) (hsz : sizR rs ≤ 1048576) (hlt : ∀ k, S k → k < w.heap.size) (ho : w.ownsRow B 41 9 v rs.length xs) (hR : RulesIs w S rs xs) :
    Calls Tryz.prog 6 #[v] w fun e w' => e = .returned (.string ⟨(writeT rs).toArray⟩) ∧ Below w.heap.size w w' := by
  have cT : ∀ w', Below w.heap.size w w' → Calls Tryz.prog 13 #[v] w' fun e w'' => e = .returned (.bool (tidyB rs)) ∧ Below w'.heap.size w' w'' := fun w' h => sTidy (hS.later h) hsz (fun k hk => Nat.lt_of_lt_of_le (hlt k hk) h.size) (owns_same ho fun g hg => h.block g (ho.lt g hg).2) (rules_frame (fun k hk => h.block k (hlt k hk)) hR)
  obtain ⟨ao, cap, rfl⟩ := owns_slice ho
  have bn : (rs.length : Int) ≤ 1048576 := by have := sizR_len rs; omega
  by_cases hn : rs.length = 0
  · have hnil : rs = [] := List.length_eq_zero_iff.1 hn
    subst hnil
    go_enter Tryz.func6, Tryz.ntmps6
    go_wp2_with fail
    go_loopw [3, 4] (fun v i wr => v = .string ⟨#[]⟩ ∧ i = .int .i64 0 ∧ wr = w) (fun _ _ _ => 0)
    case atStart => exact ⟨rfl, rfl, rfl⟩
    case round =>
      obtain ⟨rfl, rfl, rfl⟩ := hrel
      go_wp2_with fail
      go_ret
      exact ⟨rfl, Below.refl _ _⟩
  rcases hT : tidyB rs with _ | _
  · rw [hT] at cT
    have HW : Hid (writeT rs = []) := by show _ = _; unfold writeT; rw [hT]; rfl
    have hpos : (0 : Int) < rs.length := by omega
    clear hR ho hT hn
    generalize writeT rs = T at *
    go_enter Tryz.func6, Tryz.ntmps6
    go_wp2_with fail
    go_loopw [3, 4] (fun v i wr => v = .string ⟨#[]⟩ ∧ i = .int .i64 0 ∧ wr = w) (fun _ _ _ => 0)
    case atStart => exact ⟨rfl, rfl, rfl⟩
    case round =>
      obtain ⟨rfl, rfl, rfl⟩ := hrel
      go_wp2_with (go_at_call 13; refine (cT _ (Below.refl _ _)).mono ?_; rintro e w1 ⟨rfl, hb1⟩)
      go_ret
      exact ⟨by rw [HW.out]; rfl, hb1⟩
  · rw [hT] at cT
    have hrs : ∀ r ∈ rs, ruleB r = true := List.all_eq_true.1 hT
    have HW : Hid (writeT rs = rulesT rs) := by show _ = _; unfold writeT; rw [hT]; rfl
    have HE : Hid (rulesT (rs.take rs.length) = rulesT rs) := by show _ = _; rw [List.take_length]
    have hRk : ∀ (k : Nat) r, rs[k]? = some r → ∃ (g : Nat) (p0 p1 p2 p3 b0 b1 b2 b3 : Value), ao = some ⟨g, 0, none⟩ ∧ ArgIs w r.2.1 [p0, p1, p2, p3] ∧ ArgIs w r.2.2 [b0, b1, b2, b3] ∧ siz r.2.1 ≤ 1048576 ∧ siz r.2.2 ≤ 1048576 ∧ ∀ w', Below w.heap.size w w' →
        w'.cell? ⟨g, k * 9, none⟩ = some (.int .i64 r.1) ∧ w'.cell? ⟨g, k * 9 + 1, none⟩ = some p0 ∧ w'.cell? ⟨g, k * 9 + 1 + 1, none⟩ = some p1 ∧ w'.cell? ⟨g, k * 9 + 1 + 2, none⟩ = some p2 ∧ w'.cell? ⟨g, k * 9 + 1 + 3, none⟩ = some p3 ∧ w'.cell? ⟨g, k * 9 + 5, none⟩ = some b0 ∧ w'.cell? ⟨g, k * 9 + 5 + 1, none⟩ = some b1 ∧ w'.cell? ⟨g, k * 9 + 5 + 2, none⟩ = some b2 ∧ w'.cell? ⟨g, k * 9 + 5 + 3, none⟩ = some b3 := by
      intro k r hki
      have hkl : k < rs.length := (List.getElem?_eq_some_iff.1 hki).1
      obtain ⟨p0, p1, p2, p3, b0, b1, b2, b3, e0, e1, e2, e3, e4, e5, e6, e7, e8, hp, hbd⟩ := rules_at hR hki
      obtain ⟨g, hao, hg, hc⟩ := row_cells ho hkl
      have hszr := sizR_mem (List.mem_of_getElem? hki)
      have cc : ∀ w', Below w.heap.size w w' → ∀ j x, xs[j]? = some x → w'.cell? ⟨g, j, none⟩ = some x := fun w' h j x hx => (h.cell (p := ⟨g, j, none⟩) hg).trans (hc j x hx)
      exact ⟨g, p0, p1, p2, p3, b0, b1, b2, b3, hao, arg_of_node _ (by omega) _ _ hp, arg_of_node _ (by omega) _ _ hbd, by omega, by omega, fun w' h => ⟨cc w' h _ _ e0, cc w' h _ _ e1, cc w' h _ _ e2, cc w' h _ _ e3, cc w' h _ _ e4, cc w' h _ _ e5, cc w' h _ _ e6, cc w' h _ _ e7, cc w' h _ _ e8⟩⟩
    have HL : Hid (∀ k, ((rulesT (rs.take k)).length : Int) ≤ 300000000) := fun k => by have h1 := rulesT_len (rs.take k); have h2 := sizR_le rs k; omega
    clear hR ho hlt hS hT hn hsz
    generalize writeT rs = T at *
    go_enter Tryz.func6, Tryz.ntmps6
    go_wp2_with fail
    go_loopw [3, 4] (fun v i wr => ∃ k : Nat, k ≤ rs.length ∧ i = .int .i64 k ∧ v = .string ⟨(rulesT (rs.take k)).toArray⟩ ∧ Below w.heap.size w wr) (fun _ i _ => rs.length - (intOf i).toNat)
    case atStart => exact ⟨0, Nat.zero_le _, rfl, by simp [rulesT], Below.refl _ _⟩
    case round =>
      obtain ⟨k, hkn, rfl, rfl, hb⟩ := hrel
      by_cases hkl : k < rs.length
      · obtain ⟨r, hki⟩ : ∃ r, rs[k]? = some r := ⟨rs[k], List.getElem?_eq_getElem hkl⟩
        obtain ⟨g, p0, p1, p2, p3, b0, b1, b2, b3, rfl, hap, hab, hsp, hsb, hcl⟩ := hRk k r hki
        obtain ⟨h29, hallb, hway⟩ := rule_parts (hrs r (List.mem_of_getElem? hki))
        have cB := fun w' (h : Below w.heap.size w w') => ((sStatement r.2.2 hallb (by rw [h29]; rfl) hsb).2 h29) w' _ _ _ _ (arg_frame h _ _ hab)
        have cP := fun (he : eB (opOf r.2.1) = true) (ha : allB r.2.1 = true) w' (h : Below w.heap.size w w') => (sE r.2.1 ha he hsp) w' _ _ _ _ (arg_frame h _ _ hap)
        have hht := rulesT_take rs k r hki
        have hl0 := HL.out k
        have hXl : ((eT r.2.1).length : Int) ≤ 100000000 := by have := eT_len r.2.1; omega
        have hYl : ((stT r.2.2).length : Int) ≤ 100000000 := by have := stT_len r.2.2; omega
        have HT : Hid (rulesT (rs.take (k + 1)) = rulesT (rs.take k) ++ ((if r.1 = 1 then [66, 69, 71, 73, 78, 32] else if r.1 = 3 then eT r.2.1 ++ [32] else []) ++ stT r.2.2 ++ [10])) := hht
        have bk : (k : Int) < rs.length := by omega
        have ct := cT wr hb
        obtain ⟨pao, pcap, rfl, rfl, rfl, rfl, -, -⟩ := arg_open hap
        obtain ⟨bao, bcap, rfl, rfl, rfl, rfl, -, -⟩ := arg_open hab
        clear hki hap hab hsp hsb hht hRk hrs HL cT hallb h29
        generalize eT r.2.1 = X at *
        generalize stT r.2.2 = Y at *
        generalize hpE : eB (opOf r.2.1) = PE at *
        generalize opOf r.2.1 = q1 at *
        generalize numOf r.2.1 = q2 at *
        generalize txtOf r.2.1 = q3 at *
        generalize (kidsOf r.2.1).length = q4 at *
        generalize opOf r.2.2 = q5 at *
        generalize numOf r.2.2 = q6 at *
        generalize txtOf r.2.2 = q7 at *
        generalize (kidsOf r.2.2).length = q8 at *
        generalize hkd : r.1 = kd at *
        have HK : Hid (r.1 = kd) := hkd
        clear hkd
        generalize rulesT (rs.take k) = R0 at *
        have hbox : ∀ (o : Obj) (w1 w' : World), o = Obj.cells #[.int .i64 kd, .int .i64 q1, .int .i64 q2, .string ⟨q3.toArray⟩, .slice pao q4 pcap, .int .i64 q5, .int .i64 q6, .string ⟨q7.toArray⟩, .slice bao q8 bcap] 41 → Below (w1.alloc o).heap.size (w1.alloc o) w' → w'.cell? ⟨w1.heap.size, 0, none⟩ = some (.int .i64 kd) ∧ w'.cell? ⟨w1.heap.size, 1, none⟩ = some (.int .i64 q1) ∧ w'.cell? ⟨w1.heap.size, 2, none⟩ = some (.int .i64 q2) ∧ w'.cell? ⟨w1.heap.size, 3, none⟩ = some (.string ⟨q3.toArray⟩) ∧ w'.cell? ⟨w1.heap.size, 4, none⟩ = some (.slice pao q4 pcap) ∧ w'.cell? ⟨w1.heap.size, 5, none⟩ = some (.int .i64 q5) ∧ w'.cell? ⟨w1.heap.size, 6, none⟩ = some (.int .i64 q6) ∧ w'.cell? ⟨w1.heap.size, 7, none⟩ = some (.string ⟨q7.toArray⟩) ∧ w'.cell? ⟨w1.heap.size, 8, none⟩ = some (.slice bao q8 bcap) := fun o w1 w' ho h => ((show Box9 (w1.alloc o) w1.heap.size (.int .i64 kd) (.int .i64 q1) (.int .i64 q2) (.string ⟨q3.toArray⟩) (.slice pao q4 pcap) (.int .i64 q5) (.int .i64 q6) (.string ⟨q7.toArray⟩) (.slice bao q8 bcap) by rw [ho]; exact heap_new _ _).kept (h.block _ (by simp))).cell
        have hgr : ∀ w1 o, Below wr.heap.size wr w1 → Below w.heap.size w (w1.alloc o) := fun w1 o h => (hb.trans (h.mono hb.size)).alloc (Nat.le_trans hb.size h.size) _
        rcases hway with rfl | rfl | ⟨rfl, he, ha⟩
        · have m1 : ¬ 9223372036854775807 < R0.length + 6 := by omega
          have m2 : ¬ 9223372036854775807 < R0.length + 6 + Y.length := by omega
          have m3 : ¬ 9223372036854775807 < R0.length + 6 + Y.length + 1 := by omega
          go_wp2_with (first
            | (go_at_call 13; refine ct.mono ?_; rintro e w1 ⟨rfl, hb1⟩; obtain ⟨c0, c1, c2, c3, c4, c5, c6, c7, c8⟩ := hcl _ (hb.trans (hb1.mono hb.size)))
            | (go_at_call 15; refine (cB _ (hgr _ _ hb1)).mono ?_; rintro e w3 ⟨rfl, hb3⟩))
          go_roundw
          case rel => exact ⟨k + 1, hkl, by go_num, by rw [HT.out]; simp [ba_pre, ba_append, ba_one], (hgr _ _ hb1).trans (hb3.mono (hgr _ _ hb1).size)⟩
          case measure => simp [intOf]; omega
        · have m2 : ¬ 9223372036854775807 < R0.length + Y.length := by omega
          have m3 : ¬ 9223372036854775807 < R0.length + Y.length + 1 := by omega
          go_wp2_with (first
            | (go_at_call 13; refine ct.mono ?_; rintro e w1 ⟨rfl, hb1⟩; obtain ⟨c0, c1, c2, c3, c4, c5, c6, c7, c8⟩ := hcl _ (hb.trans (hb1.mono hb.size)))
            | (go_at_call 15; refine (cB _ (hgr _ _ hb1)).mono ?_; rintro e w3 ⟨rfl, hb3⟩))
          go_roundw
          case rel => exact ⟨k + 1, hkl, by go_num, by rw [HT.out]; simp [ba_pre, ba_append, ba_one], (hgr _ _ hb1).trans (hb3.mono (hgr _ _ hb1).size)⟩
          case measure => simp [intOf]; omega
        · have cP := cP he ha
          have m1 : ¬ 9223372036854775807 < R0.length + X.length := by omega
          have m2 : ¬ 9223372036854775807 < R0.length + X.length + 1 := by omega
          have m3 : ¬ 9223372036854775807 < R0.length + X.length + 1 + Y.length := by omega
          have m4 : ¬ 9223372036854775807 < R0.length + X.length + 1 + Y.length + 1 := by omega
          go_wp2_with (first
            | (go_at_call 13; refine ct.mono ?_; rintro e w1 ⟨rfl, hb1⟩; obtain ⟨c0, c1, c2, c3, c4, c5, c6, c7, c8⟩ := hcl _ (hb.trans (hb1.mono hb.size)))
            | (go_at_call 14; refine (cP _ (hgr _ _ hb1)).mono ?_; rintro e w2 ⟨rfl, hb2⟩; obtain ⟨y0, y1, y2, y3, y4, y5, y6, y7, y8⟩ := hbox _ _ _ rfl hb2; have hbw2 := (hgr _ _ hb1).trans (hb2.mono (hgr _ _ hb1).size))
            | (go_at_call 15; refine (cB _ hbw2).mono ?_; rintro e w3 ⟨rfl, hb3⟩))
          go_roundw
          case rel => exact ⟨k + 1, hkl, by go_num, by rw [HT.out]; simp [ba_pre, ba_append, ba_one], hbw2.trans (hb3.mono hbw2.size)⟩
          case measure => simp [intOf]; omega
      · obtain rfl : k = rs.length := by omega
        rw [HE.out]
        clear HL hRk hrs
        generalize hRT : rulesT rs = R at *
        go_wp2_with fail
        go_ret
        exact ⟨by rw [HW.out]; rfl, hb⟩

set_option maxRecDepth 100000 in
theorem lawWrite {w : World} {rs : List Ru} {ao : Option Addr} {cap : Nat} (hG : Gl w) (hn : rs.length ≤ maxLen) (hA : RArgs w rs ao 0) :
    Calls Tryz.prog 3 #[.slice ao rs.length cap] w fun e w' => e = .returned (.bool true) ∧ Below w.heap.size w w' := by
  have csz := lSzRuleS hn w ao cap 1048576 hA (by omega) (by omega)
  have ct := fun w' (h : Below w.heap.size w w') (hz : sizR rs ≤ 1048576) => lToRuleS hz w' ao cap (rargs_frame h hA)
  clear hn
  go_enter Tryz.func3, Tryz.ntmps3
  go_wp2_with (first
    | (go_at_call 5; refine csz.mono ?_; rintro e w1 ⟨z, rfl, z0, z1, z2, hb1⟩)
    | (go_at_call 7; refine hold ?_))
  · go_ret
    exact ⟨rfl, hb1⟩
  have hz : sizR rs ≤ 1048576 := by omega
  refine (ct w1 hb1 hz).mono ?_
  rintro e w2 ⟨v2, xs2, rfl, o2, R2, hb2⟩
  have B2 := hb1.trans (hb2.mono hb1.size)
  obtain ⟨ao2, cap2, rfl⟩ := owns_slice o2
  go_wp2_with (go_at_call 6; refine hold ?_)
  refine (sWrite (hG.sen.later B2) hz (fun k hk => hk.2) o2 R2).mono ?_
  rintro e w3 ⟨rfl, hb3⟩
  have B3 := B2.trans (hb3.mono B2.size)
  go_wp2_with (go_at_call 7; refine hold ?_)
  refine (ct w3 B3 hz).mono ?_
  rintro e w4 ⟨v4, xs4, rfl, o4, R4, hb4⟩
  have B4 := B3.trans (hb4.mono B3.size)
  obtain ⟨ao4, cap4, rfl⟩ := owns_slice o4
  go_wp2_with (go_at_call 8; refine hold ?_)
  refine (iWrite (hG.later B4) hz (fun k hk => hk.2) o4 R4).mono ?_
  rintro e w5 ⟨rfl, hb5⟩
  have B5 := B4.trans (hb5.mono B4.size)
  generalize writeT rs = T at *
  go_wp2_with (go_at_call 7; refine hold ?_)
  refine (ct w5 B5 hz).mono ?_
  rintro e w6 ⟨v6, xs6, rfl, o6, R6, hb6⟩
  have B6 := B5.trans (hb6.mono B5.size)
  obtain ⟨ao6, cap6, rfl⟩ := owns_slice o6
  go_wp2_with (go_at_call 9; refine hold ?_)
  have h46 : Below w4.heap.size w4 w6 := hb5.trans (hb6.mono hb5.size)
  refine (lEqRuleS hz (owns_same o4 fun g hg => h46.block g (o4.lt g hg).2) o6 (rules_frame (fun k hk => h46.block k hk.2) R4) R6 (fun k hk => Nat.lt_of_lt_of_le hk.2 h46.size) (fun k hk => hk.2)).mono ?_
  rintro e w7 ⟨rfl, hb7⟩
  have B7 := B6.trans (hb7.mono B6.size)
  clear ct csz o2 R2 o4 R4 o6 R6
  go_wp2_with fail
  go_ret
  exact ⟨rfl, B7⟩

end Ty
end Go.Proofs.YtjdohfdkkppnpaaGreatDoor

