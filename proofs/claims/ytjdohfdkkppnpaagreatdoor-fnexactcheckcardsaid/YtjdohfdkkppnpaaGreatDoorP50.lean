/-
  The specification's Check.
-/
import Derived.Test.YtjdohfdkkppnpaaGreatDoorP46
import Derived.Test.YtjdohfdkkppnpaaGreatDoorP49
namespace Go.Proofs.YtjdohfdkkppnpaaGreatDoor
open Go.RowKit
namespace Ck
open Nd Ty

theorem rule_read {rs : List Ru} {w : World} {S : Nat → Prop} {ao : Option Addr} {cap : Nat} {xs : List Value} {B : Nat} (ho : w.ownsRow B 41 9 (.slice ao rs.length cap) rs.length xs) (hR : RulesIs w S rs xs) (hlt : ∀ k, S k → k < w.heap.size) {w' : World} (hb : Below w.heap.size w w') {i : Nat} {r : Ru} (hi : rs[i]? = some r) :
    ∃ (g : Nat) (pao : Option Addr) (pcap : Nat) (bao : Option Addr) (bcap : Nat), ao = some ⟨g, 0, none⟩ ∧ w'.cell? ⟨g, i * 9, none⟩ = some (.int .i64 r.1) ∧
      w'.cell? ⟨g, i * 9 + 1, none⟩ = some (.int .i64 (opOf r.2.1)) ∧ w'.cell? ⟨g, i * 9 + 1 + 1, none⟩ = some (.int .i64 (numOf r.2.1)) ∧ w'.cell? ⟨g, i * 9 + 1 + 2, none⟩ = some (.string ⟨(txtOf r.2.1).toArray⟩) ∧ w'.cell? ⟨g, i * 9 + 1 + 3, none⟩ = some (.slice pao (kidsOf r.2.1).length pcap) ∧
      w'.cell? ⟨g, i * 9 + 5, none⟩ = some (.int .i64 (opOf r.2.2)) ∧ w'.cell? ⟨g, i * 9 + 5 + 1, none⟩ = some (.int .i64 (numOf r.2.2)) ∧ w'.cell? ⟨g, i * 9 + 5 + 2, none⟩ = some (.string ⟨(txtOf r.2.2).toArray⟩) ∧ w'.cell? ⟨g, i * 9 + 5 + 3, none⟩ = some (.slice bao (kidsOf r.2.2).length bcap) ∧
      NodeIs w' r.2.1 S [.int .i64 (opOf r.2.1), .int .i64 (numOf r.2.1), .string ⟨(txtOf r.2.1).toArray⟩, .slice pao (kidsOf r.2.1).length pcap] ∧ NodeIs w' r.2.2 S [.int .i64 (opOf r.2.2), .int .i64 (numOf r.2.2), .string ⟨(txtOf r.2.2).toArray⟩, .slice bao (kidsOf r.2.2).length bcap] ∧ ∀ k, S k → k < w'.heap.size := by
  obtain ⟨p0, p1, p2, p3, b0, b1, b2, b3, e0, e1, e2, e3, e4, e5, e6, e7, e8, hp, hbd⟩ := rules_at hR hi
  obtain ⟨g, rfl, hg, hc⟩ := row_cells ho ((List.getElem?_eq_some_iff.1 hi).1)
  have cc : ∀ j x, xs[j]? = some x → w'.cell? ⟨g, j, none⟩ = some x := fun j x hx => (hb.cell (p := ⟨g, j, none⟩) hg).trans (hc j x hx)
  obtain ⟨pao, pcap, pxs, rfl, rfl, rfl, rfl, -, -⟩ := op_form hp
  obtain ⟨bao, bcap, bxs, rfl, rfl, rfl, rfl, -, -⟩ := op_form hbd
  exact ⟨g, pao, pcap, bao, bcap, rfl, cc _ _ e0, cc _ _ e1, cc _ _ e2, cc _ _ e3, cc _ _ e4, cc _ _ e5, cc _ _ e6, cc _ _ e7, cc _ _ e8, node_frame _ _ _ (fun j hj => hb.block j (hlt j hj)) hp, node_frame _ _ _ (fun j hj => hb.block j (hlt j hj)) hbd, fun k hk => Nat.lt_of_lt_of_le (hlt k hk) hb.size⟩

set_option maxHeartbeats 4000000 in
set_option maxRecDepth 100000 in
theorem sCheck {rs : List Ru} {w : World} {S : Nat → Prop} {v : Value} {xs : List Value} {B : Nat} (hS : Sen w) (hsz : sizR rs ≤ 1048576) (hlt : ∀ k, S k → k < w.heap.size) (ho : w.ownsRow B 41 9 v rs.length xs) (hR : RulesIs w S rs xs) :
    Calls Tryz.prog 10 #[v] w fun e w' => ∃ c : Int, e = .returned (.int .i64 c) ∧ CheckIs rs c ∧ Below w.heap.size w w' := by
  have hN := rules_nodes hR
  have cT := sTidy hS hsz hlt ho hR
  have cN := fun (w' : World) (hb : Below w.heap.size w w') => sNames hsz (w := w') (S := S) (fun k hk => Nat.lt_of_lt_of_le (hlt k hk) hb.size) (owns_same ho fun g hg => hb.block g (ho.lt g hg).2) (rules_frame (fun k hk => hb.block k (hlt k hk)) hR)
  have bn : (rs.length : Int) ≤ 1048576 := by have := sizR_len rs; omega
  obtain ⟨ao, cap, rfl⟩ := owns_slice ho
  obtain ⟨C, hC⟩ : ∃ C, C = CheckIs rs := ⟨_, rfl⟩
  rw [← hC]
  cases ht : tidyB rs with
  | false =>
    have H : Hid (C 1) := by show C 1; rw [hC]; exact .inr ⟨0, rfl, ht, fun i hi => by omega⟩
    rw [ht] at cT
    clear hC ht cN
    go_enter Tryz.func10, Tryz.ntmps10
    go_wp2_with (go_at_call 13; refine cT.mono ?_; rintro e w2 ⟨rfl, hb2⟩)
    go_ret
    exact ⟨1, rfl, H.out, hb2⟩
  | true =>
    have n0 : ¬ Bad rs 0 := by show ¬ (tidyB rs = false); rw [ht]; simp
    have b1 := bad1_iff hN ht
    have b2 := bad2_iff (rs := rs)
    have b3 := bad3_iff (rs := rs)
    have b4 := bad4_iff hN
    have b5 := bad5_iff hN ht
    have one : ∀ j : Nat, Bad rs j → (∀ i, i < j → ¬ Bad rs i) → C ((j : Int) + 1) := fun j h1 h2 => by rw [hC]; exact .inr ⟨j, rfl, h1, h2⟩
    have zero : (∀ j, j < 6 → ¬ Bad rs j) → C 0 := fun h => by
      rw [hC]
      refine .inl ⟨rfl, fun j => ?_⟩
      by_cases hj : j < 6
      · exact h j hj
      · match j, hj with
        | j + 6, _ => exact id
    have hsub : ∀ r ∈ rs, (∀ x ∈ subs r.2.1, opOf x = 21 → 2 ≤ (kidsOf x).length) ∧ (∀ x ∈ subs r.2.2, opOf x = 21 → 2 ≤ (kidsOf x).length) ∧ siz r.2.1 ≤ 1048576 ∧ siz r.2.2 ≤ 1048576 := fun r hr => ⟨fun x hx h => tidy_two n0 x ⟨r, hr, .inl hx⟩ h, fun x hx h => tidy_two n0 x ⟨r, hr, .inr hx⟩ h, by have := sizR_mem hr; omega, by have := sizR_mem hr; omega⟩
    have hlV : (ascS (varsIn (dfs rs))).length ≤ 3000000 := by have := foldl_len (varsIn (dfs rs)) []; have := varsIn_len (dfs rs); have := dfs_len rs; unfold ascS; simp at *; omega
    have hlC : (ascS (cellsIn (dfs rs))).length ≤ 3000000 := by have := foldl_len (cellsIn (dfs rs)) []; have := cellsIn_len (dfs rs); have := dfs_len rs; unfold ascS; simp at *; omega
    rw [ht] at cT
    have lt1 : ∀ (Q : Nat → Prop) (n : Nat), (∀ i, i < n → Q i) → Q n → ∀ i, i < n + 1 → Q i := fun Q n h1 h2 i hi => by
      by_cases e : i = n
      · exact e ▸ h2
      · exact h1 i (by omega)
    generalize ascS (varsIn (dfs rs)) = V at *
    generalize ascS (cellsIn (dfs rs)) = D at *
    obtain ⟨Q, hQ⟩ : ∃ Q, Q = Bad rs := ⟨_, rfl⟩
    rw [← hQ] at n0 b1 b2 b3 b4 b5 one zero
    have F2 : (∃ (i : Nat) (r : Ru), rs[i]? = some r ∧ r.1 = 1 ∧ (0 < i ∨ lineT r.2.2 = true)) → C 2 := fun h => one 1 (b1.2 h) (lt1 (fun i => ¬ Q i) 0 (fun i hi => by omega) n0)
    have G1 : (¬ ∃ (i : Nat) (r : Ru), rs[i]? = some r ∧ r.1 = 1 ∧ (0 < i ∨ lineT r.2.2 = true)) → ∀ i, i < 2 → ¬ Q i := fun h => lt1 (fun i => ¬ Q i) 1 (lt1 (fun i => ¬ Q i) 0 (fun i hi => by omega) n0) fun q => h (b1.1 q)
    have F3 : (∀ i, i < 2 → ¬ Q i) → (8 < V.length ∨ 8 < D.length) → C 3 := fun h q => one 2 (b2.2 q) h
    have G2 : (∀ i, i < 2 → ¬ Q i) → ¬ (8 < V.length ∨ 8 < D.length) → ∀ i, i < 3 → ¬ Q i := fun h q => lt1 (fun i => ¬ Q i) 2 h fun x => q (b2.1 x)
    have F4 : (∀ i, i < 3 → ¬ Q i) → (∃ x ∈ V, x ∈ D) → C 4 := fun h q => one 3 (b3.2 q) h
    have G3 : (∀ i, i < 3 → ¬ Q i) → ¬ (∃ x ∈ V, x ∈ D) → ∀ i, i < 4 → ¬ Q i := fun h q => lt1 (fun i => ¬ Q i) 3 h fun x => q (b3.1 x)
    have F5 : (∀ i, i < 4 → ¬ Q i) → (∃ r ∈ rs, argsT r.2.1 = false ∨ argsT r.2.2 = false) → C 5 := fun h q => one 4 (b4.2 q) h
    have G4 : (∀ i, i < 4 → ¬ Q i) → ¬ (∃ r ∈ rs, argsT r.2.1 = false ∨ argsT r.2.2 = false) → ∀ i, i < 5 → ¬ Q i := fun h q => lt1 (fun i => ¬ Q i) 4 h fun x => q (b4.1 x)
    have F6 : (∀ i, i < 5 → ¬ Q i) → (∃ r ∈ rs, rexT r.2.1 = false ∨ rexT r.2.2 = false) → C 6 := fun h q => one 5 (b5.2 q) h
    have F0 : (∀ i, i < 5 → ¬ Q i) → ¬ (∃ r ∈ rs, rexT r.2.1 = false ∨ rexT r.2.2 = false) → C 0 := fun h q => zero (lt1 (fun i => ¬ Q i) 5 h fun x => q (b5.1 x))
    clear hC n0 b1 b2 b3 b4 b5 one zero hQ lt1 hN ht hS hsz
    go_enter Tryz.func10, Tryz.ntmps10
    go_wp2_with (go_at_call 13; refine cT.mono ?_; rintro e w2 ⟨rfl, hb2⟩)
    clear cT
    go_loopw [3] (fun i wr => ∃ k : Nat, k ≤ rs.length ∧ i = .int .i64 k ∧ (∀ (i : Nat) (r : Ru), i < k → rs[i]? = some r → ¬ (r.1 = 1 ∧ (0 < i ∨ lineT r.2.2 = true))) ∧ Below w.heap.size w wr) (fun i _ => rs.length - (intOf i).toNat)
    case atStart => exact ⟨0, Nat.zero_le _, rfl, fun i r h => by omega, hb2⟩
    case round =>
      clear hb2
      obtain ⟨k, hk, rfl, hall, hb⟩ := hrel
      by_cases hkl : k < rs.length
      · have hki : rs[k]? = some rs[k] := List.getElem?_eq_getElem hkl
        obtain ⟨g, pao, pcap, bao, bcap, rfl, c0, -, -, -, -, c5, c6, c7, c8, -, hbd, hlw⟩ := rule_read ho hR hlt hb hki
        obtain ⟨-, qb, -, zb⟩ := hsub _ (List.getElem_mem hkl)
        have call := sLine rs[k].2.2 wr S _ _ _ _ hbd hlw zb qb
        have hbad : rs[k].1 = 1 → (0 < k ∨ lineT rs[k].2.2 = true) → C 2 := fun h1 h2 => F2 ⟨k, _, hki, h1, h2⟩
        have hnext : ¬ (rs[k].1 = 1 ∧ (0 < k ∨ lineT rs[k].2.2 = true)) → ∀ (i : Nat) (r : Ru), i < k + 1 → rs[i]? = some r → ¬ (r.1 = 1 ∧ (0 < i ∨ lineT r.2.2 = true)) := fun h i r hi hr => by
          by_cases e : i = k
          · subst e; rw [hki] at hr; cases hr; exact h
          · exact hall i r (by omega) hr
        have bk : (k : Int) < rs.length := by omega
        have HX : Hid (¬ (rs[k].1 = 1 ∧ (0 < k ∨ lineT rs[k].2.2 = true)) → ∀ (i : Nat) (r : Ru), i < k + 1 → rs[i]? = some r → ¬ (r.1 = 1 ∧ (0 < i ∨ lineT r.2.2 = true))) := hnext
        have HY : Hid (rs[k].1 = 1 → (0 < k ∨ lineT rs[k].2.2 = true) → C 2) := hbad
        clear hki hbd hlw qb zb hnext hbad hall cN
        generalize lineT rs[k].2.2 = A at *
        generalize rs[k].1 = kd at *
        generalize opOf rs[k].2.2 = bo at *
        generalize numOf rs[k].2.2 = bnn at *
        generalize txtOf rs[k].2.2 = bt at *
        generalize (kidsOf rs[k].2.2).length = bL at *
        by_cases h1 : kd = 1
        · subst h1
          by_cases hk0 : k = 0
          · subst hk0
            cases A
            · have H : Hid (∀ (i : Nat) (r : Ru), i < 0 + 1 → rs[i]? = some r → ¬ (r.1 = 1 ∧ (0 < i ∨ lineT r.2.2 = true))) := HX.out (by simp)
              clear HX HY
              go_wp2_with (go_at_call 21; refine call.mono ?_; rintro e w3 ⟨rfl, hw3⟩)
              go_roundw
              case rel => exact ⟨0 + 1, hkl, by go_num, H.out, hb.trans (hw3.mono hb.size)⟩
              case measure => simp [intOf]; omega
            · have H : Hid (C 2) := HY.out rfl (.inr rfl)
              clear HX HY
              go_wp2_with (go_at_call 21; refine call.mono ?_; rintro e w3 ⟨rfl, hw3⟩)
              go_ret
              exact ⟨2, rfl, H.out, hb.trans (hw3.mono hb.size)⟩
          · have H : Hid (C 2) := HY.out rfl (.inl (by omega))
            have hkp : (0 : Int) < k := by omega
            clear HX HY hk0 call
            go_wp2_with fail
            go_ret
            exact ⟨2, rfl, H.out, hb⟩
        · have H : Hid (∀ (i : Nat) (r : Ru), i < k + 1 → rs[i]? = some r → ¬ (r.1 = 1 ∧ (0 < i ∨ lineT r.2.2 = true))) := HX.out fun h => h1 h.1
          have e1 : (kd == 1) = false := by simpa using h1
          clear HX HY h1 call
          go_wp2_with fail
          go_roundw
          case rel => exact ⟨k + 1, hkl, by go_num, H.out, hb⟩
          case measure => simp [intOf]; omega
      · obtain rfl : k = rs.length := by omega
        have G2' := G1 (by
          rintro ⟨i, r, h1, h2⟩
          exact hall i r ((List.getElem?_eq_some_iff.1 h1).1) h1 h2)
        clear hall F2 G1
        go_wp2_with (go_at_call 22; refine hold ?_)
        refine (cN wr hb).mono ?_
        clear cN
        rintro e w3 ⟨gv, kv, gc, kc, rfl, tv, tc, hb3⟩
        replace hb := hb.trans (hb3.mono hb.size)
        clear hb3
        have lV : (V.length : Int) ≤ 3000000 := by omega
        have lD : (D.length : Int) ≤ 3000000 := by omega
        by_cases h8 : 8 < V.length
        · have H : Hid (C 3) := F3 G2' (.inl h8)
          have h8' : (8 : Int) < V.length := by omega
          clear h8 F3 G2
          go_wp2_with fail
          go_ret
          exact ⟨3, rfl, H.out, hb⟩
        · by_cases h9 : 8 < D.length
          · have H : Hid (C 3) := F3 G2' (.inr h9)
            have h8' : ¬ (8 : Int) < V.length := by omega
            have h9' : (8 : Int) < D.length := by omega
            clear h8 h9 F3 G2
            go_wp2_with fail
            go_ret
            exact ⟨3, rfl, H.out, hb⟩
          · have G3' := G2 G2' (by omega)
            have h8' : ¬ (8 : Int) < V.length := by omega
            have h9' : ¬ (8 : Int) < D.length := by omega
            clear h8 h9 F3 G2
            go_wp2_with fail
            go_loopw [6] (fun i wr => ∃ k : Nat, k ≤ V.length ∧ i = .int .i64 k ∧ (∀ (i : Nat) (x : List UInt8), i < k → V[i]? = some x → ¬ x ∈ D) ∧ Below w.heap.size w wr ∧ TxtRow wr gv kv V ∧ TxtRow wr gc kc D) (fun i _ => V.length - (intOf i).toNat)
            case atStart => exact ⟨0, Nat.zero_le _, rfl, fun i x h => by omega, hb, tv, tc⟩
            case round =>
              clear tv tc hb
              obtain ⟨k, hk, rfl, hall, hb, tv, tc⟩ := hrel
              by_cases hkl : k < V.length
              · have hki : V[k]? = some V[k] := List.getElem?_eq_getElem hkl
                have c0 := tv.cell hki
                have call := sWithinT hlC V[k] gc kc wr tc
                have hbad : V[k] ∈ D → C 4 := fun h => F4 G3' ⟨V[k], List.getElem_mem hkl, h⟩
                have hnext : ¬ V[k] ∈ D → ∀ (i : Nat) (x : List UInt8), i < k + 1 → V[i]? = some x → ¬ x ∈ D := fun h i x hi hx => by
                  by_cases e : i = k
                  · subst e; rw [hki] at hx; cases hx; exact h
                  · exact hall i x (by omega) hx
                have bk : (k : Int) < V.length := by omega
                by_cases hin : V[k] ∈ D
                · have H : Hid (C 4) := hbad hin
                  rw [decide_eq_true hin] at call
                  clear hbad hnext hall hki hin
                  generalize V[k] = x0 at *
                  go_wp2_with (go_at_call 23; refine call.mono ?_; rintro e w3 ⟨rfl, rfl⟩)
                  go_ret
                  exact ⟨4, rfl, H.out, hb⟩
                · have H : Hid (∀ (i : Nat) (x : List UInt8), i < k + 1 → V[i]? = some x → ¬ x ∈ D) := hnext hin
                  rw [decide_eq_false hin] at call
                  clear hbad hnext hall hki hin
                  generalize V[k] = x0 at *
                  go_wp2_with (go_at_call 23; refine call.mono ?_; rintro e w3 ⟨rfl, rfl⟩)
                  go_roundw
                  case rel => exact ⟨k + 1, hkl, by go_num, H.out, hb, tv, tc⟩
                  case measure => simp [intOf]; omega
              · obtain rfl : k = V.length := by omega
                have G4' := G3 G3' (by
                  rintro ⟨x, h1, h2⟩
                  obtain ⟨i, hi⟩ := List.getElem?_of_mem h1
                  exact hall i x ((List.getElem?_eq_some_iff.1 hi).1) hi h2)
                clear hall F4 G3 tv tc
                go_wp2_with fail
                go_loopw [7] (fun i wr => ∃ k : Nat, k ≤ rs.length ∧ i = .int .i64 k ∧ (∀ (i : Nat) (r : Ru), i < k → rs[i]? = some r → argsT r.2.1 = true ∧ argsT r.2.2 = true) ∧ Below w.heap.size w wr) (fun i _ => rs.length - (intOf i).toNat)
                case atStart => exact ⟨0, Nat.zero_le _, rfl, fun i r h => by omega, hb⟩
                case round =>
                  obtain ⟨k, hk, rfl, hall, hb⟩ := hrel
                  by_cases hkl : k < rs.length
                  · have hki : rs[k]? = some rs[k] := List.getElem?_eq_getElem hkl
                    obtain ⟨g, pao, pcap, bao, bcap, rfl, c0, c1, c2, c3, c4, -, -, -, -, hp, -, hlw⟩ := rule_read ho hR hlt hb hki
                    have hbd := fun w' (h : Below w.heap.size w w') => rule_read ho hR hlt h hki
                    obtain ⟨qp, qb, zp, zb⟩ := hsub _ (List.getElem_mem hkl)
                    have call1 := sArgs rs[k].2.1 wr S _ _ _ _ hp hlw zp qp
                    have hnext : argsT rs[k].2.1 = true → argsT rs[k].2.2 = true → ∀ (i : Nat) (r : Ru), i < k + 1 → rs[i]? = some r → argsT r.2.1 = true ∧ argsT r.2.2 = true := fun h1 h2 i r hi hr => by
                      by_cases e : i = k
                      · subst e; rw [hki] at hr; cases hr; exact ⟨h1, h2⟩
                      · exact hall i r (by omega) hr
                    have hbad : argsT rs[k].2.1 = false ∨ argsT rs[k].2.2 = false → C 5 := fun h => F5 G4' ⟨_, List.getElem_mem hkl, h⟩
                    have call2 : ∀ w', Below w.heap.size w w' → ∃ (d0 d1 d2 : Value), True := fun _ _ => ⟨undef, undef, undef, trivial⟩
                    clear call2
                    have hb2 : ∀ w', Below wr.heap.size wr w' → ∃ (g' : Nat) (bao' : Option Addr) (bcap' : Nat), g' = g ∧ w'.cell? ⟨g, k * 9 + 5, none⟩ = some (.int .i64 (opOf rs[k].2.2)) ∧ w'.cell? ⟨g, k * 9 + 5 + 1, none⟩ = some (.int .i64 (numOf rs[k].2.2)) ∧ w'.cell? ⟨g, k * 9 + 5 + 2, none⟩ = some (.string ⟨(txtOf rs[k].2.2).toArray⟩) ∧ w'.cell? ⟨g, k * 9 + 5 + 3, none⟩ = some (.slice bao' (kidsOf rs[k].2.2).length bcap') ∧ Calls Tryz.prog 24 #[.agg #[.int .i64 (opOf rs[k].2.2), .int .i64 (numOf rs[k].2.2), .string ⟨(txtOf rs[k].2.2).toArray⟩, .slice bao' (kidsOf rs[k].2.2).length bcap']] w' fun e w'' => e = .returned (.bool (argsT rs[k].2.2)) ∧ Below w'.heap.size w' w'' := fun w' h => by
                      obtain ⟨g', pao', pcap', bao', bcap', e, -, -, -, -, -, d0, d1, d2, d3, -, hbn, hlw'⟩ := hbd w' (hb.trans (h.mono hb.size))
                      have : g = g' := by simpa using e
                      subst this
                      exact ⟨g, bao', bcap', rfl, d0, d1, d2, d3, sArgs rs[k].2.2 w' S _ _ _ _ hbn hlw' zb qb⟩
                    have bk : (k : Int) < rs.length := by omega
                    have HX : Hid (argsT rs[k].2.1 = true → argsT rs[k].2.2 = true → ∀ (i : Nat) (r : Ru), i < k + 1 → rs[i]? = some r → argsT r.2.1 = true ∧ argsT r.2.2 = true) := hnext
                    have HY : Hid (argsT rs[k].2.1 = false ∨ argsT rs[k].2.2 = false → C 5) := hbad
                    clear hki hp hlw hbd qp qb zp zb hnext hbad hall
                    generalize argsT rs[k].2.1 = P1 at *
                    generalize argsT rs[k].2.2 = P2 at *
                    generalize opOf rs[k].2.1 = po at *
                    generalize numOf rs[k].2.1 = pn at *
                    generalize txtOf rs[k].2.1 = pt at *
                    generalize (kidsOf rs[k].2.1).length = pL at *
                    generalize opOf rs[k].2.2 = bo at *
                    generalize numOf rs[k].2.2 = bnn at *
                    generalize txtOf rs[k].2.2 = bt at *
                    generalize (kidsOf rs[k].2.2).length = bL at *
                    cases P1
                    · have H : Hid (C 5) := HY.out (.inl rfl)
                      clear HX HY
                      go_wp2_with (go_at_call 24; refine call1.mono ?_; rintro e w2 ⟨rfl, hw2⟩)
                      go_ret
                      exact ⟨5, rfl, H.out, hb.trans (hw2.mono hb.size)⟩
                    · cases P2
                      · have H : Hid (C 5) := HY.out (.inr rfl)
                        clear HX HY
                        go_wp2_with (first
                          | (go_at_call 24; with_reducible refine call1.mono ?_; rintro e w2 ⟨rfl, hw2⟩; obtain ⟨g', bao', bcap', -, d0, d1, d2, d3, call2⟩ := hb2 w2 hw2; clear call1)
                          | (go_at_call 24; refine call2.mono ?_; rintro e w3 ⟨rfl, hw3⟩))
                        go_ret
                        exact ⟨5, rfl, H.out, (hb.trans (hw2.mono hb.size)).trans (hw3.mono (Nat.le_trans hb.size hw2.size))⟩
                      · have H : Hid (∀ (i : Nat) (r : Ru), i < k + 1 → rs[i]? = some r → argsT r.2.1 = true ∧ argsT r.2.2 = true) := HX.out rfl rfl
                        clear HX HY
                        go_wp2_with (first
                          | (go_at_call 24; with_reducible refine call1.mono ?_; rintro e w2 ⟨rfl, hw2⟩; obtain ⟨g', bao', bcap', -, d0, d1, d2, d3, call2⟩ := hb2 w2 hw2; clear call1)
                          | (go_at_call 24; refine call2.mono ?_; rintro e w3 ⟨rfl, hw3⟩))
                        go_roundw
                        case rel => exact ⟨k + 1, hkl, by go_num, H.out, (hb.trans (hw2.mono hb.size)).trans (hw3.mono (Nat.le_trans hb.size hw2.size))⟩
                        case measure => simp [intOf]; omega
                  · obtain rfl : k = rs.length := by omega
                    have hno : ¬ ∃ r ∈ rs, argsT r.2.1 = false ∨ argsT r.2.2 = false := by
                      rintro ⟨r, hr, h⟩
                      obtain ⟨i, hi⟩ := List.getElem?_of_mem hr
                      have := hall i r ((List.getElem?_eq_some_iff.1 hi).1) hi
                      rcases h with h | h
                      · rw [this.1] at h; cases h
                      · rw [this.2] at h; cases h
                    clear hall

                    have G5 := G4 G4' hno
                    clear hno F5 G4
                    go_wp2_with fail
                    go_loopw [8] (fun i wr => ∃ k : Nat, k ≤ rs.length ∧ i = .int .i64 k ∧ (∀ (i : Nat) (r : Ru), i < k → rs[i]? = some r → rexT r.2.1 = true ∧ rexT r.2.2 = true) ∧ Below w.heap.size w wr) (fun i _ => rs.length - (intOf i).toNat)
                    case atStart => exact ⟨0, Nat.zero_le _, rfl, fun i r h => by omega, hb⟩
                    case round =>
                      obtain ⟨k, hk, rfl, hall, hb⟩ := hrel
                      by_cases hkl : k < rs.length
                      · have hki : rs[k]? = some rs[k] := List.getElem?_eq_getElem hkl
                        obtain ⟨g, pao, pcap, bao, bcap, rfl, c0, c1, c2, c3, c4, -, -, -, -, hp, -, hlw⟩ := rule_read ho hR hlt hb hki
                        have hbd := fun w' (h : Below w.heap.size w w') => rule_read ho hR hlt h hki
                        obtain ⟨qp, qb, zp, zb⟩ := hsub _ (List.getElem_mem hkl)
                        have call1 := sRexes rs[k].2.1 wr S _ _ _ _ hp hlw zp qp
                        have hnext : rexT rs[k].2.1 = true → rexT rs[k].2.2 = true → ∀ (i : Nat) (r : Ru), i < k + 1 → rs[i]? = some r → rexT r.2.1 = true ∧ rexT r.2.2 = true := fun h1 h2 i r hi hr => by
                          by_cases e : i = k
                          · subst e; rw [hki] at hr; cases hr; exact ⟨h1, h2⟩
                          · exact hall i r (by omega) hr
                        have hbad : rexT rs[k].2.1 = false ∨ rexT rs[k].2.2 = false → C 6 := fun h => F6 G5 ⟨_, List.getElem_mem hkl, h⟩
                        have call2 : ∀ w', Below w.heap.size w w' → ∃ (d0 d1 d2 : Value), True := fun _ _ => ⟨undef, undef, undef, trivial⟩
                        clear call2
                        have hb2 : ∀ w', Below wr.heap.size wr w' → ∃ (g' : Nat) (bao' : Option Addr) (bcap' : Nat), g' = g ∧ w'.cell? ⟨g, k * 9 + 5, none⟩ = some (.int .i64 (opOf rs[k].2.2)) ∧ w'.cell? ⟨g, k * 9 + 5 + 1, none⟩ = some (.int .i64 (numOf rs[k].2.2)) ∧ w'.cell? ⟨g, k * 9 + 5 + 2, none⟩ = some (.string ⟨(txtOf rs[k].2.2).toArray⟩) ∧ w'.cell? ⟨g, k * 9 + 5 + 3, none⟩ = some (.slice bao' (kidsOf rs[k].2.2).length bcap') ∧ Calls Tryz.prog 25 #[.agg #[.int .i64 (opOf rs[k].2.2), .int .i64 (numOf rs[k].2.2), .string ⟨(txtOf rs[k].2.2).toArray⟩, .slice bao' (kidsOf rs[k].2.2).length bcap']] w' fun e w'' => e = .returned (.bool (rexT rs[k].2.2)) ∧ Below w'.heap.size w' w'' := fun w' h => by
                          obtain ⟨g', pao', pcap', bao', bcap', e, -, -, -, -, -, d0, d1, d2, d3, -, hbn, hlw'⟩ := hbd w' (hb.trans (h.mono hb.size))
                          have : g = g' := by simpa using e
                          subst this
                          exact ⟨g, bao', bcap', rfl, d0, d1, d2, d3, sRexes rs[k].2.2 w' S _ _ _ _ hbn hlw' zb qb⟩
                        have bk : (k : Int) < rs.length := by omega
                        have HX : Hid (rexT rs[k].2.1 = true → rexT rs[k].2.2 = true → ∀ (i : Nat) (r : Ru), i < k + 1 → rs[i]? = some r → rexT r.2.1 = true ∧ rexT r.2.2 = true) := hnext
                        have HY : Hid (rexT rs[k].2.1 = false ∨ rexT rs[k].2.2 = false → C 6) := hbad
                        clear hki hp hlw hbd qp qb zp zb hnext hbad hall
                        generalize rexT rs[k].2.1 = P1 at *
                        generalize rexT rs[k].2.2 = P2 at *
                        generalize opOf rs[k].2.1 = po at *
                        generalize numOf rs[k].2.1 = pn at *
                        generalize txtOf rs[k].2.1 = pt at *
                        generalize (kidsOf rs[k].2.1).length = pL at *
                        generalize opOf rs[k].2.2 = bo at *
                        generalize numOf rs[k].2.2 = bnn at *
                        generalize txtOf rs[k].2.2 = bt at *
                        generalize (kidsOf rs[k].2.2).length = bL at *
                        cases P1
                        · have H : Hid (C 6) := HY.out (.inl rfl)
                          clear HX HY
                          go_wp2_with (go_at_call 25; refine call1.mono ?_; rintro e w2 ⟨rfl, hw2⟩)
                          go_ret
                          exact ⟨6, rfl, H.out, hb.trans (hw2.mono hb.size)⟩
                        · cases P2
                          · have H : Hid (C 6) := HY.out (.inr rfl)
                            clear HX HY
                            go_wp2_with (first
                              | (go_at_call 25; with_reducible refine call1.mono ?_; rintro e w2 ⟨rfl, hw2⟩; obtain ⟨g', bao', bcap', -, d0, d1, d2, d3, call2⟩ := hb2 w2 hw2; clear call1)
                              | (go_at_call 25; refine call2.mono ?_; rintro e w3 ⟨rfl, hw3⟩))
                            go_ret
                            exact ⟨6, rfl, H.out, (hb.trans (hw2.mono hb.size)).trans (hw3.mono (Nat.le_trans hb.size hw2.size))⟩
                          · have H : Hid (∀ (i : Nat) (r : Ru), i < k + 1 → rs[i]? = some r → rexT r.2.1 = true ∧ rexT r.2.2 = true) := HX.out rfl rfl
                            clear HX HY
                            go_wp2_with (first
                              | (go_at_call 25; with_reducible refine call1.mono ?_; rintro e w2 ⟨rfl, hw2⟩; obtain ⟨g', bao', bcap', -, d0, d1, d2, d3, call2⟩ := hb2 w2 hw2; clear call1)
                              | (go_at_call 25; refine call2.mono ?_; rintro e w3 ⟨rfl, hw3⟩))
                            go_roundw
                            case rel => exact ⟨k + 1, hkl, by go_num, H.out, (hb.trans (hw2.mono hb.size)).trans (hw3.mono (Nat.le_trans hb.size hw2.size))⟩
                            case measure => simp [intOf]; omega
                      · obtain rfl : k = rs.length := by omega
                        have hno : ¬ ∃ r ∈ rs, rexT r.2.1 = false ∨ rexT r.2.2 = false := by
                          rintro ⟨r, hr, h⟩
                          obtain ⟨i, hi⟩ := List.getElem?_of_mem hr
                          have := hall i r ((List.getElem?_eq_some_iff.1 hi).1) hi
                          rcases h with h | h
                          · rw [this.1] at h; cases h
                          · rw [this.2] at h; cases h
                        clear hall

                        have H : Hid (C 0) := F0 G5 hno
                        clear hno F0 F6
                        go_wp2_with fail
                        go_ret
                        exact ⟨0, rfl, H.out, hb⟩


end Ck
end Go.Proofs.YtjdohfdkkppnpaaGreatDoor

