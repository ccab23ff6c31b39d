/-
  The specification's parser: the walk over a set.
-/
import Derived.Test.YtkhoccjfkkfipaaGreatDoorP37
namespace Go.Proofs.YtkhoccjfkkfipaaGreatDoor
open Go.RowKit
namespace Rx

theorem wrap64_byte (b : UInt8) : wrap64 (b.toNat : Int) = (b.toNat : Int) := by
  have := b.toNat_lt
  unfold wrap64; omega

set_option maxHeartbeats 4000000 in
set_option maxRecDepth 100000 in
theorem sSet {p : Nat} {s : ByteArray} {i : Nat} {w : World} (h : Cs p s i false w) (hi : i ≤ s.size) (hs : s.size ≤ 1000) :
    Calls Tryz.prog 180 #[.pointer (some ⟨p, 0, none⟩)] w fun e w' => Tells p s w (setAt (gOf s) s.size i) e w' := by
  obtain ⟨j0, hj0⟩ : ∃ j0, j0 = if gOf s i = 94 then i + 1 else i := ⟨_, rfl⟩
  obtain ⟨no, hno⟩ : ∃ no, no = decide (gOf s i = 94) := ⟨_, rfl⟩
  have hj0le : j0 ≤ s.size := by
    rw [hj0]
    split
    · have := in_of (s := s) (i := i) (by omega); omega
    · exact hi
  obtain ⟨RL, hRL⟩ : ∃ RL, setLoop (gOf s) (s.size + 1) j0 (fun _ => false) = RL := ⟨_, rfl⟩
  have HR : Hid (setAt (gOf s) s.size i = setEnd no RL) := by
    show setAt (gOf s) s.size i = setEnd no RL
    unfold setAt; rw [← hj0, ← hno, hRL]
  have HL : Hid (SetR (gOf s) s.size j0 0 (s.size + 1) false (fun _ => false) RL) := ⟨fun h => by simp at h, fun _ => ⟨by omega, hRL, by simp [bytesOf]⟩⟩
  generalize setAt (gOf s) s.size i = R at HR ⊢
  clear hRL
  have hp := h.lt
  obtain ⟨W2, hW2⟩ : ∃ W2, W2 = (w.alloc (.cells #[.int .i64 0, .int .i64 0, .string ⟨#[]⟩, .bool false, .slice none 0 0] 149)).alloc (.cells #[.int .i64 3, .int .i64 0, .string ⟨#[]⟩, .bool false, .slice none 0 0] 149) := ⟨_, rfl⟩
  have hC2 : Cs p s i false W2 := by rw [hW2]; exact (h.alloc _).alloc _
  have hV2 : Var W2 w.heap.size (.int .i64 0) (.int .i64 0) (.string ⟨#[]⟩) (.bool false) (.slice none 0 0) := by
    rw [hW2]; exact (Below.heap_alloc _ _ _ (by simp)).trans (heap_alloc_last _ _)
  have hV3 : Var W2 (w.heap.size + 1) (.int .i64 3) (.int .i64 0) (.string ⟨#[]⟩) (.bool false) (.slice none 0 0) := by
    rw [hW2]; unfold Var; rw [show w.heap.size + 1 = (w.alloc (.cells #[.int .i64 0, .int .i64 0, .string ⟨#[]⟩, .bool false, .slice none 0 0] 149)).heap.size by simp]; exact heap_alloc_last _ _
  have hg2 : w.grownBy W2 (some p) := by rw [hW2]; exact (World.grownBy_alloc _ _ _).trans (World.grownBy_alloc _ _ _)
  have hz2 : W2.heap.size = w.heap.size + 2 := by rw [hW2]; simp
  subst hW2
  have Hno : Hid (no = decide (gOf s i = 94)) := hno
  have Hj0 : Hid (j0 = if gOf s i = 94 then i + 1 else i) := hj0
  clear hno hj0
  go_enter Tryz.func180, Tryz.ntmps180
  go_upto_if 13 with (go_at_call 138; refine (sNow hC2 hi 94 94 (by omega) rfl).mono ?_; rintro e wa ⟨rfl, na, rfl⟩; rw [← Hno.out])
  go_cut [] (fun wx => Cs p s j0 false wx ∧ Var wx w.heap.size (.int .i64 0) (.int .i64 0) (.string ⟨#[]⟩) (.bool false) (.slice none 0 0) ∧ Var wx (w.heap.size + 1) (.int .i64 3) (.int .i64 0) (.string ⟨#[]⟩) (.bool no) (.slice none 0 0) ∧ w.grownBy wx (some p) ∧ wx.heap.size = w.heap.size + 2)
  case first =>
    cases no with
    | true =>
      have h94 : gOf s i = 94 := of_decide_eq_true Hno.out.symm
      have Hj : Hid (j0 = i + 1) := Hj0.out.trans (if_pos h94)
      have c1 := hC2.pos
      have f1 := hC2.fr1
      have f2 := hV3.frozen 3
      have c2 := hV3.cell.2.2.2.1
      have bi : (i : Int) ≤ 1000 := by omega
      clear h94
      go_wp2_with fail
      go_meet
      rw [Hj.out]
      have hp1 : w.heap.size + 1 ≠ p := by omega
      have hp0 : w.heap.size ≠ p := by omega
      refine ⟨?_, ?_, ?_, ?_, ?_⟩
      · exact ((hC2.drewN na).set ((i : Int) + 1)).kept (Below.heap_setCell _ ⟨w.heap.size + 1, 3, none⟩ _ _ (by show p ≠ w.heap.size + 1; omega))
      · exact hV2.kept ((Below.heap_setCell _ _ _ _ (show w.heap.size ≠ w.heap.size + 1 by omega)).trans (Below.heap_setCell _ _ _ _ hp0))
      · exact (Var.kept (w := ((w.alloc (.cells #[.int .i64 0, .int .i64 0, .string ⟨#[]⟩, .bool false, .slice none 0 0] 149)).alloc (.cells #[.int .i64 3, .int .i64 0, .string ⟨#[]⟩, .bool false, .slice none 0 0] 149)).drewN na) hV3 (Below.heap_setCell _ _ _ _ hp1)).set3 _
      · exact grown_set_new ((grown_drewN hg2 na).trans (grown_set _ ⟨p, 1, none⟩ _)) (show w.heap.size ≤ w.heap.size + 1 by omega) _
      · simp
    | false =>
      have h94 : ¬ gOf s i = 94 := of_decide_eq_false Hno.out.symm
      have Hj : Hid (j0 = i) := Hj0.out.trans (if_neg h94)
      clear h94
      go_wp2_with fail
      go_meet
      rw [Hj.out]
      exact ⟨hC2.drewN _, hV2, hV3, grown_drewN hg2 _, hz2⟩
  case rest =>
    obtain ⟨hC3, hV4, hV5, hg3, hz3⟩ := hcut
    clear hC2 hV2 hV3 hg2 hz2 h hi Hno Hj0
    have mk := mk256
    have hSt : St p s w no j0 false (fun _ => false) (wc.alloc (.cells (marks fun _ => false) 4)) := by
      refine ⟨hC3.alloc _, hV4.kept (Below.heap_alloc _ _ _ (by omega)), hV5.kept (Below.heap_alloc _ _ _ (by omega)), ?_, hg3.trans (World.grownBy_alloc _ _ _), by simp [hz3], hp⟩
      rw [← hz3]
      exact heap_alloc_last _ _
    have HS : Hid (j0 ≤ s.size) := hj0le
    clear hC3 hV4 hV5 hg3 hj0le
    go_upto_block 0 with fail
    go_cut [5, 6, 7, 8] (fun v5 v6 v7 v8 wx => ∃ (k m f : Nat) (bad : Bool) (M : Nat → Bool), v5 = .int .i64 m ∧ m ≤ k ∧ k ≤ s.size ∧ (k < s.size → gOf s k = 93) ∧ St p s w no k bad M wx ∧ SetR (gOf s) s.size k m f bad M RL)
    case first =>
      go_wp2_with fail
      go_loopw [5] (fun v5 wr => ∃ (k m f : Nat) (bad : Bool) (M : Nat → Bool), v5 = .int .i64 m ∧ m ≤ k ∧ k ≤ s.size ∧ St p s w no k bad M wr ∧ SetR (gOf s) s.size k m f bad M RL) (fun _ wr => s.size - posC p wr)
      case atStart => exact ⟨j0, 0, _, false, _, rfl, Nat.zero_le _, HS.out, hSt, HL.out⟩
      case round =>
        clear hSt HL HS mk
        obtain ⟨k, m, f, bad, M, rfl, hm, hk, hst, hR⟩ := hrel
        have HR2 : Hid (SetR (gOf s) s.size k m f bad M RL) := hR
        have HP : Hid (posC p wr = k) := posC_is hst.cs
        have c1 := hst.cs.text
        have c2 := hst.cs.pos
        have f1 := hst.cs.fr1
        have f2 := hst.cs.fr2
        clear hR
        rcases Nat.lt_or_ge k s.size with hkl | hkl
        · have hg1 := gOf_in hkl
          by_cases h93 : gOf s k = 93
          · have e93 : (s[k].toNat : Int) = 93 := by omega
            go_wp2_with fail
            go_quiet (fail)
            go_wp2_with fail
            go_meet
            exact ⟨k, m, f, bad, M, rfl, hm, hk, fun _ => h93, hst.drewN _, HR2.out⟩
          · have e93 : ¬ (s[k].toNat : Int) = 93 := by omega
            obtain ⟨row, hrow⟩ : ∃ row, row = rowB (gOf s) k := ⟨_, rfl⟩
            have HW : Hid (row = rowB (gOf s) k) := hrow
            have h93' : Hid (¬ gOf s k = 93) := h93
            have bk : (k : Int) < 1000 := by omega
            obtain ⟨lo, hlo⟩ : ∃ lo, lo = gOf s k := ⟨_, rfl⟩
            have HLo : Hid (lo = gOf s k) := hlo
            have blo : lo < 256 := by have := s[k].toNat_lt; omega
            have hw : wrap64 (s[k].toNat : Int) = (lo : Int) := by rw [hlo, hg1]; exact wrap64_byte s[k]
            obtain ⟨k1, hk1⟩ : ∃ k1, k1 = k + 1 := ⟨_, rfl⟩
            obtain ⟨k2, hk2⟩ : ∃ k2, k2 = k + 2 := ⟨_, rfl⟩
            have t1 : (k : Int) + 1 = (k1 : Int) := by omega
            have t2 : (k1 : Int) + 1 = (k2 : Int) := by omega
            have T1 : Hid (k1 = k + 1) := hk1
            have T2 : Hid (k2 = k + 2) := hk2
            clear hrow h93 hlo hg1 hk1 hk2
            go_wp2_with fail
            go_quiet (fail)
            go_wp2_with fail
            go_quiet (fail)
            go_upto_region 11 with fail
            go_cut [98] from 23 to 134 (fun v wx => v = .bool row ∧ St p s w no k1 bad M wx)
            case first =>
              have r1 := T1.out
              have r2 := T2.out
              by_cases q1 : k2 < s.size
              · have hk1 : k1 < s.size := by omega
                have hg2 : gOf s (k + 1) = s[k1].toNat := by rw [← r1]; exact gOf_in hk1
                have hg3 : gOf s (k + 2) = s[k2].toNat := by rw [← r2]; exact gOf_in q1
                have b3 := s[k2].toNat_lt
                by_cases q2 : gOf s (k + 1) = 45
                · by_cases q3 : gOf s (k + 2) = 93
                  · have R1 : Hid (row = false) := HW.out.trans (decide_eq_false (by omega))
                    have z1 : (s[k1].toNat : Int) = 45 := by omega
                    have z2 : (s[k2].toNat : Int) = 93 := by omega
                    clear hg2 hg3 q2 q3 b3 r1 r2
                    go_quiet (fail)
                    go_wp2
                    go_meet
                    exact ⟨by rw [R1.out], ((hst.drewN _).pos _).drewN _⟩
                  · have R1 : Hid (row = true) := HW.out.trans (decide_eq_true ⟨q2, q3, by omega⟩)
                    have z1 : (s[k1].toNat : Int) = 45 := by omega
                    have z2 : ((s[k2].toNat : Int) != 93) = true := by simp; omega
                    clear hg2 hg3 q2 q3 b3 r1 r2
                    go_quiet (fail)
                    go_wp2
                    go_meet
                    exact ⟨by rw [R1.out], ((hst.drewN _).pos _).drewN _⟩
                · have R1 : Hid (row = false) := HW.out.trans (decide_eq_false (by omega))
                  have z1 : ((s[k1].toNat : Int) == 45) = false := by simp; omega
                  clear hg2 hg3 q2 b3 r1 r2
                  go_quiet (fail)
                  go_wp2
                  go_meet
                  exact ⟨by rw [R1.out], ((hst.drewN _).pos _).drewN _⟩
              · have R1 : Hid (row = false) := HW.out.trans (decide_eq_false (by have := gOf_out (s := s) (i := k + 2) (by omega); omega))
                have z1 : decide ((k2 : Int) < s.size) = false := decide_eq_false (by omega)
                have z2 : decide (k2 < s.size) = false := decide_eq_false (by omega)
                clear r1 r2
                go_quiet (fail)
                go_wp2
                go_meet
                exact ⟨by rw [R1.out], ((hst.drewN _).pos _).drewN _⟩
            case rest =>
              obtain ⟨hv, hst1⟩ := hcut
              subst hv
              rw [hw]
              clear hst c1 c2 f1 f2 hw
              have c1 := hst1.cs.text
              have c2 := hst1.cs.pos
              have f1 := hst1.cs.fr1
              obtain ⟨hi, hhi⟩ : ∃ hi, hi = if row then gOf s (k + 2) else lo := ⟨_, rfl⟩
              obtain ⟨k3, hk3⟩ : ∃ k3, k3 = if row then k + 3 else k + 1 := ⟨_, rfl⟩
              have HH : Hid (hi = if row then gOf s (k + 2) else lo) := hhi
              have HK : Hid (k3 = if row then k + 3 else k + 1) := hk3
              clear hhi hk3
              go_upto_if 98 with fail
              go_cut [7] from 23 to 134 (fun v wx => v = .int .i64 (hi : Int) ∧ St p s w no k3 bad M wx)
              case first =>
                cases row with
                | true =>
                  have hrw := of_decide_eq_true HW.out.symm
                  have q1 : k2 < s.size := by rw [T2.out]; exact in_of hrw.2.2
                  have hg3 : gOf s (k + 2) = s[k2].toNat := by rw [← T2.out]; exact gOf_in q1
                  have b3 := s[k2].toNat_lt
                  have H3 : Hid (hi = gOf s (k + 2)) := HH.out
                  have hw2 : wrap64 (s[k2].toNat : Int) = (hi : Int) := by rw [H3.out, hg3]; exact wrap64_byte _
                  have t3 : (k1 : Int) + 2 = (k3 : Int) := by have := T1.out; have : k3 = k + 3 := HK.out; omega
                  clear hrw hg3 b3
                  go_wp2_with fail
                  go_quiet (fail)
                  go_wp2_with fail
                  go_meet
                  exact ⟨by rw [hw2], (hst1.drewN _).pos _⟩
                | false =>
                  have H3 : hi = lo := HH.out
                  have H4 : k3 = k1 := HK.out.trans T1.out.symm
                  subst H3 H4
                  go_wp2_with fail
                  go_meet
                  exact ⟨rfl, hst1⟩
              case rest =>
                obtain ⟨hv, hst2⟩ := hcut
                subst hv
                clear hst1 c1 c2 f1 t1 t2
                have f2 := hst2.cs.fr2
                have c3 := hst2.cs.bad
                go_upto_if 120 with fail
                go_cut [] from 23 to 134 (fun wx => St p s w no k3 (bad || decide (hi < lo)) M wx)
                case first =>
                  by_cases hl : hi < lo
                  · have l1 : decide ((hi : Int) < lo) = true := decide_eq_true (by omega)
                    have l2 : decide (hi < lo) = true := decide_eq_true hl
                    go_wp2_with fail
                    go_meet
                    rw [l2, Bool.or_true]
                    exact hst2.spoil true
                  · have l1 : decide ((hi : Int) < lo) = false := decide_eq_false (by omega)
                    have l2 : decide (hi < lo) = false := decide_eq_false hl
                    go_wp2_with fail
                    go_meet
                    rw [l2, Bool.or_false]
                    exact hst2
                case rest =>
                  have hst3 := hcut
                  clear hst2 f2 hcut c3
                  obtain ⟨f', HX, x1, x2, x3, x4⟩ : ∃ f', SetR (gOf s) s.size k3 (m + 1) f' (bad || decide (hi < lo)) (if lo ≤ hi then spanOn M lo hi else M) RL ∧ m + 1 ≤ k3 ∧ k3 ≤ s.size ∧ k < k3 ∧ hi < 256 := by
                    have hl := HLo.out
                    cases row with
                    | true =>
                      have hrw := of_decide_eq_true HW.out.symm
                      have q1 := in_of hrw.2.2
                      have h1 : hi = gOf s (k + 2) := HH.out
                      have h2 : k3 = k + 3 := HK.out
                      obtain ⟨f', h3⟩ := setR_row HR2.out hkl h93'.out HW.out.symm
                      rw [h1, h2, hl]
                      exact ⟨f', h3, by omega, by omega, by omega, by rw [gOf_in q1]; have := s[k + 2].toNat_lt; omega⟩
                    | false =>
                      have h1 : hi = gOf s k := HH.out.trans hl
                      have h2 : k3 = k + 1 := HK.out
                      obtain ⟨f', h3⟩ := setR_one HR2.out hkl h93'.out HW.out.symm
                      rw [h1, h2, hl, decide_eq_false (Nat.lt_irrefl _), Bool.or_false, if_pos (Nat.le_refl _)]
                      exact ⟨f', h3, by omega, by omega, by omega, by omega⟩
                  have HX' : Hid (SetR (gOf s) s.size k3 (m + 1) f' (bad || decide (hi < lo)) (if lo ≤ hi then spanOn M lo hi else M) RL) := HX
                  clear HX HR2 HW HK HH h93' T1 T2
                  generalize (bad || decide (hi < lo)) = bad' at hst3 HX'
                  go_wp2_with fail
                  go_loopw [8] (fun v wq => ∃ n : Nat, v = .int .i64 n ∧ lo ≤ n ∧ (n ≤ hi + 1 ∨ n = lo) ∧ St p s w no k3 bad' (spanTo M lo n) wq) (fun v _ => 300 - (intOf v).toNat)
                  case atStart => exact ⟨lo, rfl, Nat.le_refl _, .inr rfl, by rw [spanTo_zero]; exact hst3⟩
                  case round =>
                    obtain ⟨n, rfl, n1, n2, hst5⟩ := hrel
                    by_cases hn : n ≤ hi
                    · have hc := hs_cell hst5.hs (k := n) (by omega)
                      have hfr := hs_frozen (k := n) hst5.hs
                      have hn2 : n < 256 := by omega
                      go_wp2_with fail
                      go_roundw
                      case rel =>
                        refine ⟨n + 1, by go_num, by omega, by omega, ?_⟩
                        rw [← spanTo_next M n1]
                        exact hst5.mark n
                      case measure => simp [intOf]; omega
                    · have HM : Hid (spanTo M lo n = if lo ≤ hi then spanOn M lo hi else M) := by
                        show spanTo M lo n = if lo ≤ hi then spanOn M lo hi else M
                        by_cases hlh : lo ≤ hi
                        · obtain rfl : n = hi + 1 := by omega
                          rw [if_pos hlh, spanTo_all]
                        · obtain rfl : n = lo := by omega
                          rw [if_neg hlh, spanTo_zero]
                      have hmm : (m : Int) < 1000 := by omega
                      go_wp2_with fail
                      go_roundw
                      case rel =>
                        rw [HM.out] at hst5
                        exact ⟨k3, m + 1, f', bad', _, by go_num, x1, x2, hst5, HX'.out⟩
                      case measure => rw [HP.out, posC_is hst5.cs]; omega
        · have e3 : decide ((k : Int) < s.size) = false := decide_eq_false (by omega)
          have e4 : decide (k < s.size) = false := decide_eq_false (by omega)
          have e5 : ¬ k < s.size := by omega
          go_wp2_with fail
          go_quiet (fail)
          go_wp2_with fail
          go_meet
          exact ⟨k, m, f, bad, M, rfl, hm, hk, fun h => absurd h e5, hst.drewN _, HR2.out⟩
    case rest =>
      obtain ⟨k, m, f, bad, M, hv, hm, hk, h93, hst, hR⟩ := hcut
      subst hv
      obtain ⟨z1, z2⟩ := setR_end (no := no) hR hk h93
      obtain ⟨out, hout⟩ : ∃ out, out = (decide (s.size ≤ k) || decide (m = 0)) := ⟨_, rfl⟩
      rw [← hout] at z1 z2
      have HO : Hid (out = (decide (s.size ≤ k) || decide (m = 0))) := hout
      have Z1 : Hid ((bad || out) = true → R = none) := fun h => HR.out.trans (z1 h)
      have Z2 : Hid ((bad || out) = false → R = some (setOf M no, k + 1)) := fun h => HR.out.trans (z2 h)
      clear hR z1 z2 hout hSt HL HS mk HR h93
      have c1 := hst.cs.text
      have c2 := hst.cs.pos
      have c3 := hst.cs.bad
      have f1 := hst.cs.fr1
      have f2 := hst.cs.fr2
      go_upto_region 21 with fail
      go_cut [148] (fun v wx => v = .bool out ∧ St p s w no k bad M wx)
      case first =>
        by_cases q1 : s.size ≤ k
        · have R1 : Hid (out = true) := by show out = true; rw [HO.out, decide_eq_true q1]; rfl
          have e1 : decide ((s.size : Int) ≤ (k : Int)) = true := decide_eq_true (by omega)
          have e2 : decide (s.size ≤ k) = true := decide_eq_true (by omega)
          go_quiet (fail)
          go_wp2
          go_meet
          exact ⟨by rw [R1.out], hst.drewN _⟩
        · have e1 : decide ((s.size : Int) ≤ (k : Int)) = false := decide_eq_false (by omega)
          have e2 : decide (s.size ≤ k) = false := decide_eq_false (by omega)
          have R1 : Hid (out = decide (m = 0)) := by show out = _; rw [HO.out, e2]; rfl
          have e3 : ((m : Int) == 0) = decide (m = 0) := nat_eqb m 0
          go_quiet (fail)
          go_wp2
          go_meet
          exact ⟨by rw [R1.out], hst.drewN _⟩
      case rest =>
        obtain ⟨hv, hst1⟩ := hcut
        subst hv
        clear hst c1 c2 c3 f1 f2 HO
        have c1 := hst1.cs.text
        have c2 := hst1.cs.pos
        have c3 := hst1.cs.bad
        have f1 := hst1.cs.fr1
        have f2 := hst1.cs.fr2
        go_upto_if 148 with fail
        go_cut [] (fun wx => St p s w no k (bad || out) M wx)
        case first =>
          cases out with
          | true =>
            go_wp2_with fail
            go_meet
            rw [Bool.or_true]
            exact hst1.spoil true
          | false =>
            go_wp2_with fail
            go_meet
            rw [Bool.or_false]
            exact hst1
        case rest =>
          have hst2 := hcut
          generalize (bad || out) = bad' at hst2 Z1 Z2
          clear hst1 c1 c2 c3 f1 f2 hcut
          have hst3 := hst2.pos ((k : Int) + 1)
          have c2 := hst2.cs.pos
          have f1 := hst2.cs.fr1
          have bk : (k : Int) ≤ 1000 := by omega
          obtain ⟨i0, hi0, hz0, hz1, hz2⟩ := info_parts Tryz.info5r
          obtain ⟨W3, hW3⟩ : ∃ W3, W3 = wc.setCell ⟨p, 1, none⟩ (.int .i64 ((k : Int) + 1)) := ⟨_, rfl⟩
          rw [← hW3] at hst3
          have sz2 := hst2.sz
          go_wp2_with fail
          rw [← hW3]
          have hsz3 := hst3.sz
          have hMc : ∀ j, j < 256 → W3.cell? ⟨w.heap.size + 2, j, none⟩ = some (.bool (M j)) := fun j hj => hs_cell hst3.hs hj
          clear hW3 hst2 c2 f1 sz2
          go_loopw [9, 10] (fun v i wr => ∃ k : Nat, k ≤ 256 ∧ i = .int .i64 k ∧ wr.ownsRow (w.heap.size + 3) 5 1 v (upTo M k).length (u8s (upTo M k)) ∧ Below (w.heap.size + 3) W3 wr) (fun _ i _ => 256 - (intOf i).toNat)
          case atStart =>
            refine ⟨0, by omega, rfl, ?_, (Below.refl _ W3).alloc (by omega) _⟩
            rw [← hsz3]
            exact World.ownsRow_made W3 #[] 0 (Nat.le_refl _) (by unfold maxLen; omega) rfl
          case round =>
            obtain ⟨k', hk', rfl, hown, hnx⟩ := hrel
            have hlen := upTo_len M k'
            have hszr := hnx.size
            have hlt2 : w.heap.size + 2 < w.heap.size + 3 := by omega
            by_cases hkl : k' < 256
            · have hcM : wr.cell? ⟨w.heap.size + 2, k', none⟩ = some (.bool (M k')) := (World.cell?_of_block (hnx.block _ hlt2)).trans (hMc k' hkl)
              by_cases hM : M k' = true
              · rw [hM] at hcM
                go_wp2_with (first | (at_builtin; refine wpList_append_own_at _ rfl _ _ 35 rfl (w.heap.size + 3) 5 i0 (.int .u8 0) 1 1 Tryz.underlying35 hi0 hz0 hz1 hz2 rfl (by decide) _ _ _ rfl (hown.alloc _) ⟨wr.heap.size, 0, none⟩ 1 1 [.int .u8 k'] rfl rfl (cell_one_new _ _ _) (by simp [Value.oneCell']) (by unfold maxLen; omega) (by omega) (by simp; omega) ?_; intro v' w1 hown' hgrow _ _))
                rw [← List.length_singleton (a := Value.int .u8 (k' : Int))] at hown'
                go_roundw
                case rel =>
                  refine ⟨k' + 1, by omega, by go_num, ?_, ?_⟩
                  · rw [upTo_in hM]
                    simpa [u8s] using hown'
                  · exact (hnx.alloc (by omega) _).grown hgrow (by simp; omega) (fun b hb => (hown.lt b hb).1)
                case measure => simp [intOf]; omega
              · have hM : M k' = false := by simpa using hM
                rw [hM] at hcM
                go_wp2_with fail
                go_roundw
                case rel => exact ⟨k' + 1, by omega, by go_num, by rw [upTo_out hM]; exact hown, hnx⟩
                case measure => simp [intOf]; omega
            · obtain rfl : k' = 256 := by omega
              have hcv := conv_owned hown (fun b hb => List.mem_range.1 (List.mem_filter.1 hb).1)
              have H : Hid ((upTo M 256).map UInt8.ofNat = bytesOf M) := rfl
              have hV := hst3.rv.kept (hnx.block _ (by omega))
              have hV0 := hst3.res.kept (hnx.block _ (by omega))
              have x0 := hV.cell.1
              have x1 := hV.cell.2.1
              have x2 := hV.cell.2.2.1
              have x3 := hV.cell.2.2.2.1
              have x4 := hV.cell.2.2.2.2
              have xf := hV.frozen 2
              have y0 := hV0.frozen 0
              have y1 := hV0.frozen 1
              have y2 := hV0.frozen 2
              have y3 := hV0.frozen 3
              have y4 := hV0.frozen 4
              have y5 := hV0.cell.1
              have y6 := hV0.cell.2.1
              have y7 := hV0.cell.2.2.1
              have y8 := hV0.cell.2.2.2.1
              have y9 := hV0.cell.2.2.2.2
              go_wp2_with fail
              have hp1 : p ≠ w.heap.size + 1 := by omega
              have hp0 : p ≠ w.heap.size := by omega
              have hnx' : Below W3.heap.size W3 wr := by rw [hsz3]; exact hnx
              have hCf := (hst3.cs.kept (hnx.block p (by omega))).kept (Below.heap_setCell wr ⟨w.heap.size + 1, 2, none⟩ (.string ⟨((upTo M 256).map UInt8.ofNat).toArray⟩) p hp1)
              have hgf : w.grownBy (wr.setCell ⟨w.heap.size + 1, 2, none⟩ (.string ⟨((upTo M 256).map UInt8.ofNat).toArray⟩)) (some p) := grown_set_new (hst3.gr.trans (grown_of_below hnx' _)) (show w.heap.size ≤ w.heap.size + 1 by omega) _
              have hVf := put5_var (hV0.kept (Below.heap_setCell wr ⟨w.heap.size + 1, 2, none⟩ (.string ⟨((upTo M 256).map UInt8.ofNat).toArray⟩) w.heap.size (show w.heap.size ≠ w.heap.size + 1 by omega))) (.int .i64 3) (.int .i64 0) (.string ⟨((upTo M 256).map UInt8.ofNat).toArray⟩) (.bool no) (.slice none 0 0)
              have hF := hVf.cell
              refine bodyPost_ret (v := .agg #[.int .i64 3, .int .i64 0, .string ⟨((upTo M 256).map UInt8.ofNat).toArray⟩, .bool no, .slice none 0 0]) ?_ rfl ?_
              · have x0 := hF.1
                have x1 := hF.2.1
                have x2 := hF.2.2.1
                have x3 := hF.2.2.2.1
                have x4 := hF.2.2.2.2
                clear hF hVf hCf hgf hV hV0 hst3 hnx' hcv hMc
                unfold put5 at x0 x1 x2 x3 x4
                simp [results, Tryz.results180, go_sem, x0, x1, x2, x3, x4]
              · show Tells p s w R _ (put5 (wr.setCell ⟨w.heap.size + 1, 2, none⟩ (.string ⟨((upTo M 256).map UInt8.ofNat).toArray⟩)) w.heap.size (.int .i64 3) (.int .i64 0) (.string ⟨((upTo M 256).map UInt8.ofNat).toArray⟩) (.bool no) (.slice none 0 0))
                have hCz := hCf.kept (put5_block _ hp0 (.int .i64 3) (.int .i64 0) (.string ⟨((upTo M 256).map UInt8.ofNat).toArray⟩) (.bool no) (.slice none 0 0))
                have hgz := put5_grown hgf (Nat.le_refl _) (.int .i64 3) (.int .i64 0) (.string ⟨((upTo M 256).map UInt8.ofNat).toArray⟩) (.bool no) (.slice none 0 0)
                cases bad' with
                | true =>
                  rw [Z1.out rfl]
                  exact ⟨_, _, _, _, _, _, rfl, ⟨3, 0, _, no, none, 0, 0, rfl, rfl, rfl, rfl, rfl⟩, hCz, hgz⟩
                | false =>
                  rw [Z2.out rfl]
                  exact ⟨_, _, _, _, _, rfl, rex_leaf _ _ 3 0 (bytesOf M) no, hCz, hgz⟩

end Rx
end Go.Proofs.YtkhoccjfkkfipaaGreatDoor
