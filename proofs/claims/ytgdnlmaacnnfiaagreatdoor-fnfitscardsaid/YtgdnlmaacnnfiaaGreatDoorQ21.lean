/-
  The specification's l3Right: one kid.
  The specification's l3Right: all else.
-/
import Derived.Test.YtgdnlmaacnnfiaaGreatDoorQ19
namespace Go.Proofs.YtgdnlmaacnnfiaaGreatDoor
open Go.RowKit
namespace Rx

set_option linter.unusedSimpArgs false in
set_option maxHeartbeats 8000000 in
set_option maxRecDepth 100000 in
theorem right8 (op cc : Int) (s : List UInt8) (no : Bool) (ks : List Data) (hop : op = 8) (hkids : ∀ t ∈ ks, RightOk t) (hlen : ks.length ≤ 100000) (hsk : s.length ≤ 1000) : RightOk (ndZ op cc s no ks) := by
  have HOP : Hid (op = 8) := hop
  clear hop
  intro w S a b c d u h hS
  rw [rexZ_nd] at h
  obtain ⟨v, xs, he, ho, hg, hx⟩ := h
  simp at he
  obtain ⟨rfl, rfl, rfl, rfl, rfl⟩ := he
  have hnI : (ks.length : Int) ≤ 100000 := by omega
  obtain ⟨ao, cap, rfl⟩ := owns_slice ho
  obtain ⟨zs, hzs⟩ : ∃ zs : ByteArray, zs = ⟨s.toArray⟩ := ⟨_, rfl⟩
  have hzn : zs.size = s.length := by rw [hzs]; simp [ByteArray.size]
  have hup := fun w => sUp zs (by omega) w
  rw [rightZ_nd]
  rw [← hzs]
  have HZ : Hid (zs = ⟨s.toArray⟩) := hzs
  obtain ⟨o1, ho1⟩ : ∃ o1, o1 = Obj.cells #[.int .i64 op, .int .i64 cc, .string zs, .bool no, .slice ao ks.length cap] 26 := ⟨_, rfl⟩
  have hb0 : Below w.heap.size w (w.alloc o1) := (Below.refl _ w).alloc (Nat.le_refl _) _
  have hv0 : Var (w.alloc o1) w.heap.size (.int .i64 op) (.int .i64 cc) (.string zs) (.bool no) (.slice ao ks.length cap) := by rw [ho1]; exact heap_alloc_last _ _
  have HO1 : Hid (o1 = Obj.cells #[.int .i64 op, .int .i64 cc, .string zs, .bool no, .slice ao ks.length cap] 26) := ho1
  obtain ⟨OK, hOK⟩ : ∃ OK, OK = (rightZs ks && okLab op cc s no ks.length) := ⟨_, rfl⟩
  rw [← hOK]
  have HOK : Hid (OK = (rightZs ks && okLab op cc s no ks.length)) := hOK
  clear hzs ho1 hOK
  go_enter Tryz.func57, Tryz.ntmps57
  go_wp2_with fail
  rw [← HO1.out]
  go_loopw [3] (fun i wr => ∃ k : Nat, k ≤ ks.length ∧ i = .int .i64 k ∧ rightZs (ks.take k) = true ∧ Below w.heap.size w wr ∧ Var wr w.heap.size (.int .i64 op) (.int .i64 cc) (.string zs) (.bool no) (.slice ao ks.length cap)) (fun i _ => ks.length - (intOf i).toNat)
  case atStart => exact ⟨0, Nat.zero_le _, rfl, rfl, hb0, hv0⟩
  case round =>
    obtain ⟨k, hkn, rfl, hrk, hb, hV⟩ := hrel
    have hVc := hV.cell
    obtain ⟨v0, v1, v2, v3, v4⟩ := hVc
    by_cases hkl : k < ks.length
    · have hki : ks[k]? = some ks[k] := List.getElem?_eq_getElem hkl
      obtain ⟨T1, a, b, c, d, u, x0, x1, x2, x3, x4, hr1, hs1⟩ := rexZs_at hx hki
      obtain ⟨g, rfl, hg', hc'⟩ := row_cells ho hkl
      have cl : ∀ j x, xs[j]? = some x → wr.cell? ⟨g, j, none⟩ = some x := fun j x hx => (hb.cell (p := ⟨g, j, none⟩) hg').trans (hc' j x hx)
      have p0 := cl _ _ x0
      have p1 := cl _ _ x1
      have p2 := cl _ _ x2
      have p3 := cl _ _ x3
      have p4 := cl _ _ x4
      have call := hkids ks[k] (List.getElem_mem hkl) wr T1 a b c d u (rexZ_frame _ _ _ (fun j hj => hb.block j (hS j (hs1 j hj).1)) hr1) (fun j hj => Nat.lt_of_lt_of_le (hS j (hs1 j hj).1) hb.size)
      have hlt := hV.lt
      have HT := rightZs_take hki
      rw [hrk, Bool.true_and] at HT
      obtain ⟨tk, htk⟩ : ∃ tk, tk = ks[k] := ⟨_, rfl⟩
      have hmem : tk ∈ ks := by rw [htk]; exact List.getElem_mem _
      rw [← htk] at call HT
      have hbk : (k : Int) < ks.length := by omega
      clear x0 x1 x2 x3 x4 hc' cl hr1 hs1 hx ho hki hkids htk
      rcases hB : rightZ tk with _ | _
      · rw [hB] at call HT
        have hfalse : Hid (OK = false) := by
          show OK = false
          rw [HOK.out]
          rcases hr : rightZs ks with _ | _
          · rfl
          · have := (rightZs_all ks).1 hr tk hmem
            rw [hB] at this
            cases this
        go_wp2_with fail
        refine call.mono ?_
        rintro e w2 ⟨rfl, hb2⟩
        go_wp2_with fail
        go_ret
        exact ⟨by rw [hfalse.out]; rfl, hb.trans (hb2.mono hb.size)⟩
      · rw [hB] at call HT
        have HT' : Hid (rightZs (ks.take (k + 1)) = true) := HT
        clear HT
        go_wp2_with fail
        refine call.mono ?_
        rintro e w2 ⟨rfl, hb2⟩
        go_wp2_with fail
        go_roundw
        case rel => exact ⟨k + 1, by omega, by go_num, HT'.out, hb.trans (hb2.mono hb.size), hV.kept (hb2.block _ hlt)⟩
        case measure => simp [intOf]; omega
    · obtain rfl : k = ks.length := by omega
      rw [List.take_length] at hrk
      have hOK2 : Hid (OK = okLab op cc s no ks.length) := by show _ = _; rw [HOK.out, hrk, Bool.true_and]
      clear hx ho hkids HOK hrk
      have hze : zs.toList = [] ↔ s.isEmpty = true := by
        rw [toList_nil, hzn]
        cases s with
        | nil => simp
        | cons a l => simp
      have hzu : upB zs = upB ⟨s.toArray⟩ := by rw [HZ.out]
      obtain ⟨B, hB⟩ : ∃ B, B = upB zs := ⟨_, rfl⟩
      rw [← hB] at hup hzu
      obtain ⟨kl, hkl'⟩ : ∃ kl, kl = ks.length := ⟨_, rfl⟩
      rw [← hkl'] at v4 hV hOK2 ⊢
      have hkI : (kl : Int) ≤ 100000 := by omega
      clear hB hkl' hkl hkn hzn hnI hsk hg
      have HSE : Hid (s.isEmpty = decide (zs.toList = [])) := by
        show _ = _
        rcases h : s.isEmpty with _ | _
        · rw [eq_comm, decide_eq_false_iff_not]
          intro e
          rw [hze.1 e] at h
          cases h
        · rw [eq_comm, decide_eq_true_iff]
          exact hze.2 h
      have HZU : Hid (upB ⟨s.toArray⟩ = B) := hzu.symm
      clear hze hzu
      go_upto_region 7 with fail
      have hop := HOP.out
      clear HOP
      subst hop
      by_cases c1 : cc = 0 <;> by_cases ze : zs.toList = [] <;> cases no <;> by_cases k0 : (kl : Int) = 1 <;>
        (go_wp2_with fail
         go_ret
         refine ⟨?_, hb⟩
         rw [hOK2.out]
         have k1 : (kl = 1) = ((kl : Int) = 1) := by apply propext; omega
         simp [okLab, HSE.out, c1, ze, k1, k0])


set_option linter.unusedSimpArgs false in
set_option maxHeartbeats 8000000 in
set_option maxRecDepth 100000 in
theorem right9 (op cc : Int) (s : List UInt8) (no : Bool) (ks : List Data) (hop : op = 9) (hkids : ∀ t ∈ ks, RightOk t) (hlen : ks.length ≤ 100000) (hsk : s.length ≤ 1000) : RightOk (ndZ op cc s no ks) := by
  have HOP : Hid (op = 9) := hop
  clear hop
  intro w S a b c d u h hS
  rw [rexZ_nd] at h
  obtain ⟨v, xs, he, ho, hg, hx⟩ := h
  simp at he
  obtain ⟨rfl, rfl, rfl, rfl, rfl⟩ := he
  have hnI : (ks.length : Int) ≤ 100000 := by omega
  obtain ⟨ao, cap, rfl⟩ := owns_slice ho
  obtain ⟨zs, hzs⟩ : ∃ zs : ByteArray, zs = ⟨s.toArray⟩ := ⟨_, rfl⟩
  have hzn : zs.size = s.length := by rw [hzs]; simp [ByteArray.size]
  have hup := fun w => sUp zs (by omega) w
  rw [rightZ_nd]
  rw [← hzs]
  have HZ : Hid (zs = ⟨s.toArray⟩) := hzs
  obtain ⟨o1, ho1⟩ : ∃ o1, o1 = Obj.cells #[.int .i64 op, .int .i64 cc, .string zs, .bool no, .slice ao ks.length cap] 26 := ⟨_, rfl⟩
  have hb0 : Below w.heap.size w (w.alloc o1) := (Below.refl _ w).alloc (Nat.le_refl _) _
  have hv0 : Var (w.alloc o1) w.heap.size (.int .i64 op) (.int .i64 cc) (.string zs) (.bool no) (.slice ao ks.length cap) := by rw [ho1]; exact heap_alloc_last _ _
  have HO1 : Hid (o1 = Obj.cells #[.int .i64 op, .int .i64 cc, .string zs, .bool no, .slice ao ks.length cap] 26) := ho1
  obtain ⟨OK, hOK⟩ : ∃ OK, OK = (rightZs ks && okLab op cc s no ks.length) := ⟨_, rfl⟩
  rw [← hOK]
  have HOK : Hid (OK = (rightZs ks && okLab op cc s no ks.length)) := hOK
  clear hzs ho1 hOK
  go_enter Tryz.func57, Tryz.ntmps57
  go_wp2_with fail
  rw [← HO1.out]
  go_loopw [3] (fun i wr => ∃ k : Nat, k ≤ ks.length ∧ i = .int .i64 k ∧ rightZs (ks.take k) = true ∧ Below w.heap.size w wr ∧ Var wr w.heap.size (.int .i64 op) (.int .i64 cc) (.string zs) (.bool no) (.slice ao ks.length cap)) (fun i _ => ks.length - (intOf i).toNat)
  case atStart => exact ⟨0, Nat.zero_le _, rfl, rfl, hb0, hv0⟩
  case round =>
    obtain ⟨k, hkn, rfl, hrk, hb, hV⟩ := hrel
    have hVc := hV.cell
    obtain ⟨v0, v1, v2, v3, v4⟩ := hVc
    by_cases hkl : k < ks.length
    · have hki : ks[k]? = some ks[k] := List.getElem?_eq_getElem hkl
      obtain ⟨T1, a, b, c, d, u, x0, x1, x2, x3, x4, hr1, hs1⟩ := rexZs_at hx hki
      obtain ⟨g, rfl, hg', hc'⟩ := row_cells ho hkl
      have cl : ∀ j x, xs[j]? = some x → wr.cell? ⟨g, j, none⟩ = some x := fun j x hx => (hb.cell (p := ⟨g, j, none⟩) hg').trans (hc' j x hx)
      have p0 := cl _ _ x0
      have p1 := cl _ _ x1
      have p2 := cl _ _ x2
      have p3 := cl _ _ x3
      have p4 := cl _ _ x4
      have call := hkids ks[k] (List.getElem_mem hkl) wr T1 a b c d u (rexZ_frame _ _ _ (fun j hj => hb.block j (hS j (hs1 j hj).1)) hr1) (fun j hj => Nat.lt_of_lt_of_le (hS j (hs1 j hj).1) hb.size)
      have hlt := hV.lt
      have HT := rightZs_take hki
      rw [hrk, Bool.true_and] at HT
      obtain ⟨tk, htk⟩ : ∃ tk, tk = ks[k] := ⟨_, rfl⟩
      have hmem : tk ∈ ks := by rw [htk]; exact List.getElem_mem _
      rw [← htk] at call HT
      have hbk : (k : Int) < ks.length := by omega
      clear x0 x1 x2 x3 x4 hc' cl hr1 hs1 hx ho hki hkids htk
      rcases hB : rightZ tk with _ | _
      · rw [hB] at call HT
        have hfalse : Hid (OK = false) := by
          show OK = false
          rw [HOK.out]
          rcases hr : rightZs ks with _ | _
          · rfl
          · have := (rightZs_all ks).1 hr tk hmem
            rw [hB] at this
            cases this
        go_wp2_with fail
        refine call.mono ?_
        rintro e w2 ⟨rfl, hb2⟩
        go_wp2_with fail
        go_ret
        exact ⟨by rw [hfalse.out]; rfl, hb.trans (hb2.mono hb.size)⟩
      · rw [hB] at call HT
        have HT' : Hid (rightZs (ks.take (k + 1)) = true) := HT
        clear HT
        go_wp2_with fail
        refine call.mono ?_
        rintro e w2 ⟨rfl, hb2⟩
        go_wp2_with fail
        go_roundw
        case rel => exact ⟨k + 1, by omega, by go_num, HT'.out, hb.trans (hb2.mono hb.size), hV.kept (hb2.block _ hlt)⟩
        case measure => simp [intOf]; omega
    · obtain rfl : k = ks.length := by omega
      rw [List.take_length] at hrk
      have hOK2 : Hid (OK = okLab op cc s no ks.length) := by show _ = _; rw [HOK.out, hrk, Bool.true_and]
      clear hx ho hkids HOK hrk
      have hze : zs.toList = [] ↔ s.isEmpty = true := by
        rw [toList_nil, hzn]
        cases s with
        | nil => simp
        | cons a l => simp
      have hzu : upB zs = upB ⟨s.toArray⟩ := by rw [HZ.out]
      obtain ⟨B, hB⟩ : ∃ B, B = upB zs := ⟨_, rfl⟩
      rw [← hB] at hup hzu
      obtain ⟨kl, hkl'⟩ : ∃ kl, kl = ks.length := ⟨_, rfl⟩
      rw [← hkl'] at v4 hV hOK2 ⊢
      have hkI : (kl : Int) ≤ 100000 := by omega
      clear hB hkl' hkl hkn hzn hnI hsk hg
      have HSE : Hid (s.isEmpty = decide (zs.toList = [])) := by
        show _ = _
        rcases h : s.isEmpty with _ | _
        · rw [eq_comm, decide_eq_false_iff_not]
          intro e
          rw [hze.1 e] at h
          cases h
        · rw [eq_comm, decide_eq_true_iff]
          exact hze.2 h
      have HZU : Hid (upB ⟨s.toArray⟩ = B) := hzu.symm
      clear hze hzu
      go_upto_region 7 with fail
      have hop := HOP.out
      clear HOP
      subst hop
      by_cases c1 : cc = 0 <;> by_cases ze : zs.toList = [] <;> cases no <;> by_cases k0 : (kl : Int) = 1 <;>
        (go_wp2_with fail
         go_ret
         refine ⟨?_, hb⟩
         rw [hOK2.out]
         have k1 : (kl = 1) = ((kl : Int) = 1) := by apply propext; omega
         simp [okLab, HSE.out, c1, ze, k1, k0])


set_option linter.unusedSimpArgs false in
set_option maxHeartbeats 8000000 in
set_option maxRecDepth 100000 in
theorem right10 (op cc : Int) (s : List UInt8) (no : Bool) (ks : List Data) (hop : op = 10) (hkids : ∀ t ∈ ks, RightOk t) (hlen : ks.length ≤ 100000) (hsk : s.length ≤ 1000) : RightOk (ndZ op cc s no ks) := by
  have HOP : Hid (op = 10) := hop
  clear hop
  intro w S a b c d u h hS
  rw [rexZ_nd] at h
  obtain ⟨v, xs, he, ho, hg, hx⟩ := h
  simp at he
  obtain ⟨rfl, rfl, rfl, rfl, rfl⟩ := he
  have hnI : (ks.length : Int) ≤ 100000 := by omega
  obtain ⟨ao, cap, rfl⟩ := owns_slice ho
  obtain ⟨zs, hzs⟩ : ∃ zs : ByteArray, zs = ⟨s.toArray⟩ := ⟨_, rfl⟩
  have hzn : zs.size = s.length := by rw [hzs]; simp [ByteArray.size]
  have hup := fun w => sUp zs (by omega) w
  rw [rightZ_nd]
  rw [← hzs]
  have HZ : Hid (zs = ⟨s.toArray⟩) := hzs
  obtain ⟨o1, ho1⟩ : ∃ o1, o1 = Obj.cells #[.int .i64 op, .int .i64 cc, .string zs, .bool no, .slice ao ks.length cap] 26 := ⟨_, rfl⟩
  have hb0 : Below w.heap.size w (w.alloc o1) := (Below.refl _ w).alloc (Nat.le_refl _) _
  have hv0 : Var (w.alloc o1) w.heap.size (.int .i64 op) (.int .i64 cc) (.string zs) (.bool no) (.slice ao ks.length cap) := by rw [ho1]; exact heap_alloc_last _ _
  have HO1 : Hid (o1 = Obj.cells #[.int .i64 op, .int .i64 cc, .string zs, .bool no, .slice ao ks.length cap] 26) := ho1
  obtain ⟨OK, hOK⟩ : ∃ OK, OK = (rightZs ks && okLab op cc s no ks.length) := ⟨_, rfl⟩
  rw [← hOK]
  have HOK : Hid (OK = (rightZs ks && okLab op cc s no ks.length)) := hOK
  clear hzs ho1 hOK
  go_enter Tryz.func57, Tryz.ntmps57
  go_wp2_with fail
  rw [← HO1.out]
  go_loopw [3] (fun i wr => ∃ k : Nat, k ≤ ks.length ∧ i = .int .i64 k ∧ rightZs (ks.take k) = true ∧ Below w.heap.size w wr ∧ Var wr w.heap.size (.int .i64 op) (.int .i64 cc) (.string zs) (.bool no) (.slice ao ks.length cap)) (fun i _ => ks.length - (intOf i).toNat)
  case atStart => exact ⟨0, Nat.zero_le _, rfl, rfl, hb0, hv0⟩
  case round =>
    obtain ⟨k, hkn, rfl, hrk, hb, hV⟩ := hrel
    have hVc := hV.cell
    obtain ⟨v0, v1, v2, v3, v4⟩ := hVc
    by_cases hkl : k < ks.length
    · have hki : ks[k]? = some ks[k] := List.getElem?_eq_getElem hkl
      obtain ⟨T1, a, b, c, d, u, x0, x1, x2, x3, x4, hr1, hs1⟩ := rexZs_at hx hki
      obtain ⟨g, rfl, hg', hc'⟩ := row_cells ho hkl
      have cl : ∀ j x, xs[j]? = some x → wr.cell? ⟨g, j, none⟩ = some x := fun j x hx => (hb.cell (p := ⟨g, j, none⟩) hg').trans (hc' j x hx)
      have p0 := cl _ _ x0
      have p1 := cl _ _ x1
      have p2 := cl _ _ x2
      have p3 := cl _ _ x3
      have p4 := cl _ _ x4
      have call := hkids ks[k] (List.getElem_mem hkl) wr T1 a b c d u (rexZ_frame _ _ _ (fun j hj => hb.block j (hS j (hs1 j hj).1)) hr1) (fun j hj => Nat.lt_of_lt_of_le (hS j (hs1 j hj).1) hb.size)
      have hlt := hV.lt
      have HT := rightZs_take hki
      rw [hrk, Bool.true_and] at HT
      obtain ⟨tk, htk⟩ : ∃ tk, tk = ks[k] := ⟨_, rfl⟩
      have hmem : tk ∈ ks := by rw [htk]; exact List.getElem_mem _
      rw [← htk] at call HT
      have hbk : (k : Int) < ks.length := by omega
      clear x0 x1 x2 x3 x4 hc' cl hr1 hs1 hx ho hki hkids htk
      rcases hB : rightZ tk with _ | _
      · rw [hB] at call HT
        have hfalse : Hid (OK = false) := by
          show OK = false
          rw [HOK.out]
          rcases hr : rightZs ks with _ | _
          · rfl
          · have := (rightZs_all ks).1 hr tk hmem
            rw [hB] at this
            cases this
        go_wp2_with fail
        refine call.mono ?_
        rintro e w2 ⟨rfl, hb2⟩
        go_wp2_with fail
        go_ret
        exact ⟨by rw [hfalse.out]; rfl, hb.trans (hb2.mono hb.size)⟩
      · rw [hB] at call HT
        have HT' : Hid (rightZs (ks.take (k + 1)) = true) := HT
        clear HT
        go_wp2_with fail
        refine call.mono ?_
        rintro e w2 ⟨rfl, hb2⟩
        go_wp2_with fail
        go_roundw
        case rel => exact ⟨k + 1, by omega, by go_num, HT'.out, hb.trans (hb2.mono hb.size), hV.kept (hb2.block _ hlt)⟩
        case measure => simp [intOf]; omega
    · obtain rfl : k = ks.length := by omega
      rw [List.take_length] at hrk
      have hOK2 : Hid (OK = okLab op cc s no ks.length) := by show _ = _; rw [HOK.out, hrk, Bool.true_and]
      clear hx ho hkids HOK hrk
      have hze : zs.toList = [] ↔ s.isEmpty = true := by
        rw [toList_nil, hzn]
        cases s with
        | nil => simp
        | cons a l => simp
      have hzu : upB zs = upB ⟨s.toArray⟩ := by rw [HZ.out]
      obtain ⟨B, hB⟩ : ∃ B, B = upB zs := ⟨_, rfl⟩
      rw [← hB] at hup hzu
      obtain ⟨kl, hkl'⟩ : ∃ kl, kl = ks.length := ⟨_, rfl⟩
      rw [← hkl'] at v4 hV hOK2 ⊢
      have hkI : (kl : Int) ≤ 100000 := by omega
      clear hB hkl' hkl hkn hzn hnI hsk hg
      have HSE : Hid (s.isEmpty = decide (zs.toList = [])) := by
        show _ = _
        rcases h : s.isEmpty with _ | _
        · rw [eq_comm, decide_eq_false_iff_not]
          intro e
          rw [hze.1 e] at h
          cases h
        · rw [eq_comm, decide_eq_true_iff]
          exact hze.2 h
      have HZU : Hid (upB ⟨s.toArray⟩ = B) := hzu.symm
      clear hze hzu
      go_upto_region 7 with fail
      have hop := HOP.out
      clear HOP
      subst hop
      by_cases c1 : cc = 0 <;> by_cases ze : zs.toList = [] <;> cases no <;> by_cases k0 : (kl : Int) = 1 <;>
        (go_wp2_with fail
         go_ret
         refine ⟨?_, hb⟩
         rw [hOK2.out]
         have k1 : (kl = 1) = ((kl : Int) = 1) := by apply propext; omega
         simp [okLab, HSE.out, c1, ze, k1, k0])

end Rx
end Go.Proofs.YtgdnlmaacnnfiaaGreatDoor

namespace Go.Proofs.YtgdnlmaacnnfiaaGreatDoor
open Go.RowKit
namespace Rx

set_option linter.unusedSimpArgs false in
set_option maxHeartbeats 8000000 in
set_option maxRecDepth 100000 in
theorem rightElse (op cc : Int) (s : List UInt8) (no : Bool) (ks : List Data) (hop : op ≠ 1 ∧ op ≠ 3 ∧ op ≠ 6 ∧ op ≠ 7 ∧ op ≠ 8 ∧ op ≠ 9 ∧ op ≠ 10) (hkids : ∀ t ∈ ks, RightOk t) (hlen : ks.length ≤ 100000) (hsk : s.length ≤ 1000) : RightOk (ndZ op cc s no ks) := by
  intro w S a b c d u h hS
  rw [rexZ_nd] at h
  obtain ⟨v, xs, he, ho, hg, hx⟩ := h
  simp at he
  obtain ⟨rfl, rfl, rfl, rfl, rfl⟩ := he
  have hnI : (ks.length : Int) ≤ 100000 := by omega
  obtain ⟨ao, cap, rfl⟩ := owns_slice ho
  obtain ⟨zs, hzs⟩ : ∃ zs : ByteArray, zs = ⟨s.toArray⟩ := ⟨_, rfl⟩
  have hzn : zs.size = s.length := by rw [hzs]; simp [ByteArray.size]
  have hup := fun w => sUp zs (by omega) w
  rw [rightZ_nd]
  rw [← hzs]
  have HZ : Hid (zs = ⟨s.toArray⟩) := hzs
  obtain ⟨o1, ho1⟩ : ∃ o1, o1 = Obj.cells #[.int .i64 op, .int .i64 cc, .string zs, .bool no, .slice ao ks.length cap] 26 := ⟨_, rfl⟩
  have hb0 : Below w.heap.size w (w.alloc o1) := (Below.refl _ w).alloc (Nat.le_refl _) _
  have hv0 : Var (w.alloc o1) w.heap.size (.int .i64 op) (.int .i64 cc) (.string zs) (.bool no) (.slice ao ks.length cap) := by rw [ho1]; exact heap_alloc_last _ _
  have HO1 : Hid (o1 = Obj.cells #[.int .i64 op, .int .i64 cc, .string zs, .bool no, .slice ao ks.length cap] 26) := ho1
  obtain ⟨OK, hOK⟩ : ∃ OK, OK = (rightZs ks && okLab op cc s no ks.length) := ⟨_, rfl⟩
  rw [← hOK]
  have HOK : Hid (OK = (rightZs ks && okLab op cc s no ks.length)) := hOK
  clear hzs ho1 hOK
  go_enter Tryz.func57, Tryz.ntmps57
  go_wp2_with fail
  rw [← HO1.out]
  go_loopw [3] (fun i wr => ∃ k : Nat, k ≤ ks.length ∧ i = .int .i64 k ∧ rightZs (ks.take k) = true ∧ Below w.heap.size w wr ∧ Var wr w.heap.size (.int .i64 op) (.int .i64 cc) (.string zs) (.bool no) (.slice ao ks.length cap)) (fun i _ => ks.length - (intOf i).toNat)
  case atStart => exact ⟨0, Nat.zero_le _, rfl, rfl, hb0, hv0⟩
  case round =>
    obtain ⟨k, hkn, rfl, hrk, hb, hV⟩ := hrel
    have hVc := hV.cell
    obtain ⟨v0, v1, v2, v3, v4⟩ := hVc
    by_cases hkl : k < ks.length
    · have hki : ks[k]? = some ks[k] := List.getElem?_eq_getElem hkl
      obtain ⟨T1, a, b, c, d, u, x0, x1, x2, x3, x4, hr1, hs1⟩ := rexZs_at hx hki
      obtain ⟨g, rfl, hg', hc'⟩ := row_cells ho hkl
      have cl : ∀ j x, xs[j]? = some x → wr.cell? ⟨g, j, none⟩ = some x := fun j x hx => (hb.cell (p := ⟨g, j, none⟩) hg').trans (hc' j x hx)
      have p0 := cl _ _ x0
      have p1 := cl _ _ x1
      have p2 := cl _ _ x2
      have p3 := cl _ _ x3
      have p4 := cl _ _ x4
      have call := hkids ks[k] (List.getElem_mem hkl) wr T1 a b c d u (rexZ_frame _ _ _ (fun j hj => hb.block j (hS j (hs1 j hj).1)) hr1) (fun j hj => Nat.lt_of_lt_of_le (hS j (hs1 j hj).1) hb.size)
      have hlt := hV.lt
      have HT := rightZs_take hki
      rw [hrk, Bool.true_and] at HT
      obtain ⟨tk, htk⟩ : ∃ tk, tk = ks[k] := ⟨_, rfl⟩
      have hmem : tk ∈ ks := by rw [htk]; exact List.getElem_mem _
      rw [← htk] at call HT
      have hbk : (k : Int) < ks.length := by omega
      clear x0 x1 x2 x3 x4 hc' cl hr1 hs1 hx ho hki hkids htk
      rcases hB : rightZ tk with _ | _
      · rw [hB] at call HT
        have hfalse : Hid (OK = false) := by
          show OK = false
          rw [HOK.out]
          rcases hr : rightZs ks with _ | _
          · rfl
          · have := (rightZs_all ks).1 hr tk hmem
            rw [hB] at this
            cases this
        go_wp2_with fail
        refine call.mono ?_
        rintro e w2 ⟨rfl, hb2⟩
        go_wp2_with fail
        go_ret
        exact ⟨by rw [hfalse.out]; rfl, hb.trans (hb2.mono hb.size)⟩
      · rw [hB] at call HT
        have HT' : Hid (rightZs (ks.take (k + 1)) = true) := HT
        clear HT
        go_wp2_with fail
        refine call.mono ?_
        rintro e w2 ⟨rfl, hb2⟩
        go_wp2_with fail
        go_roundw
        case rel => exact ⟨k + 1, by omega, by go_num, HT'.out, hb.trans (hb2.mono hb.size), hV.kept (hb2.block _ hlt)⟩
        case measure => simp [intOf]; omega
    · obtain rfl : k = ks.length := by omega
      rw [List.take_length] at hrk
      have hOK2 : Hid (OK = okLab op cc s no ks.length) := by show _ = _; rw [HOK.out, hrk, Bool.true_and]
      clear hx ho hkids HOK hrk
      have hze : zs.toList = [] ↔ s.isEmpty = true := by
        rw [toList_nil, hzn]
        cases s with
        | nil => simp
        | cons a l => simp
      have hzu : upB zs = upB ⟨s.toArray⟩ := by rw [HZ.out]
      obtain ⟨B, hB⟩ : ∃ B, B = upB zs := ⟨_, rfl⟩
      rw [← hB] at hup hzu
      obtain ⟨kl, hkl'⟩ : ∃ kl, kl = ks.length := ⟨_, rfl⟩
      rw [← hkl'] at v4 hV hOK2 ⊢
      have hkI : (kl : Int) ≤ 100000 := by omega
      clear hB hkl' hkl hkn hzn hnI hsk hg
      have HSE : Hid (s.isEmpty = decide (zs.toList = [])) := by
        show _ = _
        rcases h : s.isEmpty with _ | _
        · rw [eq_comm, decide_eq_false_iff_not]
          intro e
          rw [hze.1 e] at h
          cases h
        · rw [eq_comm, decide_eq_true_iff]
          exact hze.2 h
      have HZU : Hid (upB ⟨s.toArray⟩ = B) := hzu.symm
      clear hze hzu
      go_upto_region 7 with fail
      obtain ⟨q1, q3, q6, q7, q8, q9, q10⟩ := hop
      by_cases d1 : 2 ≤ op <;> by_cases d2 : op ≤ 11 <;> first | (exfalso; omega) | skip
      all_goals
        by_cases c1 : cc = 0 <;> by_cases ze : zs.toList = [] <;> cases no <;> by_cases k0 : kl = 0 <;>
          (have hin := fun w => Mt.sWithin op 2 11 _ rfl w
           simp only [d1, d2, decide_true, decide_false, Bool.and_true, Bool.and_false] at hin
           go_wp2_with (first | (go_at_call 24; refine (hin _).mono ?_; rintro e wz ⟨rfl, hwz⟩; have hwz := hwz.symm; subst hwz))
           go_ret
           refine ⟨?_, hb⟩
           rw [hOK2.out]
           simp [okLab, HSE.out, q1, q3, q6, q7, q8, q9, q10, d1, d2, c1, ze, k0])

end Rx
end Go.Proofs.YtgdnlmaacnnfiaaGreatDoor

