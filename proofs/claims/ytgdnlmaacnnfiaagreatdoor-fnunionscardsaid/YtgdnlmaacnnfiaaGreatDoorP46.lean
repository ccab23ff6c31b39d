/-
  FnUnions at all bytes.
-/
import Derived.Test.YtgdnlmaacnnfiaaGreatDoorP38
import Derived.Test.YtgdnlmaacnnfiaaGreatDoorP45
namespace Go.Proofs.YtgdnlmaacnnfiaaGreatDoor
open Go.RowKit Go.Extern
namespace Un
set_option linter.unusedVariables false
open Rx Clo Mt

theorem un_big (sa : Option Addr) (len cap : Nat) (w : World) (h : (1048576 : Int) < len) :
    Calls Tryz.prog 4 #[.slice sa len cap] w fun e w' => e = .returned (.bool true) ∧ Below w.heap.size w w' := by
  have e1 : decide ((1048576 : Int) < len) = true := decide_eq_true h
  have e2 : decide (1048576 < len) = true := decide_eq_true (by omega)
  go_enter Tryz.func4, Tryz.ntmps4
  go_wp2_with (first | (go_at_call 5; go_in))
  all_goals first | (go_ret; exact ⟨rfl, Below.refl _ _⟩) | exact ⟨rfl, Below.refl _ _⟩

set_option maxHeartbeats 4000000 in
set_option maxRecDepth 100000 in
theorem lawUn (hP : Dr.ParseOk) (sa : Option Addr) (len cap : Nat) (ad : Addr) (w : World) (hl : len ≤ 1048576) (hSet : SetOk w) (he : ErrAt ad w) (hy : Bytes w.heap.size w sa len) :
    Calls Tryz.prog 4 #[.slice sa len cap] w fun e w' => e = .returned (.bool true) ∧ Below w.heap.size w w' := by
  have call1 := Dr.vDrawMatchTree hP sa len cap w.heap.size w (Nat.le_refl _) hl hy
  have e1 : decide ((1048576 : Int) < len) = false := decide_eq_false (by omega)
  have e2 : decide (1048576 < len) = false := decide_eq_false (by omega)
  go_enter Tryz.func4, Tryz.ntmps4
  go_upto_region 4 with (first | (go_at_call 5; go_in) | (go_at_call 6; refine call1.mono ?_; rintro e w1 ⟨op, c, s, no, ao, n, cp, txt, k, rfl, htx, hk0, hk1, ta, hza, hca, hxa, hb1⟩))
  clear call1 e1 e2
  obtain ⟨ba, hba⟩ : ∃ ba, ba = w1.heap.size := ⟨_, rfl⟩
  obtain ⟨wa, hwa⟩ : ∃ wa, wa = w1.alloc (.cells #[.int .i64 op, .int .i64 c, .string s, .bool no, .slice ao n cp] 26) := ⟨_, rfl⟩
  have hVa : Var wa ba (.int .i64 op) (.int .i64 c) (.string s) (.bool no) (.slice ao n cp) := by rw [hwa, hba]; exact heap_alloc_last _ _
  have hwas : wa.heap.size = ba + 1 := by rw [hwa, hba]; simp
  have hb1a : Below w1.heap.size w1 wa := by rw [hwa]; exact (Below.refl _ _).alloc (Nat.le_refl _) _
  have hba' : Below w.heap.size w wa := hb1.trans (hb1a.mono hb1.size)
  have call2 := Dr.vDrawMatchRex hP sa len cap w.heap.size wa hba'.size hl (hy.below hba')
  rw [← hwa, ← hba]
  have Hwa : Hid (wa = w1.alloc (.cells #[.int .i64 op, .int .i64 c, .string s, .bool no, .slice ao n cp] 26)) := hwa
  have Hba : Hid (ba = w1.heap.size) := hba
  have Hwas : Hid (wa.heap.size = ba + 1) := hwas
  clear hwa hba hwas
  go_upto_region 5 with (go_at_call 14; refine call2.mono ?_; rintro e w2 ⟨op', c', s', no', ao', n', cp', txt', rfl, htx', tb, hzb, hcb, hxb, hb2⟩)
  clear call2 hP hy hl
  obtain ⟨bb, hbb⟩ : ∃ bb, bb = w2.heap.size := ⟨_, rfl⟩
  obtain ⟨wb, hwb⟩ : ∃ wb, wb = w2.alloc (.cells #[.int .i64 op', .int .i64 c', .string s', .bool no', .slice ao' n' cp'] 26) := ⟨_, rfl⟩
  have hVb : Var wb bb (.int .i64 op') (.int .i64 c') (.string s') (.bool no') (.slice ao' n' cp') := by rw [hwb, hbb]; exact heap_alloc_last _ _
  have hb2b : Below w2.heap.size w2 wb := by rw [hwb]; exact (Below.refl _ _).alloc (Nat.le_refl _) _
  have hab : Below wa.heap.size wa wb := hb2.trans (hb2b.mono hb2.size)
  have hVa := hVa.kept (hab.block ba hVa.lt)
  have hwb' : Below w.heap.size w wb := hba'.trans (hab.mono hba'.size)
  have z1 := hb1.size
  have z2 := hb1a.size
  have z3 := hab.size
  have z4 := hb2b.size
  have z5 := hb2.size
  have hz6 := Hwas.out
  have hz7 := Hba.out
  have hxa := rexZ_frame _ _ _ (fun j hj => (hab.block j (by have := hj.2; omega)).trans (hb1a.block j hj.2)) hxa
  have hxb := rexZ_frame _ _ _ (fun j hj => hb2b.block j hj.2) hxb
  have hSa : ∀ j, Iv w.heap.size w1.heap.size j → j < wb.heap.size ∧ ¬ Iv wa.heap.size w2.heap.size j := fun j hj => ⟨by have := hj.2; omega, fun h => by have := hj.2; have := h.1; omega⟩
  have hSb : ∀ j, Iv wa.heap.size w2.heap.size j → j < wb.heap.size := fun j hj => by have := hj.2; omega
  rw [← hwb, ← hbb]
  clear hwb hbb hz6 hz7 Hwas Hba Hwa z1 z2 z3 z4 z5 hb1 hb1a hb2 hb2b hab hba'
  have bt : txt.size ≤ 1000 := by omega
  obtain ⟨X, HX⟩ : ∃ X, Hid (X = ends ta txt k) := ⟨_, rfl⟩
  obtain ⟨Y, HY⟩ : ∃ Y, Hid (Y = ends tb txt k) := ⟨_, rfl⟩
  have hXl : X.length ≤ 25 := by rw [HX.out]; have := ends_len ta txt k; omega
  have hYl : Y.length ≤ 25 := by rw [HY.out]; have := ends_len tb txt k; omega
  have cA : ∀ wx, Below wb.heap.size wb wx → Calls Tryz.prog 7 #[.agg #[.int .i64 op, .int .i64 c, .string s, .bool no, .slice ao n cp], .string txt, .int .i64 k] wx fun e w' => Tells X wx e w' := fun wx hb => by
    rw [HX.out]
    have hf := frameS hxa (fun j hj => (hSa j hj).1) hb
    exact iMatchAny hSet he hza (by omega) txt bt k wx (hwb'.trans (hb.mono hwb'.size)) _ _ _ _ _ _ hf.1 hf.2
  have sA : ∀ wx, Below wb.heap.size wb wx → Calls Tryz.prog 9 #[.agg #[.int .i64 op, .int .i64 c, .string s, .bool no, .slice ao n cp], .string txt, .int .i64 k] wx fun e w' => Tells X wx e w' := fun wx hb => by
    rw [HX.out]
    have hf := frameS hxa (fun j hj => (hSa j hj).1) hb
    exact sMatchAny hza (by omega) txt bt k wx _ _ _ _ _ _ hf.1 hf.2
  have cB : ∀ wx, Below wb.heap.size wb wx → Calls Tryz.prog 7 #[.agg #[.int .i64 op', .int .i64 c', .string s', .bool no', .slice ao' n' cp'], .string txt, .int .i64 k] wx fun e w' => Tells Y wx e w' := fun wx hb => by
    rw [HY.out]
    have hf := frameS hxb hSb hb
    exact iMatchAny hSet he hzb (by omega) txt bt k wx (hwb'.trans (hb.mono hwb'.size)) _ _ _ _ _ _ hf.1 hf.2
  have same : ∀ wx a a' p p', Nums wx a X → Nums wx a' X → Calls Tryz.prog 8 #[.slice a X.length p, .slice a' X.length p'] wx fun e w' => e = .returned (.bool true) ∧ ∃ m, w' = wx.drewN m := fun wx a a' p p' h1 h2 => lSameInts X (by omega) a a' p p' wx h1 h2
  have bA : ∀ wx, Below wb.heap.size wb wx → Var wx ba (.int .i64 op) (.int .i64 c) (.string s) (.bool no) (.slice ao n cp) := fun wx hb => hVa.kept (hb.block ba hVa.lt)
  have bB : ∀ wx, Below wb.heap.size wb wx → Var wx bb (.int .i64 op') (.int .i64 c') (.string s') (.bool no') (.slice ao' n' cp') := fun wx hb => hVb.kept (hb.block bb hVb.lt)
  obtain ⟨a0, a1, a2, a3, a4⟩ := hVa.cell
  have call5 := cA wb (Below.refl _ _)
  go_upto_region 6 with (go_at_call 7; refine call5.mono ?_; rintro e w3 ⟨ax, px, rfl, hNx, hb3⟩)
  clear call5 a0 a1 a2 a3 a4
  obtain ⟨a0, a1, a2, a3, a4⟩ := (bA w3 hb3).cell
  have call6 := sA w3 hb3
  go_upto_region 8 with (first | (go_at_call 9; refine call6.mono ?_; rintro e w4 ⟨ax', px', rfl, hNx', hb4⟩; have call7 := same w4 _ _ px px' (hNx.on hb4) hNx') | (go_at_call 8; refine call7.mono ?_; rintro e w5 ⟨rfl, m5, rfl⟩))
  obtain ⟨w5, hw5⟩ : ∃ w5, w5 = w4.drewN m5 := ⟨_, rfl⟩
  have hb5 : Below wb.heap.size wb w5 := by rw [hw5]; exact Rx.below_drewP (hb3.trans (hb4.mono hb3.size)) _
  have hN5 : Nums w5 ax X := by rw [hw5]; exact (hNx.on hb4).on (Rx.below_drewP (Below.refl _ _) _)
  rw [← hw5]
  clear hw5 hb3 hb4 hNx hNx' call6 call7 same sA a0 a1 a2 a3 a4
  obtain ⟨a0, a1, a2, a3, a4⟩ := (bA w5 hb5).cell
  obtain ⟨b0, b1, b2, b3, b4⟩ := (bB w5 hb5).cell
  go_upto_region 9 with fail
  obtain ⟨g1, hg1⟩ : ∃ g1, g1 = w5.heap.size := ⟨_, rfl⟩
  obtain ⟨q1, hq1⟩ : ∃ q1, q1 = w5.heap.size + 1 := ⟨_, rfl⟩
  obtain ⟨w5', hw5'⟩ : ∃ w5', w5' = w5.alloc (.cells #[.int .i64 op, .int .i64 c, .string s, .bool no, .slice ao n cp, .int .i64 op', .int .i64 c', .string s', .bool no', .slice ao' n' cp'] 26) := ⟨_, rfl⟩
  obtain ⟨w6, hw6⟩ : ∃ w6, w6 = w5'.alloc (.cells #[.int .i64 7, .int .i64 0, .string ⟨#[]⟩, .bool false, .slice (some ⟨g1, 0, none⟩) 2 2] 26) := ⟨_, rfl⟩
  have s5 : w5'.heap.size = w5.heap.size + 1 := by rw [hw5']; simp
  have hb5' : Below w5.heap.size w5 w5' := by rw [hw5']; exact (Below.refl _ _).alloc (Nat.le_refl _) _
  have hb56 : Below w5'.heap.size w5' w6 := by rw [hw6]; exact (Below.refl _ _).alloc (Nat.le_refl _) _
  have hbw6 : Below w5.heap.size w5 w6 := hb5'.trans (hb56.mono (by omega))
  have hb6 : Below wb.heap.size wb w6 := hb5.trans (hbw6.mono hb5.size)
  have hV6 : Var w6 q1 (.int .i64 7) (.int .i64 0) (.string ⟨#[]⟩) (.bool false) (.slice (some ⟨g1, 0, none⟩) 2 2) := by rw [hw6, hq1, ← s5]; exact heap_alloc_last _ _
  have fa5 := frameS hxa (fun j hj => (hSa j hj).1) hb5
  have fb5 := frameS hxb hSb hb5
  have hor : RexZ w5' (orOf ta tb) (fun j => Iv w.heap.size w1.heap.size j ∨ Iv wa.heap.size w2.heap.size j ∨ j = w5.heap.size) [.int .i64 7, .int .i64 0, .string ⟨#[]⟩, .bool false, .slice (some ⟨g1, 0, none⟩) 2 2] := by
    rw [hw5', hg1]
    exact rexZ_two 7 fa5.1 fb5.1 (fun j hj => ⟨fa5.2 j hj, (hSa j hj).2⟩) fb5.2
  have hSor : ∀ j, (Iv w.heap.size w1.heap.size j ∨ Iv wa.heap.size w2.heap.size j ∨ j = w5.heap.size) → j < w5'.heap.size := by
    rintro j (h | h | h)
    · have := fa5.2 j h; omega
    · have := fb5.2 j h; omega
    · omega
  have hor6 := frameS hor hSor hb56
  have hN6 := hN5.on hbw6
  rw [← hq1, ← hg1, ← hw5', ← hw6]
  clear a0 a1 a2 a3 a4 b0 b1 b2 b3 b4 hw6 hw5' hq1 hg1 s5 hor hSor hb5' hb56 hbw6 hN5 fb5 fa5 hb5
  obtain ⟨a0, a1, a2, a3, a4⟩ := (bA w6 hb6).cell
  go_upto_region 10 with fail
  obtain ⟨g2, hg2⟩ : ∃ g2, g2 = w6.heap.size := ⟨_, rfl⟩
  obtain ⟨q2, hq2⟩ : ∃ q2, q2 = w6.heap.size + 1 := ⟨_, rfl⟩
  obtain ⟨w6', hw6'⟩ : ∃ w6', w6' = w6.alloc (.cells #[.int .i64 op, .int .i64 c, .string s, .bool no, .slice ao n cp] 26) := ⟨_, rfl⟩
  obtain ⟨w7, hw7⟩ : ∃ w7, w7 = w6'.alloc (.cells #[.int .i64 8, .int .i64 0, .string ⟨#[]⟩, .bool false, .slice (some ⟨g2, 0, none⟩) 1 1] 26) := ⟨_, rfl⟩
  have s6 : w6'.heap.size = w6.heap.size + 1 := by rw [hw6']; simp
  have hbi : Below w6.heap.size w6 w6' := by rw [hw6']; exact (Below.refl _ _).alloc (Nat.le_refl _) _
  have hbo : Below w6'.heap.size w6' w7 := by rw [hw7]; exact (Below.refl _ _).alloc (Nat.le_refl _) _
  have hbbst : Below w6.heap.size w6 w7 := hbi.trans (hbo.mono (by omega))
  have hb7 : Below wb.heap.size wb w7 := hb6.trans (hbbst.mono hb6.size)
  have hV7 : Var w7 q2 (.int .i64 8) (.int .i64 0) (.string ⟨#[]⟩) (.bool false) (.slice (some ⟨g2, 0, none⟩) 1 1) := by rw [hw7, hq2, ← s6]; exact heap_alloc_last _ _
  have fa6 := frameS hxa (fun j hj => (hSa j hj).1) hb6
  have hst : RexZ w6' (starOf ta) (fun j => Iv w.heap.size w1.heap.size j ∨ j = w6.heap.size) [.int .i64 8, .int .i64 0, .string ⟨#[]⟩, .bool false, .slice (some ⟨g2, 0, none⟩) 1 1] := by
    rw [hw6', hg2]
    exact rexZ_wrap 8 fa6.1 fa6.2
  have hSst : ∀ j, (Iv w.heap.size w1.heap.size j ∨ j = w6.heap.size) → j < w6'.heap.size := by
    rintro j (h | h)
    · have := fa6.2 j h; omega
    · omega
  have hst7 := frameS hst hSst hbo
  have hN7 := hN6.on hbbst
  rw [← hq2, ← hg2, ← hw6', ← hw7]
  clear a0 a1 a2 a3 a4 hw7 hw6' hq2 hg2 s6 hst hSst hbi hbo hN6 fa6 hb6
  obtain ⟨a0, a1, a2, a3, a4⟩ := (bA w7 hb7).cell
  go_upto_region 11 with fail
  obtain ⟨g3, hg3⟩ : ∃ g3, g3 = w7.heap.size := ⟨_, rfl⟩
  obtain ⟨q3, hq3⟩ : ∃ q3, q3 = w7.heap.size + 1 := ⟨_, rfl⟩
  obtain ⟨w7', hw7'⟩ : ∃ w7', w7' = w7.alloc (.cells #[.int .i64 op, .int .i64 c, .string s, .bool no, .slice ao n cp] 26) := ⟨_, rfl⟩
  obtain ⟨w8, hw8⟩ : ∃ w8, w8 = w7'.alloc (.cells #[.int .i64 9, .int .i64 0, .string ⟨#[]⟩, .bool false, .slice (some ⟨g3, 0, none⟩) 1 1] 26) := ⟨_, rfl⟩
  have s7 : w7'.heap.size = w7.heap.size + 1 := by rw [hw7']; simp
  have hbi : Below w7.heap.size w7 w7' := by rw [hw7']; exact (Below.refl _ _).alloc (Nat.le_refl _) _
  have hbo : Below w7'.heap.size w7' w8 := by rw [hw8]; exact (Below.refl _ _).alloc (Nat.le_refl _) _
  have hbbpl : Below w7.heap.size w7 w8 := hbi.trans (hbo.mono (by omega))
  have hb8 : Below wb.heap.size wb w8 := hb7.trans (hbbpl.mono hb7.size)
  have hV8 : Var w8 q3 (.int .i64 9) (.int .i64 0) (.string ⟨#[]⟩) (.bool false) (.slice (some ⟨g3, 0, none⟩) 1 1) := by rw [hw8, hq3, ← s7]; exact heap_alloc_last _ _
  have fa7 := frameS hxa (fun j hj => (hSa j hj).1) hb7
  have hpl : RexZ w7' (plusOf ta) (fun j => Iv w.heap.size w1.heap.size j ∨ j = w7.heap.size) [.int .i64 9, .int .i64 0, .string ⟨#[]⟩, .bool false, .slice (some ⟨g3, 0, none⟩) 1 1] := by
    rw [hw7', hg3]
    exact rexZ_wrap 9 fa7.1 fa7.2
  have hSpl : ∀ j, (Iv w.heap.size w1.heap.size j ∨ j = w7.heap.size) → j < w7'.heap.size := by
    rintro j (h | h)
    · have := fa7.2 j h; omega
    · omega
  have hpl8 := frameS hpl hSpl hbo
  have hN8 := hN7.on hbbpl
  rw [← hq3, ← hg3, ← hw7', ← hw8]
  clear a0 a1 a2 a3 a4 hw8 hw7' hq3 hg3 s7 hpl hSpl hbi hbo hN7 fa7 hb7
  have hor8 := frameS hor6.1 hor6.2 (hbbst.trans (hbbpl.mono hbbst.size))
  have hst8 := frameS hst7.1 hst7.2 hbbpl
  have hV1 := hV6.kept ((hbbst.trans (hbbpl.mono hbbst.size)).block q1 hV6.lt)
  have hV2 := hV7.kept (hbbpl.block q2 hV7.lt)
  clear hor6 hst7 hbbst hbbpl hV6 hV7
  have hzor := setsZ_or hza hzb
  have hzst := setsZ_star hza
  have hzpl := setsZ_plus hza
  have hcor : cnt (orOf ta tb) ≤ 1000 := by unfold orOf; rw [Dr.cnt_z]; simp [Rx.cnts]; omega
  have hcst : cnt (starOf ta) ≤ 1000 := by unfold starOf; rw [Dr.cnt_z]; simp [Rx.cnts]; omega
  have hcpl : cnt (plusOf ta) ≤ 1000 := by unfold plusOf; rw [Dr.cnt_z]; simp [Rx.cnts]; omega
  have hw8 : Below w.heap.size w w8 := hwb'.trans (hb8.mono hwb'.size)
  have up8 : ∀ wx, Below w8.heap.size w8 wx → Below w.heap.size w wx := fun wx hb => hw8.trans (hb.mono hw8.size)
  have okOr : ∀ wx, Below w8.heap.size w8 wx → Calls Tryz.prog 11 #[.agg #[.int .i64 7, .int .i64 0, .string ⟨#[]⟩, .bool false, .slice (some ⟨g1, 0, none⟩) 2 2]] wx fun e w' => e = .returned (.bool (okB (orOf ta tb))) ∧ Below wx.heap.size wx w' := fun wx hb =>
    iRexOkAny hSet he hzor hcor wx (up8 wx hb) _ _ _ _ _ _ (frameS hor8.1 hor8.2 hb).1 (frameS hor8.1 hor8.2 hb).2
  have okStar : ∀ wx, Below w8.heap.size w8 wx → Calls Tryz.prog 11 #[.agg #[.int .i64 8, .int .i64 0, .string ⟨#[]⟩, .bool false, .slice (some ⟨g2, 0, none⟩) 1 1]] wx fun e w' => e = .returned (.bool (okB (starOf ta))) ∧ Below wx.heap.size wx w' := fun wx hb =>
    iRexOkAny hSet he hzst hcst wx (up8 wx hb) _ _ _ _ _ _ (frameS hst8.1 hst8.2 hb).1 (frameS hst8.1 hst8.2 hb).2
  obtain ⟨XO, HO⟩ : ∃ XO, Hid (XO = ends (orOf ta tb) txt k) := ⟨_, rfl⟩
  obtain ⟨XS, HS⟩ : ∃ XS, Hid (XS = ends (starOf ta) txt k) := ⟨_, rfl⟩
  obtain ⟨XP, HP⟩ : ∃ XP, Hid (XP = ends (plusOf ta) txt k) := ⟨_, rfl⟩
  have cOr : ∀ wx, Below w8.heap.size w8 wx → Calls Tryz.prog 7 #[.agg #[.int .i64 7, .int .i64 0, .string ⟨#[]⟩, .bool false, .slice (some ⟨g1, 0, none⟩) 2 2], .string txt, .int .i64 k] wx fun e w' => Tells XO wx e w' := fun wx hb => by
    rw [HO.out]
    exact iMatchAny hSet he hzor hcor txt bt k wx (up8 wx hb) _ _ _ _ _ _ (frameS hor8.1 hor8.2 hb).1 (frameS hor8.1 hor8.2 hb).2
  have cStar : ∀ wx, Below w8.heap.size w8 wx → Calls Tryz.prog 7 #[.agg #[.int .i64 8, .int .i64 0, .string ⟨#[]⟩, .bool false, .slice (some ⟨g2, 0, none⟩) 1 1], .string txt, .int .i64 k] wx fun e w' => Tells XS wx e w' := fun wx hb => by
    rw [HS.out]
    exact iMatchAny hSet he hzst hcst txt bt k wx (up8 wx hb) _ _ _ _ _ _ (frameS hst8.1 hst8.2 hb).1 (frameS hst8.1 hst8.2 hb).2
  have cPlus : ∀ wx, Below w8.heap.size w8 wx → Calls Tryz.prog 7 #[.agg #[.int .i64 9, .int .i64 0, .string ⟨#[]⟩, .bool false, .slice (some ⟨g3, 0, none⟩) 1 1], .string txt, .int .i64 k] wx fun e w' => Tells XP wx e w' := fun wx hb => by
    rw [HP.out]
    exact iMatchAny hSet he hzpl hcpl txt bt k wx (up8 wx hb) _ _ _ _ _ _ (frameS hpl8.1 hpl8.2 hb).1 (frameS hpl8.1 hpl8.2 hb).2
  have b1' : ∀ wx, Below w8.heap.size w8 wx → Var wx q1 (.int .i64 7) (.int .i64 0) (.string ⟨#[]⟩) (.bool false) (.slice (some ⟨g1, 0, none⟩) 2 2) := fun wx hb => hV1.kept (hb.block q1 hV1.lt)
  have b2' : ∀ wx, Below w8.heap.size w8 wx → Var wx q2 (.int .i64 8) (.int .i64 0) (.string ⟨#[]⟩) (.bool false) (.slice (some ⟨g2, 0, none⟩) 1 1) := fun wx hb => hV2.kept (hb.block q2 hV2.lt)
  have b3' : ∀ wx, Below w8.heap.size w8 wx → Var wx q3 (.int .i64 9) (.int .i64 0) (.string ⟨#[]⟩) (.bool false) (.slice (some ⟨g3, 0, none⟩) 1 1) := fun wx hb => hV8.kept (hb.block q3 hV8.lt)
  have upb : ∀ wx, Below w8.heap.size w8 wx → Below wb.heap.size wb wx := fun wx hb => hb8.trans (hb.mono hb8.size)
  have hwr := up8 w8 (Below.refl _ _)
  have call11 := okOr w8 (Below.refl _ _)
  obtain ⟨o0, o1, o2, o3, o4⟩ := (b1' w8 (Below.refl _ _)).cell
  clear hVa hVb hxa hxb hSa hSb hzor hzst hzpl hcor hcst hcpl hor8 hst8 hpl8 hV1 hV2 hV8 hwb' cA hza hzb hca hcb htx'
  cases hor : okB (orOf ta tb) with
  | false =>
    rw [hor] at call11
    clear hor
    go_wp2_with (go_at_call 11; refine call11.mono ?_; rintro e w9 ⟨rfl, hb9⟩)
    go_ret
    exact ⟨rfl, up8 _ hb9⟩
  | true =>
    rw [hor] at call11
    have hRor := okB_iff.1 hor
    clear hor
    cases hst : okB (starOf ta) with
    | false =>
      rw [hst] at okStar
      clear hst
      go_wp2_with (first | (go_at_call 11; with_reducible refine call11.mono ?_; rintro e w9 ⟨rfl, hb9⟩; obtain ⟨p0, p1, p2, p3, p4⟩ := (b2' w9 hb9).cell; have call12 := okStar w9 hb9) | (go_at_call 11; with_reducible refine call12.mono ?_; rintro e w10 ⟨rfl, hb10⟩))
      go_ret
      exact ⟨rfl, up8 _ (hb9.trans (hb10.mono hb9.size))⟩
    | true =>
      rw [hst] at okStar
      have hRst := okB_iff.1 hst
      clear hst
      by_cases hk : 0 ≤ k ∧ k ≤ (txt.size : Int)
      · obtain ⟨hkl, hkh⟩ := hk
        have d1 : decide (k < 0) = false := decide_eq_false (by omega)
        have d2 : decide ((txt.size : Int) < k) = false := decide_eq_false (by omega)
        go_upto_region 13 with (first | (go_at_call 11; with_reducible refine call11.mono ?_; rintro e w9 ⟨rfl, hb9⟩; obtain ⟨p0, p1, p2, p3, p4⟩ := (b2' w9 hb9).cell; have call12 := okStar w9 hb9) | (go_at_call 11; with_reducible refine call12.mono ?_; rintro e w10 ⟨rfl, hb10⟩))
        have hbt : Below w8.heap.size w8 w10 := hb9.trans (hb10.mono hb9.size)
        clear hb9 hb10 call11 call12 okOr okStar o0 o1 o2 o3 o4 p0 p1 p2 p3 p4
        obtain ⟨o0, o1, o2, o3, o4⟩ := (b1' w10 hbt).cell
        have call13 := cOr w10 hbt
        go_upto_region 14 with (go_at_call 7; refine call13.mono ?_; rintro e w11 ⟨aO, pO, rfl, hNO, hb11⟩)
        have hbt1 : Below w8.heap.size w8 w11 := hbt.trans (hb11.mono hbt.size)
        clear o0 o1 o2 o3 o4 call13
        obtain ⟨o0, o1, o2, o3, o4⟩ := (bB w11 (upb _ hbt1)).cell
        have call14 := cB w11 (upb _ hbt1)
        go_upto_region 15 with (go_at_call 7; refine call14.mono ?_; rintro e w12 ⟨aY, pY, rfl, hNY, hb12⟩)
        have hbt2 : Below w8.heap.size w8 w12 := hbt1.trans (hb12.mono hbt1.size)
        clear o0 o1 o2 o3 o4 call14
        obtain ⟨o0, o1, o2, o3, o4⟩ := (b2' w12 hbt2).cell
        have call15 := cStar w12 hbt2
        go_upto_region 16 with (go_at_call 7; refine call15.mono ?_; rintro e w13 ⟨aS, pS, rfl, hNS, hb13⟩)
        have hbt3 : Below w8.heap.size w8 w13 := hbt2.trans (hb13.mono hbt2.size)
        clear o0 o1 o2 o3 o4 call15
        obtain ⟨o0, o1, o2, o3, o4⟩ := (b3' w13 hbt3).cell
        have call16 := cPlus w13 hbt3
        go_upto_region 17 with (go_at_call 7; refine call16.mono ?_; rintro e w14 ⟨aP, pP, rfl, hNP, hb14⟩)
        have hbt4 : Below w8.heap.size w8 w14 := hbt3.trans (hb14.mono hbt3.size)
        have hNX4 : Nums w14 ax X := hN8.on hbt4
        have hNO4 : Nums w14 aO XO := ((hNO.on hb12).on hb13).on hb14
        have hNY4 : Nums w14 aY Y := (hNY.on hb13).on hb14
        have hNS4 : Nums w14 aS XS := hNS.on hb14
        have hOl : (XO.length : Int) ≤ 100000 := by rw [HO.out]; have := ends_len (orOf ta tb) txt k; omega
        have hSl : (XS.length : Int) ≤ 100000 := by rw [HS.out]; have := ends_len (starOf ta) txt k; omega
        have hPl : (XP.length : Int) ≤ 100000 := by rw [HP.out]; have := ends_len (plusOf ta) txt k; omega
        have hXl' : (X.length : Int) ≤ 100000 := by omega
        have hYl' : (Y.length : Int) ≤ 100000 := by omega
        have Hbel : Hid (Below w.heap.size w w14) := up8 _ hbt4
        have lawO : ∀ i : Nat, i ≤ txt.size → XO.contains (i : Int) = (X.contains (i : Int) || Y.contains (i : Int)) := fun i hi => by rw [HO.out, HX.out, HY.out]; exact law_or hRor hkl hkh i hi
        have lawS : ∀ i : Nat, i ≤ txt.size → XS.contains (i : Int) = (XP.contains (i : Int) || decide ((i : Int) = k)) := fun i hi => by rw [HS.out, HP.out]; exact law_star hRst hkl hkh i hi
        have lawP : ∀ i : Nat, i ≤ txt.size → X.contains (i : Int) = true → XP.contains (i : Int) = true := fun i hi h => by rw [HP.out]; rw [HX.out] at h; exact law_once (right_or hRor).1 hRst hkl hkh i hi h
        have HlawO : Hid (∀ i : Nat, i ≤ txt.size → XO.contains (i : Int) = (X.contains (i : Int) || Y.contains (i : Int))) := lawO
        have HlawS : Hid (∀ i : Nat, i ≤ txt.size → XS.contains (i : Int) = (XP.contains (i : Int) || decide ((i : Int) = k))) := lawS
        have HlawP : Hid (∀ i : Nat, i ≤ txt.size → X.contains (i : Int) = true → XP.contains (i : Int) = true) := lawP
        have cwO := fun i => lWithin XO hOl aO pO i w14 hNO4
        have cwX := fun i => lWithin X hXl' ax px i w14 hNX4
        have cwY := fun i => lWithin Y hYl' aY pY i w14 hNY4
        have cwS := fun i => lWithin XS hSl aS pS i w14 hNS4
        have cwP := fun i => lWithin XP hPl aP pP i w14 hNP
        have htx2 : txt.size ≤ 24 := by omega
        clear o0 o1 o2 o3 o4 call16 hbt hbt1 hbt2 hbt3 hbt4 hb11 hb12 hb13 hb14 hNO hNY hNS hNP hN8 hNX4 hNO4 hNY4 hNS4 lawO lawS lawP cOr cStar cPlus cB b1' b2' b3' bA bB upb up8 hwr hw8 hRor hRst hSet he HX HY HO HS HP hb8 hXl hYl hOl hSl hPl hXl' hYl' bt d1 d2
        go_wp2_with fail
        go_loopw [16] (fun i wr => ∃ j : Nat, i = .int .i64 j ∧ j ≤ txt.size + 1 ∧ wr = w14) (fun i _ => txt.size + 1 - (intOf i).toNat)
        case atStart => exact ⟨0, rfl, Nat.zero_le _, rfl⟩
        case round =>
          obtain ⟨j, rfl, hj, rfl⟩ := hrel
          have hjI : (j : Int) ≤ (txt.size : Int) + 1 := by omega
          by_cases hjt : j ≤ txt.size
          · have hjt' : (j : Int) ≤ txt.size := by omega
            have e1 := HlawO.out j hjt
            have e2 := HlawS.out j hjt
            have e3 := HlawP.out j hjt
            have cO := cwO j
            have cX := cwX j
            have cY := cwY j
            have cS := cwS j
            have cP := cwP j
            rw [e1] at cO
            rw [e2] at cS
            clear e1 e2 cwO cwX cwY cwS cwP HlawO HlawS HlawP
            by_cases hjk : (j : Int) = k
            · have hd : decide ((j : Int) = k) = true := decide_eq_true hjk
              have hd2 : ((j : Int) == k) = true := by simp [hjk]
              rw [hd] at cS
              clear hd hjk
              generalize X.contains (j : Int) = bx at cX cO e3
              generalize Y.contains (j : Int) = bq at cY cO
              generalize XP.contains (j : Int) = bp at cP cS e3
              cases bx <;> cases bq <;> cases bp
              all_goals first
                | exact Bool.noConfusion (show false = true from e3 rfl)
                | (simp only [Bool.or_true, Bool.or_false] at cO cS
                   clear e3
                   go_wp2_with (first | (go_at_call 15; with_reducible refine cO.mono ?_; rintro e w15 ⟨rfl, hw⟩; have hw := hw.symm; subst hw) | (go_at_call 15; with_reducible refine cX.mono ?_; rintro e w15 ⟨rfl, hw⟩; have hw := hw.symm; subst hw) | (go_at_call 15; with_reducible refine cY.mono ?_; rintro e w15 ⟨rfl, hw⟩; have hw := hw.symm; subst hw) | (go_at_call 15; with_reducible refine cS.mono ?_; rintro e w15 ⟨rfl, hw⟩; have hw := hw.symm; subst hw) | (go_at_call 15; with_reducible refine cP.mono ?_; rintro e w15 ⟨rfl, hw⟩; have hw := hw.symm; subst hw))
                   go_roundw
                   case rel => exact ⟨j + 1, by go_num, by omega, by first | rfl | trivial⟩
                   case measure => simp [intOf]; omega)
            · have hd : decide ((j : Int) = k) = false := decide_eq_false hjk
              have hd2 : ((j : Int) == k) = false := by simp [hjk]
              rw [hd] at cS
              clear hd hjk
              generalize X.contains (j : Int) = bx at cX cO e3
              generalize Y.contains (j : Int) = bq at cY cO
              generalize XP.contains (j : Int) = bp at cP cS e3
              cases bx <;> cases bq <;> cases bp
              all_goals first
                | exact Bool.noConfusion (show false = true from e3 rfl)
                | (simp only [Bool.or_true, Bool.or_false] at cO cS
                   clear e3
                   go_wp2_with (first | (go_at_call 15; with_reducible refine cO.mono ?_; rintro e w15 ⟨rfl, hw⟩; have hw := hw.symm; subst hw) | (go_at_call 15; with_reducible refine cX.mono ?_; rintro e w15 ⟨rfl, hw⟩; have hw := hw.symm; subst hw) | (go_at_call 15; with_reducible refine cY.mono ?_; rintro e w15 ⟨rfl, hw⟩; have hw := hw.symm; subst hw) | (go_at_call 15; with_reducible refine cS.mono ?_; rintro e w15 ⟨rfl, hw⟩; have hw := hw.symm; subst hw) | (go_at_call 15; with_reducible refine cP.mono ?_; rintro e w15 ⟨rfl, hw⟩; have hw := hw.symm; subst hw))
                   go_roundw
                   case rel => exact ⟨j + 1, by go_num, by omega, by first | rfl | trivial⟩
                   case measure => simp [intOf]; omega)
          · obtain rfl : j = txt.size + 1 := by omega
            have d : decide ((txt.size : Int) + 1 ≤ txt.size) = false := decide_eq_false (by omega)
            clear cwO cwX cwY cwS cwP HlawO HlawS HlawP
            go_wp2_with fail
            go_ret
            exact ⟨rfl, Hbel.out⟩
      · by_cases hkl : k < 0
        · have d1 : decide (k < 0) = true := decide_eq_true hkl
          go_wp2_with (first | (go_at_call 11; with_reducible refine call11.mono ?_; rintro e w9 ⟨rfl, hb9⟩; obtain ⟨p0, p1, p2, p3, p4⟩ := (b2' w9 hb9).cell; have call12 := okStar w9 hb9) | (go_at_call 11; with_reducible refine call12.mono ?_; rintro e w10 ⟨rfl, hb10⟩))
          go_ret
          exact ⟨rfl, up8 _ (hb9.trans (hb10.mono hb9.size))⟩
        · have d1 : decide (k < 0) = false := decide_eq_false (by omega)
          have d2 : decide ((txt.size : Int) < k) = true := decide_eq_true (by omega)
          go_wp2_with (first | (go_at_call 11; with_reducible refine call11.mono ?_; rintro e w9 ⟨rfl, hb9⟩; obtain ⟨p0, p1, p2, p3, p4⟩ := (b2' w9 hb9).cell; have call12 := okStar w9 hb9) | (go_at_call 11; with_reducible refine call12.mono ?_; rintro e w10 ⟨rfl, hb10⟩))
          go_ret
          exact ⟨rfl, up8 _ (hb9.trans (hb10.mono hb9.size))⟩

theorem lawAll (sa : Option Addr) (len cap : Nat) (a : Addr) (m : Int) (w : World) (hP : Dr.ParseOk) (hc : w.cell? ⟨0, 0, none⟩ = some (.iface 183 (.pointer (some a))))
    (hm : w.cell? ⟨1, 0, none⟩ = some (.int .i64 m)) (hy : Bytes w.heap.size w sa len) :
    Calls Tryz.prog 4 #[.slice sa len cap] w fun e w' => e = .returned (.bool true) ∧ Below w.heap.size w w' := by
  by_cases h : len ≤ 1048576
  · exact lawUn hP sa len cap a w h (setOk hm) hc hy
  · exact un_big sa len cap w (by omega)

end Un
end Go.Proofs.YtgdnlmaacnnfiaaGreatDoor

