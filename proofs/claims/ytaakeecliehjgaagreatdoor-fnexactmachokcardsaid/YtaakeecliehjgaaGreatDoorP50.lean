/-
  The law FnExactMachOk, at every program and every Mach.
-/
import Derived.Test.YtaakeecliehjgaaGreatDoorP46
import Derived.Test.YtaakeecliehjgaaGreatDoorP49
namespace Go.Proofs.YtaakeecliehjgaaGreatDoor
open Go.RowKit
namespace Mh
open Pg (RdI PSm PRd PRows)
open St (Vl Cl RdV RdC SmC)
open Oc (hold heap_new Blk)

theorem PRows.below {W w : World} {g1 g2 g3 g4 : Nat} {vars cells : List ByteArray} {st mn : List Vl} (h : PRows W g1 g2 g3 g4 vars cells st mn) (hb : Below W.heap.size W w) : PRows w g1 g2 g3 g4 vars cells st mn :=
  ⟨h.vs.kept (hb.block _ h.vs.lt), h.cs.kept (hb.block _ h.cs.lt), h.ss.kept (hb.block _ h.ss.lt), h.ms.kept (hb.block _ h.ms.lt)⟩

set_option maxHeartbeats 8000000 in
set_option maxRecDepth 100000 in
theorem lawMachOk {va ca sa ma a b c : Option Addr} {vc cc sc mc xa xb xc : Nat} {vars cells : List ByteArray} {st mn vs : List Vl} {cs : List Cl} {dn : List Int} {nr er : Int} {out : ByteArray} {ad bd : Addr} {w : World} (hS : Oc.Sn w ad bd) (hR : PRd w va ca sa ma vars cells st mn) (nv : vars.length ≤ maxLen) (nc : cells.length ≤ maxLen) (ns : st.length ≤ maxLen) (nm : mn.length ≤ maxLen) (hM : MRd w a b c vs cs dn) (m1 : vs.length ≤ maxLen) (m2 : cs.length ≤ maxLen) (m3 : dn.length ≤ maxLen) (m4 : out.size ≤ maxLen) :
    Calls Tryz.prog 3 #[.agg #[.slice va vars.length vc, .slice ca cells.length cc, .slice sa st.length sc, .slice ma mn.length mc], .agg #[.slice a vs.length xa, .slice b cs.length xb, .int .i64 nr, .int .i64 er, .slice c dn.length xc, .string out]] w fun e w' => e = .returned (.bool true) ∧ Below w.heap.size w w' := by
  obtain ⟨W0, hW0⟩ : ∃ W0, W0 = (w.alloc (.cells #[.slice va vars.length vc, .slice ca cells.length cc, .slice sa st.length sc, .slice ma mn.length mc] 25)).alloc (.cells #[.slice a vs.length xa, .slice b cs.length xb, .int .i64 nr, .int .i64 er, .slice c dn.length xc, .string out] 32) := ⟨_, rfl⟩
  have HK0 : Hid (Below w.heap.size w W0 ∧ Blk 25 W0 w.heap.size [.slice va vars.length vc, .slice ca cells.length cc, .slice sa st.length sc, .slice ma mn.length mc] ∧ Blk 32 W0 (w.heap.size + 1) [.slice a vs.length xa, .slice b cs.length xb, .int .i64 nr, .int .i64 er, .slice c dn.length xc, .string out]) := by
    have k1 := Blk.new 32 (w.alloc (.cells #[.slice va vars.length vc, .slice ca cells.length cc, .slice sa st.length sc, .slice ma mn.length mc] 25)) [.slice a vs.length xa, .slice b cs.length xb, .int .i64 nr, .int .i64 er, .slice c dn.length xc, .string out]
    rw [World.size_alloc] at k1
    rw [hW0]
    exact ⟨((Below.refl _ w).alloc (Nat.le_refl _) _).alloc (by simp) _, (Blk.new _ _ _).alloc _, k1⟩
  have CSZ : Hid (∀ w', Below w.heap.size w w' → Calls Tryz.prog 4 #[.agg #[.slice va vars.length vc, .slice ca cells.length cc, .slice sa st.length sc, .slice ma mn.length mc], .int .i64 1048576] w' fun e w'' => ∃ z, e = .returned (.int .i64 z) ∧ -1 ≤ z ∧ z ≤ 1048576 ∧ (z < 0 ∨ PSm vars cells st mn) ∧ Below w'.heap.size w' w'') := fun w' h => Pg.lSzProgZ (hR.below h) nv nc ns nm
  have CSM : Hid (∀ w', Below w.heap.size w w' → ∀ l, 0 ≤ l → l ≤ 1048576 → Calls Tryz.prog 5 #[.agg #[.slice a vs.length xa, .slice b cs.length xb, .int .i64 nr, .int .i64 er, .slice c dn.length xc, .string out], .int .i64 l] w' fun e w'' => ∃ z, e = .returned (.int .i64 z) ∧ (z < 0 ∨ MSm vs cs dn out) ∧ Below w'.heap.size w' w'') := fun w' h l h0 h1 => lSzMach h0 h1 (hM.below h) m1 m2 m3 m4
  have CTP : Hid (PSm vars cells st mn → ∀ w', Below w.heap.size w w' → Calls Tryz.prog 7 #[.agg #[.slice va vars.length vc, .slice ca cells.length cc, .slice sa st.length sc, .slice ma mn.length mc]] w' fun e w'' => ∃ g1 g2 g3 g4, e = .returned (.agg #[.slice (some ⟨g1, 0, none⟩) vars.length vars.length, .slice (some ⟨g2, 0, none⟩) cells.length cells.length, .slice (some ⟨g3, 0, none⟩) st.length st.length, .slice (some ⟨g4, 0, none⟩) mn.length mn.length]) ∧ PRows w'' g1 g2 g3 g4 vars cells st mn ∧ Below w'.heap.size w' w'') := fun hm w' h => Pg.lToProg (hR.below h) hm
  have CTM : Hid (MSm vs cs dn out → ∀ w', Below w.heap.size w w' → Calls Tryz.prog 8 #[.agg #[.slice a vs.length xa, .slice b cs.length xb, .int .i64 nr, .int .i64 er, .slice c dn.length xc, .string out]] w' fun e w'' => ∃ h1 h2 h3, e = .returned (.agg #[.slice (some ⟨h1, 0, none⟩) vs.length vs.length, .slice (some ⟨h2, 0, none⟩) cs.length cs.length, .int .i64 nr, .int .i64 er, .slice (some ⟨h3, 0, none⟩) dn.length dn.length, .string out]) ∧ MRows w'' h1 h2 h3 vs cs dn ∧ Below w'.heap.size w' w'') := fun hm w' h => lToMach (hM.below h) hm
  have HSn : Hid (Oc.Sn w ad bd) := hS
  clear hS hR nv nc ns nm hM m1 m2 m3 m4
  go_enter Tryz.func3, Tryz.ntmps3
  go_wp2_with (go_at_call 4; refine hold ?_)
  rw [← hW0]
  clear hW0
  refine Calls.mono (CSZ.out _ HK0.out.1) ?_
  clear CSZ
  rintro e w1 ⟨z, rfl, z0, z1, hz, hb1⟩
  have HK1 : Hid (Below w.heap.size w w1 ∧ Blk 25 w1 w.heap.size [.slice va vars.length vc, .slice ca cells.length cc, .slice sa st.length sc, .slice ma mn.length mc] ∧ Blk 32 w1 (w.heap.size + 1) [.slice a vs.length xa, .slice b cs.length xb, .int .i64 nr, .int .i64 er, .slice c dn.length xc, .string out]) := ⟨HK0.out.1.trans (hb1.mono HK0.out.1.size), HK0.out.2.1.below hb1, HK0.out.2.2.below hb1⟩
  have HZ : Hid (z < 0 ∨ PSm vars cells st mn) := hz
  have y0 := HK1.out.2.2.cell 0 rfl
  have y1 := HK1.out.2.2.cell 1 rfl
  have y2 := HK1.out.2.2.cell 2 rfl
  have y3 := HK1.out.2.2.cell 3 rfl
  have y4 := HK1.out.2.2.cell 4 rfl
  have y5 := HK1.out.2.2.cell 5 rfl
  clear hb1 HK0 hz
  go_wp2_with (go_at_call 5; refine hold ?_)
  · go_ret
    exact ⟨rfl, HK1.out.1⟩
  refine Calls.mono (CSM.out _ HK1.out.1 _ (by omega) (by omega)) ?_
  clear CSM
  rintro e w2 ⟨u, rfl, hu, hb2⟩
  have HK2 : Hid (Below w.heap.size w w2 ∧ Blk 25 w2 w.heap.size [.slice va vars.length vc, .slice ca cells.length cc, .slice sa st.length sc, .slice ma mn.length mc] ∧ Blk 32 w2 (w.heap.size + 1) [.slice a vs.length xa, .slice b cs.length xb, .int .i64 nr, .int .i64 er, .slice c dn.length xc, .string out]) := ⟨HK1.out.1.trans (hb2.mono HK1.out.1.size), HK1.out.2.1.below hb2, HK1.out.2.2.below hb2⟩
  have HU : Hid (u < 0 ∨ MSm vs cs dn out) := hu
  have HM : Hid (PSm vars cells st mn) := HZ.out.resolve_left (by omega)
  clear y0 y1 y2 y3 y4 y5 hb2 HK1 hu HZ z0 z1
  by_cases hu : u < 0
  · go_wp2_with fail
    go_ret
    exact ⟨rfl, HK2.out.1⟩
  have HO : Hid (MSm vs cs dn out) := HU.out.resolve_left hu
  have ctp : Hid (∀ w', Below w.heap.size w w' → Calls Tryz.prog 7 #[.agg #[.slice va vars.length vc, .slice ca cells.length cc, .slice sa st.length sc, .slice ma mn.length mc]] w' fun e w'' => ∃ g1 g2 g3 g4, e = .returned (.agg #[.slice (some ⟨g1, 0, none⟩) vars.length vars.length, .slice (some ⟨g2, 0, none⟩) cells.length cells.length, .slice (some ⟨g3, 0, none⟩) st.length st.length, .slice (some ⟨g4, 0, none⟩) mn.length mn.length]) ∧ PRows w'' g1 g2 g3 g4 vars cells st mn ∧ Below w'.heap.size w' w'') := CTP.out HM.out
  have ctm : Hid (∀ w', Below w.heap.size w w' → Calls Tryz.prog 8 #[.agg #[.slice a vs.length xa, .slice b cs.length xb, .int .i64 nr, .int .i64 er, .slice c dn.length xc, .string out]] w' fun e w'' => ∃ h1 h2 h3, e = .returned (.agg #[.slice (some ⟨h1, 0, none⟩) vs.length vs.length, .slice (some ⟨h2, 0, none⟩) cs.length cs.length, .int .i64 nr, .int .i64 er, .slice (some ⟨h3, 0, none⟩) dn.length dn.length, .string out]) ∧ MRows w'' h1 h2 h3 vs cs dn ∧ Below w'.heap.size w' w'') := CTM.out HO.out
  clear CTP CTM HU
  obtain ⟨G, hG⟩ : ∃ G, G = machB vars cells st mn vs cs nr er dn out := ⟨_, rfl⟩
  have HG : Hid (G = machB vars cells st mn vs cs nr er dn out) := hG
  clear hG
  have hd3 : Below w2.heap.size w2 w2.drew := (Below.refl _ _).drew
  have HK3 : Hid (Below w.heap.size w w2.drew ∧ Blk 25 w2.drew w.heap.size [.slice va vars.length vc, .slice ca cells.length cc, .slice sa st.length sc, .slice ma mn.length mc] ∧ Blk 32 w2.drew (w.heap.size + 1) [.slice a vs.length xa, .slice b cs.length xb, .int .i64 nr, .int .i64 er, .slice c dn.length xc, .string out]) := ⟨HK2.out.1.trans (hd3.mono HK2.out.1.size), HK2.out.2.1.below hd3, HK2.out.2.2.below hd3⟩
  have CTP2 : Hid (Calls Tryz.prog 7 #[.agg #[.slice va vars.length vc, .slice ca cells.length cc, .slice sa st.length sc, .slice ma mn.length mc]] w2.drew fun e w'' => ∃ g1 g2 g3 g4, e = .returned (.agg #[.slice (some ⟨g1, 0, none⟩) vars.length vars.length, .slice (some ⟨g2, 0, none⟩) cells.length cells.length, .slice (some ⟨g3, 0, none⟩) st.length st.length, .slice (some ⟨g4, 0, none⟩) mn.length mn.length]) ∧ PRows w'' g1 g2 g3 g4 vars cells st mn ∧ Below w.heap.size w w'' ∧ Blk 25 w'' w.heap.size [.slice va vars.length vc, .slice ca cells.length cc, .slice sa st.length sc, .slice ma mn.length mc] ∧ Blk 32 w'' (w.heap.size + 1) [.slice a vs.length xa, .slice b cs.length xb, .int .i64 nr, .int .i64 er, .slice c dn.length xc, .string out]) := Calls.mono (ctp.out _ HK3.out.1) (by
    rintro e w3 ⟨g1, g2, g3, g4, rfl, r, hb⟩
    exact ⟨g1, g2, g3, g4, rfl, r, HK3.out.1.trans (hb.mono HK3.out.1.size), HK3.out.2.1.below hb, HK3.out.2.2.below hb⟩)
  have x0 := HK3.out.2.1.cell 0 rfl
  have x1 := HK3.out.2.1.cell 1 rfl
  have x2 := HK3.out.2.1.cell 2 rfl
  have x3 := HK3.out.2.1.cell 3 rfl
  have y0 := HK3.out.2.2.cell 0 rfl
  have y1 := HK3.out.2.2.cell 1 rfl
  have y2 := HK3.out.2.2.cell 2 rfl
  have y3 := HK3.out.2.2.cell 3 rfl
  have y4 := HK3.out.2.2.cell 4 rfl
  have y5 := HK3.out.2.2.cell 5 rfl
  clear hd3 HK2
  go_wp2_with fail
  rename_i K hK
  have REST : ∀ (q0 q1 q5 q10 q11 q12 q13 q14 q15 q16 q17 q18 q19 q20 q21 q22 q23 q24 : Value) (w5 : World), Hid (Below w.heap.size w w5 ∧ Blk 25 w5 w.heap.size [.slice va vars.length vc, .slice ca cells.length cc, .slice sa st.length sc, .slice ma mn.length mc] ∧ Blk 32 w5 (w.heap.size + 1) [.slice a vs.length xa, .slice b cs.length xb, .int .i64 nr, .int .i64 er, .slice c dn.length xc, .string out]) → K ⟨#[q0, q1, .pointer (some ⟨w.heap.size, 0, none⟩), .pointer (some ⟨w.heap.size + 1, 0, none⟩), .bool false, q5, .bool G, undef, undef, undef, q10, q11, q12, q13, q14, q15, q16, q17, q18, q19, q20, q21, q22, q23, q24, undef, undef, undef, undef, undef, undef, undef, undef, undef, undef, undef, undef, undef, undef, undef, undef, undef, undef, undef, undef], []⟩ w5 := by
    intro q0 q1 q5 q10 q11 q12 q13 q14 q15 q16 q17 q18 q19 q20 q21 q22 q23 q24 w5 HK5
    refine hK _ _ ?_
    clear hK x0 x1 x2 x3 y0 y1 y2 y3 y4 y5 CTP2 HK3
    have x0 := HK5.out.2.1.cell 0 rfl
    have x1 := HK5.out.2.1.cell 1 rfl
    have x2 := HK5.out.2.1.cell 2 rfl
    have x3 := HK5.out.2.1.cell 3 rfl
    go_wp2_with (go_at_call 7; refine hold ?_)
    clear x0 x1 x2 x3
    refine Calls.mono (ctp.out _ HK5.out.1) ?_
    rintro e w6 ⟨g1, g2, g3, g4, rfl, R1, hb6⟩
    have HP6 : Hid (Pg.PRows w6 g1 g2 g3 g4 vars cells st mn) := R1
    have HK6 : Hid (Below w.heap.size w w6 ∧ Blk 25 w6 w.heap.size [.slice va vars.length vc, .slice ca cells.length cc, .slice sa st.length sc, .slice ma mn.length mc] ∧ Blk 32 w6 (w.heap.size + 1) [.slice a vs.length xa, .slice b cs.length xb, .int .i64 nr, .int .i64 er, .slice c dn.length xc, .string out]) := ⟨HK5.out.1.trans (hb6.mono HK5.out.1.size), HK5.out.2.1.below hb6, HK5.out.2.2.below hb6⟩
    clear R1 hb6 HK5
    have L6 := HK6.out.2.2.alloc (.cells #[.slice (some ⟨g1, 0, none⟩) vars.length vars.length, .slice (some ⟨g2, 0, none⟩) cells.length cells.length, .slice (some ⟨g3, 0, none⟩) st.length st.length, .slice (some ⟨g4, 0, none⟩) mn.length mn.length] 38)
    have y0 := L6.cell 0 rfl
    have y1 := L6.cell 1 rfl
    have y2 := L6.cell 2 rfl
    have y3 := L6.cell 3 rfl
    have y4 := L6.cell 4 rfl
    have y5 := L6.cell 5 rfl
    clear L6
    go_wp2_with (go_at_call 8; refine hold ?_)
    clear y0 y1 y2 y3 y4 y5
    obtain ⟨W6, hW6⟩ : ∃ W6, W6 = w6.alloc (.cells #[.slice (some ⟨g1, 0, none⟩) vars.length vars.length, .slice (some ⟨g2, 0, none⟩) cells.length cells.length, .slice (some ⟨g3, 0, none⟩) st.length st.length, .slice (some ⟨g4, 0, none⟩) mn.length mn.length] 38) := ⟨_, rfl⟩
    rw [← hW6]
    have hb6 : Below w6.heap.size w6 W6 := by rw [hW6]; exact (Below.refl _ _).alloc (Nat.le_refl _) _
    have HS6 : Hid (Blk 38 W6 w6.heap.size [.slice (some ⟨g1, 0, none⟩) vars.length vars.length, .slice (some ⟨g2, 0, none⟩) cells.length cells.length, .slice (some ⟨g3, 0, none⟩) st.length st.length, .slice (some ⟨g4, 0, none⟩) mn.length mn.length]) := by rw [hW6]; exact Blk.new _ _ _
    have HP7 : Hid (Pg.PRows W6 g1 g2 g3 g4 vars cells st mn) := PRows.below HP6.out hb6
    have HK7 : Hid (Below w.heap.size w W6 ∧ Blk 25 W6 w.heap.size [.slice va vars.length vc, .slice ca cells.length cc, .slice sa st.length sc, .slice ma mn.length mc] ∧ Blk 32 W6 (w.heap.size + 1) [.slice a vs.length xa, .slice b cs.length xb, .int .i64 nr, .int .i64 er, .slice c dn.length xc, .string out]) := ⟨HK6.out.1.trans (hb6.mono HK6.out.1.size), HK6.out.2.1.below hb6, HK6.out.2.2.below hb6⟩
    clear hW6 hb6 HK6 HP6
    generalize w6.heap.size = B6 at *
    refine Calls.mono (ctm.out _ HK7.out.1) ?_
    rintro e w7 ⟨h1, h2, h3, rfl, M1, hb7⟩
    obtain ⟨W7, hW7⟩ : ∃ W7, W7 = w7.alloc (.cells #[.slice (some ⟨h1, 0, none⟩) vs.length vs.length, .slice (some ⟨h2, 0, none⟩) cs.length cs.length, .int .i64 nr, .int .i64 er, .slice (some ⟨h3, 0, none⟩) dn.length dn.length, .string out] 45) := ⟨_, rfl⟩
    have hb8 : Below w7.heap.size w7 W7 := by rw [hW7]; exact (Below.refl _ _).alloc (Nat.le_refl _) _
    have hb78 := hb7.trans (hb8.mono hb7.size)
    have HS8 : Hid (Blk 38 W7 B6 [.slice (some ⟨g1, 0, none⟩) vars.length vars.length, .slice (some ⟨g2, 0, none⟩) cells.length cells.length, .slice (some ⟨g3, 0, none⟩) st.length st.length, .slice (some ⟨g4, 0, none⟩) mn.length mn.length]) := HS6.out.below hb78
    have HT8 : Hid (Blk 45 W7 w7.heap.size [.slice (some ⟨h1, 0, none⟩) vs.length vs.length, .slice (some ⟨h2, 0, none⟩) cs.length cs.length, .int .i64 nr, .int .i64 er, .slice (some ⟨h3, 0, none⟩) dn.length dn.length, .string out]) := by rw [hW7]; exact Blk.new _ _ _
    have HP8 : Hid (Pg.PRows W7 g1 g2 g3 g4 vars cells st mn) := PRows.below HP7.out hb78
    have HM8 : Hid (MRows W7 h1 h2 h3 vs cs dn) := M1.below hb8
    have HK8 : Hid (Below w.heap.size w W7 ∧ Blk 25 W7 w.heap.size [.slice va vars.length vc, .slice ca cells.length cc, .slice sa st.length sc, .slice ma mn.length mc] ∧ Blk 32 W7 (w.heap.size + 1) [.slice a vs.length xa, .slice b cs.length xb, .int .i64 nr, .int .i64 er, .slice c dn.length xc, .string out]) := ⟨HK7.out.1.trans (hb78.mono HK7.out.1.size), HK7.out.2.1.below hb78, HK7.out.2.2.below hb78⟩
    have s0 : (w7.alloc (.cells #[.slice (some ⟨h1, 0, none⟩) vs.length vs.length, .slice (some ⟨h2, 0, none⟩) cs.length cs.length, .int .i64 nr, .int .i64 er, .slice (some ⟨h3, 0, none⟩) dn.length dn.length, .string out] 45)).cell? ⟨B6, 0, none⟩ = some (.slice (some ⟨g1, 0, none⟩) vars.length vars.length) := by rw [← hW7]; exact HS8.out.cell 0 rfl
    have s1 : (w7.alloc (.cells #[.slice (some ⟨h1, 0, none⟩) vs.length vs.length, .slice (some ⟨h2, 0, none⟩) cs.length cs.length, .int .i64 nr, .int .i64 er, .slice (some ⟨h3, 0, none⟩) dn.length dn.length, .string out] 45)).cell? ⟨B6, 1, none⟩ = some (.slice (some ⟨g2, 0, none⟩) cells.length cells.length) := by rw [← hW7]; exact HS8.out.cell 1 rfl
    have s2 : (w7.alloc (.cells #[.slice (some ⟨h1, 0, none⟩) vs.length vs.length, .slice (some ⟨h2, 0, none⟩) cs.length cs.length, .int .i64 nr, .int .i64 er, .slice (some ⟨h3, 0, none⟩) dn.length dn.length, .string out] 45)).cell? ⟨B6, 2, none⟩ = some (.slice (some ⟨g3, 0, none⟩) st.length st.length) := by rw [← hW7]; exact HS8.out.cell 2 rfl
    have s3 : (w7.alloc (.cells #[.slice (some ⟨h1, 0, none⟩) vs.length vs.length, .slice (some ⟨h2, 0, none⟩) cs.length cs.length, .int .i64 nr, .int .i64 er, .slice (some ⟨h3, 0, none⟩) dn.length dn.length, .string out] 45)).cell? ⟨B6, 3, none⟩ = some (.slice (some ⟨g4, 0, none⟩) mn.length mn.length) := by rw [← hW7]; exact HS8.out.cell 3 rfl
    clear HS6 HP7 HK7 M1 hb7 hb8 hb78
    go_wp2_with (go_at_call 9; refine hold ?_)
    rw [← hW7]
    clear s0 s1 s2 s3 hW7
    generalize w7.heap.size = B7 at *
    have IM := iMachOk (vc := vars.length) (cc := cells.length) (sc := st.length) (mc := mn.length) (xa := vs.length) (xb := cs.length) (xc := dn.length) (nr := nr) (er := er) (HSn.out.below HK8.out.1) (HP8.out.rd HM.out) HM.out (HM8.out.rd HO.out) HO.out
    rw [← HG.out] at IM
    refine Calls.mono IM ?_
    clear IM
    rintro e w9 ⟨rfl, hb9⟩
    have hd9 : Below w9.heap.size w9 w9.drew := (Below.refl _ _).drew
    have hb9' := hb9.trans (hd9.mono hb9.size)
    have HS9 : Hid (Blk 38 w9.drew B6 [.slice (some ⟨g1, 0, none⟩) vars.length vars.length, .slice (some ⟨g2, 0, none⟩) cells.length cells.length, .slice (some ⟨g3, 0, none⟩) st.length st.length, .slice (some ⟨g4, 0, none⟩) mn.length mn.length]) := HS8.out.below hb9'
    have HT9 : Hid (Blk 45 w9.drew B7 [.slice (some ⟨h1, 0, none⟩) vs.length vs.length, .slice (some ⟨h2, 0, none⟩) cs.length cs.length, .int .i64 nr, .int .i64 er, .slice (some ⟨h3, 0, none⟩) dn.length dn.length, .string out]) := HT8.out.below hb9'
    have HP9 : Hid (Pg.PRows w9.drew g1 g2 g3 g4 vars cells st mn) := PRows.below HP8.out hb9'
    have HM9 : Hid (MRows w9.drew h1 h2 h3 vs cs dn) := HM8.out.below hb9'
    have HK9 : Hid (Below w.heap.size w w9.drew ∧ Blk 25 w9.drew w.heap.size [.slice va vars.length vc, .slice ca cells.length cc, .slice sa st.length sc, .slice ma mn.length mc] ∧ Blk 32 w9.drew (w.heap.size + 1) [.slice a vs.length xa, .slice b cs.length xb, .int .i64 nr, .int .i64 er, .slice c dn.length xc, .string out]) := ⟨HK8.out.1.trans (hb9'.mono HK8.out.1.size), HK8.out.2.1.below hb9', HK8.out.2.2.below hb9'⟩
    clear HS8 HT8 HP8 HM8 HK8 hb9 hb9' hd9
    have x0 := HK9.out.2.1.cell 0 rfl
    have x1 := HK9.out.2.1.cell 1 rfl
    have x2 := HK9.out.2.1.cell 2 rfl
    have x3 := HK9.out.2.1.cell 3 rfl
    have s0 := HS9.out.cell 0 rfl
    have s1 := HS9.out.cell 1 rfl
    have s2 := HS9.out.cell 2 rfl
    have s3 := HS9.out.cell 3 rfl
    go_wp2_with fail
    rename_i K3 hK3 K2 hK2
    have REST3 : Hid (∀ (q0 q1 q5 q6 q9 q10 q11 q12 q13 q14 q15 q16 q17 q18 q19 q20 q21 q22 q23 q24 q25 q26 q27 q28 q29 q30 q31 q32 q33 q34 q35 q36 q37 q38 q39 : Value) (w10 : World), Hid (Below w.heap.size w w10 ∧ Blk 32 w10 (w.heap.size + 1) [.slice a vs.length xa, .slice b cs.length xb, .int .i64 nr, .int .i64 er, .slice c dn.length xc, .string out] ∧ Blk 45 w10 B7 [.slice (some ⟨h1, 0, none⟩) vs.length vs.length, .slice (some ⟨h2, 0, none⟩) cs.length cs.length, .int .i64 nr, .int .i64 er, .slice (some ⟨h3, 0, none⟩) dn.length dn.length, .string out] ∧ MRows w10 h1 h2 h3 vs cs dn) → K3 ⟨#[q0, q1, .pointer (some ⟨w.heap.size, 0, none⟩), .pointer (some ⟨w.heap.size + 1, 0, none⟩), .bool false, q5, q6, .pointer (some ⟨B6, 0, none⟩), .pointer (some ⟨B7, 0, none⟩), q9, q10, q11, q12, q13, q14, q15, q16, q17, q18, q19, q20, q21, q22, q23, q24, q25, q26, q27, q28, q29, q30, q31, q32, q33, q34, q35, q36, q37, q38, q39, undef, undef, undef, undef, undef], []⟩ w10) := by
      intro q0 q1 q5 q6 q9 q10 q11 q12 q13 q14 q15 q16 q17 q18 q19 q20 q21 q22 q23 q24 q25 q26 q27 q28 q29 q30 q31 q32 q33 q34 q35 q36 q37 q38 q39 w10 HK10
      refine hK3 _ _ ?_
      clear hK2 hK3 HS9 HT9 HP9 HM9 HK9 x0 x1 x2 x3 s0 s1 s2 s3 ctp HSn HM HG
      have hd10 : Below w10.heap.size w10 w10.drew := (Below.refl _ _).drew
      have HK11 : Hid (Below w.heap.size w w10.drew ∧ Blk 32 w10.drew (w.heap.size + 1) [.slice a vs.length xa, .slice b cs.length xb, .int .i64 nr, .int .i64 er, .slice c dn.length xc, .string out] ∧ Blk 45 w10.drew B7 [.slice (some ⟨h1, 0, none⟩) vs.length vs.length, .slice (some ⟨h2, 0, none⟩) cs.length cs.length, .int .i64 nr, .int .i64 er, .slice (some ⟨h3, 0, none⟩) dn.length dn.length, .string out] ∧ MRows w10.drew h1 h2 h3 vs cs dn) := ⟨HK10.out.1.trans (hd10.mono HK10.out.1.size), HK10.out.2.1.below hd10, HK10.out.2.2.1.below hd10, HK10.out.2.2.2.below hd10⟩
      have CTM11 : Hid (Calls Tryz.prog 8 #[.agg #[.slice a vs.length xa, .slice b cs.length xb, .int .i64 nr, .int .i64 er, .slice c dn.length xc, .string out]] w10.drew fun e w'' => ∃ i1 i2 i3, e = .returned (.agg #[.slice (some ⟨i1, 0, none⟩) vs.length vs.length, .slice (some ⟨i2, 0, none⟩) cs.length cs.length, .int .i64 nr, .int .i64 er, .slice (some ⟨i3, 0, none⟩) dn.length dn.length, .string out]) ∧ MRows w'' i1 i2 i3 vs cs dn ∧ MRows w'' h1 h2 h3 vs cs dn ∧ Blk 45 w'' B7 [.slice (some ⟨h1, 0, none⟩) vs.length vs.length, .slice (some ⟨h2, 0, none⟩) cs.length cs.length, .int .i64 nr, .int .i64 er, .slice (some ⟨h3, 0, none⟩) dn.length dn.length, .string out] ∧ Below w.heap.size w w'') := Calls.mono (ctm.out _ HK11.out.1) (by
        rintro e w12 ⟨i1, i2, i3, rfl, r, hb⟩
        exact ⟨i1, i2, i3, rfl, r, HK11.out.2.2.2.below hb, HK11.out.2.2.1.below hb, HK11.out.1.trans (hb.mono HK11.out.1.size)⟩)
      have y0 := HK11.out.2.1.cell 0 rfl
      have y1 := HK11.out.2.1.cell 1 rfl
      have y2 := HK11.out.2.1.cell 2 rfl
      have y3 := HK11.out.2.1.cell 3 rfl
      have y4 := HK11.out.2.1.cell 4 rfl
      have y5 := HK11.out.2.1.cell 5 rfl
      have t0 := HK11.out.2.2.1.cell 0 rfl
      have t1 := HK11.out.2.2.1.cell 1 rfl
      have t2 := HK11.out.2.2.1.cell 2 rfl
      have t3 := HK11.out.2.2.1.cell 3 rfl
      have t4 := HK11.out.2.2.1.cell 4 rfl
      have t5 := HK11.out.2.2.1.cell 5 rfl
      clear hd10 HK10 HK11 ctm
      go_wp2_with fail
      go_region_with (first
        | (go_at_call 8; refine Calls.mono CTM11.out ?_; rintro e w12 ⟨i1, i2, i3, rfl, r12, r13, l12, b12⟩; have z0 := l12.cell 0 rfl; have z1 := l12.cell 1 rfl; have z2 := l12.cell 2 rfl; have z3 := l12.cell 3 rfl; have z4 := l12.cell 4 rfl; have z5 := l12.cell 5 rfl; have e12 := lEqMach (xa := vs.length) (xb := cs.length) (xc := dn.length) (xa' := vs.length) (xb' := cs.length) (xc' := dn.length) (nr := nr) (er := er) (r13.rd HO.out) (r12.rd HO.out) HO.out)
        | (go_at_call 11; refine Calls.mono e12 ?_; rintro e w13 ⟨rfl, hb13⟩))
      all_goals
        go_wp2_with fail
        go_ret
        exact ⟨rfl, b12.trans (hb13.mono b12.size)⟩
    clear hK3
    have CTP10 : Hid (Calls Tryz.prog 7 #[.agg #[.slice va vars.length vc, .slice ca cells.length cc, .slice sa st.length sc, .slice ma mn.length mc]] w9.drew fun e w'' => ∃ i1 i2 i3 i4, e = .returned (.agg #[.slice (some ⟨i1, 0, none⟩) vars.length vars.length, .slice (some ⟨i2, 0, none⟩) cells.length cells.length, .slice (some ⟨i3, 0, none⟩) st.length st.length, .slice (some ⟨i4, 0, none⟩) mn.length mn.length]) ∧ Pg.PRows w'' i1 i2 i3 i4 vars cells st mn ∧ Pg.PRows w'' g1 g2 g3 g4 vars cells st mn ∧ Blk 38 w'' B6 [.slice (some ⟨g1, 0, none⟩) vars.length vars.length, .slice (some ⟨g2, 0, none⟩) cells.length cells.length, .slice (some ⟨g3, 0, none⟩) st.length st.length, .slice (some ⟨g4, 0, none⟩) mn.length mn.length] ∧ Below w.heap.size w w'' ∧ Blk 32 w'' (w.heap.size + 1) [.slice a vs.length xa, .slice b cs.length xb, .int .i64 nr, .int .i64 er, .slice c dn.length xc, .string out] ∧ Blk 45 w'' B7 [.slice (some ⟨h1, 0, none⟩) vs.length vs.length, .slice (some ⟨h2, 0, none⟩) cs.length cs.length, .int .i64 nr, .int .i64 er, .slice (some ⟨h3, 0, none⟩) dn.length dn.length, .string out] ∧ MRows w'' h1 h2 h3 vs cs dn) := Calls.mono (ctp.out _ HK9.out.1) (by
      rintro e w10 ⟨i1, i2, i3, i4, rfl, r, hb⟩
      exact ⟨i1, i2, i3, i4, rfl, r, PRows.below HP9.out hb, HS9.out.below hb, HK9.out.1.trans (hb.mono HK9.out.1.size), HK9.out.2.2.below hb, HT9.out.below hb, HM9.out.below hb⟩)
    clear HS9 HT9 HP9 HM9 HK9 ctp ctm HSn HO HG
    go_region_with (first
      | (go_at_call 7; refine Calls.mono CTP10.out ?_; rintro e w10 ⟨i1, i2, i3, i4, rfl, r10, r11, l10, b10, k10, t10, m10⟩; have z0 := l10.cell 0 rfl; have z1 := l10.cell 1 rfl; have z2 := l10.cell 2 rfl; have z3 := l10.cell 3 rfl; have e10 := Pg.lEqProg (vc := vars.length) (cc := cells.length) (sc := st.length) (mc := mn.length) (vc' := vars.length) (cc' := cells.length) (sc' := st.length) (mc' := mn.length) (r11.rd HM.out) (r10.rd HM.out) HM.out)
      | (go_at_call 10; refine Calls.mono e10 ?_; rintro e w11 ⟨rfl, hb11⟩))
    all_goals
      refine hK2 _ _ ?_
      clear hK2
      go_wp2_with fail
      exact REST3.out _ _ _ _ _ _ _ _ _ _ _ _ _ _ _ _ _ _ _ _ _ _ _ _ _ _ _ _ _ _ _ _ _ _ _ _ ⟨b10.trans (hb11.mono b10.size), k10.below hb11, t10.below hb11, m10.below hb11⟩
  clear hK
  go_region_with (first
    | (go_at_call 7; refine Calls.mono CTP2.out ?_; rintro e w3 ⟨g1, g2, g3, g4, rfl, r3, b3, k3, l3⟩; have z0 := l3.cell 0 rfl; have z1 := l3.cell 1 rfl; have z2 := l3.cell 2 rfl; have z3 := l3.cell 3 rfl; have z4 := l3.cell 4 rfl; have z5 := l3.cell 5 rfl)
    | (go_at_call 8; refine Calls.mono (ctm.out w3 b3) ?_; rintro e w4 ⟨h1, h2, h3, rfl, r4, hb4⟩; have CS9 := sMachOk (vc := vars.length) (cc := cells.length) (sc := st.length) (mc := mn.length) (xa := vs.length) (xb := cs.length) (xc := dn.length) (nr := nr) (er := er) ((PRows.below r3 hb4).rd HM.out) HM.out (r4.rd HO.out) HO.out; rw [← HG.out] at CS9)
    | (go_at_call 6; refine Calls.mono CS9 ?_; rintro e w5 ⟨rfl, hb5⟩))
  all_goals
    have hb35 := hb4.trans (hb5.mono hb4.size)
    exact REST _ _ _ _ _ _ _ _ _ _ _ _ _ _ _ _ _ _ _ ⟨b3.trans (hb35.mono b3.size), k3.below hb35, l3.below hb35⟩

end Mh
end Go.Proofs.YtaakeecliehjgaaGreatDoor
