/-
  The law FnExactMachBytes, at every program and every Mach.
-/
import Derived.Test.YtkhoccjfkkfipaaGreatDoorP46
import Derived.Test.YtkhoccjfkkfipaaGreatDoorP50
import Derived.Deep.CutRange
import Derived.Deep.RegionWith
namespace Go.Proofs.YtkhoccjfkkfipaaGreatDoor
open Go.RowKit
namespace Mb
open Pg (RdI PSm PRd PRows)
open Mh (MRd MSm MRows machB)
open St (Vl Cl RdV RdC SmC)
open Oc (hold heap_new Blk)
open Bt (Row Ans)
set_option linter.unusedSimpArgs false
set_option linter.unusedVariables false

theorem prows_below {W w : World} {g1 g2 g3 g4 : Nat} {vars cells : List ByteArray} {st mn : List Vl} (h : PRows W g1 g2 g3 g4 vars cells st mn) (hb : Below W.heap.size W w) : PRows w g1 g2 g3 g4 vars cells st mn :=
  ⟨h.vs.kept (hb.block _ h.vs.lt), h.cs.kept (hb.block _ h.cs.lt), h.ss.kept (hb.block _ h.ss.lt), h.ms.kept (hb.block _ h.ms.lt)⟩

/-- The two arguments' variables; all that was there is as it was. -/
structure Cx (p q : List Value) (w w' : World) : Prop where
  below : Below w.heap.size w w'
  b1 : Blk 25 w' w.heap.size p
  b2 : Blk 32 w' (w.heap.size + 1) q
theorem Cx.call {p q : List Value} {w w' w'' : World} (h : Cx p q w w') (hb : Below w'.heap.size w' w'') : Cx p q w w'' :=
  ⟨h.below.trans (hb.mono h.below.size), h.b1.below hb, h.b2.below hb⟩
theorem row_ne {α : Type} {T : TypeId} {f : α → List Value} {B cap g n : Nat} {w : World} {ao : Option Addr} {L : List UInt8} (h : Row B w ao cap L) (h2 : Any T f w g n) (hT : T ≠ 5) : ∀ a, ao = some a → a.block ≠ g := by
  rintro a rfl rfl
  obtain ⟨M, _, hr⟩ := h2
  rcases h.2 with ⟨e, _⟩ | ⟨g', c, cur, e, _, hh, _⟩
  · simp at e
  · simp only [Value.slice.injEq, Option.some.injEq] at e
    obtain ⟨rfl, _, _⟩ := e
    have e2 := hr.symm.trans hh
    simp only [Option.some.injEq, Obj.cells.injEq] at e2
    exact hT e2.2.1
theorem blk_ne {α : Type} {T T' : TypeId} {f : α → List Value} {b g n : Nat} {w : World} {xs : List Value} (h : Blk T' w b xs) (h2 : Any T f w g n) (hT : T ≠ T') : b ≠ g := by
  rintro rfl
  obtain ⟨M, _, hr⟩ := h2
  have e2 := hr.symm.trans h
  simp only [Option.some.injEq, Obj.cells.injEq] at e2
  exact hT e2.2.1
theorem row_tn {S : Nat → Prop} {B cap : Nat} {w w' : World} {ao : Option Addr} {L : List UInt8} (h : Row B w ao cap L) (hT : Tn S w w') (hn : ∀ a, ao = some a → ¬ S a.block) : Row B w' ao cap L :=
  h.same fun a e => hT.block _ (h.lt e).2 (hn a e) (by simp [Value.ownBlock])
theorem tn_below {S : Nat → Prop} {B : Nat} {w w' : World} (hT : Tn S w w') (hB : B ≤ w.heap.size) (hS : ∀ j, S j → B ≤ j) : Below B w w' :=
  ⟨hT.os, hT.tape, hT.output, hT.size, fun k hk => hT.block k (by omega) (fun h => by have := hS k h; omega) (by simp [Value.ownBlock])⟩

/-- All that is held behind the call: the arguments, the copies, the bytes of both sides. -/
structure Al (p q u v : List Value) (w : World) (B6 B7 B0 B9 : Nat) (a0 a9 : Option Addr) (c0 c9 : Nat) (V : List UInt8) (PR : World → Prop) (w' : World) : Prop where
  cx : Cx p q w w'
  x0 : Blk 39 w' B6 u
  x1 : Blk 46 w' B7 v
  r0 : Row B0 w' a0 c0 V
  r9 : Row B9 w' a9 c9 V
  pr : PR w'
  sz : B9 ≤ w'.heap.size
theorem Al.call {p q u v : List Value} {w : World} {B6 B7 B0 B9 : Nat} {a0 a9 : Option Addr} {c0 c9 : Nat} {V : List UInt8} {PR : World → Prop} (hp : ∀ x y, PR x → Below x.heap.size x y → PR y) {w' w'' : World} (h : Al p q u v w B6 B7 B0 B9 a0 a9 c0 c9 V PR w') (hb : Below w'.heap.size w' w'') : Al p q u v w B6 B7 B0 B9 a0 a9 c0 c9 V PR w'' :=
  ⟨h.cx.call hb, h.x0.below hb, h.x1.below hb, h.r0.below hb (Nat.le_refl _), h.r9.below hb (Nat.le_refl _), hp _ _ h.pr hb, Nat.le_trans h.sz hb.size⟩

set_option maxHeartbeats 8000000 in
set_option maxRecDepth 100000 in
theorem lawMB {va ca sa ma a b c : Option Addr} {vc cc sc mc xa xb xc : Nat} {vars cells : List ByteArray} {st mn vs : List Vl} {cs : List Cl} {dn : List Int} {nr er : Int} {out : ByteArray} {ad bd : Addr} {w : World} (hS : Oc.Sn w ad bd) (hR : PRd w va ca sa ma vars cells st mn) (nv : vars.length ≤ maxLen) (nc : cells.length ≤ maxLen) (ns : st.length ≤ maxLen) (nm : mn.length ≤ maxLen) (hM : MRd w a b c vs cs dn) (m1 : vs.length ≤ maxLen) (m2 : cs.length ≤ maxLen) (m3 : dn.length ≤ maxLen) (m4 : out.size ≤ maxLen) :
    Calls Tryz.prog 3 #[.agg #[.slice va vars.length vc, .slice ca cells.length cc, .slice sa st.length sc, .slice ma mn.length mc], .agg #[.slice a vs.length xa, .slice b cs.length xb, .int .i64 nr, .int .i64 er, .slice c dn.length xc, .string out]] w fun e w' => e = .returned (.bool true) ∧ Below w.heap.size w w' := by
  obtain ⟨W0, hW0⟩ : ∃ W0, W0 = (w.alloc (.cells #[.slice va vars.length vc, .slice ca cells.length cc, .slice sa st.length sc, .slice ma mn.length mc] 25)).alloc (.cells #[.slice a vs.length xa, .slice b cs.length xb, .int .i64 nr, .int .i64 er, .slice c dn.length xc, .string out] 32) := ⟨_, rfl⟩
  have HK0 : Hid (Below w.heap.size w W0 ∧ Blk 25 W0 w.heap.size [.slice va vars.length vc, .slice ca cells.length cc, .slice sa st.length sc, .slice ma mn.length mc] ∧ Blk 32 W0 (w.heap.size + 1) [.slice a vs.length xa, .slice b cs.length xb, .int .i64 nr, .int .i64 er, .slice c dn.length xc, .string out]) := by
    have k1 := Blk.new 32 (w.alloc (.cells #[.slice va vars.length vc, .slice ca cells.length cc, .slice sa st.length sc, .slice ma mn.length mc] 25)) [.slice a vs.length xa, .slice b cs.length xb, .int .i64 nr, .int .i64 er, .slice c dn.length xc, .string out]
    rw [World.size_alloc] at k1
    rw [hW0]
    exact ⟨((Below.refl _ w).alloc (Nat.le_refl _) _).alloc (by simp) _, (Blk.new _ _ _).alloc _, k1⟩
  have CSZ : Hid (∀ w', Below w.heap.size w w' → Calls Tryz.prog 4 #[.agg #[.slice va vars.length vc, .slice ca cells.length cc, .slice sa st.length sc, .slice ma mn.length mc], .int .i64 1048576] w' fun e w'' => ∃ z, e = .returned (.int .i64 z) ∧ -1 ≤ z ∧ z ≤ 1048576 ∧ (z < 0 ∨ PSm vars cells st mn) ∧ Below w'.heap.size w' w'') := fun w' h => Pg.lSzProgZ (hR.below h) nv nc ns nm
  have CSM : Hid (∀ w', Below w.heap.size w w' → ∀ l, 0 ≤ l → l ≤ 1048576 → Calls Tryz.prog 5 #[.agg #[.slice a vs.length xa, .slice b cs.length xb, .int .i64 nr, .int .i64 er, .slice c dn.length xc, .string out], .int .i64 l] w' fun e w'' => ∃ z, e = .returned (.int .i64 z) ∧ (z < 0 ∨ MSm vs cs dn out) ∧ Below w'.heap.size w' w'') := fun w' h l h0 h1 => Mh.lSzMach h0 h1 (hM.below h) m1 m2 m3 m4
  have CTP : Hid (PSm vars cells st mn → ∀ w', Below w.heap.size w w' → Calls Tryz.prog 7 #[.agg #[.slice va vars.length vc, .slice ca cells.length cc, .slice sa st.length sc, .slice ma mn.length mc]] w' fun e w'' => ∃ g1 g2 g3 g4, e = .returned (.agg #[.slice (some ⟨g1, 0, none⟩) vars.length vars.length, .slice (some ⟨g2, 0, none⟩) cells.length cells.length, .slice (some ⟨g3, 0, none⟩) st.length st.length, .slice (some ⟨g4, 0, none⟩) mn.length mn.length]) ∧ (w'.heap.size ≤ g1 ∧ w'.heap.size ≤ g2 ∧ w'.heap.size ≤ g3 ∧ w'.heap.size ≤ g4) ∧ PRows w'' g1 g2 g3 g4 vars cells st mn ∧ Below w'.heap.size w' w'') := fun hm w' h => Pg.lToProgF (hR.below h) hm
  have CTM : Hid (MSm vs cs dn out → ∀ w', Below w.heap.size w w' → Calls Tryz.prog 8 #[.agg #[.slice a vs.length xa, .slice b cs.length xb, .int .i64 nr, .int .i64 er, .slice c dn.length xc, .string out]] w' fun e w'' => ∃ h1 h2 h3, e = .returned (.agg #[.slice (some ⟨h1, 0, none⟩) vs.length vs.length, .slice (some ⟨h2, 0, none⟩) cs.length cs.length, .int .i64 nr, .int .i64 er, .slice (some ⟨h3, 0, none⟩) dn.length dn.length, .string out]) ∧ (w'.heap.size ≤ h1 ∧ w'.heap.size ≤ h2 ∧ w'.heap.size ≤ h3) ∧ MRows w'' h1 h2 h3 vs cs dn ∧ Below w'.heap.size w' w'') := fun hm w' h => Mh.lToMachF (hM.below h) hm
  have HSn : Hid (Oc.Sn w ad bd) := hS
  clear hS hR nv nc ns nm hM m1 m2 m3 m4
  go_enter Tryz.func3, Tryz.ntmps3
  go_wp2_with (go_at_call 4; refine hold ?_)
  rw [← hW0]
  clear hW0
  refine Calls.mono (CSZ.out _ HK0.out.1) ?_
  clear CSZ
  rintro e w1 ⟨z, rfl, z0, z1, hz, hb1⟩
  have HK1 : Hid (Below w.heap.size w w1 ∧ Blk 25 w1 w.heap.size [.slice va vars.length vc, .slice ca cells.length cc, .slice sa st.length sc, .slice ma mn.length mc] ∧ Blk 32 w1 (w.heap.size + 1) [.slice a vs.length xa, .slice b cs.length xb, .int .i64 nr, .int .i64 er, .slice c dn.length xc, .string out]) := ⟨HK0.out.1.trans (hb1.mono HK0.out.1.size), HK0.out.2.1.below hb1, HK0.out.2.2.below hb1⟩
  have HZ : Hid (z < 0 ∨ PSm vars cells st mn) := hz
  have y0 := HK1.out.2.2.cell 0 rfl
  have y1 := HK1.out.2.2.cell 1 rfl
  have y2 := HK1.out.2.2.cell 2 rfl
  have y3 := HK1.out.2.2.cell 3 rfl
  have y4 := HK1.out.2.2.cell 4 rfl
  have y5 := HK1.out.2.2.cell 5 rfl
  clear hb1 HK0 hz
  go_wp2_with (go_at_call 5; refine hold ?_)
  · go_ret
    exact ⟨rfl, HK1.out.1⟩
  refine Calls.mono (CSM.out _ HK1.out.1 _ (by omega) (by omega)) ?_
  clear CSM
  rintro e w2 ⟨u, rfl, hu, hb2⟩
  have HK2 : Hid (Below w.heap.size w w2 ∧ Blk 25 w2 w.heap.size [.slice va vars.length vc, .slice ca cells.length cc, .slice sa st.length sc, .slice ma mn.length mc] ∧ Blk 32 w2 (w.heap.size + 1) [.slice a vs.length xa, .slice b cs.length xb, .int .i64 nr, .int .i64 er, .slice c dn.length xc, .string out]) := ⟨HK1.out.1.trans (hb2.mono HK1.out.1.size), HK1.out.2.1.below hb2, HK1.out.2.2.below hb2⟩
  have HU : Hid (u < 0 ∨ MSm vs cs dn out) := hu
  have HM : Hid (PSm vars cells st mn) := HZ.out.resolve_left (by omega)
  clear y0 y1 y2 y3 y4 y5 hb2 HK1 hu HZ z0 z1
  by_cases hu : u < 0
  · go_wp2_with fail
    go_ret
    exact ⟨rfl, HK2.out.1⟩
  have HO : Hid (MSm vs cs dn out) := HU.out.resolve_left hu
  have ctp : Hid (∀ w', Below w.heap.size w w' → Calls Tryz.prog 7 #[.agg #[.slice va vars.length vc, .slice ca cells.length cc, .slice sa st.length sc, .slice ma mn.length mc]] w' fun e w'' => ∃ g1 g2 g3 g4, e = .returned (.agg #[.slice (some ⟨g1, 0, none⟩) vars.length vars.length, .slice (some ⟨g2, 0, none⟩) cells.length cells.length, .slice (some ⟨g3, 0, none⟩) st.length st.length, .slice (some ⟨g4, 0, none⟩) mn.length mn.length]) ∧ (w'.heap.size ≤ g1 ∧ w'.heap.size ≤ g2 ∧ w'.heap.size ≤ g3 ∧ w'.heap.size ≤ g4) ∧ PRows w'' g1 g2 g3 g4 vars cells st mn ∧ Below w'.heap.size w' w'') := CTP.out HM.out
  have ctm : Hid (∀ w', Below w.heap.size w w' → Calls Tryz.prog 8 #[.agg #[.slice a vs.length xa, .slice b cs.length xb, .int .i64 nr, .int .i64 er, .slice c dn.length xc, .string out]] w' fun e w'' => ∃ h1 h2 h3, e = .returned (.agg #[.slice (some ⟨h1, 0, none⟩) vs.length vs.length, .slice (some ⟨h2, 0, none⟩) cs.length cs.length, .int .i64 nr, .int .i64 er, .slice (some ⟨h3, 0, none⟩) dn.length dn.length, .string out]) ∧ (w'.heap.size ≤ h1 ∧ w'.heap.size ≤ h2 ∧ w'.heap.size ≤ h3) ∧ MRows w'' h1 h2 h3 vs cs dn ∧ Below w'.heap.size w' w'') := CTM.out HO.out
  obtain ⟨V, hV⟩ : ∃ V, V = mbV vars cells st mn vs cs nr er dn out := ⟨_, rfl⟩
  have HL : Hid (V.length ≤ 4000000) := by show _ ≤ _; rw [hV]; exact mbV_len ..
  have HV : Hid (V = mbV vars cells st mn vs cs nr er dn out) := hV
  clear CTP CTM HU hV
  obtain ⟨p, hp⟩ : ∃ p : List Value, p = [.slice va vars.length vc, .slice ca cells.length cc, .slice sa st.length sc, .slice ma mn.length mc] := ⟨_, rfl⟩
  obtain ⟨q, hq⟩ : ∃ q : List Value, q = [.slice a vs.length xa, .slice b cs.length xb, .int .i64 nr, .int .i64 er, .slice c dn.length xc, .string out] := ⟨_, rfl⟩
  have HX : Hid (∀ w', Cx p q w w' → (w'.cell? ⟨w.heap.size, 0, none⟩ = some (.slice va vars.length vc) ∧ w'.cell? ⟨w.heap.size, 1, none⟩ = some (.slice ca cells.length cc) ∧ w'.cell? ⟨w.heap.size, 2, none⟩ = some (.slice sa st.length sc) ∧ w'.cell? ⟨w.heap.size, 3, none⟩ = some (.slice ma mn.length mc)) ∧ (w'.cell? ⟨w.heap.size + 1, 0, none⟩ = some (.slice a vs.length xa) ∧ w'.cell? ⟨w.heap.size + 1, 1, none⟩ = some (.slice b cs.length xb) ∧ w'.cell? ⟨w.heap.size + 1, 2, none⟩ = some (.int .i64 nr) ∧ w'.cell? ⟨w.heap.size + 1, 3, none⟩ = some (.int .i64 er) ∧ w'.cell? ⟨w.heap.size + 1, 4, none⟩ = some (.slice c dn.length xc) ∧ w'.cell? ⟨w.heap.size + 1, 5, none⟩ = some (.string out))) := fun w' h => by
    have h1 := h.b1
    have h2 := h.b2
    rw [hp] at h1
    rw [hq] at h2
    exact ⟨⟨h1.cell 0 rfl, h1.cell 1 rfl, h1.cell 2 rfl, h1.cell 3 rfl⟩, h2.cell 0 rfl, h2.cell 1 rfl, h2.cell 2 rfl, h2.cell 3 rfl, h2.cell 4 rfl, h2.cell 5 rfl⟩
  have HA2 : Hid (Cx p q w w2) := by
    rw [hp, hq]
    exact ⟨HK2.out.1, HK2.out.2.1, HK2.out.2.2⟩
  clear HK2 hp hq
  go_wp2_with fail
  go_cut [6] from 24 to 28 (fun v wx => ∃ a0 c0 B0, v = .slice a0 V.length c0 ∧ Hid (Cx p q w wx ∧ Row B0 wx a0 c0 V))
  case first =>
    rename_i J hJ
    have hd : Below w2.heap.size w2 w2.drew := (Below.refl _ _).drew
    have HD : Hid (Cx p q w w2.drew) := HA2.out.call hd
    obtain ⟨⟨x0, x1, x2, x3⟩, y0, y1, y2, y3, y4, y5⟩ := HX.out _ HD.out
    have CTP2 := ctp.out _ HD.out.below
    clear hd HA2
    go_region_with (first
      | (go_at_call 7; refine Calls.mono CTP2 ?_; rintro e w3 ⟨g1, g2, g3, g4, rfl, hf3, r3, b3⟩; have A3 := HD.out.call b3; obtain ⟨_, z0, z1, z2, z3, z4, z5⟩ := HX.out _ A3)
      | (go_at_call 8; refine Calls.mono (ctm.out w3 A3.below) ?_; rintro e w4 ⟨h1, h2, h3, rfl, hf4, r4, hb4⟩; have A4 := A3.call hb4; have CS9 := sMB (vc := vars.length) (cc := cells.length) (sc := st.length) (mc := mn.length) (xa := vs.length) (xb := cs.length) (xc := dn.length) (nr := nr) (er := er) (prows_below r3 hb4) HM.out r4 HO.out; rw [← HV.out] at CS9)
      | (go_at_call 6; refine Calls.mono CS9 ?_; rintro e w5 ⟨a5, c5, rfl, hr5, hb5⟩))
    all_goals
      refine hJ _ _ ?_
      go_meet
      case rel => exact ⟨a5, c5, _, rfl, A4.call hb5, hr5⟩
  case rest =>
    obtain ⟨a0, c0, B0, rfl, HA⟩ := hcut
    clear HA2
    obtain ⟨x0, x1, x2, x3⟩ := (HX.out _ HA.out.1).1
    go_wp2_with (go_at_call 7; refine hold ?_)
    clear x0 x1 x2 x3
    refine Calls.mono (ctp.out _ HA.out.1.below) ?_
    rintro e w3 ⟨g1, g2, g3, g4, rfl, hf3, R3, hb3⟩
    have A3 : Hid (Cx p q w w3 ∧ Row B0 w3 a0 c0 V) := ⟨HA.out.1.call hb3, HA.out.2.below hb3 (Nat.le_refl _)⟩
    have F3 : Hid (w.heap.size ≤ g1 ∧ w.heap.size ≤ g2 ∧ w.heap.size ≤ g3 ∧ w.heap.size ≤ g4) := by have := HA.out.1.below.size; exact ⟨by omega, by omega, by omega, by omega⟩
    have P3 : Hid (PRows w3 g1 g2 g3 g4 vars cells st mn) := R3
    clear R3 hb3 hf3 HA
    obtain ⟨y0, y1, y2, y3, y4, y5⟩ := (HX.out _ (A3.out.1.call ((Below.refl w3.heap.size w3).alloc (Nat.le_refl _) (.cells #[.slice (some ⟨g1, 0, none⟩) vars.length vars.length, .slice (some ⟨g2, 0, none⟩) cells.length cells.length, .slice (some ⟨g3, 0, none⟩) st.length st.length, .slice (some ⟨g4, 0, none⟩) mn.length mn.length] 39)))).2
    go_wp2_with (go_at_call 8; refine hold ?_)
    clear y0 y1 y2 y3 y4 y5
    obtain ⟨W3, hW3⟩ : ∃ W, W = w3.alloc (.cells #[.slice (some ⟨g1, 0, none⟩) vars.length vars.length, .slice (some ⟨g2, 0, none⟩) cells.length cells.length, .slice (some ⟨g3, 0, none⟩) st.length st.length, .slice (some ⟨g4, 0, none⟩) mn.length mn.length] 39) := ⟨_, rfl⟩
    rw [← hW3]
    have hb3 : Below w3.heap.size w3 W3 := by rw [hW3]; exact (Below.refl _ _).alloc (Nat.le_refl _) _
    have S4 : Hid (Blk 39 W3 w3.heap.size [.slice (some ⟨g1, 0, none⟩) vars.length vars.length, .slice (some ⟨g2, 0, none⟩) cells.length cells.length, .slice (some ⟨g3, 0, none⟩) st.length st.length, .slice (some ⟨g4, 0, none⟩) mn.length mn.length]) := by rw [hW3]; exact Blk.new _ _ _
    have A4 : Hid (Cx p q w W3 ∧ Row B0 W3 a0 c0 V) := ⟨A3.out.1.call hb3, A3.out.2.below hb3 (Nat.le_refl _)⟩
    have P4 : Hid (PRows W3 g1 g2 g3 g4 vars cells st mn) := prows_below P3.out hb3
    clear hW3 hb3 A3 P3
    generalize w3.heap.size = B6 at *
    refine Calls.mono (ctm.out _ A4.out.1.below) ?_
    rintro e w7 ⟨h1, h2, h3, rfl, hf7, M7, hb7⟩
    obtain ⟨W7, hW7⟩ : ∃ W, W = w7.alloc (.cells #[.slice (some ⟨h1, 0, none⟩) vs.length vs.length, .slice (some ⟨h2, 0, none⟩) cs.length cs.length, .int .i64 nr, .int .i64 er, .slice (some ⟨h3, 0, none⟩) dn.length dn.length, .string out] 46) := ⟨_, rfl⟩
    have hb8 : Below w7.heap.size w7 W7 := by rw [hW7]; exact (Below.refl _ _).alloc (Nat.le_refl _) _
    have hb78 := hb7.trans (hb8.mono hb7.size)
    have F7 : Hid (w.heap.size ≤ h1 ∧ w.heap.size ≤ h2 ∧ w.heap.size ≤ h3) := by have := A4.out.1.below.size; exact ⟨by omega, by omega, by omega⟩
    have S8 : Hid (Blk 39 W7 B6 [.slice (some ⟨g1, 0, none⟩) vars.length vars.length, .slice (some ⟨g2, 0, none⟩) cells.length cells.length, .slice (some ⟨g3, 0, none⟩) st.length st.length, .slice (some ⟨g4, 0, none⟩) mn.length mn.length]) := S4.out.below hb78
    have T8 : Hid (Blk 46 W7 w7.heap.size [.slice (some ⟨h1, 0, none⟩) vs.length vs.length, .slice (some ⟨h2, 0, none⟩) cs.length cs.length, .int .i64 nr, .int .i64 er, .slice (some ⟨h3, 0, none⟩) dn.length dn.length, .string out]) := by rw [hW7]; exact Blk.new _ _ _
    have P8 : Hid (PRows W7 g1 g2 g3 g4 vars cells st mn) := prows_below P4.out hb78
    have M8 : Hid (MRows W7 h1 h2 h3 vs cs dn) := M7.below hb8
    have A8 : Hid (Cx p q w W7 ∧ Row B0 W7 a0 c0 V) := ⟨A4.out.1.call hb78, A4.out.2.below hb78 (Nat.le_refl _)⟩
    have s0 : (w7.alloc (.cells #[.slice (some ⟨h1, 0, none⟩) vs.length vs.length, .slice (some ⟨h2, 0, none⟩) cs.length cs.length, .int .i64 nr, .int .i64 er, .slice (some ⟨h3, 0, none⟩) dn.length dn.length, .string out] 46)).cell? ⟨B6, 0, none⟩ = some (.slice (some ⟨g1, 0, none⟩) vars.length vars.length) := by rw [← hW7]; exact S8.out.cell 0 rfl
    have s1 : (w7.alloc (.cells #[.slice (some ⟨h1, 0, none⟩) vs.length vs.length, .slice (some ⟨h2, 0, none⟩) cs.length cs.length, .int .i64 nr, .int .i64 er, .slice (some ⟨h3, 0, none⟩) dn.length dn.length, .string out] 46)).cell? ⟨B6, 1, none⟩ = some (.slice (some ⟨g2, 0, none⟩) cells.length cells.length) := by rw [← hW7]; exact S8.out.cell 1 rfl
    have s2 : (w7.alloc (.cells #[.slice (some ⟨h1, 0, none⟩) vs.length vs.length, .slice (some ⟨h2, 0, none⟩) cs.length cs.length, .int .i64 nr, .int .i64 er, .slice (some ⟨h3, 0, none⟩) dn.length dn.length, .string out] 46)).cell? ⟨B6, 2, none⟩ = some (.slice (some ⟨g3, 0, none⟩) st.length st.length) := by rw [← hW7]; exact S8.out.cell 2 rfl
    have s3 : (w7.alloc (.cells #[.slice (some ⟨h1, 0, none⟩) vs.length vs.length, .slice (some ⟨h2, 0, none⟩) cs.length cs.length, .int .i64 nr, .int .i64 er, .slice (some ⟨h3, 0, none⟩) dn.length dn.length, .string out] 46)).cell? ⟨B6, 3, none⟩ = some (.slice (some ⟨g4, 0, none⟩) mn.length mn.length) := by rw [← hW7]; exact S8.out.cell 3 rfl
    clear S4 P4 A4 M7 hb7 hb8 hb78 hf7
    go_wp2_with (go_at_call 9; refine hold ?_)
    rw [← hW7]
    clear s0 s1 s2 s3 hW7
    generalize w7.heap.size = B7 at *
    have CM := iMB (vc := vars.length) (cc := cells.length) (sc := st.length) (mc := mn.length) (xa := vs.length) (xb := cs.length) (xc := dn.length) (nr := nr) (er := er) (HSn.out.below A8.out.1.below) P8.out HM.out M8.out HO.out
    rw [← HV.out] at CM
    refine Calls.mono CM ?_
    clear CM
    rintro e w9 ⟨a9, c9, rfl, hr9, hb9⟩
    obtain ⟨u6, hu6⟩ : ∃ l : List Value, l = [.slice (some ⟨g1, 0, none⟩) vars.length vars.length, .slice (some ⟨g2, 0, none⟩) cells.length cells.length, .slice (some ⟨g3, 0, none⟩) st.length st.length, .slice (some ⟨g4, 0, none⟩) mn.length mn.length] := ⟨_, rfl⟩
    obtain ⟨v7, hv7⟩ : ∃ l : List Value, l = [.slice (some ⟨h1, 0, none⟩) vs.length vs.length, .slice (some ⟨h2, 0, none⟩) cs.length cs.length, .int .i64 nr, .int .i64 er, .slice (some ⟨h3, 0, none⟩) dn.length dn.length, .string out] := ⟨_, rfl⟩
    obtain ⟨PR, hPR⟩ : ∃ PR : World → Prop, PR = fun x => PRows x g1 g2 g3 g4 vars cells st mn ∧ MRows x h1 h2 h3 vs cs dn := ⟨_, rfl⟩
    obtain ⟨B9, hB9⟩ : ∃ B, B = W7.heap.size := ⟨_, rfl⟩
    rw [← hB9] at hr9
    have HPR : Hid (∀ x y, PR x → Below x.heap.size x y → PR y) := by rw [hPR]; exact fun x y h hb => ⟨prows_below h.1 hb, h.2.below hb⟩
    have HPE : Hid (∀ x, PR x → PRows x g1 g2 g3 g4 vars cells st mn ∧ MRows x h1 h2 h3 vs cs dn) := by rw [hPR]; exact fun x h => h
    have HBB : Hid (w.heap.size + 1 < B9 ∧ ∀ x, a0 = some x → x.block < B9) := by rw [hB9]; exact ⟨A8.out.1.b2.lt, fun x e => (A8.out.2.lt e).2⟩
    have HV7 : Hid (v7 = [.slice (some ⟨h1, 0, none⟩) vs.length vs.length, .slice (some ⟨h2, 0, none⟩) cs.length cs.length, .int .i64 nr, .int .i64 er, .slice (some ⟨h3, 0, none⟩) dn.length dn.length, .string out]) := hv7
    have L9 : Hid (Al p q u6 v7 w B6 B7 B0 B9 a0 a9 c0 c9 V PR w9) := by
      refine ⟨A8.out.1.call hb9, ?_, ?_, A8.out.2.below hb9 (Nat.le_refl _), hr9, ?_, by rw [hB9]; exact hb9.size⟩
      · rw [hu6]; exact S8.out.below hb9
      · rw [hv7]; exact T8.out.below hb9
      · rw [hPR]; exact ⟨prows_below P8.out hb9, M8.out.below hb9⟩
    have HU : Hid (∀ w', Al p q u6 v7 w B6 B7 B0 B9 a0 a9 c0 c9 V PR w' → (w'.cell? ⟨B6, 0, none⟩ = some (.slice (some ⟨g1, 0, none⟩) vars.length vars.length) ∧ w'.cell? ⟨B6, 1, none⟩ = some (.slice (some ⟨g2, 0, none⟩) cells.length cells.length) ∧ w'.cell? ⟨B6, 2, none⟩ = some (.slice (some ⟨g3, 0, none⟩) st.length st.length) ∧ w'.cell? ⟨B6, 3, none⟩ = some (.slice (some ⟨g4, 0, none⟩) mn.length mn.length)) ∧ (w'.cell? ⟨B7, 0, none⟩ = some (.slice (some ⟨h1, 0, none⟩) vs.length vs.length) ∧ w'.cell? ⟨B7, 1, none⟩ = some (.slice (some ⟨h2, 0, none⟩) cs.length cs.length) ∧ w'.cell? ⟨B7, 2, none⟩ = some (.int .i64 nr) ∧ w'.cell? ⟨B7, 3, none⟩ = some (.int .i64 er) ∧ w'.cell? ⟨B7, 4, none⟩ = some (.slice (some ⟨h3, 0, none⟩) dn.length dn.length) ∧ w'.cell? ⟨B7, 5, none⟩ = some (.string out))) := fun w' h => by
      have k1 := h.x0
      have k2 := h.x1
      rw [hu6] at k1
      rw [hv7] at k2
      exact ⟨⟨k1.cell 0 rfl, k1.cell 1 rfl, k1.cell 2 rfl, k1.cell 3 rfl⟩, k2.cell 0 rfl, k2.cell 1 rfl, k2.cell 2 rfl, k2.cell 3 rfl, k2.cell 4 rfl, k2.cell 5 rfl⟩
    clear A8 S8 T8 P8 M8 hr9 hb9 hu6 hv7 hPR hB9
    go_wp2_with (go_at_call 10; refine hold ?_)
    refine (Bt.lEqByteS L9.out.r9.rd L9.out.r0.rd rfl HL.out).mono ?_
    rintro e w10 ⟨rfl, n10, hw10⟩
    have L10 : Hid (Al p q u6 v7 w B6 B7 B0 B9 a0 a9 c0 c9 V PR w10) := L9.out.call HPR.out (by rw [hw10]; exact ⟨rfl, rfl, rfl, Nat.le_refl _, fun _ _ => rfl⟩)
    clear L9 hw10
    go_wp2_with fail
    go_cut [44] from 40 to 44 (fun v wx => v = .bool false ∧ Hid (Al p q u6 v7 w B6 B7 B0 B9 a0 a9 c0 c9 V PR wx))
    case first =>
      rename_i J hJ
      have LD : Hid (Al p q u6 v7 w B6 B7 B0 B9 a0 a9 c0 c9 V PR w10.drew) := L10.out.call HPR.out (Below.refl _ _).drew
      clear L10
      obtain ⟨x0, x1, x2, x3⟩ := (HX.out _ LD.out.cx).1
      obtain ⟨s0, s1, s2, s3⟩ := (HU.out _ LD.out).1
      have CT := ctp.out _ LD.out.cx.below
      go_region_with (first
        | (go_at_call 7; refine Calls.mono CT ?_; rintro e w11 ⟨i1, i2, i3, i4, rfl, hf11, r11, b11⟩; have L11 := LD.out.call HPR.out b11; obtain ⟨z0, z1, z2, z3⟩ := (HU.out _ L11).1; have e11 := Pg.lEqProg (vc := vars.length) (cc := cells.length) (sc := st.length) (mc := mn.length) (vc' := vars.length) (cc' := cells.length) (sc' := st.length) (mc' := mn.length) ((HPE.out _ L11.pr).1.rd HM.out) (r11.rd HM.out) HM.out)
        | (go_at_call 11; refine Calls.mono e11 ?_; rintro e w12 ⟨rfl, hb12⟩))
      all_goals
        refine hJ _ _ ?_
        go_meet
        case rel => exact ⟨rfl, L11.call HPR.out hb12⟩
    case rest =>
      obtain ⟨rfl, L13⟩ := hcut
      clear L10
      go_wp2_with fail
      go_cut [49] from 45 to 49 (fun v wx => v = .bool false ∧ Hid (Al p q u6 v7 w B6 B7 B0 B9 a0 a9 c0 c9 V PR wx))
      case first =>
        rename_i J hJ
        have LD : Hid (Al p q u6 v7 w B6 B7 B0 B9 a0 a9 c0 c9 V PR wc.drew) := L13.out.call HPR.out (Below.refl _ _).drew
        clear L13
        obtain ⟨y0, y1, y2, y3, y4, y5⟩ := (HX.out _ LD.out.cx).2
        obtain ⟨t0, t1, t2, t3, t4, t5⟩ := (HU.out _ LD.out).2
        have CT := ctm.out _ LD.out.cx.below
        go_region_with (first
          | (go_at_call 8; refine Calls.mono CT ?_; rintro e w12 ⟨i1, i2, i3, rfl, hf12, r12, b12⟩; have L12 := LD.out.call HPR.out b12; obtain ⟨z0, z1, z2, z3, z4, z5⟩ := (HU.out _ L12).2; have e12 := Mh.lEqMach (xa := vs.length) (xb := cs.length) (xc := dn.length) (xa' := vs.length) (xb' := cs.length) (xc' := dn.length) (nr := nr) (er := er) ((HPE.out _ L12.pr).2.rd HO.out) (r12.rd HO.out) HO.out)
          | (go_at_call 12; refine Calls.mono e12 ?_; rintro e w14 ⟨rfl, hb14⟩))
        all_goals
          refine hJ _ _ ?_
          go_meet
          case rel => exact ⟨rfl, L12.call HPR.out hb14⟩
      case rest =>
        obtain ⟨rfl, L17⟩ := hcut
        clear L13
        obtain ⟨s0, s1, s2, s3⟩ := (HU.out _ L17.out).1
        go_wp2_with (go_at_call 13; refine hold ?_)
        clear s0 s1 s2 s3
        have Q := HPE.out _ L17.out.pr
        have A1 : Any 9 Pg.encT _ g1 vars.length := ⟨vars, rfl, Q.1.vs⟩
        have A2 : Any 9 Pg.encT _ g2 cells.length := ⟨cells, rfl, Q.1.cs⟩
        have A3 : Any 92 St.encV _ g3 st.length := ⟨st, rfl, Q.1.ss⟩
        have A4 : Any 92 St.encV _ g4 mn.length := ⟨mn, rfl, Q.1.ms⟩
        have D1 : Any 67 St.encV _ h1 vs.length := ⟨vs, rfl, Q.2.vs⟩
        have D2 : Any 71 St.encC _ h2 cs.length := ⟨cs, rfl, Q.2.cs⟩
        have D3 : Any 3 Pg.encI _ h3 dn.length := ⟨dn, rfl, Q.2.dn⟩
        clear Q
        refine (wMarkProg A1 A2 A3 A4 HM.out.vn HM.out.cn HM.out.sn HM.out.mm).mono ?_
        rintro e w18 ⟨k18, rfl, k18a, k18b, T18⟩
        have tn_any : ∀ {α : Type} {T : TypeId} {f : α → List Value} {g n : Nat}, Any T f wc g n → g ≠ g1 → g ≠ g2 → g ≠ g3 → g ≠ g4 → Any T f w18 g n := fun h e1 e2 e3 e4 => by
          obtain ⟨L, hL, hr⟩ := h
          exact ⟨L, hL, (T18.block _ hr.lt (by rintro (e | e | e | e); exact e1 e; exact e2 e; exact e3 e; exact e4 e) (by simp [Value.ownBlock])).trans hr⟩
        have N18 : Hid (Cx p q w w18 ∧ Blk 46 w18 B7 v7 ∧ Row B0 w18 a0 c0 V ∧ Row B9 w18 a9 c9 V ∧ (Any 67 St.encV w18 h1 vs.length ∧ Any 71 St.encC w18 h2 cs.length ∧ Any 3 Pg.encI w18 h3 dn.length) ∧ B9 ≤ w18.heap.size) := by
          have Lc := L17.out.cx
          refine ⟨⟨Lc.below.trans (tn_below T18 Lc.below.size ?_), T18.blk Lc.b1 ?_, T18.blk Lc.b2 ?_⟩, T18.blk L17.out.x1 ?_, row_tn L17.out.r0 T18 ?_, row_tn L17.out.r9 T18 ?_, ⟨tn_any D1 (any_ne D1 A1 (by decide)) (any_ne D1 A2 (by decide)) (any_ne D1 A3 (by decide)) (any_ne D1 A4 (by decide)), tn_any D2 (any_ne D2 A1 (by decide)) (any_ne D2 A2 (by decide)) (any_ne D2 A3 (by decide)) (any_ne D2 A4 (by decide)), tn_any D3 (any_ne D3 A1 (by decide)) (any_ne D3 A2 (by decide)) (any_ne D3 A3 (by decide)) (any_ne D3 A4 (by decide))⟩, Nat.le_trans L17.out.sz T18.size⟩
          · rintro j (rfl | rfl | rfl | rfl)
            · exact F3.out.1
            · exact F3.out.2.1
            · exact F3.out.2.2.1
            · exact F3.out.2.2.2
          · rintro (e | e | e | e)
            · exact blk_ne Lc.b1 A1 (by decide) e
            · exact blk_ne Lc.b1 A2 (by decide) e
            · exact blk_ne Lc.b1 A3 (by decide) e
            · exact blk_ne Lc.b1 A4 (by decide) e
          · rintro (e | e | e | e)
            · exact blk_ne Lc.b2 A1 (by decide) e
            · exact blk_ne Lc.b2 A2 (by decide) e
            · exact blk_ne Lc.b2 A3 (by decide) e
            · exact blk_ne Lc.b2 A4 (by decide) e
          · rintro (e | e | e | e)
            · exact blk_ne L17.out.x1 A1 (by decide) e
            · exact blk_ne L17.out.x1 A2 (by decide) e
            · exact blk_ne L17.out.x1 A3 (by decide) e
            · exact blk_ne L17.out.x1 A4 (by decide) e
          · rintro x hx (e | e | e | e)
            · exact row_ne L17.out.r0 A1 (by decide) x hx e
            · exact row_ne L17.out.r0 A2 (by decide) x hx e
            · exact row_ne L17.out.r0 A3 (by decide) x hx e
            · exact row_ne L17.out.r0 A4 (by decide) x hx e
          · rintro x hx (e | e | e | e)
            · exact row_ne L17.out.r9 A1 (by decide) x hx e
            · exact row_ne L17.out.r9 A2 (by decide) x hx e
            · exact row_ne L17.out.r9 A3 (by decide) x hx e
            · exact row_ne L17.out.r9 A4 (by decide) x hx e
        clear L17 A1 A2 A3 A4 D1 D2 D3 T18 tn_any
        have HK18 : Hid (1 ≤ k18 ∧ k18 ≤ 9000000) := ⟨k18a, k18b⟩
        have k18c : (k18 : Int) ≤ 9000000 := by omega
        have V18 := N18.out.2.1
        rw [HV7.out] at V18
        have t0 := V18.cell 0 rfl
        have t1 := V18.cell 1 rfl
        have t2 := V18.cell 2 rfl
        have t3 := V18.cell 3 rfl
        have t4 := V18.cell 4 rfl
        have t5 := V18.cell 5 rfl
        clear k18a k18b V18
        go_wp2_with (go_at_call 14; refine hold ?_)
        clear t0 t1 t2 t3 t4 t5
        refine (wMarkMach N18.out.2.2.2.2.1.1 N18.out.2.2.2.2.1.2.1 N18.out.2.2.2.2.1.2.2 HO.out.vn HO.out.cn HO.out.dn HK18.out.1 HK18.out.2).mono ?_
        rintro e w19 ⟨k19, rfl, k19a, k19b, T19⟩
        have N19 : Hid (Cx p q w w19 ∧ Row B0 w19 a0 c0 V ∧ Row B9 w19 a9 c9 V ∧ B9 ≤ w19.heap.size) := by
          have Lc := N18.out.1
          obtain ⟨D1, D2, D3⟩ := N18.out.2.2.2.2.1
          refine ⟨⟨Lc.below.trans (tn_below T19 Lc.below.size ?_), T19.blk Lc.b1 ?_, T19.blk Lc.b2 ?_⟩, row_tn N18.out.2.2.1 T19 ?_, row_tn N18.out.2.2.2.1 T19 ?_, Nat.le_trans N18.out.2.2.2.2.2 T19.size⟩
          · rintro j (rfl | rfl | rfl)
            · exact F7.out.1
            · exact F7.out.2.1
            · exact F7.out.2.2
          · rintro (e | e | e)
            · exact blk_ne Lc.b1 D1 (by decide) e
            · exact blk_ne Lc.b1 D2 (by decide) e
            · exact blk_ne Lc.b1 D3 (by decide) e
          · rintro (e | e | e)
            · exact blk_ne Lc.b2 D1 (by decide) e
            · exact blk_ne Lc.b2 D2 (by decide) e
            · exact blk_ne Lc.b2 D3 (by decide) e
          · rintro x hx (e | e | e)
            · exact row_ne N18.out.2.2.1 D1 (by decide) x hx e
            · exact row_ne N18.out.2.2.1 D2 (by decide) x hx e
            · exact row_ne N18.out.2.2.1 D3 (by decide) x hx e
          · rintro x hx (e | e | e)
            · exact row_ne N18.out.2.2.2.1 D1 (by decide) x hx e
            · exact row_ne N18.out.2.2.2.1 D2 (by decide) x hx e
            · exact row_ne N18.out.2.2.2.1 D3 (by decide) x hx e
        have k19c : (1 : Int) ≤ k19 := by omega
        have k19d : (k19 : Int) ≤ 20000000 := by omega
        clear N18 T19 k19a k19b k18c HK18
        go_wp2_with (go_at_call 10; refine hold ?_)
        refine (Bt.lEqByteS N19.out.2.2.1.rd N19.out.2.1.rd rfl HL.out).mono ?_
        rintro e w20 ⟨rfl, n20, hw20⟩
        have hb20 : Below w19.heap.size w19 w20 := by rw [hw20]; exact ⟨rfl, rfl, rfl, Nat.le_refl _, fun _ _ => rfl⟩
        have N20 : Hid (Cx p q w w20 ∧ Row B0 w20 a0 c0 V ∧ Row B9 w20 a9 c9 V ∧ B9 ≤ w20.heap.size) := ⟨N19.out.1.call hb20, N19.out.2.1.below hb20 (Nat.le_refl _), N19.out.2.2.1.below hb20 (Nat.le_refl _), Nat.le_trans N19.out.2.2.2 hb20.size⟩
        clear N19 hw20 hb20
        go_wp2_with (go_at_call 15; refine hold ?_)
        refine (Bt.lMarkByteS (k := 1) N20.out.2.2.1 N20.out.2.2.2 HL.out (by decide)).mono ?_
        rintro e w21 ⟨rfl, hr21, hb21⟩
        have N21 : Hid (Cx p q w w21 ∧ Row B0 w21 a0 c0 V ∧ Row B9 w21 a9 c9 (Bt.marks 1 V.length)) := by
          have hl := HBB.out.1
          refine ⟨⟨N20.out.1.below.trans (hb21.mono (by omega)), (hb21.block _ (by omega)).trans N20.out.1.b1, (hb21.block _ (by omega)).trans N20.out.1.b2⟩, N20.out.2.1.same fun x hx => hb21.block _ (HBB.out.2 x hx), ?_⟩
          exact hr21
        clear N20 hr21 hb21
        go_wp2_with (go_at_call 16; refine hold ?_)
        refine (Bt.lHeldByteS (k := 1) N21.out.2.2.rd HL.out (by decide)).mono ?_
        rintro e w22 ⟨rfl, n22, hw22⟩
        have hb22 : Below w21.heap.size w21 w22 := by rw [hw22]; exact ⟨rfl, rfl, rfl, Nat.le_refl _, fun _ _ => rfl⟩
        have N22 : Hid (Cx p q w w22 ∧ Row B0 w22 a0 c0 V ∧ Row B9 w22 a9 c9 (Bt.marks 1 V.length)) := ⟨N21.out.1.call hb22, N21.out.2.1.below hb22 (Nat.le_refl _), N21.out.2.2.below hb22 (Nat.le_refl _)⟩
        clear N21 hw22 hb22
        go_wp2_with fail
        go_cut [13] from 75 to 79 (fun v wx => ∃ a8 c8 B8, v = .slice a8 V.length c8 ∧ Hid (Cx p q w wx ∧ Row B0 wx a0 c0 V ∧ Row B9 wx a9 c9 (Bt.marks 1 V.length) ∧ Row B8 wx a8 c8 V))
        case first =>
          rename_i J hJ
          have hd : Below w22.heap.size w22 w22.drew := (Below.refl _ _).drew
          have ND : Hid (Cx p q w w22.drew ∧ Row B0 w22.drew a0 c0 V ∧ Row B9 w22.drew a9 c9 (Bt.marks 1 V.length)) := ⟨N22.out.1.call hd, N22.out.2.1.below hd (Nat.le_refl _), N22.out.2.2.below hd (Nat.le_refl _)⟩
          obtain ⟨⟨x0, x1, x2, x3⟩, y0, y1, y2, y3, y4, y5⟩ := HX.out _ ND.out.1
          have CTP2 := ctp.out _ ND.out.1.below
          clear hd N22
          go_region_with (first
            | (go_at_call 7; refine Calls.mono CTP2 ?_; rintro e w23 ⟨i1, i2, i3, i4, rfl, hf23, r23, b23⟩; have A23 := ND.out.1.call b23; obtain ⟨z0, z1, z2, z3, z4, z5⟩ := (HX.out _ A23).2)
            | (go_at_call 8; refine Calls.mono (ctm.out w23 A23.below) ?_; rintro e w24 ⟨j1, j2, j3, rfl, hf24, r24, hb24⟩; have A24 := A23.call hb24; have CS9 := iMB (vc := vars.length) (cc := cells.length) (sc := st.length) (mc := mn.length) (xa := vs.length) (xb := cs.length) (xc := dn.length) (nr := nr) (er := er) (HSn.out.below A24.below) (prows_below r23 hb24) HM.out r24 HO.out; rw [← HV.out] at CS9)
            | (go_at_call 9; refine Calls.mono CS9 ?_; rintro e w25 ⟨a25, c25, rfl, hr25, hb25⟩))
          all_goals
            refine hJ _ _ ?_
            go_meet
            case rel => exact ⟨a25, c25, _, rfl, A24.call hb25, ((ND.out.2.1.below b23 (Nat.le_refl _)).below hb24 (Nat.le_refl _)).below hb25 (Nat.le_refl _), ((ND.out.2.2.below b23 (Nat.le_refl _)).below hb24 (Nat.le_refl _)).below hb25 (Nat.le_refl _), hr25⟩
        case rest =>
          obtain ⟨a8, c8, B8, rfl, N31⟩ := hcut
          clear N22
          go_wp2_with (go_at_call 10; refine hold ?_)
          refine (Bt.lEqByteS N31.out.2.2.2.rd N31.out.2.1.rd rfl HL.out).mono ?_
          rintro e w32 ⟨rfl, n32, hw32⟩
          have hb32 : Below wc.heap.size wc w32 := by rw [hw32]; exact ⟨rfl, rfl, rfl, Nat.le_refl _, fun _ _ => rfl⟩
          have N32 : Hid (Cx p q w w32 ∧ Row B9 w32 a9 c9 (Bt.marks 1 V.length)) := ⟨N31.out.1.call hb32, N31.out.2.2.1.below hb32 (Nat.le_refl _)⟩
          clear N31 hw32 hb32
          go_wp2_with (go_at_call 16; refine hold ?_)
          refine (Bt.lHeldByteS (k := 1) N32.out.2.rd HL.out (by decide)).mono ?_
          rintro e w33 ⟨rfl, n33, hw33⟩
          have h33 : Below w.heap.size w w33 := by
            have h := N32.out.1.below
            rw [hw33]
            exact ⟨h.os, h.tape, h.output, h.size, h.block⟩
          clear N32 hw33
          go_wp2_with fail
          go_ret
          exact ⟨rfl, h33⟩

end Mb
end Go.Proofs.YtkhoccjfkkfipaaGreatDoor
