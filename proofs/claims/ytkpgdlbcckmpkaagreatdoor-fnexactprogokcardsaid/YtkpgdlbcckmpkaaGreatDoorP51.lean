/-
  The law FnExactOpsOk, at every list of places and both numbers.
  The law FnExactProgOk, at every program.
-/
import Derived.Test.YtkpgdlbcckmpkaaGreatDoorP24
import Derived.Test.YtkpgdlbcckmpkaaGreatDoorP50
import Derived.Test.YtkpgdlbcckmpkaaGreatDoorP04
import Derived.Test.YtkpgdlbcckmpkaaGreatDoorP21
import Derived.Test.YtkpgdlbcckmpkaaGreatDoorP25
namespace Go.Proofs.YtkpgdlbcckmpkaaGreatDoor
open Go.RowKit
namespace Oc
open St (Vl RdV)

/-- A text that is a pattern. -/
def patB (s : ByteArray) : Bool := (Rx.parseV s).isSome

theorem sl_of {w : World} {base e size n : Nat} {v : Value} {xs : List Value} (h : w.ownsRow base e size v n xs) : ∃ (ao : Option Addr) (n' cap' : Nat), v = .slice ao n' cap' := by
  rcases h.2 with ⟨hn, _⟩ | ⟨g, cap, cur, hv, _⟩
  · exact ⟨_, _, _, hn⟩
  · exact ⟨_, _, _, hv⟩
theorem told_of {f : Nat} {s : ByteArray} {w : World} (h : Calls Tryz.prog f #[.string s] w fun e w' => Rx.RexOut (Rx.parseV s) w e w') : Told f (patB s) s w := by
  refine h.mono ?_
  intro e w'' hR
  unfold patB
  unfold Rx.RexOut at hR
  cases hp : Rx.parseV s with
  | none => rw [hp] at hR; obtain ⟨rfl, hb''⟩ := hR; exact ⟨⟨_, _, _, _, _, _, _, rfl⟩, hb''⟩
  | some tr =>
    rw [hp] at hR
    obtain ⟨a, b, c, d, u, rfl, hb'', hI⟩ := hR
    obtain ⟨op, cc, st, no, ks, rfl⟩ := Rx.rex_node hI
    rw [Rx.rex_nd] at hI
    obtain ⟨v, ys, he, ho', -⟩ := hI
    simp at he
    obtain ⟨rfl, rfl, rfl, rfl, rfl⟩ := he
    obtain ⟨ao', n', cap', rfl⟩ := sl_of ho'
    exact ⟨⟨_, _, _, _, _, _, _, rfl⟩, hb''⟩
theorem parseI : ParseI patB := fun s w a b hS hs => told_of (Rx.iRexParse s b w hS.2 (by omega))
theorem parseS : ParseS patB := fun s w => told_of (Rx.sRexParse s w)

end Oc
end Go.Proofs.YtkpgdlbcckmpkaaGreatDoor

namespace Go.Proofs.YtkpgdlbcckmpkaaGreatDoor
open Go.RowKit
namespace Pg
open St (Vl RdV)
open Oc (hold heap_new Blk SmV)

theorem PRows.below {W w : World} {g1 g2 g3 g4 : Nat} {vars cells : List ByteArray} {st mn : List Vl} (h : PRows W g1 g2 g3 g4 vars cells st mn) (hb : Below W.heap.size W w) : PRows w g1 g2 g3 g4 vars cells st mn :=
  ⟨h.vs.kept (hb.block _ h.vs.lt), h.cs.kept (hb.block _ h.cs.lt), h.ss.kept (hb.block _ h.ss.lt), h.ms.kept (hb.block _ h.ms.lt)⟩

set_option maxHeartbeats 4000000 in
set_option maxRecDepth 100000 in
theorem lawProgOk {va ca sa ma : Option Addr} {vc cc sc mc : Nat} {vars cells : List ByteArray} {st mn : List Vl} {a b : Addr} {w : World} (hS : Oc.Sn w a b) (hR : PRd w va ca sa ma vars cells st mn) (nv : vars.length ≤ maxLen) (nc : cells.length ≤ maxLen) (ns : st.length ≤ maxLen) (nm : mn.length ≤ maxLen) :
    Calls Tryz.prog 3 #[.agg #[.slice va vars.length vc, .slice ca cells.length cc, .slice sa st.length sc, .slice ma mn.length mc]] w fun e w' => e = .returned (.bool true) ∧ Below w.heap.size w w' := by
  have b0 : ∀ o, Below w.heap.size w (w.alloc o) := fun o => (Below.refl _ w).alloc (Nat.le_refl _) o
  have Hb0 : Hid (∀ o, Below w.heap.size w (w.alloc o)) := b0
  have CSZ : Hid (∀ o, Calls Tryz.prog 4 #[.agg #[.slice va vars.length vc, .slice ca cells.length cc, .slice sa st.length sc, .slice ma mn.length mc], .int .i64 1048576] (w.alloc o) fun e w' => ∃ z, e = .returned (.int .i64 z) ∧ (z < 0 ∨ PSm vars cells st mn) ∧ Below (w.alloc o).heap.size (w.alloc o) w') := fun o => lSzProg (hR.below (b0 o)) nv nc ns nm
  have Hk0 : Hid (Blk 25 (w.alloc (.cells #[.slice va vars.length vc, .slice ca cells.length cc, .slice sa st.length sc, .slice ma mn.length mc] 25)) w.heap.size [.slice va vars.length vc, .slice ca cells.length cc, .slice sa st.length sc, .slice ma mn.length mc]) := Blk.new _ _ _
  have HR : Hid (PRd w va ca sa ma vars cells st mn) := hR
  have HSn : Hid (Oc.Sn w a b) := hS
  clear hS hR nv nc ns nm b0
  go_enter Tryz.func3, Tryz.ntmps3
  go_wp2_with (go_at_call 4; refine hold ?_)
  refine Calls.mono (CSZ.out _) ?_
  clear CSZ
  rintro e w1 ⟨z, rfl, hz, hb1⟩
  have K1 := Hk0.out.below hb1
  have HK1 : Hid (Blk 25 w1 w.heap.size [.slice va vars.length vc, .slice ca cells.length cc, .slice sa st.length sc, .slice ma mn.length mc] ∧ Below w.heap.size w w1) := ⟨K1, (Hb0.out _).trans (hb1.mono (Hb0.out _).size)⟩
  have HZ : Hid (z < 0 ∨ PSm vars cells st mn) := hz
  have x0 := K1.cell 0 rfl
  have x1 := K1.cell 1 rfl
  have x2 := K1.cell 2 rfl
  have x3 := K1.cell 3 rfl
  clear K1 hb1 Hk0 Hb0 hz
  go_wp2_with (go_at_call 6; refine hold ?_)
  · go_ret
    exact ⟨rfl, HK1.out.2⟩
  have hm := HZ.out.resolve_left (by omega)
  have HM : Hid (PSm vars cells st mn) := hm
  have CT : Hid (∀ w', Below w.heap.size w w' → Calls Tryz.prog 6 #[.agg #[.slice va vars.length vc, .slice ca cells.length cc, .slice sa st.length sc, .slice ma mn.length mc]] w' fun e w'' => ∃ g1 g2 g3 g4, e = .returned (.agg #[.slice (some ⟨g1, 0, none⟩) vars.length vars.length, .slice (some ⟨g2, 0, none⟩) cells.length cells.length, .slice (some ⟨g3, 0, none⟩) st.length st.length, .slice (some ⟨g4, 0, none⟩) mn.length mn.length]) ∧ PRows w'' g1 g2 g3 g4 vars cells st mn ∧ Below w'.heap.size w' w'') := fun w' h => lToProg (HR.out.below h) hm
  clear hm HZ HR x0 x1 x2 x3
  refine Calls.mono (CT.out w1 HK1.out.2) ?_
  rintro e w2 ⟨g1, g2, g3, g4, rfl, R1, hb2⟩
  obtain ⟨K1, B1⟩ := HK1.out
  have HK2 : Hid (Blk 25 w2 w.heap.size [.slice va vars.length vc, .slice ca cells.length cc, .slice sa st.length sc, .slice ma mn.length mc] ∧ Below w.heap.size w w2) := ⟨K1.below hb2, B1.trans (hb2.mono B1.size)⟩
  obtain ⟨G, hG⟩ : ∃ G, G = progB Oc.patB vars cells st mn := ⟨_, rfl⟩
  have hd := R1.rd HM.out
  have SG : Hid (Calls Tryz.prog 5 #[.agg #[.slice (some ⟨g1, 0, none⟩) vars.length vars.length, .slice (some ⟨g2, 0, none⟩) cells.length cells.length, .slice (some ⟨g3, 0, none⟩) st.length st.length, .slice (some ⟨g4, 0, none⟩) mn.length mn.length]] w2 fun e w' => e = .returned (.bool G) ∧ Below w2.heap.size w2 w') := by
    rw [hG]
    exact sProgOk Oc.parseS hd.vs hd.cs hd.ss hd.ms HM.out.vs HM.out.cs HM.out.ss HM.out.ms HM.out.vn HM.out.cn HM.out.sn HM.out.mm
  have HG : Hid (G = progB Oc.patB vars cells st mn) := hG
  clear hG hd R1 K1 B1 HK1 hb2
  go_wp2_with (go_at_call 5; refine hold ?_)
  refine Calls.mono SG.out ?_
  clear SG
  rintro e w3 ⟨rfl, hb3⟩
  have K3 := HK2.out.1.below hb3
  have x0 := K3.cell 0 rfl
  have x1 := K3.cell 1 rfl
  have x2 := K3.cell 2 rfl
  have x3 := K3.cell 3 rfl
  have HK3 : Hid (Blk 25 w3 w.heap.size [.slice va vars.length vc, .slice ca cells.length cc, .slice sa st.length sc, .slice ma mn.length mc] ∧ Below w.heap.size w w3) := ⟨K3, HK2.out.2.trans (hb3.mono HK2.out.2.size)⟩
  clear HK2 hb3 K3
  go_wp2_with (go_at_call 6; refine hold ?_)
  clear x0 x1 x2 x3
  obtain ⟨K3, B3⟩ := HK3.out
  refine Calls.mono (CT.out _ B3) ?_
  rintro e w4 ⟨g1, g2, g3, g4, rfl, R1, hb4⟩
  have B4 := B3.trans (hb4.mono B3.size)
  have IG : Hid (∀ o, Calls Tryz.prog 7 #[.agg #[.slice (some ⟨g1, 0, none⟩) vars.length vars.length, .slice (some ⟨g2, 0, none⟩) cells.length cells.length, .slice (some ⟨g3, 0, none⟩) st.length st.length, .slice (some ⟨g4, 0, none⟩) mn.length mn.length]] (w4.alloc o) fun e w' => e = .returned (.bool G) ∧ Below (w4.alloc o).heap.size (w4.alloc o) w') := fun o => by
    have ha : Below w4.heap.size w4 (w4.alloc o) := (Below.refl _ _).alloc (Nat.le_refl _) o
    have hd := (R1.below ha).rd HM.out
    rw [HG.out]
    exact iProgOk Oc.parseI (HSn.out.below (B4.trans (ha.mono B4.size))) hd.vs hd.cs hd.ss hd.ms HM.out.vs HM.out.cs HM.out.ss HM.out.ms HM.out.vn HM.out.cn HM.out.sn HM.out.mm
  have H4 : Hid (Blk 25 w4 w.heap.size [.slice va vars.length vc, .slice ca cells.length cc, .slice sa st.length sc, .slice ma mn.length mc] ∧ Below w.heap.size w w4 ∧ PRows w4 g1 g2 g3 g4 vars cells st mn) := ⟨K3.below hb4, B4, R1⟩
  clear K3 B3 HK3 R1 hb4 HG B4 HSn
  go_wp2_with (go_at_call 7; refine hold ?_)
  refine Calls.mono (IG.out _) ?_
  clear IG
  rintro e w5 ⟨rfl, hb5⟩
  obtain ⟨K4, B4, Q1⟩ := H4.out
  have ha4 : ∀ o, Below w4.heap.size w4 (w4.alloc o) := fun o => (Below.refl _ _).alloc (Nat.le_refl _) o
  have B5 := (B4.alloc B4.size _).trans (hb5.mono (B4.alloc B4.size _).size)
  have K5 := (K4.alloc _).below hb5
  have S5 := (Blk.new 30 w4 [.slice (some ⟨g1, 0, none⟩) vars.length vars.length, .slice (some ⟨g2, 0, none⟩) cells.length cells.length, .slice (some ⟨g3, 0, none⟩) st.length st.length, .slice (some ⟨g4, 0, none⟩) mn.length mn.length]).below hb5
  have T1 := (Q1.below (ha4 _)).below hb5
  have hd6 : Below w5.heap.size w5 w5.drew := (Below.refl _ _).drew
  have B6 := B5.trans (hd6.mono B5.size)
  have K6 := K5.below hd6
  have S6 := S5.below hd6
  have T6 := T1.below hd6
  have x0 := K6.cell 0 rfl
  have x1 := K6.cell 1 rfl
  have x2 := K6.cell 2 rfl
  have x3 := K6.cell 3 rfl
  have s0 := S6.cell 0 rfl
  have s1 := S6.cell 1 rfl
  have s2 := S6.cell 2 rfl
  have s3 := S6.cell 3 rfl
  have hEq : Hid (∀ (w7 : World) (h1 h2 h3 h4 : Nat), Below w5.drew.heap.size w5.drew w7 → PRows w7 h1 h2 h3 h4 vars cells st mn → Calls Tryz.prog 8 #[.agg #[.slice (some ⟨g1, 0, none⟩) vars.length vars.length, .slice (some ⟨g2, 0, none⟩) cells.length cells.length, .slice (some ⟨g3, 0, none⟩) st.length st.length, .slice (some ⟨g4, 0, none⟩) mn.length mn.length], .agg #[.slice (some ⟨h1, 0, none⟩) vars.length vars.length, .slice (some ⟨h2, 0, none⟩) cells.length cells.length, .slice (some ⟨h3, 0, none⟩) st.length st.length, .slice (some ⟨h4, 0, none⟩) mn.length mn.length]] w7 fun e w' => e = .returned (.bool true) ∧ Below w7.heap.size w7 w') := fun w7 h1 h2 h3 h4 h7 r => lEqProg ((T6.below h7).rd HM.out) (r.rd HM.out) HM.out
  have ct7 : Hid _ := CT.out w5.drew B6
  have hS7 : Hid (∀ w7, Below w5.drew.heap.size w5.drew w7 → w7.cell? ⟨w4.heap.size, 0, none⟩ = some (.slice (some ⟨g1, 0, none⟩) vars.length vars.length) ∧ w7.cell? ⟨w4.heap.size, 1, none⟩ = some (.slice (some ⟨g2, 0, none⟩) cells.length cells.length) ∧ w7.cell? ⟨w4.heap.size, 2, none⟩ = some (.slice (some ⟨g3, 0, none⟩) st.length st.length) ∧ w7.cell? ⟨w4.heap.size, 3, none⟩ = some (.slice (some ⟨g4, 0, none⟩) mn.length mn.length)) := fun w7 h7 => ⟨(S6.below h7).cell 0 rfl, (S6.below h7).cell 1 rfl, (S6.below h7).cell 2 rfl, (S6.below h7).cell 3 rfl⟩
  have HB6 : Hid (Below w.heap.size w w5.drew) := B6
  clear K4 B4 Q1 B5 K5 S5 T1 hd6 B6 K6 S6 T6 H4 hb5 CT HM ha4
  go_wp2_with fail
  go_region_with (first
    | (go_at_call 6; refine Calls.mono ct7.out ?_; rintro e w7 ⟨h1, h2, h3, h4, rfl, r1, hb7⟩; have e7 := hEq.out w7 h1 h2 h3 h4 hb7 r1; obtain ⟨t0, t1, t2, t3⟩ := hS7.out w7 hb7)
    | (go_at_call 8; refine e7.mono ?_; rintro e w8 ⟨rfl, hb8⟩))
  all_goals
    go_wp2_with fail
    go_ret
    have h68 := hb7.trans (hb8.mono hb7.size)
    exact ⟨rfl, HB6.out.trans (h68.mono HB6.out.size)⟩

end Pg
end Go.Proofs.YtkpgdlbcckmpkaaGreatDoor

