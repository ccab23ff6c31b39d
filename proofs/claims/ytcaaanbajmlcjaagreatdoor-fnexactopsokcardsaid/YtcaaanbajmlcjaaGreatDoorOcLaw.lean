/-
  The law FnExactOpsOk, at every list of places and both numbers.
-/
import Derived.Test.YtcaaanbajmlcjaaGreatDoorOcSpecs
import Derived.Test.YtcaaanbajmlcjaaGreatDoorRexSpecFace
namespace Go.Proofs.YtcaaanbajmlcjaaGreatDoor
open Go.RowKit
namespace Oc
open St (Vl RdV)

/-- A text that is a pattern. -/
def patB (s : ByteArray) : Bool := (Rx.parseV s).isSome

theorem sl_of {w : World} {base e size n : Nat} {v : Value} {xs : List Value} (h : w.ownsRow base e size v n xs) : ∃ (ao : Option Addr) (n' cap' : Nat), v = .slice ao n' cap' := by
  rcases h.2 with ⟨hn, _⟩ | ⟨g, cap, cur, hv, _⟩
  · exact ⟨_, _, _, hn⟩
  · exact ⟨_, _, _, hv⟩
theorem told_of {f : Nat} {s : ByteArray} {w : World} (h : Calls Tryz.prog f #[.string s] w fun e w' => Rx.RexOut (Rx.parseV s) w e w') : Told f (patB s) s w := by
  refine h.mono ?_
  intro e w'' hR
  unfold patB
  unfold Rx.RexOut at hR
  cases hp : Rx.parseV s with
  | none => rw [hp] at hR; obtain ⟨rfl, hb''⟩ := hR; exact ⟨⟨_, _, _, _, _, _, _, rfl⟩, hb''⟩
  | some tr =>
    rw [hp] at hR
    obtain ⟨a, b, c, d, u, rfl, hb'', hI⟩ := hR
    obtain ⟨op, cc, st, no, ks, rfl⟩ := Rx.rex_node hI
    rw [Rx.rex_nd] at hI
    obtain ⟨v, ys, he, ho', -⟩ := hI
    simp at he
    obtain ⟨rfl, rfl, rfl, rfl, rfl⟩ := he
    obtain ⟨ao', n', cap', rfl⟩ := sl_of ho'
    exact ⟨⟨_, _, _, _, _, _, _, rfl⟩, hb''⟩
theorem parseI : ParseI patB := fun s w a b hS hs => told_of (Rx.iRexParse s b w hS.2 (by omega))
theorem parseS : ParseS patB := fun s w => told_of (Rx.sRexParse s w)

set_option maxHeartbeats 1000000 in
set_option maxRecDepth 100000 in
theorem lawOpsOk {ao : Option Addr} {cap : Nat} {l : List Vl} {vars lists : Int} {a b : Addr} {w : World} (hS' : Sn w a b) (hA : RdV w ao l) (hn : l.length ≤ maxLen) :
    Calls Tryz.prog 3 #[.slice ao l.length cap, .int .i64 vars, .int .i64 lists] w fun e w' => e = .returned (.bool true) ∧ Below w.heap.size w w' := by
  have csz := lSzOpSZ (cap := cap) hA hn
  have HA : Hid (RdV w ao l) := hA
  have HS : Hid (Sn w a b) := hS'
  clear hA hS' hn
  go_enter Tryz.func3, Tryz.ntmps3
  go_wp2_with (go_at_call 4; refine csz.mono ?_; rintro e w1 ⟨z, rfl, -, -, hz, hb1⟩; have HZ : Hid (z < 0 ∨ (l.length ≤ 1048576 ∧ ∀ v ∈ l, SmV v)) := hz; clear hz csz)
  · go_ret
    exact ⟨rfl, hb1⟩
  obtain ⟨hn, hsm⟩ := HZ.out.resolve_left (by omega)
  have CT : Hid (∀ w', Below w.heap.size w w' → Calls Tryz.prog 6 #[.slice ao l.length cap] w' fun e w'' => ∃ g, e = .returned (.slice (some ⟨g, 0, none⟩) l.length l.length) ∧ w'.heap.size ≤ g ∧ St.Rows 33 St.encV w'' g l ∧ Below w'.heap.size w' w'') := fun w' h => lToOpS (HA.out.below h) hn
  have HM : Hid (l.length ≤ 1048576 ∧ (∀ v ∈ l, v.2.2.size ≤ maxLen) ∧ ∀ v ∈ l, v.2.2.size ≤ 1048576) := ⟨hn, smv_max hsm, hsm⟩
  clear HZ HA hn hsm
  refine Calls.mono (CT.out w1 hb1) ?_
  rintro e w2 ⟨g1, rfl, -, R1, hb2⟩
  have B2 := hb1.trans (hb2.mono hb1.size)
  have SG := sOpsOk (cap := l.length) (vars := vars) (lists := lists) parseS (rows_rd R1 HM.out.2.1) HM.out.1 HM.out.2.2
  obtain ⟨G, hG⟩ : ∃ G, G = opsB patB l vars lists := ⟨_, rfl⟩
  rw [← hG] at SG
  have HG : Hid (G = opsB patB l vars lists) := hG
  have HSG : Hid _ := SG
  have HB2 : Hid (Below w.heap.size w w2) := B2
  clear SG hG B2 hb2 R1 hb1
  go_wp2_with (go_at_call 5; refine hold ?_)
  refine Calls.mono HSG.out ?_
  rintro e w3 ⟨rfl, hb3⟩
  have HB3 : Hid (Below w.heap.size w w3) := HB2.out.trans (hb3.mono HB2.out.size)
  clear HSG hb3 HB2
  go_wp2_with (go_at_call 6; refine hold ?_)
  refine Calls.mono (CT.out w3 HB3.out) ?_
  rintro e w4 ⟨g2, rfl, -, R2, hb4⟩
  have B4 := HB3.out.trans (hb4.mono HB3.out.size)
  have IG := iOpsOk (cap := l.length) (vars := vars) (lists := lists) parseI (rows_rd R2 HM.out.2.1) HM.out.1 HM.out.2.2 (HS.out.below B4)
  rw [← HG.out] at IG
  have HIG : Hid _ := IG
  have H4 : Hid (Below w.heap.size w w4 ∧ St.Rows 33 St.encV w4 g2 l) := ⟨B4, R2⟩
  clear IG B4 R2 hb4 HB3 HG HS
  go_wp2_with (go_at_call 7; refine hold ?_)
  refine Calls.mono HIG.out ?_
  rintro e w5 ⟨rfl, hb5⟩
  have H5 : Hid (Below w.heap.size w w5 ∧ St.Rows 33 St.encV w5 g2 l) := ⟨H4.out.1.trans (hb5.mono H4.out.1.size), H4.out.2.kept (hb5.block _ H4.out.2.lt)⟩
  clear HIG H4 hb5
  go_wp2_with (go_at_call 6; refine hold ?_)
  refine Calls.mono (CT.out w5 H5.out.1) ?_
  rintro e w6 ⟨g3, rfl, -, R3, hb6⟩
  have B6 := H5.out.1.trans (hb6.mono H5.out.1.size)
  have EQ := lEqOpS (c1 := l.length) (c2 := l.length) (rows_rd (H5.out.2.kept (w' := w6) (hb6.block _ H5.out.2.lt)) HM.out.2.1) (rows_rd R3 HM.out.2.1) (by have := HM.out.1; omega)
  have HEQ : Hid _ := EQ
  have HB6 : Hid (Below w.heap.size w w6) := B6
  clear EQ B6 R3 hb6 H5 CT HM
  go_wp2_with (go_at_call 8; refine hold ?_)
  refine Calls.mono HEQ.out ?_
  rintro e w7 ⟨rfl, hb7⟩
  go_wp2_with fail
  go_ret
  exact ⟨rfl, HB6.out.trans (hb7.mono HB6.out.size)⟩

end Oc
end Go.Proofs.YtcaaanbajmlcjaaGreatDoor
