/-
  MachOk, the specification's.
  Machs: the laws' sizes, copies and comparisons of them.
-/
import Derived.Test.YtkhoccjfkkfipaaGreatDoorP42
import Derived.Test.YtkhoccjfkkfipaaGreatDoorP43
import Derived.Test.YtkhoccjfkkfipaaGreatDoorP44
namespace Go.Proofs.YtkhoccjfkkfipaaGreatDoor
open Go.RowKit
namespace Mh
open Pg (RdI PSm PRd)
open St (Vl Cl RdV RdC SmC)
open Oc (hold heap_new Blk)

set_option maxHeartbeats 2000000 in
set_option maxRecDepth 100000 in
theorem sMachOk {va ca sa ma a b c : Option Addr} {vc cc sc mc xa xb xc : Nat} {vars cells : List ByteArray} {st mn vs : List St.Vl} {cs : List St.Cl} {dn : List Int} {nr er : Int} {out : ByteArray} {w : World} (hP : PRd w va ca sa ma vars cells st mn) (hm : PSm vars cells st mn) (hM : MRd w a b c vs cs dn) (ho : MSm vs cs dn out) :
    Calls Tryz.prog 21 #[.agg #[.slice va vars.length vc, .slice ca cells.length cc, .slice sa st.length sc, .slice ma mn.length mc], .agg #[.slice a vs.length xa, .slice b cs.length xb, .int .i64 nr, .int .i64 er, .slice c dn.length xc, .string out]] w fun e w' => e = .returned (.bool (machB vars cells st mn vs cs nr er dn out)) ∧ Below w.heap.size w w' := by
  have CP : Hid (∀ w', Below w.heap.size w w' → Calls Tryz.prog 46 #[.agg #[.slice va vars.length vc, .slice ca cells.length cc, .slice sa st.length sc, .slice ma mn.length mc]] w' fun e w'' => e = .returned (.bool (Pg.progB Oc.patB vars cells st mn)) ∧ Below w'.heap.size w' w'') := fun w' h => by
    have hd := hP.below h
    exact Pg.sProgOk Oc.parseS hd.vs hd.cs hd.ss hd.ms hm.vs hm.cs hm.ss hm.ms hm.vn hm.cn (Nat.le_trans hm.sn (by decide)) (Nat.le_trans hm.mm (by decide))
  have CS : Hid (∀ w', Below w.heap.size w w' → Calls Tryz.prog 47 #[.agg #[.slice a vs.length xa, .slice b cs.length xb, .int .i64 nr, .int .i64 er], .int .i64 vars.length, .int .i64 cells.length] w' fun e w'' => e = .returned (.bool (St.stateB vs cs nr er vars.length cells.length)) ∧ Below w'.heap.size w' w'') := fun w' h =>
    St.sStateOk (hM.vs.below h) (hM.cs.below h) ho.vn ho.cn ho.vs ho.cs
  have CI : Hid (∀ x w', Calls Tryz.prog 45 #[.int .i64 x, .int .i64 0, .int .i64 100000] w' fun e w'' => e = .returned (.bool (seqB x)) ∧ w'' = w') := fun x w' => St.sIn x 0 100000 w'
  have HD : Hid (RdI w c dn) := hM.dn
  obtain ⟨R, hR⟩ : ∃ R, R = machB vars cells st mn vs cs nr er dn out := ⟨_, rfl⟩
  have HR : Hid (R = (decide (out.size ≤ 1500) && ((decide (dn.length = 3) && dn.all seqB) && (Pg.progB Oc.patB vars cells st mn && St.stateB vs cs nr er vars.length cells.length)))) := hR
  rw [← hR]
  have bo : (out.size : Int) ≤ 1048576 := by have := ho.out; omega
  have bv : (vars.length : Int) ≤ 1048576 := by have := hm.vn; omega
  have bc : (cells.length : Int) ≤ 1048576 := by have := hm.cn; omega
  have bd : (dn.length : Int) ≤ 1048576 := by have := ho.dn; omega
  clear hR hP hm hM ho
  generalize Pg.progB Oc.patB vars cells st mn = Q at *
  generalize St.stateB vs cs nr er vars.length cells.length = F at *
  obtain ⟨W1, hW1⟩ : ∃ W1, W1 = (w.alloc (.cells #[.slice va vars.length vc, .slice ca cells.length cc, .slice sa st.length sc, .slice ma mn.length mc] 39)).alloc (.cells #[.slice a vs.length xa, .slice b cs.length xb, .int .i64 nr, .int .i64 er, .slice c dn.length xc, .string out] 46) := ⟨_, rfl⟩
  have HK1 : Hid (Below w.heap.size w W1 ∧ Blk 39 W1 w.heap.size [.slice va vars.length vc, .slice ca cells.length cc, .slice sa st.length sc, .slice ma mn.length mc] ∧ Blk 46 W1 (w.heap.size + 1) [.slice a vs.length xa, .slice b cs.length xb, .int .i64 nr, .int .i64 er, .slice c dn.length xc, .string out]) := by
    have k1 := Blk.new 46 (w.alloc (.cells #[.slice va vars.length vc, .slice ca cells.length cc, .slice sa st.length sc, .slice ma mn.length mc] 39)) [.slice a vs.length xa, .slice b cs.length xb, .int .i64 nr, .int .i64 er, .slice c dn.length xc, .string out]
    rw [World.size_alloc] at k1
    rw [hW1]
    exact ⟨((Below.refl _ w).alloc (Nat.le_refl _) _).alloc (by simp) _, (Blk.new 39 w [.slice va vars.length vc, .slice ca cells.length cc, .slice sa st.length sc, .slice ma mn.length mc]).alloc _, k1⟩
  go_enter Tryz.func21, Tryz.ntmps21
  go_wp2_with fail
  rw [← hW1]
  clear hW1
  go_loopw [5] (fun i wr => ∃ k : Nat, k ≤ dn.length ∧ i = .int .i64 k ∧ wr = W1 ∧ (dn.take k).all seqB = true) (fun i _ => dn.length - (intOf i).toNat)
  case atStart => exact ⟨0, Nat.zero_le _, rfl, rfl, rfl⟩
  case round =>
    obtain ⟨k, hkn, rfl, rfl, hall⟩ := hrel
    have L1 := HK1.out.2.2.cell 4 rfl
    by_cases hkl : k < dn.length
    · have hki : dn[k]? = some dn[k] := List.getElem?_eq_getElem hkl
      have hr := HD.out.below HK1.out.1 k _ hki
      obtain ⟨b', o', rfl, hbl, c0⟩ := hr
      have bk : (k : Int) < dn.length := by omega
      have hT := all_takeT (p := seqB) hki
      rw [hall, Bool.true_and] at hT
      have HN : Hid (seqB dn[k] = false → dn.all seqB = false) := all_noT (List.getElem_mem hkl)
      have HT : Hid ((dn.take (k + 1)).all seqB = seqB dn[k]) := hT
      have ci := CI.out dn[k]
      clear hki hall hT CP CS CI
      generalize seqB dn[k] = B at *
      generalize dn[k] = v at *
      cases B
      · have H : Hid (R = false) := HR.out.trans (by rw [HN.out rfl]; simp)
        clear HR HN HT
        go_wp2_with (go_at_call 45; refine (ci _).mono ?_; rintro e w2 ⟨rfl, hw⟩; have hw := hw.symm; subst hw)
        go_ret
        exact ⟨by rw [H.out] <;> rfl, HK1.out.1⟩
      · go_wp2_with (go_at_call 45; refine (ci _).mono ?_; rintro e w2 ⟨rfl, hw⟩; have hw := hw.symm; subst hw)
        go_roundw
        case rel => exact ⟨k + 1, hkl, by go_num, by trivial, HT.out⟩
        case measure => simp [intOf]; omega
    · obtain rfl : k = dn.length := by omega
      rw [List.take_length] at hall
      have H0 : Hid (R = (decide (out.size ≤ 1500) && (decide (dn.length = 3) && (Q && F)))) := HR.out.trans (by rw [hall]; simp)
      have x0 := HK1.out.2.1.cell 0 rfl
      have x1 := HK1.out.2.1.cell 1 rfl
      have x2 := HK1.out.2.1.cell 2 rfl
      have x3 := HK1.out.2.1.cell 3 rfl
      clear hall HR CI HD hkn hkl
      go_wp2_with (go_at_call 46; refine hold ?_)
      refine Calls.mono (CP.out _ HK1.out.1) ?_
      rintro e w2 ⟨rfl, hb2⟩
      have HK2 : Hid (Below w.heap.size w w2 ∧ Blk 39 w2 w.heap.size [.slice va vars.length vc, .slice ca cells.length cc, .slice sa st.length sc, .slice ma mn.length mc] ∧ Blk 46 w2 (w.heap.size + 1) [.slice a vs.length xa, .slice b cs.length xb, .int .i64 nr, .int .i64 er, .slice c dn.length xc, .string out]) := ⟨HK1.out.1.trans (hb2.mono HK1.out.1.size), HK1.out.2.1.below hb2, HK1.out.2.2.below hb2⟩
      clear x0 x1 x2 x3 L1
      have x0 := HK2.out.2.1.cell 0 rfl
      have x1 := HK2.out.2.1.cell 1 rfl
      have y0 := HK2.out.2.2.cell 0 rfl
      have y1 := HK2.out.2.2.cell 1 rfl
      have y2 := HK2.out.2.2.cell 2 rfl
      have y3 := HK2.out.2.2.cell 3 rfl
      clear hb2 HK1 CP
      cases Q with
      | false =>
        go_wp2_with fail
        go_ret
        exact ⟨by rw [H0.out] <;> simp, HK2.out.1⟩
      | true =>
        go_wp2_with (go_at_call 47; refine hold ?_)
        refine Calls.mono (CS.out _ HK2.out.1) ?_
        rintro e w3 ⟨rfl, hb3⟩
        have HK3 : Hid (Below w.heap.size w w3 ∧ Blk 46 w3 (w.heap.size + 1) [.slice a vs.length xa, .slice b cs.length xb, .int .i64 nr, .int .i64 er, .slice c dn.length xc, .string out]) := ⟨HK2.out.1.trans (hb3.mono HK2.out.1.size), HK2.out.2.2.below hb3⟩
        clear x0 x1 y0 y1 y2 y3
        have y4 := HK3.out.2.cell 4 rfl
        have y5 := HK3.out.2.cell 5 rfl
        clear hb3 HK2 CS
        cases F with
        | false =>
          go_wp2_with fail
          go_ret
          exact ⟨by rw [H0.out] <;> simp, HK3.out.1⟩
        | true =>
          by_cases h3 : dn.length = 3
          · have e1 : ((dn.length : Int) == 3) = true := by rw [h3]; rfl
            by_cases h4 : out.size ≤ 1500
            · have H : Hid (R = true) := H0.out.trans (by rw [decide_eq_true h4, decide_eq_true h3]; rfl)
              have e2 : (out.size : Int) ≤ 1500 := by omega
              clear H0 h4 h3
              go_wp2_with fail
              go_ret
              exact ⟨by rw [H.out] <;> simp, HK3.out.1⟩
            · have H : Hid (R = false) := H0.out.trans (by rw [decide_eq_false h4]; rfl)
              have e2 : decide ((out.size : Int) ≤ 1500) = false := decide_eq_false (by omega)
              clear H0 h4 h3
              go_wp2_with fail
              go_ret
              exact ⟨by rw [H.out] <;> simp, HK3.out.1⟩
          · have e1 : ((dn.length : Int) == 3) = false := beq_eq_false_iff_ne.2 (by omega)
            have H : Hid (R = false) := H0.out.trans (by rw [decide_eq_false h3]; simp)
            clear H0 h3
            go_wp2_with fail
            go_ret
            exact ⟨by rw [H.out] <;> simp, HK3.out.1⟩

end Mh
end Go.Proofs.YtkhoccjfkkfipaaGreatDoor
namespace Go.Proofs.YtkhoccjfkkfipaaGreatDoor
open Go.RowKit
namespace Mh
open Pg (RdI PSm PRd rows_put)
open St (Vl Cl RdV RdC SmC)
open Oc (hold heap_new Blk)

set_option maxHeartbeats 2000000 in
set_option maxRecDepth 100000 in
theorem lSzMach {a b c : Option Addr} {xa xb xc : Nat} {vs : List Vl} {cs : List Cl} {nr er : Int} {dn : List Int} {out : ByteArray} {W : World} {left : Int} (h0 : 0 ≤ left) (h1 : left ≤ 1048576) (hM : MRd W a b c vs cs dn) (nv : vs.length ≤ maxLen) (nc : cs.length ≤ maxLen) (nd : dn.length ≤ maxLen) (no : out.size ≤ maxLen) :
    Calls Tryz.prog 5 #[.agg #[.slice a vs.length xa, .slice b cs.length xb, .int .i64 nr, .int .i64 er, .slice c dn.length xc, .string out], .int .i64 left] W fun e w' => ∃ z, e = .returned (.int .i64 z) ∧ (z < 0 ∨ MSm vs cs dn out) ∧ Below W.heap.size W w' := by
  have hb : ∀ o, Below W.heap.size W (W.alloc o) := fun o => (Below.refl _ W).alloc (Nat.le_refl _) o
  have CS : Hid (∀ o, Calls Tryz.prog 19 #[.agg #[.slice a vs.length xa, .slice b cs.length xb, .int .i64 nr, .int .i64 er], .int .i64 left] (W.alloc o) fun e w' => ∃ z, e = .returned (.int .i64 z) ∧ -1 ≤ z ∧ z ≤ 1048576 ∧ (z < 0 ∨ (vs.length ≤ 1048576 ∧ ∀ v ∈ vs, St.SmV v) ∧ cs.length ≤ 1048576 ∧ ∀ c ∈ cs, SmC c) ∧ Below (W.alloc o).heap.size (W.alloc o) w') := fun o => St.lSzStateL h0 h1 (hM.vs.below (hb o)) (hM.cs.below (hb o)) nv nc
  have CI : Hid (∀ w' l, 0 ≤ l → l ≤ 1048576 → Calls Tryz.prog 20 #[.slice c dn.length xc, .int .i64 l] w' fun e w'' => ∃ z, e = .returned (.int .i64 z) ∧ -1 ≤ z ∧ z ≤ 1048576 ∧ (z < 0 ∨ dn.length ≤ 1048576) ∧ w'' = w') := fun w' l h0 h1 => Pg.lSzIntS h0 h1 nd
  have hk : Hid (Blk 32 (W.alloc (.cells #[.slice a vs.length xa, .slice b cs.length xb, .int .i64 nr, .int .i64 er, .slice c dn.length xc, .string out] 32)) W.heap.size [.slice a vs.length xa, .slice b cs.length xb, .int .i64 nr, .int .i64 er, .slice c dn.length xc, .string out]) := Blk.new _ _ _
  have bo : (out.size : Int) ≤ 9223372036854775807 := by unfold maxLen at no; omega
  clear hM nv nc nd h0 h1
  go_enter Tryz.func5, Tryz.ntmps5
  go_wp2_with (go_at_call 19; refine hold ?_)
  refine Calls.mono (CS.out _) ?_
  rintro e w2 ⟨z, rfl, z0, z1, z2, hb2⟩
  have B2 := (hb _).trans (hb2.mono (hb _).size)
  have K2 := hk.out.below hb2
  have x4 := K2.cell 4 rfl
  have x5 := K2.cell 5 rfl
  have HZ : Hid (z < 0 ∨ (vs.length ≤ 1048576 ∧ ∀ v ∈ vs, St.SmV v) ∧ cs.length ≤ 1048576 ∧ ∀ c ∈ cs, SmC c) := z2
  have H2 : Hid (Below W.heap.size W w2) := B2
  clear B2 K2 z2 hb2 CS hk hb
  go_wp2_with (go_at_call 20; refine hold ?_)
  · go_ret
    exact ⟨_, rfl, .inl (by omega), H2.out⟩
  refine Calls.mono (CI.out _ _ (by omega) (by omega)) ?_
  rintro e w3 ⟨y, rfl, y0, y1, y2, rfl⟩
  have HY : Hid (y < 0 ∨ dn.length ≤ 1048576) := y2
  clear y2 CI
  by_cases hy : y < 0
  · go_wp2_with fail
    go_ret
    exact ⟨_, rfl, .inl (by omega), H2.out⟩
  by_cases ho : y - (out.size : Int) < 0
  · go_wp2_with fail
    go_ret
    exact ⟨_, rfl, .inl (by omega), H2.out⟩
  · have ho' : 0 ≤ y - (out.size : Int) := by omega
    have ho2 : y - (out.size : Int) ≤ 9223372036854775807 := by omega
    go_wp2_with fail
    go_ret
    refine ⟨_, rfl, .inr ?_, H2.out⟩
    obtain ⟨⟨a1, a2⟩, a3, a4⟩ := HZ.out.resolve_left (by omega)
    exact ⟨a1, a2, a3, a4, HY.out.resolve_left (by omega), by omega⟩

/-- What a copy is while it is made: the argument, the answer, the Mach at work. -/
structure Mp (w : World) (p o : List Value) (W : World) : Prop where
  below : Below w.heap.size w W
  arg : Blk 32 W w.heap.size p
  ans : Blk 46 W (w.heap.size + 1) [.slice none 0 0, .slice none 0 0, .int .i64 0, .int .i64 0, .slice none 0 0, .string ⟨#[]⟩]
  out : Blk 46 W (w.heap.size + 1 + 1) o
theorem Mp.later {w W w' : World} {p o : List Value} (h : Mp w p o W) (hb : Below W.heap.size W w') : Mp w p o w' := ⟨h.below.trans (hb.mono h.below.size), h.arg.below hb, h.ans.below hb, h.out.below hb⟩
theorem Mp.put {w W : World} {p o : List Value} (h : Mp w p o W) (j : Nat) (x : Value) : Mp w p (o.set j x) (W.setCell ⟨w.heap.size + 1 + 1, j, none⟩ x) :=
  ⟨h.below.setCell (by simp; omega) _, h.arg.other (by omega) _ _, h.ans.other (by omega) _ _, h.out.set j x⟩
theorem Mp.size {w W : World} {p o : List Value} (h : Mp w p o W) : w.heap.size + 1 + 1 < W.heap.size := h.out.lt
/-- The three rows of a Mach that is made. -/
structure MRows (w : World) (g1 g2 g3 : Nat) (vs : List Vl) (cs : List Cl) (dn : List Int) : Prop where
  vs : St.Rows 67 St.encV w g1 vs
  cs : St.Rows 71 St.encC w g2 cs
  dn : St.Rows 3 Pg.encI w g3 dn
theorem MRows.below {W w : World} {g1 g2 g3 : Nat} {vs : List Vl} {cs : List Cl} {dn : List Int} (h : MRows W g1 g2 g3 vs cs dn) (hb : Below W.heap.size W w) : MRows w g1 g2 g3 vs cs dn :=
  ⟨h.vs.kept (hb.block _ h.vs.lt), h.cs.kept (hb.block _ h.cs.lt), h.dn.kept (hb.block _ h.dn.lt)⟩
theorem rows_rdc {w : World} {g : Nat} {cs : List Cl} (h : St.Rows 71 St.encC w g cs) (hs : ∀ c ∈ cs, SmC c) : RdC w (some ⟨g, 0, none⟩) cs := fun i c hi => by
  have hc := hs c (List.mem_of_getElem? hi)
  unfold SmC at hc
  refine ⟨g, 0, rfl, h.lt, by unfold maxLen; omega, by unfold maxLen; omega, ?_, ?_, ?_, ?_, ?_⟩ <;> rw [Nat.zero_add]
  · exact h.cell St.encC_len hi (j := 0) rfl
  · exact h.cell St.encC_len hi (j := 1) rfl
  · exact h.cell St.encC_len hi (j := 2) rfl
  · exact h.cell St.encC_len hi (j := 3) rfl
  · exact h.cell St.encC_len hi (j := 4) rfl
theorem MRows.rd {w : World} {g1 g2 g3 : Nat} {vs : List Vl} {cs : List Cl} {dn : List Int} {out : ByteArray} (h : MRows w g1 g2 g3 vs cs dn) (hm : MSm vs cs dn out) : MRd w (some ⟨g1, 0, none⟩) (some ⟨g2, 0, none⟩) (some ⟨g3, 0, none⟩) vs cs dn :=
  ⟨St.rows_rd h.vs (fun v hv => by have := hm.vs v hv; unfold St.SmV at this; unfold maxLen; omega), rows_rdc h.cs hm.cs, Pg.rows_rdi h.dn⟩

theorem ret_mach {fn : Func} {K : Nat} {R : Ending → World → Prop} {a : Act} {W : World} {B : Nat} {v0 v1 v2 v3 v4 v5 : Value} (hf : fn.results = #[.cell K 46]) (ht : a.tmps[K]? = some (.pointer (some ⟨B, 0, none⟩))) (hd : a.defers = [])
    (hV : Blk 46 W B [v0, v1, v2, v3, v4, v5]) (hR : R (.returned (.agg #[v0, v1, v2, v3, v4, v5])) W) : bodyPost Tryz.prog fn R .ret a W := by
  have x0 := hV.cell 0 rfl
  have x1 := hV.cell 1 rfl
  have x2 := hV.cell 2 rfl
  have x3 := hV.cell 3 rfl
  have x4 := hV.cell 4 rfl
  have x5 := hV.cell 5 rfl
  refine bodyPost_ret ?_ hd hR
  simp [results, hf, ht, go_sem, x0, x1, x2, x3, x4, x5]

set_option maxHeartbeats 2000000 in
set_option maxRecDepth 100000 in
theorem lToMach {a b c : Option Addr} {xa xb xc : Nat} {vs : List Vl} {cs : List Cl} {nr er : Int} {dn : List Int} {out : ByteArray} {w : World} (hM : MRd w a b c vs cs dn) (hm : MSm vs cs dn out) :
    Calls Tryz.prog 8 #[.agg #[.slice a vs.length xa, .slice b cs.length xb, .int .i64 nr, .int .i64 er, .slice c dn.length xc, .string out]] w fun e w' => ∃ g1 g2 g3, e = .returned (.agg #[.slice (some ⟨g1, 0, none⟩) vs.length vs.length, .slice (some ⟨g2, 0, none⟩) cs.length cs.length, .int .i64 nr, .int .i64 er, .slice (some ⟨g3, 0, none⟩) dn.length dn.length, .string out]) ∧ MRows w' g1 g2 g3 vs cs dn ∧ Below w.heap.size w w' := by
  obtain ⟨p, hp⟩ : ∃ p : List Value, p = [.slice a vs.length xa, .slice b cs.length xb, .int .i64 nr, .int .i64 er, .slice c dn.length xc, .string out] := ⟨_, rfl⟩
  obtain ⟨W0, hW0⟩ : ∃ W0, W0 = ((w.alloc (.cells #[.slice a vs.length xa, .slice b cs.length xb, .int .i64 nr, .int .i64 er, .slice c dn.length xc, .string out] 32)).alloc (.cells #[.slice none 0 0, .slice none 0 0, .int .i64 0, .int .i64 0, .slice none 0 0, .string ⟨#[]⟩] 46)).alloc (.cells #[.slice none 0 0, .slice none 0 0, .int .i64 0, .int .i64 0, .slice none 0 0, .string ⟨#[]⟩] 46) := ⟨_, rfl⟩
  have HP0 : Hid (Mp w p [.slice none 0 0, .slice none 0 0, .int .i64 0, .int .i64 0, .slice none 0 0, .string ⟨#[]⟩] W0) := by
    have k1 := Blk.new 46 (w.alloc (.cells #[.slice a vs.length xa, .slice b cs.length xb, .int .i64 nr, .int .i64 er, .slice c dn.length xc, .string out] 32)) [.slice none 0 0, .slice none 0 0, .int .i64 0, .int .i64 0, .slice none 0 0, .string ⟨#[]⟩]
    have k2 := Blk.new 46 ((w.alloc (.cells #[.slice a vs.length xa, .slice b cs.length xb, .int .i64 nr, .int .i64 er, .slice c dn.length xc, .string out] 32)).alloc (.cells #[.slice none 0 0, .slice none 0 0, .int .i64 0, .int .i64 0, .slice none 0 0, .string ⟨#[]⟩] 46)) [.slice none 0 0, .slice none 0 0, .int .i64 0, .int .i64 0, .slice none 0 0, .string ⟨#[]⟩]
    rw [World.size_alloc] at k1
    rw [World.size_alloc, World.size_alloc] at k2
    rw [hW0, hp]
    exact ⟨(((Below.refl _ w).alloc (Nat.le_refl _) _).alloc (by simp) _).alloc (by simp; omega) _, ((Blk.new 32 w [.slice a vs.length xa, .slice b cs.length xb, .int .i64 nr, .int .i64 er, .slice c dn.length xc, .string out]).alloc _).alloc _, k1.alloc _, k2⟩
  have C1 : Hid (∀ w', Below w.heap.size w w' → Calls Tryz.prog 25 #[.agg #[.slice a vs.length xa, .slice b cs.length xb, .int .i64 nr, .int .i64 er]] w' fun e w'' => ∃ g1 g2, e = .returned (.agg #[.slice (some ⟨g1, 0, none⟩) vs.length vs.length, .slice (some ⟨g2, 0, none⟩) cs.length cs.length, .int .i64 nr, .int .i64 er]) ∧ w'.heap.size ≤ g1 ∧ g1 < g2 ∧ St.Rows 67 St.encV w'' g1 vs ∧ St.Rows 71 St.encC w'' g2 cs ∧ Below w'.heap.size w' w'') := fun w' h => St.lToState (hM.vs.below h) (hM.cs.below h) hm.vn hm.cn
  have C2 : Hid (∀ w', Below w.heap.size w w' → Calls Tryz.prog 26 #[.slice c dn.length xc] w' fun e w'' => ∃ g, e = .returned (.slice (some ⟨g, 0, none⟩) dn.length dn.length) ∧ w'.heap.size ≤ g ∧ St.Rows 3 Pg.encI w'' g dn ∧ Below w'.heap.size w' w'') := fun w' h => Pg.lToIntS (hM.dn.below h) hm.dn
  clear hM hm
  go_enter Tryz.func8, Tryz.ntmps8
  go_wp2_with (go_at_call 25; refine hold ?_)
  rw [← hW0]
  clear hW0
  refine Calls.mono (C1.out _ HP0.out.below) ?_
  rintro e w1 ⟨g1, g2, rfl, hg1, hg2, R1, R2, hb1⟩
  have P1 := HP0.out.later hb1
  have hs := HP0.out.size
  have q0 := P1.out.cell 0 rfl
  have q1 := P1.out.cell 1 rfl
  have q2 := P1.out.cell 2 rfl
  have q3 := P1.out.cell 3 rfl
  have f0 := P1.out.frozen
  have a4 := P1.arg.cell 4 (by rw [hp]; rfl)
  have hG1 : w.heap.size + 1 + 1 < g1 := by omega
  have hG2 : w.heap.size + 1 + 1 < g2 := by omega
  obtain ⟨W1, hW1⟩ : ∃ W1, W1 = (((w1.setCell ⟨w.heap.size + 1 + 1, 0, none⟩ (.slice (some ⟨g1, 0, none⟩) vs.length vs.length)).setCell ⟨w.heap.size + 1 + 1, 1, none⟩ (.slice (some ⟨g2, 0, none⟩) cs.length cs.length)).setCell ⟨w.heap.size + 1 + 1, 2, none⟩ (.int .i64 nr)).setCell ⟨w.heap.size + 1 + 1, 3, none⟩ (.int .i64 er) := ⟨_, rfl⟩
  have H1 : Hid (Mp w p [.slice (some ⟨g1, 0, none⟩) vs.length vs.length, .slice (some ⟨g2, 0, none⟩) cs.length cs.length, .int .i64 nr, .int .i64 er, .slice none 0 0, .string ⟨#[]⟩] W1 ∧ St.Rows 67 St.encV W1 g1 vs ∧ St.Rows 71 St.encC W1 g2 cs) := by
    rw [hW1]
    exact ⟨(((P1.put 0 _).put 1 _).put 2 _).put 3 _, rows_put (rows_put (rows_put (rows_put R1 (by omega) _ _) (by omega) _ _) (by omega) _ _) (by omega) _ _, rows_put (rows_put (rows_put (rows_put R2 (by omega) _ _) (by omega) _ _) (by omega) _ _) (by omega) _ _⟩
  clear HP0 C1 P1 R1 R2 hb1 hg1 hg2 hs
  go_wp2_with (go_at_call 26; refine hold ?_)
  rw [← hW1]
  clear q0 q1 q2 q3 f0 a4 hW1
  refine Calls.mono (C2.out _ H1.out.1.below) ?_
  rintro e w2 ⟨g3, rfl, hg3, R3, hb2⟩
  have P2 := H1.out.1.later hb2
  have hs2 := H1.out.1.size
  have q0 := P2.out.cell 0 rfl
  have q1 := P2.out.cell 1 rfl
  have q2 := P2.out.cell 2 rfl
  have q3 := P2.out.cell 3 rfl
  have q4 := P2.out.cell 4 rfl
  have q5 := P2.out.cell 5 rfl
  have f0 := P2.out.frozen
  have a5 := P2.arg.cell 5 (by rw [hp]; rfl)
  have z0 := P2.ans.cell 0 rfl
  have z1 := P2.ans.cell 1 rfl
  have z2 := P2.ans.cell 2 rfl
  have z3 := P2.ans.cell 3 rfl
  have z4 := P2.ans.cell 4 rfl
  have z5 := P2.ans.cell 5 rfl
  have f1 := P2.ans.frozen
  have hG3 : w.heap.size + 1 + 1 < g3 := by omega
  have H2 : Hid (Mp w p [.slice (some ⟨g1, 0, none⟩) vs.length vs.length, .slice (some ⟨g2, 0, none⟩) cs.length cs.length, .int .i64 nr, .int .i64 er, .slice none 0 0, .string ⟨#[]⟩] w2 ∧ St.Rows 67 St.encV w2 g1 vs ∧ St.Rows 71 St.encC w2 g2 cs ∧ St.Rows 3 Pg.encI w2 g3 dn) := ⟨P2, H1.out.2.1.kept (hb2.block _ H1.out.2.1.lt), H1.out.2.2.kept (hb2.block _ H1.out.2.2.lt), R3⟩
  clear H1 C2 P2 R3 hb2 hg3 hs2
  go_wp2_with fail
  obtain ⟨P2, R1, R2, R3⟩ := H2.out
  have put8 : ∀ {α : Type} {T : TypeId} {f : α → List Value} {g : Nat} {vs : List α}, St.Rows T f w2 g vs → w.heap.size + 1 + 1 < g → ∀ (x4 x5 y0 y1 y2 y3 y4 y5 : Value), St.Rows T f ((((((((w2.setCell ⟨w.heap.size + 1 + 1, 4, none⟩ x4).setCell ⟨w.heap.size + 1 + 1, 5, none⟩ x5).setCell ⟨w.heap.size + 1, 0, none⟩ y0).setCell ⟨w.heap.size + 1, 1, none⟩ y1).setCell ⟨w.heap.size + 1, 2, none⟩ y2).setCell ⟨w.heap.size + 1, 3, none⟩ y3).setCell ⟨w.heap.size + 1, 4, none⟩ y4).setCell ⟨w.heap.size + 1, 5, none⟩ y5) g vs := fun h hg x4 x5 y0 y1 y2 y3 y4 y5 =>
    rows_put (rows_put (rows_put (rows_put (rows_put (rows_put (rows_put (rows_put h (by omega) _ _) (by omega) _ _) (by omega) _ _) (by omega) _ _) (by omega) _ _) (by omega) _ _) (by omega) _ _) (by omega) _ _
  refine ret_mach Tryz.results8 rfl rfl ((((((((P2.ans.other (g := w.heap.size + 1 + 1) (by omega) 4 _).other (g := w.heap.size + 1 + 1) (by omega) 5 _).set 0 _).set 1 _).set 2 _).set 3 _).set 4 _).set 5 _) ⟨g1, g2, g3, rfl, ⟨put8 R1 hG1 _ _ _ _ _ _ _ _, put8 R2 hG2 _ _ _ _ _ _ _ _, put8 R3 hG3 _ _ _ _ _ _ _ _⟩, ?_⟩
  exact (((((((P2.below.setCell (by simp; omega) _).setCell (by simp; omega) _).setCell (by simp) _).setCell (by simp) _).setCell (by simp) _).setCell (by simp) _).setCell (by simp) _).setCell (by simp) _

set_option maxHeartbeats 1000000 in
set_option maxRecDepth 100000 in
theorem lEqMach {a b c a' b' c' : Option Addr} {xa xb xc xa' xb' xc' : Nat} {vs : List Vl} {cs : List Cl} {nr er : Int} {dn : List Int} {out : ByteArray} {w : World} (h1 : MRd w a b c vs cs dn) (h2 : MRd w a' b' c' vs cs dn) (hm : MSm vs cs dn out) :
    Calls Tryz.prog 12 #[.agg #[.slice a vs.length xa, .slice b cs.length xb, .int .i64 nr, .int .i64 er, .slice c dn.length xc, .string out], .agg #[.slice a' vs.length xa', .slice b' cs.length xb', .int .i64 nr, .int .i64 er, .slice c' dn.length xc', .string out]] w fun e w' => e = .returned (.bool true) ∧ Below w.heap.size w w' := by
  obtain ⟨W0, hW0⟩ : ∃ W0, W0 = (w.alloc (.cells #[.slice a vs.length xa, .slice b cs.length xb, .int .i64 nr, .int .i64 er, .slice c dn.length xc, .string out] 46)).alloc (.cells #[.slice a' vs.length xa', .slice b' cs.length xb', .int .i64 nr, .int .i64 er, .slice c' dn.length xc', .string out] 46) := ⟨_, rfl⟩
  have HK0 : Hid (Below w.heap.size w W0 ∧ Blk 46 W0 w.heap.size [.slice a vs.length xa, .slice b cs.length xb, .int .i64 nr, .int .i64 er, .slice c dn.length xc, .string out] ∧ Blk 46 W0 (w.heap.size + 1) [.slice a' vs.length xa', .slice b' cs.length xb', .int .i64 nr, .int .i64 er, .slice c' dn.length xc', .string out]) := by
    have k1 := Blk.new 46 (w.alloc (.cells #[.slice a vs.length xa, .slice b cs.length xb, .int .i64 nr, .int .i64 er, .slice c dn.length xc, .string out] 46)) [.slice a' vs.length xa', .slice b' cs.length xb', .int .i64 nr, .int .i64 er, .slice c' dn.length xc', .string out]
    rw [World.size_alloc] at k1
    rw [hW0]
    exact ⟨((Below.refl _ w).alloc (Nat.le_refl _) _).alloc (by simp) _, (Blk.new _ _ _).alloc _, k1⟩
  have C1 : Hid (∀ w', Below w.heap.size w w' → Calls Tryz.prog 36 #[.agg #[.slice a vs.length xa, .slice b cs.length xb, .int .i64 nr, .int .i64 er], .agg #[.slice a' vs.length xa', .slice b' cs.length xb', .int .i64 nr, .int .i64 er]] w' fun e w'' => e = .returned (.bool true) ∧ Below w'.heap.size w' w'') := fun w' h => St.lEqState (h1.vs.below h) (h2.vs.below h) (h1.cs.below h) (h2.cs.below h) (by have := hm.vn; omega) (by have := hm.cn; omega)
  have C2 : Hid (∀ w', Below w.heap.size w w' → Calls Tryz.prog 37 #[.slice c dn.length xc, .slice c' dn.length xc'] w' fun e w'' => e = .returned (.bool true) ∧ Below w'.heap.size w' w'') := fun w' h => Pg.lEqIntS (h1.dn.below h) (h2.dn.below h) (by have := hm.dn; omega)
  clear h1 h2 hm
  go_enter Tryz.func12, Tryz.ntmps12
  go_wp2_with (go_at_call 36; refine hold ?_)
  rw [← hW0]
  clear hW0
  refine Calls.mono (C1.out _ HK0.out.1) ?_
  rintro e w1 ⟨rfl, hb1⟩
  have H1 : Hid (Below w.heap.size w w1 ∧ Blk 46 w1 w.heap.size [.slice a vs.length xa, .slice b cs.length xb, .int .i64 nr, .int .i64 er, .slice c dn.length xc, .string out] ∧ Blk 46 w1 (w.heap.size + 1) [.slice a' vs.length xa', .slice b' cs.length xb', .int .i64 nr, .int .i64 er, .slice c' dn.length xc', .string out]) := ⟨HK0.out.1.trans (hb1.mono HK0.out.1.size), HK0.out.2.1.below hb1, HK0.out.2.2.below hb1⟩
  have x4 := H1.out.2.1.cell 4 rfl
  have y4 := H1.out.2.2.cell 4 rfl
  clear hb1 HK0 C1
  go_wp2_with (go_at_call 37; refine hold ?_)
  clear x4 y4
  refine Calls.mono (C2.out _ H1.out.1) ?_
  rintro e w2 ⟨rfl, hb2⟩
  have H2 : Hid (Below w.heap.size w w2 ∧ Blk 46 w2 w.heap.size [.slice a vs.length xa, .slice b cs.length xb, .int .i64 nr, .int .i64 er, .slice c dn.length xc, .string out] ∧ Blk 46 w2 (w.heap.size + 1) [.slice a' vs.length xa', .slice b' cs.length xb', .int .i64 nr, .int .i64 er, .slice c' dn.length xc', .string out]) := ⟨H1.out.1.trans (hb2.mono H1.out.1.size), H1.out.2.1.below hb2, H1.out.2.2.below hb2⟩
  have x5 := H2.out.2.1.cell 5 rfl
  have y5 := H2.out.2.2.cell 5 rfl
  clear hb2 H1 C2
  go_wp2_with fail
  go_ret
  exact ⟨rfl, H2.out.1⟩

end Mh
end Go.Proofs.YtkhoccjfkkfipaaGreatDoor
