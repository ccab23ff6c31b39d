/-
  The laws' sizes, copies and comparisons of a program.
-/
import Derived.Test.YtkhoccjfkkfipaaGreatDoorP06
namespace Go.Proofs.YtkhoccjfkkfipaaGreatDoor
open Go.RowKit
namespace Pg
open St (Vl RdV)
open Oc (hold heap_new Blk SmV)

/-- The four lists of a program that is read. -/
structure PRd (w : World) (va ca sa ma : Option Addr) (vars cells : List ByteArray) (st mn : List Vl) : Prop where
  vs : RdT w va vars
  cs : RdT w ca cells
  ss : RdV w sa st
  ms : RdV w ma mn
theorem PRd.below {W w : World} {va ca sa ma : Option Addr} {vars cells : List ByteArray} {st mn : List Vl} (h : PRd W va ca sa ma vars cells st mn) (hb : Below W.heap.size W w) : PRd w va ca sa ma vars cells st mn := ⟨h.vs.below hb, h.cs.below hb, h.ss.below hb, h.ms.below hb⟩
/-- None of it is long. -/
structure PSm (vars cells : List ByteArray) (st mn : List Vl) : Prop where
  vn : vars.length ≤ 1048576
  vs : ∀ s ∈ vars, SmT s
  cn : cells.length ≤ 1048576
  cs : ∀ s ∈ cells, SmT s
  sn : st.length ≤ 1048576
  ss : ∀ v ∈ st, SmV v
  mm : mn.length ≤ 1048576
  ms : ∀ v ∈ mn, SmV v

set_option maxHeartbeats 1000000 in
set_option maxRecDepth 100000 in
theorem lSzProg {va ca sa ma : Option Addr} {vc cc sc mc : Nat} {vars cells : List ByteArray} {st mn : List Vl} {W : World} (hR : PRd W va ca sa ma vars cells st mn) (nv : vars.length ≤ maxLen) (nc : cells.length ≤ maxLen) (ns : st.length ≤ maxLen) (nm : mn.length ≤ maxLen) :
    Calls Tryz.prog 4 #[.agg #[.slice va vars.length vc, .slice ca cells.length cc, .slice sa st.length sc, .slice ma mn.length mc], .int .i64 1048576] W fun e w' => ∃ z, e = .returned (.int .i64 z) ∧ (z < 0 ∨ PSm vars cells st mn) ∧ Below W.heap.size W w' := by
  have hb : ∀ o, Below W.heap.size W (W.alloc o) := fun o => (Below.refl _ W).alloc (Nat.le_refl _) o
  have C1 : Hid (∀ w' (h : Below W.heap.size W w') l, 0 ≤ l → l ≤ 1048576 → Calls Tryz.prog 17 #[.slice va vars.length vc, .int .i64 l] w' fun e w'' => ∃ z, e = .returned (.int .i64 z) ∧ -1 ≤ z ∧ z ≤ 1048576 ∧ (z < 0 ∨ (vars.length ≤ 1048576 ∧ ∀ s ∈ vars, SmT s)) ∧ Below w'.heap.size w' w'') := fun w' h l h0 h1 => lSzStringS h0 h1 (hR.vs.below h) nv
  have C2 : Hid (∀ w' (h : Below W.heap.size W w') l, 0 ≤ l → l ≤ 1048576 → Calls Tryz.prog 17 #[.slice ca cells.length cc, .int .i64 l] w' fun e w'' => ∃ z, e = .returned (.int .i64 z) ∧ -1 ≤ z ∧ z ≤ 1048576 ∧ (z < 0 ∨ (cells.length ≤ 1048576 ∧ ∀ s ∈ cells, SmT s)) ∧ Below w'.heap.size w' w'') := fun w' h l h0 h1 => lSzStringS h0 h1 (hR.cs.below h) nc
  have C3 : Hid (∀ w' (h : Below W.heap.size W w') l, 0 ≤ l → l ≤ 1048576 → Calls Tryz.prog 18 #[.slice sa st.length sc, .int .i64 l] w' fun e w'' => ∃ z, e = .returned (.int .i64 z) ∧ -1 ≤ z ∧ z ≤ 1048576 ∧ (z < 0 ∨ (st.length ≤ 1048576 ∧ ∀ v ∈ st, SmV v)) ∧ Below w'.heap.size w' w'') := fun w' h l h0 h1 => lSzOpSL h0 h1 (hR.ss.below h) ns
  have C4 : Hid (∀ w' (h : Below W.heap.size W w') l, 0 ≤ l → l ≤ 1048576 → Calls Tryz.prog 18 #[.slice ma mn.length mc, .int .i64 l] w' fun e w'' => ∃ z, e = .returned (.int .i64 z) ∧ -1 ≤ z ∧ z ≤ 1048576 ∧ (z < 0 ∨ (mn.length ≤ 1048576 ∧ ∀ v ∈ mn, SmV v)) ∧ Below w'.heap.size w' w'') := fun w' h l h0 h1 => lSzOpSL h0 h1 (hR.ms.below h) nm
  have hk : Hid (Blk 25 (W.alloc (.cells #[.slice va vars.length vc, .slice ca cells.length cc, .slice sa st.length sc, .slice ma mn.length mc] 25)) W.heap.size [.slice va vars.length vc, .slice ca cells.length cc, .slice sa st.length sc, .slice ma mn.length mc]) := Blk.new _ _ _
  clear hR nv nc ns nm
  go_enter Tryz.func4, Tryz.ntmps4
  go_wp2_with (go_at_call 17; refine hold ?_)
  refine Calls.mono (C1.out _ (hb _) _ (by omega) (by omega)) ?_
  rintro e w2 ⟨z, rfl, z0, z1, z2, hb2⟩
  have B2 := (hb _).trans (hb2.mono (hb _).size)
  have K2 := hk.out.below hb2
  have HZ : Hid (z < 0 ∨ (vars.length ≤ 1048576 ∧ ∀ s ∈ vars, SmT s)) := z2
  have H2 : Hid (Below W.heap.size W w2 ∧ Blk 25 w2 W.heap.size [.slice va vars.length vc, .slice ca cells.length cc, .slice sa st.length sc, .slice ma mn.length mc]) := ⟨B2, K2⟩
  have x1 := K2.cell 1 rfl
  clear B2 K2 z2 hb2 C1 hk hb
  go_wp2_with (go_at_call 17; refine hold ?_)
  · go_ret
    exact ⟨_, rfl, .inl (by omega), H2.out.1⟩
  refine Calls.mono (C2.out _ H2.out.1 _ (by omega) (by omega)) ?_
  rintro e w3 ⟨y, rfl, y0, y1, y2, hb3⟩
  have B3 := H2.out.1.trans (hb3.mono H2.out.1.size)
  have K3 := H2.out.2.below hb3
  have HY : Hid (y < 0 ∨ (cells.length ≤ 1048576 ∧ ∀ s ∈ cells, SmT s)) := y2
  have H3 : Hid (Below W.heap.size W w3 ∧ Blk 25 w3 W.heap.size [.slice va vars.length vc, .slice ca cells.length cc, .slice sa st.length sc, .slice ma mn.length mc]) := ⟨B3, K3⟩
  clear x1
  have x2 := K3.cell 2 rfl
  clear B3 K3 y2 hb3 C2 H2
  go_wp2_with (go_at_call 18; refine hold ?_)
  · go_ret
    exact ⟨_, rfl, .inl (by omega), H3.out.1⟩
  refine Calls.mono (C3.out _ H3.out.1 _ (by omega) (by omega)) ?_
  rintro e w4 ⟨x, rfl, x0, x1, xx, hb4⟩
  have B4 := H3.out.1.trans (hb4.mono H3.out.1.size)
  have K4 := H3.out.2.below hb4
  have HX : Hid (x < 0 ∨ (st.length ≤ 1048576 ∧ ∀ v ∈ st, SmV v)) := xx
  have H4 : Hid (Below W.heap.size W w4) := B4
  clear x2
  have x3 := K4.cell 3 rfl
  clear B4 K4 xx hb4 C3 H3
  go_wp2_with (go_at_call 18; refine hold ?_)
  · go_ret
    exact ⟨_, rfl, .inl (by omega), H4.out⟩
  refine Calls.mono (C4.out _ H4.out _ (by omega) (by omega)) ?_
  rintro e w5 ⟨u, rfl, u0, u1, uu, hb5⟩
  have HU : Hid (u < 0 ∨ (mn.length ≤ 1048576 ∧ ∀ v ∈ mn, SmV v)) := uu
  have H5 : Hid (Below W.heap.size W w5) := H4.out.trans (hb5.mono H4.out.size)
  clear uu hb5 C4 H4 x3
  go_wp2_with fail
  · go_ret
    exact ⟨_, rfl, .inl (by omega), H5.out⟩
  · go_ret
    refine ⟨_, rfl, .inr ?_, H5.out⟩
    obtain ⟨a1, a2⟩ := HZ.out.resolve_left (by omega)
    obtain ⟨b1, b2⟩ := HY.out.resolve_left (by omega)
    obtain ⟨c1, c2⟩ := HX.out.resolve_left (by omega)
    obtain ⟨d1, d2⟩ := HU.out.resolve_left (by omega)
    exact ⟨a1, a2, b1, b2, c1, c2, d1, d2⟩

theorem rows_put {α : Type} {T : TypeId} {f : α → List Value} {w : World} {g : Nat} {vs : List α} (h : St.Rows T f w g vs) {B : Nat} (hB : g ≠ B) (j : Nat) (x : Value) : St.Rows T f (w.setCell ⟨B, j, none⟩ x) g vs := h.kept (Below.heap_setCell _ _ _ _ hB)

/-- What a copy is while it is made: the argument, the answer, the program at work. -/
structure Cp (w : World) (p o : List Value) (W : World) : Prop where
  below : Below w.heap.size w W
  arg : Blk 25 W w.heap.size p
  ans : Blk 39 W (w.heap.size + 1) [.slice none 0 0, .slice none 0 0, .slice none 0 0, .slice none 0 0]
  out : Blk 39 W (w.heap.size + 1 + 1) o
theorem Cp.later {w W w' : World} {p o : List Value} (h : Cp w p o W) (hb : Below W.heap.size W w') : Cp w p o w' := ⟨h.below.trans (hb.mono h.below.size), h.arg.below hb, h.ans.below hb, h.out.below hb⟩
theorem Cp.put {w W : World} {p o : List Value} (h : Cp w p o W) (j : Nat) (x : Value) : Cp w p (o.set j x) (W.setCell ⟨w.heap.size + 1 + 1, j, none⟩ x) :=
  ⟨h.below.setCell (by simp; omega) _, h.arg.other (by omega) _ _, h.ans.other (by omega) _ _, h.out.set j x⟩
theorem Cp.size {w W : World} {p o : List Value} (h : Cp w p o W) : w.heap.size + 1 + 1 < W.heap.size := h.out.lt
/-- The four lists of a program that is made. -/
structure PRows (w : World) (g1 g2 g3 g4 : Nat) (vars cells : List ByteArray) (st mn : List Vl) : Prop where
  vs : St.Rows 9 encT w g1 vars
  cs : St.Rows 9 encT w g2 cells
  ss : St.Rows 92 St.encV w g3 st
  ms : St.Rows 92 St.encV w g4 mn
theorem PRows.rd {w : World} {g1 g2 g3 g4 : Nat} {vars cells : List ByteArray} {st mn : List Vl} (h : PRows w g1 g2 g3 g4 vars cells st mn) (hm : PSm vars cells st mn) : PRd w (some ⟨g1, 0, none⟩) (some ⟨g2, 0, none⟩) (some ⟨g3, 0, none⟩) (some ⟨g4, 0, none⟩) vars cells st mn :=
  ⟨rows_rdt h.vs (smt_max hm.vs), rows_rdt h.cs (smt_max hm.cs), Oc.rows_rd h.ss (Oc.smv_max hm.ss), Oc.rows_rd h.ms (Oc.smv_max hm.ms)⟩

theorem ret_prog {fn : Func} {K : Nat} {R : Ending → World → Prop} {a : Act} {W : World} {B : Nat} {v0 v1 v2 v3 : Value} (hf : fn.results = #[.cell K 39]) (ht : a.tmps[K]? = some (.pointer (some ⟨B, 0, none⟩))) (hd : a.defers = [])
    (hV : Blk 39 W B [v0, v1, v2, v3]) (hR : R (.returned (.agg #[v0, v1, v2, v3])) W) : bodyPost Tryz.prog fn R .ret a W := by
  have x0 := hV.cell 0 rfl
  have x1 := hV.cell 1 rfl
  have x2 := hV.cell 2 rfl
  have x3 := hV.cell 3 rfl
  refine bodyPost_ret ?_ hd hR
  simp [results, hf, ht, go_sem, x0, x1, x2, x3]

set_option maxHeartbeats 2000000 in
set_option maxRecDepth 100000 in
theorem lToProg {va ca sa ma : Option Addr} {vc cc sc mc : Nat} {vars cells : List ByteArray} {st mn : List Vl} {w : World} (hR : PRd w va ca sa ma vars cells st mn) (hm : PSm vars cells st mn) :
    Calls Tryz.prog 7 #[.agg #[.slice va vars.length vc, .slice ca cells.length cc, .slice sa st.length sc, .slice ma mn.length mc]] w fun e w' => ∃ g1 g2 g3 g4, e = .returned (.agg #[.slice (some ⟨g1, 0, none⟩) vars.length vars.length, .slice (some ⟨g2, 0, none⟩) cells.length cells.length, .slice (some ⟨g3, 0, none⟩) st.length st.length, .slice (some ⟨g4, 0, none⟩) mn.length mn.length]) ∧ PRows w' g1 g2 g3 g4 vars cells st mn ∧ Below w.heap.size w w' := by
  obtain ⟨p, hp⟩ : ∃ p : List Value, p = [.slice va vars.length vc, .slice ca cells.length cc, .slice sa st.length sc, .slice ma mn.length mc] := ⟨_, rfl⟩
  obtain ⟨W0, hW0⟩ : ∃ W0, W0 = ((w.alloc (.cells #[.slice va vars.length vc, .slice ca cells.length cc, .slice sa st.length sc, .slice ma mn.length mc] 25)).alloc (.cells #[.slice none 0 0, .slice none 0 0, .slice none 0 0, .slice none 0 0] 39)).alloc (.cells #[.slice none 0 0, .slice none 0 0, .slice none 0 0, .slice none 0 0] 39) := ⟨_, rfl⟩
  have HP0 : Hid (Cp w p [.slice none 0 0, .slice none 0 0, .slice none 0 0, .slice none 0 0] W0) := by
    have k1 := Blk.new 39 (w.alloc (.cells #[.slice va vars.length vc, .slice ca cells.length cc, .slice sa st.length sc, .slice ma mn.length mc] 25)) [.slice none 0 0, .slice none 0 0, .slice none 0 0, .slice none 0 0]
    have k2 := Blk.new 39 ((w.alloc (.cells #[.slice va vars.length vc, .slice ca cells.length cc, .slice sa st.length sc, .slice ma mn.length mc] 25)).alloc (.cells #[.slice none 0 0, .slice none 0 0, .slice none 0 0, .slice none 0 0] 39)) [.slice none 0 0, .slice none 0 0, .slice none 0 0, .slice none 0 0]
    rw [World.size_alloc] at k1
    rw [World.size_alloc, World.size_alloc] at k2
    rw [hW0, hp]
    exact ⟨(((Below.refl _ w).alloc (Nat.le_refl _) _).alloc (by simp) _).alloc (by simp; omega) _, ((Blk.new 25 w [.slice va vars.length vc, .slice ca cells.length cc, .slice sa st.length sc, .slice ma mn.length mc]).alloc _).alloc _, k1.alloc _, k2⟩
  have C1 : Hid (∀ w', Below w.heap.size w w' → Calls Tryz.prog 23 #[.slice va vars.length vc] w' fun e w'' => ∃ g, e = .returned (.slice (some ⟨g, 0, none⟩) vars.length vars.length) ∧ w'.heap.size ≤ g ∧ St.Rows 9 encT w'' g vars ∧ Below w'.heap.size w' w'') := fun w' h => lToStringS (hR.vs.below h) hm.vn
  have C2 : Hid (∀ w', Below w.heap.size w w' → Calls Tryz.prog 23 #[.slice ca cells.length cc] w' fun e w'' => ∃ g, e = .returned (.slice (some ⟨g, 0, none⟩) cells.length cells.length) ∧ w'.heap.size ≤ g ∧ St.Rows 9 encT w'' g cells ∧ Below w'.heap.size w' w'') := fun w' h => lToStringS (hR.cs.below h) hm.cn
  have C3 : Hid (∀ w', Below w.heap.size w w' → Calls Tryz.prog 24 #[.slice sa st.length sc] w' fun e w'' => ∃ g, e = .returned (.slice (some ⟨g, 0, none⟩) st.length st.length) ∧ w'.heap.size ≤ g ∧ St.Rows 92 St.encV w'' g st ∧ Below w'.heap.size w' w'') := fun w' h => Oc.lToOpS (hR.ss.below h) hm.sn
  have C4 : Hid (∀ w', Below w.heap.size w w' → Calls Tryz.prog 24 #[.slice ma mn.length mc] w' fun e w'' => ∃ g, e = .returned (.slice (some ⟨g, 0, none⟩) mn.length mn.length) ∧ w'.heap.size ≤ g ∧ St.Rows 92 St.encV w'' g mn ∧ Below w'.heap.size w' w'') := fun w' h => Oc.lToOpS (hR.ms.below h) hm.mm
  clear hR hm
  go_enter Tryz.func7, Tryz.ntmps7
  go_wp2_with (go_at_call 23; refine hold ?_)
  rw [← hW0]
  clear hW0
  refine Calls.mono (C1.out _ HP0.out.below) ?_
  rintro e w1 ⟨g1, rfl, hg1, R1, hb1⟩
  have P1 := HP0.out.later hb1
  have hs := HP0.out.size
  have q0 := P1.out.cell 0 rfl
  have f0 := P1.out.frozen
  have P1' := P1.put 0 (.slice (some ⟨g1, 0, none⟩) vars.length vars.length)
  have R1' := rows_put R1 (B := w.heap.size + 1 + 1) (by omega) 0 (.slice (some ⟨g1, 0, none⟩) vars.length vars.length)
  have a1 := P1.arg.cell 1 (by rw [hp]; rfl)
  have hG1 : w.heap.size + 1 + 1 < g1 := by omega
  have H1 : Hid (Cp w p [.slice (some ⟨g1, 0, none⟩) vars.length vars.length, .slice none 0 0, .slice none 0 0, .slice none 0 0] (w1.setCell ⟨w.heap.size + 1 + 1, 0, none⟩ (.slice (some ⟨g1, 0, none⟩) vars.length vars.length)) ∧ St.Rows 9 encT (w1.setCell ⟨w.heap.size + 1 + 1, 0, none⟩ (.slice (some ⟨g1, 0, none⟩) vars.length vars.length)) g1 vars) := ⟨P1', R1'⟩
  clear HP0 C1 P1 P1' R1 R1' hb1 hg1
  go_wp2_with (go_at_call 23; refine hold ?_)
  refine Calls.mono (C2.out _ H1.out.1.below) ?_
  clear q0 f0 a1
  rintro e w2 ⟨g2, rfl, hg2, R2, hb2⟩
  have P2 := H1.out.1.later hb2
  have hs2 := H1.out.1.size
  have q0 := P2.out.cell 1 rfl
  have f0 := P2.out.frozen
  have a1 := P2.arg.cell 2 (by rw [hp]; rfl)
  have hG2 : w.heap.size + 1 + 1 < g2 := by omega
  have H2 : Hid (Cp w p [.slice (some ⟨g1, 0, none⟩) vars.length vars.length, .slice (some ⟨g2, 0, none⟩) cells.length cells.length, .slice none 0 0, .slice none 0 0] (w2.setCell ⟨w.heap.size + 1 + 1, 1, none⟩ (.slice (some ⟨g2, 0, none⟩) cells.length cells.length)) ∧ St.Rows 9 encT (w2.setCell ⟨w.heap.size + 1 + 1, 1, none⟩ (.slice (some ⟨g2, 0, none⟩) cells.length cells.length)) g1 vars ∧ St.Rows 9 encT (w2.setCell ⟨w.heap.size + 1 + 1, 1, none⟩ (.slice (some ⟨g2, 0, none⟩) cells.length cells.length)) g2 cells) :=
    ⟨P2.put 1 _, rows_put (H1.out.2.kept (hb2.block _ H1.out.2.lt)) (by omega) 1 _, rows_put R2 (by omega) 1 _⟩
  clear H1 C2 P2 R2 hb2 hg2 hs2
  go_wp2_with (go_at_call 24; refine hold ?_)
  refine Calls.mono (C3.out _ H2.out.1.below) ?_
  clear q0 f0 a1
  rintro e w3 ⟨g3, rfl, hg3, R3, hb3⟩
  have P3 := H2.out.1.later hb3
  have hs3 := H2.out.1.size
  have q0 := P3.out.cell 2 rfl
  have f0 := P3.out.frozen
  have a1 := P3.arg.cell 3 (by rw [hp]; rfl)
  have hG3 : w.heap.size + 1 + 1 < g3 := by omega
  have H3 : Hid (Cp w p [.slice (some ⟨g1, 0, none⟩) vars.length vars.length, .slice (some ⟨g2, 0, none⟩) cells.length cells.length, .slice (some ⟨g3, 0, none⟩) st.length st.length, .slice none 0 0] (w3.setCell ⟨w.heap.size + 1 + 1, 2, none⟩ (.slice (some ⟨g3, 0, none⟩) st.length st.length)) ∧ St.Rows 9 encT (w3.setCell ⟨w.heap.size + 1 + 1, 2, none⟩ (.slice (some ⟨g3, 0, none⟩) st.length st.length)) g1 vars ∧ St.Rows 9 encT (w3.setCell ⟨w.heap.size + 1 + 1, 2, none⟩ (.slice (some ⟨g3, 0, none⟩) st.length st.length)) g2 cells ∧ St.Rows 92 St.encV (w3.setCell ⟨w.heap.size + 1 + 1, 2, none⟩ (.slice (some ⟨g3, 0, none⟩) st.length st.length)) g3 st) :=
    ⟨P3.put 2 _, rows_put (H2.out.2.1.kept (hb3.block _ H2.out.2.1.lt)) (by omega) 2 _, rows_put (H2.out.2.2.kept (hb3.block _ H2.out.2.2.lt)) (by omega) 2 _, rows_put R3 (by omega) 2 _⟩
  clear H2 C3 P3 R3 hb3 hg3 hs3
  go_wp2_with (go_at_call 24; refine hold ?_)
  refine Calls.mono (C4.out _ H3.out.1.below) ?_
  clear q0 f0 a1
  rintro e w4 ⟨g4, rfl, hg4, R4, hb4⟩
  have P4 := H3.out.1.later hb4
  have hs4 := H3.out.1.size
  have q0 := P4.out.cell 0 rfl
  have q1 := P4.out.cell 1 rfl
  have q2 := P4.out.cell 2 rfl
  have q3 := P4.out.cell 3 rfl
  have f0 := P4.out.frozen
  have z0 := P4.ans.cell 0 rfl
  have z1 := P4.ans.cell 1 rfl
  have z2 := P4.ans.cell 2 rfl
  have z3 := P4.ans.cell 3 rfl
  have f1 := P4.ans.frozen
  have hG4 : w.heap.size + 1 + 1 < g4 := by omega
  have H4 : Hid (Cp w p [.slice (some ⟨g1, 0, none⟩) vars.length vars.length, .slice (some ⟨g2, 0, none⟩) cells.length cells.length, .slice (some ⟨g3, 0, none⟩) st.length st.length, .slice none 0 0] w4 ∧ St.Rows 9 encT w4 g1 vars ∧ St.Rows 9 encT w4 g2 cells ∧ St.Rows 92 St.encV w4 g3 st ∧ St.Rows 92 St.encV w4 g4 mn) :=
    ⟨P4, H3.out.2.1.kept (hb4.block _ H3.out.2.1.lt), H3.out.2.2.1.kept (hb4.block _ H3.out.2.2.1.lt), H3.out.2.2.2.kept (hb4.block _ H3.out.2.2.2.lt), R4⟩
  clear H3 C4 P4 R4 hb4 hg4 hs4
  go_wp2_with fail
  obtain ⟨P4, R1, R2, R3, R4⟩ := H4.out
  refine ret_prog Tryz.results7 rfl rfl (((((P4.ans.other (g := w.heap.size + 1 + 1) (by omega) 3 _).set 0 _).set 1 _).set 2 _).set 3 _) ⟨g1, g2, g3, g4, rfl, ⟨?_, ?_, ?_, ?_⟩, ?_⟩
  · exact rows_put (rows_put (rows_put (rows_put (rows_put R1 (by omega) _ _) (by omega) _ _) (by omega) _ _) (by omega) _ _) (by omega) _ _
  · exact rows_put (rows_put (rows_put (rows_put (rows_put R2 (by omega) _ _) (by omega) _ _) (by omega) _ _) (by omega) _ _) (by omega) _ _
  · exact rows_put (rows_put (rows_put (rows_put (rows_put R3 (by omega) _ _) (by omega) _ _) (by omega) _ _) (by omega) _ _) (by omega) _ _
  · exact rows_put (rows_put (rows_put (rows_put (rows_put R4 (by omega) _ _) (by omega) _ _) (by omega) _ _) (by omega) _ _) (by omega) _ _
  · exact ((((P4.below.setCell (by simp; omega) _).setCell (by simp) _).setCell (by simp) _).setCell (by simp) _).setCell (by simp) _

set_option maxHeartbeats 1000000 in
set_option maxRecDepth 100000 in
theorem lEqProg {va ca sa ma va' ca' sa' ma' : Option Addr} {vc cc sc mc vc' cc' sc' mc' : Nat} {vars cells : List ByteArray} {st mn : List Vl} {w : World} (h1 : PRd w va ca sa ma vars cells st mn) (h2 : PRd w va' ca' sa' ma' vars cells st mn) (hm : PSm vars cells st mn) :
    Calls Tryz.prog 11 #[.agg #[.slice va vars.length vc, .slice ca cells.length cc, .slice sa st.length sc, .slice ma mn.length mc], .agg #[.slice va' vars.length vc', .slice ca' cells.length cc', .slice sa' st.length sc', .slice ma' mn.length mc']] w fun e w' => e = .returned (.bool true) ∧ Below w.heap.size w w' := by
  obtain ⟨W0, hW0⟩ : ∃ W0, W0 = (w.alloc (.cells #[.slice va vars.length vc, .slice ca cells.length cc, .slice sa st.length sc, .slice ma mn.length mc] 39)).alloc (.cells #[.slice va' vars.length vc', .slice ca' cells.length cc', .slice sa' st.length sc', .slice ma' mn.length mc'] 39) := ⟨_, rfl⟩
  have HK0 : Hid (Below w.heap.size w W0 ∧ Blk 39 W0 w.heap.size [.slice va vars.length vc, .slice ca cells.length cc, .slice sa st.length sc, .slice ma mn.length mc] ∧ Blk 39 W0 (w.heap.size + 1) [.slice va' vars.length vc', .slice ca' cells.length cc', .slice sa' st.length sc', .slice ma' mn.length mc']) := by
    have k1 := Blk.new 39 (w.alloc (.cells #[.slice va vars.length vc, .slice ca cells.length cc, .slice sa st.length sc, .slice ma mn.length mc] 39)) [.slice va' vars.length vc', .slice ca' cells.length cc', .slice sa' st.length sc', .slice ma' mn.length mc']
    rw [World.size_alloc] at k1
    rw [hW0]
    exact ⟨((Below.refl _ w).alloc (Nat.le_refl _) _).alloc (by simp) _, (Blk.new _ _ _).alloc _, k1⟩
  have C1 : Hid (∀ w', Below w.heap.size w w' → Calls Tryz.prog 34 #[.slice va vars.length vc, .slice va' vars.length vc'] w' fun e w'' => e = .returned (.bool true) ∧ Below w'.heap.size w' w'') := fun w' h => lEqStringS (h1.vs.below h) (h2.vs.below h) (by have := hm.vn; omega)
  have C2 : Hid (∀ w', Below w.heap.size w w' → Calls Tryz.prog 34 #[.slice ca cells.length cc, .slice ca' cells.length cc'] w' fun e w'' => e = .returned (.bool true) ∧ Below w'.heap.size w' w'') := fun w' h => lEqStringS (h1.cs.below h) (h2.cs.below h) (by have := hm.cn; omega)
  have C3 : Hid (∀ w', Below w.heap.size w w' → Calls Tryz.prog 35 #[.slice sa st.length sc, .slice sa' st.length sc'] w' fun e w'' => e = .returned (.bool true) ∧ Below w'.heap.size w' w'') := fun w' h => Oc.lEqOpS (h1.ss.below h) (h2.ss.below h) (by have := hm.sn; omega)
  have C4 : Hid (∀ w', Below w.heap.size w w' → Calls Tryz.prog 35 #[.slice ma mn.length mc, .slice ma' mn.length mc'] w' fun e w'' => e = .returned (.bool true) ∧ Below w'.heap.size w' w'') := fun w' h => Oc.lEqOpS (h1.ms.below h) (h2.ms.below h) (by have := hm.mm; omega)
  have HL : Hid (∀ W w2, (Below w.heap.size w W ∧ Blk 39 W w.heap.size [.slice va vars.length vc, .slice ca cells.length cc, .slice sa st.length sc, .slice ma mn.length mc] ∧ Blk 39 W (w.heap.size + 1) [.slice va' vars.length vc', .slice ca' cells.length cc', .slice sa' st.length sc', .slice ma' mn.length mc']) → Below W.heap.size W w2 → (Below w.heap.size w w2 ∧ Blk 39 w2 w.heap.size [.slice va vars.length vc, .slice ca cells.length cc, .slice sa st.length sc, .slice ma mn.length mc] ∧ Blk 39 w2 (w.heap.size + 1) [.slice va' vars.length vc', .slice ca' cells.length cc', .slice sa' st.length sc', .slice ma' mn.length mc'])) :=
    fun W w2 h hb => ⟨h.1.trans (hb.mono h.1.size), h.2.1.below hb, h.2.2.below hb⟩
  clear h1 h2 hm
  go_enter Tryz.func11, Tryz.ntmps11
  go_wp2_with (go_at_call 34; refine hold ?_)
  rw [← hW0]
  clear hW0
  refine Calls.mono (C1.out _ HK0.out.1) ?_
  rintro e w1 ⟨rfl, hb1⟩
  have H1 : Hid _ := HL.out _ _ HK0.out hb1
  have x := H1.out.2.1.cell 1 rfl
  have y := H1.out.2.2.cell 1 rfl
  clear hb1 HK0 C1
  go_wp2_with (go_at_call 34; refine hold ?_)
  refine Calls.mono (C2.out _ H1.out.1) ?_
  rintro e w2 ⟨rfl, hb2⟩
  have H2 : Hid _ := HL.out _ _ H1.out hb2
  clear x y
  have x := H2.out.2.1.cell 2 rfl
  have y := H2.out.2.2.cell 2 rfl
  clear hb2 H1 C2
  go_wp2_with (go_at_call 35; refine hold ?_)
  refine Calls.mono (C3.out _ H2.out.1) ?_
  rintro e w3 ⟨rfl, hb3⟩
  have H3 : Hid _ := HL.out _ _ H2.out hb3
  clear x y
  have x := H3.out.2.1.cell 3 rfl
  have y := H3.out.2.2.cell 3 rfl
  clear hb3 H2 C3
  go_wp2_with (go_at_call 35; refine hold ?_)
  refine Calls.mono (C4.out _ H3.out.1) ?_
  rintro e w4 ⟨rfl, hb4⟩
  go_wp2_with fail
  go_ret
  exact ⟨rfl, H3.out.1.trans (hb4.mono H3.out.1.size)⟩

end Pg
end Go.Proofs.YtkhoccjfkkfipaaGreatDoor
