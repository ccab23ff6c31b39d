/-
  What is right of a Mach is small enough to be put; MachBytes of both sides at every Prog and Mach.
  toProg, toMach: the rows that they answer are new.
-/
import Derived.Test.YtkhoccjfkkfipaaGreatDoorP05
import Derived.Test.YtkhoccjfkkfipaaGreatDoorP45
namespace Go.Proofs.YtkhoccjfkkfipaaGreatDoor
open Go.RowKit
namespace Mb
open Bt (Row Ch hold Ans)
open St (Vl Cl encV encC RdV RdC)
open Pg (PRd PSm)
open Mh (MRd MSm machB)
set_option linter.unusedSimpArgs false
set_option linter.unusedVariables false

theorem vl_right {v : Vl} (h : St.okVl v = true) : VR v := by
  unfold St.okVl Go.Proofs.YtkhoccjfkkfipaaGreatDoor.Vl.okV Go.Proofs.YtkhoccjfkkfipaaGreatDoor.Vl.kindB Dec.okB at h
  simp only [Bool.and_eq_true, decide_eq_true_eq] at h
  obtain ⟨⟨⟨h1, h2⟩, h3⟩, h4⟩ := h
  refine ⟨?_, ⟨h1, h2⟩, by omega⟩
  by_cases k0 : v.1 = 0
  · omega
  · by_cases k1 : v.1 = 1
    · omega
    · by_cases k2 : v.1 = 2
      · omega
      · by_cases k3 : v.1 = 3
        · omega
        · simp [k0, k1, k2, k3] at h4
theorem mach_right {vars cells : List ByteArray} {st mn vs : List Vl} {cs : List Cl} {nr er : Int} {dn : List Int} {out : ByteArray} (h : machB vars cells st mn vs cs nr er dn out = true) : MR vs cs nr er dn out := by
  unfold machB Mh.doneB Pg.progB Pg.listsB Pg.namesB St.stateB at h
  simp only [Bool.and_eq_true, decide_eq_true_eq, List.all_eq_true] at h
  obtain ⟨h1, ⟨h2, h3⟩, ⟨⟨⟨h4, _⟩, ⟨h5, _⟩, _⟩, _⟩, h6, h7, h8, h9, ⟨h10, h11⟩, h12, h13⟩ := h
  refine ⟨by omega, fun v hv => vl_right (h7 v hv), by omega, fun c hc => ?_, ⟨h10, h11⟩, ⟨h12, by omega⟩, by omega, fun d hd => ?_, by omega⟩
  · obtain ⟨i, hi⟩ := List.getElem?_of_mem hc
    have hil := (List.getElem?_eq_some_iff.1 hi).1
    unfold St.cellsB at h9
    rw [List.all_eq_true] at h9
    have h14 := h9 i (List.mem_range.2 hil)
    rw [St.ok_at hi, Bool.and_eq_true] at h14
    have h15 := h14.1
    unfold St.cellB at h15
    simp only [Bool.and_eq_true, decide_eq_true_eq] at h15
    have h16 := h15.2.2.1
    exact ⟨⟨h15.1, by omega⟩, by omega, vl_right h15.2.2.2⟩
  · have := h3 d hd
    unfold Mh.seqB at this
    simp only [decide_eq_true_eq] at this
    omega

/-- What MachBytes tells. -/
def mbV (vars cells : List ByteArray) (st mn vs : List Vl) (cs : List Cl) (nr er : Int) (dn : List Int) (out : ByteArray) : List UInt8 := if machB vars cells st mn vs cs nr er dn out = true then machY vs cs nr er dn out else []
theorem mbV_len (vars cells : List ByteArray) (st mn vs : List Vl) (cs : List Cl) (nr er : Int) (dn : List Int) (out : ByteArray) : (mbV vars cells st mn vs cs nr er dn out).length ≤ 4000000 := by
  unfold mbV
  split
  · rename_i h
    have r := mach_right h
    have l1 := Y1_len r.vn r.vs
    have l2 := Y2_len r.cn r.cs
    have l3 := Bt.putV_len nr
    have l4 := Bt.putV_len er
    have l5 := flat_len (f := Bt.putV) (m := 10) (vs := dn) fun v _ => Bt.putV_len v
    have l6 : dn.length * 10 ≤ 1000 * 10 := Nat.mul_le_mul_right _ r.dnn
    have l7 := putT_len (s := out)
    have l8 := r.out
    rw [machY_is]
    simp only [List.length_append] at *
    omega
  · simp

theorem iMB {g1 g2 g3 g4 h1 h2 h3 vc cc sc mc xa xb xc : Nat} {vars cells : List ByteArray} {st mn vs : List Vl} {cs : List Cl} {dn : List Int} {nr er : Int} {out : ByteArray} {ad bd : Addr} {w : World} (hS : Oc.Sn w ad bd) (hP : Pg.PRows w g1 g2 g3 g4 vars cells st mn) (hm : PSm vars cells st mn) (hM : Mh.MRows w h1 h2 h3 vs cs dn) (ho : MSm vs cs dn out) :
    Calls Tryz.prog 9 #[.agg #[.slice (some ⟨g1, 0, none⟩) vars.length vc, .slice (some ⟨g2, 0, none⟩) cells.length cc, .slice (some ⟨g3, 0, none⟩) st.length sc, .slice (some ⟨g4, 0, none⟩) mn.length mc], .agg #[.slice (some ⟨h1, 0, none⟩) vs.length xa, .slice (some ⟨h2, 0, none⟩) cs.length xb, .int .i64 nr, .int .i64 er, .slice (some ⟨h3, 0, none⟩) dn.length xc, .string out]] w (Ans w (mbV vars cells st mn vs cs nr er dn out)) := by
  have hr := hM.rd ho
  exact iMachBytes (fun w' h => Mh.iMachOk (hS.below h) ((hP.rd hm).below h) hm (hr.below h) ho) hr.vs hr.cs hr.dn (fun x e => by cases e; exact hM.vs.lt) (fun x e => by cases e; exact hM.cs.lt) (fun x e => by cases e; exact hM.dn.lt) (fun h => mach_right h)
theorem sMB {g1 g2 g3 g4 h1 h2 h3 vc cc sc mc xa xb xc : Nat} {vars cells : List ByteArray} {st mn vs : List Vl} {cs : List Cl} {dn : List Int} {nr er : Int} {out : ByteArray} {w : World} (hP : Pg.PRows w g1 g2 g3 g4 vars cells st mn) (hm : PSm vars cells st mn) (hM : Mh.MRows w h1 h2 h3 vs cs dn) (ho : MSm vs cs dn out) :
    Calls Tryz.prog 6 #[.agg #[.slice (some ⟨g1, 0, none⟩) vars.length vc, .slice (some ⟨g2, 0, none⟩) cells.length cc, .slice (some ⟨g3, 0, none⟩) st.length sc, .slice (some ⟨g4, 0, none⟩) mn.length mc], .agg #[.slice (some ⟨h1, 0, none⟩) vs.length xa, .slice (some ⟨h2, 0, none⟩) cs.length xb, .int .i64 nr, .int .i64 er, .slice (some ⟨h3, 0, none⟩) dn.length xc, .string out]] w (Ans w (mbV vars cells st mn vs cs nr er dn out)) := by
  have hr := hM.rd ho
  exact sMachBytes (fun w' h => Mh.sMachOk ((hP.rd hm).below h) hm (hr.below h) ho) hr.vs hr.cs hr.dn (fun x e => by cases e; exact hM.vs.lt) (fun x e => by cases e; exact hM.cs.lt) (fun x e => by cases e; exact hM.dn.lt) (fun h => mach_right h)

end Mb
end Go.Proofs.YtkhoccjfkkfipaaGreatDoor
namespace Go.Proofs.YtkhoccjfkkfipaaGreatDoor
open Go.RowKit
namespace Pg
open St (Vl RdV)
open Oc (hold heap_new Blk SmV)
set_option maxHeartbeats 2000000 in
set_option maxRecDepth 100000 in
theorem lToProgF {va ca sa ma : Option Addr} {vc cc sc mc : Nat} {vars cells : List ByteArray} {st mn : List Vl} {w : World} (hR : PRd w va ca sa ma vars cells st mn) (hm : PSm vars cells st mn) :
    Calls Tryz.prog 7 #[.agg #[.slice va vars.length vc, .slice ca cells.length cc, .slice sa st.length sc, .slice ma mn.length mc]] w fun e w' => ∃ g1 g2 g3 g4, e = .returned (.agg #[.slice (some ⟨g1, 0, none⟩) vars.length vars.length, .slice (some ⟨g2, 0, none⟩) cells.length cells.length, .slice (some ⟨g3, 0, none⟩) st.length st.length, .slice (some ⟨g4, 0, none⟩) mn.length mn.length]) ∧ (w.heap.size ≤ g1 ∧ w.heap.size ≤ g2 ∧ w.heap.size ≤ g3 ∧ w.heap.size ≤ g4) ∧ PRows w' g1 g2 g3 g4 vars cells st mn ∧ Below w.heap.size w w' := by
  obtain ⟨p, hp⟩ : ∃ p : List Value, p = [.slice va vars.length vc, .slice ca cells.length cc, .slice sa st.length sc, .slice ma mn.length mc] := ⟨_, rfl⟩
  obtain ⟨W0, hW0⟩ : ∃ W0, W0 = ((w.alloc (.cells #[.slice va vars.length vc, .slice ca cells.length cc, .slice sa st.length sc, .slice ma mn.length mc] 25)).alloc (.cells #[.slice none 0 0, .slice none 0 0, .slice none 0 0, .slice none 0 0] 39)).alloc (.cells #[.slice none 0 0, .slice none 0 0, .slice none 0 0, .slice none 0 0] 39) := ⟨_, rfl⟩
  have HP0 : Hid (Cp w p [.slice none 0 0, .slice none 0 0, .slice none 0 0, .slice none 0 0] W0) := by
    have k1 := Blk.new 39 (w.alloc (.cells #[.slice va vars.length vc, .slice ca cells.length cc, .slice sa st.length sc, .slice ma mn.length mc] 25)) [.slice none 0 0, .slice none 0 0, .slice none 0 0, .slice none 0 0]
    have k2 := Blk.new 39 ((w.alloc (.cells #[.slice va vars.length vc, .slice ca cells.length cc, .slice sa st.length sc, .slice ma mn.length mc] 25)).alloc (.cells #[.slice none 0 0, .slice none 0 0, .slice none 0 0, .slice none 0 0] 39)) [.slice none 0 0, .slice none 0 0, .slice none 0 0, .slice none 0 0]
    rw [World.size_alloc] at k1
    rw [World.size_alloc, World.size_alloc] at k2
    rw [hW0, hp]
    exact ⟨(((Below.refl _ w).alloc (Nat.le_refl _) _).alloc (by simp) _).alloc (by simp; omega) _, ((Blk.new 25 w [.slice va vars.length vc, .slice ca cells.length cc, .slice sa st.length sc, .slice ma mn.length mc]).alloc _).alloc _, k1.alloc _, k2⟩
  have C1 : Hid (∀ w', Below w.heap.size w w' → Calls Tryz.prog 23 #[.slice va vars.length vc] w' fun e w'' => ∃ g, e = .returned (.slice (some ⟨g, 0, none⟩) vars.length vars.length) ∧ w'.heap.size ≤ g ∧ St.Rows 9 encT w'' g vars ∧ Below w'.heap.size w' w'') := fun w' h => lToStringS (hR.vs.below h) hm.vn
  have C2 : Hid (∀ w', Below w.heap.size w w' → Calls Tryz.prog 23 #[.slice ca cells.length cc] w' fun e w'' => ∃ g, e = .returned (.slice (some ⟨g, 0, none⟩) cells.length cells.length) ∧ w'.heap.size ≤ g ∧ St.Rows 9 encT w'' g cells ∧ Below w'.heap.size w' w'') := fun w' h => lToStringS (hR.cs.below h) hm.cn
  have C3 : Hid (∀ w', Below w.heap.size w w' → Calls Tryz.prog 24 #[.slice sa st.length sc] w' fun e w'' => ∃ g, e = .returned (.slice (some ⟨g, 0, none⟩) st.length st.length) ∧ w'.heap.size ≤ g ∧ St.Rows 92 St.encV w'' g st ∧ Below w'.heap.size w' w'') := fun w' h => Oc.lToOpS (hR.ss.below h) hm.sn
  have C4 : Hid (∀ w', Below w.heap.size w w' → Calls Tryz.prog 24 #[.slice ma mn.length mc] w' fun e w'' => ∃ g, e = .returned (.slice (some ⟨g, 0, none⟩) mn.length mn.length) ∧ w'.heap.size ≤ g ∧ St.Rows 92 St.encV w'' g mn ∧ Below w'.heap.size w' w'') := fun w' h => Oc.lToOpS (hR.ms.below h) hm.mm
  clear hR hm
  go_enter Tryz.func7, Tryz.ntmps7
  go_wp2_with (go_at_call 23; refine hold ?_)
  rw [← hW0]
  clear hW0
  refine Calls.mono (C1.out _ HP0.out.below) ?_
  rintro e w1 ⟨g1, rfl, hg1, R1, hb1⟩
  have P1 := HP0.out.later hb1
  have hs := HP0.out.size
  have q0 := P1.out.cell 0 rfl
  have f0 := P1.out.frozen
  have P1' := P1.put 0 (.slice (some ⟨g1, 0, none⟩) vars.length vars.length)
  have R1' := rows_put R1 (B := w.heap.size + 1 + 1) (by omega) 0 (.slice (some ⟨g1, 0, none⟩) vars.length vars.length)
  have a1 := P1.arg.cell 1 (by rw [hp]; rfl)
  have hG1 : w.heap.size + 1 + 1 < g1 := by omega
  have H1 : Hid (Cp w p [.slice (some ⟨g1, 0, none⟩) vars.length vars.length, .slice none 0 0, .slice none 0 0, .slice none 0 0] (w1.setCell ⟨w.heap.size + 1 + 1, 0, none⟩ (.slice (some ⟨g1, 0, none⟩) vars.length vars.length)) ∧ St.Rows 9 encT (w1.setCell ⟨w.heap.size + 1 + 1, 0, none⟩ (.slice (some ⟨g1, 0, none⟩) vars.length vars.length)) g1 vars) := ⟨P1', R1'⟩
  clear HP0 C1 P1 P1' R1 R1' hb1 hg1
  go_wp2_with (go_at_call 23; refine hold ?_)
  refine Calls.mono (C2.out _ H1.out.1.below) ?_
  clear q0 f0 a1
  rintro e w2 ⟨g2, rfl, hg2, R2, hb2⟩
  have P2 := H1.out.1.later hb2
  have hs2 := H1.out.1.size
  have q0 := P2.out.cell 1 rfl
  have f0 := P2.out.frozen
  have a1 := P2.arg.cell 2 (by rw [hp]; rfl)
  have hG2 : w.heap.size + 1 + 1 < g2 := by omega
  have H2 : Hid (Cp w p [.slice (some ⟨g1, 0, none⟩) vars.length vars.length, .slice (some ⟨g2, 0, none⟩) cells.length cells.length, .slice none 0 0, .slice none 0 0] (w2.setCell ⟨w.heap.size + 1 + 1, 1, none⟩ (.slice (some ⟨g2, 0, none⟩) cells.length cells.length)) ∧ St.Rows 9 encT (w2.setCell ⟨w.heap.size + 1 + 1, 1, none⟩ (.slice (some ⟨g2, 0, none⟩) cells.length cells.length)) g1 vars ∧ St.Rows 9 encT (w2.setCell ⟨w.heap.size + 1 + 1, 1, none⟩ (.slice (some ⟨g2, 0, none⟩) cells.length cells.length)) g2 cells) :=
    ⟨P2.put 1 _, rows_put (H1.out.2.kept (hb2.block _ H1.out.2.lt)) (by omega) 1 _, rows_put R2 (by omega) 1 _⟩
  clear H1 C2 P2 R2 hb2 hg2 hs2
  go_wp2_with (go_at_call 24; refine hold ?_)
  refine Calls.mono (C3.out _ H2.out.1.below) ?_
  clear q0 f0 a1
  rintro e w3 ⟨g3, rfl, hg3, R3, hb3⟩
  have P3 := H2.out.1.later hb3
  have hs3 := H2.out.1.size
  have q0 := P3.out.cell 2 rfl
  have f0 := P3.out.frozen
  have a1 := P3.arg.cell 3 (by rw [hp]; rfl)
  have hG3 : w.heap.size + 1 + 1 < g3 := by omega
  have H3 : Hid (Cp w p [.slice (some ⟨g1, 0, none⟩) vars.length vars.length, .slice (some ⟨g2, 0, none⟩) cells.length cells.length, .slice (some ⟨g3, 0, none⟩) st.length st.length, .slice none 0 0] (w3.setCell ⟨w.heap.size + 1 + 1, 2, none⟩ (.slice (some ⟨g3, 0, none⟩) st.length st.length)) ∧ St.Rows 9 encT (w3.setCell ⟨w.heap.size + 1 + 1, 2, none⟩ (.slice (some ⟨g3, 0, none⟩) st.length st.length)) g1 vars ∧ St.Rows 9 encT (w3.setCell ⟨w.heap.size + 1 + 1, 2, none⟩ (.slice (some ⟨g3, 0, none⟩) st.length st.length)) g2 cells ∧ St.Rows 92 St.encV (w3.setCell ⟨w.heap.size + 1 + 1, 2, none⟩ (.slice (some ⟨g3, 0, none⟩) st.length st.length)) g3 st) :=
    ⟨P3.put 2 _, rows_put (H2.out.2.1.kept (hb3.block _ H2.out.2.1.lt)) (by omega) 2 _, rows_put (H2.out.2.2.kept (hb3.block _ H2.out.2.2.lt)) (by omega) 2 _, rows_put R3 (by omega) 2 _⟩
  clear H2 C3 P3 R3 hb3 hg3 hs3
  go_wp2_with (go_at_call 24; refine hold ?_)
  refine Calls.mono (C4.out _ H3.out.1.below) ?_
  clear q0 f0 a1
  rintro e w4 ⟨g4, rfl, hg4, R4, hb4⟩
  have P4 := H3.out.1.later hb4
  have hs4 := H3.out.1.size
  have q0 := P4.out.cell 0 rfl
  have q1 := P4.out.cell 1 rfl
  have q2 := P4.out.cell 2 rfl
  have q3 := P4.out.cell 3 rfl
  have f0 := P4.out.frozen
  have z0 := P4.ans.cell 0 rfl
  have z1 := P4.ans.cell 1 rfl
  have z2 := P4.ans.cell 2 rfl
  have z3 := P4.ans.cell 3 rfl
  have f1 := P4.ans.frozen
  have hG4 : w.heap.size + 1 + 1 < g4 := by omega
  have H4 : Hid (Cp w p [.slice (some ⟨g1, 0, none⟩) vars.length vars.length, .slice (some ⟨g2, 0, none⟩) cells.length cells.length, .slice (some ⟨g3, 0, none⟩) st.length st.length, .slice none 0 0] w4 ∧ St.Rows 9 encT w4 g1 vars ∧ St.Rows 9 encT w4 g2 cells ∧ St.Rows 92 St.encV w4 g3 st ∧ St.Rows 92 St.encV w4 g4 mn) :=
    ⟨P4, H3.out.2.1.kept (hb4.block _ H3.out.2.1.lt), H3.out.2.2.1.kept (hb4.block _ H3.out.2.2.1.lt), H3.out.2.2.2.kept (hb4.block _ H3.out.2.2.2.lt), R4⟩
  clear H3 C4 P4 R4 hb4 hg4 hs4
  go_wp2_with fail
  obtain ⟨P4, R1, R2, R3, R4⟩ := H4.out
  refine ret_prog Tryz.results7 rfl rfl (((((P4.ans.other (g := w.heap.size + 1 + 1) (by omega) 3 _).set 0 _).set 1 _).set 2 _).set 3 _) ⟨g1, g2, g3, g4, rfl, ⟨by omega, by omega, by omega, by omega⟩, ⟨?_, ?_, ?_, ?_⟩, ?_⟩
  · exact rows_put (rows_put (rows_put (rows_put (rows_put R1 (by omega) _ _) (by omega) _ _) (by omega) _ _) (by omega) _ _) (by omega) _ _
  · exact rows_put (rows_put (rows_put (rows_put (rows_put R2 (by omega) _ _) (by omega) _ _) (by omega) _ _) (by omega) _ _) (by omega) _ _
  · exact rows_put (rows_put (rows_put (rows_put (rows_put R3 (by omega) _ _) (by omega) _ _) (by omega) _ _) (by omega) _ _) (by omega) _ _
  · exact rows_put (rows_put (rows_put (rows_put (rows_put R4 (by omega) _ _) (by omega) _ _) (by omega) _ _) (by omega) _ _) (by omega) _ _
  · exact ((((P4.below.setCell (by simp; omega) _).setCell (by simp) _).setCell (by simp) _).setCell (by simp) _).setCell (by simp) _

end Pg
namespace Mh
open Pg (RdI PSm PRd rows_put)
open St (Vl Cl RdV RdC SmC)
open Oc (hold heap_new Blk)
set_option maxHeartbeats 2000000 in
set_option maxRecDepth 100000 in
theorem lToMachF {a b c : Option Addr} {xa xb xc : Nat} {vs : List Vl} {cs : List Cl} {nr er : Int} {dn : List Int} {out : ByteArray} {w : World} (hM : MRd w a b c vs cs dn) (hm : MSm vs cs dn out) :
    Calls Tryz.prog 8 #[.agg #[.slice a vs.length xa, .slice b cs.length xb, .int .i64 nr, .int .i64 er, .slice c dn.length xc, .string out]] w fun e w' => ∃ g1 g2 g3, e = .returned (.agg #[.slice (some ⟨g1, 0, none⟩) vs.length vs.length, .slice (some ⟨g2, 0, none⟩) cs.length cs.length, .int .i64 nr, .int .i64 er, .slice (some ⟨g3, 0, none⟩) dn.length dn.length, .string out]) ∧ (w.heap.size ≤ g1 ∧ w.heap.size ≤ g2 ∧ w.heap.size ≤ g3) ∧ MRows w' g1 g2 g3 vs cs dn ∧ Below w.heap.size w w' := by
  obtain ⟨p, hp⟩ : ∃ p : List Value, p = [.slice a vs.length xa, .slice b cs.length xb, .int .i64 nr, .int .i64 er, .slice c dn.length xc, .string out] := ⟨_, rfl⟩
  obtain ⟨W0, hW0⟩ : ∃ W0, W0 = ((w.alloc (.cells #[.slice a vs.length xa, .slice b cs.length xb, .int .i64 nr, .int .i64 er, .slice c dn.length xc, .string out] 32)).alloc (.cells #[.slice none 0 0, .slice none 0 0, .int .i64 0, .int .i64 0, .slice none 0 0, .string ⟨#[]⟩] 46)).alloc (.cells #[.slice none 0 0, .slice none 0 0, .int .i64 0, .int .i64 0, .slice none 0 0, .string ⟨#[]⟩] 46) := ⟨_, rfl⟩
  have HP0 : Hid (Mp w p [.slice none 0 0, .slice none 0 0, .int .i64 0, .int .i64 0, .slice none 0 0, .string ⟨#[]⟩] W0) := by
    have k1 := Blk.new 46 (w.alloc (.cells #[.slice a vs.length xa, .slice b cs.length xb, .int .i64 nr, .int .i64 er, .slice c dn.length xc, .string out] 32)) [.slice none 0 0, .slice none 0 0, .int .i64 0, .int .i64 0, .slice none 0 0, .string ⟨#[]⟩]
    have k2 := Blk.new 46 ((w.alloc (.cells #[.slice a vs.length xa, .slice b cs.length xb, .int .i64 nr, .int .i64 er, .slice c dn.length xc, .string out] 32)).alloc (.cells #[.slice none 0 0, .slice none 0 0, .int .i64 0, .int .i64 0, .slice none 0 0, .string ⟨#[]⟩] 46)) [.slice none 0 0, .slice none 0 0, .int .i64 0, .int .i64 0, .slice none 0 0, .string ⟨#[]⟩]
    rw [World.size_alloc] at k1
    rw [World.size_alloc, World.size_alloc] at k2
    rw [hW0, hp]
    exact ⟨(((Below.refl _ w).alloc (Nat.le_refl _) _).alloc (by simp) _).alloc (by simp; omega) _, ((Blk.new 32 w [.slice a vs.length xa, .slice b cs.length xb, .int .i64 nr, .int .i64 er, .slice c dn.length xc, .string out]).alloc _).alloc _, k1.alloc _, k2⟩
  have C1 : Hid (∀ w', Below w.heap.size w w' → Calls Tryz.prog 25 #[.agg #[.slice a vs.length xa, .slice b cs.length xb, .int .i64 nr, .int .i64 er]] w' fun e w'' => ∃ g1 g2, e = .returned (.agg #[.slice (some ⟨g1, 0, none⟩) vs.length vs.length, .slice (some ⟨g2, 0, none⟩) cs.length cs.length, .int .i64 nr, .int .i64 er]) ∧ w'.heap.size ≤ g1 ∧ g1 < g2 ∧ St.Rows 67 St.encV w'' g1 vs ∧ St.Rows 71 St.encC w'' g2 cs ∧ Below w'.heap.size w' w'') := fun w' h => St.lToState (hM.vs.below h) (hM.cs.below h) hm.vn hm.cn
  have C2 : Hid (∀ w', Below w.heap.size w w' → Calls Tryz.prog 26 #[.slice c dn.length xc] w' fun e w'' => ∃ g, e = .returned (.slice (some ⟨g, 0, none⟩) dn.length dn.length) ∧ w'.heap.size ≤ g ∧ St.Rows 3 Pg.encI w'' g dn ∧ Below w'.heap.size w' w'') := fun w' h => Pg.lToIntS (hM.dn.below h) hm.dn
  clear hM hm
  go_enter Tryz.func8, Tryz.ntmps8
  go_wp2_with (go_at_call 25; refine hold ?_)
  rw [← hW0]
  clear hW0
  refine Calls.mono (C1.out _ HP0.out.below) ?_
  rintro e w1 ⟨g1, g2, rfl, hg1, hg2, R1, R2, hb1⟩
  have P1 := HP0.out.later hb1
  have hs := HP0.out.size
  have q0 := P1.out.cell 0 rfl
  have q1 := P1.out.cell 1 rfl
  have q2 := P1.out.cell 2 rfl
  have q3 := P1.out.cell 3 rfl
  have f0 := P1.out.frozen
  have a4 := P1.arg.cell 4 (by rw [hp]; rfl)
  have hG1 : w.heap.size + 1 + 1 < g1 := by omega
  have hG2 : w.heap.size + 1 + 1 < g2 := by omega
  obtain ⟨W1, hW1⟩ : ∃ W1, W1 = (((w1.setCell ⟨w.heap.size + 1 + 1, 0, none⟩ (.slice (some ⟨g1, 0, none⟩) vs.length vs.length)).setCell ⟨w.heap.size + 1 + 1, 1, none⟩ (.slice (some ⟨g2, 0, none⟩) cs.length cs.length)).setCell ⟨w.heap.size + 1 + 1, 2, none⟩ (.int .i64 nr)).setCell ⟨w.heap.size + 1 + 1, 3, none⟩ (.int .i64 er) := ⟨_, rfl⟩
  have H1 : Hid (Mp w p [.slice (some ⟨g1, 0, none⟩) vs.length vs.length, .slice (some ⟨g2, 0, none⟩) cs.length cs.length, .int .i64 nr, .int .i64 er, .slice none 0 0, .string ⟨#[]⟩] W1 ∧ St.Rows 67 St.encV W1 g1 vs ∧ St.Rows 71 St.encC W1 g2 cs) := by
    rw [hW1]
    exact ⟨(((P1.put 0 _).put 1 _).put 2 _).put 3 _, rows_put (rows_put (rows_put (rows_put R1 (by omega) _ _) (by omega) _ _) (by omega) _ _) (by omega) _ _, rows_put (rows_put (rows_put (rows_put R2 (by omega) _ _) (by omega) _ _) (by omega) _ _) (by omega) _ _⟩
  clear HP0 C1 P1 R1 R2 hb1 hg1 hg2 hs
  go_wp2_with (go_at_call 26; refine hold ?_)
  rw [← hW1]
  clear q0 q1 q2 q3 f0 a4 hW1
  refine Calls.mono (C2.out _ H1.out.1.below) ?_
  rintro e w2 ⟨g3, rfl, hg3, R3, hb2⟩
  have P2 := H1.out.1.later hb2
  have hs2 := H1.out.1.size
  have q0 := P2.out.cell 0 rfl
  have q1 := P2.out.cell 1 rfl
  have q2 := P2.out.cell 2 rfl
  have q3 := P2.out.cell 3 rfl
  have q4 := P2.out.cell 4 rfl
  have q5 := P2.out.cell 5 rfl
  have f0 := P2.out.frozen
  have a5 := P2.arg.cell 5 (by rw [hp]; rfl)
  have z0 := P2.ans.cell 0 rfl
  have z1 := P2.ans.cell 1 rfl
  have z2 := P2.ans.cell 2 rfl
  have z3 := P2.ans.cell 3 rfl
  have z4 := P2.ans.cell 4 rfl
  have z5 := P2.ans.cell 5 rfl
  have f1 := P2.ans.frozen
  have hG3 : w.heap.size + 1 + 1 < g3 := by omega
  have H2 : Hid (Mp w p [.slice (some ⟨g1, 0, none⟩) vs.length vs.length, .slice (some ⟨g2, 0, none⟩) cs.length cs.length, .int .i64 nr, .int .i64 er, .slice none 0 0, .string ⟨#[]⟩] w2 ∧ St.Rows 67 St.encV w2 g1 vs ∧ St.Rows 71 St.encC w2 g2 cs ∧ St.Rows 3 Pg.encI w2 g3 dn) := ⟨P2, H1.out.2.1.kept (hb2.block _ H1.out.2.1.lt), H1.out.2.2.kept (hb2.block _ H1.out.2.2.lt), R3⟩
  clear H1 C2 P2 R3 hb2 hg3 hs2
  go_wp2_with fail
  obtain ⟨P2, R1, R2, R3⟩ := H2.out
  have put8 : ∀ {α : Type} {T : TypeId} {f : α → List Value} {g : Nat} {vs : List α}, St.Rows T f w2 g vs → w.heap.size + 1 + 1 < g → ∀ (x4 x5 y0 y1 y2 y3 y4 y5 : Value), St.Rows T f ((((((((w2.setCell ⟨w.heap.size + 1 + 1, 4, none⟩ x4).setCell ⟨w.heap.size + 1 + 1, 5, none⟩ x5).setCell ⟨w.heap.size + 1, 0, none⟩ y0).setCell ⟨w.heap.size + 1, 1, none⟩ y1).setCell ⟨w.heap.size + 1, 2, none⟩ y2).setCell ⟨w.heap.size + 1, 3, none⟩ y3).setCell ⟨w.heap.size + 1, 4, none⟩ y4).setCell ⟨w.heap.size + 1, 5, none⟩ y5) g vs := fun h hg x4 x5 y0 y1 y2 y3 y4 y5 =>
    rows_put (rows_put (rows_put (rows_put (rows_put (rows_put (rows_put (rows_put h (by omega) _ _) (by omega) _ _) (by omega) _ _) (by omega) _ _) (by omega) _ _) (by omega) _ _) (by omega) _ _) (by omega) _ _
  refine ret_mach Tryz.results8 rfl rfl ((((((((P2.ans.other (g := w.heap.size + 1 + 1) (by omega) 4 _).other (g := w.heap.size + 1 + 1) (by omega) 5 _).set 0 _).set 1 _).set 2 _).set 3 _).set 4 _).set 5 _) ⟨g1, g2, g3, rfl, ⟨by omega, by omega, by omega⟩, ⟨put8 R1 hG1 _ _ _ _ _ _ _ _, put8 R2 hG2 _ _ _ _ _ _ _ _, put8 R3 hG3 _ _ _ _ _ _ _ _⟩, ?_⟩
  exact (((((((P2.below.setCell (by simp; omega) _).setCell (by simp; omega) _).setCell (by simp) _).setCell (by simp) _).setCell (by simp) _).setCell (by simp) _).setCell (by simp) _).setCell (by simp) _

end Mh
end Go.Proofs.YtkhoccjfkkfipaaGreatDoor
