/-
  The law FnExactStateOk, at every state and both numbers.
-/
import Derived.Test.YtildabobkilkjaaDoorStOkT
import Derived.Test.YtildabobkilkjaaDoorStOkS
import Derived.Test.YtildabobkilkjaaDoorStCopyB
namespace Go.Proofs.YtildabobkilkjaaDoor
open Go.RowKit
namespace St
open Nd

theorem rows_rdc' {w : World} {g : Nat} {cs : List Cl} (h : Rows 41 encC w g cs) (hs : ∀ c ∈ cs, c.2.1.size ≤ maxLen ∧ c.2.2.2.2.size ≤ maxLen) : RdC w (some ⟨g, 0, none⟩) cs := fun i c hi => by
  refine ⟨g, 0, rfl, h.lt, (hs c (List.mem_of_getElem? hi)).1, (hs c (List.mem_of_getElem? hi)).2, ?_, ?_, ?_, ?_, ?_⟩ <;> rw [Nat.zero_add]
  · exact h.cell encC_len hi (j := 0) rfl
  · exact h.cell encC_len hi (j := 1) rfl
  · exact h.cell encC_len hi (j := 2) rfl
  · exact h.cell encC_len hi (j := 3) rfl
  · exact h.cell encC_len hi (j := 4) rfl
theorem smc_max {cs : List Cl} (h : ∀ c ∈ cs, SmC c) : ∀ c ∈ cs, c.2.1.size ≤ maxLen ∧ c.2.2.2.2.size ≤ maxLen := fun c hc => by
  have := h c hc
  unfold SmC at this
  unfold maxLen
  omega
theorem smv_max {vs : List St.Vl} (h : ∀ v ∈ vs, SmV v) : ∀ v ∈ vs, v.2.2.size ≤ maxLen := fun v hv => by
  have := h v hv
  unfold SmV at this
  unfold maxLen
  omega

set_option maxHeartbeats 4000000 in
set_option maxRecDepth 100000 in
theorem lawStateOk {a b : Option Addr} {ca cb : Nat} {vs : List St.Vl} {cs : List Cl} {nr er vars m : Int} {ad : Addr} {w : World} (hS : Sn w ad) (hV : RdV w a vs) (hC : RdC w b cs) (hn : vs.length ≤ maxLen) (hm : cs.length ≤ maxLen) :
    Calls Tryd.prog 3 #[.agg #[.slice a vs.length ca, .slice b cs.length cb, .int .i64 nr, .int .i64 er], .int .i64 vars, .int .i64 m] w fun e w' => e = .returned (.bool true) ∧ Below w.heap.size w w' := by
  have k0 := Blk.new 25 w [.slice a vs.length ca, .slice b cs.length cb, .int .i64 nr, .int .i64 er]
  have b0 : ∀ o, Below w.heap.size w (w.alloc o) := fun o => (Below.refl _ w).alloc (Nat.le_refl _) o
  have csz := lSzStateZ (ca := ca) (cb := cb) (nr := nr) (er := er) (hV.below (b0 (.cells #[.slice a vs.length ca, .slice b cs.length cb, .int .i64 nr, .int .i64 er] 25))) (hC.below (b0 (.cells #[.slice a vs.length ca, .slice b cs.length cb, .int .i64 nr, .int .i64 er] 25))) hn hm
  have CSZ : Hid _ := csz
  have HV : Hid (RdV w a vs) := hV
  have HC : Hid (RdC w b cs) := hC
  have HSn : Hid (Sn w ad) := hS
  have Hb0 : Hid (∀ o, Below w.heap.size w (w.alloc o)) := b0
  have Hk0 : Hid (Blk 25 (w.alloc (.cells #[.slice a vs.length ca, .slice b cs.length cb, .int .i64 nr, .int .i64 er] 25)) w.heap.size [.slice a vs.length ca, .slice b cs.length cb, .int .i64 nr, .int .i64 er]) := k0
  clear hn hm hV hC b0 k0 csz hS
  go_enter Tryd.func3, Tryd.ntmps3
  go_wp2_with (go_at_call 4; refine hold ?_)
  refine Calls.mono CSZ.out ?_
  clear CSZ
  rintro e w1 ⟨z, rfl, hz, hb1⟩
  have K1 := Hk0.out.below hb1
  have B1 := (Hb0.out _).trans (hb1.mono (Hb0.out _).size)
  have x0 := K1.cell 0 rfl
  have x1 := K1.cell 1 rfl
  have x2 := K1.cell 2 rfl
  have x3 := K1.cell 3 rfl
  have HK1 : Hid (Blk 25 w1 w.heap.size [.slice a vs.length ca, .slice b cs.length cb, .int .i64 nr, .int .i64 er] ∧ Below w.heap.size w w1) := ⟨K1, B1⟩
  have HZ : Hid (z < 0 ∨ (vs.length ≤ 1048576 ∧ ∀ v ∈ vs, SmV v) ∧ cs.length ≤ 1048576 ∧ ∀ c ∈ cs, SmC c) := hz
  clear K1 B1 hb1 Hk0 Hb0 hz
  go_wp2_with (go_at_call 6; refine hold ?_)
  · go_ret
    exact ⟨rfl, HK1.out.2⟩
  obtain ⟨⟨hn, hsv⟩, hm, hsc⟩ := HZ.out.resolve_left (by omega)
  have ct : ∀ w', Below w.heap.size w w' → _ := fun w' (h : Below w.heap.size w w') => lToState (ca := ca) (cb := cb) (nr := nr) (er := er) (HV.out.below h) (HC.out.below h) hn hm
  have CT : Hid (∀ w', Below w.heap.size w w' → Calls Tryd.prog 6 #[.agg #[.slice a vs.length ca, .slice b cs.length cb, .int .i64 nr, .int .i64 er]] w' fun e w'' => ∃ g1 g2, e = .returned (.agg #[.slice (some ⟨g1, 0, none⟩) vs.length vs.length, .slice (some ⟨g2, 0, none⟩) cs.length cs.length, .int .i64 nr, .int .i64 er]) ∧ w'.heap.size ≤ g1 ∧ g1 < g2 ∧ Rows 39 encV w'' g1 vs ∧ Rows 41 encC w'' g2 cs ∧ Below w'.heap.size w' w'') := ct
  have HS : Hid ((∀ v ∈ vs, SmV v) ∧ (∀ c ∈ cs, SmC c) ∧ vs.length ≤ 1048576 ∧ cs.length ≤ 1048576) := ⟨hsv, hsc, hn, hm⟩
  clear ct HZ HV HC x0 x1 x2 x3 hn hm hsv hsc
  refine Calls.mono (CT.out w1 HK1.out.2) ?_
  rintro e w2 ⟨g1, g2, rfl, hg1, hg2, R1, R2, hb2⟩
  obtain ⟨K1, B1⟩ := HK1.out
  have HK2 : Hid (Blk 25 w2 w.heap.size [.slice a vs.length ca, .slice b cs.length cb, .int .i64 nr, .int .i64 er] ∧ Below w.heap.size w w2) := ⟨K1.below hb2, B1.trans (hb2.mono B1.size)⟩
  have sG := sStateOk (ca := vs.length) (cb := cs.length) (nr := nr) (er := er) (vars := vars) (m := m) (rows_rd R1 (smv_max HS.out.1)) (rows_rdc' R2 (smc_max HS.out.2.1)) HS.out.2.2.1 HS.out.2.2.2 HS.out.1 HS.out.2.1
  obtain ⟨G, hG⟩ : ∃ G, G = stateB vs cs nr er vars m := ⟨_, rfl⟩
  rw [← hG] at sG
  have HG : Hid (G = stateB vs cs nr er vars m) := hG
  have SG : Hid _ := sG
  clear hG sG R1 R2 hg1 hg2 K1 B1 HK1 hb2
  go_wp2_with (go_at_call 5; refine hold ?_)
  refine (Calls.mono SG.out ?_)
  clear SG
  rintro e w3 ⟨rfl, hb3⟩
  have K3 := HK2.out.1.below hb3
  have x0 := K3.cell 0 rfl
  have x1 := K3.cell 1 rfl
  have x2 := K3.cell 2 rfl
  have x3 := K3.cell 3 rfl
  have HK3 : Hid (Blk 25 w3 w.heap.size [.slice a vs.length ca, .slice b cs.length cb, .int .i64 nr, .int .i64 er] ∧ Below w.heap.size w w3) := ⟨K3, HK2.out.2.trans (hb3.mono HK2.out.2.size)⟩
  clear HK2 hb3 K3
  go_wp2_with (go_at_call 6; refine hold ?_)
  clear x0 x1 x2 x3
  obtain ⟨K3, B3⟩ := HK3.out
  refine (Calls.mono (CT.out _ B3) ?_)
  rintro e w4 ⟨g1, g2, rfl, hg1, hg2, R1, R2, hb4⟩
  have B4 := B3.trans (hb4.mono B3.size)
  have iG := fun o => iStateOk (a := some ⟨g1, 0, none⟩) (b := some ⟨g2, 0, none⟩) (ca := vs.length) (cb := cs.length) (nr := nr) (er := er) (vars := vars) (m := m) (HSn.out.below (B4.alloc B4.size o)) (rows_rd (R1.kept (Below.heap_alloc w4 o g1 R1.lt)) (smv_max HS.out.1)) (rows_rdc' (R2.kept (Below.heap_alloc w4 o g2 R2.lt)) (smc_max HS.out.2.1)) HS.out.2.2.1 HS.out.2.2.2 HS.out.1 HS.out.2.1
  rw [← HG.out] at iG
  have IG : Hid _ := iG
  have H4 : Hid (Blk 25 w4 w.heap.size [.slice a vs.length ca, .slice b cs.length cb, .int .i64 nr, .int .i64 er] ∧ Below w.heap.size w w4 ∧ Rows 39 encV w4 g1 vs ∧ Rows 41 encC w4 g2 cs) := ⟨K3.below hb4, B4, R1, R2⟩
  clear K3 B3 HK3 R1 R2 hb4 hg1 hg2 iG HG B4
  go_wp2_with (go_at_call 7; refine hold ?_)
  refine (Calls.mono (IG.out _) ?_)
  clear IG
  rintro e w5 ⟨rfl, hb5⟩
  obtain ⟨K4, B4, Q1, Q2⟩ := H4.out
  have B5 := (B4.alloc B4.size _).trans (hb5.mono (B4.alloc B4.size _).size)
  have K5 := (K4.alloc _).below hb5
  have S5 := (Blk.new 31 w4 [.slice (some ⟨g1, 0, none⟩) vs.length vs.length, .slice (some ⟨g2, 0, none⟩) cs.length cs.length, .int .i64 nr, .int .i64 er]).below hb5
  have T1 := Q1.kept (w' := w5) ((hb5.block _ (by have := Q1.lt; simp; omega)).trans (Below.heap_alloc _ _ _ Q1.lt))
  have T2 := Q2.kept (w' := w5) ((hb5.block _ (by have := Q2.lt; simp; omega)).trans (Below.heap_alloc _ _ _ Q2.lt))
  have hd6 : Below w5.heap.size w5 w5.drew := (Below.refl _ _).drew
  have B6' := B5.trans (hd6.mono B5.size)
  have K6' := K5.below hd6
  have S6' := S5.below hd6
  have x0 := K6'.cell 0 rfl
  have x1 := K6'.cell 1 rfl
  have x2 := K6'.cell 2 rfl
  have x3 := K6'.cell 3 rfl
  have s0 := S6'.cell 0 rfl
  have s1 := S6'.cell 1 rfl
  have s2 := S6'.cell 2 rfl
  have s3 := S6'.cell 3 rfl
  have hEq : Hid (∀ (w7 : World) (h1 h2 : Nat), Below w5.drew.heap.size w5.drew w7 → Rows 39 encV w7 h1 vs → Rows 41 encC w7 h2 cs → Calls Tryd.prog 8 #[.agg #[.slice (some ⟨g1, 0, none⟩) vs.length vs.length, .slice (some ⟨g2, 0, none⟩) cs.length cs.length, .int .i64 nr, .int .i64 er], .agg #[.slice (some ⟨h1, 0, none⟩) vs.length vs.length, .slice (some ⟨h2, 0, none⟩) cs.length cs.length, .int .i64 nr, .int .i64 er]] w7 fun e w' => e = .returned (.bool true) ∧ Below w7.heap.size w7 w') := fun w7 h1 h2 h7 r1 r2 => by
    have u1 := T1.kept (w' := w7) ((h7.block _ T1.lt).trans (hd6.block _ T1.lt))
    have u2 := T2.kept (w' := w7) ((h7.block _ T2.lt).trans (hd6.block _ T2.lt))
    obtain ⟨m1, m2, m3, m4⟩ := HS.out
    exact lEqState (rows_rd u1 (smv_max m1)) (rows_rd r1 (smv_max m1)) (rows_rdc' u2 (smc_max m2)) (rows_rdc' r2 (smc_max m2)) (by omega) (by omega)
  have ct7 : Hid _ := CT.out w5.drew B6'
  have hS7 : Hid (∀ w7, Below w5.drew.heap.size w5.drew w7 → w7.cell? ⟨w4.heap.size, 0, none⟩ = some (.slice (some ⟨g1, 0, none⟩) vs.length vs.length) ∧ w7.cell? ⟨w4.heap.size, 1, none⟩ = some (.slice (some ⟨g2, 0, none⟩) cs.length cs.length) ∧ w7.cell? ⟨w4.heap.size, 2, none⟩ = some (.int .i64 nr) ∧ w7.cell? ⟨w4.heap.size, 3, none⟩ = some (.int .i64 er)) := fun w7 h7 => ⟨(S6'.below h7).cell 0 rfl, (S6'.below h7).cell 1 rfl, (S6'.below h7).cell 2 rfl, (S6'.below h7).cell 3 rfl⟩
  have HB6 : Hid (Below w.heap.size w w5.drew) := B6'
  clear K4 B4 Q1 Q2 B5 K5 S5 T1 T2 hd6 B6' K6' S6' H4 hb5 CT HS HSn
  go_wp2_with fail
  go_region_with (first
    | (go_at_call 6; refine Calls.mono ct7.out ?_; rintro e w7 ⟨h1, h2, rfl, _, _, r1, r2, hb7⟩; have e7 := hEq.out w7 h1 h2 hb7 r1 r2; obtain ⟨t0, t1, t2, t3⟩ := hS7.out w7 hb7)
    | (go_at_call 8; refine e7.mono ?_; rintro e w8 ⟨rfl, hb8⟩))
  all_goals
    go_wp2_with fail
    go_ret
    have h68 := hb7.trans (hb8.mono hb7.size)
    exact ⟨rfl, HB6.out.trans (h68.mono HB6.out.size)⟩

end St
end Go.Proofs.YtildabobkilkjaaDoor
