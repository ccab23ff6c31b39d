/-
  The law FnExactCellGet, at every state, name and key.
-/
import Derived.Test.YtjlchfielpfehaaStGetI
namespace Go.Proofs.Ytjlchfielpfehaa
open Go.RowKit
namespace St
open Nd

theorem rows_rdc {w : World} {g : Nat} {cs : List Cl} (h : Rows 62 encC w g cs) (hs : ∀ c ∈ cs, c.2.1.size ≤ maxLen ∧ c.2.2.2.2.size ≤ maxLen) : RdC w (some ⟨g, 0, none⟩) cs := fun i c hi => by
  refine ⟨g, 0, rfl, h.lt, (hs c (List.mem_of_getElem? hi)).1, (hs c (List.mem_of_getElem? hi)).2, ?_, ?_, ?_, ?_, ?_⟩ <;> rw [Nat.zero_add]
  · exact h.cell encC_len hi (j := 0) rfl
  · exact h.cell encC_len hi (j := 1) rfl
  · exact h.cell encC_len hi (j := 2) rfl
  · exact h.cell encC_len hi (j := 3) rfl
  · exact h.cell encC_len hi (j := 4) rfl
theorem rdc_small {w : World} {b : Option Addr} {cs : List Cl} (h : RdC w b cs) : ∀ c ∈ cs, c.2.1.size ≤ maxLen ∧ c.2.2.2.2.size ≤ maxLen := fun c hc => by
  obtain ⟨i, hi⟩ := List.getElem?_of_mem hc
  obtain ⟨_, _, _, _, s1, s2, _⟩ := h i c hi
  exact ⟨s1, s2⟩
theorem rdv_small {w : World} {b : Option Addr} {vs : List Vl} (h : RdV w b vs) : ∀ v ∈ vs, v.2.2.size ≤ maxLen := fun v hv => by
  obtain ⟨i, hi⟩ := List.getElem?_of_mem hv
  obtain ⟨_, _, _, _, s1, _⟩ := h i v hi
  exact s1

set_option maxHeartbeats 4000000 in
set_option maxRecDepth 100000 in
theorem lawCellGet {a b : Option Addr} {ca cb : Nat} {vs : List Vl} {cs : List Cl} {nr er n : Int} {k : ByteArray} {w : World} (hV : RdV w a vs) (hC : RdC w b cs) (hn : vs.length ≤ maxLen) (hm : cs.length ≤ maxLen) :
    Calls Try.prog 5 #[.agg #[.slice a vs.length ca, .slice b cs.length cb, .int .i64 nr, .int .i64 er], .int .i64 n, .string k] w fun e w' => e = .returned (.bool true) ∧ Below w.heap.size w w' := by
  have k0 := Blk.new 39 w [.slice a vs.length ca, .slice b cs.length cb, .int .i64 nr, .int .i64 er]
  have b0 : ∀ o, Below w.heap.size w (w.alloc o) := fun o => (Below.refl _ w).alloc (Nat.le_refl _) o
  by_cases hk : k.size ≤ 1048576
  · have bk : ¬ ((1048576 : Int) < k.size) := by omega
    have csz := lSzState (ca := ca) (cb := cb) (nr := nr) (er := er) (hV.below (b0 (.cells #[.slice a vs.length ca, .slice b cs.length cb, .int .i64 nr, .int .i64 er] 39))) (hC.below (b0 (.cells #[.slice a vs.length ca, .slice b cs.length cb, .int .i64 nr, .int .i64 er] 39))) hn hm
    have HV : Hid (RdV w a vs) := hV
    have HC : Hid (RdC w b cs) := hC
    have Hb0 : Hid (∀ o, Below w.heap.size w (w.alloc o)) := b0
    have Hk0 : Hid (Blk 39 (w.alloc (.cells #[.slice a vs.length ca, .slice b cs.length cb, .int .i64 nr, .int .i64 er] 39)) w.heap.size [.slice a vs.length ca, .slice b cs.length cb, .int .i64 nr, .int .i64 er]) := k0
    clear hn hm hV hC b0 k0
    go_enter Try.func5, Try.ntmps5
    go_wp2_with (go_at_call 17; refine hold ?_)
    refine csz.mono ?_
    clear csz
    rintro e w1 ⟨z, rfl, hz, hb1⟩
    have K1 := Hk0.out.below hb1
    have B1 := (Hb0.out _).trans (hb1.mono (Hb0.out _).size)
    have x0 := K1.cell 0 rfl
    have x1 := K1.cell 1 rfl
    have x2 := K1.cell 2 rfl
    have x3 := K1.cell 3 rfl
    have HK1 : Hid (Blk 39 w1 w.heap.size [.slice a vs.length ca, .slice b cs.length cb, .int .i64 nr, .int .i64 er] ∧ Below w.heap.size w w1) := ⟨K1, B1⟩
    have HZ : Hid (z < 0 ∨ vs.length ≤ 1048576 ∧ cs.length ≤ 1048576) := hz
    clear K1 B1 hb1 Hk0 Hb0 hz
    go_wp2_with (go_at_call 19; refine hold ?_)
    · go_ret
      exact ⟨rfl, HK1.out.2⟩
    obtain ⟨hn, hm⟩ : vs.length ≤ 1048576 ∧ cs.length ≤ 1048576 := by rcases HZ.out with h | h <;> omega
    have ct : ∀ w', Below w.heap.size w w' → _ := fun w' (h : Below w.heap.size w w') => lToState (ca := ca) (cb := cb) (nr := nr) (er := er) (HV.out.below h) (HC.out.below h) hn hm
    have CT : Hid (∀ w', Below w.heap.size w w' → Calls Try.prog 19 #[.agg #[.slice a vs.length ca, .slice b cs.length cb, .int .i64 nr, .int .i64 er]] w' fun e w'' => ∃ g1 g2, e = .returned (.agg #[.slice (some ⟨g1, 0, none⟩) vs.length vs.length, .slice (some ⟨g2, 0, none⟩) cs.length cs.length, .int .i64 nr, .int .i64 er]) ∧ w'.heap.size ≤ g1 ∧ g1 < g2 ∧ Rows 42 encV w'' g1 vs ∧ Rows 62 encC w'' g2 cs ∧ Below w'.heap.size w' w'') := ct
    have HS : Hid ((∀ v ∈ vs, v.2.2.size ≤ maxLen) ∧ (∀ c ∈ cs, c.2.1.size ≤ maxLen ∧ c.2.2.2.2.size ≤ maxLen) ∧ vs.length ≤ 1048576 ∧ cs.length ≤ 1048576) := ⟨rdv_small HV.out, rdc_small HC.out, hn, hm⟩
    clear ct HZ HV HC x0 x1 x2 x3 hn hm
    refine (CT.out w1 HK1.out.2).mono ?_
    rintro e w2 ⟨g1, g2, rfl, hg1, hg2, R1, R2, hb2⟩
    obtain ⟨K1, B1⟩ := HK1.out
    have HK2 : Hid (Blk 39 w2 w.heap.size [.slice a vs.length ca, .slice b cs.length cb, .int .i64 nr, .int .i64 er] ∧ Below w.heap.size w w2) := ⟨K1.below hb2, B1.trans (hb2.mono B1.size)⟩
    have sG := sCellGet (a := some ⟨g1, 0, none⟩) (lv := vs.length) (ca := vs.length) (cb := cs.length) (nr := nr) (er := er) (n := n) (k := k) (rows_rdc R2 HS.out.2.1) HS.out.2.2.2
    obtain ⟨G, hG⟩ : ∃ G, G = getC n k cs := ⟨_, rfl⟩
    rw [← hG] at sG
    have HG : Hid (G = getC n k cs) := hG
    have SG : Hid _ := sG
    clear hG sG R1 R2 hg1 hg2 K1 B1 HK1 hb2
    go_wp2_with (go_at_call 18; refine hold ?_)
    refine (Calls.mono SG.out ?_)
    clear SG
    rintro e w3 ⟨rfl, hb3⟩
    have x0 := fun o => ((HK2.out.1.below hb3).alloc o).cell 0 rfl
    have x1 := fun o => ((HK2.out.1.below hb3).alloc o).cell 1 rfl
    have x2 := fun o => ((HK2.out.1.below hb3).alloc o).cell 2 rfl
    have x3 := fun o => ((HK2.out.1.below hb3).alloc o).cell 3 rfl
    have HK3 : Hid (Blk 39 w3 w.heap.size [.slice a vs.length ca, .slice b cs.length cb, .int .i64 nr, .int .i64 er] ∧ Below w.heap.size w w3) := ⟨HK2.out.1.below hb3, HK2.out.2.trans (hb3.mono HK2.out.2.size)⟩
    clear HK2 hb3
    go_wp2_with (go_at_call 19; refine hold ?_)
    clear x0 x1 x2 x3
    obtain ⟨K3, B3⟩ := HK3.out
    refine (CT.out _ (B3.alloc B3.size _)).mono ?_
    rintro e w4 ⟨g1, g2, rfl, hg1, hg2, R1, R2, hb4⟩
    have iG := fun o => iCellGet (a := some ⟨g1, 0, none⟩) (lv := vs.length) (ca := vs.length) (cb := cs.length) (nr := nr) (er := er) (n := n) (k := k) (rows_rdc (R2.kept (Below.heap_alloc w4 o g2 R2.lt)) HS.out.2.1) HS.out.2.2.2
    rw [← HG.out] at iG
    have IG : Hid _ := iG
    have H4 : Hid (Blk 39 w4 w.heap.size [.slice a vs.length ca, .slice b cs.length cb, .int .i64 nr, .int .i64 er] ∧ Below w.heap.size w w4 ∧ Blk 42 w4 w3.heap.size [.int .i64 G.1, .int .i64 G.2.1, .string G.2.2] ∧ Rows 42 encV w4 g1 vs ∧ Rows 62 encC w4 g2 cs) :=
      ⟨(K3.alloc _).below hb4, (B3.alloc B3.size _).trans (hb4.mono (B3.alloc B3.size _).size), (Blk.new 42 w3 [.int .i64 G.1, .int .i64 G.2.1, .string G.2.2]).below hb4, R1, R2⟩
    clear K3 B3 HK3 R1 R2 hb4 hg1 hg2 iG HG
    go_wp2_with (go_at_call 20; refine hold ?_)
    refine (Calls.mono (IG.out _) ?_)
    clear IG
    rintro e w5 ⟨rfl, hb5⟩
    have H5 : Hid (Blk 39 w5 w.heap.size [.slice a vs.length ca, .slice b cs.length cb, .int .i64 nr, .int .i64 er] ∧ Below w.heap.size w w5 ∧ Blk 31 w5 w4.heap.size [.slice (some ⟨g1, 0, none⟩) vs.length vs.length, .slice (some ⟨g2, 0, none⟩) cs.length cs.length, .int .i64 nr, .int .i64 er] ∧ Rows 42 encV w5 g1 vs ∧ Rows 62 encC w5 g2 cs) := by
      obtain ⟨K4, B4, _, R1, R2⟩ := H4.out
      exact ⟨(K4.alloc _).below hb5, (B4.alloc B4.size _).trans (hb5.mono (B4.alloc B4.size _).size), (Blk.new 31 w4 _).below hb5, R1.kept ((hb5.block _ (by have := R1.lt; simp; omega)).trans (Below.heap_alloc _ _ _ R1.lt)), R2.kept ((hb5.block _ (by have := R2.lt; simp; omega)).trans (Below.heap_alloc _ _ _ R2.lt))⟩
    have V5 := (H4.out.2.2.1.alloc _).below hb5
    have y0 := fun o => (V5.alloc o).cell 0 rfl
    have y1 := fun o => (V5.alloc o).cell 1 rfl
    have y2 := fun o => (V5.alloc o).cell 2 rfl
    clear V5 H4 hb5
    go_wp2_with (go_at_call 21; refine hold ?_)
    refine (lEqVal G _).mono ?_
    clear y0 y1 y2
    rintro e w6 ⟨rfl, hb6⟩
    obtain ⟨K5, B5, S5, Q1, Q2⟩ := H5.out
    have B6 := (B5.alloc B5.size _).trans (hb6.mono (B5.alloc B5.size _).size)
    have K6 := (K5.alloc _).below hb6
    have S6 := (S5.alloc _).below hb6
    have T1 := Q1.kept (w' := w6) ((hb6.block _ (by have := Q1.lt; simp; omega)).trans (Below.heap_alloc _ _ _ Q1.lt))
    have T2 := Q2.kept (w' := w6) ((hb6.block _ (by have := Q2.lt; simp; omega)).trans (Below.heap_alloc _ _ _ Q2.lt))
    have hd6 : Below w6.heap.size w6 w6.drew := (Below.refl _ _).drew
    have B6' := B6.trans (hd6.mono B6.size)
    have K6' := K6.below hd6
    have S6' := S6.below hd6
    have x0 := K6'.cell 0 rfl
    have x1 := K6'.cell 1 rfl
    have x2 := K6'.cell 2 rfl
    have x3 := K6'.cell 3 rfl
    have s0 := S6'.cell 0 rfl
    have s1 := S6'.cell 1 rfl
    have s2 := S6'.cell 2 rfl
    have s3 := S6'.cell 3 rfl
    have hEq : Hid (∀ (w7 : World) (h1 h2 : Nat), Below w6.drew.heap.size w6.drew w7 → Rows 42 encV w7 h1 vs → Rows 62 encC w7 h2 cs → Calls Try.prog 14 #[.agg #[.slice (some ⟨g1, 0, none⟩) vs.length vs.length, .slice (some ⟨g2, 0, none⟩) cs.length cs.length, .int .i64 nr, .int .i64 er], .agg #[.slice (some ⟨h1, 0, none⟩) vs.length vs.length, .slice (some ⟨h2, 0, none⟩) cs.length cs.length, .int .i64 nr, .int .i64 er]] w7 fun e w' => e = .returned (.bool true) ∧ Below w7.heap.size w7 w') := fun w7 h1 h2 h7 r1 r2 => by
      have u1 := T1.kept (w' := w7) ((h7.block _ T1.lt).trans (hd6.block _ T1.lt))
      have u2 := T2.kept (w' := w7) ((h7.block _ T2.lt).trans (hd6.block _ T2.lt))
      obtain ⟨m1, m2, m3, m4⟩ := HS.out
      exact lEqState (rows_rd u1 m1) (rows_rd r1 m1) (rows_rdc u2 m2) (rows_rdc r2 m2) (by omega) (by omega)
    have ct7 : Hid _ := CT.out w6.drew B6'
    have hS7 : Hid (∀ w7, Below w6.drew.heap.size w6.drew w7 → w7.cell? ⟨w4.heap.size, 0, none⟩ = some (.slice (some ⟨g1, 0, none⟩) vs.length vs.length) ∧ w7.cell? ⟨w4.heap.size, 1, none⟩ = some (.slice (some ⟨g2, 0, none⟩) cs.length cs.length) ∧ w7.cell? ⟨w4.heap.size, 2, none⟩ = some (.int .i64 nr) ∧ w7.cell? ⟨w4.heap.size, 3, none⟩ = some (.int .i64 er)) := fun w7 h7 => ⟨(S6'.below h7).cell 0 rfl, (S6'.below h7).cell 1 rfl, (S6'.below h7).cell 2 rfl, (S6'.below h7).cell 3 rfl⟩
    have HB6 : Hid (Below w.heap.size w w6.drew) := B6'
    clear K5 B5 S5 Q1 Q2 B6 K6 S6 T1 T2 hd6 B6' K6' S6' H5 hb6 CT HS
    go_wp2_with fail
    go_region_with (first
      | (go_at_call 19; refine Calls.mono ct7.out ?_; rintro e w7 ⟨h1, h2, rfl, _, _, r1, r2, hb7⟩; have e7 := hEq.out w7 h1 h2 hb7 r1 r2; obtain ⟨t0, t1, t2, t3⟩ := hS7.out w7 hb7)
      | (go_at_call 14; refine e7.mono ?_; rintro e w8 ⟨rfl, hb8⟩))
    all_goals
      go_wp2_with fail
      go_ret
      have h68 := hb7.trans (hb8.mono hb7.size)
      exact ⟨rfl, HB6.out.trans (h68.mono HB6.out.size)⟩
  · have bk : (1048576 : Int) < k.size := by omega
    have Hb0 : Hid (∀ o, Below w.heap.size w (w.alloc o)) := b0
    clear hV hC hn hm k0 b0
    go_enter Try.func5, Try.ntmps5
    go_wp2_with fail
    go_ret
    exact ⟨rfl, Hb0.out _⟩

end St
end Go.Proofs.Ytjlchfielpfehaa
