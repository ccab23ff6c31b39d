/-
  Chapter 5's specification: l5Of, given l5From of the kids.
-/
import Derived.Test.YtgdnlmaacnnfiaaGreatDoorQ15
namespace Go.Proofs.YtgdnlmaacnnfiaaGreatDoor
open Go.RowKit
namespace Mt
open Rx Clo

/-- The cells of a part, in any world of the work. -/
theorem St.part {w0 w : World} {p e np : Nat} {s : ByteArray} {ts : Nat → Data} {kn : Nat → List Nat} (h : St w0 p e np s ts kn) (hb : But e w0 w) {n : Nat} (hn : n < np) :
    ∃ (q cq : Nat) (op c : Nat) (ss : List UInt8) (no : Bool) (ao : Option Addr) (m cap : Nat) (bo : Option Addr) (cap' : Nat), q < w.heap.size ∧ w.cell? ⟨p, 0, none⟩ = some (.slice (some ⟨q, 0, none⟩) np cq) ∧ ts n = nd op c ss no ((kn n).map ts) ∧
    w.cell? ⟨q, n * 6, none⟩ = some (.int .i64 op) ∧ w.cell? ⟨q, n * 6 + 1, none⟩ = some (.int .i64 c) ∧ w.cell? ⟨q, n * 6 + 2, none⟩ = some (.string ⟨ss.toArray⟩) ∧ w.cell? ⟨q, n * 6 + 3, none⟩ = some (.bool no) ∧
    w.cell? ⟨q, n * 6 + 4, none⟩ = some (.slice ao m cap) ∧ w.cell? ⟨q, n * 6 + 5, none⟩ = some (.slice bo (kn n).length cap') ∧ KidsAt w0 e bo (kn n) := by
  obtain ⟨q, cq, h0, hqe, hp⟩ := h.parts
  obtain ⟨op, c, ss, no, ao, m, cap, bo, cap', ht, k0, k1, k2, k3, k4, k5, kk⟩ := (hp n hn).is
  have hql : q < w0.heap.size := lt_of_cell k0
  have hpl : p < w0.heap.size := lt_of_cell h0
  have hs := hb.2.2.2.1
  exact ⟨q, cq, op, c, ss, no, ao, m, cap, bo, cap', by omega, (hb.cell (a := ⟨p, 0, none⟩) h.pe hpl).trans h0, ht, (hb.cell (a := ⟨q, n * 6, none⟩) hqe hql).trans k0, (hb.cell (a := ⟨q, n * 6 + 1, none⟩) hqe hql).trans k1,
    (hb.cell (a := ⟨q, n * 6 + 2, none⟩) hqe hql).trans k2, (hb.cell (a := ⟨q, n * 6 + 3, none⟩) hqe hql).trans k3, (hb.cell (a := ⟨q, n * 6 + 4, none⟩) hqe hql).trans k4, (hb.cell (a := ⟨q, n * 6 + 5, none⟩) hqe hql).trans k5, kk⟩

theorem kp_below {B e : Nat} {w w1 w2 : World} (h : Kp B e w w1) (hb : Below w1.heap.size w1 w2) : Kp B e w w2 := by
  have h1 := h.size
  have h2 := hb.size
  refine ⟨hb.os.trans h.os, hb.tape.trans h.tape, hb.output.trans h.output, by omega, fun k hk hke hn => (hb.block k (by omega)).trans (h.block k hk hke hn), fun m a l c hm => ?_⟩
  have h3 := h.row m a l c hm
  rw [← h3]
  exact World.cell?_of_block (hb.block e (lt_of_cell h3))
theorem memo_below {A : Nat → Prop} {B e np N : Nat} {g : Nat → Nat} {ts : Nat → Data} {w w' : World} (h : Memo A B e np N g ts w) (hb : Below w.heap.size w w') : Memo A B e np N g ts w' :=
  memo_kept h (hb.block e (memo_lt h)) fun k _ hl _ => hb.block k hl

set_option maxHeartbeats 4000000 in
set_option maxRecDepth 100000 in
theorem sOfStar {w0 : World} {p e np : Nat} {s : ByteArray} {ts : Nat → Data} {kn : Nat → List Nat} (hSt : St w0 p e np s ts kn) {n kid : Nat} {t : Data} (hn : n < np) (ht : ts n = Rx.one 8 t) (hkn : kn n = [kid]) (hF : FromOk w0 p e np s ts kid) (hle : ∀ a b, a ≤ s.size → Fit (gOf s) s.size (ts kid) a b → b ≤ s.size) : OfOk w0 p e np s ts n := by
  intro A at' w hat hA hb hM
  obtain ⟨q, cq, op, c, ss, no, ao, m, cap, bo, cap', hql, h0, hte, k0, k1, k2, k3, k4, k5, kk⟩ := hSt.part hb hn
  rw [ht] at hte
  obtain ⟨rfl, rfl, rfl, rfl, hkt⟩ := nd_inj hte
  rw [hkn] at hkt k5 kk
  simp at hkt
  have hEq : ts n = Rx.one 8 (ts kid) := by rw [ht, hkt]
  obtain ⟨gk, rfl, hge, hgc⟩ := kk 0 kid rfl
  obtain ⟨N1, hN1⟩ : ∃ N1 : Nat, N1 = s.size + 1 := ⟨_, rfl⟩
  have hsm := hSt.small
  have hel := hSt.el
  have hfew := hSt.few
  have bN : (N1 : Int) ≤ 1001 := by omega
  have bn : (n : Int) < np := by omega
  have t1 : (s.size : Int) + 1 = (N1 : Int) := by omega
  have hw0 := hb.2.2.2.1
  have bs : (s.size : Int) ≤ 1000 := by omega
  have hmk := run_make_row' (P := Tryz.prog) 60 4 (.bool false) 1 Tryz.underlying60 Tryz.infoBoolr rfl .i64 .i64 N1 (by omega) (by omega)
  obtain ⟨c1, -⟩ := hSt.cells hb
  have hpl : p < w.heap.size := lt_of_cell c1
  have HN : Hid (N1 = s.size + 1) := hN1
  have hgl : gk < w0.heap.size := lt_of_cell hgc
  have hgw : gk < w.heap.size := by omega
  have hgc' : w.cell? ⟨gk, 0, none⟩ = some (.int .i64 kid) := (hb.cell (a := ⟨gk, 0, none⟩) hge hgl).trans hgc
  clear hN1 hgc
  go_enter Tryz.func58, Tryz.ntmps58
  go_wp2_with fail
  obtain ⟨w2, hw2⟩ : ∃ w2, w2 = (w.alloc (.cells (madeCells #[.bool false] N1) 4)).alloc (.cells #[.int .i64 8, .int .i64 0, .string ⟨#[]⟩, .bool false, .slice ao m cap, .slice (some ⟨gk, 0, none⟩) 1 cap'] 115) := ⟨_, rfl⟩
  have hK2 : Kp w0.heap.size e w w2 := by rw [hw2]; exact ((Kp.refl _ _ w).alloc _).alloc _
  have hM2 : Memo A w0.heap.size e np s.size (gOf s) ts w2 := by rw [hw2]; exact memo_alloc (memo_alloc hM _) _
  rw [← hw2]
  clear hw2
  refine (sOften0 hSt hF hle A at' w2 hat (fun k hk => Nat.lt_of_lt_of_le (hA k hk) hK2.size) (hb.kp hK2) hM2).mono ?_
  rintro en w3 ⟨d, rfl, hd, hdB, hdA, hb3, hM3, hK3⟩
  rw [← HN.out] at hd ⊢
  go_wp2_with fail
  go_ret
  refine ⟨d, by rw [← HN.out]; rfl, ?_, hdB, hdA, hb3, hM3, hK2.trans hK3⟩
  rw [← HN.out, hEq]
  exact bs_ends hd fun k _ => by rw [pB_iff, fit_star]

set_option maxHeartbeats 4000000 in
set_option maxRecDepth 100000 in
theorem sOfPlus {w0 : World} {p e np : Nat} {s : ByteArray} {ts : Nat → Data} {kn : Nat → List Nat} (hSt : St w0 p e np s ts kn) {n kid : Nat} {t : Data} (hn : n < np) (ht : ts n = Rx.one 9 t) (hkn : kn n = [kid]) (hF : FromOk w0 p e np s ts kid) (hle : ∀ a b, a ≤ s.size → Fit (gOf s) s.size (ts kid) a b → b ≤ s.size) : OfOk w0 p e np s ts n := by
  intro A at' w hat hA hb hM
  obtain ⟨q, cq, op, c, ss, no, ao, m, cap, bo, cap', hql, h0, hte, k0, k1, k2, k3, k4, k5, kk⟩ := hSt.part hb hn
  rw [ht] at hte
  obtain ⟨rfl, rfl, rfl, rfl, hkt⟩ := nd_inj hte
  rw [hkn] at hkt k5 kk
  simp at hkt
  have hEq : ts n = Rx.one 9 (ts kid) := by rw [ht, hkt]
  obtain ⟨gk, rfl, hge, hgc⟩ := kk 0 kid rfl
  obtain ⟨N1, hN1⟩ : ∃ N1 : Nat, N1 = s.size + 1 := ⟨_, rfl⟩
  have hsm := hSt.small
  have hel := hSt.el
  have hfew := hSt.few
  have bN : (N1 : Int) ≤ 1001 := by omega
  have bn : (n : Int) < np := by omega
  have t1 : (s.size : Int) + 1 = (N1 : Int) := by omega
  have hw0 := hb.2.2.2.1
  have bs : (s.size : Int) ≤ 1000 := by omega
  have hmk := run_make_row' (P := Tryz.prog) 60 4 (.bool false) 1 Tryz.underlying60 Tryz.infoBoolr rfl .i64 .i64 N1 (by omega) (by omega)
  obtain ⟨c1, -⟩ := hSt.cells hb
  have hpl : p < w.heap.size := lt_of_cell c1
  have HN : Hid (N1 = s.size + 1) := hN1
  have hgl : gk < w0.heap.size := lt_of_cell hgc
  have hgw : gk < w.heap.size := by omega
  have hgc' : w.cell? ⟨gk, 0, none⟩ = some (.int .i64 kid) := (hb.cell (a := ⟨gk, 0, none⟩) hge hgl).trans hgc
  clear hN1 hgc
  go_enter Tryz.func58, Tryz.ntmps58
  go_wp2_with fail
  obtain ⟨w2, hw2⟩ : ∃ w2, w2 = (w.alloc (.cells (madeCells #[.bool false] N1) 4)).alloc (.cells #[.int .i64 9, .int .i64 0, .string ⟨#[]⟩, .bool false, .slice ao m cap, .slice (some ⟨gk, 0, none⟩) 1 cap'] 115) := ⟨_, rfl⟩
  have hK2 : Kp w0.heap.size e w w2 := by rw [hw2]; exact ((Kp.refl _ _ w).alloc _).alloc _
  have hM2 : Memo A w0.heap.size e np s.size (gOf s) ts w2 := by rw [hw2]; exact memo_alloc (memo_alloc hM _) _
  rw [← hw2]
  clear hw2
  refine (sOften1 hSt hF hle A at' w2 hat (fun k hk => Nat.lt_of_lt_of_le (hA k hk) hK2.size) (hb.kp hK2) hM2).mono ?_
  rintro en w3 ⟨d, rfl, hd, hdB, hdA, hb3, hM3, hK3⟩
  rw [← HN.out] at hd ⊢
  go_wp2_with fail
  go_ret
  refine ⟨d, by rw [← HN.out]; rfl, ?_, hdB, hdA, hb3, hM3, hK2.trans hK3⟩
  rw [← HN.out, hEq]
  exact bs_ends hd fun k _ => by rw [pB_iff, fit_plus]

set_option maxHeartbeats 4000000 in
set_option maxRecDepth 100000 in
theorem sOfCat {w0 : World} {p e np : Nat} {s : ByteArray} {ts : Nat → Data} {kn : Nat → List Nat} (hSt : St w0 p e np s ts kn) {n : Nat} {ks : List Data} (hn : n < np) (ht : ts n = nd 6 0 [] false ks) (hkl : (kn n).length ≤ 100000) (hF : ∀ k ∈ kn n, FromOk w0 p e np s ts k) (hle : ∀ k ∈ kn n, ∀ a b, a ≤ s.size → Fit (gOf s) s.size (ts k) a b → b ≤ s.size) : OfOk w0 p e np s ts n := by
  intro A at' w hat hA hb hM
  obtain ⟨q, cq, op, c, ss, no, ao, m, cap, bo, cap', hql, h0, hte, k0, k1, k2, k3, k4, k5, kk⟩ := hSt.part hb hn
  rw [ht] at hte
  obtain ⟨rfl, rfl, rfl, rfl, hkt⟩ := nd_inj hte
  have hEq : ts n = nd 6 0 [] false ((kn n).map ts) := by rw [ht, hkt]
  obtain ⟨N1, hN1⟩ : ∃ N1 : Nat, N1 = s.size + 1 := ⟨_, rfl⟩
  have hsm := hSt.small
  have hel := hSt.el
  have hfew := hSt.few
  have bN : (N1 : Int) ≤ 1001 := by omega
  have bn : (n : Int) < np := by omega
  have t1 : (s.size : Int) + 1 = (N1 : Int) := by omega
  have hw0 := hb.2.2.2.1
  have bs : (s.size : Int) ≤ 1000 := by omega
  have hmk := run_make_row' (P := Tryz.prog) 60 4 (.bool false) 1 Tryz.underlying60 Tryz.infoBoolr rfl .i64 .i64 N1 (by omega) (by omega)
  obtain ⟨c1, -⟩ := hSt.cells hb
  have hpl : p < w.heap.size := lt_of_cell c1
  have HN : Hid (N1 = s.size + 1) := hN1
  clear hN1
  obtain ⟨kl, hkl'⟩ : ∃ kl, kl = kn n := ⟨_, rfl⟩
  rw [← hkl'] at hkl hF hle k5 kk hEq
  clear hkl'
  go_enter Tryz.func58, Tryz.ntmps58
  go_wp2_with fail
  obtain ⟨w2, hw2⟩ : ∃ w2, w2 = (w.alloc (.cells (madeCells #[.bool false] N1) 4)).alloc (.cells #[.int .i64 6, .int .i64 0, .string ⟨#[]⟩, .bool false, .slice ao m cap, .slice bo kl.length cap'] 115) := ⟨_, rfl⟩
  have hK2 : Kp w0.heap.size e w w2 := by rw [hw2]; exact ((Kp.refl _ _ w).alloc _).alloc _
  have hM2 : Memo A w0.heap.size e np s.size (gOf s) ts w2 := by rw [hw2]; exact memo_alloc (memo_alloc hM _) _
  rw [← hw2]
  clear hw2
  refine (sThen hSt hF hle hkl bo cap' kk A at' w2 hat (fun k hk => Nat.lt_of_lt_of_le (hA k hk) hK2.size) (hb.kp hK2) hM2).mono ?_
  rintro en w3 ⟨d, rfl, hd, hdB, hdA, hb3, hM3, hK3⟩
  rw [← HN.out] at hd ⊢
  go_wp2_with fail
  go_ret
  refine ⟨d, by rw [← HN.out]; rfl, ?_, hdB, hdA, hb3, hM3, hK2.trans hK3⟩
  rw [← HN.out, hEq]
  exact bs_ends hd fun k _ => by rw [pB_iff, fit_cat]

set_option maxHeartbeats 4000000 in
set_option maxRecDepth 100000 in
theorem sOfMay {w0 : World} {p e np : Nat} {s : ByteArray} {ts : Nat → Data} {kn : Nat → List Nat} (hSt : St w0 p e np s ts kn) {n kid : Nat} {t : Data} (hn : n < np) (ht : ts n = Rx.one 10 t) (hkn : kn n = [kid]) (hF : FromOk w0 p e np s ts kid) : OfOk w0 p e np s ts n := by
  intro A at' w hat hA hb hM
  obtain ⟨q, cq, op, c, ss, no, ao, m, cap, bo, cap', hql, h0, hte, k0, k1, k2, k3, k4, k5, kk⟩ := hSt.part hb hn
  rw [ht] at hte
  obtain ⟨rfl, rfl, rfl, rfl, hkt⟩ := nd_inj hte
  rw [hkn] at hkt k5 kk
  simp at hkt
  have hEq : ts n = Rx.one 10 (ts kid) := by rw [ht, hkt]
  obtain ⟨gk, rfl, hge, hgc⟩ := kk 0 kid rfl
  obtain ⟨N1, hN1⟩ : ∃ N1 : Nat, N1 = s.size + 1 := ⟨_, rfl⟩
  have hsm := hSt.small
  have hel := hSt.el
  have hfew := hSt.few
  have bN : (N1 : Int) ≤ 1001 := by omega
  have bn : (n : Int) < np := by omega
  have t1 : (s.size : Int) + 1 = (N1 : Int) := by omega
  have hw0 := hb.2.2.2.1
  have bs : (s.size : Int) ≤ 1000 := by omega
  have hmk := run_make_row' (P := Tryz.prog) 60 4 (.bool false) 1 Tryz.underlying60 Tryz.infoBoolr rfl .i64 .i64 N1 (by omega) (by omega)
  obtain ⟨c1, -⟩ := hSt.cells hb
  have hpl : p < w.heap.size := lt_of_cell c1
  have HN : Hid (N1 = s.size + 1) := hN1
  have hgl : gk < w0.heap.size := lt_of_cell hgc
  have hgw : gk < w.heap.size := by omega
  have hgc' : w.cell? ⟨gk, 0, none⟩ = some (.int .i64 kid) := (hb.cell (a := ⟨gk, 0, none⟩) hge hgl).trans hgc
  have bat : (at' : Int) < N1 := by omega
  clear hN1 hgc
  go_enter Tryz.func58, Tryz.ntmps58
  go_wp2_with fail
  obtain ⟨w2, hw2⟩ : ∃ w2, w2 = (w.alloc (.cells (madeCells #[.bool false] N1) 4)).alloc (.cells #[.int .i64 10, .int .i64 0, .string ⟨#[]⟩, .bool false, .slice ao m cap, .slice (some ⟨gk, 0, none⟩) 1 cap'] 115) := ⟨_, rfl⟩
  have hK2 : Kp w0.heap.size e w w2 := by rw [hw2]; exact ((Kp.refl _ _ w).alloc _).alloc _
  have hM2 : Memo (fun k => A k ∨ k = w.heap.size) w0.heap.size e np s.size (gOf s) ts w2 := by rw [hw2]; exact memo_alloc (memo_fresh hM _) _
  have hB2 : Bs w.heap.size N1 (fun _ => false) w2 := by rw [hw2]; exact bs_fresh.kept (Below.heap_alloc _ _ _ (by simp))
  have hs2 : w2.heap.size = w.heap.size + 2 := by rw [hw2]; simp
  rw [← hw2]
  clear hw2
  refine (hF (fun k => A k ∨ k = w.heap.size) at' w2 hat (fun k hk => by rcases hk with hk | rfl; have := hA k hk; omega; omega) (hb.kp hK2) hM2).mono ?_
  rintro en w3 ⟨d, rfl, hd, hdB, hdA, hb3, hM3, hK3⟩
  rw [← HN.out] at hd ⊢
  have hl3 := hK3.size
  have hB3 := bs_kp hB2 hK3 (by omega)
  have hj := sJoin hB3 hd (fun h => hdA (.inr h.symm)) (by omega)
  go_wp2_with fail
  refine hj.mono ?_
  rintro en w4 ⟨rfl, hB4, hbut⟩
  have hK4 := (hK2.trans hK3).of_but hbut (by omega) (by omega)
  have hM4 := memo_but hM3 (.inr rfl) (by omega) hbut
  have cc := bs_cell hB4 (k := at') (by omega)
  have ff := bs_frozen hB4 at'
  have hB5 := bs_put hB4 at' true
  have hK5 := hK4.set (q := w.heap.size) (Nat.le_refl _) (by omega) at' (.bool true)
  have hM5 := memo_set hM4 (q := w.heap.size) (.inr rfl) (by omega) at' (.bool true)
  go_wp2_with fail
  go_ret
  refine ⟨w.heap.size, by rw [← HN.out]; rfl, ?_, by omega, fun h => by have := hA _ h; omega, hb.kp hK5, memo_mono hM5 (fun k _ h => .inl h), hK5⟩
  rw [← HN.out, hEq]
  refine bs_ends hB5 fun k _ => ?_
  rw [fit_may]
  unfold putB
  by_cases hk : k = at'
  · simp [hk]
  · simp [hk, endsB_iff]

set_option maxHeartbeats 4000000 in
set_option maxRecDepth 100000 in
theorem sOfOr {w0 : World} {p e np : Nat} {s : ByteArray} {ts : Nat → Data} {kn : Nat → List Nat} (hSt : St w0 p e np s ts kn) {n : Nat} {ks : List Data} (hn : n < np) (ht : ts n = nd 7 0 [] false ks) (hkl : (kn n).length ≤ 100000) (hF : ∀ k ∈ kn n, FromOk w0 p e np s ts k) : OfOk w0 p e np s ts n := by
  intro A at' w hat hA hb hM
  obtain ⟨q, cq, op, c, ss, no, ao, m, cap, bo, cap', hql, h0, hte, k0, k1, k2, k3, k4, k5, kk⟩ := hSt.part hb hn
  rw [ht] at hte
  obtain ⟨rfl, rfl, rfl, rfl, hkt⟩ := nd_inj hte
  have hEq : ts n = nd 7 0 [] false ((kn n).map ts) := by rw [ht, hkt]
  obtain ⟨N1, hN1⟩ : ∃ N1 : Nat, N1 = s.size + 1 := ⟨_, rfl⟩
  have hsm := hSt.small
  have hel := hSt.el
  have hfew := hSt.few
  have bN : (N1 : Int) ≤ 1001 := by omega
  have bn : (n : Int) < np := by omega
  have t1 : (s.size : Int) + 1 = (N1 : Int) := by omega
  have hw0 := hb.2.2.2.1
  have bs : (s.size : Int) ≤ 1000 := by omega
  have hmk := run_make_row' (P := Tryz.prog) 60 4 (.bool false) 1 Tryz.underlying60 Tryz.infoBoolr rfl .i64 .i64 N1 (by omega) (by omega)
  obtain ⟨c1, -⟩ := hSt.cells hb
  have hpl : p < w.heap.size := lt_of_cell c1
  have HN : Hid (N1 = s.size + 1) := hN1
  clear hN1
  obtain ⟨kl, hkl'⟩ : ∃ kl, kl = kn n := ⟨_, rfl⟩
  rw [← hkl'] at hkl hF k5 kk hEq
  clear hkl'
  have bkl : (kl.length : Int) ≤ 100000 := by omega
  go_enter Tryz.func58, Tryz.ntmps58
  go_wp2_with fail
  obtain ⟨w2, hw2⟩ : ∃ w2, w2 = (w.alloc (.cells (madeCells #[.bool false] N1) 4)).alloc (.cells #[.int .i64 7, .int .i64 0, .string ⟨#[]⟩, .bool false, .slice ao m cap, .slice bo kl.length cap'] 115) := ⟨_, rfl⟩
  have hK2 : Kp w0.heap.size e w w2 := by rw [hw2]; exact ((Kp.refl _ _ w).alloc _).alloc _
  have hM2 : Memo (fun k => A k ∨ k = w.heap.size) w0.heap.size e np s.size (gOf s) ts w2 := by rw [hw2]; exact memo_alloc (memo_fresh hM _) _
  have hB2 : Bs w.heap.size N1 (fun _ => false) w2 := by rw [hw2]; exact bs_fresh.kept (Below.heap_alloc _ _ _ (by simp))
  have hx2 : w2.heap[w.heap.size + 1]? = some (.cells #[.int .i64 7, .int .i64 0, .string ⟨#[]⟩, .bool false, .slice ao m cap, .slice bo kl.length cap'] 115 (0, 0)) := by
    rw [hw2]
    have := heap_alloc_last (w.alloc (.cells (madeCells #[.bool false] N1) 4)) (.cells #[.int .i64 7, .int .i64 0, .string ⟨#[]⟩, .bool false, .slice ao m cap, .slice bo kl.length cap'] 115)
    rw [World.size_alloc] at this
    exact this
  have hs2 : w2.heap.size = w.heap.size + 2 := by rw [hw2]; simp
  rw [← hw2]
  clear hw2
  go_loopw [7, 9] (fun v i wr => ∃ (j : Nat) (M : Nat → Bool), v = .slice (some ⟨w.heap.size, 0, none⟩) N1 N1 ∧ i = .int .i64 j ∧ j ≤ kl.length ∧ Bs w.heap.size N1 M wr ∧ (∀ x, x < N1 → (M x = true ↔ FitOr (gOf s) s.size ((kl.take j).map ts) at' x)) ∧ Memo (fun k => A k ∨ k = w.heap.size) w0.heap.size e np s.size (gOf s) ts wr ∧ Kp w0.heap.size e w wr ∧ wr.heap[w.heap.size + 1]? = some (.cells #[.int .i64 7, .int .i64 0, .string ⟨#[]⟩, .bool false, .slice ao m cap, .slice bo kl.length cap'] 115 (0, 0))) (fun _ i _ => kl.length - (intOf i).toNat)
  case atStart => exact ⟨0, _, rfl, rfl, by omega, hB2, fun x hx => by simp [FitOr], hM2, hK2, hx2⟩
  case round =>
    clear hB2 hM2 hK2 hx2 hs2
    obtain ⟨j, M, rfl, rfl, hj, hB, hC, hMr, hKr, hxr⟩ := hrel
    have hxl : w.heap.size + 1 < wr.heap.size := heap_lt hxr
    have x5 : wr.cell? ⟨w.heap.size + 1, 5, none⟩ = some (.slice bo kl.length cap') := by rw [cell_of_row _ _ _ _ _ _ hxr]; rfl
    have hbr := hb.kp hKr
    by_cases hjl : j < kl.length
    · have hkj : kl[j]? = some kl[j] := List.getElem?_eq_getElem hjl
      obtain ⟨k, hke⟩ : ∃ k, k = kl[j] := ⟨_, rfl⟩
      rw [← hke] at hkj
      have hFk := hF k (by rw [hke]; exact List.getElem_mem _)
      clear hke
      obtain ⟨gk, rfl, hge, hgc⟩ := kk j k hkj
      have hgl : gk < w0.heap.size := lt_of_cell hgc
      have hgc' : wr.cell? ⟨gk, j, none⟩ = some (.int .i64 k) := (hbr.cell (a := ⟨gk, j, none⟩) hge hgl).trans hgc
      have bj : (j : Int) < kl.length := by omega
      go_wp2_with fail
      refine (hFk (fun k => A k ∨ k = w.heap.size) at' wr hat (fun k hk => by rcases hk with hk | rfl; have := hA k hk; omega; omega) hbr hMr).mono ?_
      rintro en w3 ⟨d, rfl, hd, hdB, hdA, hb3, hM3, hK3⟩
      rw [← HN.out] at hd ⊢
      have hl3 := hK3.size
      have hB3 := bs_kp hB hK3 (by omega)
      have hj3 := sJoin hB3 hd (fun h => hdA (.inr h.symm)) (by omega)
      have hx3 := (hK3.block (w.heap.size + 1) hxl (by omega) (fun _ cs fr h => by rw [hxr] at h; simp at h)).trans hxr
      go_wp2_with fail
      refine hj3.mono ?_
      rintro en w4 ⟨rfl, hB4, hbut⟩
      have hK4 := (hKr.trans hK3).of_but hbut (by omega) (by omega)
      have hM4 := memo_but hM3 (.inr rfl) (by omega) hbut
      have hx4 := (hbut.2.2.2.2 (w.heap.size + 1) (by omega) (by omega)).trans hx3
      go_wp2_with fail
      go_roundw
      case rel =>
        refine ⟨j + 1, _, rfl, by go_num, by omega, hB4, fun x hx => ?_, hM4, hK4, hx4⟩
        rw [Bool.or_eq_true, hC x hx, endsB_iff, take_succ hkj, fitOr_mem, fitOr_mem]
        constructor
        · rintro (⟨t, h1, h2⟩ | h)
          · exact ⟨t, List.mem_append.2 (.inl h1), h2⟩
          · exact ⟨ts k, by simp, h⟩
        · rintro ⟨t, h1, h2⟩
          rcases List.mem_append.1 h1 with h1 | h1
          · exact .inl ⟨t, h1, h2⟩
          · simp at h1
            subst h1
            exact .inr h2
      case measure => simp [intOf]; omega
    · obtain rfl : j = kl.length := by omega
      go_wp2_with fail
      go_ret
      rw [List.take_length] at hC
      refine ⟨w.heap.size, by rw [← HN.out]; rfl, ?_, by omega, fun h => by have := hA _ h; omega, hbr, memo_mono hMr (fun k _ h => .inl h), hKr⟩
      rw [← HN.out, hEq]
      exact bs_ends hB fun k hk => by rw [hC k hk, fit_or]

end Mt
end Go.Proofs.YtgdnlmaacnnfiaaGreatDoor

