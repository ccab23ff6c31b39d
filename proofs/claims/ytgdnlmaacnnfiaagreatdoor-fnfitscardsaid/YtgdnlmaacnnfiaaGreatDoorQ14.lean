/-
  Chapter 5's specification: l5From, given l5Of.
  Chapter 5's specification: l5Then.
-/
import Derived.Test.YtgdnlmaacnnfiaaGreatDoorQ13
import Derived.RegionTactic
import Derived.ChangeAlike
import Derived.BigRegion
namespace Go.Proofs.YtgdnlmaacnnfiaaGreatDoor
open Go.RowKit
namespace Mt
open Rx Clo

theorem Tryz.infoRowr : (Tryz.prog.info? 60).map (fun i => (i.zero, i.size, i.bytes)) = some (some (.slice none 0 0), 1, 24) := by kernel_rfl

/-- One part: its Rex, and the numbers of its kids. -/
structure Part (w : World) (e q m : Nat) (t : Data) (kn : List Nat) (ts : Nat → Data) : Prop where
  is : ∃ (op c : Nat) (ss : List UInt8) (no : Bool) (ao : Option Addr) (n cap : Nat) (bo : Option Addr) (cap' : Nat), t = nd op c ss no (kn.map ts) ∧
    w.cell? ⟨q, m * 6, none⟩ = some (.int .i64 op) ∧ w.cell? ⟨q, m * 6 + 1, none⟩ = some (.int .i64 c) ∧ w.cell? ⟨q, m * 6 + 2, none⟩ = some (.string ⟨ss.toArray⟩) ∧ w.cell? ⟨q, m * 6 + 3, none⟩ = some (.bool no) ∧
    w.cell? ⟨q, m * 6 + 4, none⟩ = some (.slice ao n cap) ∧ w.cell? ⟨q, m * 6 + 5, none⟩ = some (.slice bo kn.length cap') ∧
    ∀ i k : Nat, kn[i]? = some k → ∃ g, bo = some ⟨g, 0, none⟩ ∧ g ≠ e ∧ w.cell? ⟨g, i, none⟩ = some (.int .i64 k)

/-- The work as it is laid: w0 is the world in which the first ends are asked. -/
structure St (w0 : World) (p e np : Nat) (s : ByteArray) (ts : Nat → Data) (kn : Nat → List Nat) : Prop where
  parts : ∃ q cap, w0.cell? ⟨p, 0, none⟩ = some (.slice (some ⟨q, 0, none⟩) np cap) ∧ q ≠ e ∧ ∀ m, m < np → Part w0 e q m (ts m) (kn m) ts
  text : w0.cell? ⟨p, 1, none⟩ = some (.string s)
  ends : w0.cell? ⟨p, 2, none⟩ = some (.slice (some ⟨e, 0, none⟩) np np)
  pe : p ≠ e
  el : e < w0.heap.size
  kids : ∀ m, m < np → ∀ k, k ∈ kn m → k < np
  small : s.size ≤ 1000
  few : np ≤ 100000

/-- How flags come back. -/
def Told (A : Nat → Prop) (w0 : World) (e np : Nat) (s : ByteArray) (ts : Nat → Data) (M : Nat → Bool) (w : World) (en : Ending) (w' : World) : Prop :=
  ∃ d, en = .returned (.slice (some ⟨d, 0, none⟩) (s.size + 1 : Nat) (s.size + 1 : Nat)) ∧ Bs d (s.size + 1) M w' ∧ w0.heap.size ≤ d ∧ ¬ A d ∧ But e w0 w' ∧ Memo A w0.heap.size e np s.size (gOf s) ts w' ∧ Kp w0.heap.size e w w'

def FromOk (w0 : World) (p e np : Nat) (s : ByteArray) (ts : Nat → Data) (n : Nat) : Prop :=
  ∀ (A : Nat → Prop) (at' : Nat) (w : World), at' ≤ s.size → (∀ k, A k → k < w.heap.size) → But e w0 w → Memo A w0.heap.size e np s.size (gOf s) ts w →
    Calls Tryz.prog 27 #[.pointer (some ⟨p, 0, none⟩), .int .i64 n, .int .i64 at'] w fun en w' => Told A w0 e np s ts (endsB (gOf s) s.size (ts n) at') w en w'

def OfOk (w0 : World) (p e np : Nat) (s : ByteArray) (ts : Nat → Data) (n : Nat) : Prop :=
  ∀ (A : Nat → Prop) (at' : Nat) (w : World), at' ≤ s.size → (∀ k, A k → k < w.heap.size) → But e w0 w → Memo A w0.heap.size e np s.size (gOf s) ts w →
    Calls Tryz.prog 58 #[.pointer (some ⟨p, 0, none⟩), .int .i64 n, .int .i64 at'] w fun en w' => Told A w0 e np s ts (endsB (gOf s) s.size (ts n) at') w en w'

theorem St.cells {w0 w : World} {p e np : Nat} {s : ByteArray} {ts : Nat → Data} {kn : Nat → List Nat} (h : St w0 p e np s ts kn) (hb : But e w0 w) :
    w.cell? ⟨p, 1, none⟩ = some (.string s) ∧ w.cell? ⟨p, 2, none⟩ = some (.slice (some ⟨e, 0, none⟩) np np) := by
  have hp : p < w0.heap.size := lt_of_cell h.text
  exact ⟨(hb.cell (a := ⟨p, 1, none⟩) h.pe hp).trans h.text, (hb.cell (a := ⟨p, 2, none⟩) h.pe hp).trans h.ends⟩

theorem kp_row {B e m b : Nat} {w w' : World} {n : Nat} (h : Kp B e w w') (hc : w.cell? ⟨e, m, none⟩ = some (.slice (some ⟨b, 0, none⟩) n n)) : w'.cell? ⟨e, m, none⟩ = some (.slice (some ⟨b, 0, none⟩) n n) := h.row _ _ _ _ hc

/-- A store into a row of ends keeps what is to be kept. -/
theorem kp_store {B e b a : Nat} {w w' : World} {cs : Array Value} (h : Kp B e w w') (hB : B ≤ b) (hr : w'.heap[b]? = some (.cells cs 60 (0, 0))) (he : e < B) (v : Value) : Kp B e w (w'.setCell ⟨b, a, none⟩ v) := by
  refine ⟨h.os, h.tape, h.output, by simpa using h.size, fun k hk hke hn => ?_, fun m a' l c hm => ?_⟩
  · have h1 := h.block k hk hke hn
    refine (Below.heap_setCell _ _ _ _ fun hkb => ?_).trans h1
    have hkb : k = b := hkb
    subst hkb
    exact hn hB cs (0, 0) (h1 ▸ hr)
  · rw [← h.row m a' l c hm]
    exact World.cell?_of_block (Below.heap_setCell _ _ _ _ (by show e ≠ b; omega))

/-- The tail of l5From: a row is there. -/
theorem kp_first {A : Nat → Prop} {B e np N : Nat} {g : Nat → Nat} {ts : Nat → Data} {w : World} (h : Memo A B e np N g ts w) {m : Nat} (hc : w.cell? ⟨e, m, none⟩ = some (.slice none 0 0)) (o : Obj) (v : Value) :
    Kp B e w ((w.alloc o).setCell ⟨e, m, none⟩ v) := by
  have hl := memo_lt h
  refine ⟨rfl, rfl, rfl, by simp, fun k hk hke _ => (Below.heap_setCell _ _ _ _ hke).trans (Below.heap_alloc _ _ _ hk), fun m' a l c hm => ?_⟩
  by_cases em : m' = m
  · subst em
    rw [hc] at hm
    simp at hm
  · have hne : (⟨e, m, none⟩ : Addr) ≠ ⟨e, m', none⟩ := by intro h; cases h; exact em rfl
    rw [World.cell?_setCell_other _ _ _ _ hne]
    rw [← hm]
    exact World.cell?_of_block (Below.heap_alloc _ _ _ hl)

set_option maxHeartbeats 2000000 in
set_option maxRecDepth 100000 in
theorem sFrom {w0 : World} {p e np : Nat} {s : ByteArray} {ts : Nat → Data} {kn : Nat → List Nat} (hSt : St w0 p e np s ts kn) {n : Nat} (hn : n < np) (hOf : OfOk w0 p e np s ts n) : FromOk w0 p e np s ts n := by
  intro A at' w hat hA hb hM
  obtain ⟨N1, hN1⟩ : ∃ N1 : Nat, N1 = s.size + 1 := ⟨_, rfl⟩
  have hsm := hSt.small
  have hfew := hSt.few
  have hel := hSt.el
  have bN : (N1 : Int) ≤ 1001 := by omega
  have bn : (n : Int) < np := by omega
  have bat : (at' : Int) < N1 := by omega
  have t1 : (s.size : Int) + 1 = (N1 : Int) := by omega
  have hw0 := hb.2.2.2.1
  have bs : (s.size : Int) ≤ 1000 := by omega
  have HN : Hid (N1 = s.size + 1) := hN1
  have hmk := run_make_row' (P := Tryz.prog) 116 60 (.slice none 0 0) 24 Tryz.underlying116 Tryz.infoRowr rfl .i64 .i64 N1 (by omega) (by omega)
  have told : ∀ (A : Nat → Prop) (wx : World) (b : Nat), (∀ k, A k → k < w.heap.size) → wx.cell? ⟨e, n, none⟩ = some (.slice (some ⟨b, 0, none⟩) N1 N1) → Memo A w0.heap.size e np s.size (gOf s) ts wx → w0.heap.size ≤ b ∧ RowIs A w0.heap.size s.size (gOf s) (ts n) wx b := by
    intro A wx b hA hc hM
    rcases memo_cell hM hn with h | ⟨b', h, h1, _, h2⟩
    · rw [h] at hc; simp at hc
    · rw [h] at hc; simp at hc; obtain ⟨rfl, _⟩ := hc; exact ⟨h1, h2⟩
  obtain ⟨c1, c2⟩ := hSt.cells hb
  rcases memo_cell hM hn with hcn | ⟨b, hcn, hbB, hbA, hrow⟩
  · have fz := memo_frozen hM n
    have hpl : p < w.heap.size := lt_of_cell c1
    have helw : e < w.heap.size := memo_lt hM
    obtain ⟨o, ho⟩ : ∃ o : Obj, o = .cells (madeCells #[.slice none 0 0] N1) 60 := ⟨_, rfl⟩
    rw [← ho] at hmk
    have c2' : (w.alloc o).cell? ⟨p, 2, none⟩ = some (.slice (some ⟨e, 0, none⟩) np np) := (World.cell?_of_block (a := ⟨p, 2, none⟩) (Below.heap_alloc _ _ _ hpl)).trans c2
    have cn' : (w.alloc o).cell? ⟨e, n, none⟩ = some (.slice none 0 0) := (World.cell?_of_block (a := ⟨e, n, none⟩) (Below.heap_alloc _ _ _ helw)).trans hcn
    have fz' : (w.alloc o).frozen? ⟨e, n, none⟩ = false := (World.frozen?_of_block (a := ⟨e, n, none⟩) (Below.heap_alloc _ _ _ helw)).trans fz
    have hM1 := memo_row hM hw0 hel hA hn
    have hK1 := kp_first hM hcn o (.slice (some ⟨w.heap.size, 0, none⟩) N1 N1)
    rw [← hN1, ← ho] at hM1
    have HO : Hid (o = .cells (madeCells #[.slice none 0 0] N1) 60) := ho
    clear hN1 ho
    go_enter Tryz.func27, Tryz.ntmps27
    go_wp2_with fail
    go_region
    obtain ⟨w1, hw1⟩ : ∃ w1, w1 = ((w.setCell ⟨e, n, none⟩ (.slice (some ⟨w.heap.size, 0, none⟩) N1 N1)).alloc o).drew := ⟨_, rfl⟩
    have hE : (w.setCell ⟨e, n, none⟩ (.slice (some ⟨w.heap.size, 0, none⟩) N1 N1)).alloc o = (w.alloc o).setCell ⟨e, n, none⟩ (.slice (some ⟨w.heap.size, 0, none⟩) N1 N1) := (World.setCell_alloc_past o e n _ helw).symm
    rw [← hE] at hM1 hK1
    have hM2 : Memo A w0.heap.size e np s.size (gOf s) ts w1 := by rw [hw1]; exact memo_drewN hM1 1
    have hK2 : Kp w0.heap.size e w w1 := by rw [hw1]; exact hK1.drewN 1
    have hcn2 : w1.cell? ⟨e, n, none⟩ = some (.slice (some ⟨w.heap.size, 0, none⟩) N1 N1) := by
      rw [hw1]
      show ((w.setCell ⟨e, n, none⟩ (.slice (some ⟨w.heap.size, 0, none⟩) N1 N1)).alloc o).cell? ⟨e, n, none⟩ = _
      rw [hE]
      exact World.cell?_setCell_same _ _ _ cn'
    rw [← hw1]
    clear hM1 hK1 hcn fz c2' cn' fz' c1 c2 hM hmk hE
    have hb2 := hb.kp hK2
    obtain ⟨c1, c2⟩ := hSt.cells hb2
    obtain ⟨hbB, hrow⟩ := told A w1 _ hA hcn2 hM2
    have hca : w1.cell? ⟨w.heap.size, at', none⟩ = some (.slice none 0 0) := by
      rw [hw1]
      show ((w.setCell ⟨e, n, none⟩ (.slice (some ⟨w.heap.size, 0, none⟩) N1 N1)).alloc o).cell? ⟨w.heap.size, at', none⟩ = _
      rw [cell_of_row _ _ _ _ _ _ (show ((w.setCell ⟨e, n, none⟩ (.slice (some ⟨w.heap.size, 0, none⟩) N1 N1)).alloc o).heap[w.heap.size]? = some (.cells (madeCells #[.slice none 0 0] N1) 60 (0, 0)) by rw [HO.out]; have := heap_alloc_last (w.setCell ⟨e, n, none⟩ (.slice (some ⟨w.heap.size, 0, none⟩) N1 N1)) (.cells (madeCells #[.slice none 0 0] N1) 60); simpa using this)]
      rw [← Array.getElem?_toList, toList_madeCells_one]
      simp [List.getElem?_replicate]
      omega
    have hA1 : ∀ k, A k → k < w1.heap.size := fun k hk => Nat.lt_of_lt_of_le (hA k hk) hK2.size
    clear hw1
    go_wp2_with fail
    refine (hOf A at' w1 hat hA1 hb2 hM2).mono ?_
    rintro en w3 ⟨d, rfl, hd, hdB, hdA, hb3, hM3, hK3⟩
    rw [← HN.out]
    have hcn3 := kp_row hK3 hcn2
    obtain ⟨hbB3, hrow3⟩ := told A w3 _ hA hcn3 hM3
    obtain ⟨c1, c2⟩ := hSt.cells hb3
    have fz3 := row_frozen hrow3 at'
    have hcx : ∃ x, w3.cell? ⟨w.heap.size, at', none⟩ = some x := by
      rcases row_cell hrow3 hat with h | ⟨d', h, _⟩ <;> exact ⟨_, h⟩
    obtain ⟨x, hcx⟩ := hcx
    have hM4 := memo_ends hM3 hel hn (by rw [← HN.out]; exact hcn3) hat hdB hdA hd
    rw [← HN.out] at hM4
    obtain ⟨rcs, rc1, _⟩ := hrow3
    have hK4 := kp_store (a := at') (hK2.trans hK3) hbB3 rc1 hel (.slice (some ⟨d, 0, none⟩) N1 N1)
    have hd4 : Bs d (s.size + 1) (endsB (gOf s) s.size (ts n) at') (w3.setCell ⟨w.heap.size, at', none⟩ (.slice (some ⟨d, 0, none⟩) N1 N1)) := by
      refine hd.kept (Below.heap_setCell _ _ _ _ fun h => ?_)
      have h : d = w.heap.size := h
      unfold Bs at hd
      rw [h, rc1] at hd
      simp at hd
    have hb4 := hb.kp hK4
    obtain ⟨c1', c2'⟩ := hSt.cells hb4
    have hcn4 : (w3.setCell ⟨w.heap.size, at', none⟩ (.slice (some ⟨d, 0, none⟩) N1 N1)).cell? ⟨e, n, none⟩ = some (.slice (some ⟨w.heap.size, 0, none⟩) N1 N1) := by
      rw [← hcn3]
      exact World.cell?_of_block (Below.heap_setCell _ _ _ _ (by show e ≠ w.heap.size; omega))
    have hca4 : (w3.setCell ⟨w.heap.size, at', none⟩ (.slice (some ⟨d, 0, none⟩) N1 N1)).cell? ⟨w.heap.size, at', none⟩ = some (.slice (some ⟨d, 0, none⟩) N1 N1) := World.cell?_setCell_same _ _ _ hcx
    go_wp2_with fail
    go_ret
    exact ⟨d, by rw [← HN.out]; rfl, hd4, hdB, hdA, hb4, hM4, hK4⟩
  · rw [← hN1] at hcn
    rcases row_cell hrow hat with hca | ⟨d, hca, hdB, hdA, hd⟩
    · obtain ⟨w1, hw1⟩ : ∃ w1, w1 = w := ⟨_, rfl⟩
      have hM2 : Memo A w0.heap.size e np s.size (gOf s) ts w1 := by rw [hw1]; exact hM
      have hK2 : Kp w0.heap.size e w w1 := by rw [hw1]; exact Kp.refl _ _ _
      have hA1 : ∀ k, A k → k < w1.heap.size := by rw [hw1]; exact hA
      have hb2 := hb.kp hK2
      have hcn2 : w1.cell? ⟨e, n, none⟩ = some (.slice (some ⟨b, 0, none⟩) N1 N1) := by rw [hw1]; exact hcn
      clear hN1 hM hmk
      go_enter Tryz.func27, Tryz.ntmps27
      go_wp2_with fail
      rw [← hw1]
      clear hw1 hcn hca c1 c2 hrow
      refine (hOf A at' w1 hat hA1 hb2 hM2).mono ?_
      rintro en w3 ⟨d, rfl, hd, hdB, hdA, hb3, hM3, hK3⟩
      rw [← HN.out]
      have hcn3 := kp_row hK3 hcn2
      obtain ⟨hbB3, hrow3⟩ := told A w3 _ hA hcn3 hM3
      obtain ⟨c1, c2⟩ := hSt.cells hb3
      have fz3 := row_frozen hrow3 at'
      have hcx : ∃ x, w3.cell? ⟨b, at', none⟩ = some x := by
        rcases row_cell hrow3 hat with h | ⟨d', h, _⟩ <;> exact ⟨_, h⟩
      obtain ⟨x, hcx⟩ := hcx
      have hM4 := memo_ends hM3 hel hn (by rw [← HN.out]; exact hcn3) hat hdB hdA hd
      rw [← HN.out] at hM4
      obtain ⟨rcs, rc1, _⟩ := hrow3
      have hK4 := kp_store (a := at') (hK2.trans hK3) hbB3 rc1 hel (.slice (some ⟨d, 0, none⟩) N1 N1)
      have hd4 : Bs d (s.size + 1) (endsB (gOf s) s.size (ts n) at') (w3.setCell ⟨b, at', none⟩ (.slice (some ⟨d, 0, none⟩) N1 N1)) := by
        refine hd.kept (Below.heap_setCell _ _ _ _ fun h => ?_)
        have h : d = b := h
        unfold Bs at hd
        rw [h, rc1] at hd
        simp at hd
      have hb4 := hb.kp hK4
      obtain ⟨c1', c2'⟩ := hSt.cells hb4
      have hcn4 : (w3.setCell ⟨b, at', none⟩ (.slice (some ⟨d, 0, none⟩) N1 N1)).cell? ⟨e, n, none⟩ = some (.slice (some ⟨b, 0, none⟩) N1 N1) := by
        rw [← hcn3]
        exact World.cell?_of_block (Below.heap_setCell _ _ _ _ (by show e ≠ b; omega))
      have hca4 : (w3.setCell ⟨b, at', none⟩ (.slice (some ⟨d, 0, none⟩) N1 N1)).cell? ⟨b, at', none⟩ = some (.slice (some ⟨d, 0, none⟩) N1 N1) := World.cell?_setCell_same _ _ _ hcx
      go_wp2_with fail
      go_ret
      exact ⟨d, by rw [← HN.out]; rfl, hd4, hdB, hdA, hb4, hM4, hK4⟩
    · rw [← hN1] at hca
      clear hN1
      go_enter Tryz.func27, Tryz.ntmps27
      go_wp2_with fail
      go_ret
      exact ⟨d, by rw [← HN.out]; rfl, hd, hdB, hdA, hb, hM, Kp.refl _ _ _⟩

end Mt
end Go.Proofs.YtgdnlmaacnnfiaaGreatDoor

namespace Go.Proofs.YtgdnlmaacnnfiaaGreatDoor
open Go.RowKit
namespace Mt
open Rx Clo

/-- The flags of a set. -/
noncomputable def pB (P : Nat → Prop) : Nat → Bool := fun j => @decide (P j) (Classical.propDecidable _)
theorem pB_iff {P : Nat → Prop} {j : Nat} : pB P j = true ↔ P j := by
  unfold pB
  exact @decide_eq_true_iff _ (Classical.propDecidable _)
theorem bool_iff {a b : Bool} (h : a = true ↔ b = true) : a = b := by cases a <;> cases b <;> simp_all
theorem bs_iff {q n : Nat} {M : Nat → Bool} {P : Nat → Prop} {w : World} (h : Bs q n M w) (he : ∀ k, k < n → (M k = true ↔ P k)) : Bs q n (pB P) w := bs_eq h fun k hk => bool_iff ((he k hk).trans pB_iff.symm)
theorem bs_ends {q n : Nat} {M : Nat → Bool} {g : Nat → Nat} {N : Nat} {t : Data} {i : Nat} {w : World} (h : Bs q n M w) (he : ∀ k, k < n → (M k = true ↔ Fit g N t i k)) : Bs q n (endsB g N t i) w := bs_eq h fun k hk => bool_iff ((he k hk).trans endsB_iff.symm)

/-- The numbers of the kids, as they lie in the first world. -/
def KidsAt (w0 : World) (e : Nat) (bo : Option Addr) (kn : List Nat) : Prop := ∀ i k : Nat, kn[i]? = some k → ∃ g, bo = some ⟨g, 0, none⟩ ∧ g ≠ e ∧ w0.cell? ⟨g, i, none⟩ = some (.int .i64 k)

theorem bs_fresh {n : Nat} {w : World} : Bs w.heap.size n (fun _ => false) (w.alloc (.cells (madeCells #[.bool false] n) 4)) := by
  rw [bools_made]; exact heap_alloc_last _ _

theorem take_succ {ks : List Nat} {j k : Nat} (h : ks[j]? = some k) (f : Nat → Data) : (ks.take (j + 1)).map f = (ks.take j).map f ++ [f k] := by
  rw [List.take_add_one, h]
  simp

theorem fitCat_le {g : Nat → Nat} {n : Nat} : ∀ {ks : List Data}, (∀ t ∈ ks, ∀ a b, a ≤ n → Fit g n t a b → b ≤ n) → ∀ a b, a ≤ n → FitCat g n ks a b → b ≤ n
  | [], _, a, b, ha, h => by simp [FitCat] at h; omega
  | t :: ts, hk, a, b, ha, h => by
    rw [FitCat] at h
    obtain ⟨m, h1, h2⟩ := h
    exact fitCat_le (fun t ht => hk t (by simp [ht])) m b (hk t (by simp) a m ha h1) h2

theorem memo_new {A : Nat → Prop} {B e np N : Nat} {g : Nat → Nat} {ts : Nat → Data} {w : World} (h : Memo A B e np N g ts w) (he : e < w.heap.size) (o : Obj) (j : Nat) (v : Value) : Memo A B e np N g ts ((w.alloc o).setCell ⟨w.heap.size, j, none⟩ v) := by
  have h1 : Memo (fun k => A k ∨ k = w.heap.size) B e np N g ts w := memo_mono h fun k hk h => h.elim id fun h => by omega
  exact memo_mono (memo_set (memo_alloc h1 o) (q := w.heap.size) (.inr rfl) (by omega) j v) fun k _ h => .inl h
theorem memo_fresh {A : Nat → Prop} {B e np N : Nat} {g : Nat → Nat} {ts : Nat → Data} {w : World} (h : Memo A B e np N g ts w) (o : Obj) : Memo (fun k => A k ∨ k = w.heap.size) B e np N g ts (w.alloc o) :=
  memo_alloc (memo_mono h fun k hk h => h.elim id fun h => by omega) o

set_option maxHeartbeats 2000000 in
set_option maxRecDepth 100000 in
theorem sThen {w0 : World} {p e np : Nat} {s : ByteArray} {ts : Nat → Data} {kn' : Nat → List Nat} (hSt : St w0 p e np s ts kn') {kn : List Nat} (hk : ∀ k ∈ kn, FromOk w0 p e np s ts k) (hle : ∀ k ∈ kn, ∀ a b, a ≤ s.size → Fit (gOf s) s.size (ts k) a b → b ≤ s.size) (hkl : kn.length ≤ 100000) (bo : Option Addr) (cap : Nat) (hkid : KidsAt w0 e bo kn)
    (A : Nat → Prop) (at' : Nat) (w : World) (hat : at' ≤ s.size) (hA : ∀ k, A k → k < w.heap.size) (hb : But e w0 w) (hM : Memo A w0.heap.size e np s.size (gOf s) ts w) :
    Calls Tryz.prog 82 #[.pointer (some ⟨p, 0, none⟩), .slice bo kn.length cap, .int .i64 at'] w fun en w' => Told A w0 e np s ts (pB (FitCat (gOf s) s.size (kn.map ts) at')) w en w' := by
  obtain ⟨N1, hN1⟩ : ∃ N1 : Nat, N1 = s.size + 1 := ⟨_, rfl⟩
  have hsm := hSt.small
  have hel := hSt.el
  have bN : (N1 : Int) ≤ 1001 := by omega
  have bat : (at' : Int) < N1 := by omega
  have t1 : (s.size : Int) + 1 = (N1 : Int) := by omega
  have hw0 := hb.2.2.2.1
  have bs : (s.size : Int) ≤ 1000 := by omega
  have bk : (kn.length : Int) ≤ 100000 := by omega
  have HN : Hid (N1 = s.size + 1) := hN1
  have hmk := run_make_row' (P := Tryz.prog) 60 4 (.bool false) 1 Tryz.underlying60 Tryz.infoBoolr rfl .i64 .i64 N1 (by omega) (by omega)
  obtain ⟨c1, -⟩ := hSt.cells hb
  have hnew : Bs w.heap.size N1 (fun _ => false) (w.alloc (.cells (madeCells #[.bool false] N1) 4)) := bs_fresh
  have cnew := bs_cell hnew (k := at') (by omega)
  have fnew := bs_frozen hnew at'
  have hput := bs_put hnew at' true
  have hK0 : Kp w0.heap.size e w ((w.alloc (.cells (madeCells #[.bool false] N1) 4)).setCell ⟨w.heap.size, at', none⟩ (.bool true)) := ((Kp.refl _ _ w).alloc _).set (Nat.le_refl _) (by omega) _ _
  have hM0 : Memo A w0.heap.size e np s.size (gOf s) ts ((w.alloc (.cells (madeCells #[.bool false] N1) 4)).setCell ⟨w.heap.size, at', none⟩ (.bool true)) := memo_new hM (by omega) _ _ _
  have hwE : ((w.alloc (.cells (madeCells #[.bool false] N1) 4)).setCell ⟨w.heap.size, at', none⟩ (.bool true)) = w.alloc (.cells ((madeCells #[.bool false] N1).setIfInBounds at' (.bool true)) 4) := World.setCell_alloc_at _ _ _ _ _ rfl
  rw [hwE] at hput hK0 hM0
  clear hN1
  go_enter Tryz.func82, Tryz.ntmps82
  go_wp2_with fail
  clear cnew fnew hnew hwE
  go_loopw [7, 8] (fun v i wr => ∃ (d j : Nat) (M : Nat → Bool), v = .slice (some ⟨d, 0, none⟩) N1 N1 ∧ i = .int .i64 j ∧ j ≤ kn.length ∧ Bs d N1 M wr ∧ (∀ x, x < N1 → (M x = true ↔ FitCat (gOf s) s.size ((kn.take j).map ts) at' x)) ∧ w.heap.size ≤ d ∧ Memo A w0.heap.size e np s.size (gOf s) ts wr ∧ Kp w0.heap.size e w wr) (fun _ i _ => kn.length - (intOf i).toNat)
  case atStart =>
    exact ⟨w.heap.size, 0, _, rfl, rfl, by omega, hput, fun x hx => by simp [putB, FitCat], Nat.le_refl _, hM0, hK0⟩
  case round =>
    clear hput hK0 hM0
    obtain ⟨d, j, M, rfl, rfl, hj, hB, hC, hd, hMr, hKr⟩ := hrel
    have hbr := hb.kp hKr
    obtain ⟨c1r, -⟩ := hSt.cells hbr
    have hsz := hKr.size
    by_cases hjl : j < kn.length
    · have hkj : kn[j]? = some kn[j] := List.getElem?_eq_getElem hjl
      obtain ⟨k, hke⟩ : ∃ k, k = kn[j] := ⟨_, rfl⟩
      rw [← hke] at hkj
      have hF := hk k (by rw [hke]; exact List.getElem_mem _)
      clear hke
      obtain ⟨gk, rfl, hge, hgc⟩ := hkid j k hkj
      have hgl : gk < w0.heap.size := lt_of_cell hgc
      have bj : (j : Int) < kn.length := by omega
      have hnew : Bs wr.heap.size N1 (fun _ => false) (wr.alloc (.cells (madeCells #[.bool false] N1) 4)) := bs_fresh
      have hK1 := hKr.alloc (.cells (madeCells #[.bool false] N1) 4)
      have hM1 := memo_fresh hMr (.cells (madeCells #[.bool false] N1) 4)
      have hB1 : Bs d N1 M (wr.alloc (.cells (madeCells #[.bool false] N1) 4)) := hB.kept (Below.heap_alloc _ _ _ hB.lt)
      have hdl := hB.lt
      obtain ⟨q, hq⟩ : ∃ q, q = wr.heap.size := ⟨_, rfl⟩
      have hdq : d < q := by omega
      have hwq : w.heap.size ≤ q := by omega
      rw [← hq] at hnew hM1
      have hq1 : q < (wr.alloc (.cells (madeCells #[.bool false] N1) 4)).heap.size := by rw [hq]; simp
      have HQ : Hid (q = wr.heap.size) := hq
      clear hq
      go_wp2_with fail
      go_loopw [9, 10] (fun v i wx => ∃ (m : Nat) (M' : Nat → Bool), v = .slice (some ⟨q, 0, none⟩) N1 N1 ∧ i = .int .i64 m ∧ m ≤ N1 ∧ Bs q N1 M' wx ∧ (∀ x, x < N1 → (M' x = true ↔ ∃ y, y < m ∧ M y = true ∧ Fit (gOf s) s.size (ts k) y x)) ∧ Memo (fun x => A x ∨ x = q) w0.heap.size e np s.size (gOf s) ts wx ∧ Kp w0.heap.size e w wx ∧ Bs d N1 M wx ∧ q < wx.heap.size) (fun _ i _ => N1 - (intOf i).toNat)
      case atStart => exact ⟨0, _, by rw [HQ.out], rfl, by omega, hnew, fun x hx => by simp, hM1, hK1, hB1, hq1⟩
      case round =>
        clear hnew hK1 hM1 hB1 hq1 hMr hKr hbr c1r hsz hB
        obtain ⟨m, M', rfl, rfl, hm, hB', hC', hMx, hKx, hBx, hlx⟩ := hrel
        by_cases hml : m < N1
        · have hcm := bs_cell hBx hml
          rcases hMm : M m with _ | _
          · rw [hMm] at hcm
            go_wp2_with fail
            go_roundw
            case rel =>
              refine ⟨m + 1, M', rfl, by go_num, by omega, hB', fun x hx => (hC' x hx).trans ⟨fun ⟨y, h1, h2⟩ => ⟨y, by omega, h2⟩, fun ⟨y, h1, h2, h3⟩ => ⟨y, ?_, h2, h3⟩⟩, hMx, hKx, hBx, hlx⟩
              rcases Nat.lt_or_ge y m with h | h
              · exact h
              · have : y = m := by omega
                subst this
                rw [hMm] at h2
                cases h2
            case measure => simp [intOf]; omega
          · rw [hMm] at hcm
            have hbx := hb.kp hKx
            have hgx : wr.cell? ⟨gk, j, none⟩ = some (.int .i64 k) := (hbx.cell (a := ⟨gk, j, none⟩) hge hgl).trans hgc
            have hfrom := hF (fun x => A x ∨ x = q) m wr (by have := HN.out; omega) (fun x hx => by
              rcases hx with hx | rfl
              · have := hA x hx; have := hKx.size; omega
              · exact hlx) hbx hMx
            go_wp2_with fail
            refine hfrom.mono ?_
            rintro en w3 ⟨d3, rfl, hd3, hd3B, hd3A, hb3, hM3, hK3⟩
            rw [← HN.out] at hd3 ⊢
            have hl3 := hK3.size
            have hB3 := bs_kp hB' hK3 (by omega)
            have hj3 := sJoin hB3 hd3 (fun h => hd3A (.inr h.symm)) (by omega)
            go_wp2_with fail
            refine hj3.mono ?_
            rintro en w4 ⟨rfl, hB4, hbut⟩
            have hBd : Bs d N1 M w4 := (bs_kp hBx hK3 (by omega)).kept (hbut.2.2.2.2 d (by omega) (by omega))
            have hK4 : Kp w0.heap.size e w w4 := (hKx.trans hK3).of_but hbut (by omega) (by omega)
            have hM4 := memo_but hM3 (.inr rfl) (by omega) hbut
            have hl4 := hbut.2.2.2.1
            go_wp2_with fail
            go_roundw
            case rel =>
              refine ⟨m + 1, _, rfl, by go_num, by omega, hB4, fun x hx => ?_, hM4, hK4, hBd, by omega⟩
              rw [Bool.or_eq_true, hC' x hx, endsB_iff]
              constructor
              · rintro (⟨y, h1, h2⟩ | h)
                · exact ⟨y, by omega, h2⟩
                · exact ⟨m, by omega, hMm, h⟩
              · rintro ⟨y, h1, h2, h3⟩
                rcases Nat.lt_or_ge y m with h | h
                · exact .inl ⟨y, h, h2, h3⟩
                · have : y = m := by omega
                  subst this
                  exact .inr h3
            case measure => simp [intOf]; omega
        · obtain rfl : m = N1 := by omega
          go_wp2_with fail
          go_roundw
          case rel =>
            refine ⟨q, j + 1, M', rfl, by go_num, by omega, hB', fun x hx => ?_, by omega, memo_mono hMx (fun k _ h => .inl h), hKx⟩
            rw [hC' x hx, take_succ hkj, fitCat_take]
            constructor
            · rintro ⟨y, h1, h2, h3⟩
              exact ⟨y, (hC y h1).1 h2, h3⟩
            · rintro ⟨y, h2, h3⟩
              have hy : y < m := by
                have := fitCat_le (fun t ht => by
                  obtain ⟨k', hk', rfl⟩ := List.mem_map.1 ht
                  exact hle k' (List.mem_of_mem_take hk')) at' y hat h2
                have := HN.out
                omega
              exact ⟨y, hy, (hC y hy).2 h2, h3⟩
          case measure => simp [intOf]; omega
    · obtain rfl : j = kn.length := by omega
      go_wp2_with fail
      go_ret
      rw [List.take_length] at hC
      exact ⟨d, by rw [← HN.out]; rfl, by rw [← HN.out]; exact bs_iff hB hC, by omega, fun h => by have := hA d h; omega, hbr, hMr, hKr⟩

end Mt
end Go.Proofs.YtgdnlmaacnnfiaaGreatDoor

