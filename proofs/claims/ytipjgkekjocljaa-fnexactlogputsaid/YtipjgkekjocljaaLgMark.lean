/-
  The laws' marks of entries and logs.
-/
import Derived.Test.YtipjgkekjocljaaLgArg
namespace Go.Proofs.Ytipjgkekjocljaa
open Go.RowKit
namespace Lg
open Nd Mk
open St (fm_len fm_get Rows.set1 turned_set turned_below turned_shift)
open Oc (hold Blk)
set_option linter.unusedSimpArgs false
set_option linter.unusedVariables false

def mkE (k j : Nat) : En := (((k + 4 * j : Nat) : Int), ((k + 4 * j + 1 : Nat) : Int), ((k + 4 * j + 2 : Nat) : Int), markT (k + 4 * j + 3))
def mkEs (k n : Nat) : List En := (List.range n).map (mkE k)
theorem mkEs_len (k n : Nat) : (mkEs k n).length = n := by simp [mkEs]
theorem mkEs_get {k n j : Nat} (h : j < n) : (mkEs k n)[j]? = some (mkE k j) := by simp [mkEs, h]

set_option maxHeartbeats 1000000 in
set_option maxRecDepth 100000 in
theorem lMarkEntryS {w : World} {g n k : Nat} {vs : List En} (h : St.Rows 47 encE w g vs) (hl : vs.length = n) (hn : n ≤ 1048576) (h1 : 1 ≤ k) (hk : k ≤ 12000000) :
    Calls Try.prog 19 #[.slice (some ⟨g, 0, none⟩) n n, .int .i64 k] w fun e w' => e = .returned (.int .i64 (k + 4 * n : Nat)) ∧ St.Rows 47 encE w' g (mkEs k n) ∧ Turned (fun _ => False) (.slice (some ⟨g, 0, none⟩) n n) w w' := by
  have bn : (n : Int) ≤ 1048576 := by omega
  go_enter Try.func19, Try.ntmps19
  go_wp2_with fail
  go_loopw [1, 5] (fun kv iv wr => ∃ (i : Nat) (L : List En), i ≤ n ∧ iv = .int .i64 i ∧ kv = .int .i64 (k + 4 * i : Nat) ∧ L.length = n ∧ (∀ j, j < i → L[j]? = some (mkE k j)) ∧ St.Rows 47 encE wr g L ∧ Turned (fun _ => False) (.slice (some ⟨g, 0, none⟩) n n) w wr) (fun _ iv _ => n - (intOf iv).toNat)
  case atStart => exact ⟨0, vs, Nat.zero_le _, rfl, rfl, hl, fun j hj => by omega, h, Turned.refl _ _ _⟩
  case round =>
    clear h hl
    obtain ⟨i, L, hi, rfl, rfl, hL, hM, hR, hT⟩ := hrel
    by_cases hil : i < n
    · obtain ⟨v, hv⟩ : ∃ v, L[i]? = some v := ⟨_, List.getElem?_eq_getElem (by omega)⟩
      obtain ⟨a, b, c, s⟩ := v
      have p0 : wr.cell? ⟨g, i * 4, none⟩ = some (.int .i64 a) := hR.cell encE_len hv (j := 0) rfl
      have p1 : wr.cell? ⟨g, i * 4 + 1, none⟩ = some (.int .i64 b) := hR.cell encE_len hv (j := 1) rfl
      have p2 : wr.cell? ⟨g, i * 4 + 2, none⟩ = some (.int .i64 c) := hR.cell encE_len hv (j := 2) rfl
      have p3 : wr.cell? ⟨g, i * 4 + 3, none⟩ = some (.string s) := hR.cell encE_len hv (j := 3) rfl
      have fz := hR.frozen
      have hgl := hR.lt
      obtain ⟨k0, hk0⟩ : ∃ k0, k0 = k + 4 * i := ⟨_, rfl⟩
      have HK : Hid (k0 = k + 4 * i) := hk0
      have bk0 : (k0 : Int) ≤ 17000000 := by omega
      obtain ⟨k3, hk3⟩ : ∃ k3, k3 = k0 + 3 := ⟨_, rfl⟩
      have t3 : (k0 : Int) + 1 + 1 + 1 = (k3 : Int) := by omega
      have bk3 : (k3 : Int) ≤ 18000000 := by omega
      have mt := fun w0 : World => lMarkText k3 (by omega) (by omega) w0
      have R1 := hR.set1 (j := 0) (v' := ((k0 : Int), b, c, s)) (x := .int .i64 k0) encE_len hv (by omega) rfl
      have R2 := R1.set1 (j := 1) (v := ((k0 : Int), b, c, s)) (v' := ((k0 : Int), (k0 : Int) + 1, c, s)) (x := .int .i64 ((k0 : Int) + 1)) encE_len (by rw [List.getElem?_set_self (by omega)]) (by omega) rfl
      rw [List.set_set] at R2
      have R3 := R2.set1 (j := 2) (v := ((k0 : Int), (k0 : Int) + 1, c, s)) (v' := ((k0 : Int), (k0 : Int) + 1, (k0 : Int) + 1 + 1, s)) (x := .int .i64 ((k0 : Int) + 1 + 1)) encE_len (by rw [List.getElem?_set_self (by omega)]) (by omega) rfl
      rw [List.set_set] at R3
      have T3 := turned_set (turned_set (turned_set hT (g := g) rfl (i * 4) (.int .i64 k0)) (g := g) rfl (i * 4 + 1) (.int .i64 ((k0 : Int) + 1))) (g := g) rfl (i * 4 + 2) (.int .i64 ((k0 : Int) + 1 + 1))
      rw [Nat.add_zero] at R1 R2 R3
      have HH : Hid (St.Rows 47 encE (((wr.setCell ⟨g, i * 4, none⟩ (.int .i64 k0)).setCell ⟨g, i * 4 + 1, none⟩ (.int .i64 ((k0 : Int) + 1))).setCell ⟨g, i * 4 + 2, none⟩ (.int .i64 ((k0 : Int) + 1 + 1))) g (L.set i ((k0 : Int), (k0 : Int) + 1, (k0 : Int) + 1 + 1, s)) ∧ Turned (fun _ => False) (.slice (some ⟨g, 0, none⟩) n n) w (((wr.setCell ⟨g, i * 4, none⟩ (.int .i64 k0)).setCell ⟨g, i * 4 + 1, none⟩ (.int .i64 ((k0 : Int) + 1))).setCell ⟨g, i * 4 + 2, none⟩ (.int .i64 ((k0 : Int) + 1 + 1)))) := ⟨R3, T3⟩
      rw [← hk0]
      have HK3 : Hid (k3 = k0 + 3) := hk3
      clear hk0 hk3 hR hT R1 R2 R3 T3
      go_wp2_with (go_at_call 36; refine hold ?_)
      obtain ⟨R2, T2⟩ := HH.out
      refine (mt _).mono ?_
      rintro e w2 ⟨rfl, hb2⟩
      have R3 := R2.kept (w' := w2) (hb2.block _ (by simpa using hgl))
      have T3 := turned_below T2 hb2
      have hv3 : (L.set i ((k0 : Int), (k0 : Int) + 1, (k0 : Int) + 1 + 1, s))[i]? = some ((k0 : Int), (k0 : Int) + 1, (k0 : Int) + 1 + 1, s) := by rw [List.getElem?_set_self (by omega)]
      have q0 : w2.cell? ⟨g, i * 4, none⟩ = some (.int .i64 k0) := R3.cell encE_len hv3 (j := 0) rfl
      have q1 : w2.cell? ⟨g, i * 4 + 1, none⟩ = some (.int .i64 ((k0 : Int) + 1)) := R3.cell encE_len hv3 (j := 1) rfl
      have q2 : w2.cell? ⟨g, i * 4 + 2, none⟩ = some (.int .i64 ((k0 : Int) + 1 + 1)) := R3.cell encE_len hv3 (j := 2) rfl
      have q3 : w2.cell? ⟨g, i * 4 + 3, none⟩ = some (.string s) := R3.cell encE_len hv3 (j := 3) rfl
      have fz2 := R3.frozen
      have R4 := R3.set1 (j := 3) (v' := ((k0 : Int), (k0 : Int) + 1, (k0 : Int) + 1 + 1, markT k3)) (x := .string (markT k3)) encE_len hv3 (by omega) rfl
      rw [List.set_set] at R4
      have T4 := turned_set T3 (g := g) rfl (i * 4 + 3) (.string (markT k3))
      have HH4 : Hid (St.Rows 47 encE (w2.setCell ⟨g, i * 4 + 3, none⟩ (.string (markT k3))) g (L.set i ((k0 : Int), (k0 : Int) + 1, (k0 : Int) + 1 + 1, markT k3)) ∧ Turned (fun _ => False) (.slice (some ⟨g, 0, none⟩) n n) w (w2.setCell ⟨g, i * 4 + 3, none⟩ (.string (markT k3)))) := ⟨R4, T4⟩
      clear R2 R3 R4 T2 T3 T4 hv3 HH hb2 p0 p1 p2 p3 fz
      go_wp2_with fail
      go_roundw
      case rel =>
        have e1 := HK.out
        have e2 := HK3.out
        refine ⟨i + 1, L.set i ((k0 : Int), (k0 : Int) + 1, (k0 : Int) + 1 + 1, markT k3), hil, by go_num, by congr 1; omega, by simpa using hL, fun j hj => ?_, HH4.out.1, HH4.out.2⟩
        by_cases hji : j = i
        · subst hji
          rw [List.getElem?_set_self (by omega)]
          subst e2 e1
          simp [mkE]
          omega
        · rw [List.getElem?_set_ne (by omega)]
          exact hM j (by omega)
      case measure => simp [intOf]; omega
    · obtain rfl : i = n := by omega
      have hLe : L = mkEs k i := by
        apply List.ext_getElem?
        intro j
        by_cases hj : j < i
        · rw [hM j hj, mkEs_get hj]
        · rw [List.getElem?_eq_none (by omega), List.getElem?_eq_none (by rw [mkEs_len]; omega)]
      subst hLe
      have HH : Hid (St.Rows 47 encE wr g (mkEs k i) ∧ Turned (fun _ => False) (.slice (some ⟨g, 0, none⟩) i i) w wr) := ⟨hR, hT⟩
      clear hR hT hM
      go_wp2_with fail
      go_ret
      exact ⟨rfl, HH.out.1, HH.out.2⟩

set_option maxHeartbeats 2000000 in
set_option maxRecDepth 100000 in
theorem lHeldEntryS {w : World} {g n k : Nat} (h : St.Rows 47 encE w g (mkEs k n)) (hn : n ≤ 1048576) (h1 : 1 ≤ k) (hk : k ≤ 12000000) :
    Calls Try.prog 37 #[.slice (some ⟨g, 0, none⟩) n n, .int .i64 k] w fun e w' => e = .returned (.int .i64 (k + 4 * n : Nat)) ∧ Below w.heap.size w w' := by
  have bn : (n : Int) ≤ 1048576 := by omega
  have hgl := h.lt
  go_enter Try.func37, Try.ntmps37
  go_wp2_with fail
  go_loopw [1, 5] (fun kv iv wr => ∃ i : Nat, i ≤ n ∧ iv = .int .i64 i ∧ kv = .int .i64 (k + 4 * i : Nat) ∧ Below w.heap.size w wr) (fun _ iv _ => n - (intOf iv).toNat)
  case atStart => exact ⟨0, Nat.zero_le _, rfl, rfl, Below.refl _ _⟩
  case round =>
    obtain ⟨i, hi, rfl, rfl, hb⟩ := hrel
    by_cases hil : i < n
    · have hR := h.kept (w' := wr) (hb.block _ hgl)
      have hv := mkEs_get (k := k) hil
      have p0 : wr.cell? ⟨g, i * 4, none⟩ = some (.int .i64 (k + 4 * i : Nat)) := hR.cell encE_len hv (j := 0) rfl
      have p1 : wr.cell? ⟨g, i * 4 + 1, none⟩ = some (.int .i64 (k + 4 * i + 1 : Nat)) := hR.cell encE_len hv (j := 1) rfl
      have p2 : wr.cell? ⟨g, i * 4 + 2, none⟩ = some (.int .i64 (k + 4 * i + 2 : Nat)) := hR.cell encE_len hv (j := 2) rfl
      have p3 : wr.cell? ⟨g, i * 4 + 3, none⟩ = some (.string (markT (k + 4 * i + 3))) := hR.cell encE_len hv (j := 3) rfl
      have hgw : g < wr.heap.size := hR.lt
      obtain ⟨k0, hk0⟩ : ∃ k0, k0 = k + 4 * i := ⟨_, rfl⟩
      rw [← hk0] at p0 p1 p2 p3 ⊢
      have HK : Hid (k0 = k + 4 * i) := hk0
      have bk0 : (k0 : Int) ≤ 17000000 := by omega
      obtain ⟨k3, hk3⟩ : ∃ k3, k3 = k0 + 3 := ⟨_, rfl⟩
      rw [← hk3] at p3
      have HK3 : Hid (k3 = k0 + 3) := hk3
      have t3 : (k0 : Int) + 1 + 1 + 1 = (k3 : Int) := by omega
      have bk3 : (k3 : Int) ≤ 18000000 := by omega
      have mt := fun w0 : World => lMarkText k3 (by omega) (by omega) w0
      rw [show ((k0 + 1 : Nat) : Int) = (k0 : Int) + 1 by omega] at p1
      rw [show ((k0 + 2 : Nat) : Int) = (k0 : Int) + 1 + 1 by omega] at p2
      clear hk0 hk3 hR hv h
      go_wp2_with fail
      go_region_with (first | (go_at_call 36; refine (mt _).mono ?_; rintro e w3 ⟨rfl, hb3⟩; have e1 := (hb3.cell (p := ⟨g, i * 4 + 3, none⟩) hgw).trans p3))
      all_goals go_wp2_with fail
      all_goals go_roundw
      all_goals first
        | (simp [intOf]; omega)
        | exact ⟨i + 1, hil, by go_num, by have a1 := HK.out; have a2 := HK3.out; congr 1; omega, hb.drew.trans (hb3.mono hb.size)⟩
    · obtain rfl : i = n := by omega
      go_wp2_with fail
      go_ret
      exact ⟨rfl, hb⟩

theorem log_cells {w w' : World} {p0 p1 p2 : Value} (h : w'.heap[w.heap.size]? = (w.alloc (.cells #[p0, p1, p2] 29)).heap[w.heap.size]?) :
    w'.cell? ⟨w.heap.size, 0, none⟩ = some p0 ∧ w'.cell? ⟨w.heap.size, 1, none⟩ = some p1 ∧ w'.cell? ⟨w.heap.size, 2, none⟩ = some p2 := by
  have h1 := h.trans (heap_alloc_new w (.cells #[p0, p1, p2] 29))
  simp [World.cell?, h1]

theorem lMarkLog {w : World} {g n k : Nat} {vs : List En} {b t : Int} (h : St.Rows 47 encE w g vs) (hl : vs.length = n) (hn : n ≤ 1048576) (h1 : 1 ≤ k) (hk : k ≤ 12000000) :
    Calls Try.prog 18 #[aggL b t (some ⟨g, 0, none⟩) n n, .int .i64 k] w fun e w' => e = .returned (.int .i64 (k + 4 * n : Nat)) ∧ St.Rows 47 encE w' g (mkEs k n) ∧ Turned (fun _ => False) (.slice (some ⟨g, 0, none⟩) n n) w w' := by
  have hg := h.lt
  have hr : ∀ o, St.Rows 47 encE (w.alloc o) g vs := fun o => h.kept (Below.heap_alloc _ _ _ hg)
  have cv := fun o => lMarkEntryS (k := k) (hr o) hl hn h1 hk
  obtain ⟨M, hM⟩ : ∃ M : Nat, M = k + 4 * n := ⟨_, rfl⟩
  rw [← hM] at cv ⊢
  have bM : (M : Int) ≤ 17000000 := by omega
  clear h hr hM
  go_enter Try.func18, Try.ntmps18
  go_wp2_with (go_at_call 19; refine (cv _).mono ?_; rintro e w2 ⟨rfl, R2, T2⟩)
  go_ret
  exact ⟨rfl, R2, turned_shift T2⟩

theorem lHeldLog {w : World} {g n k : Nat} {b t : Int} (h : St.Rows 47 encE w g (mkEs k n)) (hn : n ≤ 1048576) (h1 : 1 ≤ k) (hk : k ≤ 12000000) :
    Calls Try.prog 20 #[aggL b t (some ⟨g, 0, none⟩) n n, .int .i64 k] w fun e w' => e = .returned (.int .i64 (k + 4 * n : Nat)) ∧ Below w.heap.size w w' := by
  have hg := h.lt
  have hr : ∀ o, St.Rows 47 encE (w.alloc o) g (mkEs k n) := fun o => h.kept (Below.heap_alloc _ _ _ hg)
  have cv := fun o => lHeldEntryS (k := k) (hr o) hn h1 hk
  obtain ⟨M, hM⟩ : ∃ M : Nat, M = k + 4 * n := ⟨_, rfl⟩
  rw [← hM] at cv ⊢
  have bM : (M : Int) ≤ 17000000 := by omega
  have b0 : ∀ o, Below w.heap.size w (w.alloc o) := fun o => (Below.refl _ w).alloc (Nat.le_refl _) o
  clear h hr hM
  go_enter Try.func20, Try.ntmps20
  go_wp2_with (go_at_call 37; refine (cv _).mono ?_; rintro e w2 ⟨rfl, hb2⟩; have B2 := (b0 _).trans (hb2.mono (b0 _).size))
  go_ret
  exact ⟨rfl, B2⟩

end Lg
end Go.Proofs.Ytipjgkekjocljaa
