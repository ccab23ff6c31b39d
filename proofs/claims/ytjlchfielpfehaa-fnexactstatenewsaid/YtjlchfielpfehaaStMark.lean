/-
  The laws' marks of values; the law FnExactStateNew.
-/
import Derived.Test.YtjlchfielpfehaaStVal
namespace Go.Proofs.Ytjlchfielpfehaa
open Go.RowKit
namespace St
open Nd Mk

/-- One cell of a row is set. -/
theorem Rows.set1 {α : Type} {T : TypeId} {f : α → List Value} {m : Nat} (hf : ∀ x, (f x).length = m) {w : World} {g : Nat} {vs : List α} (h : Rows T f w g vs) {k j : Nat} {v v' : α} {x : Value} (hv : vs[k]? = some v) (hj : j < m) (hx : f v' = (f v).set j x) : Rows T f (w.setCell ⟨g, k * m + j, none⟩ x) g (vs.set k v') := by
  have hk : k < vs.length := (List.getElem?_eq_some_iff.1 hv).1
  have hm : 0 < m := by omega
  unfold Rows at h ⊢
  have e : ((vs.set k v').flatMap f).toArray = ((vs.flatMap f).toArray).set! (k * m + j) x := by
    apply Array.ext'
    simp only [Array.set!_eq_setIfInBounds, Array.toList_setIfInBounds]
    apply List.ext_getElem?
    intro p
    have hl := Nat.mod_lt p hm
    rw [List.getElem?_set, fm_get hm hf, fm_get hm hf, fm_len hf, List.getElem?_set]
    by_cases hp : k = p / m
    · subst hp
      have hd := Nat.div_add_mod p m
      rw [Nat.mul_comm] at hd
      rw [if_pos rfl, if_pos hk, Option.bind_some, hv, Option.bind_some, hx, List.getElem?_set, hf]
      by_cases hq : j = p % m
      · rw [if_pos hq, if_pos hj, if_pos (by omega), if_pos]
        have : (p / m + 1) * m ≤ vs.length * m := Nat.mul_le_mul_right m hk
        rw [Nat.succ_mul] at this
        omega
      · rw [if_neg hq, if_neg (by omega)]
    · rw [if_neg hp, if_neg]
      intro hq
      apply hp
      rw [← hq, Nat.mul_comm, Nat.mul_add_div hm, Nat.div_eq_of_lt hj, Nat.add_zero]
  rw [e]
  simp [World.setCell, Array.getElem?_modify, h]

def mkV (k j : Nat) : Vl := (((k + 3 * j : Nat) : Int), ((k + 3 * j + 1 : Nat) : Int), markT (k + 3 * j + 2))
def mkVs (k n : Nat) : List Vl := (List.range n).map (mkV k)
theorem mkVs_len (k n : Nat) : (mkVs k n).length = n := by simp [mkVs]
theorem mkVs_get {k n j : Nat} (h : j < n) : (mkVs k n)[j]? = some (mkV k j) := by simp [mkVs, h]

theorem turned_set {S : Nat → Prop} {v : Value} {w w' : World} {g : Nat} (h : Turned S v w w') (hv : v.ownBlock = some g) (i : Nat) (x : Value) : Turned S v w (w'.setCell ⟨g, i, none⟩ x) :=
  ⟨h.os, h.tape, h.output, by simpa using h.size, fun j hj hn hne => by
    rw [Below.heap_setCell _ _ _ _ (fun e => hne (by rw [hv, e]))]
    exact h.block j hj hn hne⟩
theorem turned_below {S : Nat → Prop} {v : Value} {w w' w'' : World} (h : Turned S v w w') (hb : Below w'.heap.size w' w'') : Turned S v w w'' :=
  ⟨hb.os.trans h.os, hb.tape.trans h.tape, hb.output.trans h.output, Nat.le_trans h.size hb.size, fun j hj hn hne => (hb.block j (Nat.lt_of_lt_of_le hj h.size)).trans (h.block j hj hn hne)⟩

set_option maxHeartbeats 1000000 in
set_option maxRecDepth 100000 in
theorem lMarkValS {w : World} {g n k : Nat} {vs : List Vl} (h : Rows 42 encV w g vs) (hl : vs.length = n) (hn : n ≤ 1048576) (h1 : 1 ≤ k) (hk : k ≤ 4000000) :
    Calls Try.prog 32 #[.slice (some ⟨g, 0, none⟩) n n, .int .i64 k] w fun e w' => e = .returned (.int .i64 (k + 3 * n : Nat)) ∧ Rows 42 encV w' g (mkVs k n) ∧ Turned (fun _ => False) (.slice (some ⟨g, 0, none⟩) n n) w w' := by
  have bn : (n : Int) ≤ 1048576 := by omega
  go_enter Try.func32, Try.ntmps32
  go_wp2_with fail
  go_loopw [1, 5] (fun kv iv wr => ∃ (i : Nat) (L : List Vl), i ≤ n ∧ iv = .int .i64 i ∧ kv = .int .i64 (k + 3 * i : Nat) ∧ L.length = n ∧ (∀ j, j < i → L[j]? = some (mkV k j)) ∧ Rows 42 encV wr g L ∧ Turned (fun _ => False) (.slice (some ⟨g, 0, none⟩) n n) w wr) (fun _ iv _ => n - (intOf iv).toNat)
  case atStart => exact ⟨0, vs, Nat.zero_le _, rfl, rfl, hl, fun j hj => by omega, h, Turned.refl _ _ _⟩
  case round =>
    clear h hl
    obtain ⟨i, L, hi, rfl, rfl, hL, hM, hR, hT⟩ := hrel
    by_cases hil : i < n
    · obtain ⟨v, hv⟩ : ∃ v, L[i]? = some v := ⟨_, List.getElem?_eq_getElem (by omega)⟩
      obtain ⟨a, b, s⟩ := v
      have p0 : wr.cell? ⟨g, i * 3, none⟩ = some (.int .i64 a) := hR.cell encV_len hv (j := 0) rfl
      have p1 : wr.cell? ⟨g, i * 3 + 1, none⟩ = some (.int .i64 b) := hR.cell encV_len hv (j := 1) rfl
      have p2 : wr.cell? ⟨g, i * 3 + 2, none⟩ = some (.string s) := hR.cell encV_len hv (j := 2) rfl
      have fz := hR.frozen
      have hgl := hR.lt
      obtain ⟨k0, hk0⟩ : ∃ k0, k0 = k + 3 * i := ⟨_, rfl⟩
      have HK : Hid (k0 = k + 3 * i) := hk0
      have bk0 : (k0 : Int) ≤ 8000000 := by omega
      obtain ⟨k2, hk2⟩ : ∃ k2, k2 = k0 + 2 := ⟨_, rfl⟩
      have t2 : (k0 : Int) + 1 + 1 = (k2 : Int) := by omega
      have bk2 : (k2 : Int) ≤ 9000000 := by omega
      have mt := fun w0 : World => lMarkText k2 (by omega) (by omega) w0
      have R1 := hR.set1 (j := 0) (v' := ((k0 : Int), b, s)) (x := .int .i64 k0) encV_len hv (by omega) rfl
      have R2 := R1.set1 (j := 1) (v := ((k0 : Int), b, s)) (v' := ((k0 : Int), (k0 : Int) + 1, s)) (x := .int .i64 ((k0 : Int) + 1)) encV_len (by rw [List.getElem?_set_self (by omega)]) (by omega) rfl
      have T2 := turned_set (turned_set hT (g := g) rfl (i * 3) (.int .i64 k0)) (g := g) rfl (i * 3 + 1) (.int .i64 ((k0 : Int) + 1))
      rw [Nat.add_zero] at R1 R2
      rw [List.set_set] at R2
      have HH : Hid (Rows 42 encV ((wr.setCell ⟨g, i * 3, none⟩ (.int .i64 k0)).setCell ⟨g, i * 3 + 1, none⟩ (.int .i64 ((k0 : Int) + 1))) g (L.set i ((k0 : Int), (k0 : Int) + 1, s)) ∧ Turned (fun _ => False) (.slice (some ⟨g, 0, none⟩) n n) w ((wr.setCell ⟨g, i * 3, none⟩ (.int .i64 k0)).setCell ⟨g, i * 3 + 1, none⟩ (.int .i64 ((k0 : Int) + 1)))) := ⟨R2, T2⟩
      rw [← hk0]
      have HK2 : Hid (k2 = k0 + 2) := hk2
      clear hk0 hk2 hR hT R1 R2 T2
      go_wp2_with (go_at_call 50; refine hold ?_)
      obtain ⟨R2, T2⟩ := HH.out
      refine (mt _).mono ?_
      rintro e w2 ⟨rfl, hb2⟩
      have R3 := R2.kept (w' := w2) (hb2.block _ (by simpa using hgl))
      have T3 := turned_below T2 hb2
      have hv3 : (L.set i ((k0 : Int), (k0 : Int) + 1, s))[i]? = some ((k0 : Int), (k0 : Int) + 1, s) := by rw [List.getElem?_set_self (by omega)]
      have q0 : w2.cell? ⟨g, i * 3, none⟩ = some (.int .i64 k0) := R3.cell encV_len hv3 (j := 0) rfl
      have q1 : w2.cell? ⟨g, i * 3 + 1, none⟩ = some (.int .i64 ((k0 : Int) + 1)) := R3.cell encV_len hv3 (j := 1) rfl
      have q2 : w2.cell? ⟨g, i * 3 + 2, none⟩ = some (.string s) := R3.cell encV_len hv3 (j := 2) rfl
      have fz2 := R3.frozen
      have R4 := R3.set1 (j := 2) (v' := ((k0 : Int), (k0 : Int) + 1, markT k2)) (x := .string (markT k2)) encV_len hv3 (by omega) rfl
      rw [List.set_set] at R4
      have T4 := turned_set T3 (g := g) rfl (i * 3 + 2) (.string (markT k2))
      have HH4 : Hid (Rows 42 encV (w2.setCell ⟨g, i * 3 + 2, none⟩ (.string (markT k2))) g (L.set i ((k0 : Int), (k0 : Int) + 1, markT k2)) ∧ Turned (fun _ => False) (.slice (some ⟨g, 0, none⟩) n n) w (w2.setCell ⟨g, i * 3 + 2, none⟩ (.string (markT k2)))) := ⟨R4, T4⟩
      clear R2 R3 R4 T2 T3 T4 hv3 HH hb2 p0 p1 p2 fz
      go_wp2_with fail
      go_roundw
      case rel =>
        have e1 := HK.out
        have e2 := HK2.out
        refine ⟨i + 1, L.set i ((k0 : Int), (k0 : Int) + 1, markT k2), hil, by go_num, by congr 1; omega, by simpa using hL, fun j hj => ?_, HH4.out.1, HH4.out.2⟩
        by_cases hji : j = i
        · subst hji
          rw [List.getElem?_set_self (by omega)]
          subst e2 e1
          simp [mkV]
        · rw [List.getElem?_set_ne (by omega)]
          exact hM j (by omega)
      case measure => simp [intOf]; omega
    · obtain rfl : i = n := by omega
      have hLe : L = mkVs k i := by
        apply List.ext_getElem?
        intro j
        by_cases hj : j < i
        · rw [hM j hj, mkVs_get hj]
        · rw [List.getElem?_eq_none (by omega), List.getElem?_eq_none (by rw [mkVs_len]; omega)]
      subst hLe
      have HH : Hid (Rows 42 encV wr g (mkVs k i) ∧ Turned (fun _ => False) (.slice (some ⟨g, 0, none⟩) i i) w wr) := ⟨hR, hT⟩
      clear hR hT hM
      go_wp2_with fail
      go_ret
      exact ⟨rfl, HH.out.1, HH.out.2⟩

set_option maxRecDepth 100000 in
theorem lHeldValS {w : World} {g n k : Nat} (h : Rows 42 encV w g (mkVs k n)) (hn : n ≤ 1048576) (h1 : 1 ≤ k) (hk : k ≤ 4000000) :
    Calls Try.prog 34 #[.slice (some ⟨g, 0, none⟩) n n, .int .i64 k] w fun e w' => e = .returned (.int .i64 (k + 3 * n : Nat)) ∧ Below w.heap.size w w' := by
  have bn : (n : Int) ≤ 1048576 := by omega
  have hgl := h.lt
  go_enter Try.func34, Try.ntmps34
  go_wp2_with fail
  go_loopw [1, 5] (fun kv iv wr => ∃ i : Nat, i ≤ n ∧ iv = .int .i64 i ∧ kv = .int .i64 (k + 3 * i : Nat) ∧ Below w.heap.size w wr) (fun _ iv _ => n - (intOf iv).toNat)
  case atStart => exact ⟨0, Nat.zero_le _, rfl, rfl, Below.refl _ _⟩
  case round =>
    obtain ⟨i, hi, rfl, rfl, hb⟩ := hrel
    by_cases hil : i < n
    · have hR := h.kept (w' := wr) (hb.block _ hgl)
      have hv := mkVs_get (k := k) hil
      have p0 : wr.cell? ⟨g, i * 3, none⟩ = some (.int .i64 (k + 3 * i : Nat)) := hR.cell encV_len hv (j := 0) rfl
      have p1 : wr.cell? ⟨g, i * 3 + 1, none⟩ = some (.int .i64 (k + 3 * i + 1 : Nat)) := hR.cell encV_len hv (j := 1) rfl
      have p2 : wr.cell? ⟨g, i * 3 + 2, none⟩ = some (.string (markT (k + 3 * i + 2))) := hR.cell encV_len hv (j := 2) rfl
      have hgw : g < wr.heap.size := hR.lt
      obtain ⟨k0, hk0⟩ : ∃ k0, k0 = k + 3 * i := ⟨_, rfl⟩
      rw [← hk0] at p0 p1 p2 ⊢
      have HK : Hid (k0 = k + 3 * i) := hk0
      have bk0 : (k0 : Int) ≤ 8000000 := by omega
      obtain ⟨k2, hk2⟩ : ∃ k2, k2 = k0 + 2 := ⟨_, rfl⟩
      rw [← hk2] at p2
      have HK2 : Hid (k2 = k0 + 2) := hk2
      have t2 : (k0 : Int) + 1 + 1 = (k2 : Int) := by omega
      have bk2 : (k2 : Int) ≤ 9000000 := by omega
      have mt := fun w0 : World => lMarkText k2 (by omega) (by omega) w0
      rw [show ((k0 + 1 : Nat) : Int) = (k0 : Int) + 1 by omega] at p1
      clear hk0 hk2 hR hv h
      go_wp2_with fail
      go_region_with (first | (go_at_call 50; refine (mt _).mono ?_; rintro e w3 ⟨rfl, hb3⟩; have e1 := (hb3.cell (p := ⟨g, i * 3 + 2, none⟩) hgw).trans p2))
      all_goals go_wp2_with fail
      all_goals go_roundw
      all_goals first
        | (simp [intOf]; omega)
        | exact ⟨i + 1, hil, by go_num, by have a1 := HK.out; have a2 := HK2.out; congr 1; omega, hb.drew.trans (hb3.mono hb.size)⟩
    · obtain rfl : i = n := by omega
      go_wp2_with fail
      go_ret
      exact ⟨rfl, hb⟩


theorem lMarkCell0 (k : Int) (w : World) : Calls Try.prog 33 #[.slice none 0 0, .int .i64 k] w fun e w' => e = .returned (.int .i64 k) ∧ w' = w := by
  go_enter Try.func33, Try.ntmps33
  go_wp2_with fail
  go_loopw [1, 5] (fun kv iv wr => iv = .int .i64 0 ∧ kv = .int .i64 k ∧ wr = w) (fun _ _ _ => 0)
  case atStart => exact ⟨rfl, rfl, rfl⟩
  case round =>
    obtain ⟨rfl, rfl, rfl⟩ := hrel
    go_wp2_with fail
    go_ret
    exact ⟨rfl, rfl⟩
theorem lHeldCell0 (k : Int) (w : World) : Calls Try.prog 35 #[.slice none 0 0, .int .i64 k] w fun e w' => e = .returned (.int .i64 k) ∧ w' = w := by
  go_enter Try.func35, Try.ntmps35
  go_wp2_with fail
  go_loopw [1, 5] (fun kv iv wr => iv = .int .i64 0 ∧ kv = .int .i64 k ∧ wr = w) (fun _ _ _ => 0)
  case atStart => exact ⟨rfl, rfl, rfl⟩
  case round =>
    obtain ⟨rfl, rfl, rfl⟩ := hrel
    go_wp2_with fail
    go_ret
    exact ⟨rfl, rfl⟩

theorem st_cells1 {w w' : World} {p0 p1 p2 p3 : Value} (h : w'.heap[w.heap.size]? = (w.alloc (.cells #[p0, p1, p2, p3] 31)).heap[w.heap.size]?) :
    w'.cell? ⟨w.heap.size, 0, none⟩ = some p0 ∧ w'.cell? ⟨w.heap.size, 1, none⟩ = some p1 ∧ w'.cell? ⟨w.heap.size, 2, none⟩ = some p2 ∧ w'.cell? ⟨w.heap.size, 3, none⟩ = some p3 := by
  have h1 := h.trans (heap_new w (.cells #[p0, p1, p2, p3] 31))
  simp [World.cell?, h1]

theorem turned_shift {S : Nat → Prop} {v : Value} {w w' : World} {o : Obj} (h : Turned S v (w.alloc o) w') : Turned S v w w' :=
  ⟨h.os, h.tape, h.output, by have := h.size; simp at this; omega, fun j hj hn hne => (h.block j (by simp; omega) hn hne).trans (Below.heap_alloc _ _ _ hj)⟩

theorem lMarkState {w : World} {g n : Nat} {vs : List Vl} {a b : Int} (h : Rows 42 encV w g vs) (hl : vs.length = n) (hn : n ≤ 1048576) :
    Calls Try.prog 15 #[.agg #[.slice (some ⟨g, 0, none⟩) n n, .slice none 0 0, .int .i64 a, .int .i64 b], .int .i64 1] w fun e w' => e = .returned (.int .i64 (1 + 3 * n : Nat)) ∧ Rows 42 encV w' g (mkVs 1 n) ∧ Turned (fun _ => False) (.slice (some ⟨g, 0, none⟩) n n) w w' := by
  have hg := h.lt
  have hr : ∀ o, Rows 42 encV (w.alloc o) g vs := fun o => h.kept (Below.heap_alloc _ _ _ hg)
  have cv := fun o => lMarkValS (k := 1) (hr o) hl hn (by omega) (by omega)
  obtain ⟨M, hM⟩ : ∃ M : Nat, M = 1 + 3 * n := ⟨_, rfl⟩
  rw [← hM] at cv ⊢
  have bM : (M : Int) ≤ 4000000 := by omega
  clear h hr hM
  go_enter Try.func15, Try.ntmps15
  go_wp2_with (first
    | (go_at_call 32; refine (cv _).mono ?_; rintro e w2 ⟨rfl, R2, T2⟩; obtain ⟨r0, r1, r2, r3⟩ := st_cells1 (T2.block w.heap.size (by simp) id (by simp [Value.ownBlock]; omega)))
    | (go_at_call 33; refine (lMarkCell0 _ _).mono ?_; rintro e w3 ⟨rfl, rfl⟩))
  go_ret
  exact ⟨rfl, R2, turned_shift T2⟩

theorem lHeldState {w : World} {g n : Nat} {a b : Int} (h : Rows 42 encV w g (mkVs 1 n)) (hn : n ≤ 1048576) :
    Calls Try.prog 16 #[.agg #[.slice (some ⟨g, 0, none⟩) n n, .slice none 0 0, .int .i64 a, .int .i64 b], .int .i64 1] w fun e w' => e = .returned (.int .i64 (1 + 3 * n : Nat)) ∧ Below w.heap.size w w' := by
  have hg := h.lt
  have hr : ∀ o, Rows 42 encV (w.alloc o) g (mkVs 1 n) := fun o => h.kept (Below.heap_alloc _ _ _ hg)
  have cv := fun o => lHeldValS (k := 1) (hr o) hn (by omega) (by omega)
  obtain ⟨M, hM⟩ : ∃ M : Nat, M = 1 + 3 * n := ⟨_, rfl⟩
  rw [← hM] at cv ⊢
  have bM : (M : Int) ≤ 4000000 := by omega
  have b0 : ∀ o, Below w.heap.size w (w.alloc o) := fun o => (Below.refl _ w).alloc (Nat.le_refl _) o
  clear h hr hM
  go_enter Try.func16, Try.ntmps16
  go_wp2_with (first
    | (go_at_call 34; refine (cv _).mono ?_; rintro e w2 ⟨rfl, hb2⟩; obtain ⟨r0, r1, r2, r3⟩ := st_cells1 (hb2.block w.heap.size (by simp)); have B2 := (b0 _).trans (hb2.mono (b0 _).size))
    | (go_at_call 35; refine (lHeldCell0 _ _).mono ?_; rintro e w3 ⟨rfl, rfl⟩))
  go_ret
  exact ⟨rfl, B2⟩

theorem rdc_nil (w : World) : RdC w none [] := fun i c h => by simp at h
theorem zero_small (n : Nat) : ∀ v ∈ List.replicate n zeroV, v.2.2.size ≤ maxLen := fun v h => by rw [List.eq_of_mem_replicate h]; exact Nat.zero_le _

/-- A state in its variable. -/
def Sv (w : World) (B : Nat) (p0 p1 p2 p3 : Value) : Prop := w.heap[B]? = some (.cells #[p0, p1, p2, p3] 31 (0, 0))
theorem Sv.lt {w : World} {B : Nat} {p0 p1 p2 p3 : Value} (h : Sv w B p0 p1 p2 p3) : B < w.heap.size := by
  unfold Sv at h
  by_cases h' : B < w.heap.size
  · exact h'
  · rw [Array.getElem?_eq_none (by omega)] at h; cases h
theorem Sv.cells {w : World} {B : Nat} {p0 p1 p2 p3 : Value} (h : Sv w B p0 p1 p2 p3) : w.cell? ⟨B, 0, none⟩ = some p0 ∧ w.cell? ⟨B, 1, none⟩ = some p1 ∧ w.cell? ⟨B, 2, none⟩ = some p2 ∧ w.cell? ⟨B, 3, none⟩ = some p3 := by
  unfold Sv at h
  simp [World.cell?, h]
theorem Sv.alloc {w : World} {B : Nat} {p0 p1 p2 p3 : Value} (h : Sv w B p0 p1 p2 p3) (o : Obj) : Sv (w.alloc o) B p0 p1 p2 p3 := (Below.heap_alloc _ _ _ h.lt).trans h
theorem Sv.below {w w' : World} {B : Nat} {p0 p1 p2 p3 : Value} (h : Sv w B p0 p1 p2 p3) (hb : Below w.heap.size w w') : Sv w' B p0 p1 p2 p3 := (hb.block _ h.lt).trans h
theorem Sv.new {w : World} {p0 p1 p2 p3 : Value} : Sv (w.alloc (.cells #[p0, p1, p2, p3] 31)) w.heap.size p0 p1 p2 p3 := heap_new _ _

set_option maxHeartbeats 1000000 in
set_option maxRecDepth 100000 in
theorem lawStateNew (z : Int) (w : World) :
    Calls Try.prog 4 #[.int .i64 z] w fun e w' => e = .returned (.bool true) ∧ Below w.heap.size w w' := by
  have iS := fun w => iStateNew z w
  have sS := fun w => sStateNew z w
  have hn8 := nn_le z
  generalize nn z = n at *
  have hlr : (List.replicate n zeroV).length = n := by simp
  have hsm := zero_small n
  have eqS : ∀ (w' : World) (g1 g2 : Nat), Rows 42 encV w' g1 (List.replicate n zeroV) → Rows 42 encV w' g2 (List.replicate n zeroV) → Calls Try.prog 14 #[.agg #[.slice (some ⟨g1, 0, none⟩) n n, .slice none 0 0, .int .i64 0, .int .i64 0], .agg #[.slice (some ⟨g2, 0, none⟩) n n, .slice none 0 0, .int .i64 0, .int .i64 0]] w' fun e w'' => e = .returned (.bool true) ∧ Below w'.heap.size w' w'' := fun w' g1 g2 h1 h2 => by
    have := lEqState (c1 := n) (c2 := n) (d1 := 0) (d2 := 0) (nr := 0) (er := 0) (rows_rd h1 hsm) (rows_rd h2 hsm) (rdc_nil w') (rdc_nil w') (by rw [hlr]; omega) (by simp)
    rw [hlr] at this
    exact this
  have mkS : ∀ (w' : World) (g : Nat), Rows 42 encV w' g (List.replicate n zeroV) → _ := fun w' g h => lMarkState (w := w') (a := 0) (b := 0) h hlr (by omega)
  have hdS : ∀ (w' : World) (g : Nat), Rows 42 encV w' g (mkVs 1 n) → _ := fun w' g h => lHeldState (w := w') (a := 0) (b := 0) h (by omega)
  generalize List.replicate n zeroV = R at *
  obtain ⟨M, hM⟩ : ∃ M : Nat, M = 1 + 3 * n := ⟨_, rfl⟩
  rw [← hM] at mkS hdS
  have hMn : ¬ ((M : Int) < 0) := by omega
  clear hn8 hlr hsm hM
  go_enter Try.func4, Try.ntmps4
  go_wp2_with (go_at_call 12; refine hold ?_)
  refine (sS _).mono ?_
  rintro e w1 ⟨g1, rfl, hg1, R1, hb1⟩
  go_wp2_with (go_at_call 13; refine hold ?_)
  refine (iS _).mono ?_
  rintro e w2 ⟨g2, rfl, hg2, R2, hb2⟩
  have l1 := R1.lt
  have hs1 := hb1.size
  have V0 := Sv.new.below hb2
  have R12 := (R1.kept (Below.heap_alloc _ _ _ l1)).kept (hb2.block _ (by simp; omega))
  have B2 := (hb1.alloc hb1.size _).trans (hb2.mono (by simp; omega))
  have c0 := fun o => (V0.alloc o).cells.1
  have c1 := fun o => (V0.alloc o).cells.2.1
  have c2 := fun o => (V0.alloc o).cells.2.2.1
  have c3 := fun o => (V0.alloc o).cells.2.2.2
  have l2 := R2.lt
  simp only [World.size_alloc] at hg2
  go_wp2_with (go_at_call 14; refine hold ?_)
  clear c0 c1 c2 c3
  refine (eqS _ _ _ (R2.kept (Below.heap_alloc _ _ _ l2)) (R12.kept (Below.heap_alloc _ _ _ R12.lt))).mono ?_
  rintro e w3 ⟨rfl, hb3⟩
  have hs3 := hb3.size
  simp only [World.size_alloc] at hs3
  have V03 := (V0.alloc _).below hb3
  have V23 := Sv.new.below hb3
  have B3 := (B2.alloc B2.size _).trans (hb3.mono (by have := B2.size; simp; omega))
  have R13 := (R12.kept (Below.heap_alloc _ _ _ R12.lt)).kept (hb3.block _ (by have := R12.lt; simp; omega))
  have R23 := (R2.kept (Below.heap_alloc _ _ _ l2)).kept (hb3.block _ (by simp; omega))
  obtain ⟨d0, d1, d2, d3⟩ := V23.cells
  go_wp2_with (go_at_call 15; refine hold ?_)
  clear d0 d1 d2 d3
  refine (mkS _ _ R23).mono ?_
  rintro e w4 ⟨rfl, R24, T4⟩
  have B4 : Below w.heap.size w w4 := ⟨T4.os.trans B3.os, T4.tape.trans B3.tape, T4.output.trans B3.output, Nat.le_trans B3.size T4.size, fun k hk => (T4.block k (Nat.lt_of_lt_of_le hk B3.size) id (by simp [Value.ownBlock]; omega)).trans (B3.block k hk)⟩
  have R14 : Rows 42 encV w4 g1 R := R13.kept (T4.block _ R13.lt id (by simp [Value.ownBlock]; omega))
  have V04 : Sv w4 w1.heap.size (.slice (some ⟨g1, 0, none⟩) n n) (.slice none 0 0) (.int .i64 0) (.int .i64 0) := (T4.block _ V03.lt id (by simp [Value.ownBlock]; omega)).trans V03
  have V24 : Sv w4 w2.heap.size (.slice (some ⟨g2, 0, none⟩) n n) (.slice none 0 0) (.int .i64 0) (.int .i64 0) := (T4.block _ V23.lt id (by simp [Value.ownBlock]; omega)).trans V23
  have h4 := Below.refl w4.heap.size w4
  have held : ∀ (w' : World) (h : Below w4.heap.size w4 w'), _ := fun w' h => hdS w' g2 (R24.kept (h.block _ R24.lt))
  obtain ⟨d0, d1, d2, d3⟩ := V24.cells
  clear R1 R2 R12 R13 R23 T4 V0 V03 V23
  go_wp2_with (first
    | (go_at_call 16; refine (held _ h4).mono ?_; rintro e w5 ⟨rfl, hb5⟩)
    | (go_at_call 13; refine hold ?_))
  clear d0 d1 d2 d3
  refine (iS _).mono ?_
  rintro e w6 ⟨g6, rfl, hg6, R6, hb6⟩
  have h6 := hb5.trans (hb6.mono hb5.size)
  have R16 := R14.kept (h6.block _ R14.lt)
  have V06 := V04.below h6
  have l6 := R6.lt
  have c0 := fun o => (V06.alloc o).cells.1
  have c1 := fun o => (V06.alloc o).cells.2.1
  have c2 := fun o => (V06.alloc o).cells.2.2.1
  have c3 := fun o => (V06.alloc o).cells.2.2.2
  go_wp2_with (go_at_call 14; refine hold ?_)
  clear c0 c1 c2 c3
  refine (eqS _ _ _ (R6.kept (Below.heap_alloc _ _ _ l6)) (R16.kept (Below.heap_alloc _ _ _ R16.lt))).mono ?_
  rintro e w7 ⟨rfl, hb7⟩
  have h7 : Below w4.heap.size w4 w7 := (h6.alloc h6.size _).trans (hb7.mono (by have := h6.size; simp; omega))
  obtain ⟨d0, d1, d2, d3⟩ := (V24.below h7).cells
  clear R6 R16 R14
  go_wp2_with (first
    | (go_at_call 16; refine (held _ h7).mono ?_; rintro e w8 ⟨rfl, hb8⟩; have h8 := h7.trans (hb8.mono h7.size)))
  go_ret
  exact ⟨rfl, B4.trans (h8.mono B4.size)⟩

end St
end Go.Proofs.Ytjlchfielpfehaa
