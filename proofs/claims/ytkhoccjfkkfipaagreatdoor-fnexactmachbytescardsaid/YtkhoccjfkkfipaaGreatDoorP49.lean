/-
  The laws' marks of values; the law FnExactStateNew.
  The laws' marks of cells of a state.
-/
import Derived.Test.YtkhoccjfkkfipaaGreatDoorP09
namespace Go.Proofs.YtkhoccjfkkfipaaGreatDoor
open Go.RowKit
namespace St
open Nd Mk

/-- One cell of a row is set. -/
theorem Rows.set1 {α : Type} {T : TypeId} {f : α → List Value} {m : Nat} (hf : ∀ x, (f x).length = m) {w : World} {g : Nat} {vs : List α} (h : Rows T f w g vs) {k j : Nat} {v v' : α} {x : Value} (hv : vs[k]? = some v) (hj : j < m) (hx : f v' = (f v).set j x) : Rows T f (w.setCell ⟨g, k * m + j, none⟩ x) g (vs.set k v') := by
  have hk : k < vs.length := (List.getElem?_eq_some_iff.1 hv).1
  have hm : 0 < m := by omega
  unfold Rows at h ⊢
  have e : ((vs.set k v').flatMap f).toArray = ((vs.flatMap f).toArray).set! (k * m + j) x := by
    apply Array.ext'
    simp only [Array.set!_eq_setIfInBounds, Array.toList_setIfInBounds]
    apply List.ext_getElem?
    intro p
    have hl := Nat.mod_lt p hm
    rw [List.getElem?_set, fm_get hm hf, fm_get hm hf, fm_len hf, List.getElem?_set]
    by_cases hp : k = p / m
    · subst hp
      have hd := Nat.div_add_mod p m
      rw [Nat.mul_comm] at hd
      rw [if_pos rfl, if_pos hk, Option.bind_some, hv, Option.bind_some, hx, List.getElem?_set, hf]
      by_cases hq : j = p % m
      · rw [if_pos hq, if_pos hj, if_pos (by omega), if_pos]
        have : (p / m + 1) * m ≤ vs.length * m := Nat.mul_le_mul_right m hk
        rw [Nat.succ_mul] at this
        omega
      · rw [if_neg hq, if_neg (by omega)]
    · rw [if_neg hp, if_neg]
      intro hq
      apply hp
      rw [← hq, Nat.mul_comm, Nat.mul_add_div hm, Nat.div_eq_of_lt hj, Nat.add_zero]
  rw [e]
  simp [World.setCell, Array.getElem?_modify, h]

def mkV (k j : Nat) : Vl := (((k + 3 * j : Nat) : Int), ((k + 3 * j + 1 : Nat) : Int), markT (k + 3 * j + 2))
def mkVs (k n : Nat) : List Vl := (List.range n).map (mkV k)
theorem mkVs_len (k n : Nat) : (mkVs k n).length = n := by simp [mkVs]
theorem mkVs_get {k n j : Nat} (h : j < n) : (mkVs k n)[j]? = some (mkV k j) := by simp [mkVs, h]

theorem turned_set {S : Nat → Prop} {v : Value} {w w' : World} {g : Nat} (h : Turned S v w w') (hv : v.ownBlock = some g) (i : Nat) (x : Value) : Turned S v w (w'.setCell ⟨g, i, none⟩ x) :=
  ⟨h.os, h.tape, h.output, by simpa using h.size, fun j hj hn hne => by
    rw [Below.heap_setCell _ _ _ _ (fun e => hne (by rw [hv, e]))]
    exact h.block j hj hn hne⟩
theorem turned_below {S : Nat → Prop} {v : Value} {w w' w'' : World} (h : Turned S v w w') (hb : Below w'.heap.size w' w'') : Turned S v w w'' :=
  ⟨hb.os.trans h.os, hb.tape.trans h.tape, hb.output.trans h.output, Nat.le_trans h.size hb.size, fun j hj hn hne => (hb.block j (Nat.lt_of_lt_of_le hj h.size)).trans (h.block j hj hn hne)⟩

set_option maxHeartbeats 1000000 in
set_option maxRecDepth 100000 in
theorem lMarkValS {w : World} {g n k : Nat} {vs : List Vl} (h : Rows 67 encV w g vs) (hl : vs.length = n) (hn : n ≤ 1048576) (h1 : 1 ≤ k) (hk : k ≤ 12000000) :
    Calls Tryz.prog 62 #[.slice (some ⟨g, 0, none⟩) n n, .int .i64 k] w fun e w' => e = .returned (.int .i64 (k + 3 * n : Nat)) ∧ Rows 67 encV w' g (mkVs k n) ∧ Turned (fun _ => False) (.slice (some ⟨g, 0, none⟩) n n) w w' := by
  have bn : (n : Int) ≤ 1048576 := by omega
  go_enter Tryz.func62, Tryz.ntmps62
  go_wp2_with fail
  go_loopw [1, 5] (fun kv iv wr => ∃ (i : Nat) (L : List Vl), i ≤ n ∧ iv = .int .i64 i ∧ kv = .int .i64 (k + 3 * i : Nat) ∧ L.length = n ∧ (∀ j, j < i → L[j]? = some (mkV k j)) ∧ Rows 67 encV wr g L ∧ Turned (fun _ => False) (.slice (some ⟨g, 0, none⟩) n n) w wr) (fun _ iv _ => n - (intOf iv).toNat)
  case atStart => exact ⟨0, vs, Nat.zero_le _, rfl, rfl, hl, fun j hj => by omega, h, Turned.refl _ _ _⟩
  case round =>
    clear h hl
    obtain ⟨i, L, hi, rfl, rfl, hL, hM, hR, hT⟩ := hrel
    by_cases hil : i < n
    · obtain ⟨v, hv⟩ : ∃ v, L[i]? = some v := ⟨_, List.getElem?_eq_getElem (by omega)⟩
      obtain ⟨a, b, s⟩ := v
      have p0 : wr.cell? ⟨g, i * 3, none⟩ = some (.int .i64 a) := hR.cell encV_len hv (j := 0) rfl
      have p1 : wr.cell? ⟨g, i * 3 + 1, none⟩ = some (.int .i64 b) := hR.cell encV_len hv (j := 1) rfl
      have p2 : wr.cell? ⟨g, i * 3 + 2, none⟩ = some (.string s) := hR.cell encV_len hv (j := 2) rfl
      have fz := hR.frozen
      have hgl := hR.lt
      obtain ⟨k0, hk0⟩ : ∃ k0, k0 = k + 3 * i := ⟨_, rfl⟩
      have HK : Hid (k0 = k + 3 * i) := hk0
      have bk0 : (k0 : Int) ≤ 16000000 := by omega
      obtain ⟨k2, hk2⟩ : ∃ k2, k2 = k0 + 2 := ⟨_, rfl⟩
      have t2 : (k0 : Int) + 1 + 1 = (k2 : Int) := by omega
      have bk2 : (k2 : Int) ≤ 17000000 := by omega
      have mt := fun w0 : World => lMarkText k2 (by omega) (by omega) w0
      have R1 := hR.set1 (j := 0) (v' := ((k0 : Int), b, s)) (x := .int .i64 k0) encV_len hv (by omega) rfl
      have R2 := R1.set1 (j := 1) (v := ((k0 : Int), b, s)) (v' := ((k0 : Int), (k0 : Int) + 1, s)) (x := .int .i64 ((k0 : Int) + 1)) encV_len (by rw [List.getElem?_set_self (by omega)]) (by omega) rfl
      have T2 := turned_set (turned_set hT (g := g) rfl (i * 3) (.int .i64 k0)) (g := g) rfl (i * 3 + 1) (.int .i64 ((k0 : Int) + 1))
      rw [Nat.add_zero] at R1 R2
      rw [List.set_set] at R2
      have HH : Hid (Rows 67 encV ((wr.setCell ⟨g, i * 3, none⟩ (.int .i64 k0)).setCell ⟨g, i * 3 + 1, none⟩ (.int .i64 ((k0 : Int) + 1))) g (L.set i ((k0 : Int), (k0 : Int) + 1, s)) ∧ Turned (fun _ => False) (.slice (some ⟨g, 0, none⟩) n n) w ((wr.setCell ⟨g, i * 3, none⟩ (.int .i64 k0)).setCell ⟨g, i * 3 + 1, none⟩ (.int .i64 ((k0 : Int) + 1)))) := ⟨R2, T2⟩
      rw [← hk0]
      have HK2 : Hid (k2 = k0 + 2) := hk2
      clear hk0 hk2 hR hT R1 R2 T2
      go_wp2_with (go_at_call 61; refine hold ?_)
      obtain ⟨R2, T2⟩ := HH.out
      refine (mt _).mono ?_
      rintro e w2 ⟨rfl, hb2⟩
      have R3 := R2.kept (w' := w2) (hb2.block _ (by simpa using hgl))
      have T3 := turned_below T2 hb2
      have hv3 : (L.set i ((k0 : Int), (k0 : Int) + 1, s))[i]? = some ((k0 : Int), (k0 : Int) + 1, s) := by rw [List.getElem?_set_self (by omega)]
      have q0 : w2.cell? ⟨g, i * 3, none⟩ = some (.int .i64 k0) := R3.cell encV_len hv3 (j := 0) rfl
      have q1 : w2.cell? ⟨g, i * 3 + 1, none⟩ = some (.int .i64 ((k0 : Int) + 1)) := R3.cell encV_len hv3 (j := 1) rfl
      have q2 : w2.cell? ⟨g, i * 3 + 2, none⟩ = some (.string s) := R3.cell encV_len hv3 (j := 2) rfl
      have fz2 := R3.frozen
      have R4 := R3.set1 (j := 2) (v' := ((k0 : Int), (k0 : Int) + 1, markT k2)) (x := .string (markT k2)) encV_len hv3 (by omega) rfl
      rw [List.set_set] at R4
      have T4 := turned_set T3 (g := g) rfl (i * 3 + 2) (.string (markT k2))
      have HH4 : Hid (Rows 67 encV (w2.setCell ⟨g, i * 3 + 2, none⟩ (.string (markT k2))) g (L.set i ((k0 : Int), (k0 : Int) + 1, markT k2)) ∧ Turned (fun _ => False) (.slice (some ⟨g, 0, none⟩) n n) w (w2.setCell ⟨g, i * 3 + 2, none⟩ (.string (markT k2)))) := ⟨R4, T4⟩
      clear R2 R3 R4 T2 T3 T4 hv3 HH hb2 p0 p1 p2 fz
      go_wp2_with fail
      go_roundw
      case rel =>
        have e1 := HK.out
        have e2 := HK2.out
        refine ⟨i + 1, L.set i ((k0 : Int), (k0 : Int) + 1, markT k2), hil, by go_num, by congr 1; omega, by simpa using hL, fun j hj => ?_, HH4.out.1, HH4.out.2⟩
        by_cases hji : j = i
        · subst hji
          rw [List.getElem?_set_self (by omega)]
          subst e2 e1
          simp [mkV]
        · rw [List.getElem?_set_ne (by omega)]
          exact hM j (by omega)
      case measure => simp [intOf]; omega
    · obtain rfl : i = n := by omega
      have hLe : L = mkVs k i := by
        apply List.ext_getElem?
        intro j
        by_cases hj : j < i
        · rw [hM j hj, mkVs_get hj]
        · rw [List.getElem?_eq_none (by omega), List.getElem?_eq_none (by rw [mkVs_len]; omega)]
      subst hLe
      have HH : Hid (Rows 67 encV wr g (mkVs k i) ∧ Turned (fun _ => False) (.slice (some ⟨g, 0, none⟩) i i) w wr) := ⟨hR, hT⟩
      clear hR hT hM
      go_wp2_with fail
      go_ret
      exact ⟨rfl, HH.out.1, HH.out.2⟩

theorem lMarkCell0 (k : Int) (w : World) : Calls Tryz.prog 63 #[.slice none 0 0, .int .i64 k] w fun e w' => e = .returned (.int .i64 k) ∧ w' = w := by
  go_enter Tryz.func63, Tryz.ntmps63
  go_wp2_with fail
  go_loopw [1, 5] (fun kv iv wr => iv = .int .i64 0 ∧ kv = .int .i64 k ∧ wr = w) (fun _ _ _ => 0)
  case atStart => exact ⟨rfl, rfl, rfl⟩
  case round =>
    obtain ⟨rfl, rfl, rfl⟩ := hrel
    go_wp2_with fail
    go_ret
    exact ⟨rfl, rfl⟩
theorem st_cells1 {w w' : World} {p0 p1 p2 p3 : Value} (h : w'.heap[w.heap.size]? = (w.alloc (.cells #[p0, p1, p2, p3] 44)).heap[w.heap.size]?) :
    w'.cell? ⟨w.heap.size, 0, none⟩ = some p0 ∧ w'.cell? ⟨w.heap.size, 1, none⟩ = some p1 ∧ w'.cell? ⟨w.heap.size, 2, none⟩ = some p2 ∧ w'.cell? ⟨w.heap.size, 3, none⟩ = some p3 := by
  have h1 := h.trans (heap_new w (.cells #[p0, p1, p2, p3] 44))
  simp [World.cell?, h1]

theorem turned_shift {S : Nat → Prop} {v : Value} {w w' : World} {o : Obj} (h : Turned S v (w.alloc o) w') : Turned S v w w' :=
  ⟨h.os, h.tape, h.output, by have := h.size; simp at this; omega, fun j hj hn hne => (h.block j (by simp; omega) hn hne).trans (Below.heap_alloc _ _ _ hj)⟩

theorem lMarkState {w : World} {g n : Nat} {vs : List Vl} {a b : Int} (h : Rows 67 encV w g vs) (hl : vs.length = n) (hn : n ≤ 1048576) :
    Calls Tryz.prog 40 #[.agg #[.slice (some ⟨g, 0, none⟩) n n, .slice none 0 0, .int .i64 a, .int .i64 b], .int .i64 1] w fun e w' => e = .returned (.int .i64 (1 + 3 * n : Nat)) ∧ Rows 67 encV w' g (mkVs 1 n) ∧ Turned (fun _ => False) (.slice (some ⟨g, 0, none⟩) n n) w w' := by
  have hg := h.lt
  have hr : ∀ o, Rows 67 encV (w.alloc o) g vs := fun o => h.kept (Below.heap_alloc _ _ _ hg)
  have cv := fun o => lMarkValS (k := 1) (hr o) hl hn (by omega) (by omega)
  obtain ⟨M, hM⟩ : ∃ M : Nat, M = 1 + 3 * n := ⟨_, rfl⟩
  rw [← hM] at cv ⊢
  have bM : (M : Int) ≤ 4000000 := by omega
  clear h hr hM
  go_enter Tryz.func40, Tryz.ntmps40
  go_wp2_with (first
    | (go_at_call 62; refine (cv _).mono ?_; rintro e w2 ⟨rfl, R2, T2⟩; obtain ⟨r0, r1, r2, r3⟩ := st_cells1 (T2.block w.heap.size (by simp) id (by simp [Value.ownBlock]; omega)))
    | (go_at_call 63; refine (lMarkCell0 _ _).mono ?_; rintro e w3 ⟨rfl, rfl⟩))
  go_ret
  exact ⟨rfl, R2, turned_shift T2⟩

theorem rdc_nil (w : World) : RdC w none [] := fun i c h => by simp at h
theorem zero_small (n : Nat) : ∀ v ∈ List.replicate n zeroV, v.2.2.size ≤ maxLen := fun v h => by rw [List.eq_of_mem_replicate h]; exact Nat.zero_le _

/-- A state in its variable. -/
def Sv (w : World) (B : Nat) (p0 p1 p2 p3 : Value) : Prop := w.heap[B]? = some (.cells #[p0, p1, p2, p3] 44 (0, 0))
theorem Sv.lt {w : World} {B : Nat} {p0 p1 p2 p3 : Value} (h : Sv w B p0 p1 p2 p3) : B < w.heap.size := by
  unfold Sv at h
  by_cases h' : B < w.heap.size
  · exact h'
  · rw [Array.getElem?_eq_none (by omega)] at h; cases h
theorem Sv.cells {w : World} {B : Nat} {p0 p1 p2 p3 : Value} (h : Sv w B p0 p1 p2 p3) : w.cell? ⟨B, 0, none⟩ = some p0 ∧ w.cell? ⟨B, 1, none⟩ = some p1 ∧ w.cell? ⟨B, 2, none⟩ = some p2 ∧ w.cell? ⟨B, 3, none⟩ = some p3 := by
  unfold Sv at h
  simp [World.cell?, h]
theorem Sv.alloc {w : World} {B : Nat} {p0 p1 p2 p3 : Value} (h : Sv w B p0 p1 p2 p3) (o : Obj) : Sv (w.alloc o) B p0 p1 p2 p3 := (Below.heap_alloc _ _ _ h.lt).trans h
theorem Sv.below {w w' : World} {B : Nat} {p0 p1 p2 p3 : Value} (h : Sv w B p0 p1 p2 p3) (hb : Below w.heap.size w w') : Sv w' B p0 p1 p2 p3 := (hb.block _ h.lt).trans h
theorem Sv.new {w : World} {p0 p1 p2 p3 : Value} : Sv (w.alloc (.cells #[p0, p1, p2, p3] 44)) w.heap.size p0 p1 p2 p3 := heap_new _ _

end St
end Go.Proofs.YtkhoccjfkkfipaaGreatDoor
namespace Go.Proofs.YtkhoccjfkkfipaaGreatDoor
open Go.RowKit
namespace St
open Nd Mk

def mkC (k j : Nat) : Cl := (((k + 5 * j : Nat) : Int), markT (k + 5 * j + 1), ((k + 5 * j + 2 : Nat) : Int), ((k + 5 * j + 3 : Nat) : Int), markT (k + 5 * j + 4))
def mkCs (k n : Nat) : List Cl := (List.range n).map (mkC k)
theorem mkCs_len (k n : Nat) : (mkCs k n).length = n := by simp [mkCs]
theorem mkCs_get {k n j : Nat} (h : j < n) : (mkCs k n)[j]? = some (mkC k j) := by simp [mkCs, h]

set_option maxHeartbeats 2000000 in
set_option maxRecDepth 100000 in
theorem lMarkCellS {w : World} {g n k : Nat} {cs : List Cl} (h : Rows 71 encC w g cs) (hl : cs.length = n) (hn : n ≤ 1048576) (h1 : 1 ≤ k) (hk : k ≤ 16000000) :
    Calls Tryz.prog 63 #[.slice (some ⟨g, 0, none⟩) n n, .int .i64 k] w fun e w' => e = .returned (.int .i64 (k + 5 * n : Nat)) ∧ Rows 71 encC w' g (mkCs k n) ∧ Turned (fun _ => False) (.slice (some ⟨g, 0, none⟩) n n) w w' := by
  have bn : (n : Int) ≤ 1048576 := by omega
  go_enter Tryz.func63, Tryz.ntmps63
  go_wp2_with fail
  go_loopw [1, 5] (fun kv iv wr => ∃ (i : Nat) (L : List Cl), i ≤ n ∧ iv = .int .i64 i ∧ kv = .int .i64 (k + 5 * i : Nat) ∧ L.length = n ∧ (∀ j, j < i → L[j]? = some (mkC k j)) ∧ Rows 71 encC wr g L ∧ Turned (fun _ => False) (.slice (some ⟨g, 0, none⟩) n n) w wr) (fun _ iv _ => n - (intOf iv).toNat)
  case atStart => exact ⟨0, cs, Nat.zero_le _, rfl, rfl, hl, fun j hj => by omega, h, Turned.refl _ _ _⟩
  case round =>
    clear h hl
    obtain ⟨i, L, hi, rfl, rfl, hL, hM, hR, hT⟩ := hrel
    by_cases hil : i < n
    · obtain ⟨v, hv⟩ : ∃ v, L[i]? = some v := ⟨_, List.getElem?_eq_getElem (by omega)⟩
      obtain ⟨a, b, c, d, s⟩ := v
      have p0 : wr.cell? ⟨g, i * 5, none⟩ = some (.int .i64 a) := hR.cell encC_len hv (j := 0) rfl
      have fz := hR.frozen
      have hgl := hR.lt
      obtain ⟨k0, hk0⟩ : ∃ k0, k0 = k + 5 * i := ⟨_, rfl⟩
      have HK : Hid (k0 = k + 5 * i) := hk0
      have bk0 : (k0 : Int) ≤ 22000000 := by omega
      obtain ⟨k1, hk1⟩ : ∃ k1, k1 = k0 + 1 := ⟨_, rfl⟩
      obtain ⟨k4, hk4⟩ : ∃ k4, k4 = k0 + 4 := ⟨_, rfl⟩
      have t1 : (k0 : Int) + 1 = (k1 : Int) := by omega
      have t4 : (k1 : Int) + 1 + 1 + 1 = (k4 : Int) := by omega
      have bk1 : (k1 : Int) ≤ 22000001 := by omega
      have bk4 : (k4 : Int) ≤ 22000004 := by omega
      have mt1 := fun w0 : World => lMarkText k1 (by omega) (by omega) w0
      have mt4 := fun w0 : World => lMarkText k4 (by omega) (by omega) w0
      have R1 := hR.set1 (j := 0) (v' := ((k0 : Int), b, c, d, s)) (x := .int .i64 k0) encC_len hv (by omega) rfl
      have T1 := turned_set hT (g := g) rfl (i * 5) (.int .i64 k0)
      rw [Nat.add_zero] at R1
      have HH : Hid (Rows 71 encC (wr.setCell ⟨g, i * 5, none⟩ (.int .i64 k0)) g (L.set i ((k0 : Int), b, c, d, s)) ∧ Turned (fun _ => False) (.slice (some ⟨g, 0, none⟩) n n) w (wr.setCell ⟨g, i * 5, none⟩ (.int .i64 k0))) := ⟨R1, T1⟩
      rw [← hk0]
      have HK1 : Hid (k1 = k0 + 1) := hk1
      have HK4 : Hid (k4 = k0 + 4) := hk4
      clear hk0 hk1 hk4 hR hT R1 T1
      go_wp2_with (go_at_call 61; refine hold ?_)
      refine (mt1 _).mono ?_
      rintro e w2 ⟨rfl, hb2⟩
      obtain ⟨R1, T1⟩ := HH.out
      have R2 := R1.kept (w' := w2) (hb2.block _ (by simpa using hgl))
      have T2 := turned_below T1 hb2
      have hv2 : (L.set i ((k0 : Int), b, c, d, s))[i]? = some ((k0 : Int), b, c, d, s) := by rw [List.getElem?_set_self (by omega)]
      have q1 : w2.cell? ⟨g, i * 5 + 1, none⟩ = some (.string b) := R2.cell encC_len hv2 (j := 1) rfl
      have q2 : w2.cell? ⟨g, i * 5 + 2, none⟩ = some (.int .i64 c) := R2.cell encC_len hv2 (j := 2) rfl
      have q3 : w2.cell? ⟨g, i * 5 + 3, none⟩ = some (.int .i64 d) := R2.cell encC_len hv2 (j := 3) rfl
      have fz2 := R2.frozen
      have hgl2 := R2.lt
      have R3 := R2.set1 (j := 1) (v' := ((k0 : Int), markT k1, c, d, s)) (x := .string (markT k1)) encC_len hv2 (by omega) rfl
      rw [List.set_set] at R3
      have hv3 : (L.set i ((k0 : Int), markT k1, c, d, s))[i]? = some ((k0 : Int), markT k1, c, d, s) := by rw [List.getElem?_set_self (by omega)]
      have R4 := R3.set1 (j := 2) (v' := ((k0 : Int), markT k1, (k1 : Int) + 1, d, s)) (x := .int .i64 ((k1 : Int) + 1)) encC_len hv3 (by omega) rfl
      rw [List.set_set] at R4
      have hv4 : (L.set i ((k0 : Int), markT k1, (k1 : Int) + 1, d, s))[i]? = some ((k0 : Int), markT k1, (k1 : Int) + 1, d, s) := by rw [List.getElem?_set_self (by omega)]
      have R5 := R4.set1 (j := 3) (v' := ((k0 : Int), markT k1, (k1 : Int) + 1, (k1 : Int) + 1 + 1, s)) (x := .int .i64 ((k1 : Int) + 1 + 1)) encC_len hv4 (by omega) rfl
      rw [List.set_set] at R5
      have T5 := turned_set (turned_set (turned_set T2 (g := g) rfl (i * 5 + 1) (.string (markT k1))) (g := g) rfl (i * 5 + 2) (.int .i64 ((k1 : Int) + 1))) (g := g) rfl (i * 5 + 3) (.int .i64 ((k1 : Int) + 1 + 1))
      have HH5 : Hid (Rows 71 encC (((w2.setCell ⟨g, i * 5 + 1, none⟩ (.string (markT k1))).setCell ⟨g, i * 5 + 2, none⟩ (.int .i64 ((k1 : Int) + 1))).setCell ⟨g, i * 5 + 3, none⟩ (.int .i64 ((k1 : Int) + 1 + 1))) g (L.set i ((k0 : Int), markT k1, (k1 : Int) + 1, (k1 : Int) + 1 + 1, s)) ∧ Turned (fun _ => False) (.slice (some ⟨g, 0, none⟩) n n) w (((w2.setCell ⟨g, i * 5 + 1, none⟩ (.string (markT k1))).setCell ⟨g, i * 5 + 2, none⟩ (.int .i64 ((k1 : Int) + 1))).setCell ⟨g, i * 5 + 3, none⟩ (.int .i64 ((k1 : Int) + 1 + 1)))) := ⟨R5, T5⟩
      clear R1 R2 R3 R4 R5 T1 T2 T5 hv2 hv3 hv4 HH hb2 p0 fz
      go_wp2_with (go_at_call 61; refine hold ?_)
      refine (mt4 _).mono ?_
      rintro e w3 ⟨rfl, hb3⟩
      obtain ⟨R5, T5⟩ := HH5.out
      have R6 := R5.kept (w' := w3) (hb3.block _ (by simpa using hgl2))
      have T6 := turned_below T5 hb3
      have hv6 : (L.set i ((k0 : Int), markT k1, (k1 : Int) + 1, (k1 : Int) + 1 + 1, s))[i]? = some ((k0 : Int), markT k1, (k1 : Int) + 1, (k1 : Int) + 1 + 1, s) := by rw [List.getElem?_set_self (by omega)]
      have q4 : w3.cell? ⟨g, i * 5 + 4, none⟩ = some (.string s) := R6.cell encC_len hv6 (j := 4) rfl
      have fz3 := R6.frozen
      have R7 := R6.set1 (j := 4) (v' := ((k0 : Int), markT k1, (k1 : Int) + 1, (k1 : Int) + 1 + 1, markT k4)) (x := .string (markT k4)) encC_len hv6 (by omega) rfl
      rw [List.set_set] at R7
      have T7 := turned_set T6 (g := g) rfl (i * 5 + 4) (.string (markT k4))
      have HH7 : Hid (Rows 71 encC (w3.setCell ⟨g, i * 5 + 4, none⟩ (.string (markT k4))) g (L.set i ((k0 : Int), markT k1, (k1 : Int) + 1, (k1 : Int) + 1 + 1, markT k4)) ∧ Turned (fun _ => False) (.slice (some ⟨g, 0, none⟩) n n) w (w3.setCell ⟨g, i * 5 + 4, none⟩ (.string (markT k4)))) := ⟨R7, T7⟩
      clear R5 R6 R7 T5 T6 T7 hv6 HH5 hb3 q1 q2 q3 fz2
      go_wp2_with fail
      go_roundw
      case rel =>
        have e1 := HK.out
        have e2 := HK1.out
        have e3 := HK4.out
        refine ⟨i + 1, L.set i ((k0 : Int), markT k1, (k1 : Int) + 1, (k1 : Int) + 1 + 1, markT k4), hil, by go_num, by congr 1; omega, by simpa using hL, fun j hj => ?_, HH7.out.1, HH7.out.2⟩
        by_cases hji : j = i
        · subst hji
          rw [List.getElem?_set_self (by omega)]
          subst e3 e2 e1
          simp only [mkC, Option.some.injEq, Prod.mk.injEq, true_and, and_true]
          refine ⟨?_, ?_⟩ <;> omega
        · rw [List.getElem?_set_ne (by omega)]
          exact hM j (by omega)
      case measure => simp [intOf]; omega
    · obtain rfl : i = n := by omega
      have hLe : L = mkCs k i := by
        apply List.ext_getElem?
        intro j
        by_cases hj : j < i
        · rw [hM j hj, mkCs_get hj]
        · rw [List.getElem?_eq_none (by omega), List.getElem?_eq_none (by rw [mkCs_len]; omega)]
      subst hLe
      have HH : Hid (Rows 71 encC wr g (mkCs k i) ∧ Turned (fun _ => False) (.slice (some ⟨g, 0, none⟩) i i) w wr) := ⟨hR, hT⟩
      clear hR hT hM
      go_wp2_with fail
      go_ret
      exact ⟨rfl, HH.out.1, HH.out.2⟩

end St
end Go.Proofs.YtkhoccjfkkfipaaGreatDoor
