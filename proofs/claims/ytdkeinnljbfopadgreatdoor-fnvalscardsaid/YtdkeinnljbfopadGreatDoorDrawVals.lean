/-
  The draws of values for the law: DrawValOk, DrawToNum, DrawToText, DrawTruth, DrawCompare, DrawRead.
-/
import Derived.Test.YtdkeinnljbfopadGreatDoorDrawVal
namespace Go.Proofs.YtdkeinnljbfopadGreatDoor
open Go.RowKit Go.Extern
set_option linter.unusedVariables false

theorem new_behind (sa : Option Addr) (len cap B : Nat) (w : World) (o : Obj) (hB : B ≤ w.heap.size) (hl : len ≤ 1048576) (hy : Bytes B w sa len) :
    Calls Tryz.prog 42 #[.slice sa len cap] (w.alloc o) fun e w' => ∃ P, P = w.heap.size + 1 ∧ e = .returned (.pointer (some ⟨P, 0, none⟩)) ∧ Below (w.alloc o).heap.size (w.alloc o) w' ∧ Cur B P w' := by
  have h := new_any sa len cap B (w.alloc o) (by simp; omega) hl (hy.below ((Below.refl _ _).alloc hB o))
  refine h.mono ?_
  rintro e w' ⟨he, hb, hC⟩
  exact ⟨_, by simp, he, hb, hC⟩
set_option maxHeartbeats 400000 in
set_option maxRecDepth 100000 in
theorem vDrawValOk (sa : Option Addr) (len cap B : Nat) (w : World) (hB : B ≤ w.heap.size) (hl : len ≤ 1048576) (hy : Bytes B w sa len) :
    Calls Tryz.prog 26 #[.slice sa len cap] w fun e w' => ∃ (k n : Int) (s : ByteArray), e = .returned (.agg #[.int .i64 k, .int .i64 n, .string s]) ∧ (s.size : Int) ≤ 301 ∧ Below B w w' := by
  have hn := fun o => new_behind sa len cap B w o hB hl hy
  clear hy
  go_enter Tryz.func26, Tryz.ntmps26
  go_wp2_with (first | (go_at_call 42; refine (hn _).mono ?_; rintro e w1 ⟨P, rfl, rfl, hb, hC⟩; obtain ⟨q1, q2⟩ := bcell hb; have hz1 : w.heap.size < w1.heap.size := by (have := hb.size; simp at this; omega)) | (go_at_call 69; refine (drawVal B _ _ hC).mono ?_; rintro e w2 ⟨k, n, s, rfl, hs, hO⟩; obtain ⟨q3, q4⟩ := ocell hO.1; have hne : w.heap.size ≠ w.heap.size + 1 := by omega))
  refine bodyPost_ret (v := .agg #[.int .i64 k, .int .i64 n, .string s]) (by simp [results, Tryz.results26, *, go_sem]) rfl ⟨_, _, _, rfl, hs, ?_⟩
  refine (((Below.setCell ?_ (by simpa using hB) _).setCell (by simpa using hB) _).setCell (by simpa using hB) _)
  exact (((Below.refl _ _).alloc hB _).trans (hb.mono (by simp; omega))).trans (hO.1.below (by omega) (by omega))
set_option maxHeartbeats 400000 in
set_option maxRecDepth 100000 in
theorem vDrawToNum (sa : Option Addr) (len cap B : Nat) (w : World) (hB : B ≤ w.heap.size) (hl : len ≤ 1048576) (hy : Bytes B w sa len) :
    Calls Tryz.prog 27 #[.slice sa len cap] w fun e w' => ∃ (k n : Int) (s : ByteArray), e = .returned (.agg #[.int .i64 k, .int .i64 n, .string s]) ∧ (s.size : Int) ≤ 301 ∧ Below B w w' := by
  have hn := fun o => new_behind sa len cap B w o hB hl hy
  clear hy
  go_enter Tryz.func27, Tryz.ntmps27
  go_wp2_with (first | (go_at_call 42; refine (hn _).mono ?_; rintro e w1 ⟨P, rfl, rfl, hb, hC⟩; obtain ⟨q1, q2⟩ := bcell hb; have hz1 : w.heap.size < w1.heap.size := by (have := hb.size; simp at this; omega)) | (go_at_call 69; refine (drawVal B _ _ hC).mono ?_; rintro e w2 ⟨k, n, s, rfl, hs, hO⟩; obtain ⟨q3, q4⟩ := ocell hO.1; have hne : w.heap.size ≠ w.heap.size + 1 := by omega))
  refine bodyPost_ret (v := .agg #[.int .i64 k, .int .i64 n, .string s]) (by simp [results, Tryz.results27, *, go_sem]) rfl ⟨_, _, _, rfl, hs, ?_⟩
  refine (((Below.setCell ?_ (by simpa using hB) _).setCell (by simpa using hB) _).setCell (by simpa using hB) _)
  exact (((Below.refl _ _).alloc hB _).trans (hb.mono (by simp; omega))).trans (hO.1.below (by omega) (by omega))
set_option maxHeartbeats 400000 in
set_option maxRecDepth 100000 in
theorem vDrawToText (sa : Option Addr) (len cap B : Nat) (w : World) (hB : B ≤ w.heap.size) (hl : len ≤ 1048576) (hy : Bytes B w sa len) :
    Calls Tryz.prog 28 #[.slice sa len cap] w fun e w' => ∃ (k n : Int) (s : ByteArray), e = .returned (.agg #[.int .i64 k, .int .i64 n, .string s]) ∧ (s.size : Int) ≤ 301 ∧ Below B w w' := by
  have hn := fun o => new_behind sa len cap B w o hB hl hy
  clear hy
  go_enter Tryz.func28, Tryz.ntmps28
  go_wp2_with (first | (go_at_call 42; refine (hn _).mono ?_; rintro e w1 ⟨P, rfl, rfl, hb, hC⟩; obtain ⟨q1, q2⟩ := bcell hb; have hz1 : w.heap.size < w1.heap.size := by (have := hb.size; simp at this; omega)) | (go_at_call 69; refine (drawVal B _ _ hC).mono ?_; rintro e w2 ⟨k, n, s, rfl, hs, hO⟩; obtain ⟨q3, q4⟩ := ocell hO.1; have hne : w.heap.size ≠ w.heap.size + 1 := by omega))
  refine bodyPost_ret (v := .agg #[.int .i64 k, .int .i64 n, .string s]) (by simp [results, Tryz.results28, *, go_sem]) rfl ⟨_, _, _, rfl, hs, ?_⟩
  refine (((Below.setCell ?_ (by simpa using hB) _).setCell (by simpa using hB) _).setCell (by simpa using hB) _)
  exact (((Below.refl _ _).alloc hB _).trans (hb.mono (by simp; omega))).trans (hO.1.below (by omega) (by omega))
set_option maxHeartbeats 400000 in
set_option maxRecDepth 100000 in
theorem vDrawTruth (sa : Option Addr) (len cap B : Nat) (w : World) (hB : B ≤ w.heap.size) (hl : len ≤ 1048576) (hy : Bytes B w sa len) :
    Calls Tryz.prog 29 #[.slice sa len cap] w fun e w' => ∃ (k n : Int) (s : ByteArray), e = .returned (.agg #[.int .i64 k, .int .i64 n, .string s]) ∧ (s.size : Int) ≤ 301 ∧ Below B w w' := by
  have hn := fun o => new_behind sa len cap B w o hB hl hy
  clear hy
  go_enter Tryz.func29, Tryz.ntmps29
  go_wp2_with (first | (go_at_call 42; refine (hn _).mono ?_; rintro e w1 ⟨P, rfl, rfl, hb, hC⟩; obtain ⟨q1, q2⟩ := bcell hb; have hz1 : w.heap.size < w1.heap.size := by (have := hb.size; simp at this; omega)) | (go_at_call 69; refine (drawVal B _ _ hC).mono ?_; rintro e w2 ⟨k, n, s, rfl, hs, hO⟩; obtain ⟨q3, q4⟩ := ocell hO.1; have hne : w.heap.size ≠ w.heap.size + 1 := by omega))
  refine bodyPost_ret (v := .agg #[.int .i64 k, .int .i64 n, .string s]) (by simp [results, Tryz.results29, *, go_sem]) rfl ⟨_, _, _, rfl, hs, ?_⟩
  refine (((Below.setCell ?_ (by simpa using hB) _).setCell (by simpa using hB) _).setCell (by simpa using hB) _)
  exact (((Below.refl _ _).alloc hB _).trans (hb.mono (by simp; omega))).trans (hO.1.below (by omega) (by omega))
end Go.Proofs.YtdkeinnljbfopadGreatDoor
