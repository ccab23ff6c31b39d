/-
  The draws of values: l6DrawRight, l6Draw, DrawValOk, DrawToNum, DrawToText, DrawTruth, DrawCompare, DrawRead.
-/
import Derived.Test.YtdkeinnljbfopadGreatDoorDrawText
import Derived.Test.YtdkeinnljbfopadGreatDoorValRead
import Derived.Deep.RegionHeld3
namespace Go.Proofs.YtdkeinnljbfopadGreatDoor
open Go.RowKit Go.Extern
set_option linter.unusedVariables false

/-- nothing of before has turned but block p, and there the cursor is -/
def On (B p : Nat) (W w : World) : Prop := Only p W w ∧ Cur B p w
theorem On.alloc {B p : Nat} {W w : World} (h : On B p W w) (o : Obj) : On B p W (w.alloc o) := ⟨h.1.alloc o, h.2.alloc o⟩
theorem On.drewN {B p : Nat} {W w : World} (h : On B p W w) (n : Nat) : On B p W (w.drewN n) := ⟨h.1.drewN n, h.2.drewN n⟩
theorem On.drew {B p : Nat} {W w : World} (h : On B p W w) : On B p W w.drew := h.drewN 1
theorem On.grown {B p : Nat} {W w w' : World} (h : On B p W w) (hb : Below w.heap.size w w') : On B p W w' := ⟨h.1.trans (Only.of_below hb), h.2.grown hb⟩
theorem On.next {B p : Nat} {W w w' : World} (h : On B p W w) (ho : Only p w w') (hC : Cur B p w') : On B p W w' := ⟨h.1.trans ho, hC⟩
theorem On.set {B p b : Nat} {W w : World} (h : On B p W w) (hb : W.heap.size ≤ b) (hp : p < W.heap.size) (j : Nat) (v : Value) : On B p W (w.setCell ⟨b, j, none⟩ v) := by
  have hB := h.2.le
  refine ⟨?_, h.2.frame (q := b) ((Only.refl b w).setCell j v) (by omega) (by omega)⟩
  have hs := (Below.refl b w).setCell (p := ⟨b, j, none⟩) (Nat.le_refl _) v
  exact ⟨hs.os.trans h.1.os, hs.tape.trans h.1.tape, hs.output.trans h.1.output, Nat.le_trans h.1.size hs.size, fun k hk hl => (Below.heap_setCell w ⟨b, j, none⟩ v k (show k ≠ b by omega)).trans (h.1.block k hk hl)⟩
theorem ocell {p : Nat} {w w' : World} (h : Only p w w') : (∀ b o, b ≠ p → b < w.heap.size → w'.cell? ⟨b, o, none⟩ = w.cell? ⟨b, o, none⟩) ∧ (∀ b o, b ≠ p → b < w.heap.size → w'.frozen? ⟨b, o, none⟩ = w.frozen? ⟨b, o, none⟩) :=
  ⟨fun b o h1 h2 => h.cell (a := ⟨b, o, none⟩) h1 h2, fun b o h1 h2 => h.frozen (a := ⟨b, o, none⟩) h1 h2⟩
def LV6 : List ByteArray := [⟨#[]⟩, ⟨#[97]⟩, ⟨#[49, 48]⟩, ⟨#[97, 98, 99]⟩, ⟨#[50, 120]⟩, ⟨#[45, 51]⟩]
theorem LV6_in : ∀ s ∈ LV6, s.size ≤ 24 := by decide +kernel
theorem pick_LV6 (B p cap : Nat) (t : TypeId) (w : World) (hC : Cur B p w) :
    Calls Tryz.prog 79 #[.pointer (some ⟨p, 0, none⟩), .slice (some ⟨w.heap.size, 0, none⟩) 6 cap] (w.alloc (.cells #[.string ⟨#[]⟩, .string ⟨#[97]⟩, .string ⟨#[49, 48]⟩, .string ⟨#[97, 98, 99]⟩, .string ⟨#[50, 120]⟩, .string ⟨#[45, 51]⟩] t)) fun e w' => ∃ x : ByteArray, e = .returned (.string x) ∧ (x.size : Int) ≤ 24 ∧ Only p w w' ∧ Cur B p w' :=
  pick_strs B p 6 cap LV6 t w hC rfl (by decide) (by decide) LV6_in
def LV6b : List ByteArray := [⟨#[49, 48]⟩, ⟨#[32, 50, 46, 53, 48]⟩, ⟨#[97, 98, 99]⟩, ⟨#[45, 51]⟩, ⟨#[]⟩, ⟨#[48, 48, 55]⟩]
theorem LV6b_in : ∀ s ∈ LV6b, s.size ≤ 24 := by decide +kernel
theorem pick_LV6b (B p cap : Nat) (t : TypeId) (w : World) (hC : Cur B p w) :
    Calls Tryz.prog 79 #[.pointer (some ⟨p, 0, none⟩), .slice (some ⟨w.heap.size, 0, none⟩) 6 cap] (w.alloc (.cells #[.string ⟨#[49, 48]⟩, .string ⟨#[32, 50, 46, 53, 48]⟩, .string ⟨#[97, 98, 99]⟩, .string ⟨#[45, 51]⟩, .string ⟨#[]⟩, .string ⟨#[48, 48, 55]⟩] t)) fun e w' => ∃ x : ByteArray, e = .returned (.string x) ∧ (x.size : Int) ≤ 24 ∧ Only p w w' ∧ Cur B p w' :=
  pick_strs B p 6 cap LV6b t w hC rfl (by decide) (by decide) LV6b_in
theorem next_cell {p : Nat} {w1 w2 : World} {o : Obj} (ho : Only p (w1.alloc o) w2) (b i : Nat) (hb : b ≠ p) (hlt : b < w1.heap.size) : w2.cell? ⟨b, i, none⟩ = w1.cell? ⟨b, i, none⟩ ∧ w2.frozen? ⟨b, i, none⟩ = w1.frozen? ⟨b, i, none⟩ :=
  ⟨((ocell ho).1 b i hb (by simp; omega)).trans (World.cell?_alloc_past _ _ _ hlt), ((ocell ho).2 b i hb (by simp; omega)).trans (World.frozen?_alloc_past _ _ _ hlt)⟩
theorem new_cell {p : Nat} {w1 w2 : World} {c : Array Value} {t : TypeId} (ho : Only p (w1.alloc (.cells c t)) w2) (hne : w1.heap.size ≠ p) (i : Nat) : w2.cell? ⟨w1.heap.size, i, none⟩ = c[i]? ∧ w2.frozen? ⟨w1.heap.size, i, none⟩ = false :=
  ⟨((ocell ho).1 _ i hne (by simp)).trans (World.cell?_alloc_at _ _ _ _ rfl), ((ocell ho).2 _ i hne (by simp)).trans (World.frozen?_alloc_at _ _ _ _ rfl)⟩
/-- some value whose text is not long -/
def SomeVal (m : Int) (B p : Nat) (w : World) (e : Ending) (w' : World) : Prop := ∃ (k n : Int) (s : ByteArray), e = .returned (.agg #[.int .i64 k, .int .i64 n, .string s]) ∧ (s.size : Int) ≤ m ∧ On B p w w'
set_option maxHeartbeats 1000000 in
set_option maxRecDepth 100000 in
theorem drawValR (B p : Nat) (w : World) (hC : Cur B p w) :
    Calls Tryz.prog 112 #[.pointer (some ⟨p, 0, none⟩)] w fun e w' => SomeVal 300 B p w e w' := by
  have hlt := hC.lt
  have hne : w.heap.size ≠ p := by omega
  have hW : On B p w w := ⟨Only.refl _ _, hC⟩
  go_enter Tryz.func112, Tryz.ntmps112
  go_upto_region 2 with (go_at_call 45; with_reducible refine (below_small B p 4 _ ?_ (by decide) (by decide)).mono ?_; exact (hC.alloc _); rintro e w1 ⟨x, rfl, hx0, hx1, ho1, hC1⟩; obtain ⟨q1, q2⟩ := ocell ho1; have hz1 : w.heap.size < w1.heap.size := by (have := ho1.size; simp at this; omega))
  have hO : On B p w w1 := (hW.alloc _).next ho1 hC1
  have r0 := q1 w.heap.size 0 hne (by simp)
  have r1 := q1 w.heap.size 1 hne (by simp)
  have r2 := q1 w.heap.size 2 hne (by simp)
  have f0 := q2 w.heap.size 0 hne (by simp)
  have f1 := q2 w.heap.size 1 hne (by simp)
  have f2 := q2 w.heap.size 2 hne (by simp)
  simp at r0 r1 r2 f0 f1 f2
  clear q1 q2 ho1 hW hC
  by_cases h0 : x = 0
  · subst h0
    go_wp2_with fail
    refine bodyPost_ret (v := .agg #[.int .i64 0, .int .i64 0, .string ⟨#[]⟩]) (by simp [results, Tryz.results112, *, go_sem]) rfl ⟨_, _, _, rfl, by decide, ?_⟩
    (repeat (first | exact hO2 | exact hO | refine On.set ?_ (by omega) hlt _ _ | refine On.alloc ?_ _ | refine On.drew ?_))
  have e0 : (x == 0) = false := by simp [h0]
  by_cases h1 : x = 1
  · subst h1
    go_wp2_with (go_at_call 101; refine (drawDec B p _ hC1).mono ?_; rintro e w2 ⟨y, rfl, hy, ho2, hC2⟩; obtain ⟨q1, q2⟩ := ocell ho2; have hO2 := hO.next ho2 hC2)
    refine bodyPost_ret (v := .agg #[.int .i64 1, .int .i64 y, .string ⟨#[]⟩]) (by simp [results, Tryz.results112, *, go_sem]) rfl ⟨_, _, _, rfl, by decide, ?_⟩
    (repeat (first | exact hO2 | exact hO | refine On.set ?_ (by omega) hlt _ _ | refine On.alloc ?_ _ | refine On.drew ?_))
  have e1 : (x == 1) = false := by simp [h1]
  by_cases h2 : x = 2
  · subst h2
    go_wp2_with (go_at_call 79; with_reducible refine (pick_LV6 B p _ _ _ hC1).mono ?_; rintro e w2 ⟨y, rfl, hy, ho2, hC2⟩; obtain ⟨q1, q2⟩ := ocell ho2; have hO2 := hO.next ho2 hC2)
    refine bodyPost_ret (v := .agg #[.int .i64 2, .int .i64 0, .string y]) (by simp [results, Tryz.results112, *, go_sem]) rfl ⟨_, _, _, rfl, by omega, ?_⟩
    (repeat (first | exact hO2 | exact hO | refine On.set ?_ (by omega) hlt _ _ | refine On.alloc ?_ _ | refine On.drew ?_))
  have e2 : (x == 2) = false := by simp [h2]
  clear h0 h1 h2
  go_wp2_with (first | (go_at_call 79; with_reducible refine (pick_LV6b B p _ _ _ hC1).mono ?_; rintro e w2 ⟨y, rfl, hy, ho2, hC2⟩; obtain ⟨q1, q2⟩ := ocell ho2; have hz2 : w.heap.size < w2.heap.size := by (have := ho2.size; omega)) | (go_at_call 41; refine (sRead _ _ ?_).mono ?_; (omega); rintro e w3 ⟨rfl, hb3⟩; obtain ⟨q3, q4⟩ := bcell hb3; have hO2 := (hO.next ho2 hC2).grown hb3))
  refine bodyPost_ret (v := .agg #[.int .i64 (Vl.rdK y), .int .i64 (Vl.rdN y), .string (Vl.cutV y)]) (by simp [results, Tryz.results112, *, go_sem]) rfl ⟨_, _, _, rfl, Vl.cut_size y, ?_⟩
  (repeat (first | exact hO2 | exact hO | refine On.set ?_ (by omega) hlt _ _ | refine On.alloc ?_ _ | refine On.drew ?_))
set_option maxHeartbeats 1000000 in
set_option maxRecDepth 100000 in
theorem drawVal (B p : Nat) (w : World) (hC : Cur B p w) :
    Calls Tryz.prog 69 #[.pointer (some ⟨p, 0, none⟩)] w fun e w' => SomeVal 301 B p w e w' := by
  have hlt := hC.lt
  have hne : w.heap.size ≠ p := by omega
  have hW : On B p w w := ⟨Only.refl _ _, hC⟩
  have call := fun o => drawValR B p (w.alloc o) (hC.alloc o)
  go_enter Tryz.func69, Tryz.ntmps69
  go_upto_region 2 with (go_at_call 112; refine (call _).mono ?_; rintro e w1 ⟨k, n, s, rfl, hs, hO1⟩)
  have hlt1 : p < w1.heap.size := hO1.2.lt
  have hne1 : w1.heap.size ≠ p := by omega
  have hz1 : w.heap.size < w1.heap.size := by (have := hO1.1.size; simp at this; omega)
  obtain ⟨q1, q2⟩ := ocell hO1.1
  have r0 := q1 w.heap.size 0 hne (by simp)
  have r1 := q1 w.heap.size 1 hne (by simp)
  have r2 := q1 w.heap.size 2 hne (by simp)
  have f0 := q2 w.heap.size 0 hne (by simp)
  have f1 := q2 w.heap.size 1 hne (by simp)
  have f2 := q2 w.heap.size 2 hne (by simp)
  simp at r0 r1 r2 f0 f1 f2
  have hO : On B p w w1 := (hW.alloc _).next hO1.1 hO1.2
  have hC1 := hO.2
  clear q1 q2 hO1 hW hC call
  go_upto_region 3 with (go_at_call 45; with_reducible refine (below_small B p 12 _ ?_ (by decide) (by decide)).mono ?_; exact (hC1.alloc _); rintro e w2 ⟨x, rfl, hx0, hx1, ho2, hC2⟩)
  have hO2 : On B p w w2 := (hO.alloc _).next ho2 hC2
  have hz2 : w1.heap.size < w2.heap.size := by (have := ho2.size; simp at this; omega)
  have hz3 : w.heap.size < w2.heap.size := by omega
  have hdd : w.heap.size ≠ w1.heap.size := by omega
  have hdd' : w1.heap.size ≠ w.heap.size := by omega
  obtain ⟨r0', f0'⟩ := next_cell ho2 w.heap.size 0 hne hz1
  obtain ⟨r1', f1'⟩ := next_cell ho2 w.heap.size 1 hne hz1
  obtain ⟨r2', f2'⟩ := next_cell ho2 w.heap.size 2 hne hz1
  obtain ⟨v0, g0⟩ := new_cell ho2 hne1 0
  obtain ⟨v1, g1⟩ := new_cell ho2 hne1 1
  obtain ⟨v2, g2⟩ := new_cell ho2 hne1 2
  rw [r0] at r0'
  rw [r1] at r1'
  rw [r2] at r2'
  rw [f0] at f0'
  rw [f1] at f1'
  rw [f2] at f2'
  simp at v0 v1 v2
  clear ho2 r0 r1 r2 f0 f1 f2 hO hC1
  by_cases h0 : x = 0
  · subst h0
    go_wp2_with (go_at_call 45; with_reducible refine (below_small B p 6 _ hC2 (by decide) (by decide)).mono ?_; rintro e w3 ⟨y, rfl, hy0, hy1, ho3, hC3⟩; obtain ⟨q1, q2⟩ := ocell ho3; have hO3 := hO2.next ho3 hC3)
    refine bodyPost_ret (v := .agg #[.int .i64 (y - 1), .int .i64 n, .string s]) (by simp [results, Tryz.results69, *, go_sem]) rfl ⟨_, _, _, rfl, by omega, ?_⟩
    (repeat (first | exact hO3 | exact hO2 | refine On.set ?_ (by omega) hlt _ _ | refine On.alloc ?_ _ | refine On.drew ?_))
  have e0 : (x == 0) = false := by simp [h0]
  by_cases h1 : x = 1
  · subst h1
    go_wp2_with (go_at_call 57; refine (drawFar B p _ hC2).mono ?_; rintro e w3 ⟨y, rfl, hy, ho3, hC3⟩; obtain ⟨q1, q2⟩ := ocell ho3; have hO3 := hO2.next ho3 hC3)
    refine bodyPost_ret (v := .agg #[.int .i64 k, .int .i64 y, .string s]) (by simp [results, Tryz.results69, *, go_sem]) rfl ⟨_, _, _, rfl, by omega, ?_⟩
    (repeat (first | exact hO3 | exact hO2 | refine On.set ?_ (by omega) hlt _ _ | refine On.alloc ?_ _ | refine On.drew ?_))
  have e1 : (x == 1) = false := by simp [h1]
  by_cases h2 : x = 2
  · subst h2
    have hcat : ((s ++ ⟨#[57]⟩ : ByteArray).size : Int) ≤ 301 := by rw [ByteArray.size_append, show (⟨#[57]⟩ : ByteArray).size = 1 from rfl]; omega
    go_wp2_with fail
    refine bodyPost_ret (v := .agg #[.int .i64 k, .int .i64 n, .string (s ++ ⟨#[57]⟩)]) (by simp [results, Tryz.results69, *, go_sem]) rfl ⟨_, _, _, rfl, hcat, ?_⟩
    (repeat (first | exact hO3 | exact hO2 | refine On.set ?_ (by omega) hlt _ _ | refine On.alloc ?_ _ | refine On.drew ?_))
  have e2 : (x == 2) = false := by simp [h2]
  clear h0 h1 h2
  go_wp2_with fail
  refine bodyPost_ret (v := .agg #[.int .i64 k, .int .i64 n, .string s]) (by simp [results, Tryz.results69, *, go_sem]) rfl ⟨_, _, _, rfl, by omega, ?_⟩
  (repeat (first | exact hO3 | exact hO2 | refine On.set ?_ (by omega) hlt _ _ | refine On.alloc ?_ _ | refine On.drew ?_))
end Go.Proofs.YtdkeinnljbfopadGreatDoor
