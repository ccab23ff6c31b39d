/-
  The program's CellGet.
-/
import Derived.Test.YtjlchfielpfehaaStGetT
namespace Go.Proofs.Ytjlchfielpfehaa
open Go.RowKit
namespace St
open Nd
attribute [local go_sem] Oper.semAt_some

theorem cmpS_zero {x y : ByteArray} : cmpS x y = 0 ↔ x = y := by
  unfold cmpS
  rw [key_eq, bytesLess_eq]
  by_cases h : x = y
  · subst h
    simp
  · rw [decide_eq_false h]
    constructor
    · intro e
      split at e <;> simp at e
    · exact fun e => absurd e h
theorem cmpI_zero {x y : Int} : cmpI x y = 0 ↔ x = y := by
  unfold cmpI
  split
  · constructor <;> intro h <;> omega
  · split
    · constructor <;> intro h <;> omega
    · constructor <;> intro h <;> omega
theorem cmpC_zero {n n' : Int} {k k' : ByteArray} : cmpC n k n' k' = 0 ↔ n = n' ∧ k = k' := by
  unfold cmpC
  split
  · rename_i h
    rw [cmpS_zero]
    exact ⟨fun e => ⟨cmpI_zero.1 h, e⟩, fun e => e.2⟩
  · rename_i h
    exact ⟨fun e => absurd e h, fun e => absurd (cmpI_zero.2 e.1) h⟩
theorem bes_head (n : Int) (k : ByteArray) : ∀ (i : Nat) (cs : List Cl), ((bes n k 0 i cs).head?.map fun x => x.1) = cs.find? (hit n k)
  | _, [] => rfl
  | i, c :: cs => by
    rw [bes, List.find?_cons]
    by_cases h : cmpC c.1 c.2.1 n k = 0
    · have := cmpC_zero.1 h
      have hh : hit n k c = true := by simp [hit, this]
      rw [if_pos h, hh]
      rfl
    · have hh : hit n k c = false := by
        cases he : hit n k c with
        | false => rfl
        | true => simp [hit] at he; exact absurd (cmpC_zero.2 he) h
      rw [if_neg h, hh]
      exact bes_head n k (i + 1) cs

/-- All but one block lies as it lay. -/
structure But (B : Nat) (W W' : World) : Prop where
  os : W'.os = W.os
  tape : W'.tape = W.tape
  output : W'.output = W.output
  size : W.heap.size ≤ W'.heap.size
  block : ∀ j, j < W.heap.size → j ≠ B → W'.heap[j]? = W.heap[j]?

def Here (W0 : World) (pre : List (Cl × Nat)) (W : World) : Prop := pre = [] ∧ Below W0.heap.size W0 W
def Left (Br : Nat) (W0 : World) (c : Code) (pre : List (Cl × Nat)) (W : World) : Prop := c = .ret ∧ ∃ x, pre = [x] ∧ Blk 42 W Br (encV x.1.2.2) ∧ But Br W0 W

set_option maxHeartbeats 2000000 in
set_option maxRecDepth 100000 in
theorem iCellGet {a b : Option Addr} {lv ca cb : Nat} {cs : List Cl} {nr er n : Int} {k : ByteArray} {w : World} (hC : RdC w b cs) (hm : cs.length ≤ 1048576) :
    Calls Try.prog 20 #[.agg #[.slice a lv ca, .slice b cs.length cb, .int .i64 nr, .int .i64 er], .int .i64 n, .string k] w fun e w' => e = .returned (.agg #[.int .i64 (getC n k cs).1, .int .i64 (getC n k cs).2.1, .string (getC n k cs).2.2]) ∧ Below w.heap.size w w' := by
  have hhead := bes_head n k 0 cs
  have hgN : (bes n k 0 0 cs) = [] → getC n k cs = zeroV := fun h => by rw [h] at hhead; unfold getC; rw [← hhead]; rfl
  have hgS : ∀ x, [x] <+: bes n k 0 0 cs → getC n k cs = x.1.2.2 := fun x hx => by
    obtain ⟨r, hr⟩ := hx
    rw [← hr] at hhead
    unfold getC
    rw [← hhead]
    rfl
  generalize getC n k cs = G at *
  refine (callsIn_wide (n := 6)).1 ?_
  have h1n : 1 ≤ 6 := by omega
  have hfE : Fence.wide.fn 41 := trivial
  refine callsIn_of_wp_marks Try.func20 rfl trivial ?_ rfl
  simp only [Try.ntmps20, List.size_toArray, List.length_cons, List.length_nil, Nat.reduceAdd, Nat.reduceSub, Array.replicate_succ, Array.replicate_zero, List.push_toArray, List.append_toArray, List.nil_append, List.cons_append]
  gi_wp2_with (gi_at_call 41; refine (callsIn_wide.2 (iBeside _ _ _ _ _ _ _)).mono ?_; rintro e w2 ⟨rfl, rfl⟩)
  obtain ⟨W0, hW0⟩ : ∃ W0, W0 = ((((w.alloc (.cells #[.slice a lv ca, .slice b cs.length cb, .int .i64 nr, .int .i64 er] 31)).alloc (.cells #[.int .i64 0, .int .i64 0, .string ⟨#[]⟩] 42)).alloc (.cells #[.slice b cs.length cb] 29)).alloc (.cells #[.int .i64 n, .string k, .int .i64 0, .int .i64 0, .string ⟨#[]⟩] 62)).alloc (.cells #[.int .i64 0] 3) := ⟨_, rfl⟩
  have hbW : Below w.heap.size w W0 := by rw [hW0]; exact (((((Below.refl _ w).alloc (Nat.le_refl _) _).alloc (by simp) _).alloc (by simp <;> omega) _).alloc (by simp <;> omega) _).alloc (by simp <;> omega) _
  have hsW : W0.heap.size = w.heap.size + 5 := by simp [hW0]
  have e1 : Blk 42 W0 (w.heap.size + 1) [.int .i64 0, .int .i64 0, .string ⟨#[]⟩] := by
    have := Blk.new 42 (w.alloc (.cells #[.slice a lv ca, .slice b cs.length cb, .int .i64 nr, .int .i64 er] 31)) [.int .i64 0, .int .i64 0, .string ⟨#[]⟩]
    rw [World.size_alloc] at this
    rw [hW0]
    exact ((this.alloc _).alloc _).alloc _
  have e2 : Blk 29 W0 (w.heap.size + 1 + 1) [.slice b cs.length cb] := by
    have := Blk.new 29 ((w.alloc (.cells #[.slice a lv ca, .slice b cs.length cb, .int .i64 nr, .int .i64 er] 31)).alloc (.cells #[.int .i64 0, .int .i64 0, .string ⟨#[]⟩] 42)) [.slice b cs.length cb]
    simp only [World.size_alloc] at this
    rw [hW0]
    exact (this.alloc _).alloc _
  have e3 : Blk 62 W0 (w.heap.size + 1 + 1 + 1) [.int .i64 n, .string k, .int .i64 0, .int .i64 0, .string ⟨#[]⟩] := by
    have := Blk.new 62 (((w.alloc (.cells #[.slice a lv ca, .slice b cs.length cb, .int .i64 nr, .int .i64 er] 31)).alloc (.cells #[.int .i64 0, .int .i64 0, .string ⟨#[]⟩] 42)).alloc (.cells #[.slice b cs.length cb] 29)) [.int .i64 n, .string k, .int .i64 0, .int .i64 0, .string ⟨#[]⟩]
    simp only [World.size_alloc] at this
    rw [hW0]
    exact this.alloc _
  have e4 : Blk 3 W0 (w.heap.size + 1 + 1 + 1 + 1) [.int .i64 0] := by
    have := Blk.new 3 ((((w.alloc (.cells #[.slice a lv ca, .slice b cs.length cb, .int .i64 nr, .int .i64 er] 31)).alloc (.cells #[.int .i64 0, .int .i64 0, .string ⟨#[]⟩] 42)).alloc (.cells #[.slice b cs.length cb] 29)).alloc (.cells #[.int .i64 n, .string k, .int .i64 0, .int .i64 0, .string ⟨#[]⟩] 62)) [.int .i64 0]
    simp only [World.size_alloc] at this
    rw [hW0]
    exact this
  have hseq := beside_stops (w := W0) (n1 := 6 - 1) (cap := cb) (n := n) (ord := 0) (k := k) (hC.below hbW) (by omega) (by omega) e2 e3 e4
  rw [← hW0]
  clear hW0 e2 e3 e4 hhead
  have HsW : Hid (W0.heap.size = w.heap.size + 5) := hsW
  have hownH : OwnFrom W0.heap.size (Here W0) := by
    rintro s A A' row ⟨i1, i2⟩ hg hrow
    exact ⟨i1, i2.grown hg (by have := i2.size; omega) fun r e => (hrow r e).1⟩
  have hownL : ∀ c, OwnFrom W0.heap.size (Left (w.heap.size + 1) W0 c) := by
    rintro c s A A' row ⟨i1, x, i2, i3, i4⟩ hg hrow
    have hne : ∀ j, j < W0.heap.size → some j ≠ row := fun j hj e => by have := (hrow j e.symm).1; omega
    refine ⟨i1, x, i2, (hg.block _ i3.lt (hne _ (by omega))).trans i3, hg.os.trans i4.os, hg.tape.trans i4.tape, hg.output.trans i4.output, Nat.le_trans i4.size hg.size, fun j hj hn => (hg.block j (Nat.lt_of_lt_of_le hj i4.size) (hne j hj)).trans (i4.block j hj hn)⟩
  refine wpIn_rangeFunc_ownH rfl h1n (gf := 55) (lb := #[.pointer (some ⟨w.heap.size + 1 + 1, 0, none⟩), .pointer (some ⟨w.heap.size + 1 + 1 + 1, 0, none⟩), .pointer (some ⟨w.heap.size + 1 + 1 + 1 + 1, 0, none⟩)]) rfl trivial (enters_of Try.func55 (by kernel_rfl) rfl) hseq belowK_t (belowK_b (Nat.le_refl _)) (Below.refl _ _) (fun _ => rfl)
    (Here W0) (Left (w.heap.size + 1) W0) hownH hownL ⟨rfl, Below.refl _ _⟩
    (fun x a' W => ∃ Bx, W0.heap.size ≤ Bx ∧ Blk 62 W Bx (encC x.1) ∧ a' = { tmps := #[.agg #[.slice a lv ca, .slice b cs.length cb, .int .i64 nr, .int .i64 er], .int .i64 n, .string k, .pointer (some ⟨w.heap.size, 0, none⟩), undef, undef, .pointer (some ⟨w.heap.size + 1, 0, none⟩), undef, .pointer (some ⟨Bx, 0, none⟩), .pointer (some ⟨w.heap.size, 1, none⟩), .slice b cs.length cb, .int .i64 n, .string k, .agg #[.int .i64 n, .string k, .int .i64 0, .int .i64 0, .string ⟨#[]⟩], .func (.func 55) #[] #[.pointer (some ⟨w.heap.size + 1 + 1, 0, none⟩), .pointer (some ⟨w.heap.size + 1 + 1 + 1, 0, none⟩), .pointer (some ⟨w.heap.size + 1 + 1 + 1 + 1, 0, none⟩)], .int .i64 x.2, .agg #[.int .i64 x.1.1, .string x.1.2.1, .int .i64 x.1.2.2.1, .int .i64 x.1.2.2.2.1, .string x.1.2.2.2.2], undef, undef, undef], defers := [] })
    (fun x a' u A B row hs hg hr => by
      obtain ⟨Bx, h1, h2, h3⟩ := hs
      refine ⟨Bx, h1, (hg.block Bx h2.lt fun e => ?_).trans h2, h3⟩
      obtain ⟨o, ho, hc⟩ := (hr Bx e.symm).2
      have h2' := h2
      unfold Blk at h2'
      rw [h2'] at ho
      cases ho
      cases hc) ?assign ?body ?done ?stop
  case assign =>
    rintro l pre x W K hi hK
    have henc : encP x = #[.int .i64 x.2, .agg #[.int .i64 x.1.1, .string x.1.2.1, .int .i64 x.1.2.2.1, .int .i64 x.1.2.2.2.1, .string x.1.2.2.2.2]] := rfl
    rw [henc]
    have hsz2 := hi.2.size
    clear henc
    gi_wp2
    exact hK _ _ ((KeepsOthers.alloc _ _).from _) (((Below.refl _ W).alloc (Nat.le_refl _) _).mono hsz2) (hownH pre W _ none hi (World.grownBy_alloc W _ none) (fun r e => by cases e)) ⟨W.heap.size, hsz2, Blk.new _ _ _, rfl⟩
  case body =>
    rintro l pre x a' W hl ⟨r, hr⟩ ⟨rfl, hB⟩ ⟨Bx, hBx, hnx, rfl⟩ hlen
    have hsF := hB.size
    have hb1 := e1.below hB
    have x0 := hnx.cell 2 rfl
    have x1 := hnx.cell 3 rfl
    have x2 := hnx.cell 4 rfl
    have r0 := hb1.cell 0 rfl
    have r1 := hb1.cell 1 rfl
    have r2 := hb1.cell 2 rfl
    have f1 := hb1.frozen
    have HB : Hid (Blk 42 W (w.heap.size + 1) [.int .i64 0, .int .i64 0, .string ⟨#[]⟩] ∧ Below W0.heap.size W0 W) := ⟨hb1, hB⟩
    clear hnx hb1 hB
    gi_wp2
    obtain ⟨hb1, hB⟩ := HB.out
    have a1 := HsW.out
    have hoth : ∀ j, j ≠ w.heap.size + 1 → (((W.setCell ⟨w.heap.size + 1, 0, none⟩ (.int .i64 x.1.2.2.1)).setCell ⟨w.heap.size + 1, 1, none⟩ (.int .i64 x.1.2.2.2.1)).setCell ⟨w.heap.size + 1, 2, none⟩ (.string x.1.2.2.2.2)).heap[j]? = W.heap[j]? := fun j hj => by
      rw [Below.heap_setCell _ _ _ _ (by exact hj), Below.heap_setCell _ _ _ _ (by exact hj), Below.heap_setCell _ _ _ _ (by exact hj)]
    refine ⟨⟨by simp, fun j o hj h1 _ => (hoth j (by omega)).trans h1⟩, rfl, x, rfl, ((hb1.set 0 _).set 1 _).set 2 _, hB.os, hB.tape, hB.output, by simpa using hB.size, fun j hj hn => (hoth j hn).trans (hB.block j hj)⟩
  case done =>
    rintro D ys W hD rfl ⟨hys, hB⟩ hK
    have hG := hgN hys
    subst hG
    have hsF := hB.size
    have hb1 := e1.below hB
    have r0 := hb1.cell 0 rfl
    have r1 := hb1.cell 1 rfl
    have r2 := hb1.cell 2 rfl
    have f1 := hb1.frozen
    have hDr : D ≠ w.heap.size + 1 := by omega
    have HB : Hid (Blk 42 W (w.heap.size + 1) [.int .i64 0, .int .i64 0, .string ⟨#[]⟩] ∧ Below W0.heap.size W0 W) := ⟨hb1, hB⟩
    clear hb1 hB
    gi_wp2
    obtain ⟨hb1, hB⟩ := HB.out
    have a1 := HsW.out
    have k3 := ((hb1.set 0 (.int .i64 0)).set 1 (.int .i64 0)).set 2 (.string ⟨#[]⟩)
    have hoth : ∀ j, j ≠ w.heap.size + 1 → (((W.setCell ⟨w.heap.size + 1, 0, none⟩ (.int .i64 0)).setCell ⟨w.heap.size + 1, 1, none⟩ (.int .i64 0)).setCell ⟨w.heap.size + 1, 2, none⟩ (.string ⟨#[]⟩)).heap[j]? = W.heap[j]? := fun j hj => by
      rw [Below.heap_setCell _ _ _ _ (by exact hj), Below.heap_setCell _ _ _ _ (by exact hj), Below.heap_setCell _ _ _ _ (by exact hj)]
    generalize hW3 : ((W.setCell ⟨w.heap.size + 1, 0, none⟩ (.int .i64 0)).setCell ⟨w.heap.size + 1, 1, none⟩ (.int .i64 0)).setCell ⟨w.heap.size + 1, 2, none⟩ (.string ⟨#[]⟩) = W3 at *
    have hK2 : W3.heap[D]? = some (.deferred (some [])) := (hoth D hDr).trans hK
    have k4 : Blk 42 (W3.putObj D (.deferred none)) (w.heap.size + 1) [.int .i64 0, .int .i64 0, .string ⟨#[]⟩] := (World.putObj_heap_other (fun e => hDr e.symm)).trans k3
    have c0 := k4.cell 0 rfl
    have c1 := k4.cell 1 rfl
    have c2 := k4.cell 2 rfl
    have hs3 : W3.heap.size = W.heap.size := by rw [← hW3]; simp
    have ho3 : W3.os = W.os ∧ W3.tape = W.tape ∧ W3.output = W.output := by rw [← hW3]; exact ⟨rfl, rfl, rfl⟩
    have hfin : Below w.heap.size w (W3.putObj D (.deferred none)) := by
      refine ⟨ho3.1.trans (hB.os.trans hbW.os), ho3.2.1.trans (hB.tape.trans hbW.tape), ho3.2.2.trans (hB.output.trans hbW.output), by simp [World.putObj]; omega, fun j hj => ?_⟩
      rw [World.putObj_heap_other (by omega), hoth j (by omega), hB.block j (by omega), hbW.block j hj]
    refine ⟨by simp, .inl ⟨_, _, rfl, run_takeDeferred hK2, ?_⟩⟩
    refine ⟨.agg #[.int .i64 0, .int .i64 0, .string ⟨#[]⟩], ?_, rfl, hfin⟩
    simp [results, Try.results20, go_sem, c0, c1, c2]
  case stop =>
    rintro D c pre W hD hS ⟨rfl, x, rfl, hbr, hF⟩ hK
    have hG := hgS x hS
    subst hG
    have hDr : D ≠ w.heap.size + 1 := by omega
    gi_wp2
    have a1 := HsW.out
    have k4 : Blk 42 (W.putObj D (.deferred none)) (w.heap.size + 1) (encV x.1.2.2) := (World.putObj_heap_other (fun e => hDr e.symm)).trans hbr
    have c0 := k4.cell 0 rfl
    have c1 := k4.cell 1 rfl
    have c2 := k4.cell 2 rfl
    have hs := hF.size
    have hfin : Below w.heap.size w (W.putObj D (.deferred none)) := by
      refine ⟨hF.os.trans hbW.os, hF.tape.trans hbW.tape, hF.output.trans hbW.output, by simp [World.putObj]; omega, fun j hj => ?_⟩
      rw [World.putObj_heap_other (by omega), hF.block j (by omega) (by omega), hbW.block j hj]
    refine ⟨by simp, .inl ⟨_, _, rfl, run_takeDeferred hK, ?_⟩⟩
    refine ⟨.agg #[.int .i64 x.1.2.2.1, .int .i64 x.1.2.2.2.1, .string x.1.2.2.2.2], ?_, rfl, hfin⟩
    simp [results, Try.results20, go_sem, c0, c1, c2]

end St
end Go.Proofs.Ytjlchfielpfehaa
