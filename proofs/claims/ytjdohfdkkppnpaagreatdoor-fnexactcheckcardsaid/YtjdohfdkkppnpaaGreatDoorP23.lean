/-
  The program's amissWhere: the first node at which a reason shows.
-/
import Derived.Test.YtjdohfdkkppnpaaGreatDoorP22
import Derived.Shelf.AbstractIn
namespace Go.Proofs.YtjdohfdkkppnpaaGreatDoor
open Go.RowKit
namespace Ck
open Nd Ty
attribute [local go_sem] Oper.semAt_some

/-- What is told of a node and all that came ahead. -/
structure Asks (w : World) (rs : List Ru) (Sx : Nat → Prop) (I0 : List Data → World → Prop) (q : List Data → Bool) (f : Nat) (lb : Array Value) : Prop where
  own : ∀ s A A', I0 s A → w.heap.size ≤ A.heap.size → (∀ k, k < w.heap.size → A'.heap[k]? = A.heap[k]?) → I0 s A'
  call : ∀ (pre : List Data) (t : Data) (S : Nat → Prop) (a b c u : Value) (W : World), I0 pre W → Fr Sx w W → pre.length ≤ 2500000 → NodeIs W t S [a, b, c, u] → (∀ k, S k → k < W.heap.size) → siz t ≤ 1048576 → SubR rs t →
    Calls Tryz.prog f (#[.agg #[a, b, c, u]] ++ lb) W fun e W' => e = .returned (.bool (q (pre ++ [t]))) ∧ I0 (pre ++ [t]) W' ∧ Fr Sx W W' ∧ ∀ k, Sx k → ¬ Cellsy W' k

def Here (w : World) (Sx : Nat → Prop) (I0 : List Data → World → Prop) (q : List Data → Bool) {W0 : World} {rs : List Ru} (pre : List (Nde W0 rs)) (W : World) : Prop :=
  I0 (pre.map Nde.t) W ∧ Fr Sx W0 W ∧ (∀ p, p ≠ [] → p <+: pre.map Nde.t → q p = false) ∧ Fr Sx w W
def Left (Br : Nat) (Sx : Nat → Prop) (q : List Data → Bool) (code : Int) {W0 : World} {rs : List Ru} (c : Code) (pre : List (Nde W0 rs)) (W : World) : Prop :=
  c = .ret ∧ (∃ r : Nat, W.heap[Br]? = some (.cells #[.iface 56 (.agg #[.int .i64 code, .int .i64 r])] 59 (0, 0))) ∧ pre ≠ [] ∧ q (pre.map Nde.t) = true ∧ Fr (fun k => Sx k ∨ k = Br) W0 W

theorem mem_sub {rs : List Ru} {k : Nat} {t : Data} (h : (k, t) ∈ visit 0 rs) : SubR rs t := mem_allOf.1 (List.mem_map.2 ⟨_, h, rfl⟩)

set_option maxHeartbeats 2000000 in
set_option maxRecDepth 100000 in
theorem iAmissWhere {rs : List Ru} {w : World} {S : Nat → Prop} {ao : Option Addr} {cap : Nat} {xs : List Value} {B f : Nat} {lb : Array Value} {Sx : Nat → Prop} {I0 : List Data → World → Prop} {q : List Data → Bool} {code : Int} (hsz : sizR rs ≤ 1048576) (ho : w.ownsRow B 41 9 (.slice ao rs.length cap) rs.length xs) (hr : RulesAp w rs S xs)
    (hSx0 : ∀ k, Sx k → k < w.heap.size ∧ ¬ Cellsy w k ∧ (Value.slice ao rs.length cap).ownBlock ≠ some k) (hQ : Asks w rs Sx I0 q f lb) (eg : ∀ args w, (callFunc f args).run Tryz.prog w = .ok (.enter f args) w) (h0 : I0 [] w) :
    Calls Tryz.prog 50 #[.slice ao rs.length cap, .int .i64 code, .func (.func f) #[] lb] w fun e w' => Fr Sx w w' ∧ ((e = .returned .nilIface ∧ ∀ p, p ≠ [] → p <+: allOf rs → q p = false) ∨ (∃ r : Nat, e = .returned (.iface 56 (.agg #[.int .i64 code, .int .i64 r]))) ∧ ∃ p, p ≠ [] ∧ p <+: allOf rs ∧ q p = true) := by
  refine (callsIn_wide (n := 6)).1 ?_
  have h1n : 1 ≤ 6 := by omega
  have hfE : Fence.wide.fn 93 := trivial
  refine callsIn_of_wp_marks Tryz.func50 rfl trivial ?_ rfl
  simp only [Tryz.ntmps50, List.size_toArray, List.length_cons, List.length_nil, Nat.reduceAdd, Nat.reduceSub, Array.replicate_succ, Array.replicate_zero, List.push_toArray, List.append_toArray, List.nil_append, List.cons_append]
  gi_wp2_with (gi_at_call 93; refine (callsIn_wide.2 (iEachNode _ _ _ _)).mono ?_; rintro e w2 ⟨rfl, rfl⟩)
  obtain ⟨W0, hW0⟩ : ∃ W0, W0 = (((w.alloc (.cells #[.int .i64 code] 3)).alloc (.cells #[.func (.func f) #[] lb] 48)).alloc (.cells #[.nilIface] 59)).alloc (.cells #[.slice ao rs.length cap] 25) := ⟨_, rfl⟩
  have hbW : Below w.heap.size w W0 := by rw [hW0]; exact ((((Below.refl _ w).alloc (Nat.le_refl _) _).alloc (by simp) _).alloc (by simp <;> omega) _).alloc (by simp <;> omega) _
  have hsW : W0.heap.size = w.heap.size + 4 := by simp [hW0]
  have e0 : W0.heap[w.heap.size]? = some (.cells #[.int .i64 code] 3 (0, 0)) := by
    rw [hW0, Below.heap_alloc _ _ _ (by simp <;> omega), Below.heap_alloc _ _ _ (by simp <;> omega), Below.heap_alloc _ _ _ (by simp), heap_new]
  have e1 : W0.heap[w.heap.size + 1]? = some (.cells #[.func (.func f) #[] lb] 48 (0, 0)) := by
    rw [hW0, Below.heap_alloc _ _ _ (by simp <;> omega), Below.heap_alloc _ _ _ (by simp)]
    have := heap_new (w.alloc (.cells #[.int .i64 code] 3)) (.cells #[.func (.func f) #[] lb] 48)
    rwa [World.size_alloc] at this
  have e2 : W0.heap[w.heap.size + 1 + 1]? = some (.cells #[.nilIface] 59 (0, 0)) := by
    rw [hW0, Below.heap_alloc _ _ _ (by simp)]
    have := heap_new ((w.alloc (.cells #[.int .i64 code] 3)).alloc (.cells #[.func (.func f) #[] lb] 48)) (.cells #[.nilIface] 59)
    rwa [World.size_alloc, World.size_alloc] at this
  have hbl : W0.heap[w.heap.size + 1 + 1 + 1]? = some (.cells #[.slice ao rs.length cap] 25 (0, 0)) := by
    rw [hW0]
    have := heap_new (((w.alloc (.cells #[.int .i64 code] 3)).alloc (.cells #[.func (.func f) #[] lb] 48)).alloc (.cells #[.nilIface] 59)) (.cells #[.slice ao rs.length cap] 25)
    rwa [World.size_alloc, World.size_alloc, World.size_alloc] at this
  have hlt : ∀ k, (S k ∧ Cellsy w k) → k < w.heap.size := fun k hk => by obtain ⟨cur, hc⟩ := hk.2; exact heap_lt hc
  have hapW := ap_frame (fun k hk => hbW.block k (hlt k hk)) (ap_cells hr)
  have hcyW : ∀ k, (S k ∧ Cellsy w k) → Cellsy W0 k := fun k hk => by have := hlt k hk; obtain ⟨cur, hc⟩ := hk.2; exact ⟨cur, (hbW.block k this).trans hc⟩
  have hoW : W0.ownsRow B 41 9 (.slice ao rs.length cap) rs.length xs := owns_same ho fun g hg => hbW.block g (ho.lt g hg).2
  have hSx : ∀ k, Sx k → k < W0.heap.size ∧ ¬ Cellsy W0 k ∧ (Value.slice ao rs.length cap).ownBlock ≠ some k := fun k hk => by
    obtain ⟨a1, a2, a3⟩ := hSx0 k hk
    exact ⟨by omega, fun ⟨cur, hc⟩ => a2 ⟨cur, (hbW.block k a1).symm.trans hc⟩, a3⟩
  have hSl : ∀ k, Sx k → k < W0.heap.size := fun k hk => (hSx k hk).1
  have HsW : Hid (W0.heap.size = w.heap.size + 4) := hsW
  have hSw : ∀ k, Sx k → k < w.heap.size := fun k hk => (hSx0 k hk).1
  have hvl := visit_len 0 rs
  have hseq := nodes_stops (n := 5) hsz hbl hoW hapW hcyW hSx (by omega)
  have hI00 : I0 [] W0 := hQ.own [] w W0 h0 (Nat.le_refl _) (fun k hk => hbW.block k hk)
  have hownH : OwnFrom W0.heap.size (Here w Sx I0 q (W0 := W0) (rs := rs)) := by
    rintro s A A' row ⟨i1, i2, i3, i4⟩ hg hrow
    have hsA := i2.size
    exact ⟨hQ.own _ _ _ i1 (by omega) fun k hk => hg.block k (by omega) fun e => by have := (hrow k e.symm).1; omega, i2.grown hg fun k e => .inl (hrow k e).1, i3, i4.grown hg fun k e => .inl (by have := (hrow k e).1; omega)⟩
  have hownL : ∀ c, OwnFrom W0.heap.size (Left (w.heap.size + 1 + 1) Sx q code (W0 := W0) (rs := rs) c) := by
    rintro c s A A' row ⟨i1, ⟨r, i2⟩, i3, i4, i5⟩ hg hrow
    have hsA := i5.size
    exact ⟨i1, ⟨r, (hg.block _ (by omega) fun e => by have := (hrow _ e.symm).1; omega).trans i2⟩, i3, i4, i5.grown hg fun k e => .inl (hrow k e).1⟩
  rw [← hW0]
  clear hW0 hapW hcyW hoW hlt hbl
  refine wpIn_rangeFunc_ownH rfl h1n (gf := 115) (lb := #[.pointer (some ⟨w.heap.size + 1 + 1 + 1, 0, none⟩)]) rfl trivial (enters_of Tryz.func115 (by kernel_rfl) rfl) hseq (fun h k => h.trans k) (Keep.put hSl) (Below.refl _ _) (fun _ => rfl)
    (Here w Sx I0 q) (Left (w.heap.size + 1 + 1) Sx q code) hownH hownL ⟨hI00, Fr.refl _ _, fun p hp h => absurd (List.prefix_nil.1 h) hp, fr_below hbW⟩
    (fun x a' W => ∃ Bx, W0.heap.size ≤ Bx ∧ W.heap[Bx]? = some (.cells #[x.a, x.b, x.c, x.u] 39 (0, 0)) ∧ a' = { tmps := #[.slice ao rs.length cap, .int .i64 code, .func (.func f) #[] lb, undef, .pointer (some ⟨w.heap.size, 0, none⟩), .pointer (some ⟨w.heap.size + 1, 0, none⟩), .pointer (some ⟨w.heap.size + 1 + 1, 0, none⟩), .int .i64 x.rule, .pointer (some ⟨Bx, 0, none⟩), .slice ao rs.length cap, .func (.func 115) #[] #[.pointer (some ⟨w.heap.size + 1 + 1 + 1, 0, none⟩)], .int .i64 x.rule, .agg #[x.a, x.b, x.c, x.u], undef, undef, undef, undef, undef, undef, undef], defers := [] })
    (fun x a' u A B row hs hg hr => by
      obtain ⟨Bx, h1, h2, h3⟩ := hs
      refine ⟨Bx, h1, (hg.block Bx (heap_lt h2) fun e => ?_).trans h2, h3⟩
      obtain ⟨o, ho, hc⟩ := (hr Bx e.symm).2
      rw [h2] at ho
      cases ho
      cases hc) ?assign ?body ?done ?stop
  case assign =>
    rintro l pre x W K hi hK
    obtain ⟨op, n, st, ao', cap', ys, -, ea, eb, ec, eu, -⟩ := node_form x.is
    have henc : x.encs = #[.int .i64 x.rule, .agg #[x.a, x.b, x.c, x.u]] := rfl
    rw [henc]
    simp only [ea, eb, ec, eu] at hK ⊢
    have hsz2 := hi.2.1.size
    clear henc ea eb ec eu
    gi_wp2
    exact hK _ _ ((KeepsOthers.alloc _ _).from _) (Keep.below (fun k hk => Nat.lt_of_lt_of_le (hSl k hk) hsz2) ((Below.refl _ _).alloc (Nat.le_refl _) _)) (hownH pre W _ none hi (World.grownBy_alloc W _ none) (fun r e => by cases e)) ⟨W.heap.size, hsz2, heap_new _ _, rfl⟩
  case body =>
    rintro l pre x a' W hl ⟨r, hr⟩ ⟨hi, hF, hq, hFw⟩ ⟨Bx, hBx, hnx, rfl⟩ hlen
    have hsF := hF.size
    have hnt : ∀ k, ¬ Sx k → k < W0.heap.size → W.heap[k]? = W0.heap[k]? := fun k h1 h2 => hF.block k h2 h1
    have hb0 := (hnt (w.heap.size) (fun h => by have := hSw _ h; omega) (by omega)).trans e0
    have hb1 := (hnt (w.heap.size + 1) (fun h => by have := hSw _ h; omega) (by omega)).trans e1
    have hb2 := (hnt (w.heap.size + 1 + 1) (fun h => by have := hSw _ h; omega) (by omega)).trans e2
    have hxW : NodeIs W x.t x.S [x.a, x.b, x.c, x.u] := node_frame _ _ _ (fun k hk => by
      have hc := x.cy k hk
      have hkl : k < W0.heap.size := by obtain ⟨cur, h⟩ := hc; exact heap_lt h
      exact hnt k (fun h => (hSx k h).2.1 hc) hkl) x.is
    have hxl : ∀ k, x.S k → k < W.heap.size := fun k hk => by obtain ⟨cur, h⟩ := x.cy k hk; have := heap_lt h; omega
    have call := hQ.call (pre.map Nde.t) x.t x.S x.a x.b x.c x.u W hi hFw (by rw [List.length_map]; omega) hxW hxl x.sz (mem_sub x.mem)
    have hpq : ∀ b, q (pre.map Nde.t ++ [x.t]) = b → (b = false → ∀ p, p ≠ [] → p <+: (pre ++ [x]).map Nde.t → q p = false) := by
      rintro b rfl hb p hp hpre
      rw [List.map_append, List.map_cons, List.map_nil] at hpre
      rcases List.prefix_concat_iff.1 hpre with rfl | h
      · exact hb
      · exact hq p hp h
    obtain ⟨op, n, st, ao', cap', ys, -, ea, eb, ec, eu, -⟩ := node_form hxW
    rw [ea, eb, ec, eu] at call
    simp only [ea, eb, ec, eu] at hnx ⊢
    have c0 : W.cell? ⟨w.heap.size + 1, 0, none⟩ = some (.func (.func f) #[] lb) := by simp [World.cell?, hb1]
    have x0 : W.cell? ⟨Bx, 0, none⟩ = some (.int .i64 op) := by simp [World.cell?, hnx]
    have x1 : W.cell? ⟨Bx, 1, none⟩ = some (.int .i64 n) := by simp [World.cell?, hnx]
    have x2 : W.cell? ⟨Bx, 2, none⟩ = some (.string ⟨st.toArray⟩) := by simp [World.cell?, hnx]
    have x3 : W.cell? ⟨Bx, 3, none⟩ = some (.slice ao' (kidsOf x.t).length cap') := by simp [World.cell?, hnx]
    have hfT : Fence.wide.fn f := trivial
    have h12 : 1 ≤ 6 - 1 - 1 := by omega
    obtain ⟨qb, hqb⟩ : ∃ qb, q (pre.map Nde.t ++ [x.t]) = qb := ⟨_, rfl⟩
    have hpq' : Hid (qb = false → ∀ p, p ≠ [] → p <+: (pre ++ [x]).map Nde.t → q p = false) := hpq qb hqb
    have HQB : Hid (q (pre.map Nde.t ++ [x.t]) = qb) := hqb
    rw [hqb] at call
    clear hnx ea eb ec eu hxW hxl hpq hqb hq
    have hback : ∀ W2, Fr Sx W W2 → W2.cell? ⟨w.heap.size, 0, none⟩ = some (.int .i64 code) ∧ W2.cell? ⟨w.heap.size + 1 + 1, 0, none⟩ = some .nilIface ∧ W2.frozen? ⟨w.heap.size + 1 + 1, 0, none⟩ = false ∧ W2.heap[w.heap.size + 1 + 1]? = some (.cells #[.nilIface] 59 (0, 0)) := fun W2 h => by
      have y0 := (h.block (w.heap.size) (by omega) (fun h => by have := hSw _ h; omega)).trans hb0
      have y2 := (h.block (w.heap.size + 1 + 1) (by omega) (fun h => by have := hSw _ h; omega)).trans hb2
      simp [World.cell?, World.frozen?, y0, y2]
    have hkeep : ∀ W2, Fr Sx W W2 → KeepsFrom W0.heap.size W W2 := fun W2 h => ⟨h.size, fun k o hk h1 _ => (h.block k (heap_lt h1) (fun h => by have := hSl k h; omega)).trans h1⟩
    cases qb with
    | false =>
      gi_wp2_with (gi_at_fn f; refine (CallsIn.inRound l (callsIn_wide.2 call)).mono ?_; rintro e W2 ⟨rfl, hi2, hF2, hn2⟩)
      refine ⟨?_, ⟨hF2.size, fun k o h1 hn _ => (hF2.block k (heap_lt h1) hn).trans h1, fun k hk _ => hn2 k hk⟩, ?_, hF.trans hF2, hpq'.out (by first | rfl | trivial), hFw.trans hF2⟩
      · exact hkeep W2 hF2
      · rw [List.map_append, List.map_cons, List.map_nil]; exact hi2
    | true =>
      gi_wp2_with (gi_at_fn f; refine (CallsIn.inRound l (callsIn_wide.2 call)).mono ?_; rintro e W2 ⟨rfl, hi2, hF2, hn2⟩; obtain ⟨d0, d2, z2, y2⟩ := hback W2 hF2)
      have hs2 := hF2.size
      refine ⟨?_, rfl, ⟨x.rule, ?_⟩, by simp, ?_, ?_⟩
      · refine (hkeep W2 hF2).trans ⟨by simp, fun k o hk h1 _ => ?_⟩
        rw [Below.heap_setCell _ _ _ _ (by have := HsW.out; show k ≠ w.heap.size + 1 + 1; omega)]
        exact h1
      · simp [World.setCell, Array.getElem?_modify, y2]
      · rw [List.map_append, List.map_cons, List.map_nil]; exact HQB.out
      · refine ⟨?_, ?_, ?_, ?_, fun k hk hn => ?_⟩
        · exact hF2.os.trans hF.os
        · exact hF2.tape.trans hF.tape
        · exact hF2.output.trans hF.output
        · simp; omega
        · rw [Below.heap_setCell _ _ _ _ (fun e => hn (.inr e)), hF2.block k (by omega) (fun h => hn (.inl h)), hF.block k hk (fun h => hn (.inl h))]
  case done =>
    rintro D ys W hD hS ⟨hi, hF, hq, hFw⟩ hK
    have hsF := hF.size
    have hb2 := (hF.block (w.heap.size + 1 + 1) (by omega) (fun h => by have := hSw _ h; omega)).trans e2
    have c2 : W.cell? ⟨w.heap.size + 1 + 1, 0, none⟩ = some .nilIface := by simp [World.cell?, hb2]
    have z2 : W.frozen? ⟨w.heap.size + 1 + 1, 0, none⟩ = false := by simp [World.frozen?, hb2]
    have hBr : ¬ Sx (w.heap.size + 1 + 1) := fun h => by have := hSw _ h; omega
    have hDr : D ≠ w.heap.size + 1 + 1 := by omega
    have hmap : ys.map Nde.t = allOf rs := by unfold allOf; rw [← hS, List.map_map]; rfl
    rw [hmap] at hq
    gi_wp2
    have hK2 : (W.setCell ⟨w.heap.size + 1 + 1, 0, none⟩ .nilIface).heap[D]? = some (.deferred (some [])) := by rw [Below.heap_setCell _ _ _ _ hDr]; exact hK
    have hbr : ((W.setCell ⟨w.heap.size + 1 + 1, 0, none⟩ .nilIface).putObj D (.deferred none)).heap[w.heap.size + 1 + 1]? = some (.cells #[.nilIface] 59 (0, 0)) := by
      rw [World.putObj_heap_other (fun e => hDr e.symm)]
      simp [World.setCell, Array.getElem?_modify, hb2]
    have hfin : Fr Sx w ((W.setCell ⟨w.heap.size + 1 + 1, 0, none⟩ .nilIface).putObj D (.deferred none)) := by
      have a1 := HsW.out
      refine ⟨hFw.os, hFw.tape, hFw.output, by have := hFw.size; simp [World.putObj]; omega, fun k hk hn => ?_⟩
      rw [World.putObj_heap_other (by omega), Below.heap_setCell _ _ _ _ (by show k ≠ w.heap.size + 1 + 1; omega), hFw.block k hk hn]
    refine ⟨by simp, .inl ⟨_, _, rfl, run_takeDeferred hK2, ?_⟩⟩
    refine ⟨.nilIface, ?_, hfin, .inl ⟨rfl, hq⟩⟩
    have c9 : ((W.setCell ⟨w.heap.size + 1 + 1, 0, none⟩ .nilIface).putObj D (.deferred none)).cell? ⟨w.heap.size + 1 + 1, 0, none⟩ = some .nilIface := by simp [World.cell?, hbr]
    simp [results, Tryz.results50, go_sem, c9]
  case stop =>
    rintro D c pre W hD hS ⟨rfl, ⟨r, hbr⟩, hne, hqt, hF⟩ hK
    have hsF := hF.size
    have hDr : D ≠ w.heap.size + 1 + 1 := by omega
    have hpre : pre.map Nde.t <+: allOf rs := by
      obtain ⟨rest, hrest⟩ := hS
      refine ⟨rest.map (·.2), ?_⟩
      unfold allOf
      rw [← hrest, List.map_append, List.map_map]
      rfl
    gi_wp2
    have hbr2 : (W.putObj D (.deferred none)).heap[w.heap.size + 1 + 1]? = _ := (World.putObj_heap_other (fun e => hDr e.symm)).trans hbr
    have hfin : Fr Sx w (W.putObj D (.deferred none)) := by
      have a1 := HsW.out
      refine ⟨hF.os.trans hbW.os, hF.tape.trans hbW.tape, hF.output.trans hbW.output, by have := hbW.size; simp [World.putObj]; omega, fun k hk hn => ?_⟩
      rw [World.putObj_heap_other (by omega), hF.block k (by omega) (fun h => h.elim hn (by omega)), hbW.block k hk]
    refine ⟨by simp, .inl ⟨_, _, rfl, run_takeDeferred hK, ?_⟩⟩
    refine ⟨.iface 56 (.agg #[.int .i64 code, .int .i64 r]), ?_, hfin, .inr ⟨⟨r, rfl⟩, pre.map Nde.t, by simpa using hne, hpre, hqt⟩⟩
    have c9 : (W.putObj D (.deferred none)).cell? ⟨w.heap.size + 1 + 1, 0, none⟩ = some (.iface 56 (.agg #[.int .i64 code, .int .i64 r])) := by simp [World.cell?, hbr2]
    simp [results, Tryz.results50, go_sem, c9]

end Ck
end Go.Proofs.YtjdohfdkkppnpaaGreatDoor

