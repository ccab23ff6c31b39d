/-
  The laws' copies: toNode, toNodeS.
  Rules in the heap.
-/
import Derived.Test.YtjdohfdkkppnpaaGreatDoorP04
namespace Go.Proofs.YtjdohfdkkppnpaaGreatDoor
open Go.RowKit
namespace Nd

/-- A variable that holds a node. -/
def Var (w : World) (B : Nat) (a b c u : Value) : Prop := w.heap[B]? = some (.cells #[a, b, c, u] 39 (0, 0))
theorem Var.lt {w : World} {B : Nat} {a b c u : Value} (h : Var w B a b c u) : B < w.heap.size := heap_lt h
theorem Var.kept {w w' : World} {B : Nat} {a b c u : Value} (h : Var w B a b c u) (hw : w'.heap[B]? = w.heap[B]?) : Var w' B a b c u := hw.trans h
theorem Var.cell {w : World} {B : Nat} {a b c u : Value} (h : Var w B a b c u) : w.cell? ⟨B, 0, none⟩ = some a ∧ w.cell? ⟨B, 1, none⟩ = some b ∧ w.cell? ⟨B, 2, none⟩ = some c ∧ w.cell? ⟨B, 3, none⟩ = some u := by
  unfold Var at h
  simp [World.cell?, h]
theorem Var.frozen {w : World} {B : Nat} {a b c u : Value} (h : Var w B a b c u) (k : Nat) : w.frozen? ⟨B, k, none⟩ = false := by
  unfold Var at h
  simp [World.frozen?, h]

/-- Four cells put. -/
def put4 (w : World) (g i : Nat) (a b c u : Value) : World := (((w.setCell ⟨g, i, none⟩ a).setCell ⟨g, i + 1, none⟩ b).setCell ⟨g, i + 2, none⟩ c).setCell ⟨g, i + 3, none⟩ u
theorem put4_other (w : World) (g i k : Nat) (a b c u : Value) (h : k ≠ g) : (put4 w g i a b c u).heap[k]? = w.heap[k]? := by
  unfold put4
  rw [Below.heap_setCell _ _ _ _ h, Below.heap_setCell _ _ _ _ h, Below.heap_setCell _ _ _ _ h, Below.heap_setCell _ _ _ _ h]
theorem put4_size (w : World) (g i : Nat) (a b c u : Value) : (put4 w g i a b c u).heap.size = w.heap.size := by simp [put4, World.setCell]
theorem below_put4 {B : Nat} {W w : World} (h : Below B W w) {g : Nat} (hg : B ≤ g) (i : Nat) (a b c u : Value) : Below B W (put4 w g i a b c u) := by
  unfold put4
  exact (((h.setCell hg _).setCell hg _).setCell hg _).setCell hg _

theorem Var.put {w : World} {B : Nat} {a b c u : Value} (h : Var w B a b c u) (a' b' c' u' : Value) : Var (put4 w B 0 a' b' c' u') B a' b' c' u' := by
  unfold Var at h ⊢
  simp [put4, World.setCell, Array.getElem?_modify, h]

def z4 : List Value := [.int .i64 0, .int .i64 0, .string ⟨#[]⟩, .slice none 0 0]
def zeros (n : Nat) : List Value := (List.replicate n z4).flatten
theorem zeros_len (n : Nat) : (zeros n).length = n * 4 := by
  induction n with
  | zero => rfl
  | succ n ih => simp [zeros, List.replicate_succ] at ih ⊢; simp [z4]; omega
theorem zeros_succ (n : Nat) : zeros (n + 1) = z4 ++ zeros n := by simp [zeros, List.replicate_succ]
theorem zeros_get : ∀ (n j : Nat), j < n * 4 → (zeros n)[j]? = z4[j % 4]?
  | 0, j, h => by omega
  | n + 1, j, h => by
    rw [zeros_succ]
    by_cases hj : j < 4
    · rw [List.getElem?_append_left (by simp [z4]; omega), Nat.mod_eq_of_lt hj]
    · rw [List.getElem?_append_right (by simp [z4]; omega)]
      have := zeros_get n (j - 4) (by omega)
      simp only [z4, List.length_cons, List.length_nil] at this ⊢
      rw [this]
      congr 1
      omega

theorem made_zeros (n : Nat) : madeCells #[.int .i64 0, .int .i64 0, .string ⟨#[]⟩, .slice none 0 0] (n * 4) = (zeros n).toArray := by
  apply Array.ext_getElem?
  intro j
  by_cases h : j < n * 4
  · have h4 : j % 4 < 4 := Nat.mod_lt _ (by omega)
    have hz : (zeros n).toArray[j]? = z4[j % 4]? := by rw [List.getElem?_toArray]; exact zeros_get n j h
    rw [hz]
    simp only [madeCells, Array.getElem?_map, Array.getElem?_range, h, if_true, Option.map_some]
    generalize j % 4 = r at h4
    match r, h4 with
    | 0, _ => rfl
    | 1, _ => rfl
    | 2, _ => rfl
    | 3, _ => rfl
  · rw [Array.getElem?_eq_none (by simp [madeCells]; omega), Array.getElem?_eq_none (by simp [zeros_len]; omega)]

theorem set4 {xs ys : List Value} {k : Nat} (hx : xs.length = k * 4) (a b c u : Value) (z0 z1 z2 z3 : Value) :
    ((((xs ++ [z0, z1, z2, z3] ++ ys).toArray.set! (k * 4) a).set! (k * 4 + 1) b).set! (k * 4 + 2) c).set! (k * 4 + 3) u = (xs ++ [a, b, c, u] ++ ys).toArray := by
  rw [← hx]
  apply Array.ext'
  simp

theorem put4_row {w : World} {g k n : Nat} {xs : List Value} (h : w.heap[g]? = some (.cells (xs ++ zeros (n + 1)).toArray 39 (0, 0))) (hx : xs.length = k * 4) (a b c u : Value) :
    (put4 w g (k * 4) a b c u).heap[g]? = some (.cells (xs ++ [a, b, c, u] ++ zeros n).toArray 39 (0, 0)) := by
  have hs := set4 (ys := zeros n) hx a b c u (.int .i64 0) (.int .i64 0) (.string ⟨#[]⟩) (.slice none 0 0)
  rw [zeros_succ, ← List.append_assoc] at h
  rw [← hs]
  simp [put4, World.setCell, Array.getElem?_modify, h, z4]

/-- The cells of a row that is being filled. -/
theorem row_at {w : World} {g k n : Nat} {xs : List Value} (h : w.heap[g]? = some (.cells (xs ++ zeros (n + 1)).toArray 39 (0, 0))) (hx : xs.length = k * 4) :
    w.cell? ⟨g, k * 4, none⟩ = some (.int .i64 0) ∧ w.cell? ⟨g, k * 4 + 1, none⟩ = some (.int .i64 0) ∧ w.cell? ⟨g, k * 4 + 2, none⟩ = some (.string ⟨#[]⟩) ∧ w.cell? ⟨g, k * 4 + 3, none⟩ = some (.slice none 0 0) ∧ ∀ j, w.frozen? ⟨g, j, none⟩ = false := by
  have hc : ∀ j, j < 4 → w.cell? ⟨g, k * 4 + j, none⟩ = z4[j]? := fun j hj => by
    simp only [World.cell?, h]
    rw [List.getElem?_toArray, zeros_succ, List.getElem?_append_right (by omega), List.getElem?_append_left (by simp [z4]; omega), show k * 4 + j - xs.length = j by omega]
    rfl
  exact ⟨hc 0 (by omega), hc 1 (by omega), hc 2 (by omega), hc 3 (by omega), fun j => by simp [World.frozen?, h]⟩

theorem Tryz.infoNoder : (Tryz.prog.info? 39).map (fun i => (i.zero, i.size, i.bytes)) = some (some (.agg #[.int .i64 0, .int .i64 0, .string ⟨#[]⟩, .slice none 0 0]), 4, 56) := by kernel_rfl

theorem make_nodes (n : Nat) (hn : n ≤ 1048576) (w : World) : (Instr.makeSlice 37 (.int .i64 n) (.int .i64 n)).run Tryz.prog w = .ok (.slice (some ⟨w.heap.size, 0, none⟩) n n) (w.alloc (.cells (zeros n).toArray 39)) := by
  obtain ⟨i0, hi0, hz0, hz1, hz2⟩ := info_parts Tryz.infoNoder
  have := run_make (P := Tryz.prog) w 37 39 i0 _ Tryz.underlying37 hi0 hz0 .i64 .i64 n n (by omega) (Int.le_refl _) (by rw [hz2]; omega) (by omega)
  rw [this, hz1]
  simp only [Int.toNat_natCast]
  rw [← made_zeros]
  rfl

/-- toNode at any node of an argument: a node of new memory. -/
def ToOk (t : Data) : Prop := ∀ (w : World) (a b c u : Value), ArgIs w t [a, b, c, u] → cnts (kidsOf t) ≤ 1048576 →
  Calls Tryz.prog 43 #[.agg #[a, b, c, u]] w fun e w' => ∃ v, e = .returned (.agg #[a, b, c, v]) ∧ NodeIs w' t (Iv w.heap.size w'.heap.size) [a, b, c, v] ∧ Below w.heap.size w w'

set_option maxRecDepth 100000 in
theorem lToNodeS {ks : List Data} (hk : ∀ t ∈ ks, ToOk t) (hn : cnts ks ≤ 1048576) (w : World) (ao : Option Addr) (cap : Nat) (hA : ArgsIs w ks ao 0) :
    Calls Tryz.prog 77 #[.slice ao ks.length cap] w fun e w' => ∃ v xs, e = .returned v ∧ w'.ownsRow w.heap.size 39 4 v ks.length xs ∧ NodesIs w' ks (fun k => Iv w.heap.size w'.heap.size k ∧ v.ownBlock ≠ some k) xs ∧ Below w.heap.size w w' := by
  have hlen := cnts_len ks
  have hmk := make_nodes ks.length (by omega)
  have bn : (ks.length : Int) ≤ 1048576 := by omega
  go_enter Tryz.func77, Tryz.ntmps77
  go_wp2_with fail
  go_loopw [4] (fun i wr => ∃ (k : Nat) (xs : List Value), i = .int .i64 k ∧ k ≤ ks.length ∧ wr.heap[w.heap.size]? = some (.cells (xs ++ zeros (ks.length - k)).toArray 39 (0, 0)) ∧ NodesIs wr (ks.take k) (Iv (w.heap.size + 1) wr.heap.size) xs ∧ Below w.heap.size w wr) (fun i _ => ks.length - (intOf i).toNat)
  case atStart => exact ⟨0, [], rfl, Nat.zero_le _, heap_new _ _, by simp [NodesIs], (Below.refl _ w).alloc (Nat.le_refl _) _⟩
  case round =>
    obtain ⟨k, xs, rfl, hkn, hP, hN, hb⟩ := hrel
    have hql := heap_lt hP
    by_cases hkl : k < ks.length
    · have hki : ks[k]? = some ks[k] := List.getElem?_eq_getElem hkl
      obtain ⟨b, o, x0, x1, x2, x3, rfl, hbl, c0, c1, c2, c3, ht⟩ := args_at (args_frame hb hA) hki
      simp only [Nat.zero_add] at c0 c1 c2 c3
      have call := hk ks[k] (List.getElem_mem hkl) wr x0 x1 x2 x3 ht (by have := cnts_mem (List.getElem_mem hkl); have := cnt_kids ks[k]; omega)
      have hxl := nodes_len hN
      rw [List.length_take, Nat.min_eq_left (by omega)] at hxl
      have hTK : ks.take (k + 1) = ks.take k ++ [ks[k]] := by rw [List.take_add_one, hki]; rfl
      obtain ⟨m, hm⟩ : ∃ m, ks.length - k = m + 1 := ⟨ks.length - k - 1, by omega⟩
      have hm2 : ks.length - (k + 1) = m := by omega
      rw [hm] at hP
      obtain ⟨op, n, s, ao', cap', -, hcs, -⟩ := arg_form ht
      simp only [List.cons.injEq, and_true] at hcs
      obtain ⟨rfl, rfl, rfl, rfl⟩ := hcs
      clear ht hk
      have bk : (k : Int) < ks.length := by omega
      clear hn hlen hmk
      go_wp2_with (go_at_call 43; refine call.mono ?_; rintro e w2 ⟨v, rfl, hN2, hb2⟩; have hP2 := (hb2.block _ hql).trans hP; obtain ⟨_, _, _, ao2, cap2, _, -, -, -, -, hv, -⟩ := node_form hN2; subst hv; obtain ⟨p0, p1, p2, p3, fz⟩ := row_at hP2 hxl)
      have hb3 : Below w.heap.size w w2 := hb.trans (hb2.mono hb.size)
      go_roundw
      case rel =>
        refine ⟨k + 1, xs ++ [.int .i64 op, .int .i64 n, .string ⟨s.toArray⟩, .slice ao2 (kidsOf ks[k]).length cap2], by go_num, hkl, ?_, ?_, below_put4 hb3 (Nat.le_refl _) _ _ _ _ _⟩
        · rw [hm2]
          exact put4_row hP2 hxl _ _ _ _
        · rw [hTK]
          have hsz := put4_size w2 w.heap.size (k * 4) (.int .i64 op) (.int .i64 n) (.string ⟨s.toArray⟩) (.slice ao2 (kidsOf ks[k]).length cap2)
          have hz2 := hb2.size
          refine nodes_frame (w := w2) (fun j hj => put4_other _ _ _ _ _ _ _ _ (by have := hj.1; omega)) ?_
          show NodesIs w2 _ (Iv (w.heap.size + 1) (put4 w2 w.heap.size (k * 4) (.int .i64 op) (.int .i64 n) (.string ⟨s.toArray⟩) (.slice ao2 (kidsOf ks[k]).length cap2)).heap.size) _
          rw [hsz]
          refine nodes_snoc (S1 := Iv (w.heap.size + 1) wr.heap.size) (S2 := Iv wr.heap.size w2.heap.size) (nodes_frame (fun j hj => hb2.block j hj.2) hN) hN2 (fun j hj => ⟨⟨hj.1, by have := hj.2; omega⟩, fun h => ?_⟩) (fun j hj => ⟨by have := hj.1; omega, hj.2⟩)
          have := hj.2
          have := h.1
          omega
      case measure => simp [intOf]; omega
    · obtain rfl : k = ks.length := by omega
      go_wp2_with fail
      go_ret
      rw [Nat.sub_self] at hP
      rw [List.take_length] at hN
      simp only [zeros, List.replicate_zero, List.flatten_nil, List.append_nil] at hP
      refine ⟨_, xs, rfl, ⟨nodes_len hN, .inr ⟨w.heap.size, ks.length, _, rfl, Nat.le_refl _, hP, Nat.le_refl _, by unfold maxLen; omega, by simp [nodes_len hN], by rw [← nodes_len hN]; simp⟩⟩, nodes_mono hN fun j hj => ⟨⟨by have := hj.1; omega, hj.2⟩, fun e => ?_⟩, hb⟩
      simp [Value.ownBlock] at e
      have := hj.1
      omega

/-- The cells of a node in a variable. -/
theorem ret_four {fn : Func} {K : Nat} {R : Ending → World → Prop} {a : Act} {W : World} {B : Nat} {v0 v1 v2 v3 : Value} (hf : fn.results = #[.cell K 39]) (ht : a.tmps[K]? = some (.pointer (some ⟨B, 0, none⟩))) (hd : a.defers = [])
    (hV : W.heap[B]? = some (.cells #[v0, v1, v2, v3] 39 (0, 0))) (hR : R (.returned (.agg #[v0, v1, v2, v3])) W) : bodyPost Tryz.prog fn R .ret a W := by
  have x0 := cell_of_row W B 0 _ _ _ hV
  have x1 := cell_of_row W B 1 _ _ _ hV
  have x2 := cell_of_row W B 2 _ _ _ hV
  have x3 := cell_of_row W B 3 _ _ _ hV
  simp at x0 x1 x2 x3
  refine bodyPost_ret ?_ hd hR
  simp [results, hf, ht, go_sem, x0, x1, x2, x3]

set_option maxRecDepth 100000 in
theorem lToNode (t : Data) : ToOk t := by
  induction t using tree_ind with
  | h1 t ht =>
    intro w a b c u h
    obtain ⟨op, n, s, ao, cap, e, _⟩ := arg_form h
    exact absurd e (ht _ _)
  | h ks lab ih =>
    intro w a b c u h hn
    obtain ⟨op, n, s, ao, cap, hnd, he, -, -, hA⟩ := arg_form h
    simp only [List.cons.injEq, and_true] at he
    obtain ⟨rfl, rfl, rfl, rfl⟩ := he
    have hkk : kidsOf (.slice ks lab) = ks := rfl
    rw [hkk] at hn hA hnd ⊢
    have H : Hid (Data.slice ks lab = nd op n s ks) := hnd
    clear hnd hkk h
    obtain ⟨o1, ho1⟩ : ∃ o1, o1 = Obj.cells #[.int .i64 op, .int .i64 n, .string ⟨s.toArray⟩, .slice ao ks.length cap] 33 := ⟨_, rfl⟩
    obtain ⟨o2, ho2⟩ : ∃ o2, o2 = Obj.cells #[.int .i64 0, .int .i64 0, .string ⟨#[]⟩, .slice none 0 0] 39 := ⟨_, rfl⟩
    obtain ⟨o3, ho3⟩ : ∃ o3, o3 = Obj.cells #[.int .i64 op, .int .i64 n, .string ⟨s.toArray⟩, .slice none 0 0] 39 := ⟨_, rfl⟩
    have hb3 : Below w.heap.size w (((w.alloc o1).alloc o2).alloc o3) := (((Below.refl _ w).alloc (Nat.le_refl _) _).alloc (by simp) _).alloc (by simp; omega) _
    have v2 : Var (((w.alloc o1).alloc o2).alloc o3) (w.heap.size + 1) (.int .i64 0) (.int .i64 0) (.string ⟨#[]⟩) (.slice none 0 0) := by
      have := heap_new (w.alloc o1) o2
      rw [World.size_alloc] at this
      unfold Var
      rw [Below.heap_alloc _ _ _ (by simp), this, ho2]
    have v3 : Var (((w.alloc o1).alloc o2).alloc o3) (w.heap.size + 1 + 1) (.int .i64 op) (.int .i64 n) (.string ⟨s.toArray⟩) (.slice none 0 0) := by
      have := heap_new ((w.alloc o1).alloc o2) o3
      rw [World.size_alloc, World.size_alloc] at this
      unfold Var
      rw [this, ho3]
    have call := lToNodeS ih hn (((w.alloc o1).alloc o2).alloc o3) ao cap (args_frame hb3 hA)
    have hsz3 : (((w.alloc o1).alloc o2).alloc o3).heap.size = w.heap.size + 3 := by simp
    generalize hW3 : (((w.alloc o1).alloc o2).alloc o3) = W3 at *
    subst ho1 ho2 ho3
    have HW3 := (show Hid _ from hW3)
    clear ih hA hn hW3
    go_enter Tryz.func43, Tryz.ntmps43
    go_wp2_with (go_at_call 77; rw [HW3.out]; refine call.mono ?_; rintro e w2 ⟨v, xs, rfl, ho, hN, hb2⟩; have v2' := v2.kept (hb2.block _ v2.lt); have v3' := v3.kept (hb2.block _ v3.lt); obtain ⟨ao2, cap2, rfl⟩ := owns_slice ho; obtain ⟨p0, p1, p2, p3⟩ := v2'.cell; obtain ⟨q0, q1, q2, q3⟩ := v3'.cell; have f2 := v2'.frozen; have f3 := v3'.frozen)
    have hz2 := hb2.size
    have hoth : ∀ k, w.heap.size + 3 ≤ k → (put4 (w2.setCell ⟨w.heap.size + 1 + 1, 3, none⟩ (.slice ao2 ks.length cap2)) (w.heap.size + 1) 0 (.int .i64 op) (.int .i64 n) (.string ⟨s.toArray⟩) (.slice ao2 ks.length cap2)).heap[k]? = w2.heap[k]? := fun k hk => by
      rw [put4_other _ _ _ _ _ _ _ _ (by omega), Below.heap_setCell _ _ _ _ (by show k ≠ w.heap.size + 1 + 1; omega)]
    have hsz : (put4 (w2.setCell ⟨w.heap.size + 1 + 1, 3, none⟩ (.slice ao2 ks.length cap2)) (w.heap.size + 1) 0 (.int .i64 op) (.int .i64 n) (.string ⟨s.toArray⟩) (.slice ao2 ks.length cap2)).heap.size = w2.heap.size := by
      rw [put4_size]; simp [World.setCell]
    refine ret_four (W := put4 (w2.setCell ⟨w.heap.size + 1 + 1, 3, none⟩ (.slice ao2 ks.length cap2)) (w.heap.size + 1) 0 (.int .i64 op) (.int .i64 n) (.string ⟨s.toArray⟩) (.slice ao2 ks.length cap2)) Tryz.results43 rfl rfl (Var.put (v2'.kept (Below.heap_setCell _ _ _ _ (by simp))) _ _ _ _) ⟨_, rfl, ?_, ?_⟩
    · rw [H.out, node_nd]
      refine ⟨_, xs, rfl, owns_base (owns_same ho fun g hg => hoth g (by have := (ho.lt g hg).1; omega)) (Nat.zero_le _), fun g hg => ⟨by have := (ho.lt g hg).1; omega, by rw [hsz]; exact (ho.lt g hg).2⟩, ?_⟩
      refine nodes_mono (nodes_frame (fun k hk => hoth k (by have := hk.1.1; omega)) hN) fun k hk => ⟨⟨?_, ?_⟩, hk.2⟩
      · have := hk.1.1; omega
      · rw [hsz]; exact hk.1.2
    · refine below_put4 ((hb3.trans (hb2.mono (by omega))).setCell (by simp; omega) _) (by omega) _ _ _ _ _

end Nd
end Go.Proofs.YtjdohfdkkppnpaaGreatDoor

namespace Go.Proofs.YtjdohfdkkppnpaaGreatDoor
open Go.RowKit
namespace Ty
open Nd

/-- The cells of rules, nine each; their nodes within S. -/
def RulesIs (w : World) (S : Nat → Prop) : List Ru → List Value → Prop
  | [], xs => xs = []
  | r :: rs, xs => ∃ p0 p1 p2 p3 b0 b1 b2 b3 c, xs = .int .i64 r.1 :: p0 :: p1 :: p2 :: p3 :: b0 :: b1 :: b2 :: b3 :: c ∧ NodeIs w r.2.1 S [p0, p1, p2, p3] ∧ NodeIs w r.2.2 S [b0, b1, b2, b3] ∧ RulesIs w S rs c

def sizR : List Ru → Nat
  | [] => 0
  | r :: rs => siz r.2.1 + siz r.2.2 + 1 + sizR rs
theorem sizR_mem {r : Ru} : ∀ {rs : List Ru}, r ∈ rs → siz r.2.1 + siz r.2.2 + 1 ≤ sizR rs
  | a :: rs, h => by
    simp only [sizR]
    rcases List.mem_cons.1 h with rfl | h
    · omega
    · have := sizR_mem h; omega
theorem sizR_len : ∀ rs : List Ru, rs.length ≤ sizR rs
  | [] => by simp
  | r :: rs => by have := sizR_len rs; simp only [sizR, List.length_cons]; omega
theorem sizR_append : ∀ (xs ys : List Ru), sizR (xs ++ ys) = sizR xs + sizR ys
  | [], ys => by simp [sizR]
  | a :: xs, ys => by simp only [List.cons_append, sizR, sizR_append xs ys]; omega
theorem sizR_take (rs : List Ru) (k : Nat) (r : Ru) (h : rs[k]? = some r) : sizR (rs.take (k + 1)) = sizR (rs.take k) + (siz r.2.1 + siz r.2.2 + 1) := by
  rw [List.take_add_one, h, sizR_append]
  simp [sizR]

theorem rules_len {w : World} {S : Nat → Prop} : ∀ {rs : List Ru} {xs : List Value}, RulesIs w S rs xs → xs.length = rs.length * 9
  | [], xs, h => by simp only [RulesIs] at h; simp [h]
  | r :: rs, xs, h => by
    obtain ⟨p0, p1, p2, p3, b0, b1, b2, b3, c, rfl, _, _, h3⟩ := h
    have := rules_len h3
    simp; omega
theorem rules_frame {w w' : World} {S : Nat → Prop} (hS : ∀ k, S k → w'.heap[k]? = w.heap[k]?) : ∀ {rs : List Ru} {xs : List Value}, RulesIs w S rs xs → RulesIs w' S rs xs
  | [], xs, h => h
  | r :: rs, xs, h => by
    obtain ⟨p0, p1, p2, p3, b0, b1, b2, b3, c, rfl, h1, h2, h3⟩ := h
    exact ⟨p0, p1, p2, p3, b0, b1, b2, b3, c, rfl, node_frame _ _ _ hS h1, node_frame _ _ _ hS h2, rules_frame hS h3⟩
theorem rules_mono {w : World} {S S' : Nat → Prop} (hS : ∀ k, S k → S' k) : ∀ {rs : List Ru} {xs : List Value}, RulesIs w S rs xs → RulesIs w S' rs xs
  | [], xs, h => h
  | r :: rs, xs, h => by
    obtain ⟨p0, p1, p2, p3, b0, b1, b2, b3, c, rfl, h1, h2, h3⟩ := h
    exact ⟨p0, p1, p2, p3, b0, b1, b2, b3, c, rfl, node_mono h1 hS, node_mono h2 hS, rules_mono hS h3⟩
theorem rules_snoc {w : World} {S : Nat → Prop} {r : Ru} {p0 p1 p2 p3 b0 b1 b2 b3 : Value} (h1 : NodeIs w r.2.1 S [p0, p1, p2, p3]) (h2 : NodeIs w r.2.2 S [b0, b1, b2, b3]) : ∀ {rs : List Ru} {xs : List Value}, RulesIs w S rs xs → RulesIs w S (rs ++ [r]) (xs ++ [.int .i64 r.1, p0, p1, p2, p3, b0, b1, b2, b3])
  | [], xs, h => by
    simp only [RulesIs] at h
    subst h
    exact ⟨p0, p1, p2, p3, b0, b1, b2, b3, [], rfl, h1, h2, rfl⟩
  | r' :: rs, xs, h => by
    obtain ⟨q0, q1, q2, q3, d0, d1, d2, d3, c, rfl, k1, k2, k3⟩ := h
    exact ⟨q0, q1, q2, q3, d0, d1, d2, d3, _, rfl, k1, k2, rules_snoc h1 h2 k3⟩
theorem rules_at {w : World} {S : Nat → Prop} : ∀ {rs : List Ru} {xs : List Value} {i : Nat} {r : Ru}, RulesIs w S rs xs → rs[i]? = some r → ∃ p0 p1 p2 p3 b0 b1 b2 b3, xs[i * 9]? = some (.int .i64 r.1) ∧ xs[i * 9 + 1]? = some p0 ∧ xs[i * 9 + 1 + 1]? = some p1 ∧ xs[i * 9 + 1 + 2]? = some p2 ∧ xs[i * 9 + 1 + 3]? = some p3 ∧
    xs[i * 9 + 5]? = some b0 ∧ xs[i * 9 + 5 + 1]? = some b1 ∧ xs[i * 9 + 5 + 2]? = some b2 ∧ xs[i * 9 + 5 + 3]? = some b3 ∧ NodeIs w r.2.1 S [p0, p1, p2, p3] ∧ NodeIs w r.2.2 S [b0, b1, b2, b3]
  | [], xs, i, r, h, hi => by simp at hi
  | r' :: rs, xs, 0, r, h, hi => by
    simp at hi
    subst hi
    obtain ⟨p0, p1, p2, p3, b0, b1, b2, b3, c, rfl, h1, h2, h3⟩ := h
    exact ⟨p0, p1, p2, p3, b0, b1, b2, b3, rfl, rfl, rfl, rfl, rfl, rfl, rfl, rfl, rfl, h1, h2⟩
  | r' :: rs, xs, i + 1, r, h, hi => by
    obtain ⟨q0, q1, q2, q3, d0, d1, d2, d3, c, rfl, k1, k2, k3⟩ := h
    obtain ⟨p0, p1, p2, p3, b0, b1, b2, b3, e0, e1, e2, e3, e4, e5, e6, e7, e8, h1, h2⟩ := rules_at k3 (by simpa using hi : rs[i]? = some r)
    have sh : ∀ j, (Value.int .i64 r'.1 :: q0 :: q1 :: q2 :: q3 :: d0 :: d1 :: d2 :: d3 :: c)[(i + 1) * 9 + j]? = c[i * 9 + j]? := fun j => by
      rw [show (i + 1) * 9 + j = (i * 9 + j) + 9 by omega]
      rfl
    exact ⟨p0, p1, p2, p3, b0, b1, b2, b3, (sh 0).trans e0, (sh 1).trans e1, (sh (1 + 1)).trans e2, (sh (1 + 2)).trans e3, (sh (1 + 3)).trans e4, (sh 5).trans e5, (sh (5 + 1)).trans e6, (sh (5 + 2)).trans e7, (sh (5 + 3)).trans e8, h1, h2⟩

/-- A rule in a variable. -/
def Box9 (w : World) (B : Nat) (v0 v1 v2 v3 v4 v5 v6 v7 v8 : Value) : Prop := w.heap[B]? = some (.cells #[v0, v1, v2, v3, v4, v5, v6, v7, v8] 41 (0, 0))
theorem Box9.lt {w : World} {B : Nat} {v0 v1 v2 v3 v4 v5 v6 v7 v8 : Value} (h : Box9 w B v0 v1 v2 v3 v4 v5 v6 v7 v8) : B < w.heap.size := heap_lt h
theorem Box9.kept {w w' : World} {B : Nat} {v0 v1 v2 v3 v4 v5 v6 v7 v8 : Value} (h : Box9 w B v0 v1 v2 v3 v4 v5 v6 v7 v8) (hw : w'.heap[B]? = w.heap[B]?) : Box9 w' B v0 v1 v2 v3 v4 v5 v6 v7 v8 := hw.trans h
theorem Box9.cell {w : World} {B : Nat} {v0 v1 v2 v3 v4 v5 v6 v7 v8 : Value} (h : Box9 w B v0 v1 v2 v3 v4 v5 v6 v7 v8) : w.cell? ⟨B, 0, none⟩ = some v0 ∧ w.cell? ⟨B, 1, none⟩ = some v1 ∧ w.cell? ⟨B, 2, none⟩ = some v2 ∧ w.cell? ⟨B, 3, none⟩ = some v3 ∧ w.cell? ⟨B, 4, none⟩ = some v4 ∧ w.cell? ⟨B, 5, none⟩ = some v5 ∧ w.cell? ⟨B, 6, none⟩ = some v6 ∧ w.cell? ⟨B, 7, none⟩ = some v7 ∧ w.cell? ⟨B, 8, none⟩ = some v8 := by
  unfold Box9 at h
  simp [World.cell?, h]

end Ty
end Go.Proofs.YtjdohfdkkppnpaaGreatDoor

