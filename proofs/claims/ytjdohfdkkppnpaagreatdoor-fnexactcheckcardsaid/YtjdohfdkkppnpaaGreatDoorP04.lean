/-
  Nodes of an argument, and how big they are: szNode, szNodeS.
  How big a tree is; what reads it.
-/
import Derived.Test.YtjdohfdkkppnpaaGreatDoorP02
import Derived.Test.YtjdohfdkkppnpaaGreatDoorP01
namespace Go.Proofs.YtjdohfdkkppnpaaGreatDoor
open Go.RowKit
namespace Nd

mutual
/-- The four cells of a node of an argument (its memory may be shared). -/
def ArgIs (w : World) : Data → List Value → Prop
  | .slice ks lab, cs => ∃ (op n : Int) (s : List UInt8) (ao : Option Addr) (cap : Nat), lab = [.lit (.int .i64 op), .lit (.int .i64 n), .lit (.string s)] ∧
      cs = [.int .i64 op, .int .i64 n, .string ⟨s.toArray⟩, .slice ao ks.length cap] ∧ s.length ≤ maxLen ∧ ks.length ≤ maxLen ∧ ArgsIs w ks ao 0
  | _, _ => False
/-- The nodes of a list of an argument, from number i on. -/
def ArgsIs (w : World) : List Data → Option Addr → Nat → Prop
  | [], _, _ => True
  | t :: ts, ao, i => (∃ (b o : Nat) (x0 x1 x2 x3 : Value), ao = some ⟨b, o, none⟩ ∧ b < w.heap.size ∧ w.cell? ⟨b, o + i * 4, none⟩ = some x0 ∧ w.cell? ⟨b, o + i * 4 + 1, none⟩ = some x1 ∧ w.cell? ⟨b, o + i * 4 + 2, none⟩ = some x2 ∧ w.cell? ⟨b, o + i * 4 + 3, none⟩ = some x3 ∧ ArgIs w t [x0, x1, x2, x3]) ∧ ArgsIs w ts ao (i + 1)
end

theorem arg_form {w : World} {t : Data} {cs : List Value} (h : ArgIs w t cs) : ∃ op n s ao cap, t = nd op n s (kidsOf t) ∧ cs = [.int .i64 op, .int .i64 n, .string ⟨s.toArray⟩, .slice ao (kidsOf t).length cap] ∧ s.length ≤ maxLen ∧ (kidsOf t).length ≤ maxLen ∧ ArgsIs w (kidsOf t) ao 0 := by
  cases t <;> simp only [ArgIs] at h
  obtain ⟨op, n, s, ao, cap, rfl, hc, h1, h2, h3⟩ := h
  exact ⟨op, n, s, ao, cap, rfl, hc, h1, h2, h3⟩

theorem args_at {w : World} : ∀ {ts : List Data} {ao : Option Addr} {i j : Nat} {t : Data}, ArgsIs w ts ao i → ts[j]? = some t → ∃ (b o : Nat) (x0 x1 x2 x3 : Value), ao = some ⟨b, o, none⟩ ∧ b < w.heap.size ∧ w.cell? ⟨b, o + (i + j) * 4, none⟩ = some x0 ∧ w.cell? ⟨b, o + (i + j) * 4 + 1, none⟩ = some x1 ∧ w.cell? ⟨b, o + (i + j) * 4 + 2, none⟩ = some x2 ∧ w.cell? ⟨b, o + (i + j) * 4 + 3, none⟩ = some x3 ∧ ArgIs w t [x0, x1, x2, x3]
  | [], ao, i, j, t, h, hj => by simp at hj
  | t' :: ts, ao, i, 0, t, h, hj => by
    simp only [ArgsIs] at h
    simp at hj
    subst hj
    exact h.1
  | t' :: ts, ao, i, j + 1, t, h, hj => by
    simp only [ArgsIs] at h
    have := args_at h.2 (by simpa using hj : ts[j]? = some t)
    rw [show i + 1 + j = i + (j + 1) by omega] at this
    exact this

theorem args_frame_of {w w' : World} (hb : Below w.heap.size w w') : ∀ (ts : List Data) (ao : Option Addr) (i : Nat), (∀ t ∈ ts, ∀ cs, ArgIs w t cs → ArgIs w' t cs) → ArgsIs w ts ao i → ArgsIs w' ts ao i
  | [], ao, i, _, _ => by simp only [ArgsIs]
  | t :: ts, ao, i, hT, h => by
    simp only [ArgsIs] at h ⊢
    obtain ⟨⟨b, o, x0, x1, x2, x3, e, hl, c0, c1, c2, c3, ht⟩, h2⟩ := h
    have hc : ∀ k, w'.cell? ⟨b, k, none⟩ = w.cell? ⟨b, k, none⟩ := fun k => hb.cell (p := ⟨b, k, none⟩) hl
    exact ⟨⟨b, o, x0, x1, x2, x3, e, Nat.lt_of_lt_of_le hl hb.size, (hc _).trans c0, (hc _).trans c1, (hc _).trans c2, (hc _).trans c3, hT t (by simp) _ ht⟩, args_frame_of hb ts ao (i + 1) (fun t ht => hT t (by simp [ht])) h2⟩

theorem arg_frame {w w' : World} (hb : Below w.heap.size w w') (t : Data) : ∀ (cs : List Value), ArgIs w t cs → ArgIs w' t cs := by
  induction t using tree_ind with
  | h ks lab ih =>
    intro cs h
    rw [ArgIs] at h ⊢
    obtain ⟨op, n, s, ao, cap, hl, hc, h1, h2, h3⟩ := h
    exact ⟨op, n, s, ao, cap, hl, hc, h1, h2, args_frame_of hb ks ao 0 ih h3⟩
  | h1 t ht =>
    intro cs h
    obtain ⟨op, n, s, ao, cap, e, _⟩ := arg_form h
    exact absurd e (ht _ _)

theorem args_frame {w w' : World} (hb : Below w.heap.size w w') {ts : List Data} {ao : Option Addr} {i : Nat} (h : ArgsIs w ts ao i) : ArgsIs w' ts ao i :=
  args_frame_of hb ts ao i (fun t _ => arg_frame hb t) h

/-- szNode at any node: what is left, or -1; what is left away is at least how many nodes there are within. -/
def SzOk (t : Data) : Prop := ∀ (w : World) (a b c u : Value) (left : Int), ArgIs w t [a, b, c, u] → 0 ≤ left → left ≤ 1048576 →
  Calls Tryz.prog 33 #[.agg #[a, b, c, u], .int .i64 left] w fun e w' => ∃ z, e = .returned (.int .i64 z) ∧ -1 ≤ z ∧ z ≤ left ∧ (0 ≤ z → (cnts (kidsOf t) : Int) ≤ left - z) ∧ Below w.heap.size w w'

set_option maxRecDepth 100000 in
theorem lSzNodeS {ks : List Data} (hk : ∀ t ∈ ks, SzOk t) (hn : ks.length ≤ maxLen) (w : World) (ao : Option Addr) (cap : Nat) (left : Int) (hA : ArgsIs w ks ao 0) (l0 : 0 ≤ left) (l1 : left ≤ 1048576) :
    Calls Tryz.prog 66 #[.slice ao ks.length cap, .int .i64 left] w fun e w' => ∃ z, e = .returned (.int .i64 z) ∧ -1 ≤ z ∧ z ≤ left ∧ (0 ≤ z → (cnts ks : Int) ≤ left - z) ∧ Below w.heap.size w w' := by
  unfold maxLen at hn
  have bn : (ks.length : Int) ≤ 9223372036854775807 := by omega
  by_cases hl : left - ks.length < 0
  · go_enter Tryz.func66, Tryz.ntmps66
    go_wp2_with fail
    go_ret
    exact ⟨-1, rfl, by omega, by omega, by omega, Below.refl _ _⟩
  · have bn2 : (ks.length : Int) ≤ 1048576 := by omega
    go_enter Tryz.func66, Tryz.ntmps66
    go_wp2_with fail
    go_loopw [1, 5] (fun l i wr => ∃ (z : Int) (k : Nat), l = .int .i64 z ∧ 0 ≤ z ∧ z ≤ left ∧ i = .int .i64 k ∧ k ≤ ks.length ∧ (cnts (ks.take k) : Int) + (ks.length - k) ≤ left - z ∧ Below w.heap.size w wr) (fun _ i _ => ks.length - (intOf i).toNat)
    case atStart => exact ⟨left - ks.length, 0, rfl, by omega, by omega, rfl, Nat.zero_le _, by simp [cnts]; omega, Below.refl _ _⟩
    case round =>
      obtain ⟨z, k, rfl, z0, z1, rfl, hkl0, hcz, hb⟩ := hrel
      by_cases hkl : k < ks.length
      · have hki : ks[k]? = some ks[k] := List.getElem?_eq_getElem hkl
        obtain ⟨b, o, x0, x1, x2, x3, rfl, hbl, c0, c1, c2, c3, ht⟩ := args_at (args_frame hb hA) hki
        simp only [Nat.zero_add] at c0 c1 c2 c3
        have call := hk ks[k] (List.getElem_mem hkl) wr x0 x1 x2 x3 z ht z0 (by omega)
        obtain ⟨op, n, s, ao', cap', -, hcs, -⟩ := arg_form ht
        simp only [List.cons.injEq, and_true] at hcs
        obtain ⟨rfl, rfl, rfl, rfl⟩ := hcs
        have HT : Hid (cnts (ks.take (k + 1)) = cnts (ks.take k) + cnt ks[k]) := cnts_take ks k ks[k] hki
        have HK : Hid (cnt ks[k] = cnts (kidsOf ks[k]) + 1) := cnt_kids ks[k]
        clear hki hk ht
        generalize cnt ks[k] = C at *
        generalize cnts (kidsOf ks[k]) = C1 at *
        generalize hM : cnts (ks.take k) = M at *
        generalize hM2 : cnts (ks.take (k + 1)) = M2 at *
        generalize (kidsOf ks[k]).length = L at *
        clear hM
        have hbI : (k : Int) < ks.length := by omega
        go_wp2_with (go_at_call 33; refine call.mono ?_; rintro e w2 ⟨z2, rfl, a0, a1, a2, hb2⟩)
        · go_ret
          exact ⟨-1, rfl, by omega, by omega, by omega, hb.trans (hb2.mono hb.size)⟩
        · go_roundw
          case rel =>
            have h1 := HT.out
            have h2 := HK.out
            exact ⟨z2, k + 1, rfl, by omega, by omega, by go_num, hkl, by rw [hM2]; omega, hb.trans (hb2.mono hb.size)⟩
          case measure => simp [intOf]; omega
      · obtain rfl : k = ks.length := by omega
        rw [List.take_length] at hcz
        go_wp2_with fail
        go_ret
        exact ⟨z, rfl, by omega, by omega, by omega, hb⟩

set_option maxRecDepth 100000 in
theorem lSzNode (t : Data) : SzOk t := by
  induction t using tree_ind with
  | h1 t ht =>
    intro w a b c u left h
    obtain ⟨op, n, s, ao, cap, e, _⟩ := arg_form h
    exact absurd e (ht _ _)
  | h ks lab ih =>
    intro w a b c u left h l0 l1
    obtain ⟨op, n, s, ao, cap, _, he, hs, hks, hA⟩ := arg_form h
    simp only [List.cons.injEq, and_true] at he
    obtain ⟨rfl, rfl, rfl, rfl⟩ := he
    have hkk : kidsOf (.slice ks lab) = ks := rfl
    rw [hkk] at hks hA ⊢
    unfold maxLen at hs
    have hsz : (s.length : Int) ≤ 9223372036854775807 := by omega
    have hb0 : ∀ o, Below w.heap.size w (w.alloc o) := fun o => (Below.refl _ w).alloc (Nat.le_refl _) o
    by_cases hl : left - (s.length : Int) < 0
    · go_enter Tryz.func33, Tryz.ntmps33
      go_wp2_with fail
      go_ret
      exact ⟨-1, rfl, by omega, by omega, by omega, hb0 _⟩
    · have call := lSzNodeS ih hks (w.alloc (.cells #[.int .i64 op, .int .i64 n, .string ⟨s.toArray⟩, .slice ao ks.length cap] 33)) ao cap (left - (s.length : Int)) (args_frame (hb0 _) hA) (by omega) (by omega)
      clear ih hA
      go_enter Tryz.func33, Tryz.ntmps33
      go_wp2_with (go_at_call 66; refine call.mono ?_; rintro e w2 ⟨z2, rfl, a0, a1, a2, hb2⟩)
      all_goals go_ret
      · exact ⟨-1, rfl, by omega, by omega, by omega, (hb0 _).trans (hb2.mono (hb0 _).size)⟩
      · exact ⟨z2, rfl, by omega, by omega, by omega, (hb0 _).trans (hb2.mono (hb0 _).size)⟩

end Nd
end Go.Proofs.YtjdohfdkkppnpaaGreatDoor

namespace Go.Proofs.YtjdohfdkkppnpaaGreatDoor
open Go.RowKit
namespace Ty
open Nd

mutual
def siz : Data → Nat
  | .slice ks lab => (txtOf (.slice ks lab)).length + sizs ks
  | _ => 0
def sizs : List Data → Nat
  | [] => 0
  | t :: ts => siz t + 1 + sizs ts
end
theorem siz_nd (op n : Int) (s : List UInt8) (ks : List Data) : siz (nd op n s ks) = s.length + sizs ks := by
  unfold nd; rw [siz]; rfl
theorem sizs_mem {t : Data} : ∀ {ts : List Data}, t ∈ ts → siz t + 1 ≤ sizs ts
  | a :: ts, h => by
    simp only [sizs]
    rcases List.mem_cons.1 h with rfl | h
    · omega
    · have := sizs_mem h; omega
theorem sizs_append : ∀ (xs ys : List Data), sizs (xs ++ ys) = sizs xs + sizs ys
  | [], ys => by simp [sizs]
  | a :: xs, ys => by simp only [List.cons_append, sizs, sizs_append xs ys]; omega
theorem sizs_take (ks : List Data) (k : Nat) (t : Data) (h : ks[k]? = some t) : sizs (ks.take (k + 1)) = sizs (ks.take k) + (siz t + 1) := by
  rw [List.take_add_one, h, sizs_append]
  simp [sizs]
theorem siz_kids (t : Data) : sizs (kidsOf t) ≤ siz t := by cases t <;> simp [siz, kidsOf, sizs]
theorem cnt_siz (t : Data) : cnt t ≤ siz t + 1 := by
  induction t using tree_ind with
  | h ks lab ih =>
    have : ∀ ts : List Data, (∀ t ∈ ts, cnt t ≤ siz t + 1) → cnts ts ≤ sizs ts := by
      intro ts
      induction ts with
      | nil => intro _; simp [cnts, sizs]
      | cons a ts ih2 =>
        intro h
        have h1 := h a (by simp)
        have h2 := ih2 fun t ht => h t (by simp [ht])
        simp only [cnts, sizs]
        omega
    have := this ks ih
    simp only [cnt, siz]
    omega
  | h1 t ht =>
    cases t <;> simp [cnt]
    exact absurd rfl (ht _ _)
theorem cnts_siz (t : Data) : cnts (kidsOf t) ≤ siz t := by have := cnt_siz t; have := cnt_kids t; omega
theorem len_siz (t : Data) : (kidsOf t).length ≤ siz t := by have := cnts_siz t; have := cnts_len (kidsOf t); omega

/-- The sentinel of chapter 1. -/
def Sen (w : World) : Prop := ∃ a : Addr, w.cell? ⟨3, 0, none⟩ = some (.iface 226 (.pointer (some a)))
theorem Sen.later {w w' : World} (h : Sen w) (hb : Below w.heap.size w w') : Sen w' := by
  obtain ⟨a, hc⟩ := h
  exact ⟨a, (hb.cell (World.block_lt_of_cell? _ _ hc)).trans hc⟩
theorem Sen.alloc {w : World} (h : Sen w) (o : Obj) : Sen (w.alloc o) := h.later ((Below.refl _ w).alloc (Nat.le_refl _) _)

/-- A function that tells a flag of a node. -/
def Tells (f : Nat) (p : Data → Bool) (t : Data) : Prop := ∀ (w : World) (a b c u : Value), Sen w → ArgIs w t [a, b, c, u] →
  Calls Tryz.prog f #[.agg #[a, b, c, u]] w fun e w' => e = .returned (.bool (p t)) ∧ Below w.heap.size w w'

theorem arg_open {w : World} {t : Data} {a b c u : Value} (h : ArgIs w t [a, b, c, u]) : ∃ ao cap, a = .int .i64 (opOf t) ∧ b = .int .i64 (numOf t) ∧ c = .string ⟨(txtOf t).toArray⟩ ∧ u = .slice ao (kidsOf t).length cap ∧ ArgsIs w (kidsOf t) ao 0 ∧ t = nd (opOf t) (numOf t) (txtOf t) (kidsOf t) := by
  obtain ⟨op, n, s, ao, cap, hnd, hc, -, -, hA⟩ := arg_form h
  rw [hnd]
  simp only [List.cons.injEq, and_true] at hc
  obtain ⟨rfl, rfl, rfl, rfl⟩ := hc
  exact ⟨ao, cap, rfl, rfl, rfl, rfl, hA, rfl⟩

theorem args_of_cells {w : World} {g : Nat} (hg : g < w.heap.size) : ∀ {ts : List Data} {S : Nat → Prop} {xs : List Value} {i : Nat}, (∀ t ∈ ts, ∀ (S : Nat → Prop) (cs : List Value), NodeIs w t S cs → ArgIs w t cs) → NodesIs w ts S xs → (∀ j x, xs[j]? = some x → w.cell? ⟨g, i * 4 + j, none⟩ = some x) → ArgsIs w ts (some ⟨g, 0, none⟩) i
  | [], S, xs, i, _, _, _ => trivial
  | t :: ts, S, xs, i, hT, h, hc => by
    simp only [NodesIs] at h
    obtain ⟨S1, S2, c1, c2, rfl, h1, h2, -, -⟩ := h
    have hl := node_len h1
    have ht := hT t (by simp) S1 c1 h1
    match c1, hl with
    | [a, b, c, u], _ =>
      have p0 := hc 0 a rfl
      have p1 := hc 1 b rfl
      have p2 := hc 2 c rfl
      have p3 := hc 3 u rfl
      refine ⟨⟨g, 0, a, b, c, u, rfl, hg, ?_, ?_, ?_, ?_, ht⟩, args_of_cells hg (fun t ht => hT t (by simp [ht])) h2 fun j x hx => ?_⟩
      · simpa using p0
      · simpa using p1
      · simpa using p2
      · simpa using p3
      · have := hc (j + 4) x (by simpa using hx)
        rw [show (i + 1) * 4 + j = i * 4 + (j + 4) by omega]
        exact this

theorem arg_of_node {w : World} (t : Data) : siz t ≤ 1048576 → ∀ (S : Nat → Prop) (cs : List Value), NodeIs w t S cs → ArgIs w t cs := by
  induction t using tree_ind with
  | h1 t ht =>
    intro _ S cs h
    obtain ⟨op, n, s, ks, rfl⟩ := node_node h
    exact absurd rfl (ht _ _)
  | h ks lab ih =>
    intro hs S cs h
    have hlen := len_siz (.slice ks lab)
    have hkk : kidsOf (.slice ks lab) = ks := rfl
    rw [hkk] at hlen
    rw [NodeIs] at h
    obtain ⟨op, n, s, v, xs, hl, hc, ho, hg, hk⟩ := h
    subst hl
    rw [ArgIs]
    obtain ⟨ao, cap, rfl⟩ := owns_slice ho
    have hs' : s.length + sizs ks ≤ 1048576 := by rw [← siz_nd op n s ks]; exact hs
    refine ⟨op, n, s, ao, cap, rfl, hc, by unfold maxLen; omega, by unfold maxLen; omega, ?_⟩
    by_cases h0 : 0 < ks.length
    · obtain ⟨g, rfl, hgl, hcell⟩ := row_cells ho h0
      refine args_of_cells hgl (fun t ht => ih t ht (by have := sizs_mem ht; omega)) hk fun j x hx => ?_
      rw [Nat.zero_mul, Nat.zero_add]
      exact hcell j x hx
    · have : ks = [] := List.length_eq_zero_iff.1 (by omega)
      subst this
      trivial

end Ty
end Go.Proofs.YtjdohfdkkppnpaaGreatDoor

