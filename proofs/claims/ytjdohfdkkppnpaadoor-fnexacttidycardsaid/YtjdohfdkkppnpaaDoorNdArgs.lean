/-
  Nodes of an argument, and how big they are: szNode, szNodeS.
-/
import Derived.Test.YtjdohfdkkppnpaaDoorNdTree
namespace Go.Proofs.YtjdohfdkkppnpaaDoor
open Go.RowKit
namespace Nd

mutual
/-- The four cells of a node of an argument (its memory may be shared). -/
def ArgIs (w : World) : Data → List Value → Prop
  | .slice ks lab, cs => ∃ (op n : Int) (s : List UInt8) (ao : Option Addr) (cap : Nat), lab = [.lit (.int .i64 op), .lit (.int .i64 n), .lit (.string s)] ∧
      cs = [.int .i64 op, .int .i64 n, .string ⟨s.toArray⟩, .slice ao ks.length cap] ∧ s.length ≤ maxLen ∧ ks.length ≤ maxLen ∧ ArgsIs w ks ao 0
  | _, _ => False
/-- The nodes of a list of an argument, from number i on. -/
def ArgsIs (w : World) : List Data → Option Addr → Nat → Prop
  | [], _, _ => True
  | t :: ts, ao, i => (∃ (b o : Nat) (x0 x1 x2 x3 : Value), ao = some ⟨b, o, none⟩ ∧ b < w.heap.size ∧ w.cell? ⟨b, o + i * 4, none⟩ = some x0 ∧ w.cell? ⟨b, o + i * 4 + 1, none⟩ = some x1 ∧ w.cell? ⟨b, o + i * 4 + 2, none⟩ = some x2 ∧ w.cell? ⟨b, o + i * 4 + 3, none⟩ = some x3 ∧ ArgIs w t [x0, x1, x2, x3]) ∧ ArgsIs w ts ao (i + 1)
end

theorem arg_form {w : World} {t : Data} {cs : List Value} (h : ArgIs w t cs) : ∃ op n s ao cap, t = nd op n s (kidsOf t) ∧ cs = [.int .i64 op, .int .i64 n, .string ⟨s.toArray⟩, .slice ao (kidsOf t).length cap] ∧ s.length ≤ maxLen ∧ (kidsOf t).length ≤ maxLen ∧ ArgsIs w (kidsOf t) ao 0 := by
  cases t <;> simp only [ArgIs] at h
  obtain ⟨op, n, s, ao, cap, rfl, hc, h1, h2, h3⟩ := h
  exact ⟨op, n, s, ao, cap, rfl, hc, h1, h2, h3⟩

theorem args_at {w : World} : ∀ {ts : List Data} {ao : Option Addr} {i j : Nat} {t : Data}, ArgsIs w ts ao i → ts[j]? = some t → ∃ (b o : Nat) (x0 x1 x2 x3 : Value), ao = some ⟨b, o, none⟩ ∧ b < w.heap.size ∧ w.cell? ⟨b, o + (i + j) * 4, none⟩ = some x0 ∧ w.cell? ⟨b, o + (i + j) * 4 + 1, none⟩ = some x1 ∧ w.cell? ⟨b, o + (i + j) * 4 + 2, none⟩ = some x2 ∧ w.cell? ⟨b, o + (i + j) * 4 + 3, none⟩ = some x3 ∧ ArgIs w t [x0, x1, x2, x3]
  | [], ao, i, j, t, h, hj => by simp at hj
  | t' :: ts, ao, i, 0, t, h, hj => by
    simp only [ArgsIs] at h
    simp at hj
    subst hj
    exact h.1
  | t' :: ts, ao, i, j + 1, t, h, hj => by
    simp only [ArgsIs] at h
    have := args_at h.2 (by simpa using hj : ts[j]? = some t)
    rw [show i + 1 + j = i + (j + 1) by omega] at this
    exact this

theorem args_frame_of {w w' : World} (hb : Below w.heap.size w w') : ∀ (ts : List Data) (ao : Option Addr) (i : Nat), (∀ t ∈ ts, ∀ cs, ArgIs w t cs → ArgIs w' t cs) → ArgsIs w ts ao i → ArgsIs w' ts ao i
  | [], ao, i, _, _ => by simp only [ArgsIs]
  | t :: ts, ao, i, hT, h => by
    simp only [ArgsIs] at h ⊢
    obtain ⟨⟨b, o, x0, x1, x2, x3, e, hl, c0, c1, c2, c3, ht⟩, h2⟩ := h
    have hc : ∀ k, w'.cell? ⟨b, k, none⟩ = w.cell? ⟨b, k, none⟩ := fun k => hb.cell (p := ⟨b, k, none⟩) hl
    exact ⟨⟨b, o, x0, x1, x2, x3, e, Nat.lt_of_lt_of_le hl hb.size, (hc _).trans c0, (hc _).trans c1, (hc _).trans c2, (hc _).trans c3, hT t (by simp) _ ht⟩, args_frame_of hb ts ao (i + 1) (fun t ht => hT t (by simp [ht])) h2⟩

theorem arg_frame {w w' : World} (hb : Below w.heap.size w w') (t : Data) : ∀ (cs : List Value), ArgIs w t cs → ArgIs w' t cs := by
  induction t using tree_ind with
  | h ks lab ih =>
    intro cs h
    rw [ArgIs] at h ⊢
    obtain ⟨op, n, s, ao, cap, hl, hc, h1, h2, h3⟩ := h
    exact ⟨op, n, s, ao, cap, hl, hc, h1, h2, args_frame_of hb ks ao 0 ih h3⟩
  | h1 t ht =>
    intro cs h
    obtain ⟨op, n, s, ao, cap, e, _⟩ := arg_form h
    exact absurd e (ht _ _)

theorem args_frame {w w' : World} (hb : Below w.heap.size w w') {ts : List Data} {ao : Option Addr} {i : Nat} (h : ArgsIs w ts ao i) : ArgsIs w' ts ao i :=
  args_frame_of hb ts ao i (fun t _ => arg_frame hb t) h

/-- szNode at any node: what is left, or -1; what is left away is at least how many nodes there are within. -/
def SzOk (t : Data) : Prop := ∀ (w : World) (a b c u : Value) (left : Int), ArgIs w t [a, b, c, u] → 0 ≤ left → left ≤ 1048576 →
  Calls Tryd.prog 17 #[.agg #[a, b, c, u], .int .i64 left] w fun e w' => ∃ z, e = .returned (.int .i64 z) ∧ -1 ≤ z ∧ z ≤ left ∧ (0 ≤ z → (cnts (kidsOf t) : Int) ≤ left - z) ∧ Below w.heap.size w w'

set_option maxRecDepth 100000 in
theorem lSzNodeS {ks : List Data} (hk : ∀ t ∈ ks, SzOk t) (hn : ks.length ≤ maxLen) (w : World) (ao : Option Addr) (cap : Nat) (left : Int) (hA : ArgsIs w ks ao 0) (l0 : 0 ≤ left) (l1 : left ≤ 1048576) :
    Calls Tryd.prog 31 #[.slice ao ks.length cap, .int .i64 left] w fun e w' => ∃ z, e = .returned (.int .i64 z) ∧ -1 ≤ z ∧ z ≤ left ∧ (0 ≤ z → (cnts ks : Int) ≤ left - z) ∧ Below w.heap.size w w' := by
  unfold maxLen at hn
  have bn : (ks.length : Int) ≤ 9223372036854775807 := by omega
  by_cases hl : left - ks.length < 0
  · go_enter Tryd.func31, Tryd.ntmps31
    go_wp2_with fail
    go_ret
    exact ⟨-1, rfl, by omega, by omega, by omega, Below.refl _ _⟩
  · have bn2 : (ks.length : Int) ≤ 1048576 := by omega
    go_enter Tryd.func31, Tryd.ntmps31
    go_wp2_with fail
    go_loopw [1, 5] (fun l i wr => ∃ (z : Int) (k : Nat), l = .int .i64 z ∧ 0 ≤ z ∧ z ≤ left ∧ i = .int .i64 k ∧ k ≤ ks.length ∧ (cnts (ks.take k) : Int) + (ks.length - k) ≤ left - z ∧ Below w.heap.size w wr) (fun _ i _ => ks.length - (intOf i).toNat)
    case atStart => exact ⟨left - ks.length, 0, rfl, by omega, by omega, rfl, Nat.zero_le _, by simp [cnts]; omega, Below.refl _ _⟩
    case round =>
      obtain ⟨z, k, rfl, z0, z1, rfl, hkl0, hcz, hb⟩ := hrel
      by_cases hkl : k < ks.length
      · have hki : ks[k]? = some ks[k] := List.getElem?_eq_getElem hkl
        obtain ⟨b, o, x0, x1, x2, x3, rfl, hbl, c0, c1, c2, c3, ht⟩ := args_at (args_frame hb hA) hki
        simp only [Nat.zero_add] at c0 c1 c2 c3
        have call := hk ks[k] (List.getElem_mem hkl) wr x0 x1 x2 x3 z ht z0 (by omega)
        obtain ⟨op, n, s, ao', cap', -, hcs, -⟩ := arg_form ht
        simp only [List.cons.injEq, and_true] at hcs
        obtain ⟨rfl, rfl, rfl, rfl⟩ := hcs
        have HT : Hid (cnts (ks.take (k + 1)) = cnts (ks.take k) + cnt ks[k]) := cnts_take ks k ks[k] hki
        have HK : Hid (cnt ks[k] = cnts (kidsOf ks[k]) + 1) := cnt_kids ks[k]
        clear hki hk ht
        generalize cnt ks[k] = C at *
        generalize cnts (kidsOf ks[k]) = C1 at *
        generalize hM : cnts (ks.take k) = M at *
        generalize hM2 : cnts (ks.take (k + 1)) = M2 at *
        generalize (kidsOf ks[k]).length = L at *
        clear hM
        have hbI : (k : Int) < ks.length := by omega
        go_wp2_with (go_at_call 17; refine call.mono ?_; rintro e w2 ⟨z2, rfl, a0, a1, a2, hb2⟩)
        · go_ret
          exact ⟨-1, rfl, by omega, by omega, by omega, hb.trans (hb2.mono hb.size)⟩
        · go_roundw
          case rel =>
            have h1 := HT.out
            have h2 := HK.out
            exact ⟨z2, k + 1, rfl, by omega, by omega, by go_num, hkl, by rw [hM2]; omega, hb.trans (hb2.mono hb.size)⟩
          case measure => simp [intOf]; omega
      · obtain rfl : k = ks.length := by omega
        rw [List.take_length] at hcz
        go_wp2_with fail
        go_ret
        exact ⟨z, rfl, by omega, by omega, by omega, hb⟩

set_option maxRecDepth 100000 in
theorem lSzNode (t : Data) : SzOk t := by
  induction t using tree_ind with
  | h1 t ht =>
    intro w a b c u left h
    obtain ⟨op, n, s, ao, cap, e, _⟩ := arg_form h
    exact absurd e (ht _ _)
  | h ks lab ih =>
    intro w a b c u left h l0 l1
    obtain ⟨op, n, s, ao, cap, _, he, hs, hks, hA⟩ := arg_form h
    simp only [List.cons.injEq, and_true] at he
    obtain ⟨rfl, rfl, rfl, rfl⟩ := he
    have hkk : kidsOf (.slice ks lab) = ks := rfl
    rw [hkk] at hks hA ⊢
    unfold maxLen at hs
    have hsz : (s.length : Int) ≤ 9223372036854775807 := by omega
    have hb0 : ∀ o, Below w.heap.size w (w.alloc o) := fun o => (Below.refl _ w).alloc (Nat.le_refl _) o
    by_cases hl : left - (s.length : Int) < 0
    · go_enter Tryd.func17, Tryd.ntmps17
      go_wp2_with fail
      go_ret
      exact ⟨-1, rfl, by omega, by omega, by omega, hb0 _⟩
    · have call := lSzNodeS ih hks (w.alloc (.cells #[.int .i64 op, .int .i64 n, .string ⟨s.toArray⟩, .slice ao ks.length cap] 32)) ao cap (left - (s.length : Int)) (args_frame (hb0 _) hA) (by omega) (by omega)
      clear ih hA
      go_enter Tryd.func17, Tryd.ntmps17
      go_wp2_with (go_at_call 31; refine call.mono ?_; rintro e w2 ⟨z2, rfl, a0, a1, a2, hb2⟩)
      all_goals go_ret
      · exact ⟨-1, rfl, by omega, by omega, by omega, (hb0 _).trans (hb2.mono (hb0 _).size)⟩
      · exact ⟨z2, rfl, by omega, by omega, by omega, (hb0 _).trans (hb2.mono (hb0 _).size)⟩

end Nd
end Go.Proofs.YtjdohfdkkppnpaaDoor
