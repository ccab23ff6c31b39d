/-
  The specification's Deep.
-/
import Derived.Test.YtjdohfdkkppnpaaGreatDoorQ07
namespace Go.Proofs.YtjdohfdkkppnpaaGreatDoor
open Go.RowKit
namespace Nd

theorem sMax (a b : Nat) (w : World) : Calls Tryz.prog 72 #[.int .i64 a, .int .i64 b] w fun e w' => e = .returned (.int .i64 (max a b : Nat)) ∧ w' = w := by
  by_cases h : b < a
  · have h' : (b : Int) < a := by omega
    have HM : Hid (max a b = a) := by show _ = _; omega
    go_enter Tryz.func72, Tryz.ntmps72
    go_wp2_with fail
    go_ret
    exact ⟨by rw [HM.out]; rfl, rfl⟩
  · have h' : (a : Int) ≤ b := by omega
    have HM : Hid (max a b = b) := by show _ = _; omega
    clear h
    go_enter Tryz.func72, Tryz.ntmps72
    go_wp2_with fail
    go_ret
    exact ⟨by rw [HM.out]; rfl, rfl⟩

def DeepOk (t : Data) : Prop := ∀ (w : World) (S : Nat → Prop) (a b c u : Value), NodeIs w t S [a, b, c, u] → (∀ k, S k → k < w.heap.size) →
  Calls Tryz.prog 37 #[.agg #[a, b, c, u]] w fun e w' => e = .returned (.int .i64 (dep t)) ∧ Below w.heap.size w w'

theorem sDeep (t : Data) : cnts (kidsOf t) ≤ 1048576 → DeepOk t := by
  induction t using tree_ind with
  | h1 t ht =>
    intro _ w S a b c u h
    obtain ⟨op, n, s, ks, rfl⟩ := node_node h
    exact absurd rfl (ht _ _)
  | h ks lab ih =>
    intro hc w S a b c u h hS
    obtain ⟨op, n, s, ks', e⟩ := node_node h
    have e2 := congrArg kidsOf e
    simp only [kidsOf, nd] at e2
    subst e2
    rw [e] at h
    have hdep : dep (.slice ks lab) = deps ks + 1 := by simp [dep]
    rw [hdep]
    replace hc : cnts ks ≤ 1048576 := hc
    rw [node_nd] at h
    obtain ⟨v, xs, he, ho, hg, hx⟩ := h
    simp at he
    obtain ⟨rfl, rfl, rfl, rfl⟩ := he
    have hlen := cnts_len ks
    have hnI : (ks.length : Int) ≤ 1048576 := by omega
    have hdc : deps ks ≤ 1048576 := by have := dep_cnt (nd op n s ks); rw [dep_nd, cnt_nd] at this; omega
    have HD : Hid (deps (ks.take ks.length) = deps ks) := by show _ = _; rw [List.take_length]
    have HI : Hid (∀ i, (deps (ks.take i) : Int) ≤ 1048576) := fun i => by have := deps_le ks i; omega
    have HJ : Hid (∀ t ∈ ks, (dep t : Int) ≤ 1048576) := fun t ht => by have := deps_mem ht; omega
    have hkids : ∀ t ∈ ks, DeepOk t := fun t ht => ih t ht (by have := cnts_mem ht; have := cnt_kids t; omega)
    obtain ⟨ao, cap, rfl⟩ := owns_slice ho
    obtain ⟨o1, ho1⟩ : ∃ o1, o1 = Obj.cells #[.int .i64 op, .int .i64 n, .string ⟨s.toArray⟩, .slice ao ks.length cap] 39 := ⟨_, rfl⟩
    have hb0 : Below w.heap.size w (w.alloc o1) := (Below.refl _ w).alloc (Nat.le_refl _) _
    have hv0 : Var (w.alloc o1) w.heap.size (.int .i64 op) (.int .i64 n) (.string ⟨s.toArray⟩) (.slice ao ks.length cap) := by rw [ho1]; exact heap_new _ _
    subst ho1
    clear ih hlen hc hdc e hdep
    go_enter Tryz.func37, Tryz.ntmps37
    go_wp2_with fail
    go_loopw [3, 4] (fun mo i wr => ∃ k : Nat, k ≤ ks.length ∧ i = .int .i64 k ∧ mo = .int .i64 (deps (ks.take k)) ∧ Below w.heap.size w wr ∧ Var wr w.heap.size (.int .i64 op) (.int .i64 n) (.string ⟨s.toArray⟩) (.slice ao ks.length cap)) (fun _ i _ => ks.length - (intOf i).toNat)
    case atStart => exact ⟨0, Nat.zero_le _, rfl, rfl, hb0, hv0⟩
    case round =>
      obtain ⟨k, hkn, rfl, rfl, hb, hV⟩ := hrel
      have v3 := hV.cell.2.2.2
      by_cases hkl : k < ks.length
      · have hki : ks[k]? = some ks[k] := List.getElem?_eq_getElem hkl
        obtain ⟨T1, a, b, c, u, x0, x1, x2, x3, hr1, hs1⟩ := nodes_at hx hki
        obtain ⟨g, rfl, hg', hc'⟩ := row_cells ho hkl
        have cl : ∀ j x, xs[j]? = some x → wr.cell? ⟨g, j, none⟩ = some x := fun j x hx => (hb.cell (p := ⟨g, j, none⟩) hg').trans (hc' j x hx)
        have p0 := cl _ _ x0
        have p1 := cl _ _ x1
        have p2 := cl _ _ x2
        have p3 := cl _ _ x3
        have call := hkids ks[k] (List.getElem_mem hkl) wr T1 a b c u (node_frame _ _ _ (fun j hj => hb.block j (hS j (hs1 j hj).1)) hr1) (fun j hj => Nat.lt_of_lt_of_le (hS j (hs1 j hj).1) hb.size)
        have HT2 : Hid (deps (ks.take (k + 1)) = max (deps (ks.take k)) (dep ks[k])) := deps_take ks k ks[k] hki
        have hd1 : (dep ks[k] : Int) ≤ 1048576 := HJ.out _ (List.getElem_mem hkl)
        have hi2 : (deps (ks.take k) : Int) ≤ 1048576 := HI.out k
        have hlt := hV.lt
        have bk : (k : Int) < ks.length := by omega
        clear x0 x1 x2 x3 hc' cl hr1 hs1 hx ho hki hkids HI HD HJ
        generalize dep ks[k] = D at *
        generalize deps (ks.take k) = M at *
        go_wp2_with (first | (go_at_call 37; refine call.mono ?_; rintro e w2 ⟨rfl, hb2⟩) | (go_at_call 72; refine (sMax M D _).mono ?_; rintro e w3 ⟨rfl, hw⟩; have hw := hw.symm; subst hw))
        go_roundw
        case rel => exact ⟨k + 1, by omega, by go_num, by rw [HT2.out], hb.trans (hb2.mono hb.size), hV.kept (hb2.block _ hlt)⟩
        case measure => simp [intOf]; omega
      · obtain rfl : k = ks.length := by omega
        have hi3 : (deps (ks.take ks.length) : Int) ≤ 1048576 := HI.out _
        clear HI HJ hx ho hkids
        generalize deps (ks.take ks.length) = M at *
        go_wp2_with fail
        go_ret
        exact ⟨by rw [← HD.out]; rfl, hb⟩

end Nd
end Go.Proofs.YtjdohfdkkppnpaaGreatDoor

