/-
  The specification's l3Deep.
-/
import Derived.Test.YtcaaanbajmlcjaaGreatDoorRexEq
namespace Go.Proofs.YtcaaanbajmlcjaaGreatDoor
open Go.RowKit
namespace Rx

theorem sMax (a b : Nat) (w : World) : Calls Tryz.prog 47 #[.int .i64 a, .int .i64 b] w fun e w' => e = .returned (.int .i64 (max a b : Nat)) ∧ w' = w := by
  by_cases h : b < a
  · have h' : (b : Int) < a := by omega
    have HM : Hid (max a b = a) := by show _ = _; omega
    go_enter Tryz.func47, Tryz.ntmps47
    go_wp2_with fail
    go_ret
    exact ⟨by rw [HM.out]; rfl, rfl⟩
  · have h' : (a : Int) ≤ b := by omega
    have HM : Hid (max a b = b) := by show _ = _; omega
    clear h
    go_enter Tryz.func47, Tryz.ntmps47
    go_wp2_with fail
    go_ret
    exact ⟨by rw [HM.out]; rfl, rfl⟩

def DeepOk (t : Data) : Prop := ∀ (w : World) (S : Nat → Prop) (a b c d u : Value), RexIs w t S [a, b, c, d, u] → (∀ k, S k → k < w.heap.size) →
  Calls Tryz.prog 35 #[.agg #[a, b, c, d, u]] w fun e w' => e = .returned (.int .i64 (dep t)) ∧ Below w.heap.size w w'

theorem sDeep : ∀ (n : Nat) (t : Data), dep t ≤ n → cnt t ≤ 100000 → DeepOk t := by
  intro n
  induction n with
  | zero => intro t hd _ w S a b c d u h; obtain ⟨op, c, s, no, ks, rfl⟩ := rex_node h; rw [dep_nd] at hd; omega
  | succ n ih =>
    intro t hd hc w S a b c d u h hS
    obtain ⟨op, cc, s, no, ks, rfl⟩ := rex_node h
    rw [dep_nd] at hd ⊢
    rw [cnt_nd] at hc
    rw [rex_nd] at h
    obtain ⟨v, xs, he, ho, hg, hx⟩ := h
    simp at he
    obtain ⟨rfl, rfl, rfl, rfl, rfl⟩ := he
    have hlen := cnts_len ks
    have hnI : (ks.length : Int) ≤ 100000 := by omega
    have hdc : deps ks ≤ 100000 := by have := dep_cnt (nd op cc s no ks); rw [dep_nd, cnt_nd] at this; omega
    have HD : Hid (deps (ks.take ks.length) = deps ks) := by show _ = _; rw [List.take_length]
    have HI := fun i => deps_le ks i
    have hkids : ∀ t ∈ ks, DeepOk t := fun t ht => ih t (by have := deps_mem ht; omega) (by have := cnts_mem ht; omega)
    obtain ⟨ao, cap, rfl⟩ := owns_slice ho
    obtain ⟨o1, ho1⟩ : ∃ o1, o1 = Obj.cells #[.int .i64 op, .int .i64 cc, .string ⟨s.toArray⟩, .bool no, .slice ao ks.length cap] 52 := ⟨_, rfl⟩
    have hb0 : Below w.heap.size w (w.alloc o1) := (Below.refl _ w).alloc (Nat.le_refl _) _
    have hv0 : Var (w.alloc o1) w.heap.size (.int .i64 op) (.int .i64 cc) (.string ⟨s.toArray⟩) (.bool no) (.slice ao ks.length cap) := by rw [ho1]; exact heap_alloc_last _ _
    subst ho1
    clear ih
    go_enter Tryz.func35, Tryz.ntmps35
    go_wp2_with fail
    go_loopw [3, 4] (fun mo i wr => ∃ k : Nat, k ≤ ks.length ∧ i = .int .i64 k ∧ mo = .int .i64 (deps (ks.take k)) ∧ Below w.heap.size w wr ∧ Var wr w.heap.size (.int .i64 op) (.int .i64 cc) (.string ⟨s.toArray⟩) (.bool no) (.slice ao ks.length cap)) (fun _ i _ => ks.length - (intOf i).toNat)
    case atStart => exact ⟨0, Nat.zero_le _, rfl, rfl, hb0, hv0⟩
    case round =>
      obtain ⟨k, hkn, rfl, rfl, hb, hV⟩ := hrel
      have v4 := hV.cell.2.2.2.2
      by_cases hkl : k < ks.length
      · have hki : ks[k]? = some ks[k] := List.getElem?_eq_getElem hkl
        obtain ⟨T1, a, b, c, d, u, x0, x1, x2, x3, x4, hr1, hs1⟩ := rexs_at hx hki
        obtain ⟨g, rfl, hg', hc'⟩ := row_cells ho hkl
        have cl : ∀ j x, xs[j]? = some x → wr.cell? ⟨g, j, none⟩ = some x := fun j x hx => (hb.cell (p := ⟨g, j, none⟩) hg').trans (hc' j x hx)
        have p0 := cl _ _ x0
        have p1 := cl _ _ x1
        have p2 := cl _ _ x2
        have p3 := cl _ _ x3
        have p4 := cl _ _ x4
        have call := hkids ks[k] (List.getElem_mem hkl) wr T1 a b c d u (rex_frame _ _ _ (fun j hj => hb.block j (hS j (hs1 j hj).1)) hr1) (fun j hj => Nat.lt_of_lt_of_le (hS j (hs1 j hj).1) hb.size)
        have hm : ks[k] ∈ ks := List.getElem_mem hkl
        have d1 := deps_mem hm
        have HT2 : Hid (deps (ks.take (k + 1)) = max (deps (ks.take k)) (dep ks[k])) := deps_take ks k ks[k] hki
        have hi1 := HI k
        have hd1 : (dep ks[k] : Int) ≤ 100000 := by omega
        have hi2 : (deps (ks.take k) : Int) ≤ 100000 := by omega
        have hlt := hV.lt
        clear x0 x1 x2 x3 x4 hc' cl hr1 hs1 hx ho hki hkids hm d1 HI hi1 HD hdc hd hc
        generalize dep ks[k] = D at *
        generalize deps (ks.take k) = M at *
        go_wp2_with (first | (go_at_call 35; refine call.mono ?_; rintro e w2 ⟨rfl, hb2⟩) | (go_at_call 47; refine (sMax M D _).mono ?_; rintro e w3 ⟨rfl, hw⟩; have hw := hw.symm; subst hw))
        go_roundw
        case rel => exact ⟨k + 1, by omega, by go_num, by rw [HT2.out], hb.trans (hb2.mono hb.size), hV.kept (hb2.block _ hlt)⟩
        case measure => simp [intOf]; omega
      · obtain rfl : k = ks.length := by omega
        have hi2 := HI ks.length
        have hi3 : (deps (ks.take ks.length) : Int) ≤ 100000 := by omega
        clear HI hi2 hx ho hkids
        go_wp2_with fail
        go_ret
        exact ⟨by rw [← HD.out]; rfl, hb⟩

end Rx
end Go.Proofs.YtcaaanbajmlcjaaGreatDoor
