/-
  The laws' eqRex: two Rex that tell the same.
  The specification's l3Deep.
-/
import Derived.Test.YtkpgdlbcckmpkaaGreatDoorP39
namespace Go.Proofs.YtkpgdlbcckmpkaaGreatDoor
open Go.RowKit
namespace Rx

theorem rexs_at {w : World} : ∀ {ts : List Data} {S : Nat → Prop} {xs : List Value} {i : Nat} {t : Data}, RexsIs w ts S xs → ts[i]? = some t → ∃ (S1 : Nat → Prop) (a b c d u : Value), xs[i * 5]? = some a ∧ xs[i * 5 + 1]? = some b ∧ xs[i * 5 + 2]? = some c ∧ xs[i * 5 + 3]? = some d ∧ xs[i * 5 + 4]? = some u ∧ RexIs w t S1 [a, b, c, d, u] ∧ ∀ k, S1 k → S k
  | [], S, xs, i, t, h, hi => by simp at hi
  | t' :: ts, S, xs, 0, t, h, hi => by
    simp only [RexsIs] at h
    obtain ⟨S1, S2, c1, c2, rfl, h1, _, h3, _⟩ := h
    simp at hi
    subst hi
    have hl := rex_len h1
    match c1, hl with
    | [a, b, c, d, u], _ => exact ⟨S1, a, b, c, d, u, by simp, by simp, by simp, by simp, by simp, h1, fun k hk => (h3 k hk).1⟩
  | t' :: ts, S, xs, i + 1, t, h, hi => by
    simp only [RexsIs] at h
    obtain ⟨S1, S2, c1, c2, rfl, h1, h2, _, h4⟩ := h
    simp at hi
    have hl := rex_len h1
    obtain ⟨S3, a, b, c, d, u, e1, e2, e3, e4, e5, h5, h6⟩ := rexs_at h2 hi
    have sh : ∀ j, (c1 ++ c2)[(i + 1) * 5 + j]? = c2[i * 5 + j]? := fun j => by
      rw [List.getElem?_append_right (by omega)]
      congr 1
      omega
    exact ⟨S3, a, b, c, d, u, (sh 0).trans e1, (sh 1).trans e2, (sh 2).trans e3, (sh 3).trans e4, (sh 4).trans e5, h5, fun k hk => h4 k (h6 k hk)⟩

theorem row_cells {w : World} {B e n k cap : Nat} {ao : Option Addr} {xs : List Value} (ho : w.ownsRow B e 5 (.slice ao n cap) n xs) (hk : k < n) : ∃ g, ao = some ⟨g, 0, none⟩ ∧ g < w.heap.size ∧ ∀ j x, xs[j]? = some x → w.cell? ⟨g, j, none⟩ = some x := by
  rcases ho.2 with ⟨h, hn⟩ | ⟨g, cap', cur, h, _⟩
  · omega
  · simp only [Value.slice.injEq] at h
    obtain ⟨rfl, _, rfl⟩ := h
    refine ⟨g, rfl, (ho.lt g rfl).2, fun j x hx => ?_⟩
    have := ho.cells (g := g) rfl j x hx
    have hadd : (⟨g, 0, none⟩ : Addr).add j = ⟨g, j, none⟩ := by unfold Addr.add; split <;> simp_all
    rw [← hadd]
    exact this


end Rx
end Go.Proofs.YtkpgdlbcckmpkaaGreatDoor

namespace Go.Proofs.YtkpgdlbcckmpkaaGreatDoor
open Go.RowKit
namespace Rx

theorem sMax (a b : Nat) (w : World) : Calls Tryz.prog 67 #[.int .i64 a, .int .i64 b] w fun e w' => e = .returned (.int .i64 (max a b : Nat)) ∧ w' = w := by
  by_cases h : b < a
  · have h' : (b : Int) < a := by omega
    have HM : Hid (max a b = a) := by show _ = _; omega
    go_enter Tryz.func67, Tryz.ntmps67
    go_wp2_with fail
    go_ret
    exact ⟨by rw [HM.out]; rfl, rfl⟩
  · have h' : (a : Int) ≤ b := by omega
    have HM : Hid (max a b = b) := by show _ = _; omega
    clear h
    go_enter Tryz.func67, Tryz.ntmps67
    go_wp2_with fail
    go_ret
    exact ⟨by rw [HM.out]; rfl, rfl⟩

def DeepOk (t : Data) : Prop := ∀ (w : World) (S : Nat → Prop) (a b c d u : Value), RexIs w t S [a, b, c, d, u] → (∀ k, S k → k < w.heap.size) →
  Calls Tryz.prog 53 #[.agg #[a, b, c, d, u]] w fun e w' => e = .returned (.int .i64 (dep t)) ∧ Below w.heap.size w w'

theorem sDeep : ∀ (n : Nat) (t : Data), dep t ≤ n → cnt t ≤ 100000 → DeepOk t := by
  intro n
  induction n with
  | zero => intro t hd _ w S a b c d u h; obtain ⟨op, c, s, no, ks, rfl⟩ := rex_node h; rw [dep_nd] at hd; omega
  | succ n ih =>
    intro t hd hc w S a b c d u h hS
    obtain ⟨op, cc, s, no, ks, rfl⟩ := rex_node h
    rw [dep_nd] at hd ⊢
    rw [cnt_nd] at hc
    rw [rex_nd] at h
    obtain ⟨v, xs, he, ho, hg, hx⟩ := h
    simp at he
    obtain ⟨rfl, rfl, rfl, rfl, rfl⟩ := he
    have hlen := cnts_len ks
    have hnI : (ks.length : Int) ≤ 100000 := by omega
    have hdc : deps ks ≤ 100000 := by have := dep_cnt (nd op cc s no ks); rw [dep_nd, cnt_nd] at this; omega
    have HD : Hid (deps (ks.take ks.length) = deps ks) := by show _ = _; rw [List.take_length]
    have HI := fun i => deps_le ks i
    have hkids : ∀ t ∈ ks, DeepOk t := fun t ht => ih t (by have := deps_mem ht; omega) (by have := cnts_mem ht; omega)
    obtain ⟨ao, cap, rfl⟩ := owns_slice ho
    obtain ⟨o1, ho1⟩ : ∃ o1, o1 = Obj.cells #[.int .i64 op, .int .i64 cc, .string ⟨s.toArray⟩, .bool no, .slice ao ks.length cap] 74 := ⟨_, rfl⟩
    have hb0 : Below w.heap.size w (w.alloc o1) := (Below.refl _ w).alloc (Nat.le_refl _) _
    have hv0 : Var (w.alloc o1) w.heap.size (.int .i64 op) (.int .i64 cc) (.string ⟨s.toArray⟩) (.bool no) (.slice ao ks.length cap) := by rw [ho1]; exact heap_alloc_last _ _
    subst ho1
    clear ih
    go_enter Tryz.func53, Tryz.ntmps53
    go_wp2_with fail
    go_loopw [3, 4] (fun mo i wr => ∃ k : Nat, k ≤ ks.length ∧ i = .int .i64 k ∧ mo = .int .i64 (deps (ks.take k)) ∧ Below w.heap.size w wr ∧ Var wr w.heap.size (.int .i64 op) (.int .i64 cc) (.string ⟨s.toArray⟩) (.bool no) (.slice ao ks.length cap)) (fun _ i _ => ks.length - (intOf i).toNat)
    case atStart => exact ⟨0, Nat.zero_le _, rfl, rfl, hb0, hv0⟩
    case round =>
      obtain ⟨k, hkn, rfl, rfl, hb, hV⟩ := hrel
      have v4 := hV.cell.2.2.2.2
      by_cases hkl : k < ks.length
      · have hki : ks[k]? = some ks[k] := List.getElem?_eq_getElem hkl
        obtain ⟨T1, a, b, c, d, u, x0, x1, x2, x3, x4, hr1, hs1⟩ := rexs_at hx hki
        obtain ⟨g, rfl, hg', hc'⟩ := row_cells ho hkl
        have cl : ∀ j x, xs[j]? = some x → wr.cell? ⟨g, j, none⟩ = some x := fun j x hx => (hb.cell (p := ⟨g, j, none⟩) hg').trans (hc' j x hx)
        have p0 := cl _ _ x0
        have p1 := cl _ _ x1
        have p2 := cl _ _ x2
        have p3 := cl _ _ x3
        have p4 := cl _ _ x4
        have call := hkids ks[k] (List.getElem_mem hkl) wr T1 a b c d u (rex_frame _ _ _ (fun j hj => hb.block j (hS j (hs1 j hj).1)) hr1) (fun j hj => Nat.lt_of_lt_of_le (hS j (hs1 j hj).1) hb.size)
        have hm : ks[k] ∈ ks := List.getElem_mem hkl
        have d1 := deps_mem hm
        have HT2 : Hid (deps (ks.take (k + 1)) = max (deps (ks.take k)) (dep ks[k])) := deps_take ks k ks[k] hki
        have hi1 := HI k
        have hd1 : (dep ks[k] : Int) ≤ 100000 := by omega
        have hi2 : (deps (ks.take k) : Int) ≤ 100000 := by omega
        have hlt := hV.lt
        clear x0 x1 x2 x3 x4 hc' cl hr1 hs1 hx ho hki hkids hm d1 HI hi1 HD hdc hd hc
        generalize dep ks[k] = D at *
        generalize deps (ks.take k) = M at *
        go_wp2_with (first | (go_at_call 53; refine call.mono ?_; rintro e w2 ⟨rfl, hb2⟩) | (go_at_call 67; refine (sMax M D _).mono ?_; rintro e w3 ⟨rfl, hw⟩; have hw := hw.symm; subst hw))
        go_roundw
        case rel => exact ⟨k + 1, by omega, by go_num, by rw [HT2.out], hb.trans (hb2.mono hb.size), hV.kept (hb2.block _ hlt)⟩
        case measure => simp [intOf]; omega
      · obtain rfl : k = ks.length := by omega
        have hi2 := HI ks.length
        have hi3 : (deps (ks.take ks.length) : Int) ≤ 100000 := by omega
        clear HI hi2 hx ho hkids
        go_wp2_with fail
        go_ret
        exact ⟨by rw [← HD.out]; rfl, hb⟩

end Rx
end Go.Proofs.YtkpgdlbcckmpkaaGreatDoor

