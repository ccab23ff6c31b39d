/-
  The specification's l9List, l9Field.
-/
import Derived.Test.YtcdmilpncngdoaaGreatDoorP31
import Derived.Test.YtcdmilpncngdoaaGreatDoorP33
namespace Go.Proofs.YtcdmilpncngdoaaGreatDoor
open Go.RowKit
namespace Ty
open Nd
set_option linter.unusedSimpArgs false
set_option linter.unusedVariables false

/-- A function that tells the text T of a node. -/
def STells (f : Nat) (T : Data → List UInt8) (x : Data) : Prop := ∀ (w : World) (a b c u : Value), ArgIs w x [a, b, c, u] →
  Calls Tryz.prog f #[.agg #[a, b, c, u]] w fun e w' => e = .returned (.string ⟨(T x).toArray⟩) ∧ Below w.heap.size w w'

theorem join_snoc' (ks : List Data) (k : Nat) (t : Data) (hk : ks[k]? = some t) : joinE (esT (ks.take (k + 1))) = if k = 0 then eT t else joinE (esT (ks.take k)) ++ [44, 32] ++ eT t := by
  rw [List.take_add_one, hk]
  have : esT (ks.take k ++ (some t).toList) = esT (ks.take k) ++ [eT t] := by simp [esT_map]
  rw [this, join_snoc]
  by_cases h0 : k = 0
  · subst h0; simp [esT]
  · have hl : (esT (ks.take k)).length = k := by
      have := (List.getElem?_eq_some_iff.1 hk).1
      rw [esT_map]; simp; omega
    have hne : esT (ks.take k) ≠ [] := fun e => by
      rw [e] at hl
      exact h0 hl.symm
    rw [if_neg hne, if_neg h0]
theorem join_bound (ks : List Data) (k : Nat) : (joinE (esT (ks.take k))).length ≤ 70 * sizs ks := by
  have h1 := join_len (esT (ks.take k))
  have h2 := es_sum (ks.take k)
  have h3 := sizs_append (ks.take k) (ks.drop k)
  rw [List.take_append_drop] at h3
  omega

set_option maxHeartbeats 1000000 in
set_option maxRecDepth 100000 in
theorem sList {ks : List Data} (hx : ∀ t ∈ ks, STells 11 eT t) (hsz : sizs ks ≤ 1048576) (w : World) (ao : Option Addr) (cap : Nat) (hA : ArgsIs w ks ao 0) :
    Calls Tryz.prog 26 #[.slice ao ks.length cap] w fun e w' => e = .returned (.string ⟨(joinE (esT ks)).toArray⟩) ∧ Below w.heap.size w w' := by
  have bn : (ks.length : Int) ≤ 1048576 := by have := sizs_sum ks; omega
  have HE : Hid (joinE (esT (ks.take ks.length)) = joinE (esT ks)) := by show _ = _; rw [List.take_length]
  have HB : Hid (∀ k, ((joinE (esT (ks.take k))).length : Int) ≤ 100000000) := fun k => by have := join_bound ks k; omega
  generalize joinE (esT ks) = J at *
  go_enter Tryz.func26, Tryz.ntmps26
  go_wp2_with fail
  go_loopw [3, 4] (fun v i wr => ∃ k : Nat, k ≤ ks.length ∧ i = .int .i64 k ∧ v = .string ⟨(joinE (esT (ks.take k))).toArray⟩ ∧ Below w.heap.size w wr) (fun _ i _ => ks.length - (intOf i).toNat)
  case atStart => exact ⟨0, Nat.zero_le _, rfl, by simp [esT, joinE], Below.refl _ _⟩
  case round =>
    obtain ⟨k, hkn, rfl, rfl, hb⟩ := hrel
    by_cases hkl : k < ks.length
    · obtain ⟨t, hki⟩ : ∃ t, ks[k]? = some t := ⟨ks[k], List.getElem?_eq_getElem hkl⟩
      obtain ⟨g, o, x0, x1, x2, x3, rfl, hgl, c0, c1, c2, c3, ht⟩ := args_at (args_frame hb hA) hki
      simp only [Nat.zero_add] at c0 c1 c2 c3
      have cx := hx t (List.mem_of_getElem? hki) wr _ _ _ _ ht
      have hj := join_snoc' ks k t hki
      have hb0 := HB.out k
      have hXl : ((eT t).length : Int) ≤ 100000000 := by have := eT_len t; have := sizs_mem (List.mem_of_getElem? hki); omega
      obtain ⟨tao, tcap, rfl, rfl, rfl, rfl, -, -⟩ := arg_open ht
      have bk : (k : Int) < ks.length := by omega
      have HJ : Hid (joinE (esT (ks.take (k + 1))) = if k = 0 then eT t else joinE (esT (ks.take k)) ++ [44, 32] ++ eT t) := hj
      clear hx hA ht hki HB hj
      generalize eT t = X at *
      generalize opOf t = xop at *
      generalize numOf t = xn at *
      generalize txtOf t = xs at *
      generalize (kidsOf t).length = xL at *
      by_cases h0 : k = 0
      · subst h0
        have J0 : joinE (esT (ks.take 0)) = [] := by simp [esT, joinE]
        simp only [J0, List.length_nil] at hb0 ⊢
        simp only [Nat.zero_mul, Nat.add_zero] at c0 c1 c2 c3
        clear J0
        go_wp2_with (go_at_call 11; refine cx.mono ?_; rintro e w2 ⟨rfl, hb2⟩)
        go_roundw
        case rel => exact ⟨0 + 1, by omega, by go_num, by rw [HJ.out]; simp [ba_append], hb.trans (hb2.mono hb.size)⟩
        case measure => simp [intOf]; omega
      · have kpos : (0 : Int) < k := by omega
        generalize joinE (esT (ks.take k)) = J0 at *
        go_wp2_with (go_at_call 11; refine cx.mono ?_; rintro e w2 ⟨rfl, hb2⟩)
        go_roundw
        case rel => exact ⟨k + 1, by omega, by go_num, by rw [HJ.out, if_neg h0]; simp [ba_append, ba_pre], hb.trans (hb2.mono hb.size)⟩
        case measure => simp [intOf]; omega
    · obtain rfl : k = ks.length := by omega
      rw [HE.out]
      clear HB
      go_wp2_with fail
      go_ret
      exact ⟨rfl, hb⟩

def fieldT (t : Data) : List UInt8 := if plainOp (opOf t) then [36] ++ eT t else [36] ++ ([40] ++ eT t ++ [41])

set_option maxRecDepth 100000 in
theorem sField {t : Data} (hx : STells 11 eT t) (hsz : siz t ≤ 1048576) : STells 25 fieldT t := by
  intro w a b c u hA
  have hb0 : ∀ o, Below w.heap.size w (w.alloc o) := fun o => (Below.refl _ w).alloc (Nat.le_refl _) _
  have cx := fun o => hx (w.alloc o) a b c u (arg_frame (hb0 o) _ _ hA)
  obtain ⟨ao, cap, rfl, rfl, rfl, rfl, -, -⟩ := arg_open hA
  have hXl : ((eT t).length : Int) ≤ 100000000 := by have := eT_len t; omega
  unfold fieldT
  have HP : Hid (plainOp (opOf t) = (decide (opOf t = 1) || decide (opOf t = 4) || decide (opOf t = 6))) := rfl
  clear hA hx hsz
  generalize numOf t = n at *
  generalize txtOf t = s at *
  generalize eT t = X at *
  generalize (kidsOf t).length = xL at *
  generalize plainOp (opOf t) = PB at *
  generalize opOf t = op at *
  by_cases h : op = 1 ∨ op = 4 ∨ op = 6
  · have hPB : PB = true := by rw [HP.out]; simp; omega
    subst hPB
    simp only [if_true]
    clear HP
    rcases h with rfl | rfl | rfl
    all_goals
      go_enter Tryz.func25, Tryz.ntmps25
      go_wp2_with (go_at_call 11; refine (cx _).mono ?_; rintro e w2 ⟨rfl, hb2⟩)
      go_ret
      exact ⟨by simp [ba_pre], (hb0 _).trans (hb2.mono (hb0 _).size)⟩
  · have hPB : PB = false := by rw [HP.out]; simp; omega
    subst hPB
    have e1 : (op == 1) = false := beq_eq_false_iff_ne.2 (by omega)
    have e4 : (op == 4) = false := beq_eq_false_iff_ne.2 (by omega)
    have e6 : (op == 6) = false := beq_eq_false_iff_ne.2 (by omega)
    simp only [Bool.false_eq_true, if_false]
    clear HP h
    go_enter Tryz.func25, Tryz.ntmps25
    go_wp2_with (go_at_call 11; refine (cx _).mono ?_; rintro e w2 ⟨rfl, hb2⟩)
    go_ret
    exact ⟨by simp [ba_pre, ba_append, ba_one], (hb0 _).trans (hb2.mono (hb0 _).size)⟩

end Ty
end Go.Proofs.YtcdmilpncngdoaaGreatDoor

