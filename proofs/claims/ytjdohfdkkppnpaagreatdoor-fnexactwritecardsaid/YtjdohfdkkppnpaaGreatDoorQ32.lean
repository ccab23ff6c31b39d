/-
  What is written of an e whose kids are written: writeAtom, writeSigned, writeEs.
-/
import Derived.Test.YtjdohfdkkppnpaaGreatDoorQ29
namespace Go.Proofs.YtjdohfdkkppnpaaGreatDoor
open Go.RowKit
namespace Ty
open Nd
set_option linter.unusedSimpArgs false
set_option linter.unusedVariables false

set_option maxRecDepth 100000 in
theorem iWriteAtom {W0 : World} {t : Data} (hx : WOk W0 45 eT eT t) : WOk W0 85 atomT atomT t := by
  intro p L w a b c u hA hb hO room
  have cx := fun L w' => hx p L w' _ _ _ _ hA
  obtain ⟨ao, cap, rfl, rfl, rfl, rfl, -, -⟩ := arg_open hA
  have hk := fun oo ho => wk_new (a := .int .i64 (opOf t)) (b := .int .i64 (numOf t)) (c := .string ⟨(txtOf t).toArray⟩) (u := .slice ao (kidsOf t).length cap) hb hO oo ho
  unfold atomT at *
  have HP : Hid (plainOp (opOf t) = (decide (opOf t = 1) || decide (opOf t = 4) || decide (opOf t = 6))) := rfl
  clear hA hx
  generalize numOf t = n at *
  generalize txtOf t = s at *
  generalize eT t = X at *
  generalize (kidsOf t).length = xL at *
  generalize plainOp (opOf t) = PB at *
  generalize opOf t = op at *
  by_cases h : op = 1 ∨ op = 4 ∨ op = 6
  · have hPB : PB = true := by rw [HP.out]; simp; omega
    subst hPB
    simp only [if_true] at room ⊢
    have RM : Hid (L.length + X.length ≤ 1099511627776) := room
    clear HP room
    rcases h with rfl | rfl | rfl
    all_goals
      go_enter Tryz.func85, Tryz.ntmps85
      have hk := hk _ rfl
      go_wp2_with (first
        | (go_at_call 45; refine (cx _ _ hk.bel hk.out RM.out).mono ?_; rintro e w2 ⟨rfl, hO2, hC2⟩; have hk := hk.step hO2 hC2))
      refine bodyPost_ret (v := .tuple #[]) ?_ rfl ⟨rfl, hk.out, hk.ch⟩
      simp [results, Tryz.results85]
  · have hPB : PB = false := by rw [HP.out]; simp; omega
    subst hPB
    have e1 : (op == 1) = false := beq_eq_false_iff_ne.2 (by omega)
    have e4 : (op == 4) = false := beq_eq_false_iff_ne.2 (by omega)
    have e6 : (op == 6) = false := beq_eq_false_iff_ne.2 (by omega)
    simp only [Bool.false_eq_true, if_false] at room ⊢
    have RM : Hid (L.length + ([40] ++ X ++ [41]).length ≤ 1099511627776) := room
    clear HP room h
    go_enter Tryz.func85, Tryz.ntmps85
    have hk := hk _ rfl
    go_wp2_with (first
      | (refine put_step hk rfl _ _ _ rfl rfl _ rfl (by have := RM.out; simp only [List.length_append, List.length_cons, List.length_nil] at this ⊢; omega) ?_; intro w2 hk; obtain ⟨y0, y1, y2, y3⟩ := hk.var.cell)
      | (go_at_call 45; refine (cx _ _ hk.bel hk.out ?_).mono ?_; (have := RM.out; simp only [List.length_append, List.length_cons, List.length_nil] at this ⊢; omega); rintro e w2 ⟨rfl, hO2, hC2⟩; have hk := hk.step hO2 hC2; obtain ⟨y0, y1, y2, y3⟩ := hk.var.cell))
    refine bodyPost_end (v := .tuple #[]) ?_ rfl ⟨rfl, ?_, hk.ch⟩
    · simp [results, Tryz.results85]
    · have := hk.out
      simp only [List.append_assoc] at this ⊢
      exact this

/-- The signs, as they are laid. -/
def Sgn (w : World) : Prop := ∀ k : Nat, k < 28 → w.cell? ⟨2, k, none⟩ = some (.string ⟨(signL k).toArray⟩)

def signedT (t : Data) : List UInt8 := if (kidsOf t).length = 1 then signL (opOf t) ++ (esT (kidsOf t)).getD 0 [] else (esT (kidsOf t)).getD 0 [] ++ midL (opOf t) ++ (esT (kidsOf t)).getD 1 []

set_option maxHeartbeats 1000000 in
set_option maxRecDepth 100000 in
theorem iWriteSigned1 {W0 : World} (hg : Sgn W0) {t x : Data} (hop0 : 9 ≤ opOf t) (hop1 : opOf t ≤ 27) (hks : kidsOf t = [x]) (hx : WOk W0 45 eT eT x) : WOk W0 87 signedT signedT t := by
  intro p L w a b c u hA hb hO room
  obtain ⟨ao, cap, rfl, rfl, rfl, rfl, hK, -⟩ := arg_open hA
  rw [hks] at hK
  obtain ⟨g, o, x0, x1, x2, x3, rfl, hgl, c0, c1, c2, c3, hax⟩ := args_at hK (show [x][0]? = some x from rfl)
  simp only [Nat.zero_mul, Nat.add_zero] at c0 c1 c2 c3
  have hcl : ∀ w', Below W0.heap.size W0 w' → w'.cell? ⟨g, o, none⟩ = some x0 ∧ w'.cell? ⟨g, o + 1, none⟩ = some x1 ∧ w'.cell? ⟨g, o + 2, none⟩ = some x2 ∧ w'.cell? ⟨g, o + 3, none⟩ = some x3 := fun w' h => ⟨(h.cell (p := ⟨g, o, none⟩) hgl).trans c0, (h.cell (p := ⟨g, o + 1, none⟩) hgl).trans c1, (h.cell (p := ⟨g, o + 2, none⟩) hgl).trans c2, (h.cell (p := ⟨g, o + 3, none⟩) hgl).trans c3⟩
  have hT : signedT t = signL (opOf t) ++ eT x := by unfold signedT; rw [hks]; rfl
  rw [hT] at room ⊢
  have hlen : (kidsOf t).length = 1 := by rw [hks]; rfl
  rw [hlen] at *
  obtain ⟨xao, xcap, rfl, rfl, rfl, rfl, -, -⟩ := arg_open hax
  have cxx := fun L w' => hx p L w' _ _ _ _ hax
  have hk := fun oo ho => wk_new (a := .int .i64 (opOf t)) (b := .int .i64 (numOf t)) (c := .string ⟨(txtOf t).toArray⟩) (u := .slice (some ⟨g, o, none⟩) 1 cap) hb hO oo ho
  have RM : Hid (L.length + (signL (opOf t) ++ eT x).length ≤ 1099511627776) := room
  obtain ⟨k, hkk⟩ : ∃ k : Nat, opOf t = (k : Int) := ⟨(opOf t).toNat, by omega⟩
  have hk28 : k < 28 := by rw [hkk] at hop1; omega
  have hsg : ∀ w', Below W0.heap.size W0 w' → w'.cell? ⟨2, k, none⟩ = some (.string ⟨(signL (opOf t)).toArray⟩) := fun w' h => by
    have := hg k hk28
    rw [← hkk] at this
    exact (h.cell (World.block_lt_of_cell? _ _ this)).trans this
  rw [hkk] at RM hk hsg
  rw [hkk]
  have k28 : (k : Int) < 28 := by omega
  clear hA hK hx hks hT hlen room hax c0 c1 c2 c3 hkk hg hop0 hop1
  generalize numOf t = n at *
  generalize txtOf t = s at *
  generalize signL (k : Int) = SG at *
  generalize eT x = X at *
  generalize opOf x = xop at *
  generalize numOf x = xn at *
  generalize txtOf x = xs at *
  generalize (kidsOf x).length = xL at *
  go_enter Tryz.func87, Tryz.ntmps87
  have hk := hk _ rfl
  have sg := hsg _ hk.bel
  go_wp2_with (first
    | (refine put_step hk rfl _ _ _ rfl rfl _ rfl (by have := RM.out; simp only [List.length_append, List.length_cons, List.length_nil] at this ⊢; omega) ?_; intro w2 hk; obtain ⟨y0, y1, y2, y3⟩ := hk.var.cell; obtain ⟨d0, d1, d2, d3⟩ := hcl _ hk.bel)
    | (go_at_call 45; refine (cxx _ _ hk.bel hk.out ?_).mono ?_; (have := RM.out; simp only [List.length_append, List.length_cons, List.length_nil] at this ⊢; omega); rintro e w2 ⟨rfl, hO2, hC2⟩; have hk := hk.step hO2 hC2))
  refine bodyPost_ret (v := .tuple #[]) ?_ rfl ⟨rfl, ?_, hk.ch⟩
  · simp [results, Tryz.results87]
  · have := hk.out
    simp only [List.append_assoc] at this ⊢
    exact this

theorem join_snoc : ∀ (l : List (List UInt8)) (x : List UInt8), joinE (l ++ [x]) = if l = [] then x else joinE l ++ [44, 32] ++ x
  | [], x => rfl
  | [y], x => by simp [joinE]
  | y :: z :: r, x => by
    have := join_snoc (z :: r) x
    simp only [List.cons_append, joinE] at this ⊢
    rw [this]
    simp

set_option maxHeartbeats 1000000 in
set_option maxRecDepth 100000 in
theorem iWriteEs {W0 : World} {ks : List Data} (hx : ∀ t ∈ ks, WOk W0 45 eT eT t) (hn : ks.length ≤ 1048577) (p : Nat) (L : List UInt8) (w : World) (ao : Option Addr) (cap : Nat) (hA : ArgsIs W0 ks ao 0) (hb : Below W0.heap.size W0 w) (hO : Out W0.heap.size p L w) (room : L.length + (joinE (esT ks)).length ≤ 1099511627776) :
    Calls Tryz.prog 86 #[PutV p, .slice ao ks.length cap] w fun e w' => e = .returned (.tuple #[]) ∧ Out W0.heap.size p (L ++ joinE (esT ks)) w' ∧ Ch W0.heap.size p w w' := by
  have bn : (ks.length : Int) ≤ 1048577 := by omega
  have HJ : Hid (∀ (k : Nat) t, ks[k]? = some t → joinE (esT (ks.take (k + 1))) = if k = 0 then eT t else joinE (esT (ks.take k)) ++ [44, 32] ++ eT t) := fun k t hk => by
    rw [List.take_add_one, hk]
    have : esT (ks.take k ++ (some t).toList) = esT (ks.take k) ++ [eT t] := by simp [esT_map]
    rw [this, join_snoc]
    by_cases h0 : k = 0
    · subst h0; simp [esT]
    · have hl : (esT (ks.take k)).length = k := by
        have := (List.getElem?_eq_some_iff.1 hk).1
        rw [esT_map]; simp; omega
      have hne : esT (ks.take k) ≠ [] := fun e => by
        rw [e] at hl
        exact h0 hl.symm
      rw [if_neg hne, if_neg h0]
  have HM : Hid (∀ k, (joinE (esT (ks.take k))).length ≤ (joinE (esT ks)).length) := fun k => by
    have mono : ∀ (a b : List (List UInt8)), (joinE a).length ≤ (joinE (a ++ b)).length := by
      intro a b
      induction b generalizing a with
      | nil => simp
      | cons x b ih =>
        have h1 := ih (a ++ [x])
        rw [List.append_assoc] at h1
        refine Nat.le_trans ?_ h1
        rw [join_snoc]
        split
        · rename_i e
          subst e
          simp [joinE]
        · simp only [List.length_append]; omega
    have := mono (esT (ks.take k)) (esT (ks.drop k))
    rw [← show esT (ks.take k ++ ks.drop k) = esT (ks.take k) ++ esT (ks.drop k) by simp [esT_map], List.take_append_drop] at this
    exact this
  have HE : Hid (joinE (esT (ks.take ks.length)) = joinE (esT ks)) := by show _ = _; rw [List.take_length]
  have RM : Hid (L.length + (joinE (esT ks)).length ≤ 1099511627776) := room
  clear hn room
  generalize joinE (esT ks) = J at *
  go_enter Tryz.func86, Tryz.ntmps86
  go_wp2_with fail
  go_loopw [8] (fun i wr => ∃ k : Nat, k ≤ ks.length ∧ i = .int .i64 k ∧ Below W0.heap.size W0 wr ∧ Out W0.heap.size p (L ++ joinE (esT (ks.take k))) wr ∧ Ch W0.heap.size p w wr) (fun i _ => ks.length - (intOf i).toNat)
  case atStart => exact ⟨0, Nat.zero_le _, rfl, hb, by simpa [esT, joinE] using hO, Ch.refl _ _ _⟩
  case round =>
    obtain ⟨k, hkn, rfl, hbr, hOr, hCr⟩ := hrel
    by_cases hkl : k < ks.length
    · obtain ⟨t, hki⟩ : ∃ t, ks[k]? = some t := ⟨ks[k], List.getElem?_eq_getElem hkl⟩
      obtain ⟨g, o, x0, x1, x2, x3, rfl, hgl, c0, c1, c2, c3, ht⟩ := args_at hA hki
      simp only [Nat.zero_add] at c0 c1 c2 c3
      have d0 := (hbr.cell (p := ⟨g, o + k * 4, none⟩) hgl).trans c0
      have d1 := (hbr.cell (p := ⟨g, o + k * 4 + 1, none⟩) hgl).trans c1
      have d2 := (hbr.cell (p := ⟨g, o + k * 4 + 2, none⟩) hgl).trans c2
      have d3 := (hbr.cell (p := ⟨g, o + k * 4 + 3, none⟩) hgl).trans c3
      have cx := fun L w' => hx t (List.mem_of_getElem? hki) p L w' _ _ _ _ ht
      have hj := HJ.out k t hki
      have hm := HM.out (k + 1)
      obtain ⟨tao, tcap, rfl, rfl, rfl, rfl, -, -⟩ := arg_open ht
      have hk := fun oo ho => wk_new (a := .int .i64 (opOf t)) (b := .int .i64 (numOf t)) (c := .string ⟨(txtOf t).toArray⟩) (u := .slice tao (kidsOf t).length tcap) hbr hOr oo ho
      have bk : (k : Int) < ks.length := by omega
      clear hx hA ht hki c0 c1 c2 c3 HJ HM
      generalize eT t = X at *
      generalize opOf t = xop at *
      generalize numOf t = xn at *
      generalize txtOf t = xs at *
      generalize (kidsOf t).length = xL at *
      by_cases h0 : k = 0
      · subst h0
        simp only [if_true] at hj
        have J0 : joinE (esT (ks.take 0)) = [] := by simp [esT, joinE]
        rw [J0] at hOr hk
        have HR : Hid (L.length + X.length ≤ 1099511627776 ∧ joinE (esT (ks.take (0 + 1))) = X) := ⟨by have := RM.out; rw [hj] at hm; omega, hj⟩
        clear hj hm J0
        simp only [Nat.zero_mul, Nat.add_zero] at d0 d1 d2 d3
        have hk := hk _ rfl
        go_wp2_with (first
          | (go_at_call 45; refine (cx _ _ hk.bel hk.out ?_).mono ?_; (have := HR.out.1; simp only [List.length_append, List.length_nil] at this ⊢; omega); rintro e w2 ⟨rfl, hO2, hC2⟩; have hk := hk.step hO2 hC2))
        go_roundw
        case rel => exact ⟨0 + 1, by omega, by go_num, hk.bel, by rw [HR.out.2]; simpa using hk.out, hCr.trans hk.ch⟩
        case measure => simp [intOf]; omega
      · rw [if_neg h0] at hj
        have HR : Hid ((L ++ joinE (esT (ks.take k))).length + ([44, 32] ++ X).length ≤ 1099511627776 ∧ joinE (esT (ks.take (k + 1))) = joinE (esT (ks.take k)) ++ [44, 32] ++ X) := ⟨by have := RM.out; rw [hj] at hm; simp only [List.length_append, List.length_cons, List.length_nil] at hm ⊢; omega, hj⟩
        have kpos : (0 : Int) < k := by omega
        clear hj hm
        generalize joinE (esT (ks.take k)) = J0 at *
        have hk := hk _ rfl
        go_wp2_with (first
          | (refine put_step hk rfl _ _ _ rfl rfl _ rfl (by have := HR.out.1; simp only [List.length_append, List.length_cons, List.length_nil] at this ⊢; omega) ?_; intro w2 hk; obtain ⟨y0, y1, y2, y3⟩ := hk.var.cell)
          | (go_at_call 45; refine (cx _ _ hk.bel hk.out ?_).mono ?_; (have := HR.out.1; simp only [List.length_append, List.length_cons, List.length_nil] at this ⊢; omega); rintro e w2 ⟨rfl, hO2, hC2⟩; have hk := hk.step hO2 hC2))
        go_roundw
        case rel => exact ⟨k + 1, by omega, by go_num, hk.bel, by rw [HR.out.2]; simpa [List.append_assoc] using hk.out, hCr.trans hk.ch⟩
        case measure => simp [intOf]; omega
    · obtain rfl : k = ks.length := by omega
      rw [HE.out] at hOr
      clear HJ HM
      go_wp2_with fail
      refine bodyPost_end (v := .tuple #[]) ?_ rfl ⟨rfl, hOr, hCr⟩
      simp [results, Tryz.results86]

end Ty
end Go.Proofs.YtjdohfdkkppnpaaGreatDoor

