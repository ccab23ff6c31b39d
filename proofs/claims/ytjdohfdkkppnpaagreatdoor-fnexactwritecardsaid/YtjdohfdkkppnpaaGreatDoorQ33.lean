/-
  What is written of an e with two kids: writeSigned.
  The specification's l9List, l9Field.
-/
import Derived.Test.YtjdohfdkkppnpaaGreatDoorQ32
import Derived.Test.YtjdohfdkkppnpaaGreatDoorQ31
namespace Go.Proofs.YtjdohfdkkppnpaaGreatDoor
open Go.RowKit
namespace Ty
open Nd
set_option linter.unusedSimpArgs false
set_option linter.unusedVariables false

theorem ba_append (a b : List UInt8) : (⟨a.toArray⟩ : ByteArray) ++ ⟨b.toArray⟩ = ⟨(a ++ b).toArray⟩ := by
  apply ByteArray.ext
  simp
theorem ba_pre (a : Array UInt8) (b : List UInt8) : (⟨a⟩ : ByteArray) ++ ⟨b.toArray⟩ = ⟨(a.toList ++ b).toArray⟩ := by
  apply ByteArray.ext
  simp
theorem ba_one (a : List UInt8) (c : UInt8) : (⟨a.toArray⟩ : ByteArray) ++ ⟨#[c]⟩ = ⟨(a ++ [c]).toArray⟩ := ba_append a [c]

set_option maxHeartbeats 2000000 in
set_option maxRecDepth 100000 in
theorem iWriteSigned2 {W0 : World} (hg : Sgn W0) {t x y : Data} (hop0 : 9 ≤ opOf t) (hop1 : opOf t ≤ 27) (hks : kidsOf t = [x, y]) (hx : WOk W0 45 eT eT x) (hy : WOk W0 45 eT eT y) : WOk W0 87 signedT signedT t := by
  intro p L w a b c u hA hb hO room
  obtain ⟨ao, cap, rfl, rfl, rfl, rfl, hK, -⟩ := arg_open hA
  rw [hks] at hK
  obtain ⟨g, o, x0, x1, x2, x3, hao, hgl, c0, c1, c2, c3, hax⟩ := args_at hK (show [x, y][0]? = some x from rfl)
  obtain ⟨g', o', z0, z1, z2, z3, hao', hgl', e0, e1, e2, e3, hay⟩ := args_at hK (show [x, y][1]? = some y from rfl)
  subst hao
  simp only [Option.some.injEq, Addr.mk.injEq, and_true] at hao'
  obtain ⟨rfl, rfl⟩ := hao'
  simp only [Nat.zero_mul, Nat.add_zero, Nat.zero_add, Nat.one_mul] at c0 c1 c2 c3 e0 e1 e2 e3
  have hcl : ∀ w', Below W0.heap.size W0 w' → w'.cell? ⟨g, o, none⟩ = some x0 ∧ w'.cell? ⟨g, o + 1, none⟩ = some x1 ∧ w'.cell? ⟨g, o + 2, none⟩ = some x2 ∧ w'.cell? ⟨g, o + 3, none⟩ = some x3 ∧ w'.cell? ⟨g, o + 4, none⟩ = some z0 ∧ w'.cell? ⟨g, o + 4 + 1, none⟩ = some z1 ∧ w'.cell? ⟨g, o + 4 + 2, none⟩ = some z2 ∧ w'.cell? ⟨g, o + 4 + 3, none⟩ = some z3 := fun w' h =>
    ⟨(h.cell (p := ⟨g, o, none⟩) hgl).trans c0, (h.cell (p := ⟨g, o + 1, none⟩) hgl).trans c1, (h.cell (p := ⟨g, o + 2, none⟩) hgl).trans c2, (h.cell (p := ⟨g, o + 3, none⟩) hgl).trans c3, (h.cell (p := ⟨g, o + 4, none⟩) hgl).trans e0, (h.cell (p := ⟨g, o + 4 + 1, none⟩) hgl).trans e1, (h.cell (p := ⟨g, o + 4 + 2, none⟩) hgl).trans e2, (h.cell (p := ⟨g, o + 4 + 3, none⟩) hgl).trans e3⟩
  have hT : signedT t = eT x ++ midL (opOf t) ++ eT y := by unfold signedT; rw [hks]; rfl
  rw [hT] at room ⊢
  have hlen : (kidsOf t).length = 2 := by rw [hks]; rfl
  rw [hlen] at *
  obtain ⟨xao, xcap, rfl, rfl, rfl, rfl, -, -⟩ := arg_open hax
  obtain ⟨yao, ycap, rfl, rfl, rfl, rfl, -, -⟩ := arg_open hay
  have cx := fun L w' => hx p L w' _ _ _ _ hax
  have cy := fun L w' => hy p L w' _ _ _ _ hay
  have hk := fun oo ho => wk_new (a := .int .i64 (opOf t)) (b := .int .i64 (numOf t)) (c := .string ⟨(txtOf t).toArray⟩) (u := .slice (some ⟨g, o, none⟩) 2 cap) hb hO oo ho
  obtain ⟨k, hkk⟩ : ∃ k : Nat, opOf t = (k : Int) := ⟨(opOf t).toNat, by omega⟩
  have hk28 : k < 28 := by rw [hkk] at hop1; omega
  have hsg : ∀ w', Below W0.heap.size W0 w' → w'.cell? ⟨2, k, none⟩ = some (.string ⟨(signL (opOf t)).toArray⟩) := fun w' h => by
    have := hg k hk28
    rw [← hkk] at this
    exact (h.cell (World.block_lt_of_cell? _ _ this)).trans this
  have hsl := sign_len (opOf t)
  have hmid : midL (opOf t) = if opOf t = 14 then [32] else [32] ++ (signL (opOf t) ++ [32]) := rfl
  rw [hkk] at room hk hsg hsl hmid
  rw [hkk]
  have k28 : (k : Int) < 28 := by omega
  have hslI : ((signL (k : Int)).length : Int) ≤ 2 := by omega
  clear hA hK hx hy hks hT hlen hax hay c0 c1 c2 c3 e0 e1 e2 e3 hkk hg hop0 hop1 hgl hgl'
  generalize numOf t = n at *
  generalize txtOf t = s at *
  generalize signL (k : Int) = SG at *
  generalize midL (k : Int) = MD at *
  generalize eT x = X at *
  generalize opOf x = xop at *
  generalize numOf x = xn at *
  generalize txtOf x = xs at *
  generalize (kidsOf x).length = xL at *
  generalize eT y = Y at *
  generalize opOf y = yop at *
  generalize numOf y = yn at *
  generalize txtOf y = ys at *
  generalize (kidsOf y).length = yL at *
  by_cases h14 : (k : Int) = 14
  · rw [if_pos h14] at hmid
    subst hmid
    have RM : Hid (L.length + (X ++ [32] ++ Y).length ≤ 1099511627776) := room
    have f14 : ((k : Int) == 14) = true := by rw [h14]; rfl
    have g14 : ((k : Int) != 14) = false := by rw [h14]; rfl
    clear room hsl h14
    go_enter Tryz.func87, Tryz.ntmps87
    have hk := hk _ rfl
    have sg := hsg _ hk.bel
    obtain ⟨d0, d1, d2, d3, d4, d5, d6, d7⟩ := hcl _ hk.bel
    go_wp2_with (first
      | (refine put_step hk rfl _ _ _ rfl rfl _ rfl (by have := RM.out; simp only [List.length_append, List.length_cons, List.length_nil] at this ⊢; omega) ?_; intro w2 hk; obtain ⟨y0, y1, y2, y3⟩ := hk.var.cell; obtain ⟨d0, d1, d2, d3, d4, d5, d6, d7⟩ := hcl _ hk.bel)
      | (go_at_call 45; with_reducible refine (cy _ _ hk.bel hk.out ?_).mono ?_; (have := RM.out; simp only [List.length_append, List.length_cons, List.length_nil] at this ⊢; omega); rintro e w2 ⟨rfl, hO2, hC2⟩; have hk := hk.step hO2 hC2; obtain ⟨y0, y1, y2, y3⟩ := hk.var.cell; obtain ⟨d0, d1, d2, d3, d4, d5, d6, d7⟩ := hcl _ hk.bel)
      | (go_at_call 45; with_reducible refine (cx _ _ hk.bel hk.out ?_).mono ?_; (have := RM.out; simp only [List.length_append, List.length_cons, List.length_nil] at this ⊢; omega); rintro e w2 ⟨rfl, hO2, hC2⟩; have hk := hk.step hO2 hC2; obtain ⟨y0, y1, y2, y3⟩ := hk.var.cell; obtain ⟨d0, d1, d2, d3, d4, d5, d6, d7⟩ := hcl _ hk.bel))
    refine bodyPost_end (v := .tuple #[]) ?_ rfl ⟨rfl, ?_, hk.ch⟩
    · simp [results, Tryz.results87]
    · have := hk.out
      simpa [List.append_assoc] using this
  · rw [if_neg h14] at hmid
    subst hmid
    have RM : Hid (L.length + (X ++ ([32] ++ (SG ++ [32])) ++ Y).length ≤ 1099511627776) := room
    have f14 : ((k : Int) == 14) = false := beq_eq_false_iff_ne.2 h14
    have g14 : ((k : Int) != 14) = true := by simp [h14]
    clear room hsl
    go_enter Tryz.func87, Tryz.ntmps87
    have hk := hk _ rfl
    have sg := hsg _ hk.bel
    obtain ⟨d0, d1, d2, d3, d4, d5, d6, d7⟩ := hcl _ hk.bel
    go_wp2_with (first
      | (refine put_step hk rfl _ _ _ rfl rfl [32] rfl (by have := RM.out; simp only [List.length_append, List.length_cons, List.length_nil] at this ⊢; omega) ?_; intro w2 hk; obtain ⟨y0, y1, y2, y3⟩ := hk.var.cell; obtain ⟨d0, d1, d2, d3, d4, d5, d6, d7⟩ := hcl _ hk.bel)
      | (refine put_step hk rfl _ _ _ rfl rfl (SG ++ [32]) (by simp only [Act.eval]; simp [ba_one]) (by have := RM.out; simp only [List.length_append, List.length_cons, List.length_nil] at this ⊢; omega) ?_; intro w2 hk; obtain ⟨y0, y1, y2, y3⟩ := hk.var.cell; obtain ⟨d0, d1, d2, d3, d4, d5, d6, d7⟩ := hcl _ hk.bel)
      | (go_at_call 45; with_reducible refine (cy _ _ hk.bel hk.out ?_).mono ?_; (have := RM.out; simp only [List.length_append, List.length_cons, List.length_nil] at this ⊢; omega); rintro e w2 ⟨rfl, hO2, hC2⟩; have hk := hk.step hO2 hC2; obtain ⟨y0, y1, y2, y3⟩ := hk.var.cell; obtain ⟨d0, d1, d2, d3, d4, d5, d6, d7⟩ := hcl _ hk.bel)
      | (go_at_call 45; with_reducible refine (cx _ _ hk.bel hk.out ?_).mono ?_; (have := RM.out; simp only [List.length_append, List.length_cons, List.length_nil] at this ⊢; omega); rintro e w2 ⟨rfl, hO2, hC2⟩; have hk := hk.step hO2 hC2; obtain ⟨y0, y1, y2, y3⟩ := hk.var.cell; obtain ⟨d0, d1, d2, d3, d4, d5, d6, d7⟩ := hcl _ hk.bel))
    refine bodyPost_end (v := .tuple #[]) ?_ rfl ⟨rfl, ?_, hk.ch⟩
    · simp [results, Tryz.results87]
    · have := hk.out
      simpa [List.append_assoc] using this

end Ty
end Go.Proofs.YtjdohfdkkppnpaaGreatDoor

namespace Go.Proofs.YtjdohfdkkppnpaaGreatDoor
open Go.RowKit
namespace Ty
open Nd
set_option linter.unusedSimpArgs false
set_option linter.unusedVariables false

/-- A function that tells the text T of a node. -/
def STells (f : Nat) (T : Data → List UInt8) (x : Data) : Prop := ∀ (w : World) (a b c u : Value), ArgIs w x [a, b, c, u] →
  Calls Tryz.prog f #[.agg #[a, b, c, u]] w fun e w' => e = .returned (.string ⟨(T x).toArray⟩) ∧ Below w.heap.size w w'

theorem join_snoc' (ks : List Data) (k : Nat) (t : Data) (hk : ks[k]? = some t) : joinE (esT (ks.take (k + 1))) = if k = 0 then eT t else joinE (esT (ks.take k)) ++ [44, 32] ++ eT t := by
  rw [List.take_add_one, hk]
  have : esT (ks.take k ++ (some t).toList) = esT (ks.take k) ++ [eT t] := by simp [esT_map]
  rw [this, join_snoc]
  by_cases h0 : k = 0
  · subst h0; simp [esT]
  · have hl : (esT (ks.take k)).length = k := by
      have := (List.getElem?_eq_some_iff.1 hk).1
      rw [esT_map]; simp; omega
    have hne : esT (ks.take k) ≠ [] := fun e => by
      rw [e] at hl
      exact h0 hl.symm
    rw [if_neg hne, if_neg h0]
theorem join_bound (ks : List Data) (k : Nat) : (joinE (esT (ks.take k))).length ≤ 70 * sizs ks := by
  have h1 := join_len (esT (ks.take k))
  have h2 := es_sum (ks.take k)
  have h3 := sizs_append (ks.take k) (ks.drop k)
  rw [List.take_append_drop] at h3
  omega

set_option maxHeartbeats 1000000 in
set_option maxRecDepth 100000 in
theorem sList {ks : List Data} (hx : ∀ t ∈ ks, STells 14 eT t) (hsz : sizs ks ≤ 1048576) (w : World) (ao : Option Addr) (cap : Nat) (hA : ArgsIs w ks ao 0) :
    Calls Tryz.prog 41 #[.slice ao ks.length cap] w fun e w' => e = .returned (.string ⟨(joinE (esT ks)).toArray⟩) ∧ Below w.heap.size w w' := by
  have bn : (ks.length : Int) ≤ 1048576 := by have := sizs_sum ks; omega
  have HE : Hid (joinE (esT (ks.take ks.length)) = joinE (esT ks)) := by show _ = _; rw [List.take_length]
  have HB : Hid (∀ k, ((joinE (esT (ks.take k))).length : Int) ≤ 100000000) := fun k => by have := join_bound ks k; omega
  generalize joinE (esT ks) = J at *
  go_enter Tryz.func41, Tryz.ntmps41
  go_wp2_with fail
  go_loopw [3, 4] (fun v i wr => ∃ k : Nat, k ≤ ks.length ∧ i = .int .i64 k ∧ v = .string ⟨(joinE (esT (ks.take k))).toArray⟩ ∧ Below w.heap.size w wr) (fun _ i _ => ks.length - (intOf i).toNat)
  case atStart => exact ⟨0, Nat.zero_le _, rfl, by simp [esT, joinE], Below.refl _ _⟩
  case round =>
    obtain ⟨k, hkn, rfl, rfl, hb⟩ := hrel
    by_cases hkl : k < ks.length
    · obtain ⟨t, hki⟩ : ∃ t, ks[k]? = some t := ⟨ks[k], List.getElem?_eq_getElem hkl⟩
      obtain ⟨g, o, x0, x1, x2, x3, rfl, hgl, c0, c1, c2, c3, ht⟩ := args_at (args_frame hb hA) hki
      simp only [Nat.zero_add] at c0 c1 c2 c3
      have cx := hx t (List.mem_of_getElem? hki) wr _ _ _ _ ht
      have hj := join_snoc' ks k t hki
      have hb0 := HB.out k
      have hXl : ((eT t).length : Int) ≤ 100000000 := by have := eT_len t; have := sizs_mem (List.mem_of_getElem? hki); omega
      obtain ⟨tao, tcap, rfl, rfl, rfl, rfl, -, -⟩ := arg_open ht
      have bk : (k : Int) < ks.length := by omega
      have HJ : Hid (joinE (esT (ks.take (k + 1))) = if k = 0 then eT t else joinE (esT (ks.take k)) ++ [44, 32] ++ eT t) := hj
      clear hx hA ht hki HB hj
      generalize eT t = X at *
      generalize opOf t = xop at *
      generalize numOf t = xn at *
      generalize txtOf t = xs at *
      generalize (kidsOf t).length = xL at *
      by_cases h0 : k = 0
      · subst h0
        have J0 : joinE (esT (ks.take 0)) = [] := by simp [esT, joinE]
        simp only [J0, List.length_nil] at hb0 ⊢
        simp only [Nat.zero_mul, Nat.add_zero] at c0 c1 c2 c3
        clear J0
        go_wp2_with (go_at_call 14; refine cx.mono ?_; rintro e w2 ⟨rfl, hb2⟩)
        go_roundw
        case rel => exact ⟨0 + 1, by omega, by go_num, by rw [HJ.out]; simp [ba_append], hb.trans (hb2.mono hb.size)⟩
        case measure => simp [intOf]; omega
      · have kpos : (0 : Int) < k := by omega
        generalize joinE (esT (ks.take k)) = J0 at *
        go_wp2_with (go_at_call 14; refine cx.mono ?_; rintro e w2 ⟨rfl, hb2⟩)
        go_roundw
        case rel => exact ⟨k + 1, by omega, by go_num, by rw [HJ.out, if_neg h0]; simp [ba_append, ba_pre], hb.trans (hb2.mono hb.size)⟩
        case measure => simp [intOf]; omega
    · obtain rfl : k = ks.length := by omega
      rw [HE.out]
      clear HB
      go_wp2_with fail
      go_ret
      exact ⟨rfl, hb⟩

def fieldT (t : Data) : List UInt8 := if plainOp (opOf t) then [36] ++ eT t else [36] ++ ([40] ++ eT t ++ [41])

set_option maxRecDepth 100000 in
theorem sField {t : Data} (hx : STells 14 eT t) (hsz : siz t ≤ 1048576) : STells 40 fieldT t := by
  intro w a b c u hA
  have hb0 : ∀ o, Below w.heap.size w (w.alloc o) := fun o => (Below.refl _ w).alloc (Nat.le_refl _) _
  have cx := fun o => hx (w.alloc o) a b c u (arg_frame (hb0 o) _ _ hA)
  obtain ⟨ao, cap, rfl, rfl, rfl, rfl, -, -⟩ := arg_open hA
  have hXl : ((eT t).length : Int) ≤ 100000000 := by have := eT_len t; omega
  unfold fieldT
  have HP : Hid (plainOp (opOf t) = (decide (opOf t = 1) || decide (opOf t = 4) || decide (opOf t = 6))) := rfl
  clear hA hx hsz
  generalize numOf t = n at *
  generalize txtOf t = s at *
  generalize eT t = X at *
  generalize (kidsOf t).length = xL at *
  generalize plainOp (opOf t) = PB at *
  generalize opOf t = op at *
  by_cases h : op = 1 ∨ op = 4 ∨ op = 6
  · have hPB : PB = true := by rw [HP.out]; simp; omega
    subst hPB
    simp only [if_true]
    clear HP
    rcases h with rfl | rfl | rfl
    all_goals
      go_enter Tryz.func40, Tryz.ntmps40
      go_wp2_with (go_at_call 14; refine (cx _).mono ?_; rintro e w2 ⟨rfl, hb2⟩)
      go_ret
      exact ⟨by simp [ba_pre], (hb0 _).trans (hb2.mono (hb0 _).size)⟩
  · have hPB : PB = false := by rw [HP.out]; simp; omega
    subst hPB
    have e1 : (op == 1) = false := beq_eq_false_iff_ne.2 (by omega)
    have e4 : (op == 4) = false := beq_eq_false_iff_ne.2 (by omega)
    have e6 : (op == 6) = false := beq_eq_false_iff_ne.2 (by omega)
    simp only [Bool.false_eq_true, if_false]
    clear HP h
    go_enter Tryz.func40, Tryz.ntmps40
    go_wp2_with (go_at_call 14; refine (cx _).mono ?_; rintro e w2 ⟨rfl, hb2⟩)
    go_ret
    exact ⟨by simp [ba_pre, ba_append, ba_one], (hb0 _).trans (hb2.mono (hb0 _).size)⟩

end Ty
end Go.Proofs.YtjdohfdkkppnpaaGreatDoor

