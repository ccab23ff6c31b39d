/-
  What is written of an e with two kids: writeSigned.
-/
import Derived.Test.YtcdmilpncngdoaaGreatDoorP32
namespace Go.Proofs.YtcdmilpncngdoaaGreatDoor
open Go.RowKit
namespace Ty
open Nd
set_option linter.unusedSimpArgs false
set_option linter.unusedVariables false

theorem ba_append (a b : List UInt8) : (⟨a.toArray⟩ : ByteArray) ++ ⟨b.toArray⟩ = ⟨(a ++ b).toArray⟩ := by
  apply ByteArray.ext
  simp
theorem ba_pre (a : Array UInt8) (b : List UInt8) : (⟨a⟩ : ByteArray) ++ ⟨b.toArray⟩ = ⟨(a.toList ++ b).toArray⟩ := by
  apply ByteArray.ext
  simp
theorem ba_one (a : List UInt8) (c : UInt8) : (⟨a.toArray⟩ : ByteArray) ++ ⟨#[c]⟩ = ⟨(a ++ [c]).toArray⟩ := ba_append a [c]

set_option maxHeartbeats 2000000 in
set_option maxRecDepth 100000 in
theorem iWriteSigned2 {W0 : World} (hg : Sgn W0) {t x y : Data} (hop0 : 9 ≤ opOf t) (hop1 : opOf t ≤ 27) (hks : kidsOf t = [x, y]) (hx : WOk W0 30 eT eT x) (hy : WOk W0 30 eT eT y) : WOk W0 55 signedT signedT t := by
  intro p L w a b c u hA hb hO room
  obtain ⟨ao, cap, rfl, rfl, rfl, rfl, hK, -⟩ := arg_open hA
  rw [hks] at hK
  obtain ⟨g, o, x0, x1, x2, x3, hao, hgl, c0, c1, c2, c3, hax⟩ := args_at hK (show [x, y][0]? = some x from rfl)
  obtain ⟨g', o', z0, z1, z2, z3, hao', hgl', e0, e1, e2, e3, hay⟩ := args_at hK (show [x, y][1]? = some y from rfl)
  subst hao
  simp only [Option.some.injEq, Addr.mk.injEq, and_true] at hao'
  obtain ⟨rfl, rfl⟩ := hao'
  simp only [Nat.zero_mul, Nat.add_zero, Nat.zero_add, Nat.one_mul] at c0 c1 c2 c3 e0 e1 e2 e3
  have hcl : ∀ w', Below W0.heap.size W0 w' → w'.cell? ⟨g, o, none⟩ = some x0 ∧ w'.cell? ⟨g, o + 1, none⟩ = some x1 ∧ w'.cell? ⟨g, o + 2, none⟩ = some x2 ∧ w'.cell? ⟨g, o + 3, none⟩ = some x3 ∧ w'.cell? ⟨g, o + 4, none⟩ = some z0 ∧ w'.cell? ⟨g, o + 4 + 1, none⟩ = some z1 ∧ w'.cell? ⟨g, o + 4 + 2, none⟩ = some z2 ∧ w'.cell? ⟨g, o + 4 + 3, none⟩ = some z3 := fun w' h =>
    ⟨(h.cell (p := ⟨g, o, none⟩) hgl).trans c0, (h.cell (p := ⟨g, o + 1, none⟩) hgl).trans c1, (h.cell (p := ⟨g, o + 2, none⟩) hgl).trans c2, (h.cell (p := ⟨g, o + 3, none⟩) hgl).trans c3, (h.cell (p := ⟨g, o + 4, none⟩) hgl).trans e0, (h.cell (p := ⟨g, o + 4 + 1, none⟩) hgl).trans e1, (h.cell (p := ⟨g, o + 4 + 2, none⟩) hgl).trans e2, (h.cell (p := ⟨g, o + 4 + 3, none⟩) hgl).trans e3⟩
  have hT : signedT t = eT x ++ midL (opOf t) ++ eT y := by unfold signedT; rw [hks]; rfl
  rw [hT] at room ⊢
  have hlen : (kidsOf t).length = 2 := by rw [hks]; rfl
  rw [hlen] at *
  obtain ⟨xao, xcap, rfl, rfl, rfl, rfl, -, -⟩ := arg_open hax
  obtain ⟨yao, ycap, rfl, rfl, rfl, rfl, -, -⟩ := arg_open hay
  have cx := fun L w' => hx p L w' _ _ _ _ hax
  have cy := fun L w' => hy p L w' _ _ _ _ hay
  have hk := fun oo ho => wk_new (a := .int .i64 (opOf t)) (b := .int .i64 (numOf t)) (c := .string ⟨(txtOf t).toArray⟩) (u := .slice (some ⟨g, o, none⟩) 2 cap) hb hO oo ho
  obtain ⟨k, hkk⟩ : ∃ k : Nat, opOf t = (k : Int) := ⟨(opOf t).toNat, by omega⟩
  have hk28 : k < 28 := by rw [hkk] at hop1; omega
  have hsg : ∀ w', Below W0.heap.size W0 w' → w'.cell? ⟨0, k, none⟩ = some (.string ⟨(signL (opOf t)).toArray⟩) := fun w' h => by
    have := hg k hk28
    rw [← hkk] at this
    exact (h.cell (World.block_lt_of_cell? _ _ this)).trans this
  have hsl := sign_len (opOf t)
  have hmid : midL (opOf t) = if opOf t = 14 then [32] else [32] ++ (signL (opOf t) ++ [32]) := rfl
  rw [hkk] at room hk hsg hsl hmid
  rw [hkk]
  have k28 : (k : Int) < 28 := by omega
  have hslI : ((signL (k : Int)).length : Int) ≤ 2 := by omega
  clear hA hK hx hy hks hT hlen hax hay c0 c1 c2 c3 e0 e1 e2 e3 hkk hg hop0 hop1 hgl hgl'
  generalize numOf t = n at *
  generalize txtOf t = s at *
  generalize signL (k : Int) = SG at *
  generalize midL (k : Int) = MD at *
  generalize eT x = X at *
  generalize opOf x = xop at *
  generalize numOf x = xn at *
  generalize txtOf x = xs at *
  generalize (kidsOf x).length = xL at *
  generalize eT y = Y at *
  generalize opOf y = yop at *
  generalize numOf y = yn at *
  generalize txtOf y = ys at *
  generalize (kidsOf y).length = yL at *
  by_cases h14 : (k : Int) = 14
  · rw [if_pos h14] at hmid
    subst hmid
    have RM : Hid (L.length + (X ++ [32] ++ Y).length ≤ 1099511627776) := room
    have f14 : ((k : Int) == 14) = true := by rw [h14]; rfl
    have g14 : ((k : Int) != 14) = false := by rw [h14]; rfl
    clear room hsl h14
    go_enter Tryz.func55, Tryz.ntmps55
    have hk := hk _ rfl
    have sg := hsg _ hk.bel
    obtain ⟨d0, d1, d2, d3, d4, d5, d6, d7⟩ := hcl _ hk.bel
    go_wp2_with (first
      | (refine put_step hk rfl _ _ _ rfl rfl _ rfl (by have := RM.out; simp only [List.length_append, List.length_cons, List.length_nil] at this ⊢; omega) ?_; intro w2 hk; obtain ⟨y0, y1, y2, y3⟩ := hk.var.cell; obtain ⟨d0, d1, d2, d3, d4, d5, d6, d7⟩ := hcl _ hk.bel)
      | (go_at_call 30; with_reducible refine (cy _ _ hk.bel hk.out ?_).mono ?_; (have := RM.out; simp only [List.length_append, List.length_cons, List.length_nil] at this ⊢; omega); rintro e w2 ⟨rfl, hO2, hC2⟩; have hk := hk.step hO2 hC2; obtain ⟨y0, y1, y2, y3⟩ := hk.var.cell; obtain ⟨d0, d1, d2, d3, d4, d5, d6, d7⟩ := hcl _ hk.bel)
      | (go_at_call 30; with_reducible refine (cx _ _ hk.bel hk.out ?_).mono ?_; (have := RM.out; simp only [List.length_append, List.length_cons, List.length_nil] at this ⊢; omega); rintro e w2 ⟨rfl, hO2, hC2⟩; have hk := hk.step hO2 hC2; obtain ⟨y0, y1, y2, y3⟩ := hk.var.cell; obtain ⟨d0, d1, d2, d3, d4, d5, d6, d7⟩ := hcl _ hk.bel))
    refine bodyPost_end (v := .tuple #[]) ?_ rfl ⟨rfl, ?_, hk.ch⟩
    · simp [results, Tryz.results55]
    · have := hk.out
      simpa [List.append_assoc] using this
  · rw [if_neg h14] at hmid
    subst hmid
    have RM : Hid (L.length + (X ++ ([32] ++ (SG ++ [32])) ++ Y).length ≤ 1099511627776) := room
    have f14 : ((k : Int) == 14) = false := beq_eq_false_iff_ne.2 h14
    have g14 : ((k : Int) != 14) = true := by simp [h14]
    clear room hsl
    go_enter Tryz.func55, Tryz.ntmps55
    have hk := hk _ rfl
    have sg := hsg _ hk.bel
    obtain ⟨d0, d1, d2, d3, d4, d5, d6, d7⟩ := hcl _ hk.bel
    go_wp2_with (first
      | (refine put_step hk rfl _ _ _ rfl rfl [32] rfl (by have := RM.out; simp only [List.length_append, List.length_cons, List.length_nil] at this ⊢; omega) ?_; intro w2 hk; obtain ⟨y0, y1, y2, y3⟩ := hk.var.cell; obtain ⟨d0, d1, d2, d3, d4, d5, d6, d7⟩ := hcl _ hk.bel)
      | (refine put_step hk rfl _ _ _ rfl rfl (SG ++ [32]) (by simp only [Act.eval]; simp [ba_one]) (by have := RM.out; simp only [List.length_append, List.length_cons, List.length_nil] at this ⊢; omega) ?_; intro w2 hk; obtain ⟨y0, y1, y2, y3⟩ := hk.var.cell; obtain ⟨d0, d1, d2, d3, d4, d5, d6, d7⟩ := hcl _ hk.bel)
      | (go_at_call 30; with_reducible refine (cy _ _ hk.bel hk.out ?_).mono ?_; (have := RM.out; simp only [List.length_append, List.length_cons, List.length_nil] at this ⊢; omega); rintro e w2 ⟨rfl, hO2, hC2⟩; have hk := hk.step hO2 hC2; obtain ⟨y0, y1, y2, y3⟩ := hk.var.cell; obtain ⟨d0, d1, d2, d3, d4, d5, d6, d7⟩ := hcl _ hk.bel)
      | (go_at_call 30; with_reducible refine (cx _ _ hk.bel hk.out ?_).mono ?_; (have := RM.out; simp only [List.length_append, List.length_cons, List.length_nil] at this ⊢; omega); rintro e w2 ⟨rfl, hO2, hC2⟩; have hk := hk.step hO2 hC2; obtain ⟨y0, y1, y2, y3⟩ := hk.var.cell; obtain ⟨d0, d1, d2, d3, d4, d5, d6, d7⟩ := hcl _ hk.bel))
    refine bodyPost_end (v := .tuple #[]) ?_ rfl ⟨rfl, ?_, hk.ch⟩
    · simp [results, Tryz.results55]
    · have := hk.out
      simpa [List.append_assoc] using this

end Ty
end Go.Proofs.YtcdmilpncngdoaaGreatDoor

