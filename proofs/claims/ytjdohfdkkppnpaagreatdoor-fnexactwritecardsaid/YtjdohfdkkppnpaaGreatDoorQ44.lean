/-
  What is written of rules: writeRule, Write.
-/
import Derived.Test.YtjdohfdkkppnpaaGreatDoorQ40
import Derived.Test.YtjdohfdkkppnpaaGreatDoorQ43
namespace Go.Proofs.YtjdohfdkkppnpaaGreatDoor
open Go.RowKit
namespace Ty
open Nd
set_option linter.unusedSimpArgs false
set_option linter.unusedVariables false

structure Wk9 (W0 : World) (p q : Nat) (w0 : World) (L : List UInt8) (v0 v1 v2 v3 v4 v5 v6 v7 v8 : Value) (w : World) : Prop where
  bel : Below W0.heap.size W0 w
  out : Out W0.heap.size p L w
  ch : Ch W0.heap.size p w0 w
  var : Box9 w q v0 v1 v2 v3 v4 v5 v6 v7 v8
  ne : q ≠ p
theorem Box9.later {B p q : Nat} {w w' : World} {v0 v1 v2 v3 v4 v5 v6 v7 v8 : Value} (h : Box9 w q v0 v1 v2 v3 v4 v5 v6 v7 v8) (hq : q ≠ p) (hc : Ch B p w w') : Box9 w' q v0 v1 v2 v3 v4 v5 v6 v7 v8 :=
  h.kept (hc.own q h.lt hq fun cur fr e => by
    rw [h] at e
    simp at e)
theorem Wk9.step {W0 : World} {p q : Nat} {w0 w w' : World} {L L' : List UInt8} {v0 v1 v2 v3 v4 v5 v6 v7 v8 : Value} (h : Wk9 W0 p q w0 L v0 v1 v2 v3 v4 v5 v6 v7 v8 w) (hO : Out W0.heap.size p L' w') (hC : Ch W0.heap.size p w w') : Wk9 W0 p q w0 L' v0 v1 v2 v3 v4 v5 v6 v7 v8 w' :=
  ⟨h.bel.trans hC.below, hO, h.ch.trans hC, Box9.later h.var h.ne hC, h.ne⟩
theorem wk9_new {W0 : World} {p : Nat} {w : World} {L : List UInt8} {v0 v1 v2 v3 v4 v5 v6 v7 v8 : Value} (hb : Below W0.heap.size W0 w) (hO : Out W0.heap.size p L w) (o : Obj) (ho : o = .cells #[v0, v1, v2, v3, v4, v5, v6, v7, v8] 41) : Wk9 W0 p w.heap.size w L v0 v1 v2 v3 v4 v5 v6 v7 v8 (w.alloc o) := by
  have h1 : Below w.heap.size w (w.alloc o) := (Below.refl _ w).alloc (Nat.le_refl _) _
  refine ⟨hb.trans (h1.mono hb.size), hO.kept h1, ch_below hO.room h1, ?_, fun e => by have := hO.lt.2; omega⟩
  subst ho
  exact heap_new _ _
theorem put_step9 {W0 : World} {p q : Nat} {w0 w : World} {L : List UInt8} {v0 v1 v2 v3 v4 v5 v6 v7 v8 : Value} (hk : Wk9 W0 p q w0 L v0 v1 v2 v3 v4 v5 v6 v7 v8 w) {ops : Array Oper} {rest : List Oper} {o : Oper} {act : Act} {Q : Exit → Act → World → Prop} (hg : o.guard = none) (x : Nat) (y : Operand) (t : TypeId) (hop : o.op = Op.call { callee := Callee.value (.tmp x), args := #[y], argTypes := #[t] })
    (hx : act.eval (.tmp x) = PutV p) (s : List UInt8) (hy : act.eval y = .string ⟨s.toArray⟩) (room : L.length + s.length ≤ 1099511627776)
    (hnext : ∀ w', Wk9 W0 p q w0 (L ++ s) v0 v1 v2 v3 v4 v5 v6 v7 v8 w' → wpList Tryz.prog ops Q rest (act.put o.dst (.tuple #[])) w') : wpList Tryz.prog ops Q (o :: rest) act w := by
  refine wpList_call_fn1 hg x y t hop 18 #[.pointer (some ⟨p, 0, none⟩)] hx enterPut _ hy ?_
  refine (iPutL hk.out s room).mono ?_
  rintro e w' ⟨rfl, hO, hC⟩
  exact ⟨_, rfl, hnext w' (hk.step hO hC)⟩

theorem rule_parts {r : Ru} (h : ruleB r = true) : opOf r.2.2 = 29 ∧ allB r.2.2 = true ∧ ((r.1 = 1) ∨ (r.1 = 2) ∨ (r.1 = 3 ∧ eB (opOf r.2.1) = true ∧ allB r.2.1 = true)) := by
  unfold ruleB at h
  rw [Bool.and_eq_true, Bool.and_eq_true] at h
  obtain ⟨⟨h1, h2⟩, h3⟩ := h
  unfold treeB at h2
  rw [Bool.and_eq_true] at h2
  refine ⟨by simpa [blB] using h1, h2.2, ?_⟩
  by_cases h12 : r.1 = 1 ∨ r.1 = 2
  · rcases h12 with e | e
    · exact .inl e
    · exact .inr (.inl e)
  · rw [if_neg h12] at h3
    by_cases h33 : r.1 = 3
    · rw [if_pos h33, Bool.and_eq_true] at h3
      obtain ⟨ha, hb⟩ := h3
      unfold treeB at hb
      rw [Bool.and_eq_true] at hb
      exact .inr (.inr ⟨h33, ha, hb.2⟩)
    · rw [if_neg h33] at h3; cases h3

set_option maxHeartbeats 2000000 in
set_option maxRecDepth 100000 in
theorem iWriteRule {W0 : World} (hG : Gl W0) {r : Ru} (hr : ruleB r = true) (hsp : siz r.2.1 ≤ 1048576) (hsb : siz r.2.2 ≤ 1048576) {p0 p1 p2 p3 b0 b1 b2 b3 : Value} (hap : ArgIs W0 r.2.1 [p0, p1, p2, p3]) (hab : ArgIs W0 r.2.2 [b0, b1, b2, b3])
    (p : Nat) (L : List UInt8) (w : World) (hb : Below W0.heap.size W0 w) (hO : Out W0.heap.size p L w) (room : L.length + (ruleT r).length ≤ 1099511627776) :
    Calls Tryz.prog 19 #[PutV p, .agg #[.int .i64 r.1, p0, p1, p2, p3, b0, b1, b2, b3]] w fun e w' => e = .returned (.tuple #[]) ∧ Out W0.heap.size p (L ++ ruleT r) w' ∧ Ch W0.heap.size p w w' := by
  obtain ⟨h29, hallb, hway⟩ := rule_parts hr
  have cB := fun L w' => ((iStatement hG r.2.2 hallb (by rw [h29]; rfl) hsb).2 h29) p L w' _ _ _ _ hab
  have cP := fun (he : eB (opOf r.2.1) = true) (ha : allB r.2.1 = true) L w' => (iWriteE hG r.2.1 ha he hsp) p L w' _ _ _ _ hap
  obtain ⟨pao, pcap, rfl, rfl, rfl, rfl, -, -⟩ := arg_open hap
  obtain ⟨bao, bcap, rfl, rfl, rfl, rfl, -, -⟩ := arg_open hab
  have hk := fun oo ho => wk9_new (v0 := .int .i64 r.1) (v1 := .int .i64 (opOf r.2.1)) (v2 := .int .i64 (numOf r.2.1)) (v3 := .string ⟨(txtOf r.2.1).toArray⟩) (v4 := .slice pao (kidsOf r.2.1).length pcap) (v5 := .int .i64 (opOf r.2.2)) (v6 := .int .i64 (numOf r.2.2)) (v7 := .string ⟨(txtOf r.2.2).toArray⟩) (v8 := .slice bao (kidsOf r.2.2).length bcap) hb hO oo ho
  have HT : Hid (ruleT r = (if r.1 = 1 then [66, 69, 71, 73, 78, 32] else if r.1 = 3 then eT r.2.1 ++ [32] else []) ++ stT r.2.2 ++ [10]) := rfl
  have RM : Hid (L.length + (ruleT r).length ≤ 1099511627776) := room
  clear hap hab hallb hr hG hsp hsb room h29
  generalize ruleT r = T at *
  generalize eT r.2.1 = X at *
  generalize stT r.2.2 = Y at *
  generalize hpE : eB (opOf r.2.1) = PE at *
  generalize opOf r.2.1 = q1 at *
  generalize numOf r.2.1 = q2 at *
  generalize txtOf r.2.1 = q3 at *
  generalize (kidsOf r.2.1).length = q4 at *
  generalize opOf r.2.2 = q5 at *
  generalize numOf r.2.2 = q6 at *
  generalize txtOf r.2.2 = q7 at *
  generalize (kidsOf r.2.2).length = q8 at *
  generalize hkd : r.1 = kd at *
  unfold PutV at *
  rcases hway with rfl | rfl | ⟨rfl, he, ha⟩
  · have HT : Hid (T = [66, 69, 71, 73, 78, 32] ++ Y ++ [10]) := HT
    have RM : Hid (L.length + ([66, 69, 71, 73, 78, 32] ++ Y ++ [10]).length ≤ 1099511627776) := by rw [← HT.out]; exact RM.out
    go_enter_defers Tryz.func19, Tryz.ntmps19
    have hk := hk _ rfl
    go_wp2_with (first
      | (refine put_step9 hk rfl _ _ _ rfl rfl _ rfl (by have := RM.out; simp only [List.length_append, List.length_cons, List.length_nil] at this ⊢; omega) ?_; intro w2 hk; obtain ⟨y0, y1, y2, y3, y4, y5, y6, y7, y8⟩ := hk.var.cell)
      | (go_at_call 46; refine (cB _ _ hk.bel hk.out ?_).mono ?_; (have := RM.out; simp only [List.length_append, List.length_cons, List.length_nil] at this ⊢; omega); rintro e w2 ⟨rfl, hO2, hC2⟩; have hk := hk.step hO2 hC2))
    refine leave_put [10] hk.out (by have := RM.out; simp only [List.length_append, List.length_cons, List.length_nil] at this ⊢; omega) (fun w => by simp [results, Tryz.results19]) fun w' hO3 hC3 => ⟨rfl, ?_, hk.ch.trans hC3⟩
    rw [HT.out]
    simpa [List.append_assoc] using hO3
  · have HT : Hid (T = Y ++ [10]) := by show _ = _; rw [HT.out]; simp
    have RM : Hid (L.length + (Y ++ [10]).length ≤ 1099511627776) := by rw [← HT.out]; exact RM.out
    go_enter_defers Tryz.func19, Tryz.ntmps19
    have hk := hk _ rfl
    go_wp2_with (first
      | (go_at_call 46; refine (cB _ _ hk.bel hk.out ?_).mono ?_; (have := RM.out; simp only [List.length_append, List.length_cons, List.length_nil] at this ⊢; omega); rintro e w2 ⟨rfl, hO2, hC2⟩; have hk := hk.step hO2 hC2))
    refine leave_put [10] hk.out (by have := RM.out; simp only [List.length_append, List.length_cons, List.length_nil] at this ⊢; omega) (fun w => by simp [results, Tryz.results19]) fun w' hO3 hC3 => ⟨rfl, ?_, hk.ch.trans hC3⟩
    rw [HT.out]
    simpa [List.append_assoc] using hO3
  · have HT : Hid (T = X ++ [32] ++ Y ++ [10]) := by show _ = _; rw [HT.out]; simp
    have RM : Hid (L.length + (X ++ [32] ++ Y ++ [10]).length ≤ 1099511627776) := by rw [← HT.out]; exact RM.out
    have cP := cP he ha
    go_enter_defers Tryz.func19, Tryz.ntmps19
    have hk := hk _ rfl
    go_wp2_with (first
      | (refine put_step9 hk rfl _ _ _ rfl rfl _ rfl (by have := RM.out; simp only [List.length_append, List.length_cons, List.length_nil] at this ⊢; omega) ?_; intro w2 hk; obtain ⟨y0, y1, y2, y3, y4, y5, y6, y7, y8⟩ := hk.var.cell)
      | (go_at_call 45; refine (cP _ _ hk.bel hk.out ?_).mono ?_; (have := RM.out; simp only [List.length_append, List.length_cons, List.length_nil] at this ⊢; omega); rintro e w2 ⟨rfl, hO2, hC2⟩; have hk := hk.step hO2 hC2; obtain ⟨y0, y1, y2, y3, y4, y5, y6, y7, y8⟩ := hk.var.cell)
      | (go_at_call 46; refine (cB _ _ hk.bel hk.out ?_).mono ?_; (have := RM.out; simp only [List.length_append, List.length_cons, List.length_nil] at this ⊢; omega); rintro e w2 ⟨rfl, hO2, hC2⟩; have hk := hk.step hO2 hC2))
    refine leave_put [10] hk.out (by have := RM.out; simp only [List.length_append, List.length_cons, List.length_nil] at this ⊢; omega) (fun w => by simp [results, Tryz.results19]) fun w' hO3 hC3 => ⟨rfl, ?_, hk.ch.trans hC3⟩
    rw [HT.out]
    simpa [List.append_assoc] using hO3

end Ty
end Go.Proofs.YtjdohfdkkppnpaaGreatDoor

