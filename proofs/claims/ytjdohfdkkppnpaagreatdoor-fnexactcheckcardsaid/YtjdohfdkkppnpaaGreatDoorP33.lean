/-
  Rules in the heap: what may be asked of them.
-/
import Derived.Test.YtjdohfdkkppnpaaGreatDoorP05
import Derived.Test.YtjdohfdkkppnpaaGreatDoorP32
namespace Go.Proofs.YtjdohfdkkppnpaaGreatDoor
open Go.RowKit
namespace Ty
open Nd

/-- What may be asked of the nodes of a rule, from a world on. -/
structure RuleOk (W0 : World) (r : Ru) (vp vb : Value) : Prop where
  blk : ∀ w', Below W0.heap.size W0 w' → Calls Tryz.prog 78 #[vb] w' fun e w'' => e = .returned (.bool (blB (opOf r.2.2))) ∧ Below W0.heap.size W0 w''
  treeb : ∀ w', Below W0.heap.size W0 w' → Calls Tryz.prog 79 #[vb] w' fun e w'' => e = .returned (.bool (treeB r.2.2)) ∧ Below W0.heap.size W0 w''
  treep : ∀ w', Below W0.heap.size W0 w' → Calls Tryz.prog 79 #[vp] w' fun e w'' => e = .returned (.bool (treeB r.2.1)) ∧ Below W0.heap.size W0 w''
  zero : ∀ w', Below W0.heap.size W0 w' → Calls Tryz.prog 80 #[vp] w' fun e w'' => e = .returned (.bool (zeroB r.2.1)) ∧ Below W0.heap.size W0 w''
  ise : ∀ w', Below W0.heap.size W0 w' → Calls Tryz.prog 81 #[vp] w' fun e w'' => e = .returned (.bool (eB (opOf r.2.1))) ∧ Below W0.heap.size W0 w''

theorem ruleOk_of {W0 : World} {r : Ru} {S : Nat → Prop} {p0 p1 p2 p3 b0 b1 b2 b3 : Value} (hS : Sen W0) (hsp : siz r.2.1 ≤ 1048576) (hsb : siz r.2.2 ≤ 1048576) (hlt : ∀ k, S k → k < W0.heap.size) (hp : NodeIs W0 r.2.1 S [p0, p1, p2, p3]) (hb : NodeIs W0 r.2.2 S [b0, b1, b2, b3]) : RuleOk W0 r (.agg #[p0, p1, p2, p3]) (.agg #[b0, b1, b2, b3]) := by
  have up : ∀ {f : Nat} {v : Value} {x : Bool} (w' : World) (_ : Below W0.heap.size W0 w') (_ : Calls Tryz.prog f #[v] w' fun e w'' => e = .returned (.bool x) ∧ Below w'.heap.size w' w''), Calls Tryz.prog f #[v] w' fun e w'' => e = .returned (.bool x) ∧ Below W0.heap.size W0 w'' := by
    intro f v x w' hb h
    refine h.mono ?_
    rintro e w'' ⟨rfl, hb2⟩
    exact ⟨rfl, hb.trans (hb2.mono hb.size)⟩
  have fp : ∀ w', Below W0.heap.size W0 w' → NodeIs w' r.2.1 S [p0, p1, p2, p3] := fun w' h => node_frame _ _ _ (fun k hk => h.block k (hlt k hk)) hp
  have fb : ∀ w', Below W0.heap.size W0 w' → NodeIs w' r.2.2 S [b0, b1, b2, b3] := fun w' h => node_frame _ _ _ (fun k hk => h.block k (hlt k hk)) hb
  have lt : ∀ w', Below W0.heap.size W0 w' → ∀ k, S k → k < w'.heap.size := fun w' h k hk => Nat.lt_of_lt_of_le (hlt k hk) h.size
  exact {
    blk := fun w' h => up w' h (iIsBlock _ w' _ _ _ _ (hS.later h) (arg_of_node _ hsb _ _ (fb w' h)))
    treeb := fun w' h => up w' h (iTreeTidy hsb (hS.later h) (fb w' h) (lt w' h))
    treep := fun w' h => up w' h (iTreeTidy hsp (hS.later h) (fp w' h) (lt w' h))
    zero := fun w' h => up w' h (iIsZero _ w' _ _ _ _ (hS.later h) (arg_of_node _ hsp _ _ (fp w' h)))
    ise := fun w' h => up w' h (iIsE _ w' _ _ _ _ (hS.later h) (arg_of_node _ hsp _ _ (fp w' h))) }

theorem rule_eq (r : Ru) : ruleB r = ((blB (opOf r.2.2) && treeB r.2.2) && (if r.1 = 1 ∨ r.1 = 2 then zeroB r.2.1 else if r.1 = 3 then eB (opOf r.2.1) && treeB r.2.1 else false)) := rfl

set_option maxHeartbeats 1000000 in
theorem iRuleTidy {w : World} {r : Ru} {S : Nat → Prop} {p0 p1 p2 p3 b0 b1 b2 b3 : Value} (hS : Sen w) (hsp : siz r.2.1 ≤ 1048576) (hsb : siz r.2.2 ≤ 1048576) (hlt : ∀ k, S k → k < w.heap.size) (hp : NodeIs w r.2.1 S [p0, p1, p2, p3]) (hb : NodeIs w r.2.2 S [b0, b1, b2, b3]) :
    Calls Tryz.prog 44 #[.agg #[.int .i64 r.1, p0, p1, p2, p3, b0, b1, b2, b3]] w fun e w' => e = .returned (.bool (ruleB r)) ∧ Below w.heap.size w w' := by
  obtain ⟨pop, pn, ps, pao, pcap, pxs, -, rfl, rfl, rfl, rfl, -, -, -⟩ := node_form hp
  obtain ⟨bop, bn, bs, bao, bcap, bxs, -, rfl, rfl, rfl, rfl, -, -, -⟩ := node_form hb
  generalize (kidsOf r.2.1).length = pL at *
  generalize (kidsOf r.2.2).length = bL at *
  obtain ⟨o, ho⟩ : ∃ o, o = Obj.cells #[.int .i64 r.1, .int .i64 pop, .int .i64 pn, .string ⟨ps.toArray⟩, .slice pao pL pcap, .int .i64 bop, .int .i64 bn, .string ⟨bs.toArray⟩, .slice bao bL bcap] 41 := ⟨_, rfl⟩
  have hb0 : Below w.heap.size w (w.alloc o) := (Below.refl _ w).alloc (Nat.le_refl _) _
  have hk := ruleOk_of (W0 := w.alloc o) (r := r) (S := S) (hS.alloc o) hsp hsb (fun k hk => Nat.lt_of_lt_of_le (hlt k hk) hb0.size) (node_frame _ _ _ (fun k hk => hb0.block k (hlt k hk)) hp) (node_frame _ _ _ (fun k hk => hb0.block k (hlt k hk)) hb)
  have hcell : ∀ w', Below (w.alloc o).heap.size (w.alloc o) w' → _ := fun w' h => ((show Box9 (w.alloc o) w.heap.size (.int .i64 r.1) (.int .i64 pop) (.int .i64 pn) (.string ⟨ps.toArray⟩) (.slice pao pL pcap) (.int .i64 bop) (.int .i64 bn) (.string ⟨bs.toArray⟩) (.slice bao bL bcap) by rw [ho]; exact heap_new _ _).kept (h.block _ (by simp))).cell
  have hr := Below.refl (w.alloc o).heap.size (w.alloc o)
  obtain ⟨cblk, ctb, ctp, cz, ce⟩ := hk
  have H : Hid (ruleB r = _) := rule_eq r
  obtain ⟨k, p, b⟩ := r
  simp only at *
  clear hp hb hlt hsp hsb hS
  generalize ruleB (k, p, b) = E at *
  generalize blB (opOf b) = B1 at *
  generalize treeB b = B2 at *
  generalize treeB p = B3 at *
  generalize eB (opOf p) = B4 at *
  generalize zeroB p = B5 at *
  subst ho
  cases B1
  · go_enter Tryz.func44, Tryz.ntmps44
    go_wp2_with (go_at_call 78; refine (cblk _ hr).mono ?_; rintro e w2 ⟨rfl, hb2⟩)
    go_ret
    exact ⟨by rw [H.out]; simp, hb0.trans (hb2.mono hb0.size)⟩
  cases B2
  · go_enter Tryz.func44, Tryz.ntmps44
    go_wp2_with (first
      | (go_at_call 78; refine (cblk _ hr).mono ?_; rintro e w2 ⟨rfl, hb2⟩; obtain ⟨x0, x1, x2, x3, x4, x5, x6, x7, x8⟩ := hcell _ hb2)
      | (go_at_call 79; refine (ctb _ hb2).mono ?_; rintro e w3 ⟨rfl, hb3⟩))
    go_ret
    exact ⟨by rw [H.out]; simp, hb0.trans (hb3.mono hb0.size)⟩
  simp only [Bool.and_self, Bool.true_and] at H
  by_cases h12 : k = 1 ∨ k = 2
  · rw [if_pos h12] at H
    rcases h12 with rfl | rfl
    all_goals
      go_enter Tryz.func44, Tryz.ntmps44
      go_wp2_with (first
        | (go_at_call 78; refine (cblk _ hr).mono ?_; rintro e w2 ⟨rfl, hb2⟩; obtain ⟨x0, x1, x2, x3, x4, x5, x6, x7, x8⟩ := hcell _ hb2)
        | (go_at_call 79; refine (ctb _ hb2).mono ?_; rintro e w3 ⟨rfl, hb3⟩; obtain ⟨y0, y1, y2, y3, y4, y5, y6, y7, y8⟩ := hcell _ hb3)
        | (go_at_call 80; refine (cz _ hb3).mono ?_; rintro e w4 ⟨rfl, hb4⟩))
      go_ret
      exact ⟨by rw [H.out]; rfl, hb0.trans (hb4.mono hb0.size)⟩
  rw [if_neg h12] at H
  have f1 : (k == 1) = false := beq_eq_false_iff_ne.2 (by omega)
  have f2 : (k == 2) = false := beq_eq_false_iff_ne.2 (by omega)
  by_cases h3 : k = 3
  · rw [if_pos h3] at H
    subst h3
    cases B4
    · go_enter Tryz.func44, Tryz.ntmps44
      go_wp2_with (first
        | (go_at_call 78; refine (cblk _ hr).mono ?_; rintro e w2 ⟨rfl, hb2⟩; obtain ⟨x0, x1, x2, x3, x4, x5, x6, x7, x8⟩ := hcell _ hb2)
        | (go_at_call 79; refine (ctb _ hb2).mono ?_; rintro e w3 ⟨rfl, hb3⟩; obtain ⟨y0, y1, y2, y3, y4, y5, y6, y7, y8⟩ := hcell _ hb3)
        | (go_at_call 81; refine (ce _ hb3).mono ?_; rintro e w4 ⟨rfl, hb4⟩))
      go_ret
      exact ⟨by rw [H.out]; rfl, hb0.trans (hb4.mono hb0.size)⟩
    · go_enter Tryz.func44, Tryz.ntmps44
      go_wp2_with (first
        | (go_at_call 78; refine (cblk _ hr).mono ?_; rintro e w2 ⟨rfl, hb2⟩; obtain ⟨x0, x1, x2, x3, x4, x5, x6, x7, x8⟩ := hcell _ hb2)
        | (go_at_call 79; with_reducible refine (ctp _ hb4).mono ?_; rintro e w5 ⟨rfl, hb5⟩)
        | (go_at_call 79; refine (ctb _ hb2).mono ?_; rintro e w3 ⟨rfl, hb3⟩; obtain ⟨y0, y1, y2, y3, y4, y5, y6, y7, y8⟩ := hcell _ hb3)
        | (go_at_call 81; refine (ce _ hb3).mono ?_; rintro e w4 ⟨rfl, hb4⟩; obtain ⟨z0, z1, z2, z3, z4, z5, z6, z7, z8⟩ := hcell _ hb4))
      go_ret
      exact ⟨by rw [H.out]; rfl, hb0.trans (hb5.mono hb0.size)⟩
  · rw [if_neg h3] at H
    have f3 : (k == 3) = false := beq_eq_false_iff_ne.2 h3
    go_enter Tryz.func44, Tryz.ntmps44
    go_wp2_with (first
      | (go_at_call 78; refine (cblk _ hr).mono ?_; rintro e w2 ⟨rfl, hb2⟩; obtain ⟨x0, x1, x2, x3, x4, x5, x6, x7, x8⟩ := hcell _ hb2)
      | (go_at_call 79; refine (ctb _ hb2).mono ?_; rintro e w3 ⟨rfl, hb3⟩; obtain ⟨y0, y1, y2, y3, y4, y5, y6, y7, y8⟩ := hcell _ hb3))
    go_ret
    exact ⟨by rw [H.out]; rfl, hb0.trans (hb3.mono hb0.size)⟩

set_option maxRecDepth 100000 in
theorem iTidy {w : World} {rs : List Ru} {S : Nat → Prop} {v : Value} {xs : List Value} {B : Nat} (hS : Sen w) (hsz : sizR rs ≤ 1048576) (hlt : ∀ k, S k → k < w.heap.size) (ho : w.ownsRow B 41 9 v rs.length xs) (hR : RulesIs w S rs xs) :
    Calls Tryz.prog 17 #[v] w fun e w' => e = .returned (.bool (tidyB rs)) ∧ Below w.heap.size w w' := by
  obtain ⟨ao, cap, rfl⟩ := owns_slice ho
  have bn : (rs.length : Int) ≤ 1048576 := by have := sizR_len rs; omega
  go_enter Tryz.func17, Tryz.ntmps17
  go_wp2_with fail
  go_loopw [7] (fun i wr => ∃ k : Nat, k ≤ rs.length ∧ i = .int .i64 k ∧ tidyB rs = tidyB (rs.drop k) ∧ Below w.heap.size w wr) (fun i _ => rs.length - (intOf i).toNat)
  case atStart => exact ⟨0, Nat.zero_le _, rfl, rfl, Below.refl _ _⟩
  case round =>
    obtain ⟨k, hkn, rfl, hall, hb⟩ := hrel
    by_cases hkl : k < rs.length
    · have hki : rs[k]? = some rs[k] := List.getElem?_eq_getElem hkl
      obtain ⟨p0, p1, p2, p3, b0, b1, b2, b3, e0, e1, e2, e3, e4, e5, e6, e7, e8, hp, hbd⟩ := rules_at hR hki
      obtain ⟨g, rfl, hg, hc⟩ := row_cells ho hkl
      have cc : ∀ j x, xs[j]? = some x → wr.cell? ⟨g, j, none⟩ = some x := fun j x hx => (hb.cell (p := ⟨g, j, none⟩) hg).trans (hc j x hx)
      have c0 := cc _ _ e0
      have c1 := cc _ _ e1
      have c2 := cc _ _ e2
      have c3 := cc _ _ e3
      have c4 := cc _ _ e4
      have c5 := cc _ _ e5
      have c6 := cc _ _ e6
      have c7 := cc _ _ e7
      have c8 := cc _ _ e8
      have hszr := sizR_mem (List.getElem_mem hkl)
      have hbo : ∀ o, Below w.heap.size w (wr.alloc o) := fun o => hb.alloc hb.size _
      have call : ∀ o, Calls Tryz.prog 44 #[.agg #[.int .i64 rs[k].1, p0, p1, p2, p3, b0, b1, b2, b3]] (wr.alloc o) fun e w' => e = .returned (.bool (ruleB rs[k])) ∧ Below (wr.alloc o).heap.size (wr.alloc o) w' := fun o =>
        iRuleTidy (hS.later (hbo o)) (by omega) (by omega) (fun j hj => Nat.lt_of_lt_of_le (hlt j hj) (hbo o).size) (node_frame _ _ _ (fun j hj => (hbo o).block j (hlt j hj)) hp) (node_frame _ _ _ (fun j hj => (hbo o).block j (hlt j hj)) hbd)
      obtain ⟨pop, pn, ps, pao, pcap, pxs, -, rfl, rfl, rfl, rfl, -, -, -⟩ := node_form hp
      obtain ⟨bop, bn', bs, bao, bcap, bxs, -, rfl, rfl, rfl, rfl, -, -, -⟩ := node_form hbd
      have bk : (k : Int) < rs.length := by omega
      rw [List.drop_eq_getElem_cons hkl] at hall
      have HA : Hid (tidyB rs = (ruleB rs[k] && tidyB (rs.drop (k + 1)))) := hall.trans rfl
      clear hR ho hki hall e0 e1 e2 e3 e4 e5 e6 e7 e8 hp hbd hc cc hS hlt hszr hsz
      generalize ruleB rs[k] = Q at *
      generalize (kidsOf rs[k].2.1).length = pL at *
      generalize (kidsOf rs[k].2.2).length = bL at *
      generalize rs[k].1 = kd at *
      cases Q
      · go_wp2_with (go_at_call 44; refine (call _).mono ?_; rintro e w2 ⟨rfl, hb2⟩)
        go_ret
        exact ⟨by rw [HA.out]; rfl, (hbo _).trans (hb2.mono (hbo _).size)⟩
      · go_wp2_with (go_at_call 44; refine (call _).mono ?_; rintro e w2 ⟨rfl, hb2⟩)
        go_roundw
        case rel => exact ⟨k + 1, hkl, by go_num, HA.out, (hbo _).trans (hb2.mono (hbo _).size)⟩
        case measure => simp [intOf]; omega
    · obtain rfl : k = rs.length := by omega
      rw [List.drop_length] at hall
      have H : Hid (tidyB rs = true) := hall
      clear hall
      go_wp2_with fail
      go_ret
      exact ⟨by rw [H.out]; rfl, hb⟩

end Ty
end Go.Proofs.YtjdohfdkkppnpaaGreatDoor

