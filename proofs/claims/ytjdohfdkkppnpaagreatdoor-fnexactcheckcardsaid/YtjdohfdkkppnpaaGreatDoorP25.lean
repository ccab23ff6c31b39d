/-
  The program's reasons about names.
  The program's finders: what is amiss by one code each.
-/
import Derived.Test.YtjdohfdkkppnpaaGreatDoorP24
namespace Go.Proofs.YtjdohfdkkppnpaaGreatDoor
open Go.RowKit
namespace Ck
open Nd Ty

theorem set_perm {w : World} {b : Nat} {ns : List (List UInt8)} (h : SetIs w b ns) : (ascS ns).Perm (strKeys (Maps.setOf (H := Unit) (.agg []) (ns.map Lit.string))) := by
  obtain ⟨es, hD, hk⟩ := World.ownsMap.keysOf h
  obtain ⟨es', hD', hpair⟩ := World.ownsMap.tidy h (Maps.string_keyed Tryz.underlying9)
  obtain rfl : es = es' := by rw [hD] at hD'; cases hD'; rfl
  rw [hD]
  refine perm_strKeys hpair (fun p hp => ?_) (asc_nodup (ascS_asc ns)) fun x => ?_
  · obtain ⟨key, hkey⟩ := hk p hp
    obtain ⟨x, _, hx, _⟩ := Maps.keyOf_str Tryz.underlying9 hkey
    exact ⟨x, hx⟩
  · rw [ascS_mem, ← hD, Maps.has_setOf _ _ _ (fun x hx => by obtain ⟨y, _, rfl⟩ := List.mem_map.1 hx; trivial), List.any_eq_true]
    constructor
    · intro hx
      exact ⟨_, List.mem_map.2 ⟨x, hx, rfl⟩, (WideAt.sameKey_iff (by trivial)).2 rfl⟩
    · rintro ⟨y, hy, he⟩
      obtain ⟨z, hz, rfl⟩ := List.mem_map.1 hy
      have := (WideAt.sameKey_iff (by trivial)).1 he
      cases this
      exact hz
theorem set_size {w : World} {b : Nat} {ns : List (List UInt8)} (h : SetIs w b ns) : Maps.size (Maps.setOf (H := Unit) (.agg []) (ns.map Lit.string)) = (ascS ns).length := by
  have hp := (set_perm h).length_eq
  obtain ⟨es, hD, _⟩ := World.ownsMap.keysOf h
  rw [hD] at hp ⊢
  rw [hp, Maps.size_eq]
  simp [strKeys]
theorem set_has (ns : List (List UInt8)) (x : List UInt8) : Maps.has (Maps.setOf (H := Unit) (.agg []) (ns.map Lit.string)) (.string x) = decide (x ∈ ns) := by
  rw [Maps.has_setOf _ _ _ (fun x hx => by obtain ⟨y, _, rfl⟩ := List.mem_map.1 hx; trivial)]
  by_cases h : x ∈ ns
  · rw [decide_eq_true h, List.any_eq_true]
    exact ⟨_, List.mem_map.2 ⟨x, h, rfl⟩, (WideAt.sameKey_iff (by trivial)).2 rfl⟩
  · rw [decide_eq_false h, List.any_eq_false]
    intro y hy he
    obtain ⟨z, hz, rfl⟩ := List.mem_map.1 hy
    have := (WideAt.sameKey_iff (by trivial)).1 he
    cases this
    exact h hz
theorem zeroUnit (w : World) : (zeroValue 116).run Tryz.prog w = .ok (.agg #[]) w := by kernel_rfl

set_option maxRecDepth 100000 in
theorem iTooMany {w : World} {bv bc : Nat} {vn cn : List (List UInt8)} (hv : SetIs w bv vn) (hc : SetIs w bc cn) (hl : vn.length ≤ 2600000) (hl2 : cn.length ≤ 2600000) :
    Calls Tryz.prog 55 #[.agg #[.map (some bv), .map (some bc)]] w fun e w' => e = .returned (.bool (decide (8 < (ascS vn).length) || decide (8 < (ascS cn).length))) ∧ Below w.heap.size w w' := by
  have h1 := foldl_len vn []
  have h2 := foldl_len cn []
  obtain ⟨o1, ho1⟩ : ∃ o1, o1 = Obj.cells #[.map (some bv), .map (some bc)] 81 := ⟨_, rfl⟩
  have hb : Below w.heap.size w (w.alloc o1) := (Below.refl _ w).alloc (Nat.le_refl _) _
  have l1 := World.ownsMap.len (World.ownsMap.alloc hv o1) Tryz.underlying79 3
  have l2 := World.ownsMap.len (World.ownsMap.alloc hc o1) Tryz.underlying79 3
  rw [set_size hv] at l1
  rw [set_size hc] at l2
  have b1 : (ascS vn).length ≤ 2600000 := by unfold ascS; simp at h1; omega
  have b2 : (ascS cn).length ≤ 2600000 := by unfold ascS; simp at h2; omega
  generalize (ascS vn).length = m at *
  generalize (ascS cn).length = n at *
  have e1 : decide (8 < m) = decide ((8 : Int) < m) := by by_cases h : 8 < m <;> simp [h] <;> omega
  have e2 : decide (8 < n) = decide ((8 : Int) < n) := by by_cases h : 8 < n <;> simp [h] <;> omega
  rw [e1, e2]
  have q1 : (m : Int) ≤ 2600000 := by omega
  have q2 : (n : Int) ≤ 2600000 := by omega
  subst ho1
  clear e1 e2 h1 h2 b1 b2 hl hl2 hv hc
  go_enter Tryz.func55, Tryz.ntmps55
  go_wp2_with fail
  all_goals (go_ret; refine ⟨?_, hb⟩; simp_all)

set_option maxRecDepth 100000 in
theorem iBoth {w : World} {bv bc : Nat} {vn cn : List (List UInt8)} {s : List UInt8} (hv : SetIs w bv vn) (hc : SetIs w bc cn) (hs : s.length ≤ 1048576) :
    Calls Tryz.prog 57 #[.agg #[.map (some bv), .map (some bc)], .string ⟨s.toArray⟩] w fun e w' => e = .returned (.bool (decide (s ∈ vn) && decide (s ∈ cn))) ∧ Below w.heap.size w w' := by
  have hkey := key_of hs
  have q1 := set_has vn s
  have q2 := set_has cn s
  obtain ⟨o1, ho1⟩ : ∃ o1, o1 = Obj.cells #[.map (some bv), .map (some bc)] 81 := ⟨_, rfl⟩
  have hv1 : SetIs (w.alloc o1) bv vn := World.ownsMap.alloc hv o1
  have hc1 : ∀ o, SetIs ((w.alloc o1).alloc o) bc cn := fun o => World.ownsMap.alloc (World.ownsMap.alloc hc o1) o
  have hbx : ∀ o, ((w.alloc o1).alloc o).cell? ⟨w.heap.size, 1, none⟩ = some (.map (some bc)) := fun o => by
    rw [World.cell?_alloc_lt _ _ ⟨w.heap.size, 1, none⟩ (by simp)]
    have hh := heap_new w o1
    unfold World.cell?
    simp only [hh]
    rw [ho1]
    rfl
  have hbx2 := hbx (.cells #[] 116)
  have look : ∀ (w' : World) (b : Nat) (ns : List (List UInt8)), SetIs w' b ns → (Instr.lookup 79 (.map (some b)) (.string ⟨s.toArray⟩) true).run Tryz.prog w' = .ok (.tuple #[.agg #[], .bool (decide (s ∈ ns))]) w' := fun w' b ns h => by
    obtain ⟨v, ps, hrun, hval⟩ := World.ownsMap.look_ok h (Maps.string_keyed Tryz.underlying9) Tryz.underlying79 (zeroUnit w') (unitElem_mk (H := Unit)) hkey
    obtain ⟨rfl, -⟩ := unitElem_inv hval
    rw [hrun, set_has]
  have k1 := look _ _ _ hv1
  have k2 := look _ _ _ (hc1 (.cells #[] 116))
  have hb2 : Below w.heap.size w (((w.alloc o1).alloc (.cells #[] 116)).alloc (.cells #[] 116)) := (((Below.refl _ w).alloc (Nat.le_refl _) _).alloc (by simp) _).alloc (by simp; omega) _
  generalize decide (s ∈ vn) = d1 at *
  generalize decide (s ∈ cn) = d2 at *
  subst ho1
  clear hbx look q1 q2 hc1 hv1
  go_enter Tryz.func57, Tryz.ntmps57
  go_wp2_with fail
  all_goals (go_ret; refine ⟨?_, hb2⟩; simp_all)

/-- What the two reasons about names keep. -/
def Kinds (bv bc kb : Nat) (p : List Data) (W : World) : Prop := SetIs W bv (varsIn p) ∧ SetIs W bc (cellsIn p) ∧ W.heap[kb]? = some (.cells #[.map (some bv), .map (some bc)] 81 (0, 0))

set_option maxRecDepth 100000 in
theorem iNames1 {W : World} {bv bc kb : Nat} {p : List Data} {t : Data} {S : Nat → Prop} {a b c u : Value} (hK : Kinds bv bc kb p W) (hne : bv ≠ bc) (hk1 : kb ≠ bv) (hk2 : kb ≠ bc) (h : NodeIs W t S [a, b, c, u]) (hsz : siz t ≤ 1048576) (hp : p.length ≤ 2500000) :
    Calls Tryz.prog 53 #[.agg #[a, b, c, u], .pointer (some ⟨kb, 0, none⟩)] W fun e W' => e = .returned (.bool (tooMany (p ++ [t]))) ∧ Kinds bv bc kb (p ++ [t]) W' ∧ Fr (fun k => k = bv ∨ k = bc) W W' := by
  obtain ⟨hv, hc, hb⟩ := hK
  have htl : (txtOf t).length ≤ 1048576 := by
    obtain ⟨op, n, s, ks, rfl⟩ := node_node h
    rw [siz_nd] at hsz
    show s.length ≤ _
    omega
  have hl1 := varsIn_len p
  have hl2 := cellsIn_len p
  obtain ⟨ao, cap, xs, rfl, rfl, rfl, rfl, -, -⟩ := op_form h
  obtain ⟨o1, ho1⟩ : ∃ o1, o1 = Obj.cells #[.int .i64 (opOf t), .int .i64 (numOf t), .string ⟨(txtOf t).toArray⟩, .slice ao (kidsOf t).length cap] 39 := ⟨_, rfl⟩
  have hb1 : Below W.heap.size W (W.alloc o1) := (Below.refl _ W).alloc (Nat.le_refl _) _
  have hkb : (W.alloc o1).heap[kb]? = some (.cells #[.map (some bv), .map (some bc)] 81 (0, 0)) := (hb1.block kb (heap_lt hb)).trans hb
  have k0 : (W.alloc o1).cell? ⟨kb, 0, none⟩ = some (.map (some bv)) := by simp [World.cell?, hkb]
  have k1 : (W.alloc o1).cell? ⟨kb, 1, none⟩ = some (.map (some bc)) := by simp [World.cell?, hkb]
  have call1 := iTake (op := opOf t) (n := numOf t) (ao := ao) (L := (kidsOf t).length) (cap := cap) (hv.same (hb1.block _ hv.lt)) (hc.same (hb1.block _ hc.lt)) hne htl (by omega) (by omega)
  have evs : varsIn p ++ varsT (opOf t) (txtOf t) = varsIn (p ++ [t]) := by rw [varsIn_append, varsIn_one]
  have ecs : cellsIn p ++ cellsT (opOf t) (txtOf t) = cellsIn (p ++ [t]) := by rw [cellsIn_append, cellsIn_one]
  rw [evs, ecs] at call1
  have call2 := fun (w' : World) (h1 : SetIs w' bv (varsIn (p ++ [t]))) (h2 : SetIs w' bc (cellsIn (p ++ [t]))) => iTooMany h1 h2 (by have := varsIn_len (p ++ [t]); simp at this; omega) (by have := cellsIn_len (p ++ [t]); simp at this; omega)
  have hF1 : Fr (fun k => k = bv ∨ k = bc) W (W.alloc o1) := fr_below hb1
  have HT : Hid (tooMany (p ++ [t]) = (decide (8 < (ascS (varsIn (p ++ [t]))).length) || decide (8 < (ascS (cellsIn (p ++ [t]))).length))) := rfl
  have hkbl := heap_lt hkb
  generalize tooMany (p ++ [t]) = R at *
  generalize (decide (8 < (ascS (varsIn (p ++ [t]))).length) || decide (8 < (ascS (cellsIn (p ++ [t]))).length)) = Q at *
  have hend : ∀ w3, SetIs w3 bv (varsIn (p ++ [t])) → SetIs w3 bc (cellsIn (p ++ [t])) → Fr (fun k => k = bv ∨ k = bc) (W.alloc o1) w3 → ∀ w4, Below w3.heap.size w3 w4 → Kinds bv bc kb (p ++ [t]) w4 ∧ Fr (fun k => k = bv ∨ k = bc) W w4 := fun w3 h1 h2 h3 w4 h4 =>
    ⟨⟨h1.same (h4.block _ h1.lt), h2.same (h4.block _ h2.lt), (h4.block kb (Nat.lt_of_lt_of_le hkbl h3.size)).trans ((h3.block kb hkbl (by omega)).trans hkb)⟩, (hF1.trans h3).trans (fr_below h4)⟩
  have hcell : ∀ w3, Fr (fun k => k = bv ∨ k = bc) (W.alloc o1) w3 → w3.cell? ⟨kb, 0, none⟩ = some (.map (some bv)) ∧ w3.cell? ⟨kb, 1, none⟩ = some (.map (some bc)) := fun w3 h3 => by
    have := (h3.block kb hkbl (by omega)).trans hkb
    simp [World.cell?, this]
  subst ho1
  clear h hv hc hb hb1 hkb evs ecs hF1
  go_enter Tryz.func53, Tryz.ntmps53
  go_wp2_with (first
    | (go_at_call 54; refine call1.mono ?_; rintro e w3 ⟨⟨rv, rfl⟩, s1, s2, s3⟩; obtain ⟨q0, q1⟩ := hcell w3 s3)
    | (go_at_call 55; refine (call2 _ s1 s2).mono ?_; rintro e w4 ⟨rfl, hb4⟩))
  go_ret
  exact ⟨by rw [HT.out]; rfl, hend w3 s1 s2 s3 w4 hb4⟩

set_option maxRecDepth 100000 in
theorem iKind1 {W : World} {bv bc kb : Nat} {p : List Data} {t : Data} {S : Nat → Prop} {a b c u : Value} (hK : Kinds bv bc kb p W) (hne : bv ≠ bc) (hk1 : kb ≠ bv) (hk2 : kb ≠ bc) (h : NodeIs W t S [a, b, c, u]) (hsz : siz t ≤ 1048576) (hp : p.length ≤ 2500000) :
    Calls Tryz.prog 56 #[.agg #[a, b, c, u], .pointer (some ⟨kb, 0, none⟩)] W fun e W' => e = .returned (.bool (bothB (p ++ [t]))) ∧ Kinds bv bc kb (p ++ [t]) W' ∧ Fr (fun k => k = bv ∨ k = bc) W W' := by
  obtain ⟨hv, hc, hb⟩ := hK
  have htl : (txtOf t).length ≤ 1048576 := by
    obtain ⟨op, n, s, ks, rfl⟩ := node_node h
    rw [siz_nd] at hsz
    show s.length ≤ _
    omega
  have hl1 := varsIn_len p
  have hl2 := cellsIn_len p
  obtain ⟨ao, cap, xs, rfl, rfl, rfl, rfl, -, -⟩ := op_form h
  obtain ⟨o1, ho1⟩ : ∃ o1, o1 = Obj.cells #[.int .i64 (opOf t), .int .i64 (numOf t), .string ⟨(txtOf t).toArray⟩, .slice ao (kidsOf t).length cap] 39 := ⟨_, rfl⟩
  have hb1 : Below W.heap.size W (W.alloc o1) := (Below.refl _ W).alloc (Nat.le_refl _) _
  have hnb : (W.alloc o1).heap[W.heap.size]? = some o1 := heap_new W o1
  have hkb : (W.alloc o1).heap[kb]? = some (.cells #[.map (some bv), .map (some bc)] 81 (0, 0)) := (hb1.block kb (heap_lt hb)).trans hb
  have k0 : (W.alloc o1).cell? ⟨kb, 0, none⟩ = some (.map (some bv)) := by simp [World.cell?, hkb]
  have k1 : (W.alloc o1).cell? ⟨kb, 1, none⟩ = some (.map (some bc)) := by simp [World.cell?, hkb]
  have hvl := hv.lt
  have hcl := hc.lt
  have call1 := iTake (op := opOf t) (n := numOf t) (ao := ao) (L := (kidsOf t).length) (cap := cap) (hv.same (hb1.block _ hv.lt)) (hc.same (hb1.block _ hc.lt)) hne htl (by omega) (by omega)
  have evs : varsIn p ++ varsT (opOf t) (txtOf t) = varsIn (p ++ [t]) := by rw [varsIn_append, varsIn_one]
  have ecs : cellsIn p ++ cellsT (opOf t) (txtOf t) = cellsIn (p ++ [t]) := by rw [cellsIn_append, cellsIn_one]
  rw [evs, ecs] at call1
  have call2 := fun (w' : World) (h1 : SetIs w' bv (varsIn (p ++ [t]))) (h2 : SetIs w' bc (cellsIn (p ++ [t]))) => iBoth h1 h2 htl
  have hF1 : Fr (fun k => k = bv ∨ k = bc) W (W.alloc o1) := fr_below hb1
  have HT : Hid (bothB (p ++ [t]) = (decide (txtOf t ∈ varsIn (p ++ [t])) && decide (txtOf t ∈ cellsIn (p ++ [t])))) := both_snoc p t
  have hkbl := heap_lt hkb
  generalize bothB (p ++ [t]) = R at *
  generalize (decide (txtOf t ∈ varsIn (p ++ [t])) && decide (txtOf t ∈ cellsIn (p ++ [t]))) = Q at *
  have hend : ∀ w3, SetIs w3 bv (varsIn (p ++ [t])) → SetIs w3 bc (cellsIn (p ++ [t])) → Fr (fun k => k = bv ∨ k = bc) (W.alloc o1) w3 → ∀ w4, Below w3.heap.size w3 w4 → Kinds bv bc kb (p ++ [t]) w4 ∧ Fr (fun k => k = bv ∨ k = bc) W w4 := fun w3 h1 h2 h3 w4 h4 =>
    ⟨⟨h1.same (h4.block _ h1.lt), h2.same (h4.block _ h2.lt), (h4.block kb (Nat.lt_of_lt_of_le hkbl h3.size)).trans ((h3.block kb hkbl (by omega)).trans hkb)⟩, (hF1.trans h3).trans (fr_below h4)⟩
  have hcell : ∀ w3, Fr (fun k => k = bv ∨ k = bc) (W.alloc o1) w3 → w3.cell? ⟨kb, 0, none⟩ = some (.map (some bv)) ∧ w3.cell? ⟨kb, 1, none⟩ = some (.map (some bc)) ∧ w3.cell? ⟨W.heap.size, 2, none⟩ = some (.string ⟨(txtOf t).toArray⟩) := fun w3 h3 => by
    have h1 := (h3.block kb hkbl (by omega)).trans hkb
    have h2 := (h3.block W.heap.size (by simp) (by omega)).trans hnb
    refine ⟨by simp [World.cell?, h1], by simp [World.cell?, h1], ?_⟩
    unfold World.cell?
    simp only [h2]
    rw [ho1]
    rfl
  subst ho1
  clear h hv hc hb hb1 hkb evs ecs hF1 hnb
  go_enter Tryz.func56, Tryz.ntmps56
  go_wp2_with (first
    | (go_at_call 54; refine call1.mono ?_; rintro e w3 ⟨⟨rv, rfl⟩, s1, s2, s3⟩; obtain ⟨q0, q1, q2⟩ := hcell w3 s3)
    | (go_at_call 57; refine (call2 _ s1 s2).mono ?_; rintro e w4 ⟨rfl, hb4⟩))
  go_ret
  exact ⟨by rw [HT.out]; rfl, hend w3 s1 s2 s3 w4 hb4⟩

end Ck
end Go.Proofs.YtjdohfdkkppnpaaGreatDoor

namespace Go.Proofs.YtjdohfdkkppnpaaGreatDoor
open Go.RowKit
namespace Ck
open Nd Ty

/-- Nothing is told, or what is amiss is told. -/
def Found (code : Int) (bad : Prop) (w : World) (e : Ending) (w' : World) : Prop :=
  ((e = .returned .nilIface ∧ ¬ bad) ∨ (∃ r : Nat, e = .returned (.iface 56 (.agg #[.int .i64 code, .int .i64 r]))) ∧ bad) ∧ Below w.heap.size w w'

theorem found_of {code : Int} {q : List Data → Bool} {l : List Data} {bad : Prop} {w w' : World} {e : Ending} (hb : (∃ p, p ≠ [] ∧ p <+: l ∧ q p = true) ↔ bad) (hB : Below w.heap.size w w')
    (h : (e = .returned .nilIface ∧ ∀ p, p ≠ [] → p <+: l → q p = false) ∨ (∃ r : Nat, e = .returned (.iface 56 (.agg #[.int .i64 code, .int .i64 r]))) ∧ ∃ p, p ≠ [] ∧ p <+: l ∧ q p = true) : Found code bad w e w' := by
  refine ⟨?_, hB⟩
  rcases h with ⟨he, h⟩ | ⟨he, h⟩
  · refine .inl ⟨he, fun hbad => ?_⟩
    obtain ⟨p, a1, a2, a3⟩ := hb.2 hbad
    rw [h p a1 a2] at a3
    cases a3
  · exact .inr ⟨he, hb.1 h⟩
theorem Found.nil {code : Int} {P : Prop} {w w' : World} (hB : Below w.heap.size w w') (h : ¬ P) : Found code P w (.returned .nilIface) w' := ⟨.inl ⟨rfl, h⟩, hB⟩
theorem Found.some {code : Int} {P : Prop} {w w' : World} (hB : Below w.heap.size w w') (r : Nat) (h : P) : Found code P w (.returned (.iface 56 (.agg #[.int .i64 code, .int .i64 r]))) w' := ⟨.inr ⟨⟨r, rfl⟩, h⟩, hB⟩
theorem fr_none {w w' : World} (h : Fr (fun _ => False) w w') : Below w.heap.size w w' := ⟨h.os, h.tape, h.output, h.size, fun k hk => h.block k hk id⟩

theorem asksArgs (w : World) (rs : List Ru) : Asks w rs (fun _ => False) (fun _ _ => True) (lastB argsB) 58 #[] where
  own := fun _ _ _ _ _ _ => trivial
  call := fun pre t S a b c u W _ _ _ hn _ _ _ => by
    refine (iArgs1 hn).mono ?_
    rintro e W' ⟨rfl, hb⟩
    exact ⟨by rw [last_snoc], trivial, fr_below hb, fun k hk => hk.elim⟩
theorem asksNeeds (w : World) (rs : List Ru) : Asks w rs (fun _ => False) (fun _ _ => True) (lastB needN) 51 #[] where
  own := fun _ _ _ _ _ _ => trivial
  call := fun pre t S a b c u W _ _ _ hn _ hz _ => by
    refine (iNeeds hn hz).mono ?_
    rintro e W' ⟨rfl, hb⟩
    exact ⟨by rw [last_snoc], trivial, fr_below hb, fun k hk => hk.elim⟩
theorem asksRex {w : World} {rs : List Ru} (hG : 1 < w.heap.size) (hT : ∀ t, SubR rs t → opOf t = 21 → 2 ≤ (kidsOf t).length) : Asks w rs (fun _ => False) (fun _ W => SenP W) (lastB rexN) 60 #[] where
  own := fun _ A A' h _ hk => by
    obtain ⟨a, hc⟩ := h
    exact ⟨a, (World.cell?_of_block (hk _ hG)).trans hc⟩
  call := fun pre t S a b c u W hS _ _ hn _ hz hm => by
    refine (iRex1 hn hz hS (hT t hm)).mono ?_
    rintro e W' ⟨rfl, hb⟩
    exact ⟨by rw [last_snoc], hS.later hb, fr_below hb, fun k hk => hk.elim⟩

section
variable {rs : List Ru} {w : World} {S : Nat → Prop} {v : Value} {xs : List Value} {B : Nat}

set_option maxRecDepth 100000 in
theorem iArgsF (hsz : sizR rs ≤ 1048576) (ho : w.ownsRow B 41 9 v rs.length xs) (hr : RulesAp w rs S xs) : Calls Tryz.prog 30 #[v] w (Found 5 (∃ t ∈ allOf rs, argsB t = true) w) := by
  obtain ⟨ao, cap, rfl⟩ := owns_slice ho
  have call := iAmissWhere (code := 5) hsz ho hr (fun k hk => hk.elim) (asksArgs w rs) (enters_of Tryz.func58 (by kernel_rfl) rfl) trivial
  have hany := any_last argsB (allOf rs)
  generalize (∃ t ∈ allOf rs, argsB t = true) = P at *
  clear hsz ho hr
  go_enter Tryz.func30, Tryz.ntmps30
  go_wp2_with (go_at_call 50; refine hold ?_)
  refine call.mono ?_
  rintro e w' ⟨hF, hres⟩
  have hB := fr_none hF
  obtain ⟨⟨hn, hn'⟩ | ⟨⟨r, rfl⟩, hp⟩, -⟩ := found_of hany hB hres
  · subst hn
    clear hany call hF hres
    go_wp2_with fail
    go_ret
    exact Found.nil hB hn'
  · clear hany call hF hres
    go_wp2_with fail
    go_ret
    exact Found.some hB r hp

set_option maxRecDepth 100000 in
theorem iRexF (hsz : sizR rs ≤ 1048576) (ho : w.ownsRow B 41 9 v rs.length xs) (hr : RulesAp w rs S xs) (hS : SenP w) (hT : ∀ t, SubR rs t → opOf t = 21 → 2 ≤ (kidsOf t).length) : Calls Tryz.prog 31 #[v] w (Found 6 (∃ t ∈ allOf rs, rexN t = true) w) := by
  obtain ⟨ao, cap, rfl⟩ := owns_slice ho
  have hG : 1 < w.heap.size := by obtain ⟨a, hc⟩ := hS; exact World.block_lt_of_cell? _ _ hc
  have call := iAmissWhere (code := 6) hsz ho hr (fun k hk => hk.elim) (asksRex hG hT) (enters_of Tryz.func60 (by kernel_rfl) rfl) hS
  have hany := any_last rexN (allOf rs)
  generalize (∃ t ∈ allOf rs, rexN t = true) = P at *
  clear hsz ho hr hT
  go_enter Tryz.func31, Tryz.ntmps31
  go_wp2_with (go_at_call 50; refine hold ?_)
  refine call.mono ?_
  rintro e w' ⟨hF, hres⟩
  have hB := fr_none hF
  obtain ⟨⟨hn, hn'⟩ | ⟨⟨r, rfl⟩, hp⟩, -⟩ := found_of hany hB hres
  · subst hn
    clear hany call hF hres
    go_wp2_with fail
    go_ret
    exact Found.nil hB hn'
  · clear hany call hF hres
    go_wp2_with fail
    go_ret
    exact Found.some hB r hp

set_option maxRecDepth 100000 in
theorem iNamesF (hsz : sizR rs ≤ 1048576) (ho : w.ownsRow B 41 9 v rs.length xs) (hr : RulesAp w rs S xs) : Calls Tryz.prog 28 #[v] w (Found 3 (tooMany (allOf rs) = true) w) := by
  obtain ⟨ao, cap, rfl⟩ := owns_slice ho
  have call : ∀ w1, Below w.heap.size w w1 → SetIs w1 (w.heap.size + 1) [] → SetIs w1 (w.heap.size + 2) [] → w1.heap.size = w.heap.size + 3 → Calls Tryz.prog 50 #[.slice ao rs.length cap, .int .i64 3, .func (.func 53) #[] #[.pointer (some ⟨w.heap.size + 3, 0, none⟩)]] (w1.alloc (.cells #[.map (some (w.heap.size + 1)), .map (some (w.heap.size + 2))] 81)) fun e w' => Found 3 (tooMany (allOf rs) = true) w e w' := by
    intro w1 hb1 s1 s2 hs1
    obtain ⟨w2, hw2⟩ : ∃ w2, w2 = w1.alloc (.cells #[.map (some (w.heap.size + 1)), .map (some (w.heap.size + 2))] 81) := ⟨_, rfl⟩
    have hb2 : Below w1.heap.size w1 w2 := by rw [hw2]; exact (Below.refl _ w1).alloc (Nat.le_refl _) _
    have hbw : Below w.heap.size w w2 := hb1.trans (hb2.mono hb1.size)
    have hsz2 : w2.heap.size = w.heap.size + 4 := by simp [hw2, hs1]
    have hk : w2.heap[w.heap.size + 3]? = some (.cells #[.map (some (w.heap.size + 1)), .map (some (w.heap.size + 2))] 81 (0, 0)) := by rw [hw2, ← hs1]; exact heap_new _ _
    have t1 := s1.same (hb2.block _ s1.lt)
    have t2 := s2.same (hb2.block _ s2.lt)
    have hapw := ap_frame (w' := w2) (fun k hk => hbw.block k (by obtain ⟨cur, hc⟩ := hk.2; exact heap_lt hc)) (ap_cells hr)
    have how := owns_same (w' := w2) ho fun g hg => hbw.block g (ho.lt g hg).2
    have hQ : Asks w2 rs (fun k => k = w.heap.size + 1 ∨ k = w.heap.size + 2) (Kinds (w.heap.size + 1) (w.heap.size + 2) (w.heap.size + 3)) tooMany 53 #[.pointer (some ⟨w.heap.size + 3, 0, none⟩)] := {
      own := fun s A A' h _ hk => ⟨h.1.same (hk _ (by omega)), h.2.1.same (hk _ (by omega)), (hk _ (by omega)).trans h.2.2⟩
      call := fun pre t S' a b c u W hK _ hp hn _ hz _ => by
        refine (iNames1 hK (by omega) (by omega) (by omega) hn hz hp).mono ?_
        rintro e W' ⟨rfl, hK', hF⟩
        exact ⟨rfl, hK', hF, fun k hk => hk.elim (fun e => e ▸ hK'.1.not) (fun e => e ▸ hK'.2.1.not)⟩ }
    rw [← hw2]
    refine (iAmissWhere (code := 3) hsz how hapw (fun k hk => ?_) hQ (enters_of Tryz.func53 (by kernel_rfl) rfl) ⟨t1, t2, hk⟩).mono ?_
    · rcases hk with rfl | rfl
      · exact ⟨by omega, t1.not, fun e => by have := (ho.lt _ e).2; omega⟩
      · exact ⟨by omega, t2.not, fun e => by have := (ho.lt _ e).2; omega⟩
    · rintro e w' ⟨hF, hres⟩
      have hsF := hF.size
      exact found_of (any_many (allOf rs)) ⟨hF.os.trans hbw.os, hF.tape.trans hbw.tape, hF.output.trans hbw.output, by omega, fun k hk => (hF.block k (by omega) (by omega)).trans (hbw.block k hk)⟩ hres
  generalize (tooMany (allOf rs) = true) = P at *
  clear hsz ho hr
  go_enter Tryz.func28, Tryz.ntmps28
  go_wp2_with (first
    | (go_at_call 52; refine (iNewKinds w).mono ?_; rintro e w1 ⟨rfl, s1, s2, hs1, hb1⟩)
    | (go_at_call 50; refine hold ?_))
  refine (call w1 hb1 s1 s2 hs1).mono ?_
  rintro e w' ⟨⟨hn, hn'⟩ | ⟨⟨r, rfl⟩, hp⟩, hB⟩
  · subst hn
    clear call
    go_wp2_with fail
    go_ret
    exact Found.nil hB hn'
  · clear call
    go_wp2_with fail
    go_ret
    exact Found.some hB r hp

set_option maxRecDepth 100000 in
theorem iKindF (hsz : sizR rs ≤ 1048576) (ho : w.ownsRow B 41 9 v rs.length xs) (hr : RulesAp w rs S xs) : Calls Tryz.prog 29 #[v] w (Found 4 (bothAll (allOf rs)) w) := by
  obtain ⟨ao, cap, rfl⟩ := owns_slice ho
  have call : ∀ w1, Below w.heap.size w w1 → SetIs w1 (w.heap.size + 1) [] → SetIs w1 (w.heap.size + 2) [] → w1.heap.size = w.heap.size + 3 → Calls Tryz.prog 50 #[.slice ao rs.length cap, .int .i64 4, .func (.func 56) #[] #[.pointer (some ⟨w.heap.size + 3, 0, none⟩)]] (w1.alloc (.cells #[.map (some (w.heap.size + 1)), .map (some (w.heap.size + 2))] 81)) fun e w' => Found 4 (bothAll (allOf rs)) w e w' := by
    intro w1 hb1 s1 s2 hs1
    obtain ⟨w2, hw2⟩ : ∃ w2, w2 = w1.alloc (.cells #[.map (some (w.heap.size + 1)), .map (some (w.heap.size + 2))] 81) := ⟨_, rfl⟩
    have hb2 : Below w1.heap.size w1 w2 := by rw [hw2]; exact (Below.refl _ w1).alloc (Nat.le_refl _) _
    have hbw : Below w.heap.size w w2 := hb1.trans (hb2.mono hb1.size)
    have hsz2 : w2.heap.size = w.heap.size + 4 := by simp [hw2, hs1]
    have hk : w2.heap[w.heap.size + 3]? = some (.cells #[.map (some (w.heap.size + 1)), .map (some (w.heap.size + 2))] 81 (0, 0)) := by rw [hw2, ← hs1]; exact heap_new _ _
    have t1 := s1.same (hb2.block _ s1.lt)
    have t2 := s2.same (hb2.block _ s2.lt)
    have hapw := ap_frame (w' := w2) (fun k hk => hbw.block k (by obtain ⟨cur, hc⟩ := hk.2; exact heap_lt hc)) (ap_cells hr)
    have how := owns_same (w' := w2) ho fun g hg => hbw.block g (ho.lt g hg).2
    have hQ : Asks w2 rs (fun k => k = w.heap.size + 1 ∨ k = w.heap.size + 2) (Kinds (w.heap.size + 1) (w.heap.size + 2) (w.heap.size + 3)) bothB 56 #[.pointer (some ⟨w.heap.size + 3, 0, none⟩)] := {
      own := fun s A A' h _ hk => ⟨h.1.same (hk _ (by omega)), h.2.1.same (hk _ (by omega)), (hk _ (by omega)).trans h.2.2⟩
      call := fun pre t S' a b c u W hK _ hp hn _ hz _ => by
        refine (iKind1 hK (by omega) (by omega) (by omega) hn hz hp).mono ?_
        rintro e W' ⟨rfl, hK', hF⟩
        exact ⟨rfl, hK', hF, fun k hk => hk.elim (fun e => e ▸ hK'.1.not) (fun e => e ▸ hK'.2.1.not)⟩ }
    rw [← hw2]
    refine (iAmissWhere (code := 4) hsz how hapw (fun k hk => ?_) hQ (enters_of Tryz.func56 (by kernel_rfl) rfl) ⟨t1, t2, hk⟩).mono ?_
    · rcases hk with rfl | rfl
      · exact ⟨by omega, t1.not, fun e => by have := (ho.lt _ e).2; omega⟩
      · exact ⟨by omega, t2.not, fun e => by have := (ho.lt _ e).2; omega⟩
    · rintro e w' ⟨hF, hres⟩
      have hsF := hF.size
      exact found_of (any_both (allOf rs)) ⟨hF.os.trans hbw.os, hF.tape.trans hbw.tape, hF.output.trans hbw.output, by omega, fun k hk => (hF.block k (by omega) (by omega)).trans (hbw.block k hk)⟩ hres
  generalize (bothAll (allOf rs)) = P at *
  clear hsz ho hr
  go_enter Tryz.func29, Tryz.ntmps29
  go_wp2_with (first
    | (go_at_call 52; refine (iNewKinds w).mono ?_; rintro e w1 ⟨rfl, s1, s2, hs1, hb1⟩)
    | (go_at_call 50; refine hold ?_))
  refine (call w1 hb1 s1 s2 hs1).mono ?_
  rintro e w' ⟨⟨hn, hn'⟩ | ⟨⟨r, rfl⟩, hp⟩, hB⟩
  · subst hn
    clear call
    go_wp2_with fail
    go_ret
    exact Found.nil hB hn'
  · clear call
    go_wp2_with fail
    go_ret
    exact Found.some hB r hp
end

end Ck
end Go.Proofs.YtjdohfdkkppnpaaGreatDoor

