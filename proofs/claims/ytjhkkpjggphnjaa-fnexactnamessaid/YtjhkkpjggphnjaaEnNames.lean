/-
  The program's Names.
-/
import Derived.Test.YtjhkkpjggphnjaaEnSeq
import Derived.Test.YtjhkkpjggphnjaaEnTake
import Derived.Test.YtjhkkpjggphnjaaEnSpecN
import Derived.Test.YtjhkkpjggphnjaaShelfIter
import Derived.Shelf.RegionOpen
namespace Go.Proofs.Ytjhkkpjggphnjaa
open Go.RowKit
namespace Ck
open Nd Ty
attribute [local go_sem] Oper.semAt_some

theorem iNewKinds (w : World) : Calls Try.prog 16 #[] w fun e w' => e = .returned (.agg #[.map (some (w.heap.size + 1)), .map (some (w.heap.size + 2))]) ∧ SetIs w' (w.heap.size + 1) [] ∧ SetIs w' (w.heap.size + 2) [] ∧ w'.heap.size = w.heap.size + 3 ∧ Below w.heap.size w w' := by
  obtain ⟨o1, ho1⟩ : ∃ o1, o1 = Obj.cells #[.map (some (w.heap.size + 1)), .map (some (w.heap.size + 1 + 1))] 49 := ⟨_, rfl⟩
  have hmm := @run_makeMap Try.prog
  have hW : Below w.heap.size w (((w.alloc o1).alloc (.map #[] 0)).alloc (.map #[] 0)) := (((Below.refl _ w).alloc (Nat.le_refl _) _).alloc (by simp) _).alloc (by simp; omega) _
  have s1 : SetIs (((w.alloc o1).alloc (.map #[] 0)).alloc (.map #[] 0)) (w.heap.size + 1) [] := by
    have := SetIs.made (w.alloc o1)
    rw [World.size_alloc] at this
    exact this.same (Below.heap_alloc _ _ _ this.lt)
  have s2 : SetIs (((w.alloc o1).alloc (.map #[] 0)).alloc (.map #[] 0)) (w.heap.size + 2) [] := by
    have := SetIs.made ((w.alloc o1).alloc (.map #[] 0))
    rwa [World.size_alloc, World.size_alloc] at this
  have hh : (((w.alloc o1).alloc (.map #[] 0)).alloc (.map #[] 0)).heap[w.heap.size]? = some o1 := by
    rw [Below.heap_alloc _ _ _ (by simp; omega), Below.heap_alloc _ _ _ (by simp)]
    exact heap_new w o1
  have c0 : (((w.alloc o1).alloc (.map #[] 0)).alloc (.map #[] 0)).cell? ⟨w.heap.size, 0, none⟩ = some (.map (some (w.heap.size + 1))) := by unfold World.cell?; simp only [hh]; rw [ho1]; rfl
  have c1 : (((w.alloc o1).alloc (.map #[] 0)).alloc (.map #[] 0)).cell? ⟨w.heap.size, 1, none⟩ = some (.map (some (w.heap.size + 1 + 1))) := by unfold World.cell?; simp only [hh]; rw [ho1]; rfl
  subst ho1
  clear hh
  go_enter Try.func16, Try.ntmps16
  go_wp2_with fail
  refine bodyPost_ret (v := .agg #[.map (some (w.heap.size + 1)), .map (some (w.heap.size + 1 + 1))]) (by simp [results, Try.results16, go_sem, c0, c1]) rfl ⟨rfl, s1, s2, by simp, hW⟩

theorem iEachNode (w : World) (ao : Option Addr) (n cap : Nat) : Calls Try.prog 17 #[.slice ao n cap] w fun e w' => e = .returned (.func (.func 27) #[] #[.pointer (some ⟨w.heap.size, 0, none⟩)]) ∧ w' = w.alloc (.cells #[.slice ao n cap] 27) := by
  go_enter Try.func17, Try.ntmps17
  go_wp2_with fail
  go_ret
  exact ⟨rfl, rfl⟩

/-- What Names has when nodes have come. -/
def Has (W0 : World) (bv bc : Nat) {rs : List Ru} (pre : List (Nde W0 rs)) (W : World) : Prop :=
  SetIs W bv (varsIn (pre.map Nde.t)) ∧ SetIs W bc (cellsIn (pre.map Nde.t)) ∧ Fr (fun k => k = bv ∨ k = bc) W0 W
theorem has_own {W0 : World} {bv bc : Nat} {rs : List Ru} (hv : bv < W0.heap.size) (hc : bc < W0.heap.size) : OwnFrom W0.heap.size (Has W0 bv bc (rs := rs)) := by
  intro s A B row ⟨h1, h2, h3⟩ hg hr
  have h4 := h3.size
  exact ⟨h1.same (hg.block bv (by omega) fun e => by have := (hr bv e.symm).1; omega), h2.same (hg.block bc (by omega) fun e => by have := (hr bc e.symm).1; omega), h3.grown hg fun k e => .inl (hr k e).1⟩
theorem vars_snoc {W0 : World} {rs : List Ru} (pre : List (Nde W0 rs)) (x : Nde W0 rs) : varsIn ((pre ++ [x]).map Nde.t) = varsIn (pre.map Nde.t) ++ varsT (opOf x.t) (txtOf x.t) := by rw [List.map_append, varsIn_append, List.map_cons, List.map_nil, varsIn_one]
theorem cells_snoc {W0 : World} {rs : List Ru} (pre : List (Nde W0 rs)) (x : Nde W0 rs) : cellsIn ((pre ++ [x]).map Nde.t) = cellsIn (pre.map Nde.t) ++ cellsT (opOf x.t) (txtOf x.t) := by rw [List.map_append, cellsIn_append, List.map_cons, List.map_nil, cellsIn_one]

theorem visit_len : ∀ (k : Nat) (rs : List Ru), (visit k rs).length ≤ 2 * sizR rs
  | k, [] => by simp [visit]
  | k, r :: rs => by
    have := visit_len (k + 1) rs
    have h1 := bfs_len (deps [r.2.1, r.2.2]) [[r.2.1, r.2.2]]
    have := cnt_siz r.2.1
    have := cnt_siz r.2.2
    simp only [visit, order, List.length_append, List.length_map, sizR, List.flatten_cons, List.flatten_nil, List.append_nil, cnts] at h1 ⊢
    omega

theorem set_sort {w : World} {b : Nat} {ns ss : List (List UInt8)} (h : SetIs w b ns) (hp : ss.Perm (strKeys (Maps.setOf (H := Unit) (.agg []) (ns.map Lit.string)))) : ss.mergeSort leB = ascS ns ∧ ss.length = (ascS ns).length := by
  obtain ⟨es, hD, hk⟩ := World.ownsMap.keysOf h
  obtain ⟨es', hD', hpair⟩ := World.ownsMap.tidy h (Maps.string_keyed Try.underlying9)
  obtain rfl : es = es' := by rw [hD] at hD'; cases hD'; rfl
  have hperm : (ascS ns).Perm (strKeys (Maps.setOf (H := Unit) (.agg []) (ns.map Lit.string))) := by
    rw [hD]
    refine perm_strKeys hpair (fun p hp => ?_) (asc_nodup (ascS_asc ns)) fun x => ?_
    · obtain ⟨key, hkey⟩ := hk p hp
      obtain ⟨x, _, hx, _⟩ := Maps.keyOf_str Try.underlying9 hkey
      exact ⟨x, hx⟩
    · rw [ascS_mem, ← hD, Maps.has_setOf _ _ _ (fun x hx => by obtain ⟨y, _, rfl⟩ := List.mem_map.1 hx; trivial), List.any_eq_true]
      constructor
      · intro hx
        exact ⟨_, List.mem_map.2 ⟨x, hx, rfl⟩, (WideAt.sameKey_iff (by trivial)).2 rfl⟩
      · rintro ⟨y, hy, he⟩
        obtain ⟨z, hz, rfl⟩ := List.mem_map.1 hy
        have := (WideAt.sameKey_iff (by trivial)).1 he
        cases this
        exact hz
  have hss := hp.trans hperm.symm
  refine ⟨?_, hss.length_eq⟩
  rw [mergeSort_of_perm hss]
  exact List.mergeSort_of_pairwise ((ascS_asc ns).imp fun {a b} h => by simp only [leB, decide_eq_true_eq]; exact List.le_of_lt h)

set_option maxHeartbeats 800000 in
set_option maxRecDepth 100000 in
theorem iNames {rs : List Ru} {w : World} {S : Nat → Prop} {v : Value} {xs : List Value} {B : Nat} (hsz : sizR rs ≤ 1048576) (ho : w.ownsRow B 45 9 v rs.length xs) (hr : RulesAp w rs S xs) :
    Calls Try.prog 7 #[v] w fun e w' => ∃ v1 v2, e = .returned (.tuple #[v1, v2]) ∧ w'.ownsRow w.heap.size 9 1 v1 (ascS (varsIn (allOf rs))).length ((ascS (varsIn (allOf rs))).map encStr) ∧ w'.ownsRow w.heap.size 9 1 v2 (ascS (cellsIn (allOf rs))).length ((ascS (cellsIn (allOf rs))).map encStr) ∧ (∀ k, v1.ownBlock = some k → v2.ownBlock ≠ some k) ∧ Below w.heap.size w w' := by
  obtain ⟨ao, cap, rfl⟩ := owns_slice ho
  refine (callsIn_wide (n := 6)).1 ?_
  have h1n : 1 ≤ 6 := by omega
  have hfN : Fence.wide.fn 16 := trivial
  have hfE : Fence.wide.fn 17 := trivial
  refine callsIn_of_wp_marks Try.func7 rfl trivial ?_ rfl
  simp only [Try.ntmps7, List.size_toArray, List.length_cons, List.length_nil, Nat.reduceAdd, Nat.reduceSub, Array.replicate_succ, Array.replicate_zero, List.push_toArray, List.append_toArray, List.nil_append, List.cons_append]
  gi_wp2_with (first
    | (gi_at_call 16; refine (callsIn_wide.2 (iNewKinds w)).mono ?_; rintro e w1 ⟨rfl, s1, s2, hs1, hb1⟩)
    | (gi_at_call 17; refine (callsIn_wide.2 (iEachNode _ _ _ _)).mono ?_; rintro e w2 ⟨rfl, rfl⟩))
  obtain ⟨W0, hW0⟩ : ∃ W0, W0 = (w1.alloc (.cells #[.map (some (w.heap.size + 1)), .map (some (w.heap.size + 2))] 49)).alloc (.cells #[.slice ao rs.length cap] 27) := ⟨_, rfl⟩
  have hb10 : Below w1.heap.size w1 W0 := by rw [hW0]; exact ((Below.refl _ w1).alloc (Nat.le_refl _) _).alloc (by simp) _
  have hbW : Below w.heap.size w W0 := hb1.trans (hb10.mono (by omega))
  have hsW : W0.heap.size = w.heap.size + 5 := by rw [hW0]; simp; omega
  have t1 : SetIs W0 (w.heap.size + 1) [] := s1.same (hb10.block _ s1.lt)
  have t2 : SetIs W0 (w.heap.size + 2) [] := s2.same (hb10.block _ s2.lt)
  have hkb : W0.heap[w.heap.size + 3]? = some (.cells #[.map (some (w.heap.size + 1)), .map (some (w.heap.size + 2))] 49 (0, 0)) := by
    rw [hW0, Below.heap_alloc _ _ _ (by simp; omega), ← hs1]
    exact heap_new _ _
  have hbl : W0.heap[w.heap.size + 3 + 1]? = some (.cells #[.slice ao rs.length cap] 27 (0, 0)) := by
    have := heap_new (w1.alloc (.cells #[.map (some (w.heap.size + 1)), .map (some (w.heap.size + 2))] 49)) (.cells #[.slice ao rs.length cap] 27)
    rw [World.size_alloc, hs1] at this
    rw [hW0]
    exact this
  have hlt : ∀ k, (S k ∧ Cellsy w k) → k < w.heap.size := fun k hk => by obtain ⟨cur, hc⟩ := hk.2; exact heap_lt hc
  have hapW := ap_frame (fun k hk => hbW.block k (hlt k hk)) (ap_cells hr)
  have hcyW : ∀ k, (S k ∧ Cellsy w k) → Cellsy W0 k := fun k hk => by have := hlt k hk; obtain ⟨cur, hc⟩ := hk.2; exact ⟨cur, (hbW.block k this).trans hc⟩
  have hoW : W0.ownsRow B 45 9 (.slice ao rs.length cap) rs.length xs := owns_same ho fun g hg => hbW.block g (ho.lt g hg).2
  have hSx : ∀ k, (k = w.heap.size + 1 ∨ k = w.heap.size + 2) → k < W0.heap.size ∧ ¬ Cellsy W0 k ∧ (Value.slice ao rs.length cap).ownBlock ≠ some k := by
    rintro k (rfl | rfl)
    · exact ⟨by omega, t1.not, fun e => by have := (ho.lt _ e).2; omega⟩
    · exact ⟨by omega, t2.not, fun e => by have := (ho.lt _ e).2; omega⟩
  have hSl : ∀ k, (k = w.heap.size + 1 ∨ k = w.heap.size + 2) → k < W0.heap.size := fun k hk => (hSx k hk).1
  have hvl := visit_len 0 rs
  have hseq := nodes_stops (n := 5) hsz hbl hoW hapW hcyW hSx (by omega)
  rw [← hW0]
  clear hW0 hapW hcyW hoW hlt hbl hb10 s1 s2
  refine wpIn_rangeFunc_ownH rfl h1n (gf := 27) (lb := #[.pointer (some ⟨w.heap.size + 3 + 1, 0, none⟩)]) rfl trivial (enters_of Try.func27 (by kernel_rfl) rfl) hseq (fun h k => h.trans k) (Keep.put hSl) (Below.refl _ _) (fun _ => rfl)
    (Has W0 (w.heap.size + 1) (w.heap.size + 2)) (fun _ _ _ => False) (has_own (by omega) (by omega)) (fun _ _ _ _ _ hs _ _ => hs) ⟨by simpa [varsIn] using t1, by simpa [cellsIn] using t2, Fr.refl _ _⟩
    (fun x a' W => ∃ Bx, W0.heap.size ≤ Bx ∧ W.heap[Bx]? = some (.cells #[x.a, x.b, x.c, x.u] 43 (0, 0)) ∧ a' = { tmps := #[.slice ao rs.length cap, undef, .slice none 0 0, .slice none 0 0, .pointer (some ⟨w.heap.size + 3, 0, none⟩), undef, .pointer (some ⟨Bx, 0, none⟩), .agg #[.map (some (w.heap.size + 1)), .map (some (w.heap.size + 2))], .slice ao rs.length cap, .func (.func 27) #[] #[.pointer (some ⟨w.heap.size + 3 + 1, 0, none⟩)], .int .i64 x.rule, .agg #[x.a, x.b, x.c, x.u], undef, undef, undef, undef, undef, undef, undef, undef, undef, undef, undef], defers := [] })
    (fun x a' u A B row hs hg hr => by
      obtain ⟨Bx, h1, h2, h3⟩ := hs
      refine ⟨Bx, h1, (hg.block Bx (heap_lt h2) fun e => ?_).trans h2, h3⟩
      obtain ⟨o, ho, hc⟩ := (hr Bx e.symm).2
      rw [h2] at ho
      cases ho
      cases hc) ?assign ?body ?done ?stop
  case assign =>
    rintro l pre x W K hi hK
    obtain ⟨op, n, st, ao', cap', ys, -, ea, eb, ec, eu, -⟩ := node_form x.is
    have henc : x.encs = #[.int .i64 x.rule, .agg #[x.a, x.b, x.c, x.u]] := rfl
    rw [henc]
    simp only [ea, eb, ec, eu] at hK ⊢
    have hsz2 := hi.2.2.size
    clear henc ea eb ec eu
    gi_wp2
    exact hK _ _ ((KeepsOthers.alloc _ _).from _) (Keep.below (fun k hk => Nat.lt_of_lt_of_le (hSl k hk) hsz2) ((Below.refl _ _).alloc (Nat.le_refl _) _)) (has_own (by omega) (by omega) pre W _ none hi (World.grownBy_alloc W _ none) (fun r e => by cases e)) ⟨W.heap.size, hsz2, heap_new _ _, rfl⟩
  case body =>
    rintro l pre x a' W hl ⟨r, hr⟩ ⟨hv, hc, hF⟩ ⟨Bx, hBx, hnx, rfl⟩ hlen
    have hpv := varsIn_len (pre.map Nde.t)
    have hpc := cellsIn_len (pre.map Nde.t)
    rw [List.length_map] at hpv hpc
    have hvs := vars_snoc pre x
    have hcs := cells_snoc pre x
    have hxs := x.sz
    obtain ⟨op, n, st, ao', cap', ys, hnd, ea, eb, ec, eu, -⟩ := node_form x.is
    simp only [ea, eb, ec, eu] at hnx ⊢
    have hot : opOf x.t = op := by rw [hnd]; rfl
    have htt : txtOf x.t = st := by rw [hnd]; rfl
    rw [hot, htt] at hvs hcs
    have hst : st.length ≤ 1048576 := by rw [hnd, siz_nd] at hxs; omega
    have hne : w.heap.size + 1 ≠ w.heap.size + 2 := by omega
    have hkW := (hF.block (w.heap.size + 3) (by omega) (by omega)).trans hkb
    have k0 : W.cell? ⟨w.heap.size + 3, 0, none⟩ = some (.map (some (w.heap.size + 1))) := by simp [World.cell?, hkW]
    have k1 : W.cell? ⟨w.heap.size + 3, 1, none⟩ = some (.map (some (w.heap.size + 2))) := by simp [World.cell?, hkW]
    have x0 : W.cell? ⟨Bx, 0, none⟩ = some (.int .i64 op) := by simp [World.cell?, hnx]
    have x1 : W.cell? ⟨Bx, 1, none⟩ = some (.int .i64 n) := by simp [World.cell?, hnx]
    have x2 : W.cell? ⟨Bx, 2, none⟩ = some (.string ⟨st.toArray⟩) := by simp [World.cell?, hnx]
    have x3 : W.cell? ⟨Bx, 3, none⟩ = some (.slice ao' (kidsOf x.t).length cap') := by simp [World.cell?, hnx]
    have call := iTake (op := op) (n := n) (ao := ao') (L := (kidsOf x.t).length) (cap := cap') hv hc hne hst (by omega) (by omega)
    have hfT : Fence.wide.fn 18 := trivial
    have h12 : 1 ≤ 6 - 1 - 1 := by omega
    clear hnd hnx hkW ea eb ec eu
    gi_wp2_with (gi_at_call 18; refine (CallsIn.inRound l (callsIn_wide.2 call)).mono ?_; rintro e W2 ⟨⟨rv, rfl⟩, hv2, hc2, hF2⟩)
    rw [← hvs] at hv2
    rw [← hcs] at hc2
    refine ⟨⟨hF2.size, fun k o hk h1 _ => ?_⟩, ⟨hF2.size, fun k o h1 hn _ => (hF2.block k (heap_lt h1) hn).trans h1, fun k hk _ => ?_⟩, hv2, hc2, hF.trans hF2⟩
    · exact (hF2.block k (heap_lt h1) (by omega)).trans h1
    · rcases hk with rfl | rfl
      · exact hv2.not
      · exact hc2.not
  case done =>
    rintro D ys W hD hS ⟨hv, hc, hF⟩ hK
    have hkf : ∀ w', Below W.heap.size W w' → w'.cell? ⟨w.heap.size + 3, 0, none⟩ = some (.map (some (w.heap.size + 1))) ∧ w'.cell? ⟨w.heap.size + 3, 1, none⟩ = some (.map (some (w.heap.size + 2))) := fun w' hb => by
      have h1 := hF.size
      have hkW := (hb.block (w.heap.size + 3) (by omega)).trans ((hF.block (w.heap.size + 3) (by omega) (by omega)).trans hkb)
      simp [World.cell?, hkW]
    obtain ⟨k0, k1⟩ := hkf W (Below.refl _ _)
    have hfK : Fence.wide.fn 20 := trivial
    have hfS : Fence.wide.fn 19 := trivial
    gi_wp2
    have hlv := varsIn_len (ys.map Nde.t)
    have hlc := cellsIn_len (ys.map Nde.t)
    have hyl := congrArg List.length hS
    rw [List.length_map] at hlv hlc hyl
    have hz1 := World.ownsMap.size_le hv
    have hz2 := World.ownsMap.size_le hc
    have hv' : SetIs W.drew (w.heap.size + 1) (varsIn (ys.map Nde.t)) := hv
    have hmx : Try.prog.follows .mixedOrders = true := by kernel_rfl
    have hlast : ∀ (w4 w5 : World) (v1 v2 : Value) (ss1 ss2 : List (List UInt8)), Below W.heap.size W w4 → Below (w4.alloc (.cells #[.map (some (w.heap.size + 2))] 47)).heap.size (w4.alloc (.cells #[.map (some (w.heap.size + 2))] 47)) w5 → ss1.Perm (strKeys (Maps.setOf (H := Unit) (.agg []) ((varsIn (ys.map Nde.t)).map Lit.string))) → ss2.Perm (strKeys (Maps.setOf (H := Unit) (.agg []) ((cellsIn (ys.map Nde.t)).map Lit.string))) →
        w4.ownsRow (W.heap.size + 1) 9 1 v1 ss1.length ((ss1.mergeSort (fun x y => decide (x ≤ y))).map encStr) → w5.ownsRow (w4.heap.size + 1) 9 1 v2 ss2.length ((ss2.mergeSort (fun x y => decide (x ≤ y))).map encStr) →
        w5.ownsRow w.heap.size 9 1 v1 (ascS (varsIn (allOf rs))).length ((ascS (varsIn (allOf rs))).map encStr) ∧ w5.ownsRow w.heap.size 9 1 v2 (ascS (cellsIn (allOf rs))).length ((ascS (cellsIn (allOf rs))).map encStr) ∧ (∀ k, v1.ownBlock = some k → v2.ownBlock ≠ some k) ∧ Below w.heap.size w w5 := by
      intro w4 w5 v1 v2 ss1 ss2 B4 hb5 hp1 hp2 hr1 hr2
      have hk2 : ys.map Nde.t = allOf rs := by unfold allOf; rw [← hS, List.map_map]; rfl
      obtain ⟨m1, l1⟩ := set_sort hv hp1
      obtain ⟨m2, l2⟩ := set_sort hc hp2
      rw [hk2] at m1 l1 m2 l2
      rw [m1, l1] at hr1
      rw [m2, l2] at hr2
      have hsF := hF.size
      have hs4 := B4.size
      have hs5 := hb5.size
      simp only [World.size_alloc] at hs5
      refine ⟨owns_base (owns_same hr1 fun g hg => ?_) (by omega), owns_base hr2 (by omega), fun k h1 h2 => ?_, ?_⟩
      · have := (hr1.lt g hg).2
        rw [hb5.block g (by simp; omega), Below.heap_alloc _ _ _ this]
      · have := (hr1.lt k h1).2
        have := (hr2.lt k h2).1
        omega
      · refine ⟨?_, ?_, ?_, by omega, fun k hk => ?_⟩
        · exact hb5.os.trans (B4.os.trans (hF.os.trans hbW.os))
        · exact hb5.tape.trans (B4.tape.trans (hF.tape.trans hbW.tape))
        · exact hb5.output.trans (B4.output.trans (hF.output.trans hbW.output))
        · rw [hb5.block k (by simp; omega), Below.heap_alloc _ _ _ (by omega), B4.block k (by omega), hF.block k (by omega) (by omega), hbW.block k hk]
    refine wpIn_mono (Q := fun e a' W' => match e with
      | .normal => ∃ (v1 v2 : Value) (n4 : Nat), a' = { tmps := #[.slice ao rs.length cap, undef, v1, v2, .pointer (some ⟨w.heap.size + 3, 0, none⟩), undef, undef, .agg #[.map (some (w.heap.size + 1)), .map (some (w.heap.size + 2))], .slice ao rs.length cap, .func (.func 27) #[] #[.pointer (some ⟨w.heap.size + 3 + 1, 0, none⟩)], undef, undef, undef, undef, undef, .pointer (some ⟨w.heap.size + 3, 0, none⟩), .map (some (w.heap.size + 1)), .func (.func 31) #[] #[.pointer (some ⟨W.heap.size, 0, none⟩)], v1, .pointer (some ⟨w.heap.size + 3, 1, none⟩), .map (some (w.heap.size + 2)), .func (.func 31) #[] #[.pointer (some ⟨n4, 0, none⟩)], v2], defers := [{ target := .collected D, args := #[] }] } ∧
          W'.heap[D]? = some (.deferred (some [])) ∧ W'.ownsRow w.heap.size 9 1 v1 (ascS (varsIn (allOf rs))).length ((ascS (varsIn (allOf rs))).map encStr) ∧ W'.ownsRow w.heap.size 9 1 v2 (ascS (cellsIn (allOf rs))).length ((ascS (cellsIn (allOf rs))).map encStr) ∧ (∀ k, v1.ownBlock = some k → v2.ownBlock ≠ some k) ∧ Below w.heap.size w W'
      | _ => False) ?region ?rest
    have cS1 : CallsIn Fence.wide 5 Try.prog 19 #[.func (.func 31) #[] #[.pointer (some ⟨W.heap.size, 0, none⟩)]] (W.alloc (.cells #[.map (some (w.heap.size + 1))] 47)).drew fun e w4 => ∃ (v1 : Value) (ss1 : List (List UInt8)), e = .returned v1 ∧ ss1.Perm (strKeys (Maps.setOf (H := Unit) (.agg []) ((varsIn (ys.map Nde.t)).map Lit.string))) ∧ w4.ownsRow (W.heap.size + 1) 9 1 v1 ss1.length ((ss1.mergeSort (fun x y => decide (x ≤ y))).map encStr) ∧ Below W.heap.size W w4 := by
      refine CallsIn.mono (Try.slices_Sorted_keys_19_20 (H := Unit) (w.heap.size + 1) _ _ unitElem W.drew hv' (by unfold maxLen; omega) (by omega)) ?_
      rintro e w4 ⟨v1, ss1, rfl, hp1, hr1, -, hb4⟩
      exact ⟨v1, ss1, rfl, hp1, by simpa using hr1, (((Below.refl _ W).drew).alloc (Nat.le_refl _) _).trans (hb4.mono (by simp))⟩
    have cS2 : ∀ w4, Below W.heap.size W w4 → CallsIn Fence.wide 5 Try.prog 19 #[.func (.func 31) #[] #[.pointer (some ⟨w4.heap.size, 0, none⟩)]] (w4.alloc (.cells #[.map (some (w.heap.size + 2))] 47)) fun e w5 => ∃ (v2 : Value) (ss2 : List (List UInt8)), e = .returned v2 ∧ ss2.Perm (strKeys (Maps.setOf (H := Unit) (.agg []) ((cellsIn (ys.map Nde.t)).map Lit.string))) ∧ w5.ownsRow (w4.heap.size + 1) 9 1 v2 ss2.length ((ss2.mergeSort (fun x y => decide (x ≤ y))).map encStr) ∧ Below (w4.alloc (.cells #[.map (some (w.heap.size + 2))] 47)).heap.size (w4.alloc (.cells #[.map (some (w.heap.size + 2))] 47)) w5 := by
      intro w4 B4
      refine CallsIn.mono (Try.slices_Sorted_keys_19_20 (H := Unit) (w.heap.size + 2) _ _ unitElem w4 (hc.same (B4.block _ hc.lt)) (by unfold maxLen; omega) (by omega)) ?_
      rintro e w5 ⟨v2, ss2, rfl, hp2, hr2, -, hb5⟩
      exact ⟨v2, ss2, rfl, hp2, by simpa using hr2, hb5⟩
    case region =>
      clear hseq hr ho hv hc hv' t1 t2 hkb hSx hSl hF hS hb1 hz1 hz2 hlv hlc hyl hvl hsz
      gi_region_with_o (first
        | (gi_at_call 20; with_reducible refine (Try.maps_Keys_20 (some (w.heap.size + 1)) _).mono ?_; rintro e w3 ⟨rfl, rfl⟩; obtain ⟨q0, q1⟩ := hkf ((W.alloc (.cells #[.map (some (w.heap.size + 1))] 47)).drew) (((Below.refl _ W).alloc (Nat.le_refl _) _).drew))
        | (gi_at_call 20; with_reducible refine (Try.maps_Keys_20 (some (w.heap.size + 2)) _).mono ?_; rintro e w3 ⟨rfl, rfl⟩)
        | (gi_at_call 19; with_reducible refine cS1.mono ?_; rintro e w4 ⟨v1, ss1, rfl, hp1, hr1, B4⟩; obtain ⟨k0', k1'⟩ := hkf w4 B4)
        | (gi_at_call 19; with_reducible refine (cS2 w4 B4).mono ?_; rintro e w5 ⟨v2, ss2, rfl, hp2, hr2, hb5⟩))
      all_goals
        have hD4 := (B4.block D (heap_lt hK)).trans hK
        exact ⟨v1, v2, w4.heap.size, rfl, (hb5.block D (by have := heap_lt hD4; simp; omega)).trans ((Below.heap_alloc _ _ _ (heap_lt hD4)).trans hD4), hlast w4 w5 v1 v2 ss1 ss2 B4 hb5 hp1 hp2 hr1 hr2⟩
    case rest =>
      rintro e a' W' h
      cases e with
      | normal =>
        obtain ⟨v1, v2, n4, rfl, hK2, o1, o2, o3, hB⟩ := h
        gi_wp2
        refine ⟨by simp, .inl ⟨_, _, rfl, run_takeDeferred hK2, ?_⟩⟩
        exact ⟨_, results_tmp2 rfl _ _ _, v1, v2, rfl, ownsRow_putObj o1 _ hK2 rfl, ownsRow_putObj o2 _ hK2 rfl, o3, hB.trans (belowK_b (w := w) (Nat.le_refl _) W' D _ _ (by omega) hK2 rfl rfl)⟩
      | _ => exact h.elim
  case stop =>
    rintro D c pre W _ _ h _
    exact h.elim

end Ck
end Go.Proofs.Ytjhkkpjggphnjaa
