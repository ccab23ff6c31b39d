/-
  A tree, depth by depth: treeTidy.
-/
import Derived.Test.YtjdohfdkkppnpaaGreatDoorP31
import Derived.Test.YtjdohfdkkppnpaaGreatDoorP18
namespace Go.Proofs.YtjdohfdkkppnpaaGreatDoor
open Go.RowKit
namespace Ty
open Nd

theorem args_of_row {w : World} {ts : List Data} {S : Nat → Prop} {xs : List Value} {B cap : Nat} {ao : Option Addr} (hs : ∀ t ∈ ts, siz t ≤ 1048576) (ho : w.ownsRow B 39 4 (.slice ao ts.length cap) ts.length xs) (h : NodesIs w ts S xs) : ArgsIs w ts ao 0 := by
  by_cases h0 : 0 < ts.length
  · obtain ⟨g, rfl, hgl, hcell⟩ := row_cells ho h0
    refine args_of_cells hgl (fun t ht => arg_of_node t (hs t ht)) h fun j x hx => ?_
    rw [Nat.zero_mul, Nat.zero_add]
    exact hcell j x hx
  · have : ts = [] := List.length_eq_zero_iff.1 (by omega)
    subst this
    trivial

theorem nodes_nodes {w : World} : ∀ {ts : List Data} {S : Nat → Prop} {xs : List Value}, NodesIs w ts S xs → Nodes ts
  | [], S, xs, _ => fun t ht => by simp at ht
  | t' :: ts, S, xs, h => fun t ht => by
    simp only [NodesIs] at h
    obtain ⟨S1, S2, c1, c2, rfl, h1, h2, -, -⟩ := h
    rcases List.mem_cons.1 ht with rfl | ht
    · exact node_node h1
    · exact nodes_nodes h2 t ht

theorem below1_siz {ts : List Data} {N : Nat} (h : ∀ t ∈ ts, siz t ≤ N) : ∀ t ∈ (below1 ts).flatten, siz t ≤ N := by
  induction ts with
  | nil => intro t ht; simp [below1] at ht
  | cons a ts ih =>
    intro t ht
    simp only [below1, List.flatten_append, List.mem_append] at ht
    rcases ht with ht | ht
    · have : t ∈ kidsOf a := by
        split at ht
        · simp at ht
        · simpa using ht
      have h1 := sizs_mem this
      have h2 := siz_kids a
      have h3 := h a (by simp)
      omega
    · exact ih (fun t ht => h t (by simp [ht])) t ht

/-- The rows of lists: each readable. -/
theorem rows_at {w : World} : ∀ {ls : List (List Data)} {vs xs : List Value} {S : Nat → Prop} {k : Nat} {l : List Data}, RowsIs w ls vs xs → NodesIs w ls.flatten S xs → (∀ t ∈ ls.flatten, siz t ≤ 1048576) → ls[k]? = some l → ∃ ao cap, vs[k]? = some (.slice ao l.length cap) ∧ ArgsIs w l ao 0
  | [], vs, xs, S, k, l, _, _, _, hk => by simp at hk
  | l' :: ls, vs, xs, S, k, l, hR, hN, hs, hk => by
    obtain ⟨v, vs', c1, c2, rfl, rfl, ho, hR2⟩ := hR
    rw [List.flatten_cons] at hN
    obtain ⟨S1, S2, d1, d2, hdd, hN1, hN2, -, -⟩ := nodes_split hN
    obtain ⟨rfl, rfl⟩ := List.append_inj hdd (by rw [ho.1, nodes_len hN1])
    match k with
    | 0 =>
      simp at hk
      subst hk
      obtain ⟨ao, cap, rfl⟩ := owns_slice ho
      exact ⟨ao, cap, rfl, args_of_row (fun t ht => hs t (by simp [ht])) ho hN1⟩
    | k + 1 =>
      obtain ⟨ao, cap, h1, h2⟩ := rows_at hR2 hN2 (fun t ht => hs t (by simp only [List.flatten_cons, List.mem_append]; exact .inr ht)) (by simpa using hk : ls[k]? = some l)
      exact ⟨ao, cap, by simpa using h1, h2⟩

/-- What treeTidy has at a depth. -/
def AtT (w wr : World) (m : Nat) (R : Bool) (lv : Value) (d : Nat) : Prop :=
  ∃ (ls : List (List Data)) (vs xs : List Value) (S : Nat → Prop) (G : List Nat), wr.ownsRow 0 37 1 lv ls.length vs ∧ RowsIs wr ls vs xs ∧ NodesIs wr ls.flatten S xs ∧ MapIs wr m G ∧ (∀ g ∈ G, Cellsy wr g) ∧ (∀ g ∈ G, ¬ S g) ∧
    (∀ l ∈ ls, l ≠ []) ∧ R = (decide (d + deps ls.flatten ≤ 16) && allsB ls.flatten) ∧ G.length + cnts ls.flatten ≤ 1048577 ∧ (∀ t ∈ ls.flatten, siz t ≤ 1048576) ∧ Below w.heap.size w wr

theorem lists_len {ls : List (List Data)} (h : ∀ l ∈ ls, l ≠ []) : ls.length ≤ ls.flatten.length := by
  induction ls with
  | nil => simp
  | cons l ls ih =>
    have h1 := h l (by simp)
    have h2 := ih fun l hl => h l (by simp [hl])
    have : 0 < l.length := List.length_pos_iff.2 h1
    simp only [List.length_cons, List.flatten_cons, List.length_append]
    omega

theorem all_flat : ∀ (ls : List (List Data)), ls.flatten.all nodeB = ls.all fun l => l.all nodeB
  | [] => rfl
  | l :: ls => by simp [all_flat ls]

set_option maxHeartbeats 4000000 in
set_option maxRecDepth 100000 in
theorem iTreeTidy {t : Data} (hc : siz t ≤ 1048576) {w : World} {S : Nat → Prop} {a b c u : Value} (hSen : Sen w) (h : NodeIs w t S [a, b, c, u]) (hS : ∀ k, S k → k < w.heap.size) :
    Calls Tryz.prog 79 #[.agg #[a, b, c, u]] w fun e w' => e = .returned (.bool (treeB t)) ∧ Below w.heap.size w w' := by
  obtain ⟨op, n, s, ao, cap, xs, -, rfl, rfl, rfl, rfl, hro, hrg, hrn⟩ := node_form h
  have hct : cnt t ≤ 1048577 := by have := cnt_siz t; omega
  obtain ⟨o1, ho1⟩ : ∃ o1, o1 = Obj.cells #[.int .i64 op, .int .i64 n, .string ⟨s.toArray⟩, .slice ao (kidsOf t).length cap] 39 := ⟨_, rfl⟩
  obtain ⟨o2, ho2⟩ : ∃ o2, o2 = Obj.map #[] 0 := ⟨_, rfl⟩
  obtain ⟨o4, ho4⟩ : ∃ o4, o4 = Obj.cells #[.slice (some ⟨w.heap.size + 1 + 1, 0, none⟩) 1 1] 37 := ⟨_, rfl⟩
  have hb4 : Below w.heap.size w ((((w.alloc o1).alloc o2).alloc o1).alloc o4) := ((((Below.refl _ w).alloc (Nat.le_refl _) _).alloc (by simp) _).alloc (by simp; omega) _).alloc (by simp; omega) _
  have hAt : AtT w ((((w.alloc o1).alloc o2).alloc o1).alloc o4) (w.heap.size + 1) (treeB t) (.slice (some ⟨w.heap.size + 1 + 1 + 1, 0, none⟩) 1 1) 0 := by
    have e4 := heap_new (((w.alloc o1).alloc o2).alloc o1) o4
    have e3 := heap_new ((w.alloc o1).alloc o2) o1
    have e2 := heap_new (w.alloc o1) o2
    simp only [World.size_alloc] at e4 e3 e2
    have e3' : ((((w.alloc o1).alloc o2).alloc o1).alloc o4).heap[w.heap.size + 1 + 1]? = some o1 := by rw [Below.heap_alloc _ _ _ (by simp), e3]
    have e2' : ((((w.alloc o1).alloc o2).alloc o1).alloc o4).heap[w.heap.size + 1]? = some o2 := by rw [Below.heap_alloc _ _ _ (by simp), Below.heap_alloc _ _ _ (by simp), e2]
    refine ⟨[[t]], [.slice (some ⟨w.heap.size + 1 + 1, 0, none⟩) 1 1], [.int .i64 op, .int .i64 n, .string ⟨s.toArray⟩, .slice ao (kidsOf t).length cap], S, [], ?_, ?_, ?_, ?_, fun g hg => by simp at hg, fun g hg => by simp at hg, fun l hl => by simp at hl; subst hl; simp, by simp [deps, allsB, treeB], by simp [cnts]; omega, fun x hx => by simp at hx; subst hx; exact hc, hb4⟩
    · exact ⟨rfl, .inr ⟨_, 1, _, rfl, Nat.zero_le _, by rw [e4, ho4], Nat.le_refl _, by unfold maxLen; omega, rfl, rfl⟩⟩
    · exact ⟨_, [], [.int .i64 op, .int .i64 n, .string ⟨s.toArray⟩, .slice ao (kidsOf t).length cap], [], rfl, rfl, ⟨rfl, .inr ⟨_, 1, _, rfl, Nat.zero_le _, by rw [e3', ho1], Nat.le_refl _, by unfold maxLen; omega, rfl, rfl⟩⟩, rfl, rfl⟩
    · simp only [List.flatten_cons, List.flatten_nil, List.append_nil]
      refine ⟨S, fun _ => False, _, [], by simp, node_frame t S _ (fun k hk => hb4.block k (hS k hk)) h, rfl, fun k hk => ⟨hk, id⟩, fun k hk => hk.elim⟩
    · exact ⟨#[], 0, by rw [e2', ho2], rfl, fun e he => by simp at he⟩
  have hmm := @run_makeMap Tryz.prog
  generalize treeB t = R at *
  subst ho1 ho2 ho4
  clear h hro hrg hrn hS hc hct
  go_enter Tryz.func79, Tryz.ntmps79
  go_wp2_with fail
  go_loopw [4, 5] (fun lv d wr => ∃ dd : Nat, d = .int .i64 ((dd : Int) + 1) ∧ dd ≤ 16 ∧ AtT w wr (w.heap.size + 1) R lv dd) (fun _ d _ => 18 - (intOf d).toNat)
  case atStart => exact ⟨0, rfl, Nat.zero_le _, hAt⟩
  case round =>
    obtain ⟨d, rfl, hdd, ls, vs, xs, S, G, h1, h2, h3, h4, h5, h6, h7, h8, h9, h10, hb⟩ := hrel
    obtain ⟨ao, cap, rfl⟩ := owns_slice h1
    by_cases hls : ls = []
    · subst hls
      have HD : Hid (R = true) := by show _ = _; rw [h8]; simp [deps, allsB]; omega
      clear h8 h10 h1 h2 h3 h5 h6 h7 h9 h4 hAt
      go_wp2_with fail
      go_ret
      exact ⟨by rw [HD.out]; rfl, hb⟩
    · have hpos : 0 < ls.length := List.length_pos_iff.2 hls
      have hfl : ls.flatten ≠ [] := by
        cases ls with
        | nil => exact absurd rfl hls
        | cons l ls => simp [h7 l (by simp)]
      have hdeps : deps ls.flatten = deps (below ls).flatten + 1 := by rw [below_flat, below1_deps ls.flatten, if_neg hfl]
      have hlen : ls.length ≤ 1048577 := by have := lists_len h7; have := cnts_len ls.flatten; omega
      have hposI : (0 : Int) < ls.length := by omega
      have hlI : (ls.length : Int) ≤ 1048577 := by omega
      have hdI : (d : Int) ≤ 16 := by omega
      by_cases hd16 : d = 16
      · have HD : Hid (R = false) := by show _ = _; rw [h8, hdeps]; simp; omega
        have hdI2 : (16 : Int) < (d : Int) + 1 := by omega
        clear h8 h10 h1 h2 h3 h5 h6 h7 h9 h4 hAt hdeps hfl hls hd16
        go_wp2_with fail
        go_ret
        exact ⟨by rw [HD.out]; rfl, hb⟩
      · have hdI2 : ¬ (16 : Int) < (d : Int) + 1 := by omega
        have hdI3 : (d : Int) + 1 ≤ 16 := by omega
        have hcnts : cnts ls.flatten = cnts (below ls).flatten + ls.flatten.length := by rw [below_flat]; exact below1_cnts _
        have hblen : (below ls).length ≤ ls.flatten.length := by rw [below_flat]; exact below1_len _
        have hbne : ∀ l ∈ below ls, l ≠ [] := by rw [below_flat]; exact below1_ne _
        have hnds := nodes_nodes h3
        have hal : allsB ls.flatten = ((ls.all fun l => l.all nodeB) && allsB (below ls).flatten) := by rw [below_flat, alls_below hnds, all_flat]
        have hkeep : ∀ w2, Below wr.heap.size wr w2 → w2.ownsRow 0 37 1 (.slice ao ls.length cap) ls.length vs ∧ RowsIs w2 ls vs xs ∧ NodesIs w2 ls.flatten (fun k => S k ∧ Cellsy wr k) xs ∧ MapIs w2 (w.heap.size + 1) G ∧ (∀ g ∈ G, Cellsy w2 g) ∧ (∀ g ∈ G, ¬ (S g ∧ Cellsy wr g)) := fun w2 hb2 => by
          have hcy : ∀ g, Cellsy wr g → w2.heap[g]? = wr.heap[g]? := fun g hg => by
            obtain ⟨cur, hc⟩ := hg
            exact hb2.block g (heap_lt hc)
          exact ⟨owns_same h1 fun g hg => hb2.block g (h1.lt g hg).2, rows_frame hcy h2, nodes_frame (fun k hk => hcy k hk.2) (nodesCells h3), h4.same (hb2.block _ h4.lt), fun g hg => by
            obtain ⟨cur, hc⟩ := h5 g hg
            exact ⟨cur, (hcy g ⟨cur, hc⟩).trans hc⟩, fun g hg hh => h6 g hg hh.1⟩
        have hall : ∀ (w2 : World) (k : Nat) (l : List Data), Below wr.heap.size wr w2 → ls[k]? = some l → ∃ ao' cap', w2.cell? ⟨(ao.getD ⟨0, 0, none⟩).block, k, none⟩ = some (.slice ao' l.length cap') ∧ ao = some ⟨(ao.getD ⟨0, 0, none⟩).block, 0, none⟩ ∧ Calls Tryz.prog 105 #[.slice ao' l.length cap', .func (.func 106) #[] #[]] w2 fun e w' => e = .returned (.bool (l.all nodeB)) ∧ Below wr.heap.size wr w' := by
          intro w2 k l hb2 hk
          obtain ⟨k1, k2, k3, -, -, -⟩ := hkeep w2 hb2
          have hkl : k < ls.length := (List.getElem?_eq_some_iff.1 hk).1
          obtain ⟨ao', cap', hv, hA⟩ := rows_at k2 k3 h10 hk
          obtain ⟨g, hg, -, hcl⟩ := row_cells k1 hkl
          have hmem : l ∈ ls := List.mem_of_getElem? hk
          have hsub : ∀ t ∈ l, t ∈ ls.flatten := fun t ht => List.mem_flatten.2 ⟨l, hmem, ht⟩
          have hll : l.length ≤ 1048577 := by
            have a1 : cnts l ≤ cnts ls.flatten := by
              obtain ⟨i1, i2, e⟩ := List.append_of_mem hmem
              rw [e, List.flatten_append, List.flatten_cons, cnts_append, cnts_append]
              omega
            have := cnts_len l
            omega
          subst hg
          refine ⟨ao', cap', hcl k _ hv, rfl, (iAreAll (fun t ht => iNodeTidy t (h10 t (hsub t ht))) enterNode hll w2 ao' cap' ((hSen.later hb).later hb2) hA).mono ?_⟩
          rintro e w' ⟨rfl, hb3⟩
          exact ⟨rfl, hb2.trans (hb3.mono hb2.size)⟩
        have hnext : ∀ w2 w3 v, (ls.all fun l => l.all nodeB) = true → Below wr.heap.size wr w2 → Got w2 w3 (w.heap.size + 1) G.length (fun _ => False) (below ls) v → AtT w w3 (w.heap.size + 1) R v (d + 1) := by
          intro w2 w3 v hAll hb2 hG
          obtain ⟨k1, k2, k3, k4, k5, k6⟩ := hkeep w2 hb2
          obtain ⟨vs', xb, Sb, G', g1, g2, g3, g4, g5, g6, g7, g8, g9⟩ := hG
          have hcy : ∀ g, Cellsy w2 g → w3.heap[g]? = w2.heap[g]? := fun g hg => by
            obtain ⟨cur, hc⟩ := hg
            exact g9.block g (heap_lt hc) (k4.not ⟨cur, hc⟩)
          have hbw : Below w.heap.size w w2 := hb.trans (hb2.mono hb.size)
          refine ⟨below ls, vs', xb, fun k => Sb k ∧ Cellsy w2 k, G', owns_base g1 (Nat.zero_le _), rows_frame hcy g2, nodes_frame (fun k hk => hcy k hk.2) (nodesCells g3), g4, fun g hg => ?_, fun g hg hh => (g7 g hg).2 hh.1, hbne, ?_, by omega, ?_, ?_⟩
          · obtain ⟨cur, hc⟩ := g6 g hg
            exact ⟨cur, (hcy g ⟨cur, hc⟩).trans hc⟩
          · rw [h8, hdeps, hal, hAll, Bool.true_and, show d + (deps (below ls).flatten + 1) = d + 1 + deps (below ls).flatten by omega]
          · rw [below_flat]; exact below1_siz h10
          · exact ⟨g9.os.trans hbw.os, g9.tape.trans hbw.tape, g9.output.trans hbw.output, Nat.le_trans hbw.size g9.size, fun k hk => (g9.block k (Nat.lt_of_lt_of_le hk hbw.size) (by omega)).trans (hbw.block k hk)⟩
        have hkb : ∀ w2, Below wr.heap.size wr w2 → Calls Tryz.prog 107 #[.slice ao ls.length cap, .map (some (w.heap.size + 1)), .int .i64 ((d : Int) + 1)] w2 fun e w' => ∃ v, e = .returned v ∧ Got w2 w' (w.heap.size + 1) G.length (fun _ => False) (below ls) v := fun w2 hb2 => by
          obtain ⟨k1, k2, k3, k4, k5, k6⟩ := hkeep w2 hb2
          have := iKidsBelow (d := d + 1) (by omega) (by omega) k1 k2 k3 k4 k5 k6 (by omega) h7
          rw [show ((d + 1 : Nat) : Int) = (d : Int) + 1 by omega] at this
          exact this
        have HF : Hid ((ls.all fun l => l.all nodeB) = false → R = false) := fun hf => by rw [h8, hal, hf]; simp
        have HB : Hid (Below w.heap.size w wr) := hb
        clear h8 h10 h1 h2 h3 h5 h6 h7 h9 h4 hAt hdeps hfl hls hd16 hcnts hblen hbne hnds hal hkeep hlen hSen hpos hb
        go_wp2_with fail
        go_loopw [21] (fun i w2 => ∃ k : Nat, k ≤ ls.length ∧ i = .int .i64 k ∧ ((ls.take k).all fun l => l.all nodeB) = true ∧ Below wr.heap.size wr w2) (fun i _ => ls.length - (intOf i).toNat)
        case atStart => exact ⟨0, Nat.zero_le _, rfl, rfl, Below.refl _ _⟩
        case round =>
          obtain ⟨k, hkn, rfl, hok, hb2⟩ := hrel
          by_cases hkl : k < ls.length
          · obtain ⟨l, hl⟩ : ∃ l, l = ls[k] := ⟨_, rfl⟩
            have hki : ls[k]? = some l := by rw [hl]; exact List.getElem?_eq_getElem hkl
            obtain ⟨ao', cap', hcl, hao, call⟩ := hall _ k l hb2 hki
            generalize (ao.getD ⟨0, 0, none⟩).block = g at *
            subst hao
            have bk : (k : Int) < ls.length := by omega
            rcases hB : l.all nodeB with _ | _
            · rw [hB] at call
              have HR : Hid (R = false) := HF.out (by
                rcases hx : (ls.all fun l => l.all nodeB) with _ | _
                · rfl
                · have := List.all_eq_true.1 hx l (List.mem_of_getElem? hki)
                  rw [hB] at this
                  cases this)
              clear hki hl hall hnext hkb hok HF
              go_wp2_with (go_at_call 105; refine call.mono ?_; rintro e w3 ⟨rfl, hb3⟩)
              go_ret
              exact ⟨by rw [HR.out]; rfl, HB.out.trans (hb3.mono HB.out.size)⟩
            · rw [hB] at call
              have HO : Hid (((ls.take (k + 1)).all fun l => l.all nodeB) = true) := by
                show _ = _
                rw [List.take_add_one, hki, List.all_append, hok]
                simp only [Option.toList_some, List.all_cons, List.all_nil, Bool.and_true, Bool.true_and]
                exact hB
              clear hki hl hall hnext hkb hok HF hB
              go_wp2_with (go_at_call 105; refine call.mono ?_; rintro e w3 ⟨rfl, hb3⟩)
              go_roundw
              case rel => exact ⟨k + 1, hkl, by go_num, HO.out, hb3⟩
              case measure => simp [intOf]; omega
          · obtain rfl : k = ls.length := by omega
            rw [List.take_length] at hok
            have HO : Hid ((ls.all fun l => l.all nodeB) = true) := hok
            have call := hkb _ hb2
            clear hok hall hkb HF
            go_wp2_with (go_at_call 107; refine call.mono ?_; rintro e w3 ⟨v, rfl, hG⟩)
            exact ⟨⟨d + 1, by go_num, by omega, hnext _ _ _ HO.out hb2 hG⟩, by simp [intOf]; omega⟩

end Ty
end Go.Proofs.YtjdohfdkkppnpaaGreatDoor

