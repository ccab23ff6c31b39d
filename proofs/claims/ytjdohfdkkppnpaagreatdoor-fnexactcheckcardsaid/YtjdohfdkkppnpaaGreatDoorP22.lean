/-
  Names by what they stand for: sets of texts, and what a node brings to them.
  The sets of names as they are made; what has come to them.
-/
import Derived.Test.YtjdohfdkkppnpaaGreatDoorP20
import Derived.Test.YtjdohfdkkppnpaaGreatDoorP06
import Derived.Maps.OwnSet
import Derived.Test.YtjdohfdkkppnpaaGreatDoorP21
namespace Go.Proofs.YtjdohfdkkppnpaaGreatDoor
open Go.RowKit
namespace Ck
open Nd Ty

/-- The set in block b has just the texts of ns. -/
def SetIs (w : World) (b : Nat) (ns : List (List UInt8)) : Prop := w.ownsMap (H := Unit) Tryz.prog 9 unitElem b ns.length (Maps.setOf (.agg []) (ns.map Lit.string))

theorem SetIs.lt {w : World} {b : Nat} {ns : List (List UInt8)} (h : SetIs w b ns) : b < w.heap.size := World.ownsMap.lt h
theorem SetIs.same {w w' : World} {b : Nat} {ns : List (List UInt8)} (h : SetIs w b ns) (hb : w'.heap[b]? = w.heap[b]?) : SetIs w' b ns := by
  obtain ⟨es, c, h1, h2⟩ := h
  exact ⟨es, c, hb.trans h1, h2⟩
theorem SetIs.not {w : World} {b : Nat} {ns : List (List UInt8)} (h : SetIs w b ns) : ¬ Cellsy w b := by
  obtain ⟨es, c, h1, _⟩ := h
  rintro ⟨cur, h2⟩
  rw [h1] at h2
  cases h2
theorem SetIs.made (w : World) : SetIs (w.alloc (.map #[] 0)) w.heap.size [] := World.ownsMap_made w _ _ _


theorem key_of {s : List UInt8} (hs : s.length ≤ 1048576) : keyOf Tryz.prog 9 (.string ⟨s.toArray⟩) = some (.string s) := by
  have := WideMaps.keyOf_string_mk (P := Tryz.prog) (k := 9) Tryz.underlying9 (s := ⟨s.toArray⟩) (by show s.toArray.size ≤ maxLen; unfold maxLen; simp; omega)
  simpa using this

theorem set_snoc (ns : List (List UInt8)) (s : List UInt8) : (Maps.setOf (H := Unit) (.agg []) (ns.map Lit.string)).put (.string s) (.agg []) = Maps.setOf (.agg []) ((ns ++ [s]).map Lit.string) := by rw [List.map_append, List.map_cons, List.map_nil, Maps.setOf_snoc]

set_option maxHeartbeats 1000000 in
set_option maxRecDepth 100000 in
theorem iTake {w : World} {bv bc : Nat} {vn cn : List (List UInt8)} {op n : Int} {s : List UInt8} {ao : Option Addr} {L cap : Nat} (hv : SetIs w bv vn) (hc : SetIs w bc cn) (hne : bv ≠ bc) (hs : s.length ≤ 1048576) (hl : vn.length ≤ 2500000) (hl2 : cn.length ≤ 2500000) :
    Calls Tryz.prog 54 #[.agg #[.map (some bv), .map (some bc)], .agg #[.int .i64 op, .int .i64 n, .string ⟨s.toArray⟩, .slice ao L cap]] w fun e w' => (∃ v, e = .returned v) ∧ SetIs w' bv (vn ++ varsT op s) ∧ SetIs w' bc (cn ++ cellsT op s) ∧ Fr (fun k => k = bv ∨ k = bc) w w' := by
  obtain ⟨o1, ho1⟩ : ∃ o1, o1 = Obj.cells #[.map (some bv), .map (some bc)] 81 := ⟨_, rfl⟩
  obtain ⟨o2, ho2⟩ : ∃ o2, o2 = Obj.cells #[.int .i64 op, .int .i64 n, .string ⟨s.toArray⟩, .slice ao L cap] 39 := ⟨_, rfl⟩
  have hb : Below w.heap.size w ((w.alloc o1).alloc o2) := ((Below.refl _ w).alloc (Nat.le_refl _) _).alloc (by simp) _
  have hv2 : SetIs ((w.alloc o1).alloc o2) bv vn := hv.same (hb.block _ hv.lt)
  have hc2 : SetIs ((w.alloc o1).alloc o2) bc cn := hc.same (hb.block _ hc.lt)
  have hvl := hv2.lt
  have hcl := hc2.lt
  have hkey := key_of hs
  have hvn := set_snoc vn s
  have hcn := set_snoc cn s
  have hF0 : Fr (fun k => k = bv ∨ k = bc) w ((w.alloc o1).alloc o2) := fr_below hb
  subst ho1 ho2
  by_cases h4 : op = 4
  · subst h4
    go_enter Tryz.func54, Tryz.ntmps54
    go_wp2_with (at_mapUpdate; refine wpList_mapUpdate_own _ rfl _ _ _ 79 rfl 9 116 (Maps.string_keyed Tryz.underlying9) Tryz.underlying79 unitElem bv vn.length _ rfl hv2 (by unfold maxLen; omega) _ _ _ rfl rfl hkey _ [] unitElem_mk ?_; intro w1 hown1 hgrow1; rw [hvn] at hown1)
    go_end0
    refine ⟨⟨_, rfl⟩, ?_, ?_, hF0.grown hgrow1 (fun k e => .inr (.inl (by cases e; rfl)))⟩
    · unfold SetIs varsT; rw [if_pos rfl, List.length_append]; exact hown1
    · unfold cellsT; rw [if_neg (by decide), List.append_nil]; exact hc2.same (hgrow1.block bc hcl (fun e => hne (by cases e; rfl)))
  · by_cases h5 : op = 5 ∨ op = 34
    · have e1 : varsT op s = [] := by unfold varsT; rw [if_neg h4]
      have e2 : cellsT op s = [s] := by unfold cellsT; rw [if_pos h5]
      have HE : Hid (varsT op s = [] ∧ cellsT op s = [s]) := ⟨e1, e2⟩
      clear e1 e2
      rcases h5 with rfl | rfl
      all_goals
        go_enter Tryz.func54, Tryz.ntmps54
        go_wp2_with (at_mapUpdate; refine wpList_mapUpdate_own _ rfl _ _ _ 79 rfl 9 116 (Maps.string_keyed Tryz.underlying9) Tryz.underlying79 unitElem bc cn.length _ rfl hc2 (by unfold maxLen; omega) _ _ _ rfl rfl hkey _ [] unitElem_mk ?_; intro w1 hown1 hgrow1; rw [hcn] at hown1)
        go_end0
        refine ⟨⟨_, rfl⟩, ?_, ?_, hF0.grown hgrow1 (fun k e => .inr (.inr (by cases e; rfl)))⟩
        · rw [HE.out.1, List.append_nil]; exact hv2.same (hgrow1.block bv hvl (fun e => hne (by cases e; rfl)))
        · rw [HE.out.2]; unfold SetIs; rw [List.length_append]; exact hown1
    · have e1 : varsT op s = [] := by unfold varsT; rw [if_neg h4]
      have e2 : cellsT op s = [] := by unfold cellsT; rw [if_neg h5]
      have HE : Hid (varsT op s = [] ∧ cellsT op s = []) := ⟨e1, e2⟩
      simp only [not_or] at h5
      obtain ⟨h5, h6⟩ := h5
      clear e1 e2
      go_enter Tryz.func54, Tryz.ntmps54
      go_wp2_with fail
      all_goals (try (go_end0; exact ⟨⟨_, rfl⟩, by rw [HE.out.1, List.append_nil]; exact hv2, by rw [HE.out.2, List.append_nil]; exact hc2, hF0⟩))

end Ck
end Go.Proofs.YtjdohfdkkppnpaaGreatDoor

namespace Go.Proofs.YtjdohfdkkppnpaaGreatDoor
open Go.RowKit
namespace Ck
open Nd Ty
attribute [local go_sem] Oper.semAt_some

theorem iNewKinds (w : World) : Calls Tryz.prog 52 #[] w fun e w' => e = .returned (.agg #[.map (some (w.heap.size + 1)), .map (some (w.heap.size + 2))]) ∧ SetIs w' (w.heap.size + 1) [] ∧ SetIs w' (w.heap.size + 2) [] ∧ w'.heap.size = w.heap.size + 3 ∧ Below w.heap.size w w' := by
  obtain ⟨o1, ho1⟩ : ∃ o1, o1 = Obj.cells #[.map (some (w.heap.size + 1)), .map (some (w.heap.size + 1 + 1))] 81 := ⟨_, rfl⟩
  have hmm := @run_makeMap Tryz.prog
  have hW : Below w.heap.size w (((w.alloc o1).alloc (.map #[] 0)).alloc (.map #[] 0)) := (((Below.refl _ w).alloc (Nat.le_refl _) _).alloc (by simp) _).alloc (by simp; omega) _
  have s1 : SetIs (((w.alloc o1).alloc (.map #[] 0)).alloc (.map #[] 0)) (w.heap.size + 1) [] := by
    have := SetIs.made (w.alloc o1)
    rw [World.size_alloc] at this
    exact this.same (Below.heap_alloc _ _ _ this.lt)
  have s2 : SetIs (((w.alloc o1).alloc (.map #[] 0)).alloc (.map #[] 0)) (w.heap.size + 2) [] := by
    have := SetIs.made ((w.alloc o1).alloc (.map #[] 0))
    rwa [World.size_alloc, World.size_alloc] at this
  have hh : (((w.alloc o1).alloc (.map #[] 0)).alloc (.map #[] 0)).heap[w.heap.size]? = some o1 := by
    rw [Below.heap_alloc _ _ _ (by simp; omega), Below.heap_alloc _ _ _ (by simp)]
    exact heap_new w o1
  have c0 : (((w.alloc o1).alloc (.map #[] 0)).alloc (.map #[] 0)).cell? ⟨w.heap.size, 0, none⟩ = some (.map (some (w.heap.size + 1))) := by unfold World.cell?; simp only [hh]; rw [ho1]; rfl
  have c1 : (((w.alloc o1).alloc (.map #[] 0)).alloc (.map #[] 0)).cell? ⟨w.heap.size, 1, none⟩ = some (.map (some (w.heap.size + 1 + 1))) := by unfold World.cell?; simp only [hh]; rw [ho1]; rfl
  subst ho1
  clear hh
  go_enter Tryz.func52, Tryz.ntmps52
  go_wp2_with fail
  refine bodyPost_ret (v := .agg #[.map (some (w.heap.size + 1)), .map (some (w.heap.size + 1 + 1))]) (by simp [results, Tryz.results52, go_sem, c0, c1]) rfl ⟨rfl, s1, s2, by simp, hW⟩

theorem iEachNode (w : World) (ao : Option Addr) (n cap : Nat) : Calls Tryz.prog 93 #[.slice ao n cap] w fun e w' => e = .returned (.func (.func 115) #[] #[.pointer (some ⟨w.heap.size, 0, none⟩)]) ∧ w' = w.alloc (.cells #[.slice ao n cap] 25) := by
  go_enter Tryz.func93, Tryz.ntmps93
  go_wp2_with fail
  go_ret
  exact ⟨rfl, rfl⟩

/-- What Names has when nodes have come. -/
def Has (W0 : World) (bv bc : Nat) {rs : List Ru} (pre : List (Nde W0 rs)) (W : World) : Prop :=
  SetIs W bv (varsIn (pre.map Nde.t)) ∧ SetIs W bc (cellsIn (pre.map Nde.t)) ∧ Fr (fun k => k = bv ∨ k = bc) W0 W
theorem has_own {W0 : World} {bv bc : Nat} {rs : List Ru} (hv : bv < W0.heap.size) (hc : bc < W0.heap.size) : OwnFrom W0.heap.size (Has W0 bv bc (rs := rs)) := by
  intro s A B row ⟨h1, h2, h3⟩ hg hr
  have h4 := h3.size
  exact ⟨h1.same (hg.block bv (by omega) fun e => by have := (hr bv e.symm).1; omega), h2.same (hg.block bc (by omega) fun e => by have := (hr bc e.symm).1; omega), h3.grown hg fun k e => .inl (hr k e).1⟩
theorem vars_snoc {W0 : World} {rs : List Ru} (pre : List (Nde W0 rs)) (x : Nde W0 rs) : varsIn ((pre ++ [x]).map Nde.t) = varsIn (pre.map Nde.t) ++ varsT (opOf x.t) (txtOf x.t) := by rw [List.map_append, varsIn_append, List.map_cons, List.map_nil, varsIn_one]
theorem cells_snoc {W0 : World} {rs : List Ru} (pre : List (Nde W0 rs)) (x : Nde W0 rs) : cellsIn ((pre ++ [x]).map Nde.t) = cellsIn (pre.map Nde.t) ++ cellsT (opOf x.t) (txtOf x.t) := by rw [List.map_append, cellsIn_append, List.map_cons, List.map_nil, cellsIn_one]

theorem visit_len : ∀ (k : Nat) (rs : List Ru), (visit k rs).length ≤ 2 * sizR rs
  | k, [] => by simp [visit]
  | k, r :: rs => by
    have := visit_len (k + 1) rs
    have h1 := bfs_len (deps [r.2.1, r.2.2]) [[r.2.1, r.2.2]]
    have := cnt_siz r.2.1
    have := cnt_siz r.2.2
    simp only [visit, order, List.length_append, List.length_map, sizR, List.flatten_cons, List.flatten_nil, List.append_nil, cnts] at h1 ⊢
    omega

end Ck
end Go.Proofs.YtjdohfdkkppnpaaGreatDoor

